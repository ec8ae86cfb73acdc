/- The walks of CutFirst, CutBehind. -/
import Derived.Test.YtimllddlcjnikaaDoorCutK
import Derived.Test.YtimllddlcjnikaaDoorZConf
import Derived.Deep.RegionHeld
import Derived.Deep.MidRow
namespace Go.Proofs.YtimllddlcjnikaaDoor
open Go.RowKit

theorem range_of_row {w : World} {b : Nat} {C : Array Value} {T : TypeId} {f : Nat × Nat} (g : w.heap[b]? = some (.cells C T f)) : w.rangeAt b 0 C.toList := fun j v hv => by
  rw [cell_of_row _ _ _ _ _ _ g, Nat.zero_add, ← Array.getElem?_toList]; exact hv

set_option maxRecDepth 100000 in
set_option maxHeartbeats 4000000 in
theorem walk_cutFirst (s : ByteArray) (_hs : s.size ≤ maxLen) (C : Array Value) (a b c d : Int) (hC : IsConf C a b c d) (w : World) (hT : TabAt w) :
    Calls Tryd.prog 3 #[.string s, .agg C] w (LawPost w) := by
  have hfs := fewB_size s
  have FE := few_any s
  obtain ⟨t, ht⟩ : ∃ t, t = fewB s := ⟨_, rfl⟩
  rw [← ht] at hfs FE
  have MA := may_any C a b c d hC
  have RM := rmay_any C a b c d hC
  have CU := cut_any t (by omega) C a b c d hC
  have RC := rcut_any t (by omega) C a b c d hC
  obtain ⟨m, hm⟩ : ∃ m, m = decide (MayC a b c d) := ⟨_, rfl⟩
  obtain ⟨n, hn⟩ : ∃ n, n = cutI a b c d t.data.toList := ⟨_, rfl⟩
  rw [← hm] at MA RM
  rw [← hn] at CU RC
  have HLT : Hid ((Tryd.prog.info? 23).map (·.size) = some C.toList.length) := by rw [Array.length_toList, hC.size]; exact info_conf
  have gC := heap_alloc_last w (.cells C 23)
  have K0 := box_below w (.cells C 23)
  clear hm hn ht hC _hs
  go_enter Tryd.func3, Tryd.ntmps3
  go_wp2_with fail
  refine (FE _).mono ?_
  rintro e w' ⟨rfl, rfl⟩
  go_wp2_with fail
  obtain ⟨bx, hbx⟩ : ∃ bx, bx = w.heap.size := ⟨_, rfl⟩
  obtain ⟨W, hW⟩ : ∃ W, W = w.alloc (.cells C 23) := ⟨_, rfl⟩
  rw [← hW, ← hbx] at gC
  rw [← hW] at K0
  have hTW : TabAt W.drew := hT.later K0.drew
  have R1 : W.drew.rangeAt bx 0 C.toList := range_of_row gC
  have HR := Lib.hid (fun (w' : World) (h : Below W.drew.heap.size W.drew w') => range_of_row ((h.block _ (Array.getElem?_eq_some_iff.1 gC).1).trans gC))
  have K1 := Below.refl W.drew.heap.size W.drew
  rw [← hW, ← hbx]
  clear gC hW hbx
  refine wp_region_held_drew (S := fun w' => w'.rangeAt bx 0 C.toList) (by kernel_rfl) R1 (fun hHeld => ?_)
  refine wpAnyH_take (i := 0) (v := .agg C) rfl (by kernel_rfl) (by kernel_rfl) (by kernel_rfl) (fun _ _ _ h => h) (yieldsIf_load_mid (by rfl) _ _ rfl bx 0 rfl C.toList _ (fun _ h => h) Tryd.underlying23 rfl HLT.out) (by assumption) ?_
  refine wpAnyH_take (i := 2) (v := .agg C) rfl (by kernel_rfl) (by kernel_rfl) (by kernel_rfl) (fun _ _ _ h => h) (yieldsIf_load_mid (by rfl) _ _ rfl bx 0 rfl C.toList _ (fun _ h => h) Tryd.underlying23 rfl HLT.out) (by assumption) ?_
  refine wpAnyH_ready (rs := [1]) (by kernel_rfl) (by simp) (AllReadyH.cons rfl (fun K hK => ?_) AllReadyH.nil)
  go_simp
  refine (MA _).mono ?_
  rintro e w2 ⟨rfl, hb2⟩
  have K2 := Below.then' K1 hb2 K1.size
  have R2 := HR.out _ K2
  clear hb2 K1
  refine hK.out _ _ R2 (fun _ => ?_)
  clear hK K
  refine wpAnyH_ready (rs := [3]) (by kernel_rfl) (by simp) (AllReadyH.cons rfl (fun K hK => ?_) AllReadyH.nil)
  go_simp
  refine (RM _).mono ?_
  rintro e w3 ⟨rfl, hb3⟩
  have K3 := Below.then' K2 hb3 K2.size
  have R3 := HR.out _ K3
  clear hb3 K2
  refine hK.out _ _ R3 (fun _ => ?_)
  clear hK K
  refine wpAnyH_take (i := 4) (v := ?_) rfl (by kernel_rfl) (by kernel_rfl) (by kernel_rfl) (fun _ _ _ h => h) (Or.inl ⟨by rfl, ?_⟩) (by assumption) ?_
  case refine_2 => intro w hSw; go_simp; try with_reducible rfl
  refine wpAnyH_take (i := 5) (v := ?_) rfl (by kernel_rfl) (by kernel_rfl) (by kernel_rfl) (fun _ _ _ h => h) (Or.inl ⟨by rfl, ?_⟩) (by assumption) ?_
  case refine_2 => intro w hSw; go_simp; try with_reducible rfl
  refine wpAnyH_take (i := 6) (v := ?_) rfl (by kernel_rfl) (by kernel_rfl) (by kernel_rfl) (fun _ _ _ h => h) (Or.inl ⟨by rfl, ?_⟩) (by assumption) ?_
  case refine_2 => intro w hSw; go_simp; try with_reducible rfl
  refine wpAnyH_take (i := 7) (v := .agg C) rfl (by kernel_rfl) (by kernel_rfl) (by kernel_rfl) (fun _ _ _ h => h) (yieldsIf_load_mid (by rfl) _ _ rfl bx 0 rfl C.toList _ (fun _ h => h) Tryd.underlying23 rfl HLT.out) (by assumption) ?_
  refine wpAnyH_take (i := 9) (v := ?_) rfl (by kernel_rfl) (by kernel_rfl) (by kernel_rfl) (fun _ _ _ h => h) (Or.inl ⟨by rfl, ?_⟩) (by assumption) ?_
  case refine_2 => intro w hSw; go_simp; try with_reducible rfl
  refine wpAnyH_take (i := 10) (v := .agg C) rfl (by kernel_rfl) (by kernel_rfl) (by kernel_rfl) (fun _ _ _ h => h) (yieldsIf_load_mid (by rfl) _ _ rfl bx 0 rfl C.toList _ (fun _ h => h) Tryd.underlying23 rfl HLT.out) (by assumption) ?_
  refine wpAnyH_ready (rs := [8]) (by kernel_rfl) (by simp) (AllReadyH.cons rfl (fun K hK => ?_) AllReadyH.nil)
  go_simp
  refine (CU _ (hTW.later K3)).mono ?_
  rintro e w4 ⟨rfl, hb4⟩
  have K4 := Below.then' K3 hb4 K3.size
  have R4 := HR.out _ K4
  clear hb4 K3
  refine hK.out _ _ R4 (fun _ => ?_)
  clear hK K
  refine wpAnyH_ready (rs := [11]) (by kernel_rfl) (by simp) (AllReadyH.cons rfl (fun K hK => ?_) AllReadyH.nil)
  go_simp
  refine (RC _).mono ?_
  rintro e w5 ⟨rfl, hb5⟩
  have K5 := Below.then' K4 hb5 K4.size
  have R5 := HR.out _ K5
  clear hb5 K4
  refine hK.out _ _ R5 (fun _ => ?_)
  clear hK K
  refine wpAnyH_take (i := 12) (v := ?_) rfl (by kernel_rfl) (by kernel_rfl) (by kernel_rfl) (fun _ _ _ h => h) (Or.inl ⟨by rfl, ?_⟩) (by assumption) ?_
  case refine_2 => intro w hSw; go_simp; try with_reducible rfl
  refine wpAnyH_take (i := 13) (v := ?_) rfl (by kernel_rfl) (by kernel_rfl) (by kernel_rfl) (fun _ _ _ h => h) (Or.inl ⟨by rfl, ?_⟩) (by assumption) ?_
  case refine_2 => intro w hSw; go_simp; try with_reducible rfl
  refine wpAnyH_take (i := 14) (v := ?_) rfl (by kernel_rfl) (by kernel_rfl) (by kernel_rfl) (fun _ _ _ h => h) (Or.inl ⟨by rfl, ?_⟩) (by assumption) ?_
  case refine_2 => intro w hSw; go_simp; try with_reducible rfl
  refine wpAnyH_ready (rs := [15]) (by kernel_rfl) (by simp) (AllReadyH.cons rfl (fun K hK => ?_) AllReadyH.nil)
  go_simp
  refine (awake_any _ (hTW.later K5)).mono ?_
  rintro e w6 ⟨rfl, hb6⟩
  have K6 := Below.then' K5 hb6 K5.size
  have R6 := HR.out _ K6
  clear hb6 K5
  refine hK.out _ _ R6 (fun _ => ?_)
  clear hK K
  refine wpAnyH_take (i := 16) (v := ?_) rfl (by kernel_rfl) (by kernel_rfl) (by kernel_rfl) (fun _ _ _ h => h) (Or.inl ⟨by rfl, ?_⟩) (by assumption) ?_
  case refine_2 => intro w hSw; go_simp; try with_reducible rfl
  refine wpAnyH_take (i := 17) (v := ?_) rfl (by kernel_rfl) (by kernel_rfl) (by kernel_rfl) (fun _ _ _ h => h) (Or.inl ⟨by rfl, ?_⟩) (by assumption) ?_
  case refine_2 => intro w hSw; go_simp; try with_reducible rfl
  refine wpAnyH_done (by kernel_rfl) ?_ _
  go_wp2
  go_ret
  exact ⟨rfl, Below.then' K0.drew K6 K0.drew.size⟩

end Go.Proofs.YtimllddlcjnikaaDoor
