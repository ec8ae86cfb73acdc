/- The walk of CutBehind. -/
import Derived.Test.YtimllddlcjnikaaDoorCutF
import Derived.BigFrame
namespace Go.Proofs.YtimllddlcjnikaaDoor
open Go.RowKit

theorem StrAt.tail {x : ByteArray} {ss : List ByteArray} {p : Option Addr} {n cp : Nat} {w : World} (h : StrAt (x :: ss) (.slice p n cp) w) :
    ∃ b off, p = some ⟨b, off, none⟩ ∧ n = ss.length + 1 ∧ StrAt ss (.slice (some ⟨b, off + 1, none⟩) ss.length (cp - 1)) w := by
  obtain ⟨q, c, he, hc⟩ := h
  injection he with e1 e2 e3
  subst e1 e2 e3
  rcases hc with h | ⟨b, off, rfl, hc⟩
  · cases h
  · refine ⟨b, off, rfl, rfl, _, _, rfl, ?_⟩
    right
    refine ⟨b, off + 1, rfl, fun i hi => ?_⟩
    have := hc (i + 1) (by simp; omega)
    rw [show off + 1 + i = off + (i + 1) by omega]
    simpa using this

theorem infoStrS : (Tryd.prog.info? 9).map (·.size) = some 1 := by kernel_rfl

/-- A slice from its second element on. -/
theorem run_slice_one {P : Program} (w : World) (t e : TypeId) (b o N c : Nat) (p2 : Option Addr) (ht : P.underlying t = some (.slice e)) (hs : (P.info? e).map (·.size) = some 1) (h1 : 1 ≤ N) (h2 : N ≤ c)
    (hp : (if c = 1 then some (⟨b, o, none⟩ : Addr) else some ⟨b, o + 1, none⟩) = p2) :
    (Instr.sliceAt t (.slice (some ⟨b, o, none⟩) N c) (some (.int .i64 1)) none none).run P w = .ok (.slice p2 (N - 1) (c - 1)) w := by
  subst hp
  cases hq : P.info? e with
  | none => simp [hq] at hs
  | some ti =>
    have h3 : ti.size = 1 := by simpa [hq] using hs
    have hadd : (⟨b, o, none⟩ : Addr).add 1 = ⟨b, o + 1, none⟩ := by unfold Addr.add; split <;> simp_all
    have h4 : (1 : Int) ≤ N := by omega
    have h5 : ¬ ((c : Int) < N) := by omega
    simp [Instr.sliceAt, Instr.slice, run_underlying ht, Instr.sliceBounds, Instr.sliceBound, asIntOf, sizeOf, typeInfo, hq, h3, hadd, h4, h5, h1, h2]
    try (split <;> simp_all)

/-- The load of a whole row behind a guard that holds. -/
theorem wpList_load_rowG {P : Program} {ops : Array Oper} {rest : List Oper} {o : Oper} {a : Act} {w : World} {Q : Exit → Act → World → Prop} (hw : Region.wanted o (yielded ops a.tmps) = true) (ty : TypeId) (x : Operand) (ho : o.op = .load ty x)
    (g : Nat) (hx : a.eval x = .pointer (some ⟨g, 0, none⟩)) (t : TypeId) (cs : Array Value) (fr : Nat × Nat) (d : TypeDesc) (hg : w.heap[g]? = some (.cells cs t fr))
    (hu : P.underlying ty = some d) (hd : (match d with | .struct _ | .array _ _ => true | _ => false) = true) (hi : (P.info? ty).map (·.size) = some cs.size)
    (h : wpList P ops Q rest (a.put o.dst (.agg cs)) w) : wpList P ops Q (o :: rest) a w :=
  BigFrame.wpList_want hw fun _ hK => wp_load_row ty x ho g hx t cs fr d hg hu hd hi (hK _ _ h)

set_option maxRecDepth 100000 in
set_option maxHeartbeats 8000000 in
theorem walk_cutBehind (s0 : ByteArray) (_hs : s0.size ≤ maxLen) (t0 : ByteArray) (_ht : t0.size ≤ maxLen) (C : Array Value) (a b c d : Int) (hC : IsConf C a b c d) (w : World) (hT : TabAt w) :
    Calls Tryd.prog 6 #[.string s0, .string t0, .agg C] w (LawPost w) := by
  have hss := fewB_size s0
  have hts := fewB_size t0
  have FS := few_any s0
  have FT := few_any t0
  obtain ⟨s, hs⟩ : ∃ s, s = fewB s0 := ⟨_, rfl⟩
  obtain ⟨t, ht⟩ : ∃ t, t = fewB t0 := ⟨_, rfl⟩
  rw [← hs] at hss FS
  rw [← ht] at hts FT
  have hstl : (s ++ t).data.toList = s.data.toList ++ t.data.toList := by simp [ByteArray.data_append]
  have hsts : (s ++ t).size = s.size + t.size := ByteArray.size_append
  have CU := cut_any s (by omega) C a b c d hC
  have CU2 := cut_any (s ++ t) (by omega) C a b c d hC
  have RC := rcut_any s (by omega) C a b c d hC
  have SP := splitc_cap s (by omega) C a b c d hC
  have HLT : Hid ((Tryd.prog.info? 23).map (·.size) = some C.toList.length) := by rw [Array.length_toList, hC.size]; exact info_conf
  have HLI : Hid ((Tryd.prog.info? 23).map (·.size) = some C.size) := by rw [hC.size]; exact info_conf
  have gC := heap_alloc_last w (.cells C 23)
  have K0 := box_below w (.cells C 23)
  have HC := Lib.hid hC
  clear hs ht hC _hs _ht
  by_cases hn0 : cutI a b c d s.data.toList = 0
  · rw [hn0] at CU RC
    clear hn0 CU2 hstl hsts SP
    go_enter Tryd.func6, Tryd.ntmps6
    go_wp2_with fail
    refine (FS _).mono ?_
    rintro e w' ⟨rfl, rfl⟩
    go_wp2_with fail
    refine (FT _).mono ?_
    rintro e w' ⟨rfl, rfl⟩
    go_wp2_with (with_reducible refine wpList_load_row rfl _ _ rfl w.heap.size rfl 23 C (0, 0) _ gC Tryd.underlying23 rfl HLI.out ?_)
    refine (CU _ (hT.later K0)).mono ?_
    rintro e w1 ⟨rfl, hb1⟩
    have g1 := (hb1.block _ (Array.getElem?_eq_some_iff.1 gC).1).trans gC
    have K1 := Below.then' K0 hb1 K0.size
    clear hb1 gC K0
    go_wp2_with (with_reducible refine wpList_load_row rfl _ _ rfl w.heap.size rfl 23 C (0, 0) _ g1 Tryd.underlying23 rfl HLI.out ?_)
    refine (RC _).mono ?_
    rintro e w2 ⟨rfl, hb2⟩
    have K2 := Below.then' K1 hb2 K1.size
    clear hb2 K1
    go_wp2_with fail
    refine (awake_any _ (hT.later K2)).mono ?_
    rintro e w3 ⟨rfl, hb3⟩
    go_wp2
    go_ret
    exact ⟨rfl, Below.then' K2 hb3 K2.size⟩
  · -- a chunk ends: what is behind it does not bear on it
    have hM : MayC a b c d := by
      by_cases h : MayC a b c d
      · exact h
      · exact absurd (by unfold cutI; rw [if_neg h]) hn0
    have hle := cutI_le a b c d s.data.toList
    rw [data_len] at hle
    have hst : cutI a b c d (s ++ t).data.toList = cutI a b c d s.data.toList := by
      rw [hstl]
      unfold cutI at hn0 ⊢
      rw [if_pos hM] at hn0 ⊢
      rw [if_pos hM]
      exact cutN_stay _ _ _ _ (by have := hM.1; omega) (by have := hM.2.1; have := hM.1; omega) _ _ (by omega)
    rw [hst] at CU2
    have hall : ∀ l, allL a b c d l = spl (cutI a b c d) l := fun l => by unfold allL; rw [if_pos hM]
    have hsp := spl_cut (f := cutI a b c d) (l := s.data.toList) (by omega) (by rw [data_len]; exact hle)
    rw [← hall, ← hall] at hsp
    obtain ⟨n, hn⟩ : ∃ n, n = cutI a b c d s.data.toList := ⟨_, rfl⟩
    rw [← hn] at CU CU2 hsp hn0 hle
    have hdr := drop_list s n hle
    have SP2 := splitc_any (s.extract n s.size) (by omega) C a b c d HC.out
    rw [hdr.1] at SP2
    rw [hsp] at SP
    obtain ⟨L, hL⟩ : ∃ L, L = strs (allL a b c d (s.data.toList.drop n)) := ⟨_, rfl⟩
    have hLl : L.length ≤ 1000000 := by
      have := allL_len a b c d (s.data.toList.drop n)
      rw [hL, strs_len]; rw [List.length_drop, data_len] at this; omega
    obtain ⟨x, hx⟩ : ∃ x, x = str (s.data.toList.take n) := ⟨_, rfl⟩
    have hcons : strs (s.data.toList.take n :: allL a b c d (s.data.toList.drop n)) = x :: L := by rw [hx, hL]; rfl
    rw [hcons] at SP
    rw [← hL] at SP2
    obtain ⟨s2, hs2⟩ : ∃ s2, s.extract n s.size = s2 := ⟨_, rfl⟩
    rw [hs2] at SP2
    obtain ⟨st, hst2⟩ : ∃ st, s ++ t = st := ⟨_, rfl⟩
    rw [hst2] at CU2
    have SA := fun v u w' h h' => same_any L hLl v u w' h h'
    have hnb : ((n : Int) == 0) = false := by simpa using hn0
    have hn1 : decide ((n : Int) < 1) = false := decide_eq_false (by omega)
    have hn2 : decide (s.size < n) = false := decide_eq_false (by omega)
    have hnn : ((n : Int)).toNat = n := by omega
    have hni : (n : Int) ≤ s.size := by omega
    have HL := Lib.hid hLl
    clear hM hst hall hsp hn hdr hL hx hcons hstl hsts RC hLl hn0
    go_enter Tryd.func6, Tryd.ntmps6
    go_wp2_with fail
    refine (FS _).mono ?_
    rintro e w' ⟨rfl, rfl⟩
    go_wp2_with fail
    refine (FT _).mono ?_
    rintro e w' ⟨rfl, rfl⟩
    go_wp2_with (with_reducible refine wpList_load_row rfl _ _ rfl w.heap.size rfl 23 C (0, 0) _ gC Tryd.underlying23 rfl HLI.out ?_)
    refine (CU _ (hT.later K0)).mono ?_
    rintro e w1 ⟨rfl, hb1⟩
    have g1 := (hb1.block _ (Array.getElem?_eq_some_iff.1 gC).1).trans gC
    have K1 := Below.then' K0 hb1 K0.size
    clear hb1 gC K0
    go_wp2_with ((with_reducible refine wpList_load_rowG ?hwG _ _ rfl w.heap.size rfl 23 C (0, 0) _ g1 Tryd.underlying23 rfl HLI.out ?hmG) <;> first | (exact rfl) | skip)
    refine (CU2 _ (hT.later K1)).mono ?_
    rintro e w2 ⟨rfl, hb2⟩
    have g2 := (hb2.block _ (Array.getElem?_eq_some_iff.1 g1).1).trans g1
    have K2 := Below.then' K1 hb2 K1.size
    clear hb2 g1 K1
    go_wp2_with (with_reducible refine wpList_load_row rfl _ _ rfl w.heap.size rfl 23 C (0, 0) _ g2 Tryd.underlying23 rfl HLI.out ?_)
    refine (SP _ (hT.later K2)).mono ?_
    rintro e w3 ⟨v, rfl, ⟨hv, hcok⟩, hb3⟩
    have g3 := (hb3.block _ (Array.getElem?_eq_some_iff.1 g2).1).trans g2
    have K3 := Below.then' K2 hb3 K2.size
    clear hb3 g2 K2
    obtain ⟨pv, cv, hve, hvc⟩ := id hv
    subst hve
    obtain ⟨bv, ov, rfl, _, hvt⟩ := StrAt.tail hv
    have hlen : (x :: L).length = L.length + 1 := rfl
    rw [hlen] at hv ⊢
    have hcap : L.length + 1 ≤ cv := hcok _ _ _ rfl
    obtain ⟨N, hN⟩ : ∃ N, N = L.length + 1 := ⟨_, rfl⟩
    rw [← hN] at hv hcap ⊢
    have hN0 : (0 : Int) < N := by omega
    have hN1 : (1 : Int) ≤ N := by omega
    have hN2 : 1 ≤ N := by omega
    have hN4 : 0 < N := by omega
    have hN3 : N - 1 = L.length := by omega
    obtain ⟨p2, hp2⟩ : ∃ p2, (if cv = 1 then some (⟨bv, ov, none⟩ : Addr) else some ⟨bv, ov + 1, none⟩) = p2 := ⟨_, rfl⟩
    have hvt2 : StrAt L (.slice p2 (N - 1) (cv - 1)) w3 := by
      rw [hN3]
      by_cases hc1 : cv = 1
      · have hL0 : L = [] := List.eq_nil_of_length_eq_zero (by omega)
        exact ⟨_, _, rfl, Or.inl hL0⟩
      · rw [if_neg hc1] at hp2
        rw [← hp2]
        exact hvt
    have hsl := fun w' => run_slice_one (P := Tryd.prog) w' 31 9 bv ov N cv p2 Tryd.underlying31 infoStrS (by omega) hcap hp2
    clear hN hN3 hp2
    go_wp2_with fail
    obtain ⟨bx, hbx⟩ : ∃ bx, bx = w.heap.size := ⟨_, rfl⟩
    rw [← hbx] at g3
    have hTW : TabAt w3.drew := hT.later K3.drew
    have R1 : w3.drew.rangeAt bx 0 C.toList := range_of_row g3
    have HR := Lib.hid (fun (w' : World) (h : Below w3.drew.heap.size w3.drew w') => range_of_row ((h.block _ (Array.getElem?_eq_some_iff.1 g3).1).trans g3))
    have HV : Hid (StrAt L (.slice p2 (N - 1) (cv - 1)) w3.drew) := hvt2
    have K1 := Below.refl w3.drew.heap.size w3.drew
    rw [← hbx]
    clear g3 hbx hvc hv hvt hlen hvt2
    refine wp_region_held_drew (S := fun w' => w'.rangeAt bx 0 C.toList) (by kernel_rfl) R1 (fun hHeld => ?_)
    refine wpAnyH_take (i := 0) (v := ?_) rfl (by kernel_rfl) (by kernel_rfl) (by kernel_rfl) (fun _ _ _ h => h) (Or.inl ⟨by first | kernel_rfl | rfl, ?_⟩) (by assumption) ?_
    case refine_2 => intro w hSw; go_simp; try with_reducible rfl
    refine wpAnyH_take (i := 1) (v := ?_) rfl (by kernel_rfl) (by kernel_rfl) (by kernel_rfl) (fun _ _ _ h => h) (Or.inl ⟨by first | kernel_rfl | rfl, ?_⟩) (by assumption) ?_
    case refine_2 => intro w hSw; go_simp; try with_reducible rfl
    refine wpAnyH_take (i := 2) (v := .bool true) rfl (by kernel_rfl) (by kernel_rfl) (by kernel_rfl) (fun _ _ _ h => h) (Or.inl ⟨by first | kernel_rfl | rfl, ?_⟩) (by assumption) ?_
    case refine_1 => intro w hSw; go_simp; try with_reducible rfl
    refine wpAnyH_take (i := 3) (v := .bool true) rfl (by kernel_rfl) (by kernel_rfl) (by kernel_rfl) (fun _ _ _ h => h) (Or.inl ⟨by first | kernel_rfl | rfl, ?_⟩) (by assumption) ?_
    case refine_1 => intro w hSw; go_simp; try with_reducible rfl
    refine wpAnyH_take (i := 4) (v := ?_) rfl (by kernel_rfl) (by kernel_rfl) (by kernel_rfl) (fun _ _ _ h => h) (Or.inl ⟨by first | kernel_rfl | rfl, ?_⟩) (by assumption) ?_
    case refine_2 => intro w hSw; go_simp; try with_reducible rfl
    refine wpAnyH_take (i := 5) (v := .slice p2 (N - 1) (cv - 1)) rfl (by kernel_rfl) (by kernel_rfl) (by kernel_rfl) (fun _ _ _ h => h) (Or.inl ⟨by first | kernel_rfl | rfl, ?_⟩) (by assumption) ?_
    case refine_1 => intro w hSw; go_simp; try with_reducible rfl
    refine wpAnyH_take (i := 6) (v := ?_) rfl (by kernel_rfl) (by kernel_rfl) (by kernel_rfl) (fun _ _ _ h => h) (Or.inl ⟨by first | kernel_rfl | rfl, ?_⟩) (by assumption) ?_
    case refine_2 => intro w hSw; go_simp; try with_reducible rfl
    refine wpAnyH_take (i := 7) (v := ?_) rfl (by kernel_rfl) (by kernel_rfl) (by kernel_rfl) (fun _ _ _ h => h) (Or.inl ⟨by first | kernel_rfl | rfl, ?_⟩) (by assumption) ?_
    case refine_2 => intro w hSw; go_simp; try with_reducible rfl
    refine wpAnyH_take (i := 8) (v := ?_) rfl (by kernel_rfl) (by kernel_rfl) (by kernel_rfl) (fun _ _ _ h => h) (Or.inl ⟨by first | kernel_rfl | rfl, ?_⟩) (by assumption) ?_
    case refine_2 => intro w hSw; go_simp; try with_reducible rfl
    refine wpAnyH_take (i := 9) (v := .agg C) rfl (by kernel_rfl) (by kernel_rfl) (by kernel_rfl) (fun _ _ _ h => h) (yieldsIf_load_mid (by first | kernel_rfl | rfl) _ _ rfl bx 0 (by kernel_rfl) C.toList _ (fun _ h => h) Tryd.underlying23 rfl HLT.out) (by assumption) ?_
    refine wpAnyH_ready (rs := [10]) (by kernel_rfl) (by simp) (AllReadyH.cons rfl (fun K hK => ?_) AllReadyH.nil)
    go_simp
    refine (SP2 _ (hTW.later K1)).mono ?_
    rintro e w6 ⟨v2, rfl, hv2, hb6⟩
    have K6 := Below.then' K1 hb6 K1.size
    have R6 := HR.out _ K6
    have hv6 := HV.out.later hb6
    clear hb6 K1
    refine hK.out _ _ R6 (fun _ => ?_)
    clear hK K
    refine wpAnyH_ready (rs := [11]) (by kernel_rfl) (by simp) (AllReadyH.cons rfl (fun K hK => ?_) AllReadyH.nil)
    go_simp
    refine (SA _ _ _ hv6 hv2).mono ?_
    rintro e w7 ⟨rfl, hb7⟩
    have K7 := Below.then' K6 hb7 K6.size
    have R7 := HR.out _ K7
    clear hb7 K6 hv6 hv2
    refine hK.out _ _ R7 (fun _ => ?_)
    clear hK K
    refine wpAnyH_take (i := 12) (v := ?_) rfl (by kernel_rfl) (by kernel_rfl) (by kernel_rfl) (fun _ _ _ h => h) (Or.inl ⟨by first | kernel_rfl | rfl, ?_⟩) (by assumption) ?_
    case refine_2 => intro w hSw; go_simp; try with_reducible rfl
    refine wpAnyH_take (i := 13) (v := ?_) rfl (by kernel_rfl) (by kernel_rfl) (by kernel_rfl) (fun _ _ _ h => h) (Or.inl ⟨by first | kernel_rfl | rfl, ?_⟩) (by assumption) ?_
    case refine_2 => intro w hSw; go_simp; try with_reducible rfl
    refine wpAnyH_ready (rs := [14]) (by kernel_rfl) (by simp) (AllReadyH.cons rfl (fun K hK => ?_) AllReadyH.nil)
    go_simp
    refine (awake_any _ (hTW.later K7)).mono ?_
    rintro e w8 ⟨rfl, hb8⟩
    have K8 := Below.then' K7 hb8 K7.size
    have R8 := HR.out _ K8
    clear hb8 K7
    refine hK.out _ _ R8 (fun _ => ?_)
    clear hK K
    refine wpAnyH_take (i := 15) (v := ?_) rfl (by kernel_rfl) (by kernel_rfl) (by kernel_rfl) (fun _ _ _ h => h) (Or.inl ⟨by first | kernel_rfl | rfl, ?_⟩) (by assumption) ?_
    case refine_2 => intro w hSw; go_simp; try with_reducible rfl
    refine wpAnyH_take (i := 16) (v := ?_) rfl (by kernel_rfl) (by kernel_rfl) (by kernel_rfl) (fun _ _ _ h => h) (Or.inl ⟨by first | kernel_rfl | rfl, ?_⟩) (by assumption) ?_
    case refine_2 => intro w hSw; go_simp; try with_reducible rfl
    refine wpAnyH_done (by kernel_rfl) ?_ _
    clear hsl hs2 hst2 CU CU2 SP SP2 SA FS FT hnb hn1 hn2 hnn hni HR HL
    go_wp2
    go_ret
    exact ⟨rfl, Below.then' K3.drew K8 K3.drew.size⟩

end Go.Proofs.YtimllddlcjnikaaDoor
