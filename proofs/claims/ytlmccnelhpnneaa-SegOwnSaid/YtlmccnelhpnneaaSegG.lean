/- The walk of SegFirst, out of the contracts. -/
import Derived.Test.YtlmccnelhpnneaaSegA
namespace Go.Proofs.Ytlmccnelhpnneaa
open Go.RowKit

set_option maxRecDepth 100000 in
set_option maxHeartbeats 2000000 in
theorem segFirst_of (HM : MayOk) (HC : CutOk) (HA : AllOk) (w : World) (v : Value) (ls0 : List (List UInt8)) (hv : FpsAt 32 ls0 v w ∧ CapOkF v) (_hl : ls0.length ≤ maxLen) (C : Array Value) (a b d : Int) (hC : IsSeg C a b d) :
    Calls Try.prog 3 #[v, .agg C] w (LawPost w) := by
  obtain ⟨hv, hcap⟩ := hv
  obtain ⟨p, c, rfl, -⟩ := hv.2
  have hc := hcap _ _ _ rfl
  have FE := fun W h => fews_any p c ls0.length ls0 rfl hc W h
  have FF := fun W h => fews_fps p c ls0.length ls0 rfl hc W h
  obtain ⟨ls, hls⟩ : ∃ l, l = ls0.take 600 := ⟨_, rfl⟩
  rw [← hls] at FE FF
  have hc2 := (FF w hv).2.1
  have h6 := (FF w hv).2.2
  have CM0 := fun W => HM C a b d hC W
  have CRM0 := fun W => rmays_any C a b d hC W
  have CC0 := fun W h => HC p c ls.length ls rfl (by omega) hc2 C a b d hC W h
  have CRC0 := fun W h => rcuts_any p c ls.length ls rfl (by omega) C a b d hC W h
  have AW0 := fun W => awakes_of HM HC HA W
  have gC := heap_alloc_last w (.cells C 24)
  have K0 := box_below w (.cells C 24)
  have HCS : Hid ((Try.prog.info? 24).map (·.size) = some C.size) := by rw [hC.size]; exact info_conf
  have hv0 := hv.later K0
  obtain ⟨m, hm⟩ : ∃ m, m = decide (MayS a b d) := ⟨_, rfl⟩
  rw [← hm] at CM0 CRM0
  obtain ⟨k, hk⟩ : ∃ k, k = segI a b d ls := ⟨_, rfl⟩
  rw [← hk] at CC0 CRC0
  have F0 : Hid (FpsAt 32 ls (.slice p ls.length c) (w.alloc (.cells C 24))) := (FF _ hv0).1
  have FE0 := FE _ hv0
  obtain ⟨n0, hn0⟩ : ∃ n, n = ls0.length := ⟨_, rfl⟩
  obtain ⟨n, hn⟩ : ∃ n, n = ls.length := ⟨_, rfl⟩
  rw [← hn] at F0 FE0 CC0 CRC0
  rw [← hn0] at FE0 ⊢
  obtain ⟨W, hW⟩ : ∃ W, W = w.alloc (.cells C 24) := ⟨_, rfl⟩
  have HG : Hid (W.heap[w.heap.size]? = some (.cells C 24 (0, 0))) := by rw [hW]; exact gC
  have HK0 : Hid (Kept w W) := by rw [hW]; exact K0
  rw [← hW] at F0 FE0
  have HW := Lib.hid hW
  have CC : ∀ W', Kept W W' → Calls Try.prog 11 #[.slice p n c, .agg C] W' fun e w' => e = .returned (.int .i64 (k : Nat)) ∧ Below W'.heap.size W' w' := fun W' h => CC0 W' (F0.out.later h)
  have CRC : ∀ W', Kept W W' → Calls Try.prog 12 #[.slice p n c, .agg C] W' fun e w' => e = .returned (.int .i64 (k : Nat)) ∧ Below W'.heap.size W' w' := fun W' h => CRC0 W' (F0.out.later h)
  have CM := CM0
  have CRM := CRM0
  have AW := AW0
  have hmm : (m == m) = true := by simp
  have hkk : ((k : Int) == (k : Int)) = true := by simp
  clear hm hk hn hn0 hls hcap hc hc2 h6 FE FF hv hv0 gC K0 CC0 CRC0 CM0 CRM0 AW0 HM HC HA hC F0 hW _hl
  go_enter Try.func3, Try.ntmps3
  go_wp2_with fail
  rw [← HW.out]
  refine FE0.mono ?_
  rintro e w1 ⟨rfl, rfl⟩
  clear FE0
  go_wp2_with fail
  refine wp_region_kept (by kernel_rfl) (by kernel_rfl) ?_
  refine wpQuiet_load_row (by kernel_rfl) _ _ rfl w.heap.size rfl 24 C (0, 0) _ (fun _ h => h.row HG.out) Try.underlying24 rfl HCS.out (fun K hK => ?_)
  go_simp
  refine hK _ ?_; clear hK K
  refine wpQuiet_call (by kernel_rfl) _ _ _ (fun W => by go_simp) (fun W h => Calls.kept_of h (CM W)) (fun K hK => ?_)
  go_simp
  refine hK _ ?_; clear hK K
  refine wpQuiet_load_row (by kernel_rfl) _ _ rfl w.heap.size rfl 24 C (0, 0) _ (fun _ h => h.row HG.out) Try.underlying24 rfl HCS.out (fun K hK => ?_)
  go_simp
  refine hK _ ?_; clear hK K
  refine wpQuiet_call (by kernel_rfl) _ _ _ (fun W => by go_simp) (fun W h => Calls.kept_of h (CRM W)) (fun K hK => ?_)
  go_simp
  refine hK _ ?_; clear hK K
  refine wpQuiet_pure (by kernel_rfl) (.bool true) (fun W _ => by go_simp) (fun K hK => ?_)
  go_simp
  refine hK _ ?_; clear hK K
  refine wpQuiet_pure (v := ?_) (by kernel_rfl) ?_ (fun K hK => ?_)
  case refine_2 => intro W _; go_simp; try with_reducible rfl
  go_simp
  refine hK _ ?_; clear hK K
  refine wpQuiet_pure (v := ?_) (by kernel_rfl) ?_ (fun K hK => ?_)
  case refine_2 => intro W _; go_simp; try with_reducible rfl
  go_simp
  refine hK _ ?_; clear hK K
  refine wpQuiet_load_row (by kernel_rfl) _ _ rfl w.heap.size rfl 24 C (0, 0) _ (fun _ h => h.row HG.out) Try.underlying24 rfl HCS.out (fun K hK => ?_)
  go_simp
  refine hK _ ?_; clear hK K
  refine wpQuiet_call (by kernel_rfl) _ _ _ (fun W => by go_simp) (fun W h => Calls.kept_of h (CC W h)) (fun K hK => ?_)
  go_simp
  refine hK _ ?_; clear hK K
  refine wpQuiet_pure (v := ?_) (by kernel_rfl) ?_ (fun K hK => ?_)
  case refine_2 => intro W _; go_simp; try with_reducible rfl
  go_simp
  refine hK _ ?_; clear hK K
  refine wpQuiet_load_row (by kernel_rfl) _ _ rfl w.heap.size rfl 24 C (0, 0) _ (fun _ h => h.row HG.out) Try.underlying24 rfl HCS.out (fun K hK => ?_)
  go_simp
  refine hK _ ?_; clear hK K
  refine wpQuiet_call (by kernel_rfl) _ _ _ (fun W => by go_simp) (fun W h => Calls.kept_of h (CRC W h)) (fun K hK => ?_)
  go_simp
  refine hK _ ?_; clear hK K
  refine wpQuiet_pure (by kernel_rfl) (.bool true) (fun W _ => by go_simp) (fun K hK => ?_)
  go_simp
  refine hK _ ?_; clear hK K
  refine wpQuiet_pure (v := ?_) (by kernel_rfl) ?_ (fun K hK => ?_)
  case refine_2 => intro W _; go_simp; try with_reducible rfl
  go_simp
  refine hK _ ?_; clear hK K
  refine wpQuiet_pure (v := ?_) (by kernel_rfl) ?_ (fun K hK => ?_)
  case refine_2 => intro W _; go_simp; try with_reducible rfl
  go_simp
  refine hK _ ?_; clear hK K
  refine wpQuiet_call (by kernel_rfl) _ _ _ (fun W => by go_simp) (fun W h => Calls.kept_of h (AW W)) (fun K hK => ?_)
  go_simp
  refine hK _ ?_; clear hK K
  refine wpQuiet_pure (v := ?_) (by kernel_rfl) ?_ (fun K hK => ?_)
  case refine_2 => intro W _; go_simp; try with_reducible rfl
  go_simp
  refine hK _ ?_; clear hK K
  refine wpQuiet_pure (v := ?_) (by kernel_rfl) ?_ (fun K hK => ?_)
  case refine_2 => intro W _; go_simp; try with_reducible rfl
  go_simp
  refine hK _ ?_; clear hK K
  refine wpQuiet_nil ?_
  intro w2 hk2
  go_wp2
  go_ret
  exact ⟨rfl, HK0.out.then hk2⟩

end Go.Proofs.Ytlmccnelhpnneaa
