/- The walk of HookZeros. -/
import Derived.Test.YthgjooacapodnaaHkAw
namespace Go.Proofs.Ythgjooacapodnaa
open Go.RowKit

/-- A place at which a walk stands still. -/
def Stopped (p : Prop) : Prop := p

theorem wpList_stop {P : Program} {ops : Array Oper} {rest : List Oper} {o : Oper} {a : Act} {w : World} {Q : Exit → Act → World → Prop} {d : Nat} (_hd : o.dst = some d) (h : Stopped (wpList P ops Q (o :: rest) a w)) : wpList P ops Q (o :: rest) a w := h

theorem wf_int {x : Int} (wx : (Lit.int .i64 x).wf = true) : -9223372036854775808 ≤ x ∧ x ≤ 9223372036854775807 := by
  obtain ⟨h1, h2⟩ := bounds_i64 wx
  exact ⟨h1, h2⟩

theorem hook_fewer (l : List UInt8) (b : Int) (h : hookB l b = true) : hookB l (b - 1) = true := by
  unfold hookB at h ⊢
  have := of_decide_eq_true h
  exact decide_eq_true (by omega)

theorem hook_none (l : List UInt8) : hookB l 0 = true := by
  unfold hookB
  exact decide_eq_true (by omega)

set_option maxRecDepth 100000 in
set_option maxHeartbeats 8000000 in
theorem walk_hookZeros (l : List UInt8) (hl : l.length = 32) (m : List UInt8) (hm : m.length = 32) (b : Int) (wb : (Lit.int .i64 b).wf = true) (w : World) :
    Calls Try.prog 5 #[.agg (fpA l), .agg (fpA m), .int .i64 b] w (LawPost w) := by
  have hwb := wf_int wb
  have ZF := fun W => zeros_any l hl W
  have RZ := fun W => rzeros_any l hl W
  have IS := fun W => is_any l hl b W
  have RI := fun W => ris_any l hl b W
  have IM := fun W => is_any l hl (b - 1) W
  have I0 := fun W => is_any l hl 0 W
  have LE := fun W => less_any l m hl hm W
  have RL := fun W => rless_any l m hl hm W
  have hmn := hook_fewer l b
  rw [hook_none] at I0
  have HI := Lib.hid (fp_info l hl)
  have HJ := Lib.hid (fp_info m hm)
  obtain ⟨F, hF⟩ : ∃ F, F = fpA l := ⟨_, rfl⟩
  obtain ⟨G, hG⟩ : ∃ G, G = fpA m := ⟨_, rfl⟩
  rw [← hF] at ZF RZ IS RI IM I0 LE RL HI ⊢
  rw [← hG] at LE RL HJ ⊢
  obtain ⟨z, hz⟩ : ∃ z, z = zerosB l := ⟨_, rfl⟩
  obtain ⟨q, hq⟩ : ∃ q, q = hookB l b := ⟨_, rfl⟩
  obtain ⟨r, hr⟩ : ∃ r, r = ltB l m := ⟨_, rfl⟩
  obtain ⟨s, hs⟩ : ∃ s, s = hookB l (b - 1) := ⟨_, rfl⟩
  rw [← hz] at ZF RZ
  rw [← hq] at IS RI hmn
  rw [← hr] at LE RL
  rw [← hs] at IM hmn
  obtain ⟨W0, hW0⟩ : ∃ W, W = (w.alloc (.cells F 23)).alloc (.cells G 23) := ⟨_, rfl⟩
  have HR : Hid (W0.heap[w.heap.size]? = some (.cells F 23 (0, 0))) := by rw [hW0]; exact heap_alloc2_old w _ _
  have HG : Hid (W0.heap[w.heap.size + 1]? = some (.cells G 23 (0, 0))) := by rw [hW0]; exact heap_alloc2_new w _ _
  have K0 : Below w.heap.size w W0 := by rw [hW0]; exact ((Below.refl _ w).alloc (Nat.le_refl _) _).alloc (by simp) _
  have HH : Hid (∀ W : World, Kept W0 W → W.heap[w.heap.size]? = some (.cells F 23 (0, 0))) := fun W h => h.row HR.out
  have HW := Lib.hid hW0
  have HK0 := Lib.hid K0
  clear hF hG hz hq hr hs hl hm wb K0
  go_enter Try.func5, Try.ntmps5
  go_wp2_with fail
  rw [← HW.out]
  clear hW0
  refine wp_region_kept (by kernel_rfl) (by kernel_rfl) ?_
  refine wpQuiet_load_row (by kernel_rfl) _ _ rfl w.heap.size rfl 23 F (0, 0) _ (fun _ h => h.row HR.out) Try.underlying23 rfl HI.out (fun K hK => ?_)
  go_simp
  refine hK _ ?_; clear hK K
  refine wpQuiet_call (by kernel_rfl) _ _ _ (fun W => by go_simp) (fun W h => Calls.kept_of h (ZF W)) (fun K hK => ?_)
  go_simp
  refine hK _ ?_; clear hK K
  refine wpQuiet_load_row (by kernel_rfl) _ _ rfl w.heap.size rfl 23 F (0, 0) _ (fun _ h => h.row HR.out) Try.underlying23 rfl HI.out (fun K hK => ?_)
  go_simp
  refine hK _ ?_; clear hK K
  refine wpQuiet_call (by kernel_rfl) _ _ _ (fun W => by go_simp) (fun W h => Calls.kept_of h (RZ W)) (fun K hK => ?_)
  go_simp
  refine hK _ ?_; clear hK K
  refine wpQuiet_pure (by kernel_rfl) (.bool false) (fun W _ => by go_simp) (fun K hK => ?_)
  go_simp
  refine hK _ ?_; clear hK K
  refine wpQuiet_pure (v := ?_) (by kernel_rfl) ?_ (fun K hK => ?_)
  case refine_2 => intro W _; go_simp; try with_reducible rfl
  go_simp
  refine hK _ ?_; clear hK K
  refine wpQuiet_load_row (by kernel_rfl) _ _ rfl w.heap.size rfl 23 F (0, 0) _ (fun _ h => h.row HR.out) Try.underlying23 rfl HI.out (fun K hK => ?_)
  go_simp
  refine hK _ ?_; clear hK K
  refine wpQuiet_pure (v := ?_) (by kernel_rfl) ?_ (fun K hK => ?_)
  case refine_2 => intro W _; go_simp; try with_reducible rfl
  go_simp
  refine hK _ ?_; clear hK K
  refine wpQuiet_call (by kernel_rfl) _ _ _ (fun W => by go_simp) (fun W h => Calls.kept_of h (IS W)) (fun K hK => ?_)
  go_simp
  refine hK _ ?_; clear hK K
  refine wpQuiet_load_row (by kernel_rfl) _ _ rfl w.heap.size rfl 23 F (0, 0) _ (fun _ h => h.row HR.out) Try.underlying23 rfl HI.out (fun K hK => ?_)
  go_simp
  refine hK _ ?_; clear hK K
  refine wpQuiet_pure (v := ?_) (by kernel_rfl) ?_ (fun K hK => ?_)
  case refine_2 => intro W _; go_simp; try with_reducible rfl
  go_simp
  refine hK _ ?_; clear hK K
  refine wpQuiet_call (by kernel_rfl) _ _ _ (fun W => by go_simp) (fun W h => Calls.kept_of h (RI W)) (fun K hK => ?_)
  go_simp
  refine hK _ ?_; clear hK K
  refine wpQuiet_pure (by kernel_rfl) (.bool false) (fun W _ => by go_simp) (fun K hK => ?_)
  go_simp
  refine hK _ ?_; clear hK K
  refine wpQuiet_pure (v := ?_) (by kernel_rfl) ?_ (fun K hK => ?_)
  case refine_2 => intro W _; go_simp; try with_reducible rfl
  go_simp
  refine hK _ ?_; clear hK K
  refine wpQuiet_pure (v := ?_) (by kernel_rfl) ?_ (fun K hK => ?_)
  case refine_2 => intro W _; go_simp; try with_reducible rfl
  go_simp
  refine hK _ ?_; clear hK K
  refine wpQuiet_load_row (by kernel_rfl) _ _ rfl w.heap.size rfl 23 F (0, 0) _ (fun _ h => h.row HR.out) Try.underlying23 rfl HI.out (fun K hK => ?_)
  go_simp
  refine hK _ ?_; clear hK K
  refine wpQuiet_load_row (by kernel_rfl) _ _ rfl (w.heap.size + 1) rfl 23 G (0, 0) _ (fun _ h => h.row HG.out) Try.underlying23 rfl HJ.out (fun K hK => ?_)
  go_simp
  refine hK _ ?_; clear hK K
  refine wpQuiet_call (by kernel_rfl) _ _ _ (fun W => by go_simp) (fun W h => Calls.kept_of h (LE W)) (fun K hK => ?_)
  go_simp
  refine hK _ ?_; clear hK K
  refine wpQuiet_load_row (by kernel_rfl) _ _ rfl w.heap.size rfl 23 F (0, 0) _ (fun _ h => h.row HR.out) Try.underlying23 rfl HI.out (fun K hK => ?_)
  go_simp
  refine hK _ ?_; clear hK K
  refine wpQuiet_load_row (by kernel_rfl) _ _ rfl (w.heap.size + 1) rfl 23 G (0, 0) _ (fun _ h => h.row HG.out) Try.underlying23 rfl HJ.out (fun K hK => ?_)
  go_simp
  refine hK _ ?_; clear hK K
  refine wpQuiet_call (by kernel_rfl) _ _ _ (fun W => by go_simp) (fun W h => Calls.kept_of h (RL W)) (fun K hK => ?_)
  go_simp
  refine hK _ ?_; clear hK K
  refine wpQuiet_pure (by kernel_rfl) (.bool false) (fun W _ => by go_simp) (fun K hK => ?_)
  go_simp
  refine hK _ ?_; clear hK K
  refine wpQuiet_pure (v := ?_) (by kernel_rfl) ?_ (fun K hK => ?_)
  case refine_2 => intro W _; go_simp; try with_reducible rfl
  go_simp
  refine hK _ ?_; clear hK K
  refine wpQuiet_nil ?_
  intro w2 hk2
  have k2 : Below W0.heap.size W0 w2 := hk2
  have HH' : Hid (∀ W : World, Below W0.heap.size W0 W → W.heap[w.heap.size]? = some (.cells F 23 (0, 0))) := fun W h => HH.out W h
  clear HH
  have HH := HH'
  clear HH' ZF RZ RI LE RL hk2
  by_cases hb0 : b > 0
  · have e1 : IntKind.i64.wrap (b - 1) = b - 1 := by simp [IntKind.wrap, IntKind.bits, IntKind.signed]; omega
    cases q with
    | true =>
      have hs1 : s = true := hmn rfl
      subst hs1
      go_wp2_with (with_reducible refine wpList_stop (d := 31) rfl ?_)
      unfold Stopped
      refine BigFrame.wpList_want (by kernel_rfl) (fun K hK => ?_)
      go_simp
      refine hK _ _ ?_; clear hK K
      refine BigFrame.wpList_want (by kernel_rfl) (fun K hK => ?_)
      go_simp
      refine hK _ _ ?_; clear hK K
      refine wpList_load_rowK (by kernel_rfl) _ _ rfl w.heap.size rfl 23 F (0, 0) _ (HH.out _ k2) Try.underlying23 rfl HI.out (fun K hK => ?_)
      go_simp
      refine hK _ _ ?_; clear hK K
      refine BigFrame.wpList_want (by kernel_rfl) (fun K hK => ?_)
      go_simp
      refine hK _ _ ?_; clear hK K
      refine BigFrame.wpList_want (by kernel_rfl) (fun K hK => ?_)
      go_simp
      refine (IS _).mono ?_
      rintro e w3 ⟨rfl, hb3⟩
      have k3 := Below.then' k2 hb3 k2.size
      clear hb3
      refine hK _ _ ?_; clear hK K
      refine BigFrame.wpList_want (by kernel_rfl) (fun K hK => ?_)
      go_simp
      refine hK _ _ ?_; clear hK K
      refine BigFrame.wpList_want (by kernel_rfl) (fun K hK => ?_)
      go_simp
      refine hK _ _ ?_; clear hK K
      refine wpList_load_rowK (by kernel_rfl) _ _ rfl w.heap.size rfl 23 F (0, 0) _ (HH.out _ k3) Try.underlying23 rfl HI.out (fun K hK => ?_)
      go_simp
      refine hK _ _ ?_; clear hK K
      refine BigFrame.wpList_want (by kernel_rfl) (fun K hK => ?_)
      go_simp
      refine hK _ _ ?_; clear hK K
      refine BigFrame.wpList_want (by kernel_rfl) (fun K hK => ?_)
      go_simp
      refine hK _ _ ?_; clear hK K
      refine BigFrame.wpList_want (by kernel_rfl) (fun K hK => ?_)
      go_simp
      refine (IM _).mono ?_
      rintro e w4 ⟨rfl, hb4⟩
      have k4 := Below.then' k3 hb4 k3.size
      clear hb4
      refine hK _ _ ?_; clear hK K
      refine BigFrame.wpList_want (by kernel_rfl) (fun K hK => ?_)
      go_simp
      refine hK _ _ ?_; clear hK K
      refine BigFrame.wpList_want (by kernel_rfl) (fun K hK => ?_)
      go_simp
      refine hK _ _ ?_; clear hK K
      go_wp2_with (with_reducible refine wpList_load_row rfl _ _ rfl w.heap.size rfl 23 F (0, 0) _ (HH.out _ k4) Try.underlying23 rfl HI.out ?_)
      refine (I0 _).mono ?_
      rintro e w8 ⟨rfl, hb8⟩
      have k8 := Below.then' k4 hb8 k4.size
      clear hb8
      go_wp2_with fail
      refine (awake_any _).mono ?_
      rintro e w9 ⟨rfl, hb9⟩
      go_wp2
      go_ret
      exact ⟨rfl, Below.then' HK0.out (Below.then' k8 hb9 k8.size) HK0.out.size⟩
    | false =>
      go_wp2_with (with_reducible refine wpList_stop (d := 31) rfl ?_)
      unfold Stopped
      refine BigFrame.wpList_want (by kernel_rfl) (fun K hK => ?_)
      go_simp
      refine hK _ _ ?_; clear hK K
      refine BigFrame.wpList_want (by kernel_rfl) (fun K hK => ?_)
      go_simp
      refine hK _ _ ?_; clear hK K
      refine wpList_load_rowK (by kernel_rfl) _ _ rfl w.heap.size rfl 23 F (0, 0) _ (HH.out _ k2) Try.underlying23 rfl HI.out (fun K hK => ?_)
      go_simp
      refine hK _ _ ?_; clear hK K
      refine BigFrame.wpList_want (by kernel_rfl) (fun K hK => ?_)
      go_simp
      refine hK _ _ ?_; clear hK K
      refine BigFrame.wpList_want (by kernel_rfl) (fun K hK => ?_)
      go_simp
      refine (IS _).mono ?_
      rintro e w3 ⟨rfl, hb3⟩
      have k3 := Below.then' k2 hb3 k2.size
      clear hb3
      refine hK _ _ ?_; clear hK K
      refine BigFrame.wpList_want (by kernel_rfl) (fun K hK => ?_)
      go_simp
      refine hK _ _ ?_; clear hK K
      go_wp2_with (with_reducible refine wpList_load_row rfl _ _ rfl w.heap.size rfl 23 F (0, 0) _ (HH.out _ k3) Try.underlying23 rfl HI.out ?_)
      refine (I0 _).mono ?_
      rintro e w8 ⟨rfl, hb8⟩
      have k8 := Below.then' k3 hb8 k3.size
      clear hb8
      go_wp2_with fail
      refine (awake_any _).mono ?_
      rintro e w9 ⟨rfl, hb9⟩
      go_wp2
      go_ret
      exact ⟨rfl, Below.then' HK0.out (Below.then' k8 hb9 k8.size) HK0.out.size⟩
  · go_wp2_with (with_reducible refine wpList_load_row rfl _ _ rfl w.heap.size rfl 23 F (0, 0) _ (HH.out _ k2) Try.underlying23 rfl HI.out ?_)
    refine (I0 _).mono ?_
    rintro e w8 ⟨rfl, hb8⟩
    have k8 := Below.then' k2 hb8 k2.size
    clear hb8
    go_wp2_with fail
    refine (awake_any _).mono ?_
    rintro e w9 ⟨rfl, hb9⟩
    go_wp2
    go_ret
    exact ⟨rfl, Below.then' HK0.out (Below.then' k8 hb9 k8.size) HK0.out.size⟩

end Go.Proofs.Ythgjooacapodnaa
