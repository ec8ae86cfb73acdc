/- The landed recipes' Fits. -/
import Derived.Test.YtijdbmapdmhknaaDoorRyC
namespace Go.Proofs.YtijdbmapdmhknaaDoor
open Go.RowKit

theorem run_eqGuard_cz {P : Program} (w : World) (op : BinOp) (t : TypeId) (x y : Operand) (k : FloatKind) (a b c d : Nat) : (eqGuard op t x y (.complex k a b) (.complex k c d)).run P w = .ok () w := by
  cases op <;> simp [eqGuard]
/-- Two complex numbers against each other, in every world of the class. -/
theorem wpQuiet_eqC {P : Program} {ops : Array Oper} {C : World → Prop} {Q : Act → Prop} {a : Act} {o : Oper} {rest : List Oper} (hw : Region.wanted o (yielded ops a.tmps) = true) (ty ty' : TypeId) (x y : Operand) (ho : o.op = .binOp .eql ty x y ty')
    (p1 p2 q1 q2 : Nat) (hx : a.eval x = .complex .f64 p1 p2) (hy : a.eval y = .complex .f64 q1 q2) (q : Bool) (hr : ∀ W, (binOp .eql ty (.complex .f64 p1 p2) (.complex .f64 q1 q2)).run P W = .ok (.bool q) W)
    (h : ∀ K : Act → Prop, (∀ a, wpQuiet P ops C Q rest a → K a) → K (a.put o.dst (.bool q))) : wpQuiet P ops C Q (o :: rest) a := by
  refine wpQuiet_pure hw (.bool q) (fun W _ => ?_) h
  unfold execOp
  simp only [ho, hx, hy, Sem.run_bind, run_eqGuard_cz W .eql ty x y .f64 p1 p2 q1 q2, Result.andThen_ok, hr W]
  rfl
theorem cmp_iff (a c : Int) : (compare a c = .eq) ↔ a = c := by
  show compareOfLessAndEq a c = .eq ↔ a = c
  unfold compareOfLessAndEq
  by_cases h : a < c
  · rw [if_pos h]
    exact ⟨fun e => (by cases e), fun e => absurd e (by omega)⟩
  · rw [if_neg h]
    by_cases h2 : a = c
    · rw [if_pos h2]; exact ⟨fun _ => h2, fun _ => rfl⟩
    · rw [if_neg h2]; exact ⟨fun e => (by cases e), fun e => absurd e h2⟩
theorem eq_cz (a b c d : Int) (ha : a.natAbs ≤ 2 ^ 53) (hb : b.natAbs ≤ 2 ^ 53) (hc : c.natAbs ≤ 2 ^ 53) (hd : d.natAbs ≤ 2 ^ 53) (w : World) :
    (binOp .eql 33 (.complex .f64 (flt a) (flt b)) (.complex .f64 (flt c) (flt d))).run Tryd.prog w = .ok (.bool (decide (a = c ∧ b = d))) w := by
  have o1 : FloatKind.f64.format.order (flt a) (flt c) = some (compare a c) := order_val (val_flt a ha).1 (val_flt c hc).1
  have o2 : FloatKind.f64.format.order (flt b) (flt d) = some (compare b d) := order_val (val_flt b hb).1 (val_flt d hd).1
  have e1 : (compare a c = .eq) ↔ a = c := cmp_iff a c
  have e2 : (compare b d = .eq) ↔ b = d := cmp_iff b d
  rw [show decide (a = c ∧ b = d) = (decide (compare a c = .eq) && decide (compare b d = .eq)) by rw [← Bool.decide_and, decide_eq_decide, e1, e2]]
  clear ha hb hc hd e1 e2
  generalize flt a = fa at *
  generalize flt b = fb at *
  generalize flt c = fc at *
  generalize flt d = fd at *
  generalize compare a c = q1 at *
  generalize compare b d = q2 at *
  cases q1 <;> cases q2 <;> go_simp

set_option maxRecDepth 100000 in
set_option maxHeartbeats 16000000 in
theorem rfitsOk : RFitsOk := by
  intro r v t w H hl ht
  have CMa := fun W h => rcheckOk r v W h hl
  have CWa := fun W h => rweightOk r v W h hl
  have hS := data_len t
  have CO := fun W => of_any t (by omega) W
  obtain ⟨S, eS⟩ : ∃ S, S = t.data.toList := ⟨_, rfl⟩
  rw [← eS] at CO hS ⊢
  have hq : fitsQ r S ↔ mayQ r ∧ (S.length : Int) = r.size ∧ wRe 0 S = r.re ∧ wIm 0 S = r.im := Iff.rfl
  have HU := Lib.hid H
  obtain ⟨tv, rfl, hm, hwf⟩ := H
  obtain ⟨p, c, rfl, -, -⟩ := hm.out encU
  unfold rpC at CMa CWa HU ⊢
  obtain ⟨res, hres⟩ : ∃ x, x = decide (fitsQ r S) := ⟨_, rfl⟩
  have ab := wRe_abs 0 S
  have bb := wIm_abs 0 S
  have hEQ : mayQ r → ∀ W, (binOp .eql 33 (.complex .f64 (flt (wRe 0 S)) (flt (wIm 0 S))) (.complex .f64 (flt r.re) (flt r.im))).run Tryd.prog W = .ok (.bool (decide (wRe 0 S = r.re ∧ wIm 0 S = r.im))) W := fun h W => by
    have h1 := h.2.2.1.1
    have h2 := h.2.2.1.2
    unfold partQ at h1 h2
    exact eq_cz _ _ _ _ (by omega) (by omega) (by omega) (by omega) W
  have hres2 : mayQ r → (S.length : Int) = r.size → decide (wRe 0 S = r.re ∧ wIm 0 S = r.im) = res := fun h1 h2 => by
    rw [hres, decide_eq_decide, hq]
    exact ⟨fun h => ⟨h1, h2, h⟩, fun h => h.2.2⟩
  have RF : Hid (¬ mayQ r → res = false) := Lib.hid (fun h => by rw [hres]; exact decide_eq_false (fun e => h (hq.1 e).1))
  have RF2 : Hid ((S.length : Int) ≠ r.size → res = false) := Lib.hid (fun h => by rw [hres]; exact decide_eq_false (fun e => h (hq.1 e).2.1))
  unfold wOf at CO
  unfold wzV at CWa
  obtain ⟨s, hs⟩ : ∃ s, s = str r.name := ⟨_, rfl⟩
  obtain ⟨z, hz⟩ : ∃ z, z = r.size := ⟨_, rfl⟩
  obtain ⟨n, hn⟩ : ∃ n, n = r.mans.length := ⟨_, rfl⟩
  obtain ⟨x, hx⟩ : ∃ x, x = r.re := ⟨_, rfl⟩
  obtain ⟨y, hy⟩ : ∃ y, y = r.im := ⟨_, rfl⟩
  obtain ⟨fa, hfa⟩ : ∃ f, f = flt (wRe 0 S) := ⟨_, rfl⟩
  obtain ⟨fb, hfb⟩ : ∃ f, f = flt (wIm 0 S) := ⟨_, rfl⟩
  obtain ⟨fx, hfx⟩ : ∃ f, f = flt r.re := ⟨_, rfl⟩
  obtain ⟨fy, hfy⟩ : ∃ f, f = flt r.im := ⟨_, rfl⟩
  rw [← hfa, ← hfb] at CO
  rw [← hfa, ← hfb, ← hfx, ← hfy] at hEQ
  rw [← hfx, ← hfy] at CWa
  rw [hS, ← hz] at RF2 hres2
  rw [← hs, ← hz, ← hx, ← hy, ← hn] at CMa CWa HU ⊢
  rw [← hres]
  obtain ⟨W1, hW1⟩ : ∃ W1, W1 = w.alloc (.cells #[.string s, .int .i64 z, .int .i64 x, .int .i64 y, .slice p n c] 24) := ⟨_, rfl⟩
  have HK1 : Hid (Kept w W1) := Lib.hid (by rw [hW1]; exact box_below _ _)
  have HR : Hid (Row5 w.heap.size (.string s) (.int .i64 z) (.int .i64 x) (.int .i64 y) (.slice p n c) W1) := Lib.hid ⟨by rw [hW1]; exact heap_alloc_last w _⟩
  have HW1 := Lib.hid hW1
  by_cases hmq : mayQ r
  · have EQ := hEQ hmq
    have hre := hres2 hmq
    rw [if_pos hmq] at CMa CWa
    have CM0 := fun (W : World) (h : Kept W1 W) => Calls.kept_of h (CMa W (HU.out.later (HK1.out.then h)))
    have CW0 := fun (W : World) (h : Kept W1 W) => Calls.kept_of h (CWa W (HU.out.later (HK1.out.then h)))
    by_cases h1 : (t.size : Int) = z
    · have b1 : ((t.size : Int) == z) = true := beq_iff_eq.2 h1
      have hre2 := hre h1
      rw [hre2] at EQ
      clear hW1 CMa CWa HU hm hwf hres hs hz hx hy hn hfa hfb hfx hfy hq eS hS ht hEQ hres2 RF RF2 hre hre2 h1 hmq ab bb
      go_enter Tryd.func23, Tryd.ntmps23
      go_wp2_with fail
      rw [← HW1.out]
      refine wp_region_kept (by kernel_rfl) (by kernel_rfl) ?_
      refine wpQuiet_load_row (by kernel_rfl) _ _ rfl w.heap.size rfl 24 _ (0, 0) _ (fun _ h => h.row HR.out.row) Tryd.underlying24 rfl infoRp (fun K hK => ?_)
      go_simp
      refine hK _ ?_; clear hK K
      refine wpQuiet_call (by kernel_rfl) _ _ _ (fun W => by go_simp) (fun W h => CM0 W h) (fun K hK => ?_)
      go_simp
      refine hK _ ?_; clear hK K
      refine wpQuiet_pure (v := ?_) (by kernel_rfl) ?_ (fun K hK => ?_)
      case refine_2 => intro W _; go_simp; try with_reducible rfl
      go_simp
      refine hK _ ?_; clear hK K
      refine wpQuiet_pure (v := ?_) (by kernel_rfl) ?_ (fun K hK => ?_)
      case refine_2 => intro W _; go_simp; try with_reducible rfl
      go_simp
      refine hK _ ?_; clear hK K
      refine wpQuiet_pure (v := ?_) (by kernel_rfl) ?_ (fun K hK => ?_)
      case refine_2 => intro W _; go_simp; try with_reducible rfl
      go_simp
      refine hK _ ?_; clear hK K
      refine wpQuiet_pure (v := ?_) (by kernel_rfl) ?_ (fun K hK => ?_)
      case refine_2 => intro W _; go_simp; try with_reducible rfl
      go_simp
      refine hK _ ?_; clear hK K
      refine wpQuiet_pure (v := ?_) (by kernel_rfl) ?_ (fun K hK => ?_)
      case refine_2 => intro W _; go_simp; try with_reducible rfl
      go_simp
      refine hK _ ?_; clear hK K
      refine wpQuiet_load_int (by kernel_rfl) _ _ rfl ⟨w.heap.size, 1, none⟩ rfl _ Tryd.underlying3 _ (fun _ h => h.cell HR.out.c1) (fun K hK => ?_)
      go_simp
      refine hK _ ?_; clear hK K
      refine wpQuiet_pure (by kernel_rfl) (.bool true) (fun W _ => by go_simp) (fun K hK => ?_)
      go_simp
      refine hK _ ?_; clear hK K
      refine wpQuiet_pure (v := ?_) (by kernel_rfl) ?_ (fun K hK => ?_)
      case refine_2 => intro W _; go_simp; try with_reducible rfl
      go_simp
      refine hK _ ?_; clear hK K
      refine wpQuiet_pure (v := ?_) (by kernel_rfl) ?_ (fun K hK => ?_)
      case refine_2 => intro W _; go_simp; try with_reducible rfl
      go_simp
      refine hK _ ?_; clear hK K
      refine wpQuiet_pure (v := ?_) (by kernel_rfl) ?_ (fun K hK => ?_)
      case refine_2 => intro W _; go_simp; try with_reducible rfl
      go_simp
      refine hK _ ?_; clear hK K
      refine wpQuiet_call (by kernel_rfl) _ _ _ (fun W => by go_simp) (fun W h => Calls.kept_of h (CO W)) (fun K hK => ?_)
      go_simp
      refine hK _ ?_; clear hK K
      refine wpQuiet_load_row (by kernel_rfl) _ _ rfl w.heap.size rfl 24 _ (0, 0) _ (fun _ h => h.row HR.out.row) Tryd.underlying24 rfl infoRp (fun K hK => ?_)
      go_simp
      refine hK _ ?_; clear hK K
      refine wpQuiet_call (by kernel_rfl) _ _ _ (fun W => by go_simp) (fun W h => CW0 W h) (fun K hK => ?_)
      go_simp
      refine hK _ ?_; clear hK K
      refine wpQuiet_eqC (by kernel_rfl) _ _ _ _ rfl fa fb fx fy rfl rfl res (fun W => EQ W) (fun K hK => ?_)
      go_simp
      refine hK _ ?_; clear hK K
      refine wpQuiet_pure (v := ?_) (by kernel_rfl) ?_ (fun K hK => ?_)
      case refine_2 => intro W _; go_simp; try with_reducible rfl
      go_simp
      refine hK _ ?_; clear hK K
      refine wpQuiet_pure (v := ?_) (by kernel_rfl) ?_ (fun K hK => ?_)
      case refine_2 => intro W _; go_simp; try with_reducible rfl
      go_simp
      refine hK _ ?_; clear hK K
      refine wpQuiet_nil ?_
      intro w9 hk9
      go_wp2
      go_ret
      exact ⟨rfl, HK1.out.then hk9⟩
    · have b1 : ((t.size : Int) == z) = false := beq_eq_false_iff_ne.2 h1
      obtain rfl : res = false := RF2.out h1
      clear hW1 CMa CWa HU hm hwf hres hs hz hx hy hn hfa hfb hfx hfy hq eS hS ht hEQ hres2 RF RF2 hre h1 hmq ab bb EQ CW0 CO
      go_enter Tryd.func23, Tryd.ntmps23
      go_wp2_with fail
      rw [← HW1.out]
      refine wp_region_kept (by kernel_rfl) (by kernel_rfl) ?_
      refine wpQuiet_load_row (by kernel_rfl) _ _ rfl w.heap.size rfl 24 _ (0, 0) _ (fun _ h => h.row HR.out.row) Tryd.underlying24 rfl infoRp (fun K hK => ?_)
      go_simp
      refine hK _ ?_; clear hK K
      refine wpQuiet_call (by kernel_rfl) _ _ _ (fun W => by go_simp) (fun W h => CM0 W h) (fun K hK => ?_)
      go_simp
      refine hK _ ?_; clear hK K
      refine wpQuiet_pure (v := ?_) (by kernel_rfl) ?_ (fun K hK => ?_)
      case refine_2 => intro W _; go_simp; try with_reducible rfl
      go_simp
      refine hK _ ?_; clear hK K
      refine wpQuiet_pure (v := ?_) (by kernel_rfl) ?_ (fun K hK => ?_)
      case refine_2 => intro W _; go_simp; try with_reducible rfl
      go_simp
      refine hK _ ?_; clear hK K
      refine wpQuiet_pure (v := ?_) (by kernel_rfl) ?_ (fun K hK => ?_)
      case refine_2 => intro W _; go_simp; try with_reducible rfl
      go_simp
      refine hK _ ?_; clear hK K
      refine wpQuiet_pure (v := ?_) (by kernel_rfl) ?_ (fun K hK => ?_)
      case refine_2 => intro W _; go_simp; try with_reducible rfl
      go_simp
      refine hK _ ?_; clear hK K
      refine wpQuiet_pure (v := ?_) (by kernel_rfl) ?_ (fun K hK => ?_)
      case refine_2 => intro W _; go_simp; try with_reducible rfl
      go_simp
      refine hK _ ?_; clear hK K
      refine wpQuiet_load_int (by kernel_rfl) _ _ rfl ⟨w.heap.size, 1, none⟩ rfl _ Tryd.underlying3 _ (fun _ h => h.cell HR.out.c1) (fun K hK => ?_)
      go_simp
      refine hK _ ?_; clear hK K
      refine wpQuiet_pure (by kernel_rfl) (.bool false) (fun W _ => by go_simp) (fun K hK => ?_)
      go_simp
      refine hK _ ?_; clear hK K
      refine wpQuiet_pure (v := ?_) (by kernel_rfl) ?_ (fun K hK => ?_)
      case refine_2 => intro W _; go_simp; try with_reducible rfl
      go_simp
      refine hK _ ?_; clear hK K
      refine wpQuiet_pure (v := ?_) (by kernel_rfl) ?_ (fun K hK => ?_)
      case refine_2 => intro W _; go_simp; try with_reducible rfl
      go_simp
      refine hK _ ?_; clear hK K
      go_big_quiet_skip
      go_big_quiet_skip
      go_big_quiet_skip
      go_big_quiet_skip
      go_big_quiet_skip
      refine wpQuiet_pure (v := ?_) (by kernel_rfl) ?_ (fun K hK => ?_)
      case refine_2 => intro W _; go_simp; try with_reducible rfl
      go_simp
      refine hK _ ?_; clear hK K
      refine wpQuiet_pure (v := ?_) (by kernel_rfl) ?_ (fun K hK => ?_)
      case refine_2 => intro W _; go_simp; try with_reducible rfl
      go_simp
      refine hK _ ?_; clear hK K
      refine wpQuiet_nil ?_
      intro w9 hk9
      go_wp2
      go_ret
      exact ⟨rfl, HK1.out.then hk9⟩
  · obtain rfl : res = false := RF.out hmq
    rw [if_neg hmq] at CMa
    have CM0 := fun (W : World) (h : Kept W1 W) => Calls.kept_of h (CMa W (HU.out.later (HK1.out.then h)))
    clear hW1 CMa CWa HU hm hwf hres hs hz hx hy hn hfa hfb hfx hfy hq eS hS ht hEQ hres2 RF RF2 hmq ab bb CO
    go_enter Tryd.func23, Tryd.ntmps23
    go_wp2_with fail
    rw [← HW1.out]
    refine wp_region_kept (by kernel_rfl) (by kernel_rfl) ?_
    refine wpQuiet_load_row (by kernel_rfl) _ _ rfl w.heap.size rfl 24 _ (0, 0) _ (fun _ h => h.row HR.out.row) Tryd.underlying24 rfl infoRp (fun K hK => ?_)
    go_simp
    refine hK _ ?_; clear hK K
    refine wpQuiet_call (by kernel_rfl) _ _ _ (fun W => by go_simp) (fun W h => CM0 W h) (fun K hK => ?_)
    go_simp
    refine hK _ ?_; clear hK K
    refine wpQuiet_pure (v := ?_) (by kernel_rfl) ?_ (fun K hK => ?_)
    case refine_2 => intro W _; go_simp; try with_reducible rfl
    go_simp
    refine hK _ ?_; clear hK K
    refine wpQuiet_pure (v := ?_) (by kernel_rfl) ?_ (fun K hK => ?_)
    case refine_2 => intro W _; go_simp; try with_reducible rfl
    go_simp
    refine hK _ ?_; clear hK K
    go_big_quiet_skip
    go_big_quiet_skip
    go_big_quiet_skip
    go_big_quiet_skip
    go_big_quiet_skip
    refine wpQuiet_pure (v := ?_) (by kernel_rfl) ?_ (fun K hK => ?_)
    case refine_2 => intro W _; go_simp; try with_reducible rfl
    go_simp
    refine hK _ ?_; clear hK K
    refine wpQuiet_pure (v := ?_) (by kernel_rfl) ?_ (fun K hK => ?_)
    case refine_2 => intro W _; go_simp; try with_reducible rfl
    go_simp
    refine hK _ ?_; clear hK K
    go_big_quiet_skip
    go_big_quiet_skip
    go_big_quiet_skip
    go_big_quiet_skip
    go_big_quiet_skip
    refine wpQuiet_pure (v := ?_) (by kernel_rfl) ?_ (fun K hK => ?_)
    case refine_2 => intro W _; go_simp; try with_reducible rfl
    go_simp
    refine hK _ ?_; clear hK K
    refine wpQuiet_pure (v := ?_) (by kernel_rfl) ?_ (fun K hK => ?_)
    case refine_2 => intro W _; go_simp; try with_reducible rfl
    go_simp
    refine hK _ ?_; clear hK K
    refine wpQuiet_nil ?_
    intro w9 hk9
    go_wp2
    go_ret
    exact ⟨rfl, HK1.out.then hk9⟩

end Go.Proofs.YtijdbmapdmhknaaDoor
