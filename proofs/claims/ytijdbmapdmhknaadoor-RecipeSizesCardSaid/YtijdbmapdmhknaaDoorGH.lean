/- The document's Of. The document's Fits. -/
import Derived.Test.YtijdbmapdmhknaaDoorRqK
import Derived.Test.YtijdbmapdmhknaaDoorRqW
namespace Go.Proofs.YtijdbmapdmhknaaDoor
open Go.RowKit

theorem ofR_wf {name s : List UInt8} {l : List Nat} (hn : name.length ≤ maxLen) (hs : s.length ≤ 1000000000000) : (ofR name s l).wf := by
  have a := wRe_abs 0 s
  have b := wIm_abs 0 s
  exact ⟨hn, ⟨by show _ ≤ (s.length : Int); omega, by show (s.length : Int) ≤ _; omega⟩, ⟨by show _ ≤ wRe 0 s; omega, by show wRe 0 s ≤ _; omega⟩, ⟨by show _ ≤ wIm 0 s; omega, by show wIm 0 s ≤ _; omega⟩⟩

set_option maxRecDepth 100000 in
set_option maxHeartbeats 16000000 in
theorem rof16_any (name : List UInt8) (hn : name.length ≤ maxLen) (t : ByteArray) (ht : t.size ≤ 1000000000) (l : List Nat) (tv : Value) (w : World) (H : UsAt l tv w) (hl : l.length ≤ 1000000) :
    Calls Tryd.prog 22 #[.string (str name), .string t, tv] w fun e w' => (∃ v, e = .returned (.tuple #[v, .bool (ofQ name t.data.toList l).isSome]) ∧ RpIs ((ofQ name t.data.toList l).getD Rp.zero) v w') ∧ Kept w w' := by
  obtain ⟨p, c, rfl, -, -⟩ := H.out encU
  obtain ⟨n, hn0⟩ : ∃ n, n = l.length := ⟨_, rfl⟩
  rw [← hn0] at H ⊢
  obtain ⟨tv, htv⟩ : ∃ tv, tv = Value.slice p n c := ⟨_, rfl⟩
  rw [← htv] at H
  have hS := data_len t
  obtain ⟨S, eS⟩ : ∃ S, S = t.data.toList := ⟨_, rfl⟩
  have CO := fun W => rofW_any t (by omega) W
  rw [← eS] at CO hS ⊢
  obtain ⟨G, hG⟩ : ∃ G, G = ofQ name S l := ⟨_, rfl⟩
  rw [← hG]
  have HG := Lib.hid hG
  have hwf : (ofR name S l).wf := ofR_wf hn (by omega)
  have CM := fun v W h => rmay16_any (ofR name S l) v W h hl
  obtain ⟨N, hN⟩ : ∃ N, N = str name := ⟨_, rfl⟩
  obtain ⟨z, hz⟩ : ∃ z, z = t.size := ⟨_, rfl⟩
  obtain ⟨x, hx⟩ : ∃ x, x = wRe 0 S := ⟨_, rfl⟩
  obtain ⟨y, hy⟩ : ∃ y, y = wIm 0 S := ⟨_, rfl⟩
  obtain ⟨W1, hW1⟩ : ∃ W1, W1 = w.alloc (.cells #[.string ⟨#[]⟩, .int .i64 0, .int .i64 0, .int .i64 0, .slice none 0 0] 24) := ⟨_, rfl⟩
  have HW1 := Lib.hid hW1
  have HK1 : Hid (Kept w W1) := Lib.hid (by rw [hW1]; exact box_below _ _)
  have HROW1 : Hid (Row5 w.heap.size (.string ⟨#[]⟩) (.int .i64 0) (.int .i64 0) (.int .i64 0) (.slice none 0 0) W1) := Lib.hid ⟨by rw [hW1]; exact heap_alloc_last w _⟩
  have HU := Lib.hid H
  have HX : Hid (rpC (ofR name S l) tv = #[.string N, .int .i64 (z : Int), .int .i64 x, .int .i64 y, .slice p n c]) := Lib.hid (by unfold rpC ofR; rw [hN, hx, hy, hz, hS, htv])
  have HWF := Lib.hid hwf
  have HCM := Lib.hid CM
  rw [← hx, ← hy] at CO
  rw [← hN]
  have hz' : t.size = z := hz.symm
  have HTV := Lib.hid htv
  clear hW1 H htv hn0 hS eS hG hwf CM hN hx hy hz ht
  go_enter Tryd.func22, Tryd.ntmps22
  go_wp2_with fail
  rw [← HW1.out]
  refine (CO W1).mono ?_
  rintro e W2 ⟨rfl, hb2⟩
  have HK2 : Hid (Kept w W2) := Lib.hid (HK1.out.then hb2)
  have HROW2 := Lib.hid (HROW1.out.later hb2)
  unfold wWQ
  clear hb2 HW1 HK1 HROW1 CO
  obtain ⟨W3, hW3⟩ : ∃ W, W = W2.alloc (.cells #[.int .i64 x, .int .i64 y] 87) := ⟨_, rfl⟩
  have k3 : Kept W2 W3 := by rw [hW3]; exact box_below _ _
  have row3 : W3.heap[W2.heap.size]? = some (.cells #[.int .i64 x, .int .i64 y] 87 (0, 0)) := by rw [hW3]; exact heap_alloc_last W2 _
  have s3 : W3.heap.size = W2.heap.size + 1 := by rw [hW3]; simp
  obtain ⟨b3, hb3⟩ : ∃ b, b = W2.heap.size := ⟨_, rfl⟩
  rw [← hb3] at row3
  have HB3 := Lib.hid hb3
  have c30 : W3.cell? ⟨b3, 0, none⟩ = some (.int .i64 x) := by rw [cell_of_row _ _ _ _ _ _ row3]; rfl
  have c31 : W3.cell? ⟨b3, 1, none⟩ = some (.int .i64 y) := by rw [cell_of_row _ _ _ _ _ _ row3]; rfl
  obtain ⟨W4, hW4⟩ : ∃ W, W = W3.alloc (.cells #[.string N, .int .i64 (z : Int), .int .i64 x, .int .i64 y, .slice p n c] 24) := ⟨_, rfl⟩
  have k4 : Kept W3 W4 := by rw [hW4]; exact box_below _ _
  have HK4 : Hid (Kept w W4) := Lib.hid ((HK2.out.then k3).then k4)
  have HROW4 := Lib.hid ((HROW2.out.later k3).later k4)
  have HR4 : Hid (Row5 (W2.heap.size + 1) (.string N) (.int .i64 (z : Int)) (.int .i64 x) (.int .i64 y) (.slice p n c) W4) := Lib.hid ⟨by rw [hW4, ← s3]; exact heap_alloc_last W3 _⟩
  have HW3 := Lib.hid hW3
  have HW4 := Lib.hid hW4
  clear k3 k4 row3 s3 HK2 HROW2 hb3 hW3 hW4
  go_wp2_with fail
  rw [← HW3.out]
  rw [← HW4.out]
  have HRP : Hid (RpIs (ofR name S l) (.agg #[.string N, .int .i64 (z : Int), .int .i64 x, .int .i64 y, .slice p n c]) W4) := Lib.hid ⟨tv, by rw [HX.out], HU.out.later HK4.out, HWF.out⟩
  have HMAY := Lib.hid (HCM.out _ W4 HRP.out)
  clear c30 c31 HW3 HW4 HB3
  by_cases hm : mayQ (ofR name S l)
  · have CM := HMAY.out
    rw [decide_eq_true hm] at CM
    have HYES : Hid (G = some (ofR name S l)) := Lib.hid (by rw [HG.out]; exact if_pos hm)
    clear hm HMAY
    refine CM.mono ?_
    rintro e W5 ⟨rfl, hb5⟩
    have HK5 := Lib.hid (HK4.out.then hb5)
    have HROW5 := Lib.hid (HROW4.out.later hb5)
    have HR5 := Lib.hid (HR4.out.later hb5)
    clear hb5 CM HK4 HROW4 HR4 HRP
    have e0 := HR5.out.c0
    have e1 := HR5.out.c1
    have e2 := HR5.out.c2
    have e3 := HR5.out.c3
    have e4 := HR5.out.c4
    have g0 := HROW5.out.c0
    have g1 := HROW5.out.c1
    have g2 := HROW5.out.c2
    have g3 := HROW5.out.c3
    have g4 := HROW5.out.c4
    have f0 := HROW5.out.fz 0
    have f1 := HROW5.out.fz 1
    have f2 := HROW5.out.fz 2
    have f3 := HROW5.out.fz 3
    have f4 := HROW5.out.fz 4
    go_wp2
    refine bodyPost_ret (results_cell_tmp_rowQ Tryd.results22 _ _ w.heap.size 24 #[.string N, .int .i64 (z : Int), .int .i64 x, .int .i64 y, .slice p n c] (0, 0) _ rfl (set5_rowQ HROW5.out.row _ _ _ _ _) Tryd.underlying24 rfl infoRp) rfl ?_
    have hk := below_set5Q (show Below w.heap.size w W5 from HK5.out) HK5.out.size (Nat.le_refl _) (.string N) (.int .i64 (z : Int)) (.int .i64 x) (.int .i64 y) (.slice p n c)
    refine ⟨⟨_, by rw [HYES.out]; rfl, ?_⟩, hk⟩
    rw [HYES.out]
    exact ⟨tv, congrArg Value.agg HX.out.symm, HU.out.later hk, HWF.out⟩
  · have CM := HMAY.out
    rw [decide_eq_false hm] at CM
    have HNO : Hid (G = none) := Lib.hid (by rw [HG.out]; exact if_neg hm)
    clear hm HMAY
    refine CM.mono ?_
    rintro e W5 ⟨rfl, hb5⟩
    have HK5 := Lib.hid (HK4.out.then hb5)
    have HROW5 := Lib.hid (HROW4.out.later hb5)
    clear hb5 CM HK4 HROW4 HR4 HRP
    have g0 := HROW5.out.c0
    have g1 := HROW5.out.c1
    have g2 := HROW5.out.c2
    have g3 := HROW5.out.c3
    have g4 := HROW5.out.c4
    have f0 := HROW5.out.fz 0
    have f1 := HROW5.out.fz 1
    have f2 := HROW5.out.fz 2
    have f3 := HROW5.out.fz 3
    have f4 := HROW5.out.fz 4
    go_wp2
    refine bodyPost_ret (results_cell_tmp_rowQ Tryd.results22 _ _ w.heap.size 24 #[.string ⟨#[]⟩, .int .i64 0, .int .i64 0, .int .i64 0, .slice none 0 0] (0, 0) _ rfl (set5_rowQ HROW5.out.row _ _ _ _ _) Tryd.underlying24 rfl infoRp) rfl ?_
    have hk := below_set5Q (show Below w.heap.size w W5 from HK5.out) HK5.out.size (Nat.le_refl _) (.string ⟨#[]⟩) (.int .i64 0) (.int .i64 0) (.int .i64 0) (.slice none 0 0)
    refine ⟨⟨_, by rw [HNO.out]; rfl, ?_⟩, hk⟩
    rw [HNO.out]
    exact RpIs.zero _

end Go.Proofs.YtijdbmapdmhknaaDoor
namespace Go.Proofs.YtijdbmapdmhknaaDoor
open Go.RowKit

theorem run_eqGuard_aggQ {P : Program} (w : World) (op : BinOp) (t : TypeId) (x y : Operand) (xs ys : Array Value) (hm : P.eqGuardType P.depth t = false) : (eqGuard op t x y (.agg xs) (.agg ys)).run P w = .ok () w := by
  cases op <;> simp [eqGuard, run_program, hm]
/-- Two records against each other, in every world of the class. -/
theorem wpQuiet_eqQ {P : Program} {ops : Array Oper} {C : World → Prop} {Q : Act → Prop} {a : Act} {o : Oper} {rest : List Oper} (hw : Region.wanted o (yielded ops a.tmps) = true) (ty ty' : TypeId) (x y : Operand) (ho : o.op = .binOp .eql ty x y ty')
    (xs ys : Array Value) (hx : a.eval x = .agg xs) (hy : a.eval y = .agg ys) (hm : P.eqGuardType P.depth ty = false) (q : Bool) (hr : ∀ W, (binOp .eql ty (.agg xs) (.agg ys)).run P W = .ok (.bool q) W)
    (h : ∀ K : Act → Prop, (∀ a, wpQuiet P ops C Q rest a → K a) → K (a.put o.dst (.bool q))) : wpQuiet P ops C Q (o :: rest) a := by
  refine wpQuiet_pure hw (.bool q) (fun W _ => ?_) h
  unfold execOp
  simp only [ho, hx, hy, Sem.run_bind, run_eqGuard_aggQ W .eql ty x y xs ys hm, Result.andThen_ok, hr W]
  rfl
set_option maxRecDepth 100000 in
/-- Two weights against each other. -/
theorem eq_wW (a b c d : Int) (w : World) : (binOp .eql 87 (.agg #[.int .i64 a, .int .i64 b]) (.agg #[.int .i64 c, .int .i64 d])).run Tryd.prog w = .ok (.bool (a == c && b == d)) w := by
  have h := run_equalIn_struct (P := Tryd.prog) w 9999 87 #[.int .i64 a, .int .i64 b] #[.int .i64 c, .int .i64 d] (by kernel_rfl) (by kernel_rfl)
  have h2 : (Op.equalIn 10000 87 (.agg #[.int .i64 a, .int .i64 b]) (.agg #[.int .i64 c, .int .i64 d])).run Tryd.prog w = .ok (a == c && b == d) w := by
    rw [show (10000 : Nat) = 9999 + 1 from rfl, h]
    obtain ⟨A, hA⟩ : ∃ A : Array Value, A = #[.int .i64 a, .int .i64 b] := ⟨_, rfl⟩
    obtain ⟨B, hB⟩ : ∃ A : Array Value, A = #[.int .i64 c, .int .i64 d] := ⟨_, rfl⟩
    rw [← hA, ← hB]
    show (Op.eqFields 9999 A B [_, _]).run Tryd.prog w = _
    rw [hA, hB]
    cases e1 : (a == c) with
    | false => go_simp
    | true =>
      cases e2 : (b == d) with
      | false => go_simp
      | true => go_simp
  rw [run_eql_struct, h2]
  rfl

set_option maxRecDepth 100000 in
set_option maxHeartbeats 16000000 in
theorem rfits16_any (r : Rp) (v : Value) (t : ByteArray) (ht : t.size ≤ 1000000000) (w : World) (H : RpIs r v w) (hl : r.mans.length ≤ 1000000) :
    Calls Tryd.prog 24 #[v, .string t] w fun e w' => e = .returned (.bool (decide (fitsQ r t.data.toList))) ∧ Kept w w' := by
  have CMa := fun W h => rmay16_any r v W h hl
  have hS := data_len t
  have CO := fun W => rofW_any t (by omega) W
  obtain ⟨S, eS⟩ : ∃ S, S = t.data.toList := ⟨_, rfl⟩
  rw [← eS] at CO hS ⊢
  have hq : fitsQ r S ↔ mayQ r ∧ (S.length : Int) = r.size ∧ wRe 0 S = r.re ∧ wIm 0 S = r.im := Iff.rfl
  have HU := Lib.hid H
  obtain ⟨tv, rfl, hm, hwf⟩ := H
  obtain ⟨p, c, rfl, -, -⟩ := hm.out encU
  unfold rpC at CMa HU ⊢
  obtain ⟨res, hres⟩ : ∃ x, x = decide (fitsQ r S) := ⟨_, rfl⟩
  obtain ⟨mq, hmq⟩ : ∃ x, x = decide (mayQ r) := ⟨_, rfl⟩
  obtain ⟨s, hs⟩ : ∃ s, s = str r.name := ⟨_, rfl⟩
  obtain ⟨z, hz⟩ : ∃ z, z = r.size := ⟨_, rfl⟩
  obtain ⟨x, hx⟩ : ∃ x, x = r.re := ⟨_, rfl⟩
  obtain ⟨y, hy⟩ : ∃ y, y = r.im := ⟨_, rfl⟩
  obtain ⟨n, hn⟩ : ∃ n, n = r.mans.length := ⟨_, rfl⟩
  obtain ⟨a, ha⟩ : ∃ a, a = wRe 0 S := ⟨_, rfl⟩
  obtain ⟨b, hb⟩ : ∃ a, a = wIm 0 S := ⟨_, rfl⟩
  rw [hS, ← hz, ← hx, ← hy, ← ha, ← hb] at hq
  rw [← ha, ← hb] at CO
  rw [← hs, ← hz, ← hx, ← hy, ← hn, ← hmq] at CMa
  rw [← hs, ← hz, ← hx, ← hy, ← hn] at HU
  rw [← hres, ← hs, ← hz, ← hx, ← hy, ← hn]
  have RT : Hid (mq = true → (t.size : Int) = z → (a == x && b == y) = res) := Lib.hid (fun h1 h2 => by
    rw [hres, Bool.eq_iff_iff, decide_eq_true_iff, hq]
    simp only [Bool.and_eq_true, beq_iff_eq]
    rw [hmq, decide_eq_true_iff] at h1
    exact ⟨fun h => ⟨h1, h2, h⟩, fun h => h.2.2⟩)
  have RF : Hid (mq = false → res = false) := Lib.hid (fun h => by
    rw [hres]
    refine decide_eq_false (fun e => ?_)
    rw [hmq, decide_eq_true (hq.1 e).1] at h
    cases h)
  have RF2 : Hid ((t.size : Int) ≠ z → res = false) := Lib.hid (fun h => by
    rw [hres]
    exact decide_eq_false (fun e => h (hq.1 e).2.1))
  obtain ⟨W1, hW1⟩ : ∃ W1, W1 = w.alloc (.cells #[.string s, .int .i64 z, .int .i64 x, .int .i64 y, .slice p n c] 24) := ⟨_, rfl⟩
  have HK1 : Hid (Kept w W1) := Lib.hid (by rw [hW1]; exact box_below _ _)
  have HR : Hid (Row5 w.heap.size (.string s) (.int .i64 z) (.int .i64 x) (.int .i64 y) (.slice p n c) W1) := Lib.hid ⟨by rw [hW1]; exact heap_alloc_last w _⟩
  have HW1 := Lib.hid hW1
  have CM0 := fun (W : World) (h : Kept W1 W) => Calls.kept_of h (CMa W (HU.out.later (HK1.out.then h)))
  have EQ := eq_wW a b x y
  clear hW1 CMa HU hm hwf hres hmq hs hz hx hy hn ha hb hq eS hS ht
  cases mq with
  | false =>
    obtain rfl : res = false := RF.out rfl
    clear RT RF RF2 EQ
    go_enter Tryd.func24, Tryd.ntmps24
    go_wp2_with fail
    rw [← HW1.out]
    refine wp_region_kept (by kernel_rfl) (by kernel_rfl) ?_
    refine wpQuiet_load_row (by kernel_rfl) _ _ rfl w.heap.size rfl 24 _ (0, 0) _ (fun _ h => h.row HR.out.row) Tryd.underlying24 rfl infoRp (fun K hK => ?_)
    go_simp
    refine hK _ ?_; clear hK K
    refine wpQuiet_call (by kernel_rfl) _ _ _ (fun W => by go_simp) (fun W h => CM0 W h) (fun K hK => ?_)
    go_simp
    refine hK _ ?_; clear hK K
    refine wpQuiet_pure (v := ?_) (by kernel_rfl) ?_ (fun K hK => ?_)
    case refine_2 => intro W _; go_simp; try with_reducible rfl
    go_simp
    refine hK _ ?_; clear hK K
    go_big_quiet_skip
    go_big_quiet_skip
    go_big_quiet_skip
    go_big_quiet_skip
    go_big_quiet_skip
    refine wpQuiet_pure (v := ?_) (by kernel_rfl) ?_ (fun K hK => ?_)
    case refine_2 => intro W _; go_simp; try with_reducible rfl
    go_simp
    refine hK _ ?_; clear hK K
    refine wpQuiet_pure (v := ?_) (by kernel_rfl) ?_ (fun K hK => ?_)
    case refine_2 => intro W _; go_simp; try with_reducible rfl
    go_simp
    refine hK _ ?_; clear hK K
    go_big_quiet_skip
    go_big_quiet_skip
    go_big_quiet_skip
    go_big_quiet_skip
    go_big_quiet_skip
    go_big_quiet_skip
    go_big_quiet_skip
    go_big_quiet_skip
    refine wpQuiet_pure (v := ?_) (by kernel_rfl) ?_ (fun K hK => ?_)
    case refine_2 => intro W _; go_simp; try with_reducible rfl
    go_simp
    refine hK _ ?_; clear hK K
    refine wpQuiet_pure (v := ?_) (by kernel_rfl) ?_ (fun K hK => ?_)
    case refine_2 => intro W _; go_simp; try with_reducible rfl
    go_simp
    refine hK _ ?_; clear hK K
    refine wpQuiet_nil ?_
    intro w9 hk9
    go_wp2
    go_ret
    exact ⟨rfl, HK1.out.then hk9⟩
  | true =>
    by_cases h1 : (t.size : Int) = z
    · have b1 : ((t.size : Int) == z) = true := beq_iff_eq.2 h1
      have hr := RT.out rfl h1
      rw [hr] at EQ
      clear RT RF RF2 h1 hr
      go_enter Tryd.func24, Tryd.ntmps24
      go_wp2_with fail
      rw [← HW1.out]
      refine wp_region_kept (by kernel_rfl) (by kernel_rfl) ?_
      refine wpQuiet_load_row (by kernel_rfl) _ _ rfl w.heap.size rfl 24 _ (0, 0) _ (fun _ h => h.row HR.out.row) Tryd.underlying24 rfl infoRp (fun K hK => ?_)
      go_simp
      refine hK _ ?_; clear hK K
      refine wpQuiet_call (by kernel_rfl) _ _ _ (fun W => by go_simp) (fun W h => CM0 W h) (fun K hK => ?_)
      go_simp
      refine hK _ ?_; clear hK K
      refine wpQuiet_pure (v := ?_) (by kernel_rfl) ?_ (fun K hK => ?_)
      case refine_2 => intro W _; go_simp; try with_reducible rfl
      go_simp
      refine hK _ ?_; clear hK K
      refine wpQuiet_pure (v := ?_) (by kernel_rfl) ?_ (fun K hK => ?_)
      case refine_2 => intro W _; go_simp; try with_reducible rfl
      go_simp
      refine hK _ ?_; clear hK K
      refine wpQuiet_pure (v := ?_) (by kernel_rfl) ?_ (fun K hK => ?_)
      case refine_2 => intro W _; go_simp; try with_reducible rfl
      go_simp
      refine hK _ ?_; clear hK K
      refine wpQuiet_pure (v := ?_) (by kernel_rfl) ?_ (fun K hK => ?_)
      case refine_2 => intro W _; go_simp; try with_reducible rfl
      go_simp
      refine hK _ ?_; clear hK K
      refine wpQuiet_load_int (by kernel_rfl) _ _ rfl ⟨w.heap.size, 1, none⟩ rfl _ Tryd.underlying3 _ (fun _ h => h.cell HR.out.c1) (fun K hK => ?_)
      go_simp
      refine hK _ ?_; clear hK K
      refine wpQuiet_pure (by kernel_rfl) (.bool true) (fun W _ => by go_simp) (fun K hK => ?_)
      go_simp
      refine hK _ ?_; clear hK K
      refine wpQuiet_pure (v := ?_) (by kernel_rfl) ?_ (fun K hK => ?_)
      case refine_2 => intro W _; go_simp; try with_reducible rfl
      go_simp
      refine hK _ ?_; clear hK K
      refine wpQuiet_pure (v := ?_) (by kernel_rfl) ?_ (fun K hK => ?_)
      case refine_2 => intro W _; go_simp; try with_reducible rfl
      go_simp
      refine hK _ ?_; clear hK K
      refine wpQuiet_pure (v := ?_) (by kernel_rfl) ?_ (fun K hK => ?_)
      case refine_2 => intro W _; go_simp; try with_reducible rfl
      go_simp
      refine hK _ ?_; clear hK K
      refine wpQuiet_call (by kernel_rfl) _ _ _ (fun W => by go_simp) (fun W h => Calls.kept_of h (CO W)) (fun K hK => ?_)
      go_simp
      refine hK _ ?_; clear hK K
      refine wpQuiet_pure (v := ?_) (by kernel_rfl) ?_ (fun K hK => ?_)
      case refine_2 => intro W _; go_simp; try with_reducible rfl
      go_simp
      refine hK _ ?_; clear hK K
      refine wpQuiet_load_int (by kernel_rfl) _ _ rfl ⟨w.heap.size, 2, none⟩ rfl _ Tryd.underlying3 _ (fun _ h => h.cell HR.out.c2) (fun K hK => ?_)
      go_simp
      refine hK _ ?_; clear hK K
      refine wpQuiet_pure (v := ?_) (by kernel_rfl) ?_ (fun K hK => ?_)
      case refine_2 => intro W _; go_simp; try with_reducible rfl
      go_simp
      refine hK _ ?_; clear hK K
      refine wpQuiet_load_int (by kernel_rfl) _ _ rfl ⟨w.heap.size, 3, none⟩ rfl _ Tryd.underlying3 _ (fun _ h => h.cell HR.out.c3) (fun K hK => ?_)
      go_simp
      refine hK _ ?_; clear hK K
      refine wpQuiet_pure (v := ?_) (by kernel_rfl) ?_ (fun K hK => ?_)
      case refine_2 => intro W _; go_simp; try with_reducible rfl
      go_simp
      refine hK _ ?_; clear hK K
      refine wpQuiet_eqQ (by kernel_rfl) _ _ _ _ rfl _ _ rfl rfl (by kernel_rfl) res (fun W => EQ W) (fun K hK => ?_)
      go_simp
      refine hK _ ?_; clear hK K
      refine wpQuiet_pure (v := ?_) (by kernel_rfl) ?_ (fun K hK => ?_)
      case refine_2 => intro W _; go_simp; try with_reducible rfl
      go_simp
      refine hK _ ?_; clear hK K
      refine wpQuiet_pure (v := ?_) (by kernel_rfl) ?_ (fun K hK => ?_)
      case refine_2 => intro W _; go_simp; try with_reducible rfl
      go_simp
      refine hK _ ?_; clear hK K
      refine wpQuiet_nil ?_
      intro w9 hk9
      go_wp2
      go_ret
      exact ⟨rfl, HK1.out.then hk9⟩
    · have b1 : ((t.size : Int) == z) = false := beq_eq_false_iff_ne.2 h1
      obtain rfl : res = false := RF2.out h1
      clear RT RF RF2 h1 EQ
      go_enter Tryd.func24, Tryd.ntmps24
      go_wp2_with fail
      rw [← HW1.out]
      refine wp_region_kept (by kernel_rfl) (by kernel_rfl) ?_
      refine wpQuiet_load_row (by kernel_rfl) _ _ rfl w.heap.size rfl 24 _ (0, 0) _ (fun _ h => h.row HR.out.row) Tryd.underlying24 rfl infoRp (fun K hK => ?_)
      go_simp
      refine hK _ ?_; clear hK K
      refine wpQuiet_call (by kernel_rfl) _ _ _ (fun W => by go_simp) (fun W h => CM0 W h) (fun K hK => ?_)
      go_simp
      refine hK _ ?_; clear hK K
      refine wpQuiet_pure (v := ?_) (by kernel_rfl) ?_ (fun K hK => ?_)
      case refine_2 => intro W _; go_simp; try with_reducible rfl
      go_simp
      refine hK _ ?_; clear hK K
      refine wpQuiet_pure (v := ?_) (by kernel_rfl) ?_ (fun K hK => ?_)
      case refine_2 => intro W _; go_simp; try with_reducible rfl
      go_simp
      refine hK _ ?_; clear hK K
      refine wpQuiet_pure (v := ?_) (by kernel_rfl) ?_ (fun K hK => ?_)
      case refine_2 => intro W _; go_simp; try with_reducible rfl
      go_simp
      refine hK _ ?_; clear hK K
      refine wpQuiet_pure (v := ?_) (by kernel_rfl) ?_ (fun K hK => ?_)
      case refine_2 => intro W _; go_simp; try with_reducible rfl
      go_simp
      refine hK _ ?_; clear hK K
      refine wpQuiet_load_int (by kernel_rfl) _ _ rfl ⟨w.heap.size, 1, none⟩ rfl _ Tryd.underlying3 _ (fun _ h => h.cell HR.out.c1) (fun K hK => ?_)
      go_simp
      refine hK _ ?_; clear hK K
      refine wpQuiet_pure (by kernel_rfl) (.bool false) (fun W _ => by go_simp) (fun K hK => ?_)
      go_simp
      refine hK _ ?_; clear hK K
      refine wpQuiet_pure (v := ?_) (by kernel_rfl) ?_ (fun K hK => ?_)
      case refine_2 => intro W _; go_simp; try with_reducible rfl
      go_simp
      refine hK _ ?_; clear hK K
      refine wpQuiet_pure (v := ?_) (by kernel_rfl) ?_ (fun K hK => ?_)
      case refine_2 => intro W _; go_simp; try with_reducible rfl
      go_simp
      refine hK _ ?_; clear hK K
      go_big_quiet_skip
      go_big_quiet_skip
      go_big_quiet_skip
      go_big_quiet_skip
      go_big_quiet_skip
      go_big_quiet_skip
      go_big_quiet_skip
      go_big_quiet_skip
      refine wpQuiet_pure (v := ?_) (by kernel_rfl) ?_ (fun K hK => ?_)
      case refine_2 => intro W _; go_simp; try with_reducible rfl
      go_simp
      refine hK _ ?_; clear hK K
      refine wpQuiet_pure (v := ?_) (by kernel_rfl) ?_ (fun K hK => ?_)
      case refine_2 => intro W _; go_simp; try with_reducible rfl
      go_simp
      refine hK _ ?_; clear hK K
      refine wpQuiet_nil ?_
      intro w9 hk9
      go_wp2
      go_ret
      exact ⟨rfl, HK1.out.then hk9⟩

end Go.Proofs.YtijdbmapdmhknaaDoor
