/- The document's Has, May, Same, Fits. The document's Same, SameAll, Fits. The document's bytes of runs, records, transactions. The document's bytes of a record, of a transaction. -/
import Derived.Test.YtoigembmbajopaaDoorGB
import Derived.Test.YtoigembmbajopaaDoorGD
import Derived.Test.YtoigembmbajopaaDoorGC
namespace Go.Proofs.YtoigembmbajopaaDoor
open Go.RowKit

/-- The load of a part of a row, in every world of the class. -/
theorem wpQuiet_load_part {P : Program} {ops : Array Oper} {C : World → Prop} {Q : Act → Prop} {a : Act} {o : Oper} {rest : List Oper} (hw : Region.wanted o (yielded ops a.tmps) = true) (ty : TypeId) (x : Operand) (ho : o.op = .load ty x)
    (b off : Nat) (hx : a.eval x = .pointer (some ⟨b, off, none⟩)) (cs : List Value) (d : TypeDesc) (hg : ∀ W, C W → W.rangeAt b off cs) (hu : P.underlying ty = some d) (hd : d.isRow = true) (hi : (P.info? ty).map (·.size) = some cs.length)
    (h : ∀ K : Act → Prop, (∀ a, wpQuiet P ops C Q rest a → K a) → K (a.put o.dst (.agg cs.toArray))) : wpQuiet P ops C Q (o :: rest) a := by
  refine wpQuiet_pure hw (.agg cs.toArray) (fun W hC => ?_) h
  unfold execOp
  simp only [ho, hx, Instr.loadAt, Instr.sureAddr, Sem.run_bind, Sem.run_pure, Result.andThen_ok, run_loadVar_mid W b off ty cs d (hg W hC) hu hd hi]

theorem results_tmp3 {fn : Func} {t u v : Tmp} (h : fn.results = #[.tmp t, .tmp u, .tmp v]) (tmps : Array Value) (P : Program) (w : World) :
    (results fn tmps).run P w = .ok (.tuple #[tmps.getD t undef, tmps.getD u undef, tmps.getD v undef]) w := by
  simp [results, h]

set_option maxRecDepth 100000 in
theorem rhas_any (k : Int) (w : World) : Calls Tryd.prog 38 #[.int .i64 k] w fun e w' => e = .returned (.tuple #[.bool (idK k), .bool (nameK k), .bool (blobK k)]) ∧ w = w' := by
  by_cases h1 : k = 1
  · subst h1
    go_enter Tryd.func38, Tryd.ntmps38
    go_wp2
    refine bodyPost_ret (results_tmp3 rfl _ _ _) rfl ?_
    exact ⟨rfl, rfl⟩
  by_cases h2 : k = 2
  · subst h2
    go_enter Tryd.func38, Tryd.ntmps38
    go_wp2
    refine bodyPost_ret (results_tmp3 rfl _ _ _) rfl ?_
    exact ⟨rfl, rfl⟩
  by_cases h3 : k = 3
  · subst h3
    go_enter Tryd.func38, Tryd.ntmps38
    go_wp2
    refine bodyPost_ret (results_tmp3 rfl _ _ _) rfl ?_
    exact ⟨rfl, rfl⟩
  by_cases h4 : k = 4
  · subst h4
    go_enter Tryd.func38, Tryd.ntmps38
    go_wp2
    refine bodyPost_ret (results_tmp3 rfl _ _ _) rfl ?_
    exact ⟨rfl, rfl⟩
  by_cases h5 : k = 5
  · subst h5
    go_enter Tryd.func38, Tryd.ntmps38
    go_wp2
    refine bodyPost_ret (results_tmp3 rfl _ _ _) rfl ?_
    exact ⟨rfl, rfl⟩
  by_cases h6 : k = 6
  · subst h6
    go_enter Tryd.func38, Tryd.ntmps38
    go_wp2
    refine bodyPost_ret (results_tmp3 rfl _ _ _) rfl ?_
    exact ⟨rfl, rfl⟩
  have e1 : (k == 1) = false := by simpa using h1
  have e2 : (k == 2) = false := by simpa using h2
  have e3 : (k == 3) = false := by simpa using h3
  have e4 : (k == 4) = false := by simpa using h4
  have e5 : (k == 5) = false := by simpa using h5
  have e6 : (k == 6) = false := by simpa using h6
  have HI : Hid (idK k = false ∧ nameK k = false ∧ blobK k = false) := Lib.hid (by unfold idK nameK blobK; rw [e1, e2, e3, e4, e5, e6]; exact ⟨rfl, rfl, rfl⟩)
  clear h1 h2 h3 h4 h5 h6
  go_enter Tryd.func38, Tryd.ntmps38
  go_wp2
  refine bodyPost_ret (results_tmp3 rfl _ _ _) rfl ?_
  refine ⟨?_, rfl⟩
  rw [HI.out.1, HI.out.2.1, HI.out.2.2]
  rfl

set_option maxRecDepth 100000 in
set_option maxHeartbeats 8000000 in
theorem rmay13_any (r : Rc) (tv : Value) (w : World) (h : RecAt r tv w) (hl : r.runs.length ≤ 1048576) :
    Calls Tryd.prog 11 #[recV r tv] w fun e w' => e = .returned (.bool (decide (mayR r))) ∧ Kept w w' := by
  obtain ⟨p, c, htv, -, -⟩ := h.runs.out
  subst htv
  obtain ⟨k, n, N, z, rn⟩ := r
  have hruns := h.runs
  have hwf := h.wf
  obtain ⟨hk, hn, hN, hz⟩ := hwf
  simp only at hruns hk hn hN hz hl
  obtain ⟨res, hres⟩ : ∃ res, res = decide (mayR ⟨k, n, N, z, rn⟩) := ⟨_, rfl⟩
  rw [← hres]
  have HRES : Hid (res = decide (mayR ⟨k, n, N, z, rn⟩)) := Lib.hid hres
  unfold recV recC
  simp only
  obtain ⟨B, hB⟩ : ∃ B, B = str N := ⟨_, rfl⟩
  have hBs : B.size = N.length := by rw [hB, str_size]
  rw [← hB]
  obtain ⟨nl, hnl⟩ : ∃ nl, nl = N.length := ⟨_, rfl⟩
  have HNL := Lib.hid hnl
  rw [← hnl] at hBs hN
  obtain ⟨rl, hrl⟩ : ∃ rl, rl = rn.length := ⟨_, rfl⟩
  have HRL := Lib.hid hrl
  have HRV : Hid (RunsAt rn (.slice p rl c) w) := Lib.hid (by rw [hrl]; exact hruns)
  rw [← hrl]
  have HLL := Lib.hid hl
  obtain ⟨ib, hib⟩ : ∃ ib, ib = idK k := ⟨_, rfl⟩
  obtain ⟨nb, hnb⟩ : ∃ nb, nb = nameK k := ⟨_, rfl⟩
  obtain ⟨bb, hbb⟩ : ∃ bb, bb = blobK k := ⟨_, rfl⟩
  have HF : Hid (¬ mayR ⟨k, n, N, z, rn⟩ → res = false) := Lib.hid (fun x => by rw [hres]; exact decide_eq_false x)
  have HD : Hid (mayR ⟨k, n, N, z, rn⟩ ↔ (ib = true ∨ nb = true) ∧ (ib = true ↔ 1 ≤ n) ∧ n ≤ 4294967294 ∧ (nb = true ↔ 1 ≤ nl) ∧ nl ≤ 48 ∧
    ((bb = true ∧ (0 ≤ z ∧ z ≤ 1048576) ∧ rl ≤ 16 ∧ validL 0 8192 rn ∧ sumR rn = needN z) ∨ (bb = false ∧ z = 0 ∧ rl = 0))) := Lib.hid (by rw [hib, hnb, hbb, hnl, hrl]; exact Iff.rfl)
  have H := fun W => rhas_any k W
  rw [← hib, ← hnb, ← hbb] at H
  have hex : ib = true → nb = false := fun e => by rw [hnb]; exact id_or_name (hib.symm.trans e)
  have HKA : Hid (Kept w (w.alloc (.cells #[.int .i64 k, .int .u32 (n : Nat), .string B, .int .i64 z, .slice p rl c] 30))) := Lib.hid (box_below _ _)
  clear hres hB hnl hrl hib hnb hbb hruns h hl hn hN hk
  by_cases g0 : ib = false ∧ nb = false
  · obtain ⟨rfl, rfl⟩ := g0
    have e := HF.out (fun x => by have := (HD.out.1 x).1; simp at this)
    clear hex
    go_enter Tryd.func11, Tryd.ntmps11
    go_wp2_with fail
    refine (H _).mono ?_
    rintro e w1 ⟨rfl, hw1⟩
    subst hw1
    clear H
    go_wp2
    go_ret
    exact ⟨by rw [e]; rfl, HKA.out⟩
  have hcase : (ib = true ∧ nb = false) ∨ (ib = false ∧ nb = true) := by
    cases ib with
    | true => exact Or.inl ⟨rfl, hex rfl⟩
    | false =>
      cases nb with
      | true => exact Or.inr ⟨rfl, rfl⟩
      | false => exact absurd ⟨rfl, rfl⟩ g0
  clear g0 hex
  by_cases q1 : (ib = true ↔ 1 ≤ n)
  · have c1 : decide ((n : Int) ≥ 1) = ib := by
      cases ib with
      | true => exact decide_eq_true (by have := q1.1 rfl; omega)
      | false => exact decide_eq_false (fun y => by have := q1.2 (by omega); cases this)
    by_cases q2 : n ≤ 4294967294
    · have c2 : decide ((n : Int) > 4294967294) = false := decide_eq_false (by omega)
      by_cases q3 : (nb = true ↔ 1 ≤ nl)
      · have c3 : decide ((B.size : Int) ≥ 1) = nb := by
          cases nb with
          | true => exact decide_eq_true (by have := q3.1 rfl; omega)
          | false => exact decide_eq_false (fun y => by have := q3.2 (by omega); cases this)
        by_cases q4 : nl ≤ 48
        · have c4 : decide ((B.size : Int) > 48) = false := decide_eq_false (by omega)
          have HQ : Hid ((ib = true ∨ nb = true) ∧ (ib = true ↔ 1 ≤ n) ∧ n ≤ 4294967294 ∧ (nb = true ↔ 1 ≤ nl) ∧ nl ≤ 48) := Lib.hid ⟨by rcases hcase with ⟨a, _⟩ | ⟨_, a⟩ <;> simp [a], q1, q2, q3, q4⟩
          clear q1 q2 q3 q4 hBs
          cases bb with
          | false =>
            by_cases y1 : z = 0
            · by_cases y2 : rl = 0
              · have hR : Hid (res = true) := Lib.hid (by rw [HRES.out]; exact decide_eq_true (HD.out.2 ⟨HQ.out.1, HQ.out.2.1, HQ.out.2.2.1, HQ.out.2.2.2.1, HQ.out.2.2.2.2, Or.inr ⟨rfl, y1, y2⟩⟩))
                have d1 : (z == 0) = true := by rw [beq_iff_eq]; exact y1
                have d2 : ((rl : Int) == 0) = true := by rw [beq_iff_eq]; omega
                clear y1 y2
                rcases hcase with ⟨rfl, rfl⟩ | ⟨rfl, rfl⟩
                all_goals
                  go_enter Tryd.func11, Tryd.ntmps11
                  go_wp2_with fail
                  refine (H _).mono ?_
                  rintro e w1 ⟨rfl, hw1⟩
                  subst hw1
                  clear H
                  go_wp2
                  go_ret
                  exact ⟨by rw [hR.out]; rfl, HKA.out⟩
              · have hR : Hid (res = false) := Lib.hid (HF.out (fun x => by have := (HD.out.1 x).2.2.2.2.2; simp at this; omega))
                have d1 : (z == 0) = true := by rw [beq_iff_eq]; exact y1
                have d2 : ((rl : Int) == 0) = false := by rw [beq_eq_false_iff_ne]; omega
                clear y1 y2
                rcases hcase with ⟨rfl, rfl⟩ | ⟨rfl, rfl⟩
                all_goals
                  go_enter Tryd.func11, Tryd.ntmps11
                  go_wp2_with fail
                  refine (H _).mono ?_
                  rintro e w1 ⟨rfl, hw1⟩
                  subst hw1
                  clear H
                  go_wp2
                  go_ret
                  exact ⟨by rw [hR.out]; rfl, HKA.out⟩
            · have hR : Hid (res = false) := Lib.hid (HF.out (fun x => by have := (HD.out.1 x).2.2.2.2.2; simp at this; omega))
              have d1 : (z == 0) = false := by rw [beq_eq_false_iff_ne]; exact y1
              clear y1
              rcases hcase with ⟨rfl, rfl⟩ | ⟨rfl, rfl⟩
              all_goals
                go_enter Tryd.func11, Tryd.ntmps11
                go_wp2_with fail
                refine (H _).mono ?_
                rintro e w1 ⟨rfl, hw1⟩
                subst hw1
                clear H
                go_wp2
                go_ret
                exact ⟨by rw [hR.out]; rfl, HKA.out⟩
          | true =>
            by_cases y1 : z < 0
            · have hR : Hid (res = false) := Lib.hid (HF.out (fun x => by have := (HD.out.1 x).2.2.2.2.2; simp at this; omega))
              have d1 : decide (z < 0) = true := decide_eq_true y1
              rcases hcase with ⟨rfl, rfl⟩ | ⟨rfl, rfl⟩
              all_goals
                go_enter Tryd.func11, Tryd.ntmps11
                go_wp2_with fail
                refine (H _).mono ?_
                rintro e w1 ⟨rfl, hw1⟩
                subst hw1
                clear H
                go_wp2
                go_ret
                exact ⟨by rw [hR.out]; rfl, HKA.out⟩
            · have d1 : decide (z < 0) = false := decide_eq_false y1
              by_cases y2 : z > 1048576
              · have hR : Hid (res = false) := Lib.hid (HF.out (fun x => by have := (HD.out.1 x).2.2.2.2.2; simp at this; omega))
                have d2 : decide (z > 1048576) = true := decide_eq_true y2
                rcases hcase with ⟨rfl, rfl⟩ | ⟨rfl, rfl⟩
                all_goals
                  go_enter Tryd.func11, Tryd.ntmps11
                  go_wp2_with fail
                  refine (H _).mono ?_
                  rintro e w1 ⟨rfl, hw1⟩
                  subst hw1
                  clear H
                  go_wp2
                  go_ret
                  exact ⟨by rw [hR.out]; rfl, HKA.out⟩
              · have d2 : decide (z > 1048576) = false := decide_eq_false y2
                by_cases y3 : (rl : Int) > 16
                · have hR : Hid (res = false) := Lib.hid (HF.out (fun x => by have := (HD.out.1 x).2.2.2.2.2; simp at this; omega))
                  have d3 : decide ((rl : Int) > 16) = true := decide_eq_true y3
                  rcases hcase with ⟨rfl, rfl⟩ | ⟨rfl, rfl⟩
                  all_goals
                    go_enter Tryd.func11, Tryd.ntmps11
                    go_wp2_with fail
                    refine (H _).mono ?_
                    rintro e w1 ⟨rfl, hw1⟩
                    subst hw1
                    clear H
                    go_wp2
                    go_ret
                    exact ⟨by rw [hR.out]; rfl, HKA.out⟩
                · have d3 : decide ((rl : Int) > 16) = false := decide_eq_false y3
                  have CR := fun W (k' : Kept w W) => rruns11_any rn (.slice p rl c) W (HRV.out.later k') HLL.out 0 8192 (by omega) (by omega)
                  have CN := fun W => rneed_kept z hz W
                  obtain ⟨vb, hvb⟩ : ∃ vb, vb = decide (validL 0 8192 rn ∧ rn.length ≤ 16) := ⟨_, rfl⟩
                  rw [← hvb] at CR
                  have HVB := Lib.hid hvb
                  have HY : Hid (0 ≤ z ∧ z ≤ 1048576 ∧ rl ≤ 16) := Lib.hid (by omega)
                  have cz0 : ∀ W, Kept (w.alloc (.cells #[.int .i64 k, .int .u32 (n : Nat), .string B, .int .i64 z, .slice p rl c] 30)) W → W.cell? ⟨w.heap.size, 3, none⟩ = some (.int .i64 z) := fun W k' => Kept.cell k' (by rw [cell_of_row _ _ _ _ _ _ (heap_alloc_last w _)]; rfl)
                  have cz1 : ∀ W, Kept (w.alloc (.cells #[.int .i64 k, .int .u32 (n : Nat), .string B, .int .i64 z, .slice p rl c] 30)) W → W.cell? ⟨w.heap.size, 4, none⟩ = some (.slice p rl c) := fun W k' => Kept.cell k' (by rw [cell_of_row _ _ _ _ _ _ (heap_alloc_last w _)]; rfl)
                  clear hvb y1 y2 y3 hz
                  cases vb with
                  | false =>
                    have hR : Hid (res = false) := Lib.hid (HF.out (fun x => by
                      rcases (HD.out.1 x).2.2.2.2.2 with y | y
                      · exact absurd ⟨y.2.2.2.1, by rw [← HRL.out]; exact y.2.2.1⟩ (of_decide_eq_false HVB.out.symm)
                      · cases y.1))
                    rcases hcase with ⟨rfl, rfl⟩ | ⟨rfl, rfl⟩
                    all_goals
                      go_enter Tryd.func11, Tryd.ntmps11
                      go_wp2_with fail
                      refine (H _).mono ?_
                      rintro e w1 ⟨rfl, hw1⟩
                      subst hw1
                      clear H
                      go_wp2_with fail
                      refine wp_region_kept (by kernel_rfl) (by kernel_rfl) ?_
                      refine wpQuiet_pure (v := ?_) (by kernel_rfl) ?_ (fun K hK => ?_)
                      case refine_2 => intro W _; go_simp; try with_reducible rfl
                      go_simp
                      refine hK _ ?_; clear hK K
                      refine wpQuiet_load_cell (by kernel_rfl) _ _ rfl ⟨w.heap.size, 4, none⟩ rfl _ Tryd.underlying28 rfl _ (fun W h => cz1 W h) (fun K hK => ?_)
                      go_simp
                      refine hK _ ?_; clear hK K
                      refine wpQuiet_call (by kernel_rfl) _ _ _ (fun W => by go_simp) (fun W h => Calls.kept_of h (CR W (HKA.out.then h))) (fun K hK => ?_)
                      go_simp
                      refine hK _ ?_; clear hK K
                      refine wpQuiet_pure (v := ?_) (by kernel_rfl) ?_ (fun K hK => ?_)
                      case refine_2 => intro W _; go_simp; try with_reducible rfl
                      go_simp
                      refine hK _ ?_; clear hK K
                      go_big_quiet_skip
                      go_big_quiet_skip
                      go_big_quiet_skip
                      go_big_quiet_skip
                      go_big_quiet_skip
                      go_big_quiet_skip
                      go_big_quiet_skip
                      refine wpQuiet_pure (v := ?_) (by kernel_rfl) ?_ (fun K hK => ?_)
                      case refine_2 => intro W _; go_simp; try with_reducible rfl
                      go_simp
                      refine hK _ ?_; clear hK K
                      refine wpQuiet_pure (v := ?_) (by kernel_rfl) ?_ (fun K hK => ?_)
                      case refine_2 => intro W _; go_simp; try with_reducible rfl
                      go_simp
                      refine hK _ ?_; clear hK K
                      refine wpQuiet_nil ?_
                      intro w2 hk2
                      go_wp2
                      go_ret
                      exact ⟨by rw [hR.out]; rfl, HKA.out.then hk2⟩
                  | true =>
                    have HV := Lib.hid (of_decide_eq_true HVB.out.symm)
                    have CS := fun W (k' : Kept w W) => rsum11_kept rn (.slice p rl c) W (HRV.out.later k') HLL.out (validL_len HV.out.1 (by omega) (by omega))
                    obtain ⟨sm, hsm⟩ : ∃ sm, sm = sumR rn := ⟨_, rfl⟩
                    obtain ⟨nn, hnn⟩ : ∃ nn, nn = needN z := ⟨_, rfl⟩
                    rw [← hsm] at CS
                    rw [← hnn] at CN
                    have hR : Hid (res = (sm == nn)) := Lib.hid (by
                      rw [HRES.out, hsm, hnn, Bool.eq_iff_iff, decide_eq_true_iff, beq_iff_eq]
                      refine ⟨fun x => ?_, fun x => HD.out.2 ⟨HQ.out.1, HQ.out.2.1, HQ.out.2.2.1, HQ.out.2.2.2.1, HQ.out.2.2.2.2, Or.inl ⟨rfl, ⟨HY.out.1, HY.out.2.1⟩, HY.out.2.2, HV.out.1, x⟩⟩⟩
                      rcases (HD.out.1 x).2.2.2.2.2 with y | y
                      · exact y.2.2.2.2
                      · cases y.1)
                    obtain ⟨eb, heb⟩ : ∃ eb, eb = (sm == nn) := ⟨_, rfl⟩
                    have heb2 : (sm == nn) = eb := heb.symm
                    rw [← heb] at hR
                    clear hsm hnn heb
                    rcases hcase with ⟨rfl, rfl⟩ | ⟨rfl, rfl⟩
                    all_goals
                      go_enter Tryd.func11, Tryd.ntmps11
                      go_wp2_with fail
                      refine (H _).mono ?_
                      rintro e w1 ⟨rfl, hw1⟩
                      subst hw1
                      clear H
                      go_wp2_with fail
                      refine wp_region_kept (by kernel_rfl) (by kernel_rfl) ?_
                      refine wpQuiet_pure (v := ?_) (by kernel_rfl) ?_ (fun K hK => ?_)
                      case refine_2 => intro W _; go_simp; try with_reducible rfl
                      go_simp
                      refine hK _ ?_; clear hK K
                      refine wpQuiet_load_cell (by kernel_rfl) _ _ rfl ⟨w.heap.size, 4, none⟩ rfl _ Tryd.underlying28 rfl _ (fun W h => cz1 W h) (fun K hK => ?_)
                      go_simp
                      refine hK _ ?_; clear hK K
                      refine wpQuiet_call (by kernel_rfl) _ _ _ (fun W => by go_simp) (fun W h => Calls.kept_of h (CR W (HKA.out.then h))) (fun K hK => ?_)
                      go_simp
                      refine hK _ ?_; clear hK K
                      refine wpQuiet_pure (v := ?_) (by kernel_rfl) ?_ (fun K hK => ?_)
                      case refine_2 => intro W _; go_simp; try with_reducible rfl
                      go_simp
                      refine hK _ ?_; clear hK K
                      refine wpQuiet_pure (v := ?_) (by kernel_rfl) ?_ (fun K hK => ?_)
                      case refine_2 => intro W _; go_simp; try with_reducible rfl
                      go_simp
                      refine hK _ ?_; clear hK K
                      refine wpQuiet_load_cell (by kernel_rfl) _ _ rfl ⟨w.heap.size, 4, none⟩ rfl _ Tryd.underlying28 rfl _ (fun W h => cz1 W h) (fun K hK => ?_)
                      go_simp
                      refine hK _ ?_; clear hK K
                      refine wpQuiet_call (by kernel_rfl) _ _ _ (fun W => by go_simp) (fun W h => Calls.kept_of h (CS W (HKA.out.then h))) (fun K hK => ?_)
                      go_simp
                      refine hK _ ?_; clear hK K
                      refine wpQuiet_pure (v := ?_) (by kernel_rfl) ?_ (fun K hK => ?_)
                      case refine_2 => intro W _; go_simp; try with_reducible rfl
                      go_simp
                      refine hK _ ?_; clear hK K
                      refine wpQuiet_load_cell (by kernel_rfl) _ _ rfl ⟨w.heap.size, 3, none⟩ rfl _ Tryd.underlying3 rfl _ (fun W h => cz0 W h) (fun K hK => ?_)
                      go_simp
                      refine hK _ ?_; clear hK K
                      refine wpQuiet_call (by kernel_rfl) _ _ _ (fun W => by go_simp) (fun W h => Calls.kept_of h (CN W)) (fun K hK => ?_)
                      go_simp
                      refine hK _ ?_; clear hK K
                      refine wpQuiet_pure (v := ?_) (by kernel_rfl) ?_ (fun K hK => ?_)
                      case refine_2 => intro W _; go_simp; try with_reducible rfl
                      go_simp
                      refine hK _ ?_; clear hK K
                      refine wpQuiet_pure (v := ?_) (by kernel_rfl) ?_ (fun K hK => ?_)
                      case refine_2 => intro W _; go_simp; try with_reducible rfl
                      go_simp
                      refine hK _ ?_; clear hK K
                      refine wpQuiet_pure (v := ?_) (by kernel_rfl) ?_ (fun K hK => ?_)
                      case refine_2 => intro W _; go_simp; try with_reducible rfl
                      go_simp
                      refine hK _ ?_; clear hK K
                      refine wpQuiet_nil ?_
                      intro w2 hk2
                      go_wp2
                      go_ret
                      exact ⟨by rw [hR.out]; rfl, HKA.out.then hk2⟩
        · have c4 : decide ((B.size : Int) > 48) = true := decide_eq_true (by omega)
          have hR : Hid (res = false) := Lib.hid (HF.out (fun x => q4 (HD.out.1 x).2.2.2.2.1))
          clear q1 q2 q3 q4 hBs
          rcases hcase with ⟨rfl, rfl⟩ | ⟨rfl, rfl⟩
          all_goals
            go_enter Tryd.func11, Tryd.ntmps11
            go_wp2_with fail
            refine (H _).mono ?_
            rintro e w1 ⟨rfl, hw1⟩
            subst hw1
            clear H
            go_wp2
            go_ret
            exact ⟨by rw [hR.out]; rfl, HKA.out⟩
      · have c3 : decide ((B.size : Int) ≥ 1) = !nb := by
          cases nb with
          | true => exact decide_eq_false (fun y => q3 ⟨fun _ => by omega, fun _ => rfl⟩)
          | false => exact decide_eq_true (Classical.byContradiction fun y => q3 ⟨fun z => (by cases z), fun z => absurd z (by omega)⟩)
        have hR : Hid (res = false) := Lib.hid (HF.out (fun x => q3 (HD.out.1 x).2.2.2.1))
        clear q1 q2 q3 hBs
        rcases hcase with ⟨rfl, rfl⟩ | ⟨rfl, rfl⟩
        all_goals
          go_enter Tryd.func11, Tryd.ntmps11
          go_wp2_with fail
          refine (H _).mono ?_
          rintro e w1 ⟨rfl, hw1⟩
          subst hw1
          clear H
          go_wp2
          go_ret
          exact ⟨by rw [hR.out]; rfl, HKA.out⟩
    · have c2 : decide ((n : Int) > 4294967294) = true := decide_eq_true (by omega)
      have hR : Hid (res = false) := Lib.hid (HF.out (fun x => q2 (HD.out.1 x).2.2.1))
      clear q1 q2 hBs
      rcases hcase with ⟨rfl, rfl⟩ | ⟨rfl, rfl⟩
      all_goals
        go_enter Tryd.func11, Tryd.ntmps11
        go_wp2_with fail
        refine (H _).mono ?_
        rintro e w1 ⟨rfl, hw1⟩
        subst hw1
        clear H
        go_wp2
        go_ret
        exact ⟨by rw [hR.out]; rfl, HKA.out⟩
  · have c1 : decide ((n : Int) ≥ 1) = !ib := by
      cases ib with
      | true => exact decide_eq_false (fun y => q1 ⟨fun _ => by omega, fun _ => rfl⟩)
      | false => exact decide_eq_true (Classical.byContradiction fun y => q1 ⟨fun z => (by cases z), fun z => absurd z (by omega)⟩)
    have hR : Hid (res = false) := Lib.hid (HF.out (fun x => q1 (HD.out.1 x).2.1))
    clear q1 hBs
    rcases hcase with ⟨rfl, rfl⟩ | ⟨rfl, rfl⟩
    all_goals
      go_enter Tryd.func11, Tryd.ntmps11
      go_wp2_with fail
      refine (H _).mono ?_
      rintro e w1 ⟨rfl, hw1⟩
      subst hw1
      clear H
      go_wp2
      go_ret
      exact ⟨by rw [hR.out]; rfl, HKA.out⟩


end Go.Proofs.YtoigembmbajopaaDoor
namespace Go.Proofs.YtoigembmbajopaaDoor
open Go.RowKit

theorem str_inj {a b : List UInt8} (h : str a = str b) : a = b := by rw [← str_list a, ← str_list b, h]
theorem txt_eq (a : ByteArray) : (a.toList == a.toList) = true := by simp
theorem txt_ne {a b : ByteArray} (h : a ≠ b) : (a.toList == b.toList) = false := text_neS h

set_option maxRecDepth 100000 in
set_option maxHeartbeats 8000000 in
theorem rsame13_any (r q : Rc) (tv uv : Value) (w : World) (h : RecAt r tv w) (h2 : RecAt q uv w) (hl : r.runs.length ≤ 1048576) :
    Calls Tryd.prog 14 #[recV r tv, recV q uv] w fun e w' => e = .returned (.bool (decide (r = q))) ∧ Kept w w' := by
  obtain ⟨p, c, htv, -, -⟩ := h.runs.out
  obtain ⟨p', c', huv, -, -⟩ := h2.runs.out
  subst htv huv
  obtain ⟨k, n, N, z, rn⟩ := r
  obtain ⟨k', n', N', z', rn'⟩ := q
  have hr := h.runs
  have hr2 := h2.runs
  simp only at hr hr2 hl
  have CS := fun W (kk : Kept w W) => rsameRuns_any rn rn' _ _ W (hr.later kk) (hr2.later kk) hl
  obtain ⟨res, hres⟩ : ∃ res, res = decide ((⟨k, n, N, z, rn⟩ : Rc) = ⟨k', n', N', z', rn'⟩) := ⟨_, rfl⟩
  rw [← hres]
  have HI : Hid (res = true ↔ k = k' ∧ n = n' ∧ N = N' ∧ z = z' ∧ rn = rn') := Lib.hid (by rw [hres, decide_eq_true_iff]; exact Rc.ext_iff' _ _)
  have HF : Hid (¬ (k = k' ∧ n = n' ∧ N = N' ∧ z = z' ∧ rn = rn') → res = false) := Lib.hid (fun x => by
    cases e : res with
    | false => rfl
    | true => exact absurd (HI.out.1 e) x)
  unfold recV recC
  simp only
  have HN : Hid (str N = str N' → N = N') := Lib.hid str_inj
  obtain ⟨A, hA⟩ : ∃ A, A = str N := ⟨_, rfl⟩
  obtain ⟨B, hB⟩ : ∃ B, B = str N' := ⟨_, rfl⟩
  have HNA : Hid (N = N' → A = B) := Lib.hid (fun e => by rw [hA, hB, e])
  rw [← hA, ← hB] at HN ⊢
  obtain ⟨la, hla⟩ : ∃ la, la = rn.length := ⟨_, rfl⟩
  obtain ⟨lb, hlb⟩ : ∃ lb, lb = rn'.length := ⟨_, rfl⟩
  rw [← hla] at CS ⊢
  rw [← hlb] at CS ⊢
  have HK : Hid (Kept w ((w.alloc (.cells #[.int .i64 k, .int .u32 (n : Nat), .string A, .int .i64 z, .slice p la c] 30)).alloc (.cells #[.int .i64 k', .int .u32 (n' : Nat), .string B, .int .i64 z', .slice p' lb c'] 30))) := Lib.hid ((show Kept w _ from box_below _ _).then (show Kept _ _ from box_below _ _))
  clear hres hA hB hla hlb hr hr2 h h2 hl
  by_cases g1 : k = k'
  · by_cases g2 : n = n'
    · by_cases g3 : A = B
      · by_cases g4 : z = z'
        · obtain ⟨sb, hsb⟩ : ∃ sb, sb = decide (rn = rn') := ⟨_, rfl⟩
          rw [← hsb] at CS
          have hR : Hid (res = sb) := Lib.hid (by
            cases sb with
            | true => exact HI.out.2 ⟨g1, g2, HN.out g3, g4, of_decide_eq_true hsb.symm⟩
            | false => exact HF.out (fun x => of_decide_eq_false hsb.symm x.2.2.2.2))
          have b1 : (k == k') = true := by rw [beq_iff_eq]; exact g1
          have b2 : ((n : Int) == (n' : Int)) = true := by rw [beq_iff_eq, g2]
          have b3 : (A.toList == B.toList) = true := by rw [g3]; exact txt_eq B
          have b4 : (z == z') = true := by rw [beq_iff_eq]; exact g4
          clear g1 g2 g3 g4 hsb HN HNA HF HI
          go_enter Tryd.func14, Tryd.ntmps14
          go_wp2_with fail
          refine (CS _ HK.out).mono ?_
          rintro e w1 ⟨rfl, hb1⟩
          have K1 := Lib.hid (HK.out.then hb1)
          clear CS hb1
          go_wp2
          go_ret
          exact ⟨by rw [hR.out]; rfl, K1.out⟩
        · have hR : Hid (res = false) := Lib.hid (HF.out (fun x => g4 x.2.2.2.1))
          have b1 : (k == k') = true := by rw [beq_iff_eq]; exact g1
          have b2 : ((n : Int) == (n' : Int)) = true := by rw [beq_iff_eq, g2]
          have b3 : (A.toList == B.toList) = true := by rw [g3]; exact txt_eq B
          have b4 : (z == z') = false := by rw [beq_eq_false_iff_ne]; exact g4
          clear g1 g2 g3 g4 HN HNA HF HI CS
          go_enter Tryd.func14, Tryd.ntmps14
          go_wp2
          go_ret
          exact ⟨by rw [hR.out]; rfl, HK.out⟩
      · have hR : Hid (res = false) := Lib.hid (HF.out (fun x => g3 (HNA.out x.2.2.1)))
        have b1 : (k == k') = true := by rw [beq_iff_eq]; exact g1
        have b2 : ((n : Int) == (n' : Int)) = true := by rw [beq_iff_eq, g2]
        have b3 : (A.toList == B.toList) = false := txt_ne g3
        clear g1 g2 g3 HN HNA HF HI CS
        go_enter Tryd.func14, Tryd.ntmps14
        go_wp2
        go_ret
        exact ⟨by rw [hR.out]; rfl, HK.out⟩
    · have hR : Hid (res = false) := Lib.hid (HF.out (fun x => g2 x.2.1))
      have b1 : (k == k') = true := by rw [beq_iff_eq]; exact g1
      have b2 : ((n : Int) == (n' : Int)) = false := by rw [beq_eq_false_iff_ne]; omega
      clear g1 g2 HN HNA HF HI CS
      go_enter Tryd.func14, Tryd.ntmps14
      go_wp2
      go_ret
      exact ⟨by rw [hR.out]; rfl, HK.out⟩
  · have hR : Hid (res = false) := Lib.hid (HF.out (fun x => g1 x.1))
    have b1 : (k == k') = false := by rw [beq_eq_false_iff_ne]; exact g1
    clear g1 HN HNA HF HI CS
    go_enter Tryd.func14, Tryd.ntmps14
    go_wp2
    go_ret
    exact ⟨by rw [hR.out]; rfl, HK.out⟩

/-- The cells of a record in a slice, as a range. -/
theorem range_rec {w : World} {b off : Nat} {r : Rc} {tv : Value} (h : ∀ j, j < 5 → w.cell? ⟨b, off + j, none⟩ = (recC r tv)[j]?) : w.rangeAt b off (recC r tv).toList := fun j v hv => by
  have hj : j < 5 := (List.getElem?_eq_some_iff.1 hv).1
  rw [h j hj, ← Array.getElem?_toList]
  exact hv

theorem range_kept {w w' : World} {b off : Nat} {cs : List Value} (h : w.rangeAt b off cs) (k : Kept w w') : w'.rangeAt b off cs := fun j v hv => Kept.cell k (h j v hv)
theorem RecsIn.at_k {A : List (Rc × Value)} {L : List Rc} {p : Option Addr} {m c : Nat} {w : World} (h : RecsIn A (.slice p m c) w) (e : A.map Prod.fst = L) (i : Nat) (hi : i < m) :
    ∃ (r : Rc) (tv : Value), L[i]? = some r ∧ r ∈ L ∧ RecAt r tv w ∧ ∃ b off, p = some ⟨b, off, none⟩ ∧ w.rangeAt b (off + i * 5) (recC r tv).toList := by
  obtain ⟨p', c', he, -, hc⟩ := h.out
  simp only [Value.slice.injEq] at he
  obtain ⟨rfl, rfl, rfl⟩ := he
  have e1 : L[i]? = some A[i].1 := by rw [← e, List.getElem?_map, List.getElem?_eq_getElem hi]; rfl
  refine ⟨A[i].1, A[i].2, e1, List.mem_of_getElem? e1, h.each _ (List.getElem_mem hi), ?_⟩
  rcases hc with h0 | ⟨b, off, hp, hc⟩
  · omega
  · exact ⟨b, off, hp, range_rec (hc i hi)⟩
theorem take_same {L M : List Rc} {k : Nat} {r q : Rc} (h : L.take k = M.take k) (h1 : L[k]? = some r) (h2 : M[k]? = some q) : (r = q → L.take (k + 1) = M.take (k + 1)) ∧ (r ≠ q → L ≠ M) := by
  refine ⟨fun e => ?_, fun e x => e ?_⟩
  · rw [List.take_add_one, List.take_add_one, h, h1, h2, e]
  · rw [x, h2] at h1; exact (Option.some.inj h1).symm

set_option maxRecDepth 100000 in
set_option maxHeartbeats 8000000 in
theorem rsameAll_any (L M : List Rc) (u v : Value) (w : World) (h : RecsAt L u w) (h2 : RecsAt M v w) (hl : L.length ≤ 1048576) (hr : ∀ r ∈ L, r.runs.length ≤ 1048576) :
    Calls Tryd.prog 18 #[u, v] w fun e w' => e = .returned (.bool (decide (L = M))) ∧ Kept w w' := by
  obtain ⟨A, eA, hA⟩ := h
  obtain ⟨B, eB, hB⟩ := h2
  have lA := RecsIn.len eA
  have lB := RecsIn.len eB
  obtain ⟨p, c, rfl, -, -⟩ := hA.out
  obtain ⟨p', c', rfl, -, -⟩ := hB.out
  have gA := fun i hi => hA.at_k eA i hi
  have gB := fun i hi => hB.at_k eB i hi
  obtain ⟨n, hn⟩ : ∃ n, n = A.length := ⟨_, rfl⟩
  obtain ⟨m, hm⟩ : ∃ m, m = B.length := ⟨_, rfl⟩
  rw [← hn] at lA gA ⊢
  rw [← hm] at lB gB ⊢
  rw [lA] at hl
  have HRL := Lib.hid hr
  by_cases hnm : n = m
  · subst hnm
    have b0 : ((n : Int) != (n : Int)) = false := by simp
    have GA := Lib.hid gA
    have GB := Lib.hid gB
    have HLN : Hid (L.length = n ∧ M.length = n) := Lib.hid ⟨lA, lB⟩
    clear hA hB eA eB hn hm lA lB gA gB hr
    go_enter Tryd.func18, Tryd.ntmps18
    go_wp2
    go_loopg [5] n (fun gh s5 wx => ∃ k : Nat, k + gh = n ∧ s5 = .int .i64 k ∧ Hid (L.take k = M.take k) ∧ Hid (Kept w wx))
    case atStart => exact ⟨0, by omega, rfl, Lib.hid rfl, Lib.hid (Kept.refl w)⟩
    case round =>
      obtain ⟨k, hk, rfl, HT, HK⟩ := hrel
      by_cases hkn : k < n
      · have hki : (k : Int) < n := by omega
        have bk : decide ((k : Int) < (n : Int)) = true := by simpa using hki
        have hki0 : (0 : Int) ≤ k := by omega
        obtain ⟨k1, hk1⟩ : ∃ k1, k1 = k + 1 := ⟨_, rfl⟩
        have v1 : IntKind.i64.wrap ((k : Int) + 1) = (k1 : Int) := by rw [show (k : Int) + 1 = (k1 : Int) by omega]; exact IntWalk.i64_in _ (by omega)
        obtain ⟨r, tv, e1, hrm, hra, b, off, rfl, hrg⟩ := GA.out k hkn
        obtain ⟨q, uv, e2, -, hqa, b', off', rfl, hqg⟩ := GB.out k hkn
        have CS := fun W (kk : Kept w W) => rsame13_any r q tv uv W (hra.later kk) (hqa.later kk) (HRL.out r hrm)
        have HST := Lib.hid (take_same HT.out e1 e2)
        unfold recV at CS
        obtain ⟨X, hX⟩ : ∃ X, X = recC r tv := ⟨_, rfl⟩
        obtain ⟨Y, hY⟩ : ∃ Y, Y = recC q uv := ⟨_, rfl⟩
        rw [← hX] at CS hrg
        rw [← hY] at CS hqg
        have HXs : Hid ((Tryd.prog.info? 30).map (·.size) = some X.size) := Lib.hid (by rw [hX]; exact infoRc)
        have HYs : Hid ((Tryd.prog.info? 30).map (·.size) = some Y.size) := Lib.hid (by rw [hY]; exact infoRc)
        have HX := range_kept hrg HK.out
        have HY := range_kept hqg HK.out
        obtain ⟨sb, hsb⟩ : ∃ sb, sb = decide (r = q) := ⟨_, rfl⟩
        rw [← hsb] at CS
        have HSB := Lib.hid hsb
        have HK1 := Lib.hid hk1
        clear e1 e2 hra hqa hrg hqg hX hY hsb hrm HT hk1
        go_wp2_with fail
        refine wp_region_kept (by kernel_rfl) (by kernel_rfl) ?_
        refine wpQuiet_pure (v := ?_) (by kernel_rfl) ?_ (fun K hK => ?_)
        case refine_2 => intro W _; go_simp; try with_reducible rfl
        go_simp
        refine hK _ ?_; clear hK K
        refine wpQuiet_pure (v := ?_) (by kernel_rfl) ?_ (fun K hK => ?_)
        case refine_2 => intro W _; go_simp; try with_reducible rfl
        go_simp
        refine hK _ ?_; clear hK K
        refine wpQuiet_pure (v := ?_) (by kernel_rfl) ?_ (fun K hK => ?_)
        case refine_2 => intro W _; go_simp; try with_reducible rfl
        go_simp
        refine hK _ ?_; clear hK K
        refine wpQuiet_load_part (by kernel_rfl) _ _ rfl b (off + k * 5) rfl X.toList _ (fun W h => range_kept HX h) Tryd.underlying30 rfl (by rw [Array.length_toList]; exact HXs.out) (fun K hK => ?_)
        go_simp
        refine hK _ ?_; clear hK K
        refine wpQuiet_pure (v := ?_) (by kernel_rfl) ?_ (fun K hK => ?_)
        case refine_2 => intro W _; go_simp; try with_reducible rfl
        go_simp
        refine hK _ ?_; clear hK K
        refine wpQuiet_pure (v := ?_) (by kernel_rfl) ?_ (fun K hK => ?_)
        case refine_2 => intro W _; go_simp; try with_reducible rfl
        go_simp
        refine hK _ ?_; clear hK K
        refine wpQuiet_pure (v := ?_) (by kernel_rfl) ?_ (fun K hK => ?_)
        case refine_2 => intro W _; go_simp; try with_reducible rfl
        go_simp
        refine hK _ ?_; clear hK K
        refine wpQuiet_load_part (by kernel_rfl) _ _ rfl b' (off' + k * 5) rfl Y.toList _ (fun W h => range_kept HY h) Tryd.underlying30 rfl (by rw [Array.length_toList]; exact HYs.out) (fun K hK => ?_)
        go_simp
        refine hK _ ?_; clear hK K
        refine wpQuiet_call (by kernel_rfl) _ _ _ (fun W => by go_simp) (fun W h => Calls.kept_of h (CS W (HK.out.then h))) (fun K hK => ?_)
        go_simp
        refine hK _ ?_; clear hK K
        refine wpQuiet_pure (v := ?_) (by kernel_rfl) ?_ (fun K hK => ?_)
        case refine_2 => intro W _; go_simp; try with_reducible rfl
        go_simp
        refine hK _ ?_; clear hK K
        refine wpQuiet_nil ?_
        intro w2 hk2
        have K2 : Hid (Kept w w2) := Lib.hid (HK.out.then hk2)
        cases sb with
        | true =>
          have HT2 : Hid (L.take k1 = M.take k1) := Lib.hid (by rw [HK1.out]; exact HST.out.1 (of_decide_eq_true HSB.out.symm))
          clear HX HY CS hk2
          go_wp2
          go_roundg (n - k1)
          · exact ⟨k1, by have := HK1.out; omega, by first | rfl | (have := HK1.out; simp; omega), HT2, K2⟩
          · have := HK1.out; omega
        | false =>
          have HR : Hid (decide (L = M) = false) := Lib.hid (decide_eq_false (HST.out.2 (of_decide_eq_false HSB.out.symm)))
          clear HX HY CS hk2
          go_wp2
          go_ret
          exact ⟨by rw [HR.out]; rfl, K2.out⟩
      · have hki : ¬ (k : Int) < n := by omega
        have bk : decide ((k : Int) < (n : Int)) = false := by simpa using hki
        have HR : Hid (decide (L = M) = true) := Lib.hid (decide_eq_true (by
          have h := HT.out
          rw [List.take_of_length_le (by rw [HLN.out.1]; omega), List.take_of_length_le (by rw [HLN.out.2]; omega)] at h
          exact h))
        clear HT
        go_wp2
        go_ret
        exact ⟨by rw [HR.out]; rfl, HK.out⟩
  · have b0 : ((n : Int) != (m : Int)) = true := by rw [bne_iff_ne]; omega
    have HR : Hid (decide (L = M) = false) := Lib.hid (decide_eq_false (fun e => hnm (by rw [← lA, ← lB, e])))
    clear hA hB eA eB hn hm lA lB hr gA gB hnm
    go_enter Tryd.func18, Tryd.ntmps18
    go_wp2
    go_ret
    exact ⟨by rw [HR.out]; rfl, Kept.refl w⟩

/-- May a journal of so many sectors, of which so many bytes are used, be on a disk of so many? -/
def jFits (n j u : Int) : Prop := 1 ≤ j ∧ j ≤ n - 2 ∧ 0 ≤ u ∧ u ≤ j * 128
instance (n j u : Int) : Decidable (jFits n j u) := by unfold jFits; infer_instance
set_option maxRecDepth 100000 in
theorem rfits_any (n j u : Int) (hn : 0 ≤ n ∧ n ≤ 8192) (w : World) :
    Calls Tryd.prog 25 #[.int .i64 n, .int .i64 j, .int .i64 u] w fun e w' => e = .returned (.bool (decide (jFits n j u))) ∧ w = w' := by
  obtain ⟨res, hres⟩ : ∃ res, res = decide (jFits n j u) := ⟨_, rfl⟩
  rw [← hres]
  obtain ⟨d, hd⟩ : ∃ d, d = n - 2 := ⟨_, rfl⟩
  have v1 : IntKind.i64.wrap (n - 2) = d := by rw [← hd]; exact IntWalk.i64_in _ (by omega)
  have HD : Hid (res = true ↔ 1 ≤ j ∧ j ≤ d ∧ 0 ≤ u ∧ u ≤ j * 128) := Lib.hid (by rw [hres, decide_eq_true_iff, hd]; exact Iff.rfl)
  have HF : Hid (¬ (1 ≤ j ∧ j ≤ d ∧ 0 ≤ u ∧ u ≤ j * 128) → res = false) := Lib.hid (fun x => by
    cases e : res with
    | false => rfl
    | true => exact absurd (HD.out.1 e) x)
  have hd2 : d ≤ 8190 := by omega
  clear hres hd hn
  by_cases g1 : j ≥ 1
  · have b1 : decide (j ≥ 1) = true := decide_eq_true g1
    by_cases g2 : j ≤ d
    · have b2 : decide (j ≤ d) = true := decide_eq_true g2
      by_cases g3 : u ≥ 0
      · have b3 : decide (u ≥ 0) = true := decide_eq_true g3
        obtain ⟨q, hq⟩ : ∃ q, q = j * 128 := ⟨_, rfl⟩
        have v2 : IntKind.i64.wrap (j * 128) = q := by rw [← hq]; exact IntWalk.i64_in _ (by omega)
        obtain ⟨b, hb⟩ : ∃ b, b = decide (u ≤ q) := ⟨_, rfl⟩
        have b4 : decide (u ≤ q) = b := hb.symm
        have HR : Hid (res = b) := Lib.hid (by
          cases b with
          | true => exact HD.out.2 ⟨g1, g2, g3, by rw [← hq]; exact of_decide_eq_true hb.symm⟩
          | false => exact HF.out (fun x => of_decide_eq_false hb.symm (by rw [hq]; exact x.2.2.2)))
        clear g1 g2 g3 hq hb hd2
        go_enter Tryd.func25, Tryd.ntmps25
        go_wp2
        go_ret
        exact ⟨by rw [HR.out]; rfl, rfl⟩
      · have b3 : decide (u ≥ 0) = false := decide_eq_false g3
        have HR : Hid (res = false) := Lib.hid (HF.out (fun x => g3 x.2.2.1))
        clear g1 g2 g3 hd2
        go_enter Tryd.func25, Tryd.ntmps25
        go_wp2
        go_ret
        exact ⟨by rw [HR.out]; rfl, rfl⟩
    · have b2 : decide (j ≤ d) = false := decide_eq_false g2
      have HR : Hid (res = false) := Lib.hid (HF.out (fun x => g2 x.2.1))
      clear g1 g2 hd2
      go_enter Tryd.func25, Tryd.ntmps25
      go_wp2
      go_ret
      exact ⟨by rw [HR.out]; rfl, rfl⟩
  · have b1 : decide (j ≥ 1) = false := decide_eq_false g1
    have HR : Hid (res = false) := Lib.hid (HF.out (fun x => g1 x.1))
    clear g1 hd2
    go_enter Tryd.func25, Tryd.ntmps25
    go_wp2
    go_ret
    exact ⟨by rw [HR.out]; rfl, rfl⟩

end Go.Proofs.YtoigembmbajopaaDoor
namespace Go.Proofs.YtoigembmbajopaaDoor
open Go.RowKit

set_option maxRecDepth 100000 in
theorem rptext_any (t : ByteArray) (ht : t.size ≤ 4294967295) (w : World) :
    Calls Tryd.prog 92 #[.string t] w fun e w' => e = .returned (.string (str (textB t))) ∧ Below w.heap.size w w' := by
  have u1 : IntKind.u64.wrap (t.size : Int) = (t.size : Int) := IntWalk.u64_in _ (by omega)
  obtain ⟨n, hn⟩ : ∃ n, n = t.size := ⟨_, rfl⟩
  obtain ⟨N, hN⟩ : ∃ N, N = str (leB 4 n) := ⟨_, rfl⟩
  have CN := fun W => rpnum_kept 4 n 4 rfl (by omega) (by omega) N hN W
  obtain ⟨R, hR⟩ : ∃ R, R = N ++ t := ⟨_, rfl⟩
  have c0 : N ++ t = R := hR.symm
  have HR : Hid (R = str (textB t)) := Lib.hid (by
    rw [hR, hN, hn]
    unfold textB
    rw [← str_append, str_data])
  have s0 : ¬ 9223372036854775807 < N.size + t.size := by rw [hN, str_size, leB_len]; omega
  rw [hn] at CN
  clear hR hN hn
  go_enter Tryd.func92, Tryd.ntmps92
  go_wp2_with fail
  refine (CN _).mono ?_
  rintro e w1 ⟨rfl, hb1⟩
  have K1 := Lib.hid hb1
  clear hb1 CN
  go_wp2
  go_ret
  exact ⟨by rw [HR.out]; rfl, K1.out⟩

set_option maxRecDepth 100000 in
set_option maxHeartbeats 8000000 in
theorem rruns13_any (l : List (Int × Int)) (v : Value) (w : World) (h : RunsAt l v w) (hv : ∀ r ∈ l, (0 ≤ r.1 ∧ r.1 < 65536) ∧ 0 ≤ r.2 ∧ r.2 < 65536) (hl : l.length ≤ 1000) :
    Calls Tryd.prog 93 #[v] w fun e w' => e = .returned (.string (str (leB 2 l.length ++ runsB l))) ∧ Kept w w' := by
  obtain ⟨p, c, rfl, -, hcell⟩ := h.out
  have HC := Lib.hid hcell
  obtain ⟨n, hn⟩ : ∃ n, n = l.length := ⟨_, rfl⟩
  have HN := Lib.hid hn
  have HV := Lib.hid hv
  rw [← hn] at hl ⊢
  have u1 : IntKind.u64.wrap (n : Int) = (n : Int) := IntWalk.u64_in _ (by omega)
  obtain ⟨N, hNN⟩ : ∃ N, N = str (leB 2 n) := ⟨_, rfl⟩
  have CN := fun W => rpnum_kept 2 n 2 rfl (by omega) (by omega) N hNN W
  have HS0 : Hid (N = str (leB 2 n ++ runsB (l.take 0))) := Lib.hid (by rw [hNN]; show _ = str (leB 2 n ++ []); rw [List.append_nil])
  have HZ0 : Hid (N.size = 2 + 4 * 0) := Lib.hid (by rw [hNN, str_size, leB_len])
  clear hcell hn h hv hNN
  go_enter Tryd.func93, Tryd.ntmps93
  go_wp2_with fail
  refine (CN _).mono ?_
  rintro e w1 ⟨rfl, hb1⟩
  have K1 := Lib.hid hb1
  clear hb1 CN
  go_wp2
  go_loopg [3, 4] n (fun gh s3 s4 wx => ∃ (k : Nat) (X : ByteArray), k + gh = n ∧ s3 = .string X ∧ s4 = .int .i64 k ∧ Hid (X = str (leB 2 n ++ runsB (l.take k))) ∧ Hid (X.size = 2 + 4 * k) ∧ Hid (Kept w wx))
  case atStart => exact ⟨0, N, by omega, rfl, rfl, HS0, HZ0, K1⟩
  case round =>
    obtain ⟨k, X, hk, rfl, rfl, HX, HXZ, HKX⟩ := hrel
    have xz := HXZ.out
    by_cases hkn : k < n
    · have hki : (k : Int) < n := by omega
      have bk : decide ((k : Int) < (n : Int)) = true := by simpa using hki
      have hki0 : (0 : Int) ≤ k := by omega
      have hka : k < l.length := by rw [← HN.out]; exact hkn
      rcases HC.out with h0 | ⟨ba, oa, rfl, hcell⟩
      · omega
      have hkw : Kept w wr := HKX.out
      have d1 := hkw.cell (hcell k hka).1
      have d2 := hkw.cell (hcell k hka).2
      have hvr := HV.out _ (List.getElem_mem hka)
      have htk := runsB_take l k hka
      obtain ⟨⟨a, b⟩, hab⟩ : ∃ r, r = l[k] := ⟨_, rfl⟩
      rw [← hab] at d1 d2 htk hvr
      simp only at d1 d2 htk hvr
      obtain ⟨a, rfl⟩ : ∃ z : Nat, a = z := ⟨a.toNat, by omega⟩
      obtain ⟨b, rfl⟩ : ∃ z : Nat, b = z := ⟨b.toNat, by omega⟩
      simp only [Int.toNat_natCast] at htk
      obtain ⟨k1, hk1⟩ : ∃ k1, k1 = k + 1 := ⟨_, rfl⟩
      have v1 : IntKind.i64.wrap ((k : Int) + 1) = (k1 : Int) := by rw [show (k : Int) + 1 = (k1 : Int) by omega]; exact IntWalk.i64_in _ (by omega)
      have u6 : IntKind.u64.wrap (a : Int) = a := IntWalk.u64_in _ (by omega)
      have u7 : IntKind.u64.wrap (b : Int) = b := IntWalk.u64_in _ (by omega)
      obtain ⟨N0, h0⟩ : ∃ N, N = str (leB 2 a) := ⟨_, rfl⟩
      obtain ⟨N1, h1⟩ : ∃ N, N = str (leB 2 b) := ⟨_, rfl⟩
      have C0 := fun W => rpnum_kept 2 a 2 rfl (by omega) (by omega) N0 h0 W
      have C1 := fun W => rpnum_kept 2 b 2 rfl (by omega) (by omega) N1 h1 W
      have z0 : N0.size = 2 := by rw [h0, str_size, leB_len]
      have z1 : N1.size = 2 := by rw [h1, str_size, leB_len]
      obtain ⟨B0, k0⟩ : ∃ B, B = X ++ N0 := ⟨_, rfl⟩
      obtain ⟨B1, k1'⟩ : ∃ B, B = B0 ++ N1 := ⟨_, rfl⟩
      have y0 : B0.size = 2 + 4 * k + 2 := by rw [k0, ByteArray.size_append]; omega
      have y1 : B1.size = 2 + 4 * k1 := by rw [k1', ByteArray.size_append]; omega
      have HX1 : Hid (B1 = str (leB 2 n ++ runsB (l.take k1))) := Lib.hid (by
        rw [k1', k0, h0, h1, HX.out, hk1, htk]
        simp only [str_append, List.append_assoc])
      have HY1 := Lib.hid y1
      have c0 : X ++ N0 = B0 := k0.symm
      have c1 : B0 ++ N1 = B1 := k1'.symm
      have s0 : ¬ 9223372036854775807 < 2 + 4 * k + 2 := by omega
      have s1 : ¬ 9223372036854775807 < 2 + 4 * k + 2 + 2 := by omega
      clear hkw hab hvr htk h0 h1 k0 k1' hcell HX HXZ HS0 HZ0
      go_wp2_with fail
      refine wp_region_kept (by kernel_rfl) (by kernel_rfl) ?_
      refine wpQuiet_pure (v := ?_) (by kernel_rfl) ?_ (fun K hK => ?_)
      case refine_2 => intro W _; go_simp; try with_reducible rfl
      go_simp
      refine hK _ ?_; clear hK K
      refine wpQuiet_pure (v := ?_) (by kernel_rfl) ?_ (fun K hK => ?_)
      case refine_2 => intro W _; go_simp; try with_reducible rfl
      go_simp
      refine hK _ ?_; clear hK K
      refine wpQuiet_pure (v := ?_) (by kernel_rfl) ?_ (fun K hK => ?_)
      case refine_2 => intro W _; go_simp; try with_reducible rfl
      go_simp
      refine hK _ ?_; clear hK K
      refine wpQuiet_pure (v := ?_) (by kernel_rfl) ?_ (fun K hK => ?_)
      case refine_2 => intro W _; go_simp; try with_reducible rfl
      go_simp
      refine hK _ ?_; clear hK K
      refine wpQuiet_pure (v := ?_) (by kernel_rfl) ?_ (fun K hK => ?_)
      case refine_2 => intro W _; go_simp; try with_reducible rfl
      go_simp
      refine hK _ ?_; clear hK K
      refine wpQuiet_pure (v := ?_) (by kernel_rfl) ?_ (fun K hK => ?_)
      case refine_2 => intro W hW; have e0 := hW.cell d1; go_simp; try with_reducible rfl
      go_simp
      refine hK _ ?_; clear hK K
      refine wpQuiet_pure (v := ?_) (by kernel_rfl) ?_ (fun K hK => ?_)
      case refine_2 => intro W _; go_simp; try with_reducible rfl
      go_simp
      refine hK _ ?_; clear hK K
      refine wpQuiet_call (by kernel_rfl) _ _ _ (fun W => by go_simp) (fun W h => Calls.kept_of h (C0 W)) (fun K hK => ?_)
      go_simp
      refine hK _ ?_; clear hK K
      refine wpQuiet_pure (v := ?_) (by kernel_rfl) ?_ (fun K hK => ?_)
      case refine_2 => intro W _; go_simp; try with_reducible rfl
      go_simp
      refine hK _ ?_; clear hK K
      refine wpQuiet_pure (v := ?_) (by kernel_rfl) ?_ (fun K hK => ?_)
      case refine_2 => intro W _; go_simp; try with_reducible rfl
      go_simp
      refine hK _ ?_; clear hK K
      refine wpQuiet_pure (v := ?_) (by kernel_rfl) ?_ (fun K hK => ?_)
      case refine_2 => intro W _; go_simp; try with_reducible rfl
      go_simp
      refine hK _ ?_; clear hK K
      refine wpQuiet_pure (v := ?_) (by kernel_rfl) ?_ (fun K hK => ?_)
      case refine_2 => intro W _; go_simp; try with_reducible rfl
      go_simp
      refine hK _ ?_; clear hK K
      refine wpQuiet_pure (v := ?_) (by kernel_rfl) ?_ (fun K hK => ?_)
      case refine_2 => intro W _; go_simp; try with_reducible rfl
      go_simp
      refine hK _ ?_; clear hK K
      refine wpQuiet_pure (v := ?_) (by kernel_rfl) ?_ (fun K hK => ?_)
      case refine_2 => intro W hW; have e0 := hW.cell d2; go_simp; try with_reducible rfl
      go_simp
      refine hK _ ?_; clear hK K
      refine wpQuiet_pure (v := ?_) (by kernel_rfl) ?_ (fun K hK => ?_)
      case refine_2 => intro W _; go_simp; try with_reducible rfl
      go_simp
      refine hK _ ?_; clear hK K
      refine wpQuiet_call (by kernel_rfl) _ _ _ (fun W => by go_simp) (fun W h => Calls.kept_of h (C1 W)) (fun K hK => ?_)
      go_simp
      refine hK _ ?_; clear hK K
      refine wpQuiet_pure (v := ?_) (by kernel_rfl) ?_ (fun K hK => ?_)
      case refine_2 => intro W _; go_simp; try with_reducible rfl
      go_simp
      refine hK _ ?_; clear hK K
      refine wpQuiet_pure (v := ?_) (by kernel_rfl) ?_ (fun K hK => ?_)
      case refine_2 => intro W _; go_simp; try with_reducible rfl
      go_simp
      refine hK _ ?_; clear hK K
      refine wpQuiet_nil ?_
      intro w2 hk2
      have K2 := Lib.hid ((show Kept w wr from HKX.out).then hk2)
      have HK1 := Lib.hid hk1
      clear HKX C0 C1 d1 d2 hk2 hk1
      go_wp2
      go_roundg (n - k1)
      · exact ⟨k1, B1, by have := HK1.out; omega, rfl, by first | rfl | (have := HK1.out; simp; omega), HX1, HY1, K2⟩
      · have := HK1.out; omega
    · have hki : ¬ (k : Int) < n := by omega
      have bk : decide ((k : Int) < (n : Int)) = false := by simpa using hki
      have HR : Hid (X = str (leB 2 n ++ runsB l)) := Lib.hid (by
        have h := HX.out
        rw [List.take_of_length_le (by rw [← HN.out]; omega)] at h
        exact h)
      clear HX
      go_wp2
      go_ret
      exact ⟨by rw [← HR.out]; rfl, HKX.out⟩

end Go.Proofs.YtoigembmbajopaaDoor
namespace Go.Proofs.YtoigembmbajopaaDoor
open Go.RowKit

set_option maxRecDepth 100000 in
set_option maxHeartbeats 8000000 in
theorem rrec13_any (r : Rc) (tv : Value) (w : World) (h : RecAt r tv w) (hm : mayR r) :
    Calls Tryd.prog 57 #[recV r tv] w fun e w' => e = .returned (.string (str (recB r))) ∧ Kept w w' := by
  obtain ⟨p, c, htv, -, -⟩ := h.runs.out
  subst htv
  have hk := mayR_kind hm
  have hidm := hm.2.2.1
  have hnm := hm.2.2.2.2.1
  have hbl := hm.2.2.2.2.2
  obtain ⟨res, hres⟩ : ∃ res, res = recB r := ⟨_, rfl⟩
  have HRE : Hid (res = recB r) := Lib.hid hres
  rw [← hres]
  have hruns := h.runs
  obtain ⟨k, n, N, z, rn⟩ := r
  simp only at hk hidm hnm hbl hruns
  unfold recB at HRE
  simp only at HRE
  obtain ⟨k, rfl⟩ : ∃ q : Nat, k = q := ⟨k.toNat, by omega⟩
  unfold recV recC
  simp only
  obtain ⟨B, hB⟩ : ∃ B, B = str N := ⟨_, rfl⟩
  have hBs : B.size ≤ 48 := by rw [hB, str_size]; exact hnm
  rw [← hB]
  obtain ⟨rl, hrl⟩ : ∃ rl, rl = rn.length := ⟨_, rfl⟩
  rw [← hrl]
  have HRV : Hid (RunsAt rn (.slice p rl c) w) := Lib.hid (by rw [hrl]; exact hruns)
  obtain ⟨ib, hib⟩ : ∃ ib, ib = idK (k : Int) := ⟨_, rfl⟩
  obtain ⟨nb, hnb⟩ : ∃ nb, nb = nameK (k : Int) := ⟨_, rfl⟩
  obtain ⟨bb, hbb⟩ : ∃ bb, bb = blobK (k : Int) := ⟨_, rfl⟩
  have H := fun W => rhas_any (k : Int) W
  rw [← hib, ← hnb, ← hbb] at H
  rw [← hib, ← hbb, ← hB, ← hrl] at HRE
  rw [← hbb] at hbl
  rw [Int.toNat_natCast] at HRE
  have u0 : IntKind.u64.wrap (k : Int) = (k : Int) := IntWalk.u64_in _ (by omega)
  have u1 : IntKind.u64.wrap (n : Int) = (n : Int) := IntWalk.u64_in _ (by omega)
  obtain ⟨X0, h0⟩ : ∃ N, N = str (leB 1 k) := ⟨_, rfl⟩
  have C0 := fun W => rpnum_kept 1 k 1 rfl (by omega) (by omega) X0 h0 W
  have x0 : X0.size = 1 := by rw [h0, str_size, leB_len]
  obtain ⟨A, hA⟩ : ∃ A, A = (if ib = true then leB 4 n else textB B) := ⟨_, rfl⟩
  rw [← hA] at HRE
  have ha : A.length ≤ 52 := by
    rw [hA]
    split
    · rw [leB_len]; omega
    · rw [textB_len]; omega
  obtain ⟨SA, hSA⟩ : ∃ SA, SA = str A := ⟨_, rfl⟩
  obtain ⟨sa, hsa⟩ : ∃ sa, sa = A.length := ⟨_, rfl⟩
  have xa : SA.size = sa := by rw [hSA, str_size, hsa]
  rw [← hsa] at ha
  obtain ⟨X1, h1⟩ : ∃ X, X = X0 ++ SA := ⟨_, rfl⟩
  have x1 : X1.size = 1 + sa := by rw [h1, ByteArray.size_append, x0, xa]
  have c1 : X0 ++ SA = X1 := h1.symm
  have s1 : ¬ 9223372036854775807 < 1 + sa := by omega
  have HX1 : Hid (X1 = str (leB 1 k ++ A)) := Lib.hid (by rw [h1, h0, hSA, str_append])
  have CI : ib = true → ∀ W, Calls Tryd.prog 56 #[.int .u64 (n : Nat), .int .i64 4] W fun e w' => e = .returned (.string SA) ∧ Below W.heap.size W w' := fun e W => rpnum_kept 4 n 4 rfl (by omega) (by omega) SA (by rw [hSA, hA, if_pos e]) W
  have CT : ib = false → ∀ W, Calls Tryd.prog 92 #[.string B] W fun e w' => e = .returned (.string SA) ∧ Below W.heap.size W w' := fun e W => by
    have := rptext_any B (by omega) W
    rw [hSA, hA, if_neg (by rw [e]; decide)]
    exact this
  have HKA : Hid (Kept w (w.alloc (.cells #[.int .i64 k, .int .u32 (n : Nat), .string B, .int .i64 z, .slice p rl c] 30))) := Lib.hid (box_below _ _)
  have hrow := heap_alloc_last w (.cells #[.int .i64 k, .int .u32 (n : Nat), .string B, .int .i64 z, .slice p rl c] 30)
  have f1 : (w.alloc (.cells #[.int .i64 k, .int .u32 (n : Nat), .string B, .int .i64 z, .slice p rl c] 30)).cell? ⟨w.heap.size, 1, none⟩ = some (.int .u32 (n : Nat)) := by rw [cell_of_row _ _ _ _ _ _ hrow]; rfl
  have f2 : (w.alloc (.cells #[.int .i64 k, .int .u32 (n : Nat), .string B, .int .i64 z, .slice p rl c] 30)).cell? ⟨w.heap.size, 2, none⟩ = some (.string B) := by rw [cell_of_row _ _ _ _ _ _ hrow]; rfl
  have f3 : (w.alloc (.cells #[.int .i64 k, .int .u32 (n : Nat), .string B, .int .i64 z, .slice p rl c] 30)).cell? ⟨w.heap.size, 3, none⟩ = some (.int .i64 z) := by rw [cell_of_row _ _ _ _ _ _ hrow]; rfl
  have f4 : (w.alloc (.cells #[.int .i64 k, .int .u32 (n : Nat), .string B, .int .i64 z, .slice p rl c] 30)).cell? ⟨w.heap.size, 4, none⟩ = some (.slice p rl c) := by rw [cell_of_row _ _ _ _ _ _ hrow]; rfl
  clear hrow hres hruns h hm hk hidm hnm hB hib hnb h0 hsa h1 hBs
  cases bb with
  | true =>
    rcases hbl with hbl | hbl
    · obtain ⟨-, hz, hrl16, hval, -⟩ := hbl
      obtain ⟨z, rfl⟩ : ∃ q : Nat, z = q := ⟨z.toNat, by omega⟩
      have u3 : IntKind.u64.wrap (z : Int) = (z : Int) := IntWalk.u64_in _ (by omega)
      obtain ⟨SZ, hSZ⟩ : ∃ N, N = str (leB 4 z) := ⟨_, rfl⟩
      have CZ := fun W => rpnum_kept 4 z 4 rfl (by omega) (by omega) SZ hSZ W
      have xz : SZ.size = 4 := by rw [hSZ, str_size, leB_len]
      obtain ⟨X2, h2⟩ : ∃ X, X = X1 ++ SZ := ⟨_, rfl⟩
      have x2 : X2.size = 1 + sa + 4 := by rw [h2, ByteArray.size_append, x1, xz]
      have c2 : X1 ++ SZ = X2 := h2.symm
      have s2 : ¬ 9223372036854775807 < 1 + sa + 4 := by omega
      have CRR := fun W (kk : Kept w W) => rruns13_any rn (.slice p rl c) W (HRV.out.later kk) (valid_small hval) (by omega)
      rw [← hrl] at CRR
      obtain ⟨SR, hSR⟩ : ∃ S, S = str (leB 2 rl ++ runsB rn) := ⟨_, rfl⟩
      rw [← hSR] at CRR
      obtain ⟨sr, hsr⟩ : ∃ sr, sr = (leB 2 rl ++ runsB rn).length := ⟨_, rfl⟩
      have xr : SR.size = sr := by rw [hSR, str_size, hsr]
      have hsr2 : sr ≤ 100 := by rw [hsr, List.length_append, leB_len, runsB_len]; omega
      obtain ⟨X3, h3⟩ : ∃ X, X = X2 ++ SR := ⟨_, rfl⟩
      have c3 : X2 ++ SR = X3 := h3.symm
      have s3 : ¬ 9223372036854775807 < 1 + sa + 4 + sr := by omega
      have HRES : Hid (str res = X3) := Lib.hid (by
        rw [HRE.out, if_pos rfl, h3, h2, HX1.out, hSZ, hSR, Int.toNat_natCast]
        simp only [str_append, List.append_assoc])
      clear hz hval hSZ h2 hSR hsr h3 hrl hrl16 hbb
      cases ib with
      | true =>
        replace CI := CI rfl
        clear CT hA hSA
        go_enter Tryd.func57, Tryd.ntmps57
        go_wp2_with fail
        refine (H _).mono ?_
        rintro e w1 ⟨rfl, hw1⟩
        subst hw1
        go_wp2_with fail
        refine (C0 _).mono ?_
        rintro e w2 ⟨rfl, hb2⟩
        have K2 := Lib.hid (HKA.out.then hb2)
        have KB2 : Kept (w.alloc (.cells #[.int .i64 k, .int .u32 (n : Nat), .string B, .int .i64 z, .slice p rl c] 30)) w2 := hb2
        have e1 := KB2.cell f1
        have e2 := KB2.cell f2
        clear H C0 hb2
        go_wp2_with fail
        refine (CI _).mono ?_
        rintro e w3 ⟨rfl, hb3⟩
        have K3 := Lib.hid (K2.out.then hb3)
        have KB3 : Kept (w.alloc (.cells #[.int .i64 k, .int .u32 (n : Nat), .string B, .int .i64 z, .slice p rl c] 30)) w3 := KB2.then hb3
        clear hb3 e1 e2 KB2
        have e3 := KB3.cell f3
        have e4 := KB3.cell f4
        clear KB3
        go_wp2_with fail
        refine wp_region_kept (by kernel_rfl) (by kernel_rfl) ?_
        refine wpQuiet_pure (v := ?_) (by kernel_rfl) ?_ (fun K hK => ?_)
        case refine_2 => intro W _; go_simp; try with_reducible rfl
        go_simp
        refine hK _ ?_; clear hK K
        refine wpQuiet_pure (v := ?_) (by kernel_rfl) ?_ (fun K hK => ?_)
        case refine_2 => intro W _; go_simp; try with_reducible rfl
        go_simp
        refine hK _ ?_; clear hK K
        refine wpQuiet_pure (v := ?_) (by kernel_rfl) ?_ (fun K hK => ?_)
        case refine_2 => intro W hW; have e0 := hW.cell e3; go_simp; try with_reducible rfl
        go_simp
        refine hK _ ?_; clear hK K
        refine wpQuiet_pure (v := ?_) (by kernel_rfl) ?_ (fun K hK => ?_)
        case refine_2 => intro W _; go_simp; try with_reducible rfl
        go_simp
        refine hK _ ?_; clear hK K
        refine wpQuiet_call (by kernel_rfl) _ _ _ (fun W => by go_simp) (fun W h => Calls.kept_of h (CZ W)) (fun K hK => ?_)
        go_simp
        refine hK _ ?_; clear hK K
        refine wpQuiet_pure (v := ?_) (by kernel_rfl) ?_ (fun K hK => ?_)
        case refine_2 => intro W _; go_simp; try with_reducible rfl
        go_simp
        refine hK _ ?_; clear hK K
        refine wpQuiet_pure (v := ?_) (by kernel_rfl) ?_ (fun K hK => ?_)
        case refine_2 => intro W _; go_simp; try with_reducible rfl
        go_simp
        refine hK _ ?_; clear hK K
        refine wpQuiet_pure (v := ?_) (by kernel_rfl) ?_ (fun K hK => ?_)
        case refine_2 => intro W hW; have e0 := hW.cell e4; go_simp; try with_reducible rfl
        go_simp
        refine hK _ ?_; clear hK K
        refine wpQuiet_call (by kernel_rfl) _ _ _ (fun W => by go_simp) (fun W h => Calls.kept_of h (CRR W (K3.out.then h))) (fun K hK => ?_)
        go_simp
        refine hK _ ?_; clear hK K
        refine wpQuiet_pure (v := ?_) (by kernel_rfl) ?_ (fun K hK => ?_)
        case refine_2 => intro W _; go_simp; try with_reducible rfl
        go_simp
        refine hK _ ?_; clear hK K
        refine wpQuiet_pure (v := ?_) (by kernel_rfl) ?_ (fun K hK => ?_)
        case refine_2 => intro W _; go_simp; try with_reducible rfl
        go_simp
        refine hK _ ?_; clear hK K
        refine wpQuiet_nil ?_
        intro w4 hk4
        have K4 := Lib.hid (K3.out.then hk4)
        clear hk4
        go_wp2
        go_ret
        exact ⟨by rw [HRES.out]; rfl, K4.out⟩
      | false =>
        replace CT := CT rfl
        clear CI hA hSA
        go_enter Tryd.func57, Tryd.ntmps57
        go_wp2_with fail
        refine (H _).mono ?_
        rintro e w1 ⟨rfl, hw1⟩
        subst hw1
        go_wp2_with fail
        refine (C0 _).mono ?_
        rintro e w2 ⟨rfl, hb2⟩
        have K2 := Lib.hid (HKA.out.then hb2)
        have KB2 : Kept (w.alloc (.cells #[.int .i64 k, .int .u32 (n : Nat), .string B, .int .i64 z, .slice p rl c] 30)) w2 := hb2
        have e1 := KB2.cell f1
        have e2 := KB2.cell f2
        clear H C0 hb2
        go_wp2_with fail
        refine (CT _).mono ?_
        rintro e w3 ⟨rfl, hb3⟩
        have K3 := Lib.hid (K2.out.then hb3)
        have KB3 : Kept (w.alloc (.cells #[.int .i64 k, .int .u32 (n : Nat), .string B, .int .i64 z, .slice p rl c] 30)) w3 := KB2.then hb3
        clear hb3 e1 e2 KB2
        have e3 := KB3.cell f3
        have e4 := KB3.cell f4
        clear KB3
        go_wp2_with fail
        refine wp_region_kept (by kernel_rfl) (by kernel_rfl) ?_
        refine wpQuiet_pure (v := ?_) (by kernel_rfl) ?_ (fun K hK => ?_)
        case refine_2 => intro W _; go_simp; try with_reducible rfl
        go_simp
        refine hK _ ?_; clear hK K
        refine wpQuiet_pure (v := ?_) (by kernel_rfl) ?_ (fun K hK => ?_)
        case refine_2 => intro W _; go_simp; try with_reducible rfl
        go_simp
        refine hK _ ?_; clear hK K
        refine wpQuiet_pure (v := ?_) (by kernel_rfl) ?_ (fun K hK => ?_)
        case refine_2 => intro W hW; have e0 := hW.cell e3; go_simp; try with_reducible rfl
        go_simp
        refine hK _ ?_; clear hK K
        refine wpQuiet_pure (v := ?_) (by kernel_rfl) ?_ (fun K hK => ?_)
        case refine_2 => intro W _; go_simp; try with_reducible rfl
        go_simp
        refine hK _ ?_; clear hK K
        refine wpQuiet_call (by kernel_rfl) _ _ _ (fun W => by go_simp) (fun W h => Calls.kept_of h (CZ W)) (fun K hK => ?_)
        go_simp
        refine hK _ ?_; clear hK K
        refine wpQuiet_pure (v := ?_) (by kernel_rfl) ?_ (fun K hK => ?_)
        case refine_2 => intro W _; go_simp; try with_reducible rfl
        go_simp
        refine hK _ ?_; clear hK K
        refine wpQuiet_pure (v := ?_) (by kernel_rfl) ?_ (fun K hK => ?_)
        case refine_2 => intro W _; go_simp; try with_reducible rfl
        go_simp
        refine hK _ ?_; clear hK K
        refine wpQuiet_pure (v := ?_) (by kernel_rfl) ?_ (fun K hK => ?_)
        case refine_2 => intro W hW; have e0 := hW.cell e4; go_simp; try with_reducible rfl
        go_simp
        refine hK _ ?_; clear hK K
        refine wpQuiet_call (by kernel_rfl) _ _ _ (fun W => by go_simp) (fun W h => Calls.kept_of h (CRR W (K3.out.then h))) (fun K hK => ?_)
        go_simp
        refine hK _ ?_; clear hK K
        refine wpQuiet_pure (v := ?_) (by kernel_rfl) ?_ (fun K hK => ?_)
        case refine_2 => intro W _; go_simp; try with_reducible rfl
        go_simp
        refine hK _ ?_; clear hK K
        refine wpQuiet_pure (v := ?_) (by kernel_rfl) ?_ (fun K hK => ?_)
        case refine_2 => intro W _; go_simp; try with_reducible rfl
        go_simp
        refine hK _ ?_; clear hK K
        refine wpQuiet_nil ?_
        intro w4 hk4
        have K4 := Lib.hid (K3.out.then hk4)
        clear hk4
        go_wp2
        go_ret
        exact ⟨by rw [HRES.out]; rfl, K4.out⟩
    · cases hbl.1
  | false =>
    have HRES : Hid (str res = X1) := Lib.hid (by
      rw [HRE.out, if_neg (by decide), HX1.out, List.append_nil])
    clear hbl hrl hbb
    cases ib with
    | true =>
      replace CI := CI rfl
      clear CT hA hSA
      go_enter Tryd.func57, Tryd.ntmps57
      go_wp2_with fail
      refine (H _).mono ?_
      rintro e w1 ⟨rfl, hw1⟩
      subst hw1
      go_wp2_with fail
      refine (C0 _).mono ?_
      rintro e w2 ⟨rfl, hb2⟩
      have K2 := Lib.hid (HKA.out.then hb2)
      have KB2 : Kept (w.alloc (.cells #[.int .i64 k, .int .u32 (n : Nat), .string B, .int .i64 z, .slice p rl c] 30)) w2 := hb2
      have e1 := KB2.cell f1
      have e2 := KB2.cell f2
      clear H C0 hb2
      go_wp2_with fail
      refine (CI _).mono ?_
      rintro e w3 ⟨rfl, hb3⟩
      have K3 := Lib.hid (K2.out.then hb3)
      have KB3 : Kept (w.alloc (.cells #[.int .i64 k, .int .u32 (n : Nat), .string B, .int .i64 z, .slice p rl c] 30)) w3 := KB2.then hb3
      clear hb3 e1 e2 KB2
      go_wp2
      go_ret
      exact ⟨by rw [HRES.out]; rfl, K3.out⟩
    | false =>
      replace CT := CT rfl
      clear CI hA hSA
      go_enter Tryd.func57, Tryd.ntmps57
      go_wp2_with fail
      refine (H _).mono ?_
      rintro e w1 ⟨rfl, hw1⟩
      subst hw1
      go_wp2_with fail
      refine (C0 _).mono ?_
      rintro e w2 ⟨rfl, hb2⟩
      have K2 := Lib.hid (HKA.out.then hb2)
      have KB2 : Kept (w.alloc (.cells #[.int .i64 k, .int .u32 (n : Nat), .string B, .int .i64 z, .slice p rl c] 30)) w2 := hb2
      have e1 := KB2.cell f1
      have e2 := KB2.cell f2
      clear H C0 hb2
      go_wp2_with fail
      refine (CT _).mono ?_
      rintro e w3 ⟨rfl, hb3⟩
      have K3 := Lib.hid (K2.out.then hb3)
      have KB3 : Kept (w.alloc (.cells #[.int .i64 k, .int .u32 (n : Nat), .string B, .int .i64 z, .slice p rl c] 30)) w3 := KB2.then hb3
      clear hb3 e1 e2 KB2
      go_wp2
      go_ret
      exact ⟨by rw [HRES.out]; rfl, K3.out⟩

set_option maxRecDepth 100000 in
set_option maxHeartbeats 8000000 in
theorem rtx13_any (L : List Rc) (v : Value) (w : World) (h : RecsAt L v w) (hm : ∀ r ∈ L, mayR r) (hl : L.length ≤ 400) :
    Calls Tryd.prog 17 #[v] w fun e w' => e = .returned (.string (str (txB L))) ∧ Kept w w' := by
  obtain ⟨A, eA, hA⟩ := h
  have lA := RecsIn.len eA
  obtain ⟨p, c, rfl, -, -⟩ := hA.out
  have gA := fun i hi => hA.at_k eA i hi
  obtain ⟨n, hn⟩ : ∃ n, n = A.length := ⟨_, rfl⟩
  rw [← hn] at lA gA ⊢
  rw [lA] at hl
  have GA := Lib.hid gA
  have HM := Lib.hid hm
  have HLN := Lib.hid lA
  have HTB : Hid (txB L = leB 4 (txP L).length ++ (leB 4 (moreN 0 (txP L)) ++ txP L)) := Lib.hid rfl
  have HTL : Hid ((txP L).length ≤ 80002) := Lib.hid (by
    unfold txP
    rw [List.length_append, leB_len]
    have := recsB_len L hm
    omega)
  have HTP : Hid (txP L = leB 2 n ++ L.flatMap recB) := Lib.hid (by unfold txP; rw [lA])
  obtain ⟨P, hP⟩ : ∃ P, P = txP L := ⟨_, rfl⟩
  rw [← hP] at HTB HTL HTP
  obtain ⟨res, hres⟩ : ∃ res, res = txB L := ⟨_, rfl⟩
  rw [← hres] at HTB ⊢
  have u1 : IntKind.u64.wrap (n : Int) = (n : Int) := IntWalk.u64_in _ (by omega)
  obtain ⟨N, hNN⟩ : ∃ N, N = str (leB 2 n) := ⟨_, rfl⟩
  have CN := fun W => rpnum_kept 2 n 2 rfl (by omega) (by omega) N hNN W
  have HS0 : Hid (N = str (leB 2 n ++ (L.take 0).flatMap recB)) := Lib.hid (by rw [hNN]; show _ = str (leB 2 n ++ []); rw [List.append_nil])
  have HZ0 : Hid (N.size ≤ 2 + 200 * 0) := Lib.hid (by rw [hNN, str_size, leB_len]; omega)
  clear hA eA hn lA gA hm hP hres hNN
  go_enter Tryd.func17, Tryd.ntmps17
  go_wp2_with fail
  refine (CN _).mono ?_
  rintro e w1 ⟨rfl, hb1⟩
  have K1 := Lib.hid hb1
  clear hb1 CN
  go_wp2
  go_loopg [3, 4] n (fun gh s3 s4 wx => ∃ (k : Nat) (X : ByteArray), k + gh = n ∧ s3 = .string X ∧ s4 = .int .i64 k ∧ Hid (X = str (leB 2 n ++ (L.take k).flatMap recB)) ∧ Hid (X.size ≤ 2 + 200 * k) ∧ Hid (Kept w wx))
  case atStart => exact ⟨0, N, by omega, rfl, rfl, HS0, HZ0, K1⟩
  case round =>
    obtain ⟨k, X, hk, rfl, rfl, HX, HXZ, HKX⟩ := hrel
    have xz := HXZ.out
    by_cases hkn : k < n
    · have hki : (k : Int) < n := by omega
      have bk : decide ((k : Int) < (n : Int)) = true := by simpa using hki
      have hki0 : (0 : Int) ≤ k := by omega
      obtain ⟨k1, hk1⟩ : ∃ k1, k1 = k + 1 := ⟨_, rfl⟩
      have v1 : IntKind.i64.wrap ((k : Int) + 1) = (k1 : Int) := by rw [show (k : Int) + 1 = (k1 : Int) by omega]; exact IntWalk.i64_in _ (by omega)
      obtain ⟨r, tv, e1, hrm, hra, b, off, rfl, hrg⟩ := GA.out k hkn
      have hmr := HM.out r hrm
      have CR := fun W (kk : Kept w W) => rrec13_any r tv W (hra.later kk) hmr
      unfold recV at CR
      obtain ⟨C, hC⟩ : ∃ X, X = recC r tv := ⟨_, rfl⟩
      rw [← hC] at CR hrg
      have HCs : Hid ((Tryd.prog.info? 30).map (·.size) = some C.toList.length) := Lib.hid (by rw [Array.length_toList, hC]; exact infoRc)
      have HC := range_kept hrg HKX.out
      have hrl := recB_len hmr
      obtain ⟨S, hS⟩ : ∃ S, S = str (recB r) := ⟨_, rfl⟩
      rw [← hS] at CR
      have xs : S.size ≤ 200 := by rw [hS, str_size]; exact hrl
      obtain ⟨Y, hY⟩ : ∃ Y, Y = X ++ S := ⟨_, rfl⟩
      have c0 : X ++ S = Y := hY.symm
      have HY : Hid (Y = str (leB 2 n ++ (L.take k1).flatMap recB)) := Lib.hid (by
        have htk : L.take (k + 1) = L.take k ++ [r] := by rw [List.take_add_one, e1]; rfl
        rw [hY, HX.out, hS, str_append, hk1, htk, List.flatMap_append, List.append_assoc]
        simp)
      have HYZ : Hid (Y.size ≤ 2 + 200 * k1) := Lib.hid (by rw [hY, ByteArray.size_append]; omega)
      have s0 : ¬ 9223372036854775807 < X.size + S.size := by omega
      have HK1 := Lib.hid hk1
      clear e1 hrm hra hrg hC hrl hS hY hk1 HX HXZ HS0 HZ0 hmr xz xs
      go_wp2_with (first
        | (with_reducible refine wpList_load_mid rfl _ _ rfl b (off + k * 5) rfl C.toList _ HC Tryd.underlying30 rfl HCs.out ?_)
        | fail)
      refine (CR _ HKX.out).mono ?_
      rintro e w2 ⟨rfl, hb2⟩
      have K2 := Lib.hid ((show Kept w wr from HKX.out).then hb2)
      clear HKX CR HC hb2
      go_wp2
      go_roundg (n - k1)
      · exact ⟨k1, Y, by have := HK1.out; omega, rfl, by first | rfl | (have := HK1.out; simp; omega), HY, HYZ, K2⟩
      · have := HK1.out; omega
    · have hki : ¬ (k : Int) < n := by omega
      have bk : decide ((k : Int) < (n : Int)) = false := by simpa using hki
      have hXP : X = str P := by
        have h := HX.out
        rw [List.take_of_length_le (by rw [HLN.out]; omega), ← HTP.out] at h
        exact h
      obtain ⟨pz, hpz⟩ : ∃ pz, pz = P.length := ⟨_, rfl⟩
      have hpl := HTL.out
      rw [← hpz] at hpl
      have x0 : X.size = pz := by rw [hXP, str_size, hpz]
      have hXl : X.data.toList = P := by rw [hXP, str_list]
      have u2 : IntKind.u64.wrap (pz : Int) = (pz : Int) := IntWalk.u64_in _ (by omega)
      obtain ⟨S1, h1⟩ : ∃ S, S = str (leB 4 pz) := ⟨_, rfl⟩
      have C1 := fun W => rpnum_kept 4 pz 4 rfl (by omega) (by omega) S1 h1 W
      have CS := fun W => rsum_any X (by omega) W
      rw [hXl] at CS
      obtain ⟨sm, hsm⟩ : ∃ sm, sm = moreN 0 P := ⟨_, rfl⟩
      have hsl : sm < 256 ^ 4 := by rw [hsm]; exact moreN_lt P
      rw [← hsm] at CS
      have u3 : IntKind.u64.wrap (sm : Int) = (sm : Int) := IntWalk.u64_in _ (by omega)
      obtain ⟨S2, h2⟩ : ∃ S, S = str (leB 4 sm) := ⟨_, rfl⟩
      have C2 := fun W => rpnum_kept 4 sm 4 rfl (by omega) (by omega) S2 h2 W
      have z1 : S1.size = 4 := by rw [h1, str_size, leB_len]
      have z2 : S2.size = 4 := by rw [h2, str_size, leB_len]
      obtain ⟨Y1, k1⟩ : ∃ Y, Y = S1 ++ S2 := ⟨_, rfl⟩
      have y1 : Y1.size = 8 := by rw [k1, ByteArray.size_append, z1, z2]
      obtain ⟨Y2, k2⟩ : ∃ Y, Y = Y1 ++ X := ⟨_, rfl⟩
      have c1 : S1 ++ S2 = Y1 := k1.symm
      have c2 : Y1 ++ X = Y2 := k2.symm
      have s2 : ¬ 9223372036854775807 < 8 + pz := by omega
      have HR : Hid (str res = Y2) := Lib.hid (by
        rw [HTB.out, k2, k1, h1, h2, hXP, hpz, hsm]
        simp only [str_append, List.append_assoc])
      clear HX HXZ hXP hpz hXl h1 h2 hsm hsl k1 k2 HS0 HZ0 xz
      go_wp2_with fail
      refine (C1 _).mono ?_
      rintro e w2 ⟨rfl, hb2⟩
      have K2 := Lib.hid ((show Kept w wr from HKX.out).then hb2)
      clear hb2 C1
      go_wp2_with fail
      refine (CS _).mono ?_
      rintro e w3 ⟨rfl, hb3⟩
      have K3 := Lib.hid ((show Kept w w2 from K2.out).then hb3)
      clear hb3 CS K2
      go_wp2_with fail
      refine (C2 _).mono ?_
      rintro e w4 ⟨rfl, hb4⟩
      have K4 := Lib.hid ((show Kept w w3 from K3.out).then hb4)
      clear hb4 C2 K3
      go_wp2
      go_ret
      exact ⟨by rw [HR.out]; rfl, K4.out⟩

end Go.Proofs.YtoigembmbajopaaDoor
