/- The document's Row, Runs. -/
import Derived.Test.YtkdodffnakdckaaExS
namespace Go.Proofs.Ytkdodffnakdckaa
open Go.RowKit

theorem wpList_maxI {P : Program} {ops : Array Oper} {rest : List Oper} {o : Oper} {a : Act} {w : World} {Q : Exit → Act → World → Prop} (hgd : o.guard = none) (x y : Operand) (t u : TypeId)
    (ho : o.op = .call { callee := .builtin .max, args := #[x, y], argTypes := #[t, u] }) (k k' : IntKind) (m n r : Int) (hx : a.eval x = .int k m) (hy : a.eval y = .int k' n) (hr : (if n > m then n else m) = r)
    (h : wpList P ops Q rest (a.put o.dst (.int k r)) w) : wpList P ops Q (o :: rest) a w := by
  refine wpList_plain hgd fun K hK => ?_
  subst hr
  unfold Oper.wp execOp
  simp only [ho, resolve, invoke, builtin, Sem.run_bind, Sem.run_pure, Result.andThen_ok, List.map_toArray, List.map_cons, List.map_nil, hx, hy, run_max_int2]
  exact hK _ _ h

theorem infoBl : (Try.prog.info? 4).map (fun i => (i.zero, i.size, i.bytes)) = some (some (.bool false), 1, 1) := by kernel_rfl
theorem RowF.made (w : World) : ∃ w', (Instr.makeSlice 62 (.int .i64 8192) (.int .i64 8192)).run Try.prog w = .ok (.slice (some ⟨w.heap.size, 0, none⟩) 8192 8192) w' ∧ RowF w.heap.size (fun _ => false) w' ∧ Below w.heap.size w w' := by
  obtain ⟨i, hi, hx⟩ := Option.map_eq_some_iff.1 infoBl
  simp only [Prod.mk.injEq] at hx
  obtain ⟨h0, h1, h2⟩ := hx
  have hr := run_makeSlice (P := Try.prog) w 62 4 i (.bool false) Try.underlying62 hi h0 .i64 .i64 8192 8192 (by omega) (by omega) (by rw [h1]; omega) (by rw [h2]; omega) (by omega)
  refine ⟨_, hr, ⟨_, heap_alloc_new w _, ?_, fun j hj => ?_⟩, box_below _ _⟩
  · rw [h1]; show (madeCells #[.bool false] 8192).size = 8192; rw [size_madeCells]
  · rw [h1]
    show (madeCells #[.bool false] 8192)[j]? = _
    rw [← Array.getElem?_toList, toList_madeCells_one, List.getElem?_replicate, if_pos hj]

set_option maxRecDepth 100000 in
set_option maxHeartbeats 4000000 in
theorem rrow_any (l : List (Int × Int)) (v : Value) (w : World) (h : RunsAt l v w) (hl : l.length ≤ 1048576) :
    Calls Try.prog 43 #[v] w fun e w' => ∃ b, e = .returned (.slice (some ⟨b, 0, none⟩) 8192 8192) ∧ w.heap.size ≤ b ∧ RowF b (hasR l) w' ∧ Below w.heap.size w w' := by
  obtain ⟨p, c, rfl, -, hc⟩ := h.out
  obtain ⟨w1, hmk, hr1, hb1⟩ := RowF.made w
  obtain ⟨b, hb⟩ : ∃ b, b = w.heap.size := ⟨_, rfl⟩
  rw [← hb] at hmk hr1
  have R0 : Hid (RowF b (hasR (l.take 0)) w1) := Lib.hid hr1
  have K0 : Hid (Kept w w1) := Lib.hid hb1
  have HBE := Lib.hid hb
  have HC := Lib.hid hc
  have HWF := Lib.hid h.wf
  obtain ⟨n, hn⟩ : ∃ n, n = l.length := ⟨_, rfl⟩
  have HN := Lib.hid hn
  rw [← hn] at hl ⊢
  clear hb hc h hr1 hb1 hn
  go_enter Try.func43, Try.ntmps43
  go_wp2
  clear hmk
  go_loopg [4] n (fun gh s4 wx => ∃ i : Nat, i + gh = n ∧ s4 = .int .i64 i ∧ Hid (RowF b (hasR (l.take i)) wx) ∧ Hid (Kept w wx))
  case atStart => exact ⟨0, by omega, rfl, R0, K0⟩
  case round =>
    clear R0 K0
    obtain ⟨i, hi, rfl, HR, HK⟩ := hrel
    obtain ⟨i1, hi1⟩ : ∃ i1, i1 = i + 1 := ⟨_, rfl⟩
    have v1 : IntKind.i64.wrap ((i : Int) + 1) = (i1 : Int) := by rw [show (i : Int) + 1 = (i1 : Int) by omega]; exact IntWalk.i64_in _ (by omega)
    by_cases hin : i < n
    · have hki : (i : Int) < n := by omega
      have bk : decide ((i : Int) < (n : Int)) = true := by simpa using hki
      have hki0 : (0 : Int) ≤ i := by omega
      have hil : i < l.length := by rw [← HN.out]; exact hin
      rcases HC.out with h0 | ⟨bb, ob, rfl, hcell⟩
      · have := HN.out; omega
      have hci := hcell i hil
      have hw := HWF.out _ (List.getElem_mem hil)
      have htk := hasR_take l i hil
      obtain ⟨r, hr⟩ : ∃ r, r = l[i] := ⟨_, rfl⟩
      rw [← hr] at hci hw htk
      obtain ⟨a, m⟩ := r
      have HCI := Lib.hid hci
      have HW := Lib.hid hw
      have HTK := Lib.hid htk
      have d1 := HK.out.cell hci.1
      have d2 := HK.out.cell hci.2
      obtain ⟨mx, hmx⟩ : ∃ mx, mx = max a 0 := ⟨_, rfl⟩
      have hmr : Hid ((if (0 : Int) > a then 0 else a) = mx) := Lib.hid (by split <;> omega)
      obtain ⟨en, hen⟩ : ∃ en, en = endI (a, m) := ⟨_, rfl⟩
      have HMX := Lib.hid hmx
      have HEN := Lib.hid hen
      have hen8 : en ≤ 8192 := by rw [hen]; unfold endI; split; · omega
                                  split <;> omega
      have S0 : Hid (RowF b (fun k => hasR (l.take i) k || (inR (a, m) k && decide ((k : Int) < mx))) wr) := Lib.hid (HR.out.congr (fun k hk => by
        rw [HMX.out]
        have : (inR (a, m) k && decide ((k : Int) < max a 0)) = false := by
          unfold inR
          rw [Bool.eq_false_iff]
          simp only [ne_eq, Bool.and_eq_true, decide_eq_true_eq]
          omega
        rw [this, Bool.or_false]))
      clear hr hci hw htk hcell hmx hen hil
      go_wp2_with (first
        | (with_reducible refine wpList_maxI rfl _ _ _ _ rfl .i64 .i64 a 0 mx rfl rfl hmr.out ?_))
      obtain ⟨wo, hwo⟩ : ∃ wo : World, wo = wr := ⟨_, rfl⟩
      subst hwo
      obtain ⟨go, hgo⟩ : ∃ go : Nat, go = gk := ⟨_, rfl⟩
      subst hgo
      have HMX0 : Hid (0 ≤ mx) := Lib.hid (by rw [HMX.out]; omega)
      go_loopg [5] (en - mx).toNat (fun gh s5 wx => ∃ kk : Int, gh = (en - kk).toNat ∧ s5 = .int .i64 kk ∧ Hid (mx ≤ kk) ∧ Hid (RowF b (fun k => hasR (l.take i) k || (inR (a, m) k && decide ((k : Int) < kk))) wx) ∧ Hid (Kept w wx))
      case atStart => exact ⟨mx, rfl, rfl, Lib.hid (Int.le_refl _), S0, HK⟩
      case round =>
        clear S0 d1 d2
        obtain ⟨kk, hkk, rfl, HM, HR2, HK2⟩ := hrel
        have d1 := HK2.out.cell HCI.out.1
        have d2 := HK2.out.cell HCI.out.2
        have EN := rend_any a m HW.out.1 HW.out.2 wr
        rw [← HEN.out] at EN
        by_cases hlt : kk < en
        · have hk0 : 0 ≤ kk := Int.le_trans HMX0.out HM.out
          obtain ⟨q, rfl⟩ : ∃ q : Nat, kk = q := ⟨kk.toNat, by omega⟩
          obtain ⟨q1, hq1⟩ : ∃ q1, q1 = q + 1 := ⟨_, rfl⟩
          have v2 : IntKind.i64.wrap ((q : Int) + 1) = (q1 : Int) := by rw [show (q : Int) + 1 = (q1 : Int) by omega]; exact IntWalk.i64_in _ (by omega)
          have bq : decide ((q : Int) < en) = true := by simpa using hlt
          have hq8 : (q : Int) < 8192 := by omega
          have hin2 : inR (a, m) q = true := ((endI_in (a, m) q).1 ⟨by have := HM.out; rw [HMX.out] at this; exact this, by rw [← HEN.out]; exact hlt⟩).2
          have HIN := Lib.hid hin2
          clear hin2
          go_wp2_with fail
          refine EN.mono ?_
          rintro e w3 ⟨rfl, hb3⟩
          have hr3 := HR2.out.kept hb3
          have hk3 := HK2.out.then hb3
          have e1 := hr3.cell q (by omega)
          have e2 := hr3.froz q
          have HR4 : Hid (RowF b (fun k => hasR (l.take i) k || (inR (a, m) k && decide ((k : Int) < (q1 : Int)))) (w3.setCell ⟨b, q, none⟩ (.bool true))) := Lib.hid ((hr3.set q true).congr (fun k hk => by
            show (if k = q then true else _) = _
            by_cases e : k = q
            · subst e
              rw [if_pos rfl, HIN.out, decide_eq_true (by omega)]; simp
            · rw [if_neg e, show decide ((k : Int) < (q1 : Int)) = decide ((k : Int) < (q : Int)) from decide_eq_decide.2 (by omega)]))
          have HK4 : Hid (Kept w (w3.setCell ⟨b, q, none⟩ (.bool true))) := Lib.hid (Below.setCell hk3 (by rw [HBE.out]; exact Nat.le_refl _) _)
          have HM4 : Hid (mx ≤ (q1 : Int)) := Lib.hid (by have := HM.out; omega)
          clear hr3 hk3 hb3 EN
          go_wp2
          go_roundg ((en - (q1 : Int)).toNat)
          case measure => omega
          case rel => exact ⟨(q1 : Int), rfl, by first | rfl | (congr 1; omega), HM4, HR4, HK4⟩
        · have bq : decide (kk < en) = false := by simpa using hlt
          go_wp2_with fail
          refine EN.mono ?_
          rintro e w3 ⟨rfl, hb3⟩
          have HR4 : Hid (RowF b (hasR (l.take i1)) w3) := Lib.hid ((HR2.out.kept hb3).congr (fun k hk => by
            rw [hi1, HTK.out]
            congr 1
            cases hin2 : inR (a, m) k with
            | false => rfl
            | true =>
              have h5 := (endI_in (a, m) k).2 ⟨hk, hin2⟩
              rw [← HEN.out] at h5
              rw [decide_eq_true (by omega)]; rfl))
          have HK4 : Hid (Kept w w3) := Lib.hid (HK2.out.then hb3)
          clear hb3 EN HR2 HK2 HM hkk
          go_wp2
          go_roundg (n - i1)
          case measure => omega
          case rel => exact ⟨i1, by omega, by first | rfl | (congr 1; omega), HR4, HK4⟩
    · have hki : ¬ (i : Int) < n := by omega
      have bk : decide ((i : Int) < (n : Int)) = false := by simpa using hki
      have HE : Hid (RowF b (hasR l) wr) := Lib.hid (by have h := HR.out; rw [List.take_of_length_le (by rw [← HN.out]; omega)] at h; exact h)
      go_wp2
      go_ret
      exact ⟨b, rfl, by rw [HBE.out]; exact Nat.le_refl _, HE.out, HK.out⟩

end Go.Proofs.Ytkdodffnakdckaa
