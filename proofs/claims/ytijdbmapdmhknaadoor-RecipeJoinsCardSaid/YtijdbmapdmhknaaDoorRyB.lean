/- The landed recipes' Same (slices.Equal), Weight. -/
import Derived.Test.YtijdbmapdmhknaaDoorRyA
import Derived.Test.YtijdbmapdmhknaaDoorGF
namespace Go.Proofs.YtijdbmapdmhknaaDoor
open Go.RowKit

set_option maxRecDepth 100000 in
set_option maxHeartbeats 16000000 in
theorem uequal_any (p p2 : Option Addr) (n m c c2 : Nat) (a b : List Nat) (w : World) (hea : UsAt a (.slice p n c) w) (heb : UsAt b (.slice p2 m c2) w) (hla : a.length = n) (hlb : b.length = m) (hl : n ≤ 1000000 ∧ m ≤ 1000000) (r : Bool) (hr : r = decide (a = b)) :
    Calls Tryd.prog 34 #[.slice p n c, .slice p2 m c2] w fun e w' => e = .returned (.bool r) ∧ Kept w w' := by
  obtain ⟨p', c', e1, -, hca⟩ := hea.out encU
  obtain ⟨p2', c2', e2, -, hcb⟩ := heb.out encU
  simp only [Value.slice.injEq] at e1 e2
  obtain ⟨rfl, -, rfl⟩ := e1
  obtain ⟨rfl, -, rfl⟩ := e2
  have HCA := Lib.hid hca
  have HCB := Lib.hid hcb
  have HN := Lib.hid hla.symm
  have HM := Lib.hid hlb.symm
  have HL := Lib.hid hl
  have HR := Lib.hid hr
  clear hea heb hca hcb hla hlb hl hr
  by_cases hnm : n = m
  · subst hnm
    have b2 : ((n : Int) != (n : Int)) = false := by simp
    go_enter Tryd.func34, Tryd.ntmps34
    go_wp2
    go_loopg [5, 13] n (fun gh x5 s5 wx => ∃ k : Nat, k + gh = n ∧ s5 = .int .i64 k ∧ Hid (a.take k = b.take k) ∧ Hid (Kept w wx))
    case atStart => exact ⟨0, by omega, rfl, Lib.hid rfl, Lib.hid (Kept.refl w)⟩
    case round =>
      obtain ⟨k, hk, rfl, HA, HKW⟩ := hrel
      by_cases hlt : k < n
      · have hki : (k : Int) < n := by omega
        have bk : decide ((k : Int) < (n : Int)) = true := by simpa using hki
        have hki0 : (0 : Int) ≤ k := by omega
        have hka : k < a.length := by have := HN.out; omega
        have hkb : k < b.length := by have := HM.out; omega
        rcases HCA.out with h0 | ⟨ba, oa, rfl, hcela⟩
        · have := HN.out; omega
        rcases HCB.out with h0 | ⟨bb, ob, rfl, hcelb⟩
        · have := HM.out; omega
        have m0 := Kept.cell HKW.out (hcela k hka 0 _ rfl)
        rw [Nat.mul_one, Nat.add_zero] at m0
        have m1 := Kept.cell HKW.out (hcelb k hkb 0 _ rfl)
        rw [Nat.mul_one, Nat.add_zero] at m1
        have hta : a.take (k + 1) = a.take k ++ [a[k]] := List.take_succ_eq_append_getElem hka
        have htb : b.take (k + 1) = b.take k ++ [b[k]] := List.take_succ_eq_append_getElem hkb
        have hne0 : a[k] ≠ b[k] → a ≠ b := fun h e => h (by simp [e])
        obtain ⟨i, hi⟩ : ∃ i, i = a[k] := ⟨_, rfl⟩
        obtain ⟨j, hj⟩ : ∃ i, i = b[k] := ⟨_, rfl⟩
        rw [← hi] at m0 hta hne0
        rw [← hj] at m1 htb hne0
        obtain ⟨k1, hk1⟩ : ∃ k1, k1 = k + 1 := ⟨_, rfl⟩
        have v1 : IntKind.i64.wrap ((k : Int) + 1) = (k1 : Int) := by rw [show (k : Int) + 1 = (k1 : Int) by omega]; exact IntWalk.i64_in _ (by have := HL.out; omega)
        have HKK : Hid (k1 = k + 1 ∧ k + gk = n ∧ k < n) := Lib.hid ⟨hk1, hk, hlt⟩
        by_cases hij : i = j
        · subst hij
          have b1 : ((i : Int) != (i : Int)) = false := by simp
          have HA1 : Hid (a.take k1 = b.take k1) := Lib.hid (by rw [hk1, hta, htb, HA.out])
          clear hcela hcelb hta htb hne0 hi hj hk1 hk hlt hka hkb HA
          go_wp2_with fail
          go_quiet (fail)
          go_wp2
          go_roundg (n - k1)
          · exact ⟨k1, by have := HKK.out; omega, by first | rfl | (have := HKK.out; congr 1; omega), HA1, Lib.hid (HKW.out.drewN nq)⟩
          · have := HKK.out; omega
        · have b1 : ((i : Int) != (j : Int)) = true := bne_iff_ne.2 (by omega)
          have b2 : ((i : Int) == (j : Int)) = false := beq_eq_false_iff_ne.2 (by omega)
          obtain rfl : r = false := by rw [HR.out]; exact decide_eq_false (hne0 hij)
          clear hcela hcelb hta htb hne0 hi hj hk1 hk hlt hka hkb HA hij
          go_wp2_with fail
          go_quiet (fail)
          go_wp2
          go_ret
          exact ⟨rfl, HKW.out.drewN nq⟩
      · have hki : ¬ (k : Int) < n := by omega
        have bk : decide ((k : Int) < (n : Int)) = false := by simpa using hki
        obtain rfl : r = true := by
          rw [HR.out]
          refine decide_eq_true ?_
          have := HA.out
          rw [List.take_of_length_le (by have := HN.out; omega), List.take_of_length_le (by have := HM.out; omega)] at this
          exact this
        clear hk hlt
        go_wp2
        go_ret
        exact ⟨rfl, HKW.out⟩
  · have b2 : ((n : Int) != (m : Int)) = true := bne_iff_ne.2 (by omega)
    have b3 : ((n : Int) == (m : Int)) = false := beq_eq_false_iff_ne.2 (by omega)
    obtain rfl : r = false := by rw [HR.out]; exact decide_eq_false (fun x => hnm (by rw [HN.out, HM.out, x]))
    clear hnm
    go_enter Tryd.func34, Tryd.ntmps34
    go_wp2
    go_ret
    exact ⟨rfl, Kept.refl w⟩

set_option maxRecDepth 100000 in
set_option maxHeartbeats 16000000 in
theorem rsameOk : RSameOk := by
  intro a b u v w HU HV hla hlb
  obtain ⟨ta, rfl, hea, -⟩ := HU
  obtain ⟨tb, rfl, heb, -⟩ := HV
  obtain ⟨p, c, rfl, -, hca⟩ := hea.out encU
  obtain ⟨p2, c2, rfl, -, hcb⟩ := heb.out encU
  unfold rpC
  have hab : a = b ↔ str a.name = str b.name ∧ a.size = b.size ∧ a.re = b.re ∧ a.im = b.im ∧ a.mans = b.mans := by
    rw [Rp.ext_iff']
    exact ⟨fun h => ⟨by rw [h.1], h.2⟩, fun h => ⟨str_inj h.1, h.2⟩⟩
  obtain ⟨res, hres⟩ : ∃ x, x = decide (a = b) := ⟨_, rfl⟩
  obtain ⟨s, hs⟩ : ∃ s, s = str a.name := ⟨_, rfl⟩
  obtain ⟨t, ht⟩ : ∃ s, s = str b.name := ⟨_, rfl⟩
  obtain ⟨z, hz⟩ : ∃ z, z = a.size := ⟨_, rfl⟩
  obtain ⟨x, hx⟩ : ∃ x, x = a.re := ⟨_, rfl⟩
  obtain ⟨y, hy⟩ : ∃ y, y = a.im := ⟨_, rfl⟩
  obtain ⟨z2, hz2⟩ : ∃ z, z = b.size := ⟨_, rfl⟩
  obtain ⟨x2, hx2⟩ : ∃ x, x = b.re := ⟨_, rfl⟩
  obtain ⟨y2, hy2⟩ : ∃ y, y = b.im := ⟨_, rfl⟩
  obtain ⟨n, hn⟩ : ∃ n, n = a.mans.length := ⟨_, rfl⟩
  obtain ⟨m, hm⟩ : ∃ n, n = b.mans.length := ⟨_, rfl⟩
  rw [← hn] at hla
  rw [← hm] at hlb
  rw [← hs, ← ht, ← hz, ← hx, ← hy, ← hz2, ← hx2, ← hy2] at hab
  rw [← hs, ← ht, ← hz, ← hx, ← hy, ← hz2, ← hx2, ← hy2, ← hn, ← hm, ← hres]
  have HR : Hid (res = true ↔ s = t ∧ z = z2 ∧ x = x2 ∧ y = y2 ∧ a.mans = b.mans) := Lib.hid (by rw [hres, decide_eq_true_iff, hab])
  have RF : Hid (¬ (s = t ∧ z = z2 ∧ x = x2 ∧ y = y2 ∧ a.mans = b.mans) → res = false) := Lib.hid (fun h => by
    cases res with
    | false => rfl
    | true => exact absurd (HR.out.1 rfl) h)
  obtain ⟨X, hX⟩ : ∃ X : Array Value, X = #[.string s, .int .i64 z, .int .i64 x, .int .i64 y, .slice p n c] := ⟨_, rfl⟩
  obtain ⟨Y, hY⟩ : ∃ X : Array Value, X = #[.string t, .int .i64 z2, .int .i64 x2, .int .i64 y2, .slice p2 m c2] := ⟨_, rfl⟩
  have hs1 : (w.alloc (.cells X 24)).heap.size = w.heap.size + 1 := by simp
  obtain ⟨W1, hW1⟩ : ∃ W, W = (w.alloc (.cells X 24)).alloc (.cells Y 24) := ⟨_, rfl⟩
  have hk1 : Kept w W1 := by rw [hW1]; exact (show Kept w _ from box_below _ _).then (box_below _ _)
  obtain ⟨q, hq⟩ : ∃ q, q = decide (a.mans = b.mans) := ⟨_, rfl⟩
  have HQ := Lib.hid hq
  have CE := uequal_any p p2 n m c c2 a.mans b.mans W1 (by rw [hn]; exact hea.later hk1) (by rw [hm]; exact heb.later hk1) hn.symm hm.symm (by omega) q hq
  have HK1 : Hid (Kept w W1) := Lib.hid (by rw [hW1]; exact (show Kept w _ from box_below _ _).then (box_below _ _))
  have hrowa : W1.heap[w.heap.size]? = some (.cells X 24 (0, 0)) := by rw [hW1]; exact Kept.row (box_below _ _) (heap_alloc_last w _)
  have hrowb : W1.heap[w.heap.size + 1]? = some (.cells Y 24 (0, 0)) := by
    have := heap_alloc_last (w.alloc (.cells X 24)) (.cells Y 24)
    rw [hs1] at this
    rw [hW1]; exact this
  rw [hX] at hrowa
  rw [hY] at hrowb
  rw [hX, hY] at hW1
  have a0 : W1.cell? ⟨w.heap.size, 0, none⟩ = some (.string s) := by rw [cell_of_row _ _ _ _ _ _ hrowa]; rfl
  have a1 : W1.cell? ⟨w.heap.size, 1, none⟩ = some (.int .i64 z) := by rw [cell_of_row _ _ _ _ _ _ hrowa]; rfl
  have a2 : W1.cell? ⟨w.heap.size, 2, none⟩ = some (.int .i64 x) := by rw [cell_of_row _ _ _ _ _ _ hrowa]; rfl
  have a3 : W1.cell? ⟨w.heap.size, 3, none⟩ = some (.int .i64 y) := by rw [cell_of_row _ _ _ _ _ _ hrowa]; rfl
  have a4 : W1.cell? ⟨w.heap.size, 4, none⟩ = some (.slice p n c) := by rw [cell_of_row _ _ _ _ _ _ hrowa]; rfl
  have d0 : W1.cell? ⟨w.heap.size + 1, 0, none⟩ = some (.string t) := by rw [cell_of_row _ _ _ _ _ _ hrowb]; rfl
  have d1 : W1.cell? ⟨w.heap.size + 1, 1, none⟩ = some (.int .i64 z2) := by rw [cell_of_row _ _ _ _ _ _ hrowb]; rfl
  have d2 : W1.cell? ⟨w.heap.size + 1, 2, none⟩ = some (.int .i64 x2) := by rw [cell_of_row _ _ _ _ _ _ hrowb]; rfl
  have d3 : W1.cell? ⟨w.heap.size + 1, 3, none⟩ = some (.int .i64 y2) := by rw [cell_of_row _ _ _ _ _ _ hrowb]; rfl
  have d4 : W1.cell? ⟨w.heap.size + 1, 4, none⟩ = some (.slice p2 m c2) := by rw [cell_of_row _ _ _ _ _ _ hrowb]; rfl
  rw [hW1] at a0 a1 a2 a3 a4 d0 d1 d2 d3 d4
  have HW1 := Lib.hid hW1
  clear hea heb hca hcb hab hres hs ht hz hx hy hz2 hx2 hy2 hn hm hla hlb hs1 hrowa hrowb hX hY hW1 hk1 hq X Y
  by_cases h1 : s = t
  case neg =>
    have b1 : (s.toList != t.toList) = true := neq_txt h1
    have b2 : (s.toList == t.toList) = false := by simpa using b1
    have b3 : ¬ s.toList = t.toList := by simpa using b1
    obtain rfl : res = false := RF.out (fun q => h1 q.1)
    clear h1 HR RF CE HQ
    go_enter Tryd.func11, Tryd.ntmps11
    go_wp2
    go_ret
    exact ⟨rfl, by rw [← HW1.out]; exact HK1.out⟩
  subst h1
  have e1 : (s.toList == s.toList) = true := by simp
  by_cases h2 : z = z2
  case neg =>
    have b2 : (z == z2) = false := beq_eq_false_iff_ne.2 h2
    obtain rfl : res = false := RF.out (fun q => h2 q.2.1)
    clear h2 HR RF CE HQ
    go_enter Tryd.func11, Tryd.ntmps11
    go_wp2
    go_ret
    exact ⟨rfl, by rw [← HW1.out]; exact HK1.out⟩
  subst h2
  have e2 : (z == z) = true := by simp
  by_cases h3 : x = x2
  case neg =>
    have b2 : (x == x2) = false := beq_eq_false_iff_ne.2 h3
    obtain rfl : res = false := RF.out (fun q => h3 q.2.2.1)
    clear h3 HR RF CE HQ
    go_enter Tryd.func11, Tryd.ntmps11
    go_wp2
    go_ret
    exact ⟨rfl, by rw [← HW1.out]; exact HK1.out⟩
  subst h3
  have e3 : (x == x) = true := by simp
  by_cases h4 : y = y2
  case neg =>
    have b2 : (y == y2) = false := beq_eq_false_iff_ne.2 h4
    obtain rfl : res = false := RF.out (fun q => h4 q.2.2.2.1)
    clear h4 HR RF CE HQ
    go_enter Tryd.func11, Tryd.ntmps11
    go_wp2
    go_ret
    exact ⟨rfl, by rw [← HW1.out]; exact HK1.out⟩
  subst h4
  have e4 : (y == y) = true := by simp
  obtain rfl : res = q := by
    have h1 := HR.out
    have h2 := HQ.out
    cases res with
    | true => rw [h2]; exact (decide_eq_true (h1.1 rfl).2.2.2.2).symm
    | false =>
      rw [h2]
      exact (decide_eq_false (fun x => by have := h1.2 ⟨rfl, rfl, rfl, rfl, x⟩; cases this)).symm
  clear HR RF HQ
  go_enter Tryd.func11, Tryd.ntmps11
  go_wp2_with fail
  rw [← HW1.out]
  refine CE.mono ?_
  rintro e w2 ⟨rfl, hb2⟩
  have HK2 : Hid (Kept w w2) := Lib.hid ((show Kept w W1 from HK1.out).then hb2)
  clear hb2 CE a0 a1 a2 a3 a4 d0 d1 d2 d3 d4
  go_wp2
  go_ret
  exact ⟨rfl, HK2.out⟩

set_option maxRecDepth 100000 in
set_option maxHeartbeats 16000000 in
theorem rweightOk : RWeightOk := by
  intro r v w H hl
  have HH := Lib.hid H
  obtain ⟨tv, rfl, hm, hwf⟩ := H
  obtain ⟨p, c, rfl, -, -⟩ := hm.out encU
  obtain ⟨n, hn⟩ : ∃ n, n = r.mans.length := ⟨_, rfl⟩
  unfold rpC at HH ⊢
  rw [← hn] at HH hl ⊢
  have hmay := HH.out
  obtain ⟨W1, hW1⟩ : ∃ W1, W1 = w.alloc (.cells #[.string (str r.name), .int .i64 r.size, .int .i64 r.re, .int .i64 r.im, .slice p n c] 24) := ⟨_, rfl⟩
  have HW1 := Lib.hid hW1
  have hk1 : Kept w W1 := by rw [hW1]; exact box_below _ _
  have HK1 := Lib.hid hk1
  have C := rcheckOk r _ W1 (HH.out.later hk1) (by rw [← hn]; exact hl)
  have HP : Hid (mayQ r → partQ r.re ∧ partQ r.im) := Lib.hid (fun h => h.2.2.1)
  unfold wzV
  obtain ⟨s, hs⟩ : ∃ s, s = str r.name := ⟨_, rfl⟩
  obtain ⟨z, hz⟩ : ∃ z, z = r.size := ⟨_, rfl⟩
  obtain ⟨x, hx⟩ : ∃ x, x = r.re := ⟨_, rfl⟩
  obtain ⟨y, hy⟩ : ∃ y, y = r.im := ⟨_, rfl⟩
  rw [← hs, ← hz, ← hx, ← hy] at hW1 C ⊢
  rw [← hs, ← hz, ← hx, ← hy] at HW1
  rw [← hx, ← hy] at HP
  have HR5 : Hid (Row5 w.heap.size (.string s) (.int .i64 z) (.int .i64 x) (.int .i64 y) (.slice p n c) W1) := Lib.hid ⟨by rw [hW1]; exact heap_alloc_last w _⟩
  have c0 := HR5.out.c0
  have c1 := HR5.out.c1
  have c2 := HR5.out.c2
  have c3 := HR5.out.c3
  have c4 := HR5.out.c4
  rw [hW1] at c0 c1 c2 c3 c4
  clear HH hm hwf hn hW1 hk1 hs hz hx hy hmay hl
  by_cases hmq : mayQ r
  · rw [if_pos hmq] at C ⊢
    obtain ⟨p1, p2⟩ := HP.out hmq
    have CM := fun W => make_yes x y (by unfold partQ at p1; omega) (by unfold partQ at p2; omega) W
    clear HP hmq p1 p2
    go_enter Tryd.func15, Tryd.ntmps15
    go_wp2_with fail
    rw [← HW1.out]
    refine C.mono ?_
    rintro e w2 ⟨rfl, hb2⟩
    have HK2 : Hid (Kept w w2) := Lib.hid ((show Kept w W1 from HK1.out).then hb2)
    have r2 := HR5.out.later hb2
    have d2 := r2.c2
    have d3 := r2.c3
    clear hb2 C r2 c0 c1 c2 c3 c4
    go_wp2_with fail
    refine (CM _).mono ?_
    rintro e w3 ⟨rfl, rfl⟩
    go_wp2
    go_ret
    exact ⟨rfl, HK2.out⟩
  · rw [if_neg hmq] at C ⊢
    clear HP hmq
    go_enter Tryd.func15, Tryd.ntmps15
    go_wp2_with fail
    rw [← HW1.out]
    refine C.mono ?_
    rintro e w2 ⟨rfl, hb2⟩
    have HK2 : Hid (Kept w w2) := Lib.hid ((show Kept w W1 from HK1.out).then hb2)
    clear hb2 C c0 c1 c2 c3 c4
    go_wp2
    go_ret
    exact ⟨rfl, HK2.out⟩

end Go.Proofs.YtijdbmapdmhknaaDoor
