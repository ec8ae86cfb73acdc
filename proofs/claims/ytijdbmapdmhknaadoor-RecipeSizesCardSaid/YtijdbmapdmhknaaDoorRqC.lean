/- RecipeSizes, RecipeGets out of the contracts. -/
import Derived.Test.YtijdbmapdmhknaaDoorRqB
namespace Go.Proofs.YtijdbmapdmhknaaDoor
open Go.RowKit

theorem RpIs.cutQ {r : Rp} {v : Value} {w : World} (H : RpIs r v w) : ∃ p c, v = .agg #[.string (str r.name), .int .i64 r.size, .int .i64 r.re, .int .i64 r.im, .slice p r.mans.length c] := by
  obtain ⟨tv, rfl, h, -⟩ := H
  obtain ⟨p, c, rfl, -, -⟩ := h.out encU
  exact ⟨p, c, rfl⟩
theorem getQ_few (t : List UInt8) : ((getQ t).getD Rp.zero).mans.length ≤ 1024 := by
  cases h : getQ t with
  | none => exact Nat.zero_le _
  | some m => exact (getQ_ok h).1.2.2.2.1

set_option maxRecDepth 100000 in
set_option maxHeartbeats 16000000 in
theorem recipeGets_of (CG : RGetOk) (CP : RPutOk) (AW : AwakeQ) (s : ByteArray) (w : World) (hT : TabAt w) :
    Calls Tryd.prog 4 #[.string s] w fun e w' => e = .returned (.bool true) ∧ Kept w w' := by
  have HT := Lib.hid hT
  clear hT
  by_cases h5 : 5000 < s.size
  · have b1 : decide ((s.size : Int) > 5000) = true := decide_eq_true (by omega)
    have b1i : (5000 : Int) < s.size := by omega
    have b1j : (5000 : Int) ≤ s.size := by omega
    obtain ⟨T, hTT⟩ : ∃ T, T = s.extract 0 5000 := ⟨_, rfl⟩
    have hx : s.extract 0 5000 = T := hTT.symm
    have hsz : T.size ≤ 100000 := by rw [hTT, ByteArray.size_extract]; omega
    clear hTT h5
    obtain ⟨G, hG⟩ : ∃ G, G = getQ T.data.toList := ⟨_, rfl⟩
    obtain ⟨R, hR⟩ : ∃ R, R = G.getD Rp.zero := ⟨_, rfl⟩
    obtain ⟨GE, hge⟩ : ∃ e, e = getVQ T.data.toList := ⟨_, rfl⟩
    obtain ⟨GO, hgo⟩ : ∃ e, e = G.isSome := ⟨_, rfl⟩
    have C1 := fun W h => CG T W hsz h
    have C2 := fun W => rget16_any T (by omega) W
    rw [← hge, ← hG, ← hR] at C1
    rw [← hG, ← hR, ← hgo] at C2
    have HRL : Hid (R.mans.length ≤ 100000) := Lib.hid (by
      rw [hR, hG]
      have := getQ_few T.data.toList
      omega)
    have HRL' : Hid (R.mans.length ≤ 1000000) := Lib.hid (by have := HRL.out; omega)
    obtain ⟨nm, hnm⟩ : ∃ x, x = str R.name := ⟨_, rfl⟩
    obtain ⟨z, hz⟩ : ∃ x, x = R.size := ⟨_, rfl⟩
    obtain ⟨x, hx⟩ : ∃ x, x = R.re := ⟨_, rfl⟩
    obtain ⟨y, hy⟩ : ∃ x, x = R.im := ⟨_, rfl⟩
    obtain ⟨n, hn⟩ : ∃ x, x = R.mans.length := ⟨_, rfl⟩
    have HCUT : Hid (∀ u W, RpIs R u W → ∃ p c, u = .agg #[.string nm, .int .i64 z, .int .i64 x, .int .i64 y, .slice p n c]) := Lib.hid (fun u W h => by
      obtain ⟨p, c, e⟩ := h.cutQ
      exact ⟨p, c, by rw [e, hnm, hz, hx, hy, hn]⟩)
    cases hgs : G with
    | none =>
      rw [hgs] at hgo
      have hge' : GE = 110 := by rw [hge]; unfold getVQ; rw [← hG, hgs]; rfl
      obtain rfl : GO = false := hgo
      clear hge
      clear hG hR hnm hz hx hy hn hgs hsz CG CP
      go_enter Tryd.func4, Tryd.ntmps4
      go_wp2_with fail
      refine (C1 w HT.out).mono ?_
      rintro e w1 ⟨⟨u, rfl, hu⟩, hk1⟩
      obtain ⟨p, c, rfl⟩ := HCUT.out _ _ hu
      obtain ⟨W2, hW2⟩ : ∃ W, W = w1.alloc (.cells #[.string nm, .int .i64 z, .int .i64 x, .int .i64 y, .slice p n c] 24) := ⟨_, rfl⟩
      have hk2 : Kept w1 W2 := by rw [hW2]; exact box_below _ _
      have HK2 : Hid (Kept w W2) := Lib.hid (hk1.then hk2)
      have HR2 : Hid (Row5 w1.heap.size (.string nm) (.int .i64 z) (.int .i64 x) (.int .i64 y) (.slice p n c) W2) := Lib.hid ⟨by rw [hW2]; exact heap_alloc_last w1 _⟩
      have HU2 := Lib.hid (hu.later hk2)
      have HW2 := Lib.hid hW2
      clear hk1 hu hk2 hW2 C1
      go_wp2_with fail
      rw [← HW2.out]
      refine (C2 W2).mono ?_
      rintro e w3 ⟨⟨u, rfl, hu⟩, hk3⟩
      obtain ⟨p2, c2, rfl⟩ := HCUT.out _ _ hu
      obtain ⟨W4, hW4⟩ : ∃ W, W = w3.alloc (.cells #[.string nm, .int .i64 z, .int .i64 x, .int .i64 y, .slice p2 n c2] 24) := ⟨_, rfl⟩
      have hk4 : Kept w3 W4 := by rw [hW4]; exact box_below _ _
      have HK4 : Hid (Kept w W4) := Lib.hid ((HK2.out.then hk3).then hk4)
      have HR4 : Hid (Row5 w1.heap.size (.string nm) (.int .i64 z) (.int .i64 x) (.int .i64 y) (.slice p n c) W4) := Lib.hid ((HR2.out.later hk3).later hk4)
      have HS4 : Hid (Row5 w3.heap.size (.string nm) (.int .i64 z) (.int .i64 x) (.int .i64 y) (.slice p2 n c2) W4) := Lib.hid ⟨by rw [hW4]; exact heap_alloc_last w3 _⟩
      have HU4 := Lib.hid ((HU2.out.later hk3).later hk4)
      have HV4 := Lib.hid (hu.later hk4)
      have HW4 := Lib.hid hW4
      clear hu hk3 hk4 hW4 C2 HW2 HK2 HR2 HU2
      have a0 := HR4.out.c0
      have a1 := HR4.out.c1
      have a2 := HR4.out.c2
      have a3 := HR4.out.c3
      have a4 := HR4.out.c4
      have d0 := HS4.out.c0
      have d1 := HS4.out.c1
      have d2 := HS4.out.c2
      have d3 := HS4.out.c3
      have d4 := HS4.out.c4
      have CS := rsame16_any R R _ _ W4 HU4.out HV4.out HRL'.out HRL'.out
      rw [decide_eq_true (rfl : R = R)] at CS
      go_wp2_with (with_reducible refine wpList_halt (d := 24) rfl ?_)
      unfold Halted
      rw [← HW4.out]
      go_wp2_with fail
      refine CS.mono ?_
      rintro e w5 ⟨rfl, hk5⟩
      have HK5 := Lib.hid (HK4.out.then hk5)
      have HR5 := Lib.hid (HR4.out.later hk5)
      have HU5 := Lib.hid (HU4.out.later hk5)
      clear hk5 CS a0 a1 a2 a3 a4 d0 d1 d2 d3 d4 HW4 HK4 HR4 HS4 HU4 HV4
      have e1 : (GE == 0) = false := by rw [hge']; rfl
      have e2 : (GE == 110) = true := by rw [hge']; rfl
      have e3 : (GE != 0) = true := by rw [hge']; rfl
      clear hge'
      go_wp2_with fail
      refine (AW _ (HT.out.later HK5.out)).mono ?_
      rintro e w6 ⟨rfl, hk6⟩
      have HK6 := Lib.hid (HK5.out.then hk6)
      clear hk6
      go_wp2
      go_ret
      exact ⟨by first | rfl | simp [e2], HK6.out⟩
    | some M =>
      rw [hgs] at hgo
      have hge' : GE = 0 := by rw [hge]; unfold getVQ; rw [← hG, hgs]; rfl
      obtain rfl : GO = true := hgo
      have hRM : R = M := by rw [hR, hgs]; rfl
      have hok := getQ_ok (hG.symm.trans hgs)
      have HMY : Hid (mayQ R ∧ putVQ R = T) := Lib.hid (by
        rw [hRM]
        refine ⟨hok.1, ?_⟩
        unfold putVQ
        rw [if_pos hok.1, hok.2, str_data])
      have HCP := Lib.hid CP
      clear hge
      clear hG hR hnm hz hx hy hn hgs hsz CG CP hRM hok
      go_enter Tryd.func4, Tryd.ntmps4
      go_wp2_with fail
      refine (C1 w HT.out).mono ?_
      rintro e w1 ⟨⟨u, rfl, hu⟩, hk1⟩
      obtain ⟨p, c, rfl⟩ := HCUT.out _ _ hu
      obtain ⟨W2, hW2⟩ : ∃ W, W = w1.alloc (.cells #[.string nm, .int .i64 z, .int .i64 x, .int .i64 y, .slice p n c] 24) := ⟨_, rfl⟩
      have hk2 : Kept w1 W2 := by rw [hW2]; exact box_below _ _
      have HK2 : Hid (Kept w W2) := Lib.hid (hk1.then hk2)
      have HR2 : Hid (Row5 w1.heap.size (.string nm) (.int .i64 z) (.int .i64 x) (.int .i64 y) (.slice p n c) W2) := Lib.hid ⟨by rw [hW2]; exact heap_alloc_last w1 _⟩
      have HU2 := Lib.hid (hu.later hk2)
      have HW2 := Lib.hid hW2
      clear hk1 hu hk2 hW2 C1
      go_wp2_with fail
      rw [← HW2.out]
      refine (C2 W2).mono ?_
      rintro e w3 ⟨⟨u, rfl, hu⟩, hk3⟩
      obtain ⟨p2, c2, rfl⟩ := HCUT.out _ _ hu
      obtain ⟨W4, hW4⟩ : ∃ W, W = w3.alloc (.cells #[.string nm, .int .i64 z, .int .i64 x, .int .i64 y, .slice p2 n c2] 24) := ⟨_, rfl⟩
      have hk4 : Kept w3 W4 := by rw [hW4]; exact box_below _ _
      have HK4 : Hid (Kept w W4) := Lib.hid ((HK2.out.then hk3).then hk4)
      have HR4 : Hid (Row5 w1.heap.size (.string nm) (.int .i64 z) (.int .i64 x) (.int .i64 y) (.slice p n c) W4) := Lib.hid ((HR2.out.later hk3).later hk4)
      have HS4 : Hid (Row5 w3.heap.size (.string nm) (.int .i64 z) (.int .i64 x) (.int .i64 y) (.slice p2 n c2) W4) := Lib.hid ⟨by rw [hW4]; exact heap_alloc_last w3 _⟩
      have HU4 := Lib.hid ((HU2.out.later hk3).later hk4)
      have HV4 := Lib.hid (hu.later hk4)
      have HW4 := Lib.hid hW4
      clear hu hk3 hk4 hW4 C2 HW2 HK2 HR2 HU2
      have a0 := HR4.out.c0
      have a1 := HR4.out.c1
      have a2 := HR4.out.c2
      have a3 := HR4.out.c3
      have a4 := HR4.out.c4
      have d0 := HS4.out.c0
      have d1 := HS4.out.c1
      have d2 := HS4.out.c2
      have d3 := HS4.out.c3
      have d4 := HS4.out.c4
      have CS := rsame16_any R R _ _ W4 HU4.out HV4.out HRL'.out HRL'.out
      rw [decide_eq_true (rfl : R = R)] at CS
      go_wp2_with (with_reducible refine wpList_halt (d := 24) rfl ?_)
      unfold Halted
      rw [← HW4.out]
      go_wp2_with fail
      refine CS.mono ?_
      rintro e w5 ⟨rfl, hk5⟩
      have HK5 := Lib.hid (HK4.out.then hk5)
      have HR5 := Lib.hid (HR4.out.later hk5)
      have HU5 := Lib.hid (HU4.out.later hk5)
      clear hk5 CS a0 a1 a2 a3 a4 d0 d1 d2 d3 d4 HW4 HK4 HR4 HS4 HU4 HV4
      have e1 : (GE == 0) = true := by rw [hge']; rfl
      have e3 : (GE != 0) = false := by rw [hge']; rfl
      clear hge'
      go_wp2_with fail
      refine (AW _ (HT.out.later HK5.out)).mono ?_
      rintro e w6 ⟨rfl, hk6⟩
      have HK6 := Lib.hid (HK5.out.then hk6)
      have HR6 := Lib.hid (HR5.out.later hk6)
      have CQ := HCP.out R _ w6 (HU5.out.later hk6) HRL.out (HT.out.later HK6.out)
      rw [if_pos HMY.out.1, HMY.out.2] at CQ
      have a0 := HR6.out.c0
      have a1 := HR6.out.c1
      have a2 := HR6.out.c2
      have a3 := HR6.out.c3
      have a4 := HR6.out.c4
      clear hk6
      go_wp2_with fail
      refine CQ.mono ?_
      rintro e w7 ⟨rfl, hk7⟩
      have HK7 := Lib.hid (HK6.out.then hk7)
      clear hk7 CQ a0 a1 a2 a3 a4
      go_wp2
      go_ret
      exact ⟨by first | rfl | simp, HK7.out⟩
  · have b1 : decide ((s.size : Int) > 5000) = false := decide_eq_false (by omega)
    have b1i : ¬ (5000 : Int) < s.size := by omega
    have hsz : s.size ≤ 100000 := by omega
    clear h5
    obtain ⟨G, hG⟩ : ∃ G, G = getQ s.data.toList := ⟨_, rfl⟩
    obtain ⟨R, hR⟩ : ∃ R, R = G.getD Rp.zero := ⟨_, rfl⟩
    obtain ⟨GE, hge⟩ : ∃ e, e = getVQ s.data.toList := ⟨_, rfl⟩
    obtain ⟨GO, hgo⟩ : ∃ e, e = G.isSome := ⟨_, rfl⟩
    have C1 := fun W h => CG s W hsz h
    have C2 := fun W => rget16_any s (by omega) W
    rw [← hge, ← hG, ← hR] at C1
    rw [← hG, ← hR, ← hgo] at C2
    have HRL : Hid (R.mans.length ≤ 100000) := Lib.hid (by
      rw [hR, hG]
      have := getQ_few s.data.toList
      omega)
    have HRL' : Hid (R.mans.length ≤ 1000000) := Lib.hid (by have := HRL.out; omega)
    obtain ⟨nm, hnm⟩ : ∃ x, x = str R.name := ⟨_, rfl⟩
    obtain ⟨z, hz⟩ : ∃ x, x = R.size := ⟨_, rfl⟩
    obtain ⟨x, hx⟩ : ∃ x, x = R.re := ⟨_, rfl⟩
    obtain ⟨y, hy⟩ : ∃ x, x = R.im := ⟨_, rfl⟩
    obtain ⟨n, hn⟩ : ∃ x, x = R.mans.length := ⟨_, rfl⟩
    have HCUT : Hid (∀ u W, RpIs R u W → ∃ p c, u = .agg #[.string nm, .int .i64 z, .int .i64 x, .int .i64 y, .slice p n c]) := Lib.hid (fun u W h => by
      obtain ⟨p, c, e⟩ := h.cutQ
      exact ⟨p, c, by rw [e, hnm, hz, hx, hy, hn]⟩)
    cases hgs : G with
    | none =>
      rw [hgs] at hgo
      have hge' : GE = 110 := by rw [hge]; unfold getVQ; rw [← hG, hgs]; rfl
      obtain rfl : GO = false := hgo
      clear hge
      clear hG hR hnm hz hx hy hn hgs hsz CG CP
      go_enter Tryd.func4, Tryd.ntmps4
      go_wp2_with fail
      refine (C1 w HT.out).mono ?_
      rintro e w1 ⟨⟨u, rfl, hu⟩, hk1⟩
      obtain ⟨p, c, rfl⟩ := HCUT.out _ _ hu
      obtain ⟨W2, hW2⟩ : ∃ W, W = w1.alloc (.cells #[.string nm, .int .i64 z, .int .i64 x, .int .i64 y, .slice p n c] 24) := ⟨_, rfl⟩
      have hk2 : Kept w1 W2 := by rw [hW2]; exact box_below _ _
      have HK2 : Hid (Kept w W2) := Lib.hid (hk1.then hk2)
      have HR2 : Hid (Row5 w1.heap.size (.string nm) (.int .i64 z) (.int .i64 x) (.int .i64 y) (.slice p n c) W2) := Lib.hid ⟨by rw [hW2]; exact heap_alloc_last w1 _⟩
      have HU2 := Lib.hid (hu.later hk2)
      have HW2 := Lib.hid hW2
      clear hk1 hu hk2 hW2 C1
      go_wp2_with fail
      rw [← HW2.out]
      refine (C2 W2).mono ?_
      rintro e w3 ⟨⟨u, rfl, hu⟩, hk3⟩
      obtain ⟨p2, c2, rfl⟩ := HCUT.out _ _ hu
      obtain ⟨W4, hW4⟩ : ∃ W, W = w3.alloc (.cells #[.string nm, .int .i64 z, .int .i64 x, .int .i64 y, .slice p2 n c2] 24) := ⟨_, rfl⟩
      have hk4 : Kept w3 W4 := by rw [hW4]; exact box_below _ _
      have HK4 : Hid (Kept w W4) := Lib.hid ((HK2.out.then hk3).then hk4)
      have HR4 : Hid (Row5 w1.heap.size (.string nm) (.int .i64 z) (.int .i64 x) (.int .i64 y) (.slice p n c) W4) := Lib.hid ((HR2.out.later hk3).later hk4)
      have HS4 : Hid (Row5 w3.heap.size (.string nm) (.int .i64 z) (.int .i64 x) (.int .i64 y) (.slice p2 n c2) W4) := Lib.hid ⟨by rw [hW4]; exact heap_alloc_last w3 _⟩
      have HU4 := Lib.hid ((HU2.out.later hk3).later hk4)
      have HV4 := Lib.hid (hu.later hk4)
      have HW4 := Lib.hid hW4
      clear hu hk3 hk4 hW4 C2 HW2 HK2 HR2 HU2
      have a0 := HR4.out.c0
      have a1 := HR4.out.c1
      have a2 := HR4.out.c2
      have a3 := HR4.out.c3
      have a4 := HR4.out.c4
      have d0 := HS4.out.c0
      have d1 := HS4.out.c1
      have d2 := HS4.out.c2
      have d3 := HS4.out.c3
      have d4 := HS4.out.c4
      have CS := rsame16_any R R _ _ W4 HU4.out HV4.out HRL'.out HRL'.out
      rw [decide_eq_true (rfl : R = R)] at CS
      go_wp2_with (with_reducible refine wpList_halt (d := 24) rfl ?_)
      unfold Halted
      rw [← HW4.out]
      go_wp2_with fail
      refine CS.mono ?_
      rintro e w5 ⟨rfl, hk5⟩
      have HK5 := Lib.hid (HK4.out.then hk5)
      have HR5 := Lib.hid (HR4.out.later hk5)
      have HU5 := Lib.hid (HU4.out.later hk5)
      clear hk5 CS a0 a1 a2 a3 a4 d0 d1 d2 d3 d4 HW4 HK4 HR4 HS4 HU4 HV4
      have e1 : (GE == 0) = false := by rw [hge']; rfl
      have e2 : (GE == 110) = true := by rw [hge']; rfl
      have e3 : (GE != 0) = true := by rw [hge']; rfl
      clear hge'
      go_wp2_with fail
      refine (AW _ (HT.out.later HK5.out)).mono ?_
      rintro e w6 ⟨rfl, hk6⟩
      have HK6 := Lib.hid (HK5.out.then hk6)
      clear hk6
      go_wp2
      go_ret
      exact ⟨by first | rfl | simp [e2], HK6.out⟩
    | some M =>
      rw [hgs] at hgo
      have hge' : GE = 0 := by rw [hge]; unfold getVQ; rw [← hG, hgs]; rfl
      obtain rfl : GO = true := hgo
      have hRM : R = M := by rw [hR, hgs]; rfl
      have hok := getQ_ok (hG.symm.trans hgs)
      have HMY : Hid (mayQ R ∧ putVQ R = s) := Lib.hid (by
        rw [hRM]
        refine ⟨hok.1, ?_⟩
        unfold putVQ
        rw [if_pos hok.1, hok.2, str_data])
      have HCP := Lib.hid CP
      clear hge
      clear hG hR hnm hz hx hy hn hgs hsz CG CP hRM hok
      go_enter Tryd.func4, Tryd.ntmps4
      go_wp2_with fail
      refine (C1 w HT.out).mono ?_
      rintro e w1 ⟨⟨u, rfl, hu⟩, hk1⟩
      obtain ⟨p, c, rfl⟩ := HCUT.out _ _ hu
      obtain ⟨W2, hW2⟩ : ∃ W, W = w1.alloc (.cells #[.string nm, .int .i64 z, .int .i64 x, .int .i64 y, .slice p n c] 24) := ⟨_, rfl⟩
      have hk2 : Kept w1 W2 := by rw [hW2]; exact box_below _ _
      have HK2 : Hid (Kept w W2) := Lib.hid (hk1.then hk2)
      have HR2 : Hid (Row5 w1.heap.size (.string nm) (.int .i64 z) (.int .i64 x) (.int .i64 y) (.slice p n c) W2) := Lib.hid ⟨by rw [hW2]; exact heap_alloc_last w1 _⟩
      have HU2 := Lib.hid (hu.later hk2)
      have HW2 := Lib.hid hW2
      clear hk1 hu hk2 hW2 C1
      go_wp2_with fail
      rw [← HW2.out]
      refine (C2 W2).mono ?_
      rintro e w3 ⟨⟨u, rfl, hu⟩, hk3⟩
      obtain ⟨p2, c2, rfl⟩ := HCUT.out _ _ hu
      obtain ⟨W4, hW4⟩ : ∃ W, W = w3.alloc (.cells #[.string nm, .int .i64 z, .int .i64 x, .int .i64 y, .slice p2 n c2] 24) := ⟨_, rfl⟩
      have hk4 : Kept w3 W4 := by rw [hW4]; exact box_below _ _
      have HK4 : Hid (Kept w W4) := Lib.hid ((HK2.out.then hk3).then hk4)
      have HR4 : Hid (Row5 w1.heap.size (.string nm) (.int .i64 z) (.int .i64 x) (.int .i64 y) (.slice p n c) W4) := Lib.hid ((HR2.out.later hk3).later hk4)
      have HS4 : Hid (Row5 w3.heap.size (.string nm) (.int .i64 z) (.int .i64 x) (.int .i64 y) (.slice p2 n c2) W4) := Lib.hid ⟨by rw [hW4]; exact heap_alloc_last w3 _⟩
      have HU4 := Lib.hid ((HU2.out.later hk3).later hk4)
      have HV4 := Lib.hid (hu.later hk4)
      have HW4 := Lib.hid hW4
      clear hu hk3 hk4 hW4 C2 HW2 HK2 HR2 HU2
      have a0 := HR4.out.c0
      have a1 := HR4.out.c1
      have a2 := HR4.out.c2
      have a3 := HR4.out.c3
      have a4 := HR4.out.c4
      have d0 := HS4.out.c0
      have d1 := HS4.out.c1
      have d2 := HS4.out.c2
      have d3 := HS4.out.c3
      have d4 := HS4.out.c4
      have CS := rsame16_any R R _ _ W4 HU4.out HV4.out HRL'.out HRL'.out
      rw [decide_eq_true (rfl : R = R)] at CS
      go_wp2_with (with_reducible refine wpList_halt (d := 24) rfl ?_)
      unfold Halted
      rw [← HW4.out]
      go_wp2_with fail
      refine CS.mono ?_
      rintro e w5 ⟨rfl, hk5⟩
      have HK5 := Lib.hid (HK4.out.then hk5)
      have HR5 := Lib.hid (HR4.out.later hk5)
      have HU5 := Lib.hid (HU4.out.later hk5)
      clear hk5 CS a0 a1 a2 a3 a4 d0 d1 d2 d3 d4 HW4 HK4 HR4 HS4 HU4 HV4
      have e1 : (GE == 0) = true := by rw [hge']; rfl
      have e3 : (GE != 0) = false := by rw [hge']; rfl
      clear hge'
      go_wp2_with fail
      refine (AW _ (HT.out.later HK5.out)).mono ?_
      rintro e w6 ⟨rfl, hk6⟩
      have HK6 := Lib.hid (HK5.out.then hk6)
      have HR6 := Lib.hid (HR5.out.later hk6)
      have CQ := HCP.out R _ w6 (HU5.out.later hk6) HRL.out (HT.out.later HK6.out)
      rw [if_pos HMY.out.1, HMY.out.2] at CQ
      have a0 := HR6.out.c0
      have a1 := HR6.out.c1
      have a2 := HR6.out.c2
      have a3 := HR6.out.c3
      have a4 := HR6.out.c4
      clear hk6
      go_wp2_with fail
      refine CQ.mono ?_
      rintro e w7 ⟨rfl, hk7⟩
      have HK7 := Lib.hid (HK6.out.then hk7)
      clear hk7 CQ a0 a1 a2 a3 a4
      go_wp2
      go_ret
      exact ⟨by first | rfl | simp, HK7.out⟩

theorem sizeVQ_yes {k : Nat} {n : Int} (h : (1 ≤ k ∧ k ≤ 48) ∧ 0 ≤ n ∧ n ≤ 1024) : sizeVQ k n = 26 + k + 4 * n := if_pos h
theorem sizeVQ_no {k : Nat} {n : Int} (h : ¬ ((1 ≤ k ∧ k ≤ 48) ∧ 0 ≤ n ∧ n ≤ 1024)) : sizeVQ k n = 0 := if_neg h
end Go.Proofs.YtijdbmapdmhknaaDoor
