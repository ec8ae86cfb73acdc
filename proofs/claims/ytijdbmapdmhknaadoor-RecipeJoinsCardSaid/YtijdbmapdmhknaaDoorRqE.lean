/- RecipePuts out of the contracts. -/
import Derived.Test.YtijdbmapdmhknaaDoorRqD
namespace Go.Proofs.YtijdbmapdmhknaaDoor
open Go.RowKit

theorem Calls.kept_of' {P : Program} {f : FuncId} {args : Array Value} {w W : World} {v : Value} (hK : Kept w W)
    (h : Calls P f args W fun e w' => e = .returned v ∧ Kept W w') : Calls P f args W fun e w' => e = .returned v ∧ Kept w w' :=
  h.mono fun _ _ ⟨he, hb⟩ => ⟨he, hK.then hb⟩
theorem order_same (x : Int) (h : x.natAbs ≤ 2 ^ 53) : FloatKind.f64.format.order (flt x) (flt x) = some .eq := by
  show Ieee.double.order _ _ = _
  rw [order_val (val_flt x h).1 (val_flt x h).1]
  simp [compare, compareOfLessAndEq]
theorem fewQ_wfl (r : Rp) : (fewQ r).name.length ≤ 60 := by
  unfold fewQ
  rw [List.length_take]; omega

set_option maxRecDepth 100000 in
set_option maxHeartbeats 32000000 in
theorem recipePuts_of (CC : RCheckOk) (CP : RPutOk) (CG : RGetOk) (CS : RSameOk) (CZ : RSizeOk) (CW : RWeightOk) (AW : AwakeQ) (r o : Rp) (v u : Value) (w : World) (HM : RpIs r v w) (HO : RpIs o u w) (hT : TabAt w) :
    Calls Tryd.prog 3 #[v, u] w fun e w' => e = .returned (.bool true) ∧ Kept w w' := by
  have HT := Lib.hid hT
  have HCC := Lib.hid CC
  have HCP := Lib.hid CP
  have HCG := Lib.hid CG
  have HCS := Lib.hid CS
  have HCZ := Lib.hid CZ
  have HCW := Lib.hid CW
  have HAW := Lib.hid AW
  obtain ⟨p0, c0, hv⟩ := HM.cutQ
  obtain ⟨pk0, ck0, hu⟩ := HO.cutQ
  obtain ⟨R, hR⟩ : ∃ R, R = fewQ r := ⟨_, rfl⟩
  obtain ⟨K, hK⟩ : ∃ R, R = fewQ o := ⟨_, rfl⟩
  have hRl := fewQ_mans r
  have hKl := fewQ_mans o
  have hRn := fewQ_wfl r
  rw [← hR] at hRl hRn
  rw [← hK] at hKl
  have HRL : Hid (R.mans.length ≤ 100000) := Lib.hid (by omega)
  have HKL : Hid (K.mans.length ≤ 100000) := Lib.hid (by omega)
  have HRL2 : Hid (R.mans.length ≤ 1000000) := Lib.hid (by omega)
  have HKL2 : Hid (K.mans.length ≤ 1000000) := Lib.hid (by omega)
  have HRI : Hid (RpIs r v w) := Lib.hid HM
  have HKI : Hid (RpIs o u w) := Lib.hid HO
  subst hv hu
  obtain ⟨nm0, h1⟩ : ∃ x, x = str r.name := ⟨_, rfl⟩
  obtain ⟨z0, h2⟩ : ∃ x, x = r.size := ⟨_, rfl⟩
  obtain ⟨x0, h3⟩ : ∃ x, x = r.re := ⟨_, rfl⟩
  obtain ⟨y0, h4⟩ : ∃ x, x = r.im := ⟨_, rfl⟩
  obtain ⟨n0, h5⟩ : ∃ x, x = r.mans.length := ⟨_, rfl⟩
  obtain ⟨km0, k1⟩ : ∃ x, x = str o.name := ⟨_, rfl⟩
  obtain ⟨kz0, k2⟩ : ∃ x, x = o.size := ⟨_, rfl⟩
  obtain ⟨kx0, k3⟩ : ∃ x, x = o.re := ⟨_, rfl⟩
  obtain ⟨ky0, k4⟩ : ∃ x, x = o.im := ⟨_, rfl⟩
  obtain ⟨kn0, k5⟩ : ∃ x, x = o.mans.length := ⟨_, rfl⟩
  rw [← h1, ← h2, ← h3, ← h4, ← h5] at HRI
  rw [← k1, ← k2, ← k3, ← k4, ← k5] at HKI
  rw [← h1, ← h2, ← h3, ← h4, ← h5, ← k1, ← k2, ← k3, ← k4, ← k5]
  obtain ⟨nm, l1⟩ : ∃ x, x = str R.name := ⟨_, rfl⟩
  obtain ⟨z, l2⟩ : ∃ x, x = R.size := ⟨_, rfl⟩
  obtain ⟨x, l3⟩ : ∃ x, x = R.re := ⟨_, rfl⟩
  obtain ⟨y, l4⟩ : ∃ x, x = R.im := ⟨_, rfl⟩
  obtain ⟨n, l5⟩ : ∃ x, x = R.mans.length := ⟨_, rfl⟩
  obtain ⟨km, m1⟩ : ∃ x, x = str K.name := ⟨_, rfl⟩
  obtain ⟨kz, m2⟩ : ∃ x, x = K.size := ⟨_, rfl⟩
  obtain ⟨kx, m3⟩ : ∃ x, x = K.re := ⟨_, rfl⟩
  obtain ⟨ky, m4⟩ : ∃ x, x = K.im := ⟨_, rfl⟩
  obtain ⟨kn, m5⟩ : ∃ x, x = K.mans.length := ⟨_, rfl⟩
  have HCR : Hid (∀ u W, RpIs R u W → ∃ p c, u = .agg #[.string nm, .int .i64 z, .int .i64 x, .int .i64 y, .slice p n c]) := Lib.hid (fun u W h => by
    obtain ⟨p, c, e⟩ := h.cutQ
    exact ⟨p, c, by rw [e, l1, l2, l3, l4, l5]⟩)
  have HCK : Hid (∀ u W, RpIs K u W → ∃ p c, u = .agg #[.string km, .int .i64 kz, .int .i64 kx, .int .i64 ky, .slice p kn c]) := Lib.hid (fun u W h => by
    obtain ⟨p, c, e⟩ := h.cutQ
    exact ⟨p, c, by rw [e, m1, m2, m3, m4, m5]⟩)
  have HFW : Hid (fewQ r = R ∧ fewQ o = K) := Lib.hid ⟨hR.symm, hK.symm⟩
  have HNL : Hid (nm.size ≤ 60 ∧ n ≤ 1030 ∧ nm.size = R.name.length ∧ n = R.mans.length) := Lib.hid ⟨by rw [l1, str_size]; exact hRn, by rw [l5]; exact hRl, by rw [l1, str_size], l5⟩
  have HXY : Hid (x = R.re ∧ y = R.im) := Lib.hid ⟨l3, l4⟩
  obtain ⟨W1, hW1⟩ : ∃ W, W = (w.alloc (.cells #[.string nm0, .int .i64 z0, .int .i64 x0, .int .i64 y0, .slice p0 n0 c0] 24)).alloc (.cells #[.string km0, .int .i64 kz0, .int .i64 kx0, .int .i64 ky0, .slice pk0 kn0 ck0] 24) := ⟨_, rfl⟩
  have HK1 : Hid (Kept w W1) := Lib.hid (by rw [hW1]; exact (show Kept w _ from box_below _ _).then (box_below _ _))
  have HR1 : Hid (Row5 w.heap.size (.string nm0) (.int .i64 z0) (.int .i64 x0) (.int .i64 y0) (.slice p0 n0 c0) W1) := Lib.hid ⟨by rw [hW1]; exact Kept.row (box_below _ _) (heap_alloc_last w _)⟩
  have HKR1 : Hid (Row5 (w.heap.size + 1) (.string km0) (.int .i64 kz0) (.int .i64 kx0) (.int .i64 ky0) (.slice pk0 kn0 ck0) W1) := Lib.hid ⟨by
    have := heap_alloc_last (w.alloc (.cells #[.string nm0, .int .i64 z0, .int .i64 x0, .int .i64 y0, .slice p0 n0 c0] 24)) (.cells #[.string km0, .int .i64 kz0, .int .i64 kx0, .int .i64 ky0, .slice pk0 kn0 ck0] 24)
    have e : (w.alloc (.cells #[.string nm0, .int .i64 z0, .int .i64 x0, .int .i64 y0, .slice p0 n0 c0] 24)).heap.size = w.heap.size + 1 := by simp
    rw [e] at this
    rw [hW1]; exact this⟩
  have HW1 := Lib.hid hW1
  clear hT CC CP CG CS CZ CW AW HM HO hR hK hRl hKl hRn h1 h2 h3 h4 h5 k1 k2 k3 k4 k5 l1 l2 l3 l4 l5 m1 m2 m3 m4 m5 hW1
  by_cases hm : mayQ R
  · obtain ⟨P, hP⟩ : ∃ P, P = str (recpB R) := ⟨_, rfl⟩
    have HPV : Hid (putVQ R = P ∧ (if mayQ R then (0 : Int) else 1) = 0) := Lib.hid ⟨by rw [hP]; exact if_pos hm, if_pos hm⟩
    have HPS : Hid (P.size ≤ 100000 ∧ P = str (recpB R)) := Lib.hid ⟨by rw [hP, str_size, recpB_len]; have := HNL.out; omega, hP⟩
    have hgp : getQ P.data.toList = some R := by rw [hP, str_list]; exact getQ_recpB hm
    have HPG : Hid (getVQ P.data.toList = 0 ∧ (getQ P.data.toList).getD Rp.zero = R) := Lib.hid ⟨by unfold getVQ; rw [hgp]; rfl, by rw [hgp]; rfl⟩
    have HNM : Hid (nm.size ≤ 1000000 ∧ (Lit.int .i64 (n : Int)).wf = true ∧ sizeVQ nm.size (n : Int) = (P.size : Int)) := Lib.hid (by
      obtain ⟨g1, g2, g3, g4⟩ := HNL.out
      obtain ⟨⟨q1, q2⟩, -, -, q4, -⟩ := hm
      refine ⟨by omega, wf_of_le _ (by omega) (by omega), ?_⟩
      rw [sizeVQ_yes ⟨⟨by omega, by omega⟩, by omega, by omega⟩, hP, str_size, recpB_len]
      omega)
    obtain ⟨fx, hfx⟩ : ∃ q, q = flt x := ⟨_, rfl⟩
    obtain ⟨fy, hfy⟩ : ∃ q, q = flt y := ⟨_, rfl⟩
    have hq := hm
    obtain ⟨-, -, ⟨⟨q5, q6⟩, q7, q8⟩, -⟩ := hq
    have HO1 : Hid (FloatKind.f64.format.order fx fx = some .eq) := Lib.hid (by rw [hfx]; exact order_same x (by rw [HXY.out.1]; omega))
    have HO2 : Hid (FloatKind.f64.format.order fy fy = some .eq) := Lib.hid (by rw [hfy]; exact order_same y (by rw [HXY.out.2]; omega))
    have HWV : Hid (wzV R = .complex .f64 fx fy) := Lib.hid (by rw [hfx, hfy, HXY.out.1, HXY.out.2]; exact if_pos hm)
    have HFX : Hid (floatOfInt .f64 x = fx ∧ floatOfInt .f64 y = fy) := Lib.hid ⟨by rw [hfx]; rfl, by rw [hfy]; rfl⟩
    clear hP hgp hfx hfy q5 q6 q7 q8 HNL HXY
    go_enter Tryd.func3, Tryd.ntmps3
    go_wp2_with (with_reducible refine wpList_halt (d := 9) rfl ?_)
    unfold Halted
    rw [← HW1.out]
    have a0 := HR1.out.c0
    have a1 := HR1.out.c1
    have a2 := HR1.out.c2
    have a3 := HR1.out.c3
    have a4 := HR1.out.c4
    have f0 := HR1.out.fz 0
    have f1 := HR1.out.fz 1
    have f2 := HR1.out.fz 2
    have f3 := HR1.out.fz 3
    have f4 := HR1.out.fz 4
    go_wp2_with fail
    refine (few16_any r _ w W1 HRI.out).mono ?_
    rintro e w2 ⟨u, rfl, hu, hk2⟩
    rw [HFW.out.1] at hu
    obtain ⟨p, c, rfl⟩ := HCR.out _ _ (hu w (Below.refl _ w))
    have HU := Lib.hid hu
    have hr2 := HR1.out.later hk2
    have hkr2 := HKR1.out.later hk2
    have h02 : Kept w w2 := HK1.out.then hk2
    clear a0 a1 a2 a3 a4 f0 f1 f2 f3 f4
    obtain ⟨W3, hW3⟩ : ∃ W, W = (((((w2.setCell ⟨w.heap.size, 0, none⟩ (.string nm)).setCell ⟨w.heap.size, 1, none⟩ (.int .i64 z)).setCell ⟨w.heap.size, 2, none⟩ (.int .i64 x)).setCell ⟨w.heap.size, 3, none⟩ (.int .i64 y)).setCell ⟨w.heap.size, 4, none⟩ (.slice p n c)) := ⟨_, rfl⟩
    have hr3 : Row5 w.heap.size (.string nm) (.int .i64 z) (.int .i64 x) (.int .i64 y) (.slice p n c) W3 := ⟨by rw [hW3]; exact set5_rowQ hr2.row (.string nm) (.int .i64 z) (.int .i64 x) (.int .i64 y) (.slice p n c)⟩
    have hkr3 : Row5 (w.heap.size + 1) (.string km0) (.int .i64 kz0) (.int .i64 kx0) (.int .i64 ky0) (.slice pk0 kn0 ck0) W3 := ⟨by rw [hW3]; exact ((but_set5Q (w := w2) (g := w.heap.size) (.string nm) (.int .i64 z) (.int .i64 x) (.int .i64 y) (.slice p n c)).block (w.heap.size + 1) (Array.getElem?_eq_some_iff.1 hkr2.row).1 (by omega)).trans hkr2.row⟩
    have h03 : Kept w W3 := by rw [hW3]; exact below_set5Q h02 h02.size (Nat.le_refl _) (.string nm) (.int .i64 z) (.int .i64 x) (.int .i64 y) (.slice p n c)
    have HR2 := Lib.hid hr2
    have HR3 := Lib.hid hr3
    have HKR3 := Lib.hid hkr3
    have H03 := Lib.hid h03
    have HW3 := Lib.hid hW3
    have a0 := HR2.out.c0
    have a1 := HR2.out.c1
    have a2 := HR2.out.c2
    have a3 := HR2.out.c3
    have a4 := HR2.out.c4
    have f0 := HR2.out.fz 0
    have f1 := HR2.out.fz 1
    have f2 := HR2.out.fz 2
    have f3 := HR2.out.fz 3
    have f4 := HR2.out.fz 4
    clear hr2 hkr2 h02 hr3 hkr3 h03 hW3 hu hk2 HR1 HKR1 HW1 HK1
    go_wp2_with (with_reducible refine wpList_halt (d := 11) rfl ?_)
    unfold Halted
    rw [← HW3.out]
    clear a0 a1 a2 a3 a4 f0 f1 f2 f3 f4 HR2 HW3
    have a0 := HKR3.out.c0
    have a1 := HKR3.out.c1
    have a2 := HKR3.out.c2
    have a3 := HKR3.out.c3
    have a4 := HKR3.out.c4
    have f0 := HKR3.out.fz 0
    have f1 := HKR3.out.fz 1
    have f2 := HKR3.out.fz 2
    have f3 := HKR3.out.fz 3
    have f4 := HKR3.out.fz 4
    go_wp2_with fail
    refine (few16_any o _ w W3 HKI.out).mono ?_
    rintro e w4 ⟨u, rfl, hu, hk4⟩
    rw [HFW.out.2] at hu
    obtain ⟨pk, ck, rfl⟩ := HCK.out _ _ (hu w (Below.refl _ w))
    have HUK := Lib.hid hu
    have hr4 := HR3.out.later hk4
    have hkr4 := HKR3.out.later hk4
    have h04 : Kept w w4 := H03.out.then hk4
    clear a0 a1 a2 a3 a4 f0 f1 f2 f3 f4
    obtain ⟨W5, hW5⟩ : ∃ W, W = (((((w4.setCell ⟨(w.heap.size + 1), 0, none⟩ (.string km)).setCell ⟨(w.heap.size + 1), 1, none⟩ (.int .i64 kz)).setCell ⟨(w.heap.size + 1), 2, none⟩ (.int .i64 kx)).setCell ⟨(w.heap.size + 1), 3, none⟩ (.int .i64 ky)).setCell ⟨(w.heap.size + 1), 4, none⟩ (.slice pk kn ck)) := ⟨_, rfl⟩
    have hkr5 : Row5 (w.heap.size + 1) (.string km) (.int .i64 kz) (.int .i64 kx) (.int .i64 ky) (.slice pk kn ck) W5 := ⟨by rw [hW5]; exact set5_rowQ hkr4.row (.string km) (.int .i64 kz) (.int .i64 kx) (.int .i64 ky) (.slice pk kn ck)⟩
    have hr5 : Row5 w.heap.size (.string nm) (.int .i64 z) (.int .i64 x) (.int .i64 y) (.slice p n c) W5 := ⟨by rw [hW5]; exact ((but_set5Q (w := w4) (g := (w.heap.size + 1)) (.string km) (.int .i64 kz) (.int .i64 kx) (.int .i64 ky) (.slice pk kn ck)).block w.heap.size (Array.getElem?_eq_some_iff.1 hr4.row).1 (by omega)).trans hr4.row⟩
    have h05 : Kept w W5 := by rw [hW5]; exact below_set5Q h04 h04.size (Nat.le_succ _) (.string km) (.int .i64 kz) (.int .i64 kx) (.int .i64 ky) (.slice pk kn ck)
    have HKR4 := Lib.hid hkr4
    have HR5 := Lib.hid hr5
    have HKR5 := Lib.hid hkr5
    have H05 := Lib.hid h05
    have HW5 := Lib.hid hW5
    have a0 := HKR4.out.c0
    have a1 := HKR4.out.c1
    have a2 := HKR4.out.c2
    have a3 := HKR4.out.c3
    have a4 := HKR4.out.c4
    have f0 := HKR4.out.fz 0
    have f1 := HKR4.out.fz 1
    have f2 := HKR4.out.fz 2
    have f3 := HKR4.out.fz 3
    have f4 := HKR4.out.fz 4
    clear hr4 hkr4 h04 hr5 hkr5 h05 hW5 hu hk4 HR3 HKR3 H03
    go_wp2_with (with_reducible refine wpList_halt (d := 14) rfl ?_)
    unfold Halted
    rw [← HW5.out]
    clear a0 a1 a2 a3 a4 f0 f1 f2 f3 f4 HKR4 HW5
    have a0 := HR5.out.c0
    have a1 := HR5.out.c1
    have a2 := HR5.out.c2
    have a3 := HR5.out.c3
    have a4 := HR5.out.c4
    have CP := HCP.out R _ W5 (HU.out _ H05.out) HRL.out (HT.out.later H05.out)
    rw [HPV.out.1, HPV.out.2] at CP
    go_wp2_with fail
    refine CP.mono ?_
    rintro e w6 ⟨rfl, hk6⟩
    have H06 := Lib.hid (H05.out.then hk6)
    have HR6 := Lib.hid (HR5.out.later hk6)
    have HK6r := Lib.hid (HKR5.out.later hk6)
    clear hk6 CP a0 a1 a2 a3 a4 HR5 HKR5 H05
    have CC := fun W (h : Kept w6 W) => Calls.kept_of' h (HCC.out R _ W (HU.out _ (H06.out.then h)) HRL.out)
    have CS1 := fun W (h : Kept w6 W) => Calls.kept_of' h (HCS.out R K _ _ W (HU.out _ (H06.out.then h)) (HUK.out _ (H06.out.then h)) HRL.out HKL.out)
    have CS2 := fun W (h : Kept w6 W) => Calls.kept_of' h (rsame16_any R K _ _ W (HU.out _ (H06.out.then h)) (HUK.out _ (H06.out.then h)) HRL2.out HKL2.out)
    have CS3 := fun W (h : Kept w6 W) => Calls.kept_of' h (HCS.out R R _ _ W (HU.out _ (H06.out.then h)) (HU.out _ (H06.out.then h)) HRL.out HRL.out)
    have CAW := fun W (h : Kept w6 W) => Calls.kept_of' h (HAW.out W (HT.out.later (H06.out.then h)))
    rw [HPV.out.2] at CC
    rw [decide_eq_true (rfl : R = R)] at CS3
    obtain ⟨q, hq⟩ : ∃ q, q = decide (R = K) := ⟨_, rfl⟩
    rw [← hq] at CS1 CS2
    have qq : (q != q) = false := by simp
    clear hq
    go_wp2_with fail
    refine wp_region_kept (by kernel_rfl) (by kernel_rfl) ?_
    refine wpQuiet_load_row (by kernel_rfl) _ _ rfl w.heap.size rfl 24 _ (0, 0) _ (fun _ h => h.row HR6.out.row) Tryd.underlying24 rfl infoRp (fun K hK => ?_)
    go_simp
    refine hK _ ?_; clear hK K
    refine wpQuiet_call (by kernel_rfl) _ _ _ (fun W => by go_simp) (fun W h => CC W h) (fun K hK => ?_)
    go_simp
    refine hK _ ?_; clear hK K
    refine wpQuiet_pure (v := ?_) (by kernel_rfl) ?_ (fun K hK => ?_)
    case refine_2 => intro W _; go_simp; try with_reducible rfl
    go_simp
    refine hK _ ?_; clear hK K
    refine wpQuiet_pure (by kernel_rfl) (.bool false) (fun W _ => by go_simp) (fun K hK => ?_)
    go_simp
    refine hK _ ?_; clear hK K
    refine wpQuiet_pure (v := ?_) (by kernel_rfl) ?_ (fun K hK => ?_)
    case refine_2 => intro W _; go_simp; try with_reducible rfl
    go_simp
    refine hK _ ?_; clear hK K
    refine wpQuiet_load_row (by kernel_rfl) _ _ rfl w.heap.size rfl 24 _ (0, 0) _ (fun _ h => h.row HR6.out.row) Tryd.underlying24 rfl infoRp (fun K hK => ?_)
    go_simp
    refine hK _ ?_; clear hK K
    refine wpQuiet_load_row (by kernel_rfl) _ _ rfl (w.heap.size + 1) rfl 24 _ (0, 0) _ (fun _ h => h.row HK6r.out.row) Tryd.underlying24 rfl infoRp (fun K hK => ?_)
    go_simp
    refine hK _ ?_; clear hK K
    refine wpQuiet_call (by kernel_rfl) _ _ _ (fun W => by go_simp) (fun W h => CS1 W h) (fun K hK => ?_)
    go_simp
    refine hK _ ?_; clear hK K
    refine wpQuiet_load_row (by kernel_rfl) _ _ rfl w.heap.size rfl 24 _ (0, 0) _ (fun _ h => h.row HR6.out.row) Tryd.underlying24 rfl infoRp (fun K hK => ?_)
    go_simp
    refine hK _ ?_; clear hK K
    refine wpQuiet_load_row (by kernel_rfl) _ _ rfl (w.heap.size + 1) rfl 24 _ (0, 0) _ (fun _ h => h.row HK6r.out.row) Tryd.underlying24 rfl infoRp (fun K hK => ?_)
    go_simp
    refine hK _ ?_; clear hK K
    refine wpQuiet_call (by kernel_rfl) _ _ _ (fun W => by go_simp) (fun W h => CS2 W h) (fun K hK => ?_)
    go_simp
    refine hK _ ?_; clear hK K
    refine wpQuiet_pure (by kernel_rfl) (.bool false) (fun W _ => by go_simp) (fun K hK => ?_)
    go_simp
    refine hK _ ?_; clear hK K
    refine wpQuiet_pure (v := ?_) (by kernel_rfl) ?_ (fun K hK => ?_)
    case refine_2 => intro W _; go_simp; try with_reducible rfl
    go_simp
    refine hK _ ?_; clear hK K
    refine wpQuiet_pure (v := ?_) (by kernel_rfl) ?_ (fun K hK => ?_)
    case refine_2 => intro W _; go_simp; try with_reducible rfl
    go_simp
    refine hK _ ?_; clear hK K
    refine wpQuiet_load_row (by kernel_rfl) _ _ rfl w.heap.size rfl 24 _ (0, 0) _ (fun _ h => h.row HR6.out.row) Tryd.underlying24 rfl infoRp (fun K hK => ?_)
    go_simp
    refine hK _ ?_; clear hK K
    refine wpQuiet_load_row (by kernel_rfl) _ _ rfl w.heap.size rfl 24 _ (0, 0) _ (fun _ h => h.row HR6.out.row) Tryd.underlying24 rfl infoRp (fun K hK => ?_)
    go_simp
    refine hK _ ?_; clear hK K
    refine wpQuiet_call (by kernel_rfl) _ _ _ (fun W => by go_simp) (fun W h => CS3 W h) (fun K hK => ?_)
    go_simp
    refine hK _ ?_; clear hK K
    refine wpQuiet_pure (v := ?_) (by kernel_rfl) ?_ (fun K hK => ?_)
    case refine_2 => intro W _; go_simp; try with_reducible rfl
    go_simp
    refine hK _ ?_; clear hK K
    refine wpQuiet_pure (v := ?_) (by kernel_rfl) ?_ (fun K hK => ?_)
    case refine_2 => intro W _; go_simp; try with_reducible rfl
    go_simp
    refine hK _ ?_; clear hK K
    refine wpQuiet_pure (v := ?_) (by kernel_rfl) ?_ (fun K hK => ?_)
    case refine_2 => intro W _; go_simp; try with_reducible rfl
    go_simp
    refine hK _ ?_; clear hK K
    refine wpQuiet_call (by kernel_rfl) _ _ _ (fun W => by go_simp) (fun W h => CAW W h) (fun K hK => ?_)
    go_simp
    refine hK _ ?_; clear hK K
    refine wpQuiet_pure (v := ?_) (by kernel_rfl) ?_ (fun K hK => ?_)
    case refine_2 => intro W _; go_simp; try with_reducible rfl
    go_simp
    refine hK _ ?_; clear hK K
    refine wpQuiet_pure (v := ?_) (by kernel_rfl) ?_ (fun K hK => ?_)
    case refine_2 => intro W _; go_simp; try with_reducible rfl
    go_simp
    refine hK _ ?_; clear hK K
    refine wpQuiet_nil ?_
    intro w7 hk7
    have H07 := Lib.hid (H06.out.then hk7)
    have HR7 := Lib.hid (HR6.out.later hk7)
    clear hk7 CC CS1 CS2 CS3 CAW HR6 HK6r H06 qq
    have a0 := HR7.out.c0
    have a1 := HR7.out.c1
    have a2 := HR7.out.c2
    have a3 := HR7.out.c3
    have a4 := HR7.out.c4
    have CMY := rmay16_any R _ w7 (HU.out _ H07.out) HRL2.out
    rw [decide_eq_true hm] at CMY
    go_wp2_with fail
    refine CMY.mono ?_
    rintro e w8 ⟨rfl, hk8⟩
    have H08 := Lib.hid (H07.out.then hk8)
    have HR8 := Lib.hid (HR7.out.later hk8)
    clear hk8 CMY a0 a1 a2 a3 a4 HR7 H07
    have CG := HCG.out P w8 HPS.out.1 (HT.out.later H08.out)
    rw [HPG.out.1, HPG.out.2] at CG
    go_wp2_with fail
    refine CG.mono ?_
    rintro e w9 ⟨⟨u, rfl, hu⟩, hk9⟩
    obtain ⟨px, cx, rfl⟩ := HCR.out _ _ hu
    obtain ⟨WA, hWA⟩ : ∃ W, W = w9.alloc (.cells #[.string nm, .int .i64 z, .int .i64 x, .int .i64 y, .slice px n cx] 24) := ⟨_, rfl⟩
    have hka : Kept w9 WA := by rw [hWA]; exact box_below _ _
    have H0A := Lib.hid ((H08.out.then hk9).then hka)
    have HRA := Lib.hid ((HR8.out.later hk9).later hka)
    have HXA : Hid (Row5 w9.heap.size (.string nm) (.int .i64 z) (.int .i64 x) (.int .i64 y) (.slice px n cx) WA) := Lib.hid ⟨by rw [hWA]; exact heap_alloc_last w9 _⟩
    have HUX := Lib.hid (hu.later hka)
    have HWA := Lib.hid hWA
    clear hk9 hka hu hWA CG HR8 H08
    have a0 := HRA.out.c0
    have a1 := HRA.out.c1
    have a2 := HRA.out.c2
    have a3 := HRA.out.c3
    have a4 := HRA.out.c4
    have CPR := rput16_any R hm _ WA (HU.out _ H0A.out)
    rw [← HPS.out.2] at CPR
    go_wp2_with (with_reducible refine wpList_halt (d := 61) rfl ?_)
    unfold Halted
    rw [← HWA.out]
    go_wp2_with fail
    refine CPR.mono ?_
    rintro e wb ⟨rfl, hkb⟩
    have H0B := Lib.hid (H0A.out.then hkb)
    have HRB := Lib.hid (HRA.out.later hkb)
    have HXB := Lib.hid (HXA.out.later hkb)
    have HUB := Lib.hid (HUX.out.later hkb)
    clear hkb CPR HRA HXA HUX HWA H0A a0 a1 a2 a3 a4
    have a0 := HRB.out.c0
    have a1 := HRB.out.c1
    have a2 := HRB.out.c2
    have a3 := HRB.out.c3
    have a4 := HRB.out.c4
    have d0 := HXB.out.c0
    have d1 := HXB.out.c1
    have d2 := HXB.out.c2
    have d3 := HXB.out.c3
    have d4 := HXB.out.c4
    have CSX := rsame16_any R R _ _ wb HUB.out (HU.out _ H0B.out) HRL2.out HRL2.out
    rw [decide_eq_true (rfl : R = R)] at CSX
    have pp : (P.toList != P.toList) = false := eq_txt P
    go_wp2_with fail
    refine CSX.mono ?_
    rintro e wc ⟨rfl, hkc⟩
    have H0C := Lib.hid (H0B.out.then hkc)
    have HRC := Lib.hid (HRB.out.later hkc)
    clear hkc CSX HRB HXB HUB H0B a0 a1 a2 a3 a4 d0 d1 d2 d3 d4
    have a0 := HRC.out.c0
    have a1 := HRC.out.c1
    have a2 := HRC.out.c2
    have a3 := HRC.out.c3
    have a4 := HRC.out.c4
    have CZ := HCZ.out nm (n : Int) wc HNM.out.1 HNM.out.2.1
    rw [HNM.out.2.2] at CZ
    go_wp2_with fail
    refine CZ.mono ?_
    rintro e wd ⟨rfl, hkd⟩
    have H0D := Lib.hid (H0C.out.then hkd)
    have HRA := Lib.hid (HRC.out.later hkd)
    clear hkd CZ HRC H0C a0 a1 a2 a3 a4 pp
    have CW := fun W (h : Kept wd W) => Calls.kept_of' h (HCW.out R _ W (HU.out _ (H0D.out.then h)) HRL.out)
    rw [HWV.out] at CW
    have o1 := HO1.out
    have o2 := HO2.out
    have v1 : floatOfInt .f64 x = fx := HFX.out.1
    have v2 : floatOfInt .f64 y = fy := HFX.out.2
    clear hm
    go_wp2_with fail
    refine wp_region_kept (by kernel_rfl) (by kernel_rfl) ?_
    refine wpQuiet_load_row (by kernel_rfl) _ _ rfl w.heap.size rfl 24 _ (0, 0) _ (fun _ h => h.row HRA.out.row) Tryd.underlying24 rfl infoRp (fun K hK => ?_)
    go_simp
    refine hK _ ?_; clear hK K
    refine wpQuiet_call (by kernel_rfl) _ _ _ (fun W => by go_simp) (fun W h => CW W h) (fun K hK => ?_)
    go_simp
    refine hK _ ?_; clear hK K
    refine wpQuiet_pure (v := ?_) (by kernel_rfl) ?_ (fun K hK => ?_)
    case refine_2 => intro W _; go_simp; try with_reducible rfl
    go_simp
    refine hK _ ?_; clear hK K
    refine wpQuiet_load_int (by kernel_rfl) _ _ rfl ⟨w.heap.size, 2, none⟩ rfl _ Tryd.underlying3 _ (fun _ h => h.cell HRA.out.c2) (fun K hK => ?_)
    go_simp
    refine hK _ ?_; clear hK K
    refine wpQuiet_pure (v := ?_) (by kernel_rfl) ?_ (fun K hK => ?_)
    case refine_2 => intro W _; go_simp; try with_reducible rfl
    go_simp
    refine hK _ ?_; clear hK K
    refine wpQuiet_pure (v := ?_) (by kernel_rfl) ?_ (fun K hK => ?_)
    case refine_2 => intro W _; go_simp; try with_reducible rfl
    go_simp
    refine hK _ ?_; clear hK K
    refine wpQuiet_load_int (by kernel_rfl) _ _ rfl ⟨w.heap.size, 3, none⟩ rfl _ Tryd.underlying3 _ (fun _ h => h.cell HRA.out.c3) (fun K hK => ?_)
    go_simp
    refine hK _ ?_; clear hK K
    refine wpQuiet_pure (v := ?_) (by kernel_rfl) ?_ (fun K hK => ?_)
    case refine_2 => intro W _; go_simp; try with_reducible rfl
    go_simp
    refine hK _ ?_; clear hK K
    refine wpQuiet_pure (v := ?_) (by kernel_rfl) ?_ (fun K hK => ?_)
    case refine_2 => intro W _; go_simp; try with_reducible rfl
    go_simp
    refine hK _ ?_; clear hK K
    refine wpQuiet_pure (by kernel_rfl) (.bool true) (fun W _ => by go_simp) (fun K hK => ?_)
    go_simp
    refine hK _ ?_; clear hK K
    refine wpQuiet_pure (v := ?_) (by kernel_rfl) ?_ (fun K hK => ?_)
    case refine_2 => intro W _; go_simp; try with_reducible rfl
    go_simp
    refine hK _ ?_; clear hK K
    refine wpQuiet_nil ?_
    intro w9 hk9
    go_wp2
    go_ret
    exact ⟨by first | rfl | simp, H0D.out.then hk9⟩
  · have HPV : Hid (putVQ R = ⟨#[]⟩ ∧ (if mayQ R then (0 : Int) else 1) = 1) := Lib.hid ⟨if_neg hm, if_neg hm⟩
    clear HNL HXY
    go_enter Tryd.func3, Tryd.ntmps3
    go_wp2_with (with_reducible refine wpList_halt (d := 9) rfl ?_)
    unfold Halted
    rw [← HW1.out]
    have a0 := HR1.out.c0
    have a1 := HR1.out.c1
    have a2 := HR1.out.c2
    have a3 := HR1.out.c3
    have a4 := HR1.out.c4
    have f0 := HR1.out.fz 0
    have f1 := HR1.out.fz 1
    have f2 := HR1.out.fz 2
    have f3 := HR1.out.fz 3
    have f4 := HR1.out.fz 4
    go_wp2_with fail
    refine (few16_any r _ w W1 HRI.out).mono ?_
    rintro e w2 ⟨u, rfl, hu, hk2⟩
    rw [HFW.out.1] at hu
    obtain ⟨p, c, rfl⟩ := HCR.out _ _ (hu w (Below.refl _ w))
    have HU := Lib.hid hu
    have hr2 := HR1.out.later hk2
    have hkr2 := HKR1.out.later hk2
    have h02 : Kept w w2 := HK1.out.then hk2
    clear a0 a1 a2 a3 a4 f0 f1 f2 f3 f4
    obtain ⟨W3, hW3⟩ : ∃ W, W = (((((w2.setCell ⟨w.heap.size, 0, none⟩ (.string nm)).setCell ⟨w.heap.size, 1, none⟩ (.int .i64 z)).setCell ⟨w.heap.size, 2, none⟩ (.int .i64 x)).setCell ⟨w.heap.size, 3, none⟩ (.int .i64 y)).setCell ⟨w.heap.size, 4, none⟩ (.slice p n c)) := ⟨_, rfl⟩
    have hr3 : Row5 w.heap.size (.string nm) (.int .i64 z) (.int .i64 x) (.int .i64 y) (.slice p n c) W3 := ⟨by rw [hW3]; exact set5_rowQ hr2.row (.string nm) (.int .i64 z) (.int .i64 x) (.int .i64 y) (.slice p n c)⟩
    have hkr3 : Row5 (w.heap.size + 1) (.string km0) (.int .i64 kz0) (.int .i64 kx0) (.int .i64 ky0) (.slice pk0 kn0 ck0) W3 := ⟨by rw [hW3]; exact ((but_set5Q (w := w2) (g := w.heap.size) (.string nm) (.int .i64 z) (.int .i64 x) (.int .i64 y) (.slice p n c)).block (w.heap.size + 1) (Array.getElem?_eq_some_iff.1 hkr2.row).1 (by omega)).trans hkr2.row⟩
    have h03 : Kept w W3 := by rw [hW3]; exact below_set5Q h02 h02.size (Nat.le_refl _) (.string nm) (.int .i64 z) (.int .i64 x) (.int .i64 y) (.slice p n c)
    have HR2 := Lib.hid hr2
    have HR3 := Lib.hid hr3
    have HKR3 := Lib.hid hkr3
    have H03 := Lib.hid h03
    have HW3 := Lib.hid hW3
    have a0 := HR2.out.c0
    have a1 := HR2.out.c1
    have a2 := HR2.out.c2
    have a3 := HR2.out.c3
    have a4 := HR2.out.c4
    have f0 := HR2.out.fz 0
    have f1 := HR2.out.fz 1
    have f2 := HR2.out.fz 2
    have f3 := HR2.out.fz 3
    have f4 := HR2.out.fz 4
    clear hr2 hkr2 h02 hr3 hkr3 h03 hW3 hu hk2 HR1 HKR1 HW1 HK1
    go_wp2_with (with_reducible refine wpList_halt (d := 11) rfl ?_)
    unfold Halted
    rw [← HW3.out]
    clear a0 a1 a2 a3 a4 f0 f1 f2 f3 f4 HR2 HW3
    have a0 := HKR3.out.c0
    have a1 := HKR3.out.c1
    have a2 := HKR3.out.c2
    have a3 := HKR3.out.c3
    have a4 := HKR3.out.c4
    have f0 := HKR3.out.fz 0
    have f1 := HKR3.out.fz 1
    have f2 := HKR3.out.fz 2
    have f3 := HKR3.out.fz 3
    have f4 := HKR3.out.fz 4
    go_wp2_with fail
    refine (few16_any o _ w W3 HKI.out).mono ?_
    rintro e w4 ⟨u, rfl, hu, hk4⟩
    rw [HFW.out.2] at hu
    obtain ⟨pk, ck, rfl⟩ := HCK.out _ _ (hu w (Below.refl _ w))
    have HUK := Lib.hid hu
    have hr4 := HR3.out.later hk4
    have hkr4 := HKR3.out.later hk4
    have h04 : Kept w w4 := H03.out.then hk4
    clear a0 a1 a2 a3 a4 f0 f1 f2 f3 f4
    obtain ⟨W5, hW5⟩ : ∃ W, W = (((((w4.setCell ⟨(w.heap.size + 1), 0, none⟩ (.string km)).setCell ⟨(w.heap.size + 1), 1, none⟩ (.int .i64 kz)).setCell ⟨(w.heap.size + 1), 2, none⟩ (.int .i64 kx)).setCell ⟨(w.heap.size + 1), 3, none⟩ (.int .i64 ky)).setCell ⟨(w.heap.size + 1), 4, none⟩ (.slice pk kn ck)) := ⟨_, rfl⟩
    have hkr5 : Row5 (w.heap.size + 1) (.string km) (.int .i64 kz) (.int .i64 kx) (.int .i64 ky) (.slice pk kn ck) W5 := ⟨by rw [hW5]; exact set5_rowQ hkr4.row (.string km) (.int .i64 kz) (.int .i64 kx) (.int .i64 ky) (.slice pk kn ck)⟩
    have hr5 : Row5 w.heap.size (.string nm) (.int .i64 z) (.int .i64 x) (.int .i64 y) (.slice p n c) W5 := ⟨by rw [hW5]; exact ((but_set5Q (w := w4) (g := (w.heap.size + 1)) (.string km) (.int .i64 kz) (.int .i64 kx) (.int .i64 ky) (.slice pk kn ck)).block w.heap.size (Array.getElem?_eq_some_iff.1 hr4.row).1 (by omega)).trans hr4.row⟩
    have h05 : Kept w W5 := by rw [hW5]; exact below_set5Q h04 h04.size (Nat.le_succ _) (.string km) (.int .i64 kz) (.int .i64 kx) (.int .i64 ky) (.slice pk kn ck)
    have HKR4 := Lib.hid hkr4
    have HR5 := Lib.hid hr5
    have HKR5 := Lib.hid hkr5
    have H05 := Lib.hid h05
    have HW5 := Lib.hid hW5
    have a0 := HKR4.out.c0
    have a1 := HKR4.out.c1
    have a2 := HKR4.out.c2
    have a3 := HKR4.out.c3
    have a4 := HKR4.out.c4
    have f0 := HKR4.out.fz 0
    have f1 := HKR4.out.fz 1
    have f2 := HKR4.out.fz 2
    have f3 := HKR4.out.fz 3
    have f4 := HKR4.out.fz 4
    clear hr4 hkr4 h04 hr5 hkr5 h05 hW5 hu hk4 HR3 HKR3 H03
    go_wp2_with (with_reducible refine wpList_halt (d := 14) rfl ?_)
    unfold Halted
    rw [← HW5.out]
    clear a0 a1 a2 a3 a4 f0 f1 f2 f3 f4 HKR4 HW5
    have a0 := HR5.out.c0
    have a1 := HR5.out.c1
    have a2 := HR5.out.c2
    have a3 := HR5.out.c3
    have a4 := HR5.out.c4
    have CP := HCP.out R _ W5 (HU.out _ H05.out) HRL.out (HT.out.later H05.out)
    rw [HPV.out.1, HPV.out.2] at CP
    go_wp2_with fail
    refine CP.mono ?_
    rintro e w6 ⟨rfl, hk6⟩
    have H06 := Lib.hid (H05.out.then hk6)
    have HR6 := Lib.hid (HR5.out.later hk6)
    have HK6r := Lib.hid (HKR5.out.later hk6)
    clear hk6 CP a0 a1 a2 a3 a4 HR5 HKR5 H05
    have CC := fun W (h : Kept w6 W) => Calls.kept_of' h (HCC.out R _ W (HU.out _ (H06.out.then h)) HRL.out)
    have CS1 := fun W (h : Kept w6 W) => Calls.kept_of' h (HCS.out R K _ _ W (HU.out _ (H06.out.then h)) (HUK.out _ (H06.out.then h)) HRL.out HKL.out)
    have CS2 := fun W (h : Kept w6 W) => Calls.kept_of' h (rsame16_any R K _ _ W (HU.out _ (H06.out.then h)) (HUK.out _ (H06.out.then h)) HRL2.out HKL2.out)
    have CS3 := fun W (h : Kept w6 W) => Calls.kept_of' h (HCS.out R R _ _ W (HU.out _ (H06.out.then h)) (HU.out _ (H06.out.then h)) HRL.out HRL.out)
    have CAW := fun W (h : Kept w6 W) => Calls.kept_of' h (HAW.out W (HT.out.later (H06.out.then h)))
    rw [HPV.out.2] at CC
    rw [decide_eq_true (rfl : R = R)] at CS3
    obtain ⟨q, hq⟩ : ∃ q, q = decide (R = K) := ⟨_, rfl⟩
    rw [← hq] at CS1 CS2
    have qq : (q != q) = false := by simp
    clear hq
    go_wp2_with fail
    refine wp_region_kept (by kernel_rfl) (by kernel_rfl) ?_
    refine wpQuiet_load_row (by kernel_rfl) _ _ rfl w.heap.size rfl 24 _ (0, 0) _ (fun _ h => h.row HR6.out.row) Tryd.underlying24 rfl infoRp (fun K hK => ?_)
    go_simp
    refine hK _ ?_; clear hK K
    refine wpQuiet_call (by kernel_rfl) _ _ _ (fun W => by go_simp) (fun W h => CC W h) (fun K hK => ?_)
    go_simp
    refine hK _ ?_; clear hK K
    refine wpQuiet_pure (v := ?_) (by kernel_rfl) ?_ (fun K hK => ?_)
    case refine_2 => intro W _; go_simp; try with_reducible rfl
    go_simp
    refine hK _ ?_; clear hK K
    refine wpQuiet_pure (by kernel_rfl) (.bool false) (fun W _ => by go_simp) (fun K hK => ?_)
    go_simp
    refine hK _ ?_; clear hK K
    refine wpQuiet_pure (v := ?_) (by kernel_rfl) ?_ (fun K hK => ?_)
    case refine_2 => intro W _; go_simp; try with_reducible rfl
    go_simp
    refine hK _ ?_; clear hK K
    refine wpQuiet_load_row (by kernel_rfl) _ _ rfl w.heap.size rfl 24 _ (0, 0) _ (fun _ h => h.row HR6.out.row) Tryd.underlying24 rfl infoRp (fun K hK => ?_)
    go_simp
    refine hK _ ?_; clear hK K
    refine wpQuiet_load_row (by kernel_rfl) _ _ rfl (w.heap.size + 1) rfl 24 _ (0, 0) _ (fun _ h => h.row HK6r.out.row) Tryd.underlying24 rfl infoRp (fun K hK => ?_)
    go_simp
    refine hK _ ?_; clear hK K
    refine wpQuiet_call (by kernel_rfl) _ _ _ (fun W => by go_simp) (fun W h => CS1 W h) (fun K hK => ?_)
    go_simp
    refine hK _ ?_; clear hK K
    refine wpQuiet_load_row (by kernel_rfl) _ _ rfl w.heap.size rfl 24 _ (0, 0) _ (fun _ h => h.row HR6.out.row) Tryd.underlying24 rfl infoRp (fun K hK => ?_)
    go_simp
    refine hK _ ?_; clear hK K
    refine wpQuiet_load_row (by kernel_rfl) _ _ rfl (w.heap.size + 1) rfl 24 _ (0, 0) _ (fun _ h => h.row HK6r.out.row) Tryd.underlying24 rfl infoRp (fun K hK => ?_)
    go_simp
    refine hK _ ?_; clear hK K
    refine wpQuiet_call (by kernel_rfl) _ _ _ (fun W => by go_simp) (fun W h => CS2 W h) (fun K hK => ?_)
    go_simp
    refine hK _ ?_; clear hK K
    refine wpQuiet_pure (by kernel_rfl) (.bool false) (fun W _ => by go_simp) (fun K hK => ?_)
    go_simp
    refine hK _ ?_; clear hK K
    refine wpQuiet_pure (v := ?_) (by kernel_rfl) ?_ (fun K hK => ?_)
    case refine_2 => intro W _; go_simp; try with_reducible rfl
    go_simp
    refine hK _ ?_; clear hK K
    refine wpQuiet_pure (v := ?_) (by kernel_rfl) ?_ (fun K hK => ?_)
    case refine_2 => intro W _; go_simp; try with_reducible rfl
    go_simp
    refine hK _ ?_; clear hK K
    refine wpQuiet_load_row (by kernel_rfl) _ _ rfl w.heap.size rfl 24 _ (0, 0) _ (fun _ h => h.row HR6.out.row) Tryd.underlying24 rfl infoRp (fun K hK => ?_)
    go_simp
    refine hK _ ?_; clear hK K
    refine wpQuiet_load_row (by kernel_rfl) _ _ rfl w.heap.size rfl 24 _ (0, 0) _ (fun _ h => h.row HR6.out.row) Tryd.underlying24 rfl infoRp (fun K hK => ?_)
    go_simp
    refine hK _ ?_; clear hK K
    refine wpQuiet_call (by kernel_rfl) _ _ _ (fun W => by go_simp) (fun W h => CS3 W h) (fun K hK => ?_)
    go_simp
    refine hK _ ?_; clear hK K
    refine wpQuiet_pure (v := ?_) (by kernel_rfl) ?_ (fun K hK => ?_)
    case refine_2 => intro W _; go_simp; try with_reducible rfl
    go_simp
    refine hK _ ?_; clear hK K
    refine wpQuiet_pure (v := ?_) (by kernel_rfl) ?_ (fun K hK => ?_)
    case refine_2 => intro W _; go_simp; try with_reducible rfl
    go_simp
    refine hK _ ?_; clear hK K
    refine wpQuiet_pure (v := ?_) (by kernel_rfl) ?_ (fun K hK => ?_)
    case refine_2 => intro W _; go_simp; try with_reducible rfl
    go_simp
    refine hK _ ?_; clear hK K
    refine wpQuiet_call (by kernel_rfl) _ _ _ (fun W => by go_simp) (fun W h => CAW W h) (fun K hK => ?_)
    go_simp
    refine hK _ ?_; clear hK K
    refine wpQuiet_pure (v := ?_) (by kernel_rfl) ?_ (fun K hK => ?_)
    case refine_2 => intro W _; go_simp; try with_reducible rfl
    go_simp
    refine hK _ ?_; clear hK K
    refine wpQuiet_pure (v := ?_) (by kernel_rfl) ?_ (fun K hK => ?_)
    case refine_2 => intro W _; go_simp; try with_reducible rfl
    go_simp
    refine hK _ ?_; clear hK K
    refine wpQuiet_nil ?_
    intro w7 hk7
    have H07 := Lib.hid (H06.out.then hk7)
    have HR7 := Lib.hid (HR6.out.later hk7)
    clear hk7 CC CS1 CS2 CS3 CAW HR6 HK6r H06 qq
    have a0 := HR7.out.c0
    have a1 := HR7.out.c1
    have a2 := HR7.out.c2
    have a3 := HR7.out.c3
    have a4 := HR7.out.c4
    have CMY := rmay16_any R _ w7 (HU.out _ H07.out) HRL2.out
    rw [decide_eq_false hm] at CMY
    go_wp2_with fail
    refine CMY.mono ?_
    rintro e w8 ⟨rfl, hk8⟩
    have H08 := Lib.hid (H07.out.then hk8)
    have HR8 := Lib.hid (HR7.out.later hk8)
    clear hk8 CMY a0 a1 a2 a3 a4 HR7 H07
    have a0 := HR8.out.c0
    have a1 := HR8.out.c1
    have a2 := HR8.out.c2
    have a3 := HR8.out.c3
    have a4 := HR8.out.c4
    have CW := HCW.out R _ w8 (HU.out _ H08.out) HRL.out
    rw [show wzV R = .complex .f64 0 0 from if_neg hm] at CW
    have o0 : FloatKind.f64.format.order 0 0 = some .eq := by decide +kernel
    clear hm
    go_wp2_with fail
    refine CW.mono ?_
    rintro e w9 ⟨rfl, hk9⟩
    have H09 := Lib.hid (H08.out.then hk9)
    clear hk9 CW a0 a1 a2 a3 a4
    go_wp2
    go_ret
    exact ⟨by first | rfl | simp [o0], H09.out⟩

end Go.Proofs.YtijdbmapdmhknaaDoor
