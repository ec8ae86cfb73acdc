/- The landed recipes' Get. -/
import Derived.Test.YtijdbmapdmhknaaDoorRyG
namespace Go.Proofs.YtijdbmapdmhknaaDoor
open Go.RowKit

set_option maxRecDepth 100000 in
set_option maxHeartbeats 32000000 in
theorem rgetOk : RGetOk := by
  intro t w ht hT
  obtain ⟨S, hS⟩ : ∃ S, S = t.data.toList := ⟨_, rfl⟩
  have hSl : S.length ≤ 1000000 := by rw [hS, data_len]; omega
  have hts : t = str S := by rw [hS, str_data]
  rw [← hS]
  have HT := Lib.hid hT
  obtain ⟨G, hG⟩ : ∃ G, G = getQ S := ⟨_, rfl⟩
  obtain ⟨R, hR⟩ : ∃ R, R = recL S := ⟨_, rfl⟩
  have HG : Hid (G = if mayQ R ∧ recpB R = S then some R else none) := Lib.hid (by rw [hG, hR]; exact getQ_land S)
  obtain ⟨gv, hgv⟩ : ∃ x, x = getVQ S := ⟨_, rfl⟩
  have HGV : Hid (gv = if G.isSome then 0 else 110) := Lib.hid (by rw [hgv, hG]; rfl)
  rw [← hgv, ← hG]
  have HML : Hid (R.mans.length ≤ 1024) := Lib.hid (by rw [hR]; exact recL_len S)
  have HTS := Lib.hid hts
  obtain ⟨W1, hW1⟩ : ∃ W1, W1 = w.alloc (.cells #[.string ⟨#[]⟩, .int .i64 0, .int .i64 0, .int .i64 0, .slice none 0 0] 24) := ⟨_, rfl⟩
  have HW1 := Lib.hid hW1
  have HROW : Hid (Row5 w.heap.size (.string ⟨#[]⟩) (.int .i64 0) (.int .i64 0) (.int .i64 0) (.slice none 0 0) W1) := Lib.hid ⟨by rw [hW1]; exact heap_alloc_last w _⟩
  have HK1 : Hid (Kept w W1) := Lib.hid (by rw [hW1]; exact box_below _ _)
  have HZ1 : Hid (W1.heap.size = w.heap.size + 1) := Lib.hid (by rw [hW1]; simp)
  have CR := read_any t W1
  rw [← hS] at CR
  have CM := Lib.hid (fun br W (k : Kept W1 W) (h1 : W1.heap.size ≤ br) (h : RdAt br (S, 0) W) => lread_any W1 br S W k h1 h hSl)
  rw [← hR] at CM
  clear hS hSl hts hT hG hR hgv hW1 ht
  go_enter Tryd.func16, Tryd.ntmps16
  go_wp2_with fail
  rw [← HW1.out]
  refine CR.mono ?_
  rintro e w2 ⟨rfl, hr2, hb2⟩
  have C2 := CM.out _ w2 hb2 (Nat.le_refl _) hr2
  have HZ2 : Hid (W1.heap.size ≤ w2.heap.size) := Lib.hid hb2.size
  clear hb2 hr2 CR CM
  go_wp2_with fail
  refine C2.mono ?_
  rintro e w3 ⟨v, rfl, hrp, hk3⟩
  have HK3 := Lib.hid hk3
  obtain ⟨tv, hv, hm, -⟩ := hrp w3 (fun _ _ _ => rfl)
  obtain ⟨p, c, htv, -, -⟩ := hm.out encU
  unfold rpC at hv
  obtain ⟨n, hn⟩ : ∃ n, n = R.mans.length := ⟨_, rfl⟩
  obtain ⟨nm, hnm⟩ : ∃ n, n = str R.name := ⟨_, rfl⟩
  obtain ⟨z, hz⟩ : ∃ n, n = R.size := ⟨_, rfl⟩
  obtain ⟨x, hx⟩ : ∃ n, n = R.re := ⟨_, rfl⟩
  obtain ⟨y, hy⟩ : ∃ n, n = R.im := ⟨_, rfl⟩
  rw [← hn] at htv
  rw [← hnm, ← hz, ← hx, ← hy] at hv
  subst htv
  subst hv
  have HRP := Lib.hid hrp
  obtain ⟨W4, hW4⟩ : ∃ W, W = w3.alloc (.cells #[.string nm, .int .i64 z, .int .i64 x, .int .i64 y, .slice p n c] 24) := ⟨_, rfl⟩
  have HW4 := Lib.hid hW4
  have hk4 : Kept w3 W4 := by rw [hW4]; exact box_below _ _
  have HR4 : Hid (Row5 w3.heap.size (.string nm) (.int .i64 z) (.int .i64 x) (.int .i64 y) (.slice p n c) W4) := Lib.hid ⟨by rw [hW4]; exact heap_alloc_last w3 _⟩
  have e0 := HR4.out.c0
  have e1 := HR4.out.c1
  have e2 := HR4.out.c2
  have e3 := HR4.out.c3
  have e4 := HR4.out.c4
  rw [hW4] at e0 e1 e2 e3 e4
  have CP := rputOk R _ W4 (HRP.out W4 (fun k _ hk => hk4.block k hk)) (by have := HML.out; omega) (HT.out.later (((show Kept w W1 from HK1.out).then hk3).then hk4))
  have HFIN : Hid (∀ w5, Kept W4 w5 → ∀ y0 y1 y2 y3 y4, RpIs R (.agg #[.string nm, .int .i64 z, .int .i64 x, .int .i64 y, .slice p n c]) (((((w5.setCell ⟨w.heap.size, 0, none⟩ y0).setCell ⟨w.heap.size, 1, none⟩ y1).setCell ⟨w.heap.size, 2, none⟩ y2).setCell ⟨w.heap.size, 3, none⟩ y3).setCell ⟨w.heap.size, 4, none⟩ y4)) := Lib.hid (fun w5 hk5 y0 y1 y2 y3 y4 => HRP.out _ (fun k h1 h2 => by
    have hne : k ≠ w.heap.size := by have := HZ1.out; have := HZ2.out; omega
    have hl := Nat.lt_of_lt_of_le h2 hk4.size
    rw [(but_set5Q y0 y1 y2 y3 y4).block k (Nat.lt_of_lt_of_le hl hk5.size) hne, hk5.block k hl, hk4.block k h2]))
  have HRW : Hid (∀ w5, Kept W4 w5 → Row5 w.heap.size (.string ⟨#[]⟩) (.int .i64 0) (.int .i64 0) (.int .i64 0) (.slice none 0 0) w5 ∧ Kept w w5) := Lib.hid (fun w5 hk5 => ⟨HROW.out.later (((show Kept W1 w3 from hk3).then hk4).then hk5), (((show Kept w W1 from HK1.out).then hk3).then hk4).then hk5⟩)
  clear hrp hk3 hm hn hnm hz hx hy hW4 hk4 C2 HRP
  by_cases hm : mayQ R
  · rw [if_pos hm] at CP
    unfold putVQ at CP
    rw [if_pos hm] at CP
    obtain ⟨RES, hRES⟩ : ∃ R', R' = str (recpB R) := ⟨_, rfl⟩
    rw [← hRES] at CP
    by_cases hb : recpB R = S
    · obtain rfl : RES = t := by rw [hRES, hb, HTS.out]
      have hg : G = some R := by rw [HG.out, if_pos ⟨hm, hb⟩]
      obtain rfl : gv = 0 := by rw [HGV.out, hg]; rfl
      subst hg
      have tn : (RES.toList != RES.toList) = false := eq_txt RES
      clear hRES hm hb HTS
      go_wp2_with fail
      rw [← HW4.out]
      refine CP.mono ?_
      rintro e w5 ⟨rfl, hb5⟩
      have HRR := Lib.hid (HRW.out w5 hb5).1
      have HKK := Lib.hid (HRW.out w5 hb5).2
      have HF := Lib.hid (HFIN.out w5 hb5)
      have r5 := HR4.out.later hb5
      have d0 := r5.c0
      have d1 := r5.c1
      have d2 := r5.c2
      have d3 := r5.c3
      have d4 := r5.c4
      clear r5
      have g0 := HRR.out.c0
      have f0 := HRR.out.fz 0
      have g1 := HRR.out.c1
      have f1 := HRR.out.fz 1
      have g2 := HRR.out.c2
      have f2 := HRR.out.fz 2
      have g3 := HRR.out.c3
      have f3 := HRR.out.fz 3
      have g4 := HRR.out.c4
      have f4 := HRR.out.fz 4
      clear hb5 CP e0 e1 e2 e3 e4
      go_wp2
      refine bodyPost_ret (results_cell_tmp_rowQ Tryd.results16 _ _ w.heap.size 24 #[.string nm, .int .i64 z, .int .i64 x, .int .i64 y, .slice p n c] (0, 0) _ rfl (set5_rowQ HRR.out.row _ _ _ _ _) Tryd.underlying24 rfl infoRp) rfl ⟨⟨_, rfl, HF.out _ _ _ _ _⟩, below_set5Q (show Below w.heap.size w w5 from HKK.out) HKK.out.size (Nat.le_refl _) _ _ _ _ _⟩
    · have hRt : RES ≠ t := fun e => hb (by
        have h := congrArg (fun b : ByteArray => b.data.toList) (show str (recpB R) = str S by rw [← hRES, e, HTS.out])
        simp only [str_list] at h
        exact h)
      have tn := text_neQ hRt
      have tn2 : (!(RES.toList == t.toList)) = true := by rw [tn]; rfl
      have tn3 : (RES.toList != t.toList) = true := tn2
      have hg : G = none := by rw [HG.out, if_neg (fun h => hb h.2)]
      obtain rfl : gv = 110 := by rw [HGV.out, hg]; rfl
      subst hg
      clear hRES hm hb HTS hRt
      go_wp2_with fail
      rw [← HW4.out]
      refine CP.mono ?_
      rintro e w5 ⟨rfl, hb5⟩
      have HRR := Lib.hid (HRW.out w5 hb5).1
      have HKK := Lib.hid (HRW.out w5 hb5).2
      have g0 := HRR.out.c0
      have f0 := HRR.out.fz 0
      have g1 := HRR.out.c1
      have f1 := HRR.out.fz 1
      have g2 := HRR.out.c2
      have f2 := HRR.out.fz 2
      have g3 := HRR.out.c3
      have f3 := HRR.out.fz 3
      have g4 := HRR.out.c4
      have f4 := HRR.out.fz 4
      clear hb5 CP e0 e1 e2 e3 e4
      go_wp2
      refine bodyPost_ret (results_cell_tmp_rowQ Tryd.results16 _ _ w.heap.size 24 #[.string ⟨#[]⟩, .int .i64 0, .int .i64 0, .int .i64 0, .slice none 0 0] (0, 0) _ rfl (set5_rowQ HRR.out.row _ _ _ _ _) Tryd.underlying24 rfl infoRp) rfl ⟨⟨_, rfl, RpIs.zero _⟩, below_set5Q (show Below w.heap.size w w5 from HKK.out) HKK.out.size (Nat.le_refl _) _ _ _ _ _⟩
  · rw [if_neg hm] at CP
    unfold putVQ at CP
    rw [if_neg hm] at CP
    have hg : G = none := by rw [HG.out, if_neg (fun h => hm h.1)]
    obtain rfl : gv = 110 := by rw [HGV.out, hg]; rfl
    subst hg
    clear hm HTS
    go_wp2_with fail
    rw [← HW4.out]
    refine CP.mono ?_
    rintro e w5 ⟨rfl, hb5⟩
    have HRR := Lib.hid (HRW.out w5 hb5).1
    have HKK := Lib.hid (HRW.out w5 hb5).2
    have g0 := HRR.out.c0
    have f0 := HRR.out.fz 0
    have g1 := HRR.out.c1
    have f1 := HRR.out.fz 1
    have g2 := HRR.out.c2
    have f2 := HRR.out.fz 2
    have g3 := HRR.out.c3
    have f3 := HRR.out.fz 3
    have g4 := HRR.out.c4
    have f4 := HRR.out.fz 4
    clear hb5 CP e0 e1 e2 e3 e4
    go_wp2
    refine bodyPost_ret (results_cell_tmp_rowQ Tryd.results16 _ _ w.heap.size 24 #[.string ⟨#[]⟩, .int .i64 0, .int .i64 0, .int .i64 0, .slice none 0 0] (0, 0) _ rfl (set5_rowQ HRR.out.row _ _ _ _ _) Tryd.underlying24 rfl infoRp) rfl ⟨⟨_, rfl, RpIs.zero _⟩, below_set5Q (show Below w.heap.size w w5 from HKK.out) HKK.out.size (Nat.le_refl _) _ _ _ _ _⟩

end Go.Proofs.YtijdbmapdmhknaaDoor
