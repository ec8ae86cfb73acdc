/- The landed boxes' Head. -/
import Derived.Test.YtdmbebafpamgfaaDoorBxCd
namespace Go.Proofs.YtdmbebafpamgfaaDoor
open Go.RowKit

/-- A head's slots stand where another head's box is written. -/
theorem HeadIs.set2 {h : Hd} {v : Value} {w : World} (H : HeadIs h v w) {g a : Nat} {q : Option Addr} {m d : Nat} {T : TypeId} (hr : w.heap[g]? = some (.cells #[.int .u32 (a : Nat), .slice q m d] T (0, 0))) (y0 y1 : Value) :
    HeadIs h v ((w.setCell ⟨g, 0, none⟩ y0).setCell ⟨g, 1, none⟩ y1) := by
  obtain ⟨sv, rfl, hc, h1, h2, p, c, rfl, hat⟩ := H
  refine ⟨_, rfl, hc, h1, h2, p, c, rfl, ?_⟩
  rcases hat with h0 | ⟨b, off, hp, hcell⟩
  · exact Or.inl h0
  · by_cases hb : b = g
    · left
      subst hb
      cases hs : h.slots with
      | nil => rfl
      | cons x l =>
        have h3 := hcell 0 (.int .i64 (x.1 : Nat)) (by rw [hs]; rfl)
        rw [cell_of_row _ _ _ _ _ _ hr] at h3
        match off, h3 with
        | 0, h3 => simp at h3
        | 1, h3 => simp at h3
        | k + 2, h3 => simp at h3
    · refine Or.inr ⟨b, off, hp, fun j x hx => ?_⟩
      rw [World.cell?_setCell_far _ _ _ _ (fun e => hb e.symm), World.cell?_setCell_far _ _ _ _ (fun e => hb e.symm)]
      exact hcell j x hx

set_option maxRecDepth 100000 in
set_option maxHeartbeats 16000000 in
theorem headOkB : BHeadOk := by
  intro t w ht hT
  have HT := Lib.hid hT
  obtain ⟨S, hS⟩ : ∃ S, S = t.data.toList := ⟨_, rfl⟩
  have hSz : S.length = t.size := by rw [hS, data_len]
  have CR := fun W => readHead_any t (by omega) W
  rw [← hS] at CR
  rw [← hS]
  have HYES := Lib.hid (@headL_yes S)
  have HNO := Lib.hid (@headL_no S)
  have hwf := headL_wf S
  have hlen := headL_len S
  have CZ := fun v W (H : HeadIs (headL S) v W) => size_any (headL S) v W H (by have := hwf.1; omega) (by omega) (fun s hs => by have := (hwf.2 s hs).1; omega)
  have CB := fun v W (H : HeadIs (headL S) v W) (hT : TabAt W) => headBytes_any (headL S) v W H hwf (by omega) hT
  have CP := fun W => Tryd.strings_HasPrefix t (str (frontH (headL S))) W
  rw [← hS, str_list] at CP
  unfold Lib.hasPrefix at CP
  obtain ⟨z, hz⟩ : ∃ z, z = sizeH (headL S) := ⟨_, rfl⟩
  obtain ⟨F, hF⟩ : ∃ F, F = str (frontH (headL S)) := ⟨_, rfl⟩
  obtain ⟨pf, hpf⟩ : ∃ b, b = (frontH (headL S)).isPrefixOf S := ⟨_, rfl⟩
  rw [← hz, ← hpf, hSz] at HYES HNO
  rw [← hz] at CZ
  rw [← hF] at CB CP
  rw [← hpf] at CP
  obtain ⟨h, hh⟩ : ∃ h, h = headL S := ⟨_, rfl⟩
  rw [← hh] at HYES CR CZ CB
  obtain ⟨W1, hW1⟩ : ∃ W, W = w.alloc (.cells #[.int .u32 0, .slice none 0 0] 33) := ⟨_, rfl⟩
  have HW1 := Lib.hid hW1
  have hrow0 := heap_alloc_last w (.cells #[.int .u32 0, .slice none 0 0] 33)
  rw [← hW1] at hrow0
  have HROW := Lib.hid hrow0
  have HK1 : Hid (Kept w W1) := Lib.hid (by rw [hW1]; exact box_below _ _)
  obtain ⟨id, hid⟩ : ∃ i, i = h.id := ⟨_, rfl⟩
  obtain ⟨n, hn⟩ : ∃ n, n = h.slots.length := ⟨_, rfl⟩
  have HIDN : Hid (id = h.id ∧ n = h.slots.length) := Lib.hid ⟨hid, hn⟩
  have C1 := CR W1
  clear hT hS hwf hlen hz hF hpf hSz hh hW1 hrow0 hid hn ht CR
  by_cases hzt : z = t.size
  · subst hzt
    have b1 : ((t.size : Int) != (t.size : Int)) = false := by simp
    cases pf with
    | true =>
      have HG : Hid (headG S = some h) := Lib.hid (HYES.out rfl rfl)
      have HE : Hid (headE S = 0) := Lib.hid (by unfold headE; rw [HG.out]; rfl)
      have HGG : Hid ((headG S).getD Hd.zero = h) := Lib.hid (by rw [HG.out]; rfl)
      rw [HE.out, HGG.out]
      clear HYES HNO HG HE HGG
      go_enter Tryd.func14, Tryd.ntmps14
      go_wp2_with fail
      rw [← HW1.out]
      refine C1.mono ?_
      rintro e w2 ⟨⟨v, rfl, hv⟩, hb2⟩
      obtain ⟨sv, hsv, hsl⟩ := hv
      subst hsv
      obtain ⟨p, c, hp, -, -⟩ := hsl.out
      subst hp
      rw [← HIDN.out.1, ← HIDN.out.2]
      rw [← HIDN.out.2] at hsl
      have hr2 := heap_alloc_last w2 (.cells #[.int .u32 (id : Nat), .slice p n c] 33)
      obtain ⟨W3, hW3⟩ : ∃ W3, W3 = w2.alloc (.cells #[.int .u32 (id : Nat), .slice p n c] 33) := ⟨_, rfl⟩
      have HW3 := Lib.hid hW3
      obtain ⟨b6, hb6⟩ : ∃ b, b = w2.heap.size := ⟨_, rfl⟩
      have HB6 := Lib.hid hb6
      have hk3 : Kept w2 W3 := by rw [hW3]; exact box_below _ _
      rw [← hb6, ← hW3] at hr2
      have HR3 := Lib.hid hr2
      have HK13 : Hid (Kept W1 W3) := Lib.hid ((show Kept W1 w2 from hb2).then hk3)
      have HHD : Hid (HeadIs h (.agg #[.int .u32 (id : Nat), .slice p n c]) W3) := Lib.hid ⟨_, by rw [HIDN.out.1], hsl.later hk3⟩
      have C2 := CZ _ W3 HHD.out
      have e0 : W3.cell? ⟨b6, 0, none⟩ = some (.int .u32 (id : Nat)) := by rw [cell_of_row _ _ _ _ _ _ hr2]; rfl
      have e1 : W3.cell? ⟨b6, 1, none⟩ = some (.slice p n c) := by rw [cell_of_row _ _ _ _ _ _ hr2]; rfl
      rw [hW3, hb6] at e0 e1
      clear hb2 hsl hr2 hW3 hb6 hk3 C1 CZ
      go_wp2_with fail
      try rw [← HW3.out] at e0 e1
      try rw [← HB6.out] at e0 e1
      try rw [← HB6.out]
      try rw [← HW3.out]
      refine C2.mono ?_
      rintro e w4 ⟨rfl, hb4⟩
      have HK14 := Lib.hid ((show Kept W1 W3 from HK13.out).then hb4)
      have hr4 := Kept.row (show Kept W3 w4 from hb4) HR3.out
      have f0 : w4.cell? ⟨b6, 0, none⟩ = some (.int .u32 (id : Nat)) := by rw [cell_of_row _ _ _ _ _ _ hr4]; rfl
      have f1 : w4.cell? ⟨b6, 1, none⟩ = some (.slice p n c) := by rw [cell_of_row _ _ _ _ _ _ hr4]; rfl
      have HR4 := Lib.hid hr4
      have HHD4 := Lib.hid (HHD.out.later hb4)
      have C3 := CB _ w4 HHD4.out (HT.out.later ((show Kept w W1 from HK1.out).then HK14.out))
      clear hb4 C2 e0 e1 HHD HR3 HK13 CB hr4
      go_wp2_with fail
      refine C3.mono ?_
      rintro e w5 ⟨rfl, hb5⟩
      have HK15 := Lib.hid ((show Kept W1 w4 from HK14.out).then hb5)
      have hr5 := Kept.row (show Kept w4 w5 from hb5) HR4.out
      have C4 := CP w5
      have HHD5 := Lib.hid (HHD4.out.later hb5)
      have HR5 := Lib.hid hr5
      clear hb5 C3 CP HHD4 HR4 HK14 f0 f1 hr5
      go_wp2_with fail
      refine C4.mono ?_
      rintro e w6 ⟨rfl, rfl⟩
      have g0 : w6.cell? ⟨b6, 0, none⟩ = some (.int .u32 (id : Nat)) := by rw [cell_of_row _ _ _ _ _ _ HR5.out]; rfl
      have g1 : w6.cell? ⟨b6, 1, none⟩ = some (.slice p n c) := by rw [cell_of_row _ _ _ _ _ _ HR5.out]; rfl
      have hr0 := Kept.row HK15.out HROW.out
      have q0 : w6.cell? ⟨w.heap.size, 0, none⟩ = some (.int .u32 0) := by rw [cell_of_row _ _ _ _ _ _ hr0]; rfl
      have q1 : w6.cell? ⟨w.heap.size, 1, none⟩ = some (.slice none 0 0) := by rw [cell_of_row _ _ _ _ _ _ hr0]; rfl
      have i0 := frozen_of_row w6 w.heap.size 0 _ _ hr0
      have i1 := frozen_of_row w6 w.heap.size 1 _ _ hr0
      have HR0 := Lib.hid hr0
      have HK6 : Hid (Kept w w6) := Lib.hid ((show Kept w W1 from HK1.out).then HK15.out)
      clear C4 hr0
      go_wp2
      refine bodyPost_ret (results_cell_tmp_rowX Tryd.results14 _ _ w.heap.size 33 #[.int .u32 (id : Nat), .slice p n c] (0, 0) _ rfl (set2_row HR0.out _ _) Tryd.underlying33 rfl infoHdX) rfl ⟨⟨_, rfl, ?_⟩, below_set2 HK6.out (Nat.le_refl _) _ _⟩
      exact HeadIs.set2 (a := 0) HHD5.out HR0.out _ _
    | false =>
      have HG : Hid (headG S = none) := Lib.hid (HNO.out (fun x => by have := x.2; simp at this))
      have HE : Hid (headE S = 110) := Lib.hid (by unfold headE; rw [HG.out]; rfl)
      have HGG : Hid ((headG S).getD Hd.zero = Hd.zero) := Lib.hid (by rw [HG.out]; rfl)
      rw [HE.out, HGG.out]
      clear HYES HNO HG HE HGG
      go_enter Tryd.func14, Tryd.ntmps14
      go_wp2_with fail
      rw [← HW1.out]
      refine C1.mono ?_
      rintro e w2 ⟨⟨v, rfl, hv⟩, hb2⟩
      obtain ⟨sv, hsv, hsl⟩ := hv
      subst hsv
      obtain ⟨p, c, hp, -, -⟩ := hsl.out
      subst hp
      rw [← HIDN.out.1, ← HIDN.out.2]
      rw [← HIDN.out.2] at hsl
      have hr2 := heap_alloc_last w2 (.cells #[.int .u32 (id : Nat), .slice p n c] 33)
      obtain ⟨W3, hW3⟩ : ∃ W3, W3 = w2.alloc (.cells #[.int .u32 (id : Nat), .slice p n c] 33) := ⟨_, rfl⟩
      have HW3 := Lib.hid hW3
      obtain ⟨b6, hb6⟩ : ∃ b, b = w2.heap.size := ⟨_, rfl⟩
      have HB6 := Lib.hid hb6
      have hk3 : Kept w2 W3 := by rw [hW3]; exact box_below _ _
      rw [← hb6, ← hW3] at hr2
      have HR3 := Lib.hid hr2
      have HK13 : Hid (Kept W1 W3) := Lib.hid ((show Kept W1 w2 from hb2).then hk3)
      have HHD : Hid (HeadIs h (.agg #[.int .u32 (id : Nat), .slice p n c]) W3) := Lib.hid ⟨_, by rw [HIDN.out.1], hsl.later hk3⟩
      have C2 := CZ _ W3 HHD.out
      have e0 : W3.cell? ⟨b6, 0, none⟩ = some (.int .u32 (id : Nat)) := by rw [cell_of_row _ _ _ _ _ _ hr2]; rfl
      have e1 : W3.cell? ⟨b6, 1, none⟩ = some (.slice p n c) := by rw [cell_of_row _ _ _ _ _ _ hr2]; rfl
      rw [hW3, hb6] at e0 e1
      clear hb2 hsl hr2 hW3 hb6 hk3 C1 CZ
      go_wp2_with fail
      try rw [← HB6.out]
      try rw [← HW3.out]
      refine C2.mono ?_
      rintro e w4 ⟨rfl, hb4⟩
      have HK14 := Lib.hid ((show Kept W1 W3 from HK13.out).then hb4)
      have hr4 := Kept.row (show Kept W3 w4 from hb4) HR3.out
      have f0 : w4.cell? ⟨b6, 0, none⟩ = some (.int .u32 (id : Nat)) := by rw [cell_of_row _ _ _ _ _ _ hr4]; rfl
      have f1 : w4.cell? ⟨b6, 1, none⟩ = some (.slice p n c) := by rw [cell_of_row _ _ _ _ _ _ hr4]; rfl
      have HHD4 := Lib.hid (HHD.out.later hb4)
      have C3 := CB _ w4 HHD4.out (HT.out.later ((show Kept w W1 from HK1.out).then HK14.out))
      clear hb4 C2 e0 e1 HHD HR3 HK13 CB hr4
      go_wp2_with fail
      refine C3.mono ?_
      rintro e w5 ⟨rfl, hb5⟩
      have HK15 := Lib.hid ((show Kept W1 w4 from HK14.out).then hb5)
      have C4 := CP w5
      clear hb5 C3 CP HHD4 HK14 f0 f1
      go_wp2_with fail
      refine C4.mono ?_
      rintro e w6 ⟨rfl, rfl⟩
      have hr0 := Kept.row HK15.out HROW.out
      have q0 : w6.cell? ⟨w.heap.size, 0, none⟩ = some (.int .u32 0) := by rw [cell_of_row _ _ _ _ _ _ hr0]; rfl
      have q1 : w6.cell? ⟨w.heap.size, 1, none⟩ = some (.slice none 0 0) := by rw [cell_of_row _ _ _ _ _ _ hr0]; rfl
      have i0 := frozen_of_row w6 w.heap.size 0 _ _ hr0
      have i1 := frozen_of_row w6 w.heap.size 1 _ _ hr0
      have HR0 := Lib.hid hr0
      have HK6 : Hid (Kept w w6) := Lib.hid ((show Kept w W1 from HK1.out).then HK15.out)
      clear C4 hr0
      go_wp2
      refine bodyPost_ret (results_cell_tmp_rowX Tryd.results14 _ _ w.heap.size 33 #[.int .u32 0, .slice none 0 0] (0, 0) _ rfl (set2_row HR0.out _ _) Tryd.underlying33 rfl infoHdX) rfl ⟨⟨_, rfl, HeadIs.zero _⟩, below_set2 HK6.out (Nat.le_refl _) _ _⟩
  · have b1 : ((z : Int) != (t.size : Int)) = true := bne_iff_ne.2 (by omega)
    have b2 : ((z : Int) == (t.size : Int)) = false := beq_eq_false_iff_ne.2 (by omega)
    have HG : Hid (headG S = none) := Lib.hid (HNO.out (fun x => hzt x.1))
    have HE : Hid (headE S = 110) := Lib.hid (by unfold headE; rw [HG.out]; rfl)
    have HGG : Hid ((headG S).getD Hd.zero = Hd.zero) := Lib.hid (by rw [HG.out]; rfl)
    rw [HE.out, HGG.out]
    clear HYES HNO HG HE HGG CB CP hzt
    go_enter Tryd.func14, Tryd.ntmps14
    go_wp2_with fail
    rw [← HW1.out]
    refine C1.mono ?_
    rintro e w2 ⟨⟨v, rfl, hv⟩, hb2⟩
    obtain ⟨sv, hsv, hsl⟩ := hv
    subst hsv
    obtain ⟨p, c, hp, -, -⟩ := hsl.out
    subst hp
    rw [← HIDN.out.1, ← HIDN.out.2]
    rw [← HIDN.out.2] at hsl
    have hr2 := heap_alloc_last w2 (.cells #[.int .u32 (id : Nat), .slice p n c] 33)
    obtain ⟨W3, hW3⟩ : ∃ W3, W3 = w2.alloc (.cells #[.int .u32 (id : Nat), .slice p n c] 33) := ⟨_, rfl⟩
    have HW3 := Lib.hid hW3
    obtain ⟨b6, hb6⟩ : ∃ b, b = w2.heap.size := ⟨_, rfl⟩
    have HB6 := Lib.hid hb6
    have hk3 : Kept w2 W3 := by rw [hW3]; exact box_below _ _
    rw [← hb6, ← hW3] at hr2
    have HK13 : Hid (Kept W1 W3) := Lib.hid ((show Kept W1 w2 from hb2).then hk3)
    have C2 := CZ (.agg #[.int .u32 (id : Nat), .slice p n c]) W3 ⟨_, by rw [HIDN.out.1], hsl.later hk3⟩
    have e0 : W3.cell? ⟨b6, 0, none⟩ = some (.int .u32 (id : Nat)) := by rw [cell_of_row _ _ _ _ _ _ hr2]; rfl
    have e1 : W3.cell? ⟨b6, 1, none⟩ = some (.slice p n c) := by rw [cell_of_row _ _ _ _ _ _ hr2]; rfl
    rw [hW3, hb6] at e0 e1
    clear hb2 hsl hr2 hW3 hb6 hk3 C1 CZ
    go_wp2_with fail
    try rw [← HB6.out]
    try rw [← HW3.out]
    refine C2.mono ?_
    rintro e w4 ⟨rfl, hb4⟩
    have HK14 := Lib.hid ((show Kept W1 W3 from HK13.out).then hb4)
    have hr0 := Kept.row HK14.out HROW.out
    have q0 : w4.cell? ⟨w.heap.size, 0, none⟩ = some (.int .u32 0) := by rw [cell_of_row _ _ _ _ _ _ hr0]; rfl
    have q1 : w4.cell? ⟨w.heap.size, 1, none⟩ = some (.slice none 0 0) := by rw [cell_of_row _ _ _ _ _ _ hr0]; rfl
    have i0 := frozen_of_row w4 w.heap.size 0 _ _ hr0
    have i1 := frozen_of_row w4 w.heap.size 1 _ _ hr0
    have HR0 := Lib.hid hr0
    have HK6 : Hid (Kept w w4) := Lib.hid ((show Kept w W1 from HK1.out).then HK14.out)
    clear hb4 C2 e0 e1 HK13 hr0
    go_wp2
    refine bodyPost_ret (results_cell_tmp_rowX Tryd.results14 _ _ w.heap.size 33 #[.int .u32 0, .slice none 0 0] (0, 0) _ rfl (set2_row HR0.out _ _) Tryd.underlying33 rfl infoHdX) rfl ⟨⟨_, rfl, HeadIs.zero _⟩, below_set2 HK6.out (Nat.le_refl _) _ _⟩

end Go.Proofs.YtdmbebafpamgfaaDoor
