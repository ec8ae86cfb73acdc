/- ManifestTells out of the contracts. -/
import Derived.Test.YteompckehokdoaaGreatDoorGL
namespace Go.Proofs.YteompckehokdoaaGreatDoor
open Go.RowKit

theorem sizeV_out {n : Int} (h : ¬ (1 ≤ n ∧ n ≤ 256)) : sizeV n = 0 := by unfold sizeV; rw [if_neg h]

set_option maxRecDepth 100000 in
set_option maxHeartbeats 64000000 in
theorem manifestTells_of (CL : MPlacesOk) (CB : MBytesOk) (CH : MHooksOk) (CZ : MSizeOk) (AW : AwakeM) (m : Mf) (bits n : Int) (hbits : (Lit.int .i64 bits).wf = true) (hn : (Lit.int .i64 n).wf = true) (v : Value) (w : World) (HM : ManIs m v w) (hT : TabAt w) :
    Calls Tryz.prog 3 #[v, .int .i64 bits, .int .i64 n] w fun e w' => e = .returned (.bool true) ∧ Kept w w' := by
  obtain ⟨p, c, rfl⟩ := HM.cut
  obtain ⟨mn, hmn⟩ : ∃ n, n = m.es.length := ⟨_, rfl⟩
  obtain ⟨mi, hid⟩ : ∃ i, i = m.id := ⟨_, rfl⟩
  rw [← hmn, ← hid] at HM ⊢
  have HMN := Lib.hid (show mi = m.id ∧ mn = m.es.length from ⟨hid, hmn⟩)
  obtain ⟨W1, hW1⟩ : ∃ W, W = w.alloc (.cells #[.int .u32 (mi : Nat), .slice p mn c] 25) := ⟨_, rfl⟩
  have hk1 : Kept w W1 := by rw [hW1]; exact box_below _ _
  have hrm : W1.heap[w.heap.size]? = some (.cells #[.int .u32 (mi : Nat), .slice p mn c] 25 (0, 0)) := by rw [hW1]; exact heap_alloc_last w _
  have a0 : W1.cell? ⟨w.heap.size, 0, none⟩ = some (.int .u32 (mi : Nat)) := by rw [cell_of_row _ _ _ _ _ _ hrm]; rfl
  have a1 : W1.cell? ⟨w.heap.size, 1, none⟩ = some (.slice p mn c) := by rw [cell_of_row _ _ _ _ _ _ hrm]; rfl
  have hm1 := HM.later hk1
  have F1 := few15_any m _ W1 hm1
  have HRM := Lib.hid hrm
  have HM1 := Lib.hid hm1
  have HK1 := Lib.hid hk1
  have HW1 := Lib.hid hW1
  have HT := Lib.hid hT
  rw [hW1] at a0 a1
  rw [show m.es.length = mn from hmn.symm] at F1
  clear HM hmn hid hW1 hk1 hrm hm1 hT
  by_cases hm30 : mn ≤ 30
  · rw [decide_eq_true hm30] at F1
    have hlm : m.es.length ≤ 30 := by have := HMN.out.2; omega
    obtain ⟨PL, hPL⟩ : ∃ L, L = placesM m := ⟨_, rfl⟩
    obtain ⟨np, hnp⟩ : ∃ n, n = PL.length := ⟨_, rfl⟩
    have hp30 : np ≤ 30 := by
      have h1 := psetL_len (m.es.map plE)
      rw [List.length_map] at h1
      have h2 : np ≤ m.es.length := by rw [hnp, hPL]; exact h1
      omega
    have HP30 := Lib.hid hp30
    have HNP := Lib.hid hnp
    obtain ⟨HS, hHS⟩ : ∃ L, L = hooksM m bits := ⟨_, rfl⟩
    have hhl : HS.length ≤ 1000000 := by
      have h1 := setL_le 32 ((m.es.map En.fp).filter fun l => hookB l bits) (fun y hy => by
        obtain ⟨e, he, rfl⟩ := List.mem_map.1 (List.mem_filter.1 hy).1
        exact (HM1.out.wf.2 e he).1)
      have h2 := List.length_filter_le (fun l => hookB l bits) (m.es.map En.fp)
      rw [List.length_map] at h2
      rw [hHS]
      unfold hooksM
      omega
    obtain ⟨by_, hby⟩ : ∃ b, b = wrapI (sumM m) := ⟨_, rfl⟩
    have CL1 := fun W (kk : Kept W1 W) => CL m _ W (HM1.out.later kk) (by omega)
    have CL2 := fun W (kk : Kept W1 W) => rplaces15_any m _ W (HM1.out.later kk) (by omega)
    have CB1 := fun W (kk : Kept W1 W) => CB m _ W (HM1.out.later kk) (by omega)
    have CB2 := fun W (kk : Kept W1 W) => rbytes15_any m _ W (HM1.out.later kk) (by omega)
    have CH1 := fun W (kk : Kept W1 W) => CH m bits _ W (HM1.out.later kk) (by omega) hbits
    have CH2 := fun W (kk : Kept W1 W) => rhooks15_any m bits _ W (HM1.out.later kk) (by omega)
    have SM := fun (x y : Value) W (h1 : FpsAt 32 HS x W) (h2 : FpsAt 32 HS y W) => same_any x y HS HS hhl W h1 h2
    rw [← hPL] at CL1 CL2
    rw [← hby] at CB1 CB2
    rw [← hHS] at CH1
    rw [show setL ((m.es.map En.fp).filter fun l => hookB l bits) = HS from hHS.symm] at CH2
    rw [show (HS == HS) = true by simp] at SM
    have HNW : Hid ((decide (n ≥ 1) = false ∧ ¬ 1 ≤ n) ∨ (decide (n ≥ 1) = true ∧ 1 ≤ n ∧ decide (n ≤ 256) = false ∧ ¬ n ≤ 256) ∨ (decide (n ≥ 1) = true ∧ 1 ≤ n ∧ decide (n ≤ 256) = true ∧ n ≤ 256 ∧ IntKind.i64.wrap (40 * n) = 40 * n ∧ IntKind.i64.wrap (14 + 40 * n) = 14 + 40 * n ∧ sizeV n = 14 + 40 * n)) := Lib.hid (by
      by_cases h1 : 1 ≤ n
      · by_cases h2 : n ≤ 256
        · exact Or.inr (Or.inr ⟨decide_eq_true h1, h1, decide_eq_true h2, h2, IntWalk.i64_in _ (by omega), IntWalk.i64_in _ (by omega), by unfold sizeV; rw [if_pos ⟨h1, h2⟩]⟩)
        · exact Or.inr (Or.inl ⟨decide_eq_true h1, h1, decide_eq_false h2, h2⟩)
      · exact Or.inl ⟨decide_eq_false h1, h1⟩)
    clear hm30 hlm hPL hnp hp30 hHS hhl hby CL CB CH
    go_enter Tryz.func3, Tryz.ntmps3
    go_wp2_with fail
    rw [← HW1.out]
    refine F1.mono ?_
    rintro e w2 ⟨rfl, hb2⟩
    have HX2 : Hid (Kept W1 w2) := Lib.hid hb2
    have HK2 : Hid (Kept w w2) := Lib.hid ((show Kept w W1 from HK1.out).then hb2)
    clear hb2 F1 a0 a1
    have m0 : w2.cell? ⟨w.heap.size, 0, none⟩ = some (.int .u32 (mi : Nat)) := by rw [cell_of_row _ _ _ _ _ _ (Kept.row HX2.out HRM.out)]; rfl
    have m1 : w2.cell? ⟨w.heap.size, 1, none⟩ = some (.slice p mn c) := by rw [cell_of_row _ _ _ _ _ _ (Kept.row HX2.out HRM.out)]; rfl
    go_wp2_with fail
    have HX2d : Hid (Kept W1 w2.drew) := Lib.hid ((show Kept W1 w2 from HX2.out).then (Below.refl _ w2).drew)
    refine wp_region_held_drew (S := fun w' => w'.cell? ⟨w.heap.size, 0, none⟩ = some (.int .u32 (mi : Nat)) ∧ w'.cell? ⟨w.heap.size, 1, none⟩ = some (.slice p mn c)) (by kernel_rfl) ⟨m0, m1⟩ (fun hHeld => ?_)
    refine wpAnyH_take (i := 0) (v := ?_) rfl (by kernel_rfl) (by kernel_rfl) (by kernel_rfl) (fun _ _ _ h => h) (Or.inl ⟨by first | kernel_rfl | rfl, ?_⟩) (by assumption) ?_
    case refine_2 => intro w hSw; obtain ⟨s1, s2⟩ := hSw; go_simp; try with_reducible rfl
    refine wpAnyH_take (i := 2) (v := ?_) rfl (by kernel_rfl) (by kernel_rfl) (by kernel_rfl) (fun _ _ _ h => h) (Or.inl ⟨by first | kernel_rfl | rfl, ?_⟩) (by assumption) ?_
    case refine_2 => intro w hSw; obtain ⟨s1, s2⟩ := hSw; go_simp; try with_reducible rfl
    refine wpAnyH_ready (rs := [1]) (by kernel_rfl) (by simp) (AllReadyH.cons rfl (fun K hK => ?_) AllReadyH.nil)
    go_simp
    refine (CL1 w2.drew HX2d.out).mono ?_
    rintro e w3 ⟨va, rfl, hv, hb⟩
    have HX3 : Hid (Kept W1 w3) := Lib.hid ((show Kept W1 w2.drew from HX2d.out).then hb)
    obtain ⟨pa, ca, rfl, -, -⟩ := hv.out encP
    rw [← HNP.out]
    have HPa := Lib.hid hv
    clear hv
    clear hb
    refine hK.out _ _ ⟨by rw [cell_of_row _ _ _ _ _ _ (Kept.row HX3.out HRM.out)]; rfl, by rw [cell_of_row _ _ _ _ _ _ (Kept.row HX3.out HRM.out)]; rfl⟩ (fun _ => ?_)
    clear hK K
    refine wpAnyH_ready (rs := [3]) (by kernel_rfl) (by simp) (AllReadyH.cons rfl (fun K hK => ?_) AllReadyH.nil)
    go_simp
    refine (CL2 w3 HX3.out).mono ?_
    rintro e w4 ⟨vb, rfl, hv, hb⟩
    have HX4 : Hid (Kept W1 w4) := Lib.hid ((show Kept W1 w3 from HX3.out).then hb)
    obtain ⟨pb, cb, rfl, -, -⟩ := hv.out encP
    rw [← HNP.out]
    have HPb := Lib.hid hv
    clear hv
    have HPa := Lib.hid (HPa.out.later hb)
    clear hb
    refine hK.out _ _ ⟨by rw [cell_of_row _ _ _ _ _ _ (Kept.row HX4.out HRM.out)]; rfl, by rw [cell_of_row _ _ _ _ _ _ (Kept.row HX4.out HRM.out)]; rfl⟩ (fun _ => ?_)
    clear hK K
    refine wpAnyH_take (i := 4) (v := ?_) rfl (by kernel_rfl) (by kernel_rfl) (by kernel_rfl) (fun _ _ _ h => h) (Or.inl ⟨by first | kernel_rfl | rfl, ?_⟩) (by assumption) ?_
    case refine_2 => intro w hSw; obtain ⟨s1, s2⟩ := hSw; go_simp; try with_reducible rfl
    refine wpAnyH_take (i := 5) (v := ?_) rfl (by kernel_rfl) (by kernel_rfl) (by kernel_rfl) (fun _ _ _ h => h) (Or.inl ⟨by first | kernel_rfl | rfl, ?_⟩) (by assumption) ?_
    case refine_2 => intro w hSw; obtain ⟨s1, s2⟩ := hSw; go_simp; try with_reducible rfl
    refine wpAnyH_done (by kernel_rfl) ?_ _
    clear m0 m1
    go_wp2_with fail
    have HX4d : Hid (Kept W1 w4.drew) := Lib.hid ((show Kept W1 w4 from HX4.out).then (Below.refl _ w4).drew)
    have HPa := Lib.hid (HPa.out.later (show Kept w4 w4.drew from (Below.refl _ w4).drew))
    have HPb := Lib.hid (HPb.out.later (show Kept w4 w4.drew from (Below.refl _ w4).drew))
    have m0 : w4.cell? ⟨w.heap.size, 0, none⟩ = some (.int .u32 (mi : Nat)) := by rw [cell_of_row _ _ _ _ _ _ (Kept.row HX4.out HRM.out)]; rfl
    have m1 : w4.cell? ⟨w.heap.size, 1, none⟩ = some (.slice p mn c) := by rw [cell_of_row _ _ _ _ _ _ (Kept.row HX4.out HRM.out)]; rfl
    refine wp_region_held_drew (S := fun w' => w'.cell? ⟨w.heap.size, 0, none⟩ = some (.int .u32 (mi : Nat)) ∧ w'.cell? ⟨w.heap.size, 1, none⟩ = some (.slice p mn c)) (by kernel_rfl) ⟨m0, m1⟩ (fun hHeld => ?_)
    refine wpAnyH_take (i := 0) (v := ?_) rfl (by kernel_rfl) (by kernel_rfl) (by kernel_rfl) (fun _ _ _ h => h) (Or.inl ⟨by first | kernel_rfl | rfl, ?_⟩) (by assumption) ?_
    case refine_2 => intro w hSw; obtain ⟨s1, s2⟩ := hSw; go_simp; try with_reducible rfl
    refine wpAnyH_take (i := 1) (v := ?_) rfl (by kernel_rfl) (by kernel_rfl) (by kernel_rfl) (fun _ _ _ h => h) (Or.inl ⟨by first | kernel_rfl | rfl, ?_⟩) (by assumption) ?_
    case refine_2 => intro w hSw; obtain ⟨s1, s2⟩ := hSw; go_simp; try with_reducible rfl
    refine wpAnyH_take (i := 2) (v := ?_) rfl (by kernel_rfl) (by kernel_rfl) (by kernel_rfl) (fun _ _ _ h => h) (Or.inl ⟨by first | kernel_rfl | rfl, ?_⟩) (by assumption) ?_
    case refine_2 => intro w hSw; obtain ⟨s1, s2⟩ := hSw; go_simp; try with_reducible rfl
    refine wpAnyH_take (i := 3) (v := ?_) rfl (by kernel_rfl) (by kernel_rfl) (by kernel_rfl) (fun _ _ _ h => h) (Or.inl ⟨by first | kernel_rfl | rfl, ?_⟩) (by assumption) ?_
    case refine_2 => intro w hSw; obtain ⟨s1, s2⟩ := hSw; go_simp; try with_reducible rfl
    refine wpAnyH_take (i := 4) (v := ?_) rfl (by kernel_rfl) (by kernel_rfl) (by kernel_rfl) (fun _ _ _ h => h) (Or.inl ⟨by first | kernel_rfl | rfl, ?_⟩) (by assumption) ?_
    case refine_2 => intro w hSw; obtain ⟨s1, s2⟩ := hSw; go_simp; try with_reducible rfl
    refine wpAnyH_take (i := 5) (v := ?_) rfl (by kernel_rfl) (by kernel_rfl) (by kernel_rfl) (fun _ _ _ h => h) (Or.inl ⟨by first | kernel_rfl | rfl, ?_⟩) (by assumption) ?_
    case refine_2 => intro w hSw; obtain ⟨s1, s2⟩ := hSw; go_simp; try with_reducible rfl
    refine wpAnyH_take (i := 6) (v := ?_) rfl (by kernel_rfl) (by kernel_rfl) (by kernel_rfl) (fun _ _ _ h => h) (Or.inl ⟨by first | kernel_rfl | rfl, ?_⟩) (by assumption) ?_
    case refine_2 => intro w hSw; obtain ⟨s1, s2⟩ := hSw; go_simp; try with_reducible rfl
    refine wpAnyH_take (i := 8) (v := ?_) rfl (by kernel_rfl) (by kernel_rfl) (by kernel_rfl) (fun _ _ _ h => h) (Or.inl ⟨by first | kernel_rfl | rfl, ?_⟩) (by assumption) ?_
    case refine_2 => intro w hSw; obtain ⟨s1, s2⟩ := hSw; go_simp; try with_reducible rfl
    refine wpAnyH_ready (rs := [7]) (by kernel_rfl) (by simp) (AllReadyH.cons rfl (fun K hK => ?_) AllReadyH.nil)
    go_simp
    refine (CB1 w4.drew HX4d.out).mono ?_
    rintro e wa ⟨rfl, hb⟩
    have HXa : Hid (Kept W1 wa) := Lib.hid ((show Kept W1 w4.drew from HX4d.out).then hb)
    have HPa := Lib.hid (HPa.out.later hb)
    have HPb := Lib.hid (HPb.out.later hb)
    clear hb
    refine hK.out _ _ ⟨by rw [cell_of_row _ _ _ _ _ _ (Kept.row HXa.out HRM.out)]; rfl, by rw [cell_of_row _ _ _ _ _ _ (Kept.row HXa.out HRM.out)]; rfl⟩ (fun _ => ?_)
    clear hK K
    refine wpAnyH_ready (rs := [9]) (by kernel_rfl) (by simp) (AllReadyH.cons rfl (fun K hK => ?_) AllReadyH.nil)
    go_simp
    refine (CB2 wa HXa.out).mono ?_
    rintro e wb ⟨rfl, hb⟩
    have HXb : Hid (Kept W1 wb) := Lib.hid ((show Kept W1 wa from HXa.out).then hb)
    have HPa := Lib.hid (HPa.out.later hb)
    have HPb := Lib.hid (HPb.out.later hb)
    clear hb
    refine hK.out _ _ ⟨by rw [cell_of_row _ _ _ _ _ _ (Kept.row HXb.out HRM.out)]; rfl, by rw [cell_of_row _ _ _ _ _ _ (Kept.row HXb.out HRM.out)]; rfl⟩ (fun _ => ?_)
    clear hK K
    refine wpAnyH_take (i := 10) (v := ?_) rfl (by kernel_rfl) (by kernel_rfl) (by kernel_rfl) (fun _ _ _ h => h) (Or.inl ⟨by first | kernel_rfl | rfl, ?_⟩) (by assumption) ?_
    case refine_2 => intro w hSw; obtain ⟨s1, s2⟩ := hSw; go_simp; try with_reducible rfl
    refine wpAnyH_take (i := 11) (v := ?_) rfl (by kernel_rfl) (by kernel_rfl) (by kernel_rfl) (fun _ _ _ h => h) (Or.inl ⟨by first | kernel_rfl | rfl, ?_⟩) (by assumption) ?_
    case refine_2 => intro w hSw; obtain ⟨s1, s2⟩ := hSw; go_simp; try with_reducible rfl
    refine wpAnyH_take (i := 12) (v := ?_) rfl (by kernel_rfl) (by kernel_rfl) (by kernel_rfl) (fun _ _ _ h => h) (Or.inl ⟨by first | kernel_rfl | rfl, ?_⟩) (by assumption) ?_
    case refine_2 => intro w hSw; obtain ⟨s1, s2⟩ := hSw; go_simp; try with_reducible rfl
    refine wpAnyH_take (i := 13) (v := ?_) rfl (by kernel_rfl) (by kernel_rfl) (by kernel_rfl) (fun _ _ _ h => h) (Or.inl ⟨by first | kernel_rfl | rfl, ?_⟩) (by assumption) ?_
    case refine_2 => intro w hSw; obtain ⟨s1, s2⟩ := hSw; go_simp; try with_reducible rfl
    refine wpAnyH_take (i := 14) (v := ?_) rfl (by kernel_rfl) (by kernel_rfl) (by kernel_rfl) (fun _ _ _ h => h) (Or.inl ⟨by first | kernel_rfl | rfl, ?_⟩) (by assumption) ?_
    case refine_2 => intro w hSw; obtain ⟨s1, s2⟩ := hSw; go_simp; try with_reducible rfl
    refine wpAnyH_take (i := 16) (v := ?_) rfl (by kernel_rfl) (by kernel_rfl) (by kernel_rfl) (fun _ _ _ h => h) (Or.inl ⟨by first | kernel_rfl | rfl, ?_⟩) (by assumption) ?_
    case refine_2 => intro w hSw; obtain ⟨s1, s2⟩ := hSw; go_simp; try with_reducible rfl
    refine wpAnyH_take (i := 17) (v := ?_) rfl (by kernel_rfl) (by kernel_rfl) (by kernel_rfl) (fun _ _ _ h => h) (Or.inl ⟨by first | kernel_rfl | rfl, ?_⟩) (by assumption) ?_
    case refine_2 => intro w hSw; obtain ⟨s1, s2⟩ := hSw; go_simp; try with_reducible rfl
    refine wpAnyH_ready (rs := [15]) (by kernel_rfl) (by simp) (AllReadyH.cons rfl (fun K hK => ?_) AllReadyH.nil)
    go_simp
    refine (CH1 wb HXb.out).mono ?_
    rintro e wc ⟨vx, rfl, hv, hb⟩
    have HXc : Hid (Kept W1 wc) := Lib.hid ((show Kept W1 wb from HXb.out).then hb)
    have HHx := Lib.hid hv
    clear hv
    have HPa := Lib.hid (HPa.out.later hb)
    have HPb := Lib.hid (HPb.out.later hb)
    clear hb
    refine hK.out _ _ ⟨by rw [cell_of_row _ _ _ _ _ _ (Kept.row HXc.out HRM.out)]; rfl, by rw [cell_of_row _ _ _ _ _ _ (Kept.row HXc.out HRM.out)]; rfl⟩ (fun _ => ?_)
    clear hK K
    refine wpAnyH_ready (rs := [18]) (by kernel_rfl) (by simp) (AllReadyH.cons rfl (fun K hK => ?_) AllReadyH.nil)
    go_simp
    refine (CH2 wc HXc.out).mono ?_
    rintro e wd ⟨vy, rfl, hv, hb⟩
    have HXd : Hid (Kept W1 wd) := Lib.hid ((show Kept W1 wc from HXc.out).then hb)
    have HHy := Lib.hid hv
    clear hv
    have HPa := Lib.hid (HPa.out.later hb)
    have HPb := Lib.hid (HPb.out.later hb)
    have HHx := Lib.hid (HHx.out.later hb)
    clear hb
    refine hK.out _ _ ⟨by rw [cell_of_row _ _ _ _ _ _ (Kept.row HXd.out HRM.out)]; rfl, by rw [cell_of_row _ _ _ _ _ _ (Kept.row HXd.out HRM.out)]; rfl⟩ (fun _ => ?_)
    clear hK K
    refine wpAnyH_ready (rs := [19]) (by kernel_rfl) (by simp) (AllReadyH.cons rfl (fun K hK => ?_) AllReadyH.nil)
    go_simp
    refine (SM _ _ wd HHx.out HHy.out).mono ?_
    rintro e we ⟨rfl, hb⟩
    have HXe : Hid (Kept W1 we) := Lib.hid ((show Kept W1 wd from HXd.out).then hb)
    have HPa := Lib.hid (HPa.out.later hb)
    have HPb := Lib.hid (HPb.out.later hb)
    clear hb
    refine hK.out _ _ ⟨by rw [cell_of_row _ _ _ _ _ _ (Kept.row HXe.out HRM.out)]; rfl, by rw [cell_of_row _ _ _ _ _ _ (Kept.row HXe.out HRM.out)]; rfl⟩ (fun _ => ?_)
    clear hK K
    refine wpAnyH_take (i := 20) (v := ?_) rfl (by kernel_rfl) (by kernel_rfl) (by kernel_rfl) (fun _ _ _ h => h) (Or.inl ⟨by first | kernel_rfl | rfl, ?_⟩) (by assumption) ?_
    case refine_2 => intro w hSw; obtain ⟨s1, s2⟩ := hSw; go_simp; try with_reducible rfl
    refine wpAnyH_take (i := 21) (v := ?_) rfl (by kernel_rfl) (by kernel_rfl) (by kernel_rfl) (fun _ _ _ h => h) (Or.inl ⟨by first | kernel_rfl | rfl, ?_⟩) (by assumption) ?_
    case refine_2 => intro w hSw; obtain ⟨s1, s2⟩ := hSw; go_simp; try with_reducible rfl
    refine wpAnyH_done (by kernel_rfl) ?_ _
    go_wp2
    go_loopg [9] np (fun gh y wr => ∃ k : Nat, k + gh = np ∧ y = .int .i64 k ∧ Hid (Kept we wr))
    case atStart => exact ⟨0, by omega, rfl, Lib.hid (Kept.refl we)⟩
    case round =>
      obtain ⟨k, hk, rfl, HQR⟩ := hrel
      have HXR : Hid (Kept W1 wr) := Lib.hid ((show Kept W1 we from HXe.out).then HQR.out)
      have HKR : Hid (Kept w wr) := Lib.hid ((show Kept w W1 from HK1.out).then HXR.out)
      by_cases hkn : k < np
      · have bk : decide ((k : Int) < (np : Int)) = true := decide_eq_true (by omega)
        have hki : (k : Int) < np := by omega
        have hki0 : (0 : Int) ≤ k := by omega
        have hkp : k < PL.length := by have := HNP.out; omega
        obtain ⟨bp, op, _, _, _, rfl, -, -, -, hcp⟩ := HPa.out.elem encP hkp
        obtain ⟨bq, oq, _, _, _, rfl, -, -, -, hcq⟩ := HPb.out.elem encP hkp
        obtain ⟨xb, hxb⟩ : ∃ x, x = (PL[k]).1 := ⟨_, rfl⟩
        obtain ⟨xs, hxs⟩ : ∃ x, x = (PL[k]).2 := ⟨_, rfl⟩
        have IXP := fun W => idx_rec (P := Tryz.prog) Tryz.underlying28 (fun w => Tryz.sizeOf35 w) bp op np ca k hkn W
        have IXQ := fun W => idx_rec (P := Tryz.prog) Tryz.underlying28 (fun w => Tryz.sizeOf35 w) bq oq np cb k hkn W
        have x0 : wr.cell? ⟨bp, op + k * 2, none⟩ = some (.int .u32 (xb : Nat)) := Kept.cell HQR.out (by rw [hxb]; exact hcp 0 _ rfl)
        have x1 : wr.cell? ⟨bp, op + k * 2 + 1, none⟩ = some (.int .i64 xs) := Kept.cell HQR.out (by rw [hxs]; exact hcp 1 _ rfl)
        have y0 : wr.cell? ⟨bq, oq + k * 2, none⟩ = some (.int .u32 (xb : Nat)) := Kept.cell HQR.out (by rw [hxb]; exact hcq 0 _ rfl)
        have y1 : wr.cell? ⟨bq, oq + k * 2 + 1, none⟩ = some (.int .i64 xs) := Kept.cell HQR.out (by rw [hxs]; exact hcq 1 _ rfl)
        obtain ⟨k1, hk1⟩ : ∃ k1, k1 = k + 1 := ⟨_, rfl⟩
        have v1 : IntKind.i64.wrap ((k : Int) + 1) = (k1 : Int) := by rw [show (k : Int) + 1 = (k1 : Int) by omega]; exact IntWalk.i64_in _ (by have := HP30.out; omega)
        have HKK : Hid (k1 = k + 1 ∧ k + gk = np ∧ k < np) := Lib.hid ⟨hk1, hk, hkn⟩
        clear hcp hcq hxb hxs hk1 hk hkn hkp
        go_wp2_with fail
        refine wp_region_kept (by kernel_rfl) (by kernel_rfl) ?_
        refine wpQuiet_pure (v := ?_) (by kernel_rfl) ?_ (fun K hK => ?_)
        case refine_2 => intro W _; go_simp; try with_reducible rfl
        go_simp
        refine hK _ ?_; clear hK K
        refine wpQuiet_pure (v := ?_) (by kernel_rfl) ?_ (fun K hK => ?_)
        case refine_2 => intro W _; go_simp; try with_reducible rfl
        go_simp
        refine hK _ ?_; clear hK K
        refine wpQuiet_pure (v := ?_) (by kernel_rfl) ?_ (fun K hK => ?_)
        case refine_2 => intro W _; go_simp; try with_reducible rfl
        go_simp
        refine hK _ ?_; clear hK K
        refine wpQuiet_pure (v := ?_) (by kernel_rfl) ?_ (fun K hK => ?_)
        case refine_2 => intro W hW; have e0 := hW.cell x0; have e1 := hW.cell x1; go_simp; try with_reducible rfl
        go_simp
        refine hK _ ?_; clear hK K
        refine wpQuiet_pure (v := ?_) (by kernel_rfl) ?_ (fun K hK => ?_)
        case refine_2 => intro W _; go_simp; try with_reducible rfl
        go_simp
        refine hK _ ?_; clear hK K
        refine wpQuiet_pure (v := ?_) (by kernel_rfl) ?_ (fun K hK => ?_)
        case refine_2 => intro W _; go_simp; try with_reducible rfl
        go_simp
        refine hK _ ?_; clear hK K
        refine wpQuiet_pure (v := ?_) (by kernel_rfl) ?_ (fun K hK => ?_)
        case refine_2 => intro W _; go_simp; try with_reducible rfl
        go_simp
        refine hK _ ?_; clear hK K
        refine wpQuiet_pure (v := ?_) (by kernel_rfl) ?_ (fun K hK => ?_)
        case refine_2 => intro W hW; have e0 := hW.cell y0; have e1 := hW.cell y1; go_simp; try with_reducible rfl
        go_simp
        refine hK _ ?_; clear hK K
        refine wpQuiet_pure (by kernel_rfl) (.bool false) (fun W _ => by go_simp) (fun K hK => ?_)
        go_simp
        refine hK _ ?_; clear hK K
        refine wpQuiet_nil ?_
        intro w6 hk6

        have HQ6 : Hid (Kept we w6) := Lib.hid ((show Kept we wr from HQR.out).then hk6)
        clear hk6 x0 x1 y0 y1
        go_wp2
        go_roundg (np - k1)
        · exact ⟨k1, by have := HKK.out; omega, by first | rfl | (have := HKK.out; congr 1; omega), HQ6⟩
        · have := HKK.out; omega
      · have bk : decide ((k : Int) < (np : Int)) = false := decide_eq_false (by omega)
        have hki : ¬ (k : Int) < np := by omega
        have CZ1 := CZ n wr hn
        clear hk hkn
        rcases HNW.out with ⟨b1, i1⟩ | ⟨b1, i1, b2, i2⟩ | ⟨b1, i1, b2, i2, f1, f2, f3⟩
        · rw [sizeV_out (by omega)] at CZ1
          go_wp2_with fail
          refine CZ1.mono ?_
          rintro e wz1 ⟨rfl, hb⟩
          have HKZ1 : Hid (Kept w wz1) := Lib.hid ((show Kept w wr from HKR.out).then hb)
          clear hb CZ1
          have A := AW wz1 (HT.out.later HKZ1.out)
          go_wp2_with fail
          refine A.mono ?_
          rintro e wz ⟨rfl, hb⟩
          have HKZ : Hid (Kept w wz) := Lib.hid ((show Kept w wz1 from HKZ1.out).then hb)
          clear hb A
          go_wp2
          go_ret
          exact ⟨rfl, HKZ.out⟩

        · rw [sizeV_out (by omega)] at CZ1
          go_wp2_with fail
          refine CZ1.mono ?_
          rintro e wz1 ⟨rfl, hb⟩
          have HKZ1 : Hid (Kept w wz1) := Lib.hid ((show Kept w wr from HKR.out).then hb)
          clear hb CZ1
          have A := AW wz1 (HT.out.later HKZ1.out)
          go_wp2_with fail
          refine A.mono ?_
          rintro e wz ⟨rfl, hb⟩
          have HKZ : Hid (Kept w wz) := Lib.hid ((show Kept w wz1 from HKZ1.out).then hb)
          clear hb A
          go_wp2
          go_ret
          exact ⟨rfl, HKZ.out⟩

        · rw [f3] at CZ1
          go_wp2_with fail
          refine CZ1.mono ?_
          rintro e wz1 ⟨rfl, hb⟩
          have HKZ1 : Hid (Kept w wz1) := Lib.hid ((show Kept w wr from HKR.out).then hb)
          clear hb CZ1
          have A := AW wz1 (HT.out.later HKZ1.out)
          go_wp2_with fail
          refine A.mono ?_
          rintro e wz ⟨rfl, hb⟩
          have HKZ : Hid (Kept w wz) := Lib.hid ((show Kept w wz1 from HKZ1.out).then hb)
          clear hb A
          go_wp2
          go_ret
          exact ⟨rfl, HKZ.out⟩
  · rw [decide_eq_false hm30] at F1
    clear hm30
    go_enter Tryz.func3, Tryz.ntmps3
    go_wp2_with fail
    rw [← HW1.out]
    refine F1.mono ?_
    rintro e w2 ⟨rfl, hb2⟩
    have HX2 : Hid (Kept W1 w2) := Lib.hid hb2
    have HK2 : Hid (Kept w w2) := Lib.hid ((show Kept w W1 from HK1.out).then hb2)
    clear hb2 F1 a0 a1
    have A := AW w2 (HT.out.later HK2.out)
    go_wp2_with fail
    refine A.mono ?_
    rintro e wz ⟨rfl, hb⟩
    have HKZ : Hid (Kept w wz) := Lib.hid ((show Kept w w2 from HK2.out).then hb)
    clear hb A
    go_wp2
    go_ret
    exact ⟨rfl, HKZ.out⟩

end Go.Proofs.YteompckehokdoaaGreatDoor
