/- Manifest's awake, out of the contracts. -/
import Derived.Test.YteompckehokdoaaGreatDoorMnA
namespace Go.Proofs.YteompckehokdoaaGreatDoor
open Go.RowKit

theorem ex_mvbuilt : Tryz.prog.built 50 [(0, .agg #[.int .u32 1, .int .i64 0]), (1, .agg #[.int .u32 4, .int .i64 9])] = some #[.int .u32 1, .int .i64 0, .int .u32 4, .int .i64 9] := by kernel_rfl
theorem ex_mvslice : Tryz.prog.builtSlice 50 1 [(0, .agg #[.int .u32 1, .int .i64 0, .int .u32 4, .int .i64 9])] = some #[.int .u32 1, .int .i64 0, .int .u32 4, .int .i64 9] := by kernel_rfl
theorem ex_flat : flatR enL exM.es = (enC exE0 ++ enC exE1).toList := by
  unfold flatR exM enC
  simp

set_option maxRecDepth 100000 in
set_option maxHeartbeats 16000000 in
theorem mawake_of (CP : MPutOk) (CG : MGetOk) (CT : MTurnOk) (CL : MPlacesOk) (CZ : MSizeOk) (CB : MBytesOk) (CS : MSameOk) (CC : MCheckOk) : AwakeM := by
  intro w hT
  obtain ⟨X, hX⟩ : ∃ X, X = enC exE0 ++ enC exE1 := ⟨_, rfl⟩
  have hXs : X.size = 2 * 35 := by rw [hX, Array.size_append, enC_size exE0_wf.1, enC_size exE1_wf.1]
  have hXo : ∀ x ∈ X.toList, x.oneCell' = true := fun x hx => by
    rw [hX] at hx
    rcases Array.mem_append.1 (Array.mem_toList_iff.1 hx) with h | h
    · exact encE.one exE0 exE0_wf x (by unfold enC at h; simpa using h)
    · exact encE.one exE1 exE1_wf x (by unfold enC at h; simpa using h)
  have hfl : EntsAt exM.es (.slice (some ⟨w.heap.size, 0, none⟩) 2 2) (w.alloc (.cells X 41)) := by
    refine ⟨fun p n c e => by simp only [Value.slice.injEq] at e; omega, ex_wf, ?_⟩
    have h := FlatAt.new w 41 35 2 2 X hXs hXo
    rw [ex_flat, ← hX]
    exact h
  have HBS := Lib.hid (show Tryz.prog.builtSlice 41 2 [(0, .agg (enC exE0)), (1, .agg (enC exE1))] = some X by rw [hX]; exact ex_slice)
  have hrow := heap_alloc_last (w.alloc (.cells X 41)) (.cells #[.int .u32 3, .slice (some ⟨w.heap.size, 0, none⟩) 2 2] 25)
  have hs1 : (w.alloc (.cells X 41)).heap.size = w.heap.size + 1 := by simp
  rw [hs1] at hrow
  have a0 : ((w.alloc (.cells X 41)).alloc (.cells #[.int .u32 3, .slice (some ⟨w.heap.size, 0, none⟩) 2 2] 25)).cell? ⟨w.heap.size + 1, 0, none⟩ = some (.int .u32 3) := by rw [cell_of_row _ _ _ _ _ _ hrow]; rfl
  have a1 : ((w.alloc (.cells X 41)).alloc (.cells #[.int .u32 3, .slice (some ⟨w.heap.size, 0, none⟩) 2 2] 25)).cell? ⟨w.heap.size + 1, 1, none⟩ = some (.slice (some ⟨w.heap.size, 0, none⟩) 2 2) := by rw [cell_of_row _ _ _ _ _ _ hrow]; rfl
  obtain ⟨W2, hW2⟩ : ∃ W, W = (w.alloc (.cells X 41)).alloc (.cells #[.int .u32 3, .slice (some ⟨w.heap.size, 0, none⟩) 2 2] 25) := ⟨_, rfl⟩
  rw [← hW2] at hrow
  have hk2 : Kept w W2 := by rw [hW2]; exact (show Kept w _ from box_below _ _).then (box_below _ _)
  have hm2 : ManIs exM (.agg #[.int .u32 3, .slice (some ⟨w.heap.size, 0, none⟩) 2 2]) W2 := ⟨by decide, _, rfl, by rw [hW2]; exact hfl.later (box_below _ _)⟩
  have HW2 := Lib.hid hW2
  have HROW := Lib.hid hrow
  have HM2 := Lib.hid hm2
  have HK2 := Lib.hid hk2
  have HT := Lib.hid hT
  obtain ⟨PS, hPS⟩ : ∃ S, S = str (manB exM) := ⟨_, rfl⟩
  have hPz : PS.size = 94 := by rw [hPS, str_size, ex_size]
  have hPd : PS.data.toList = manB exM := by rw [hPS, str_list]
  have hpv : putV exM = PS := by unfold putV; rw [if_pos ex_may, hPS]
  have hgv : getV (manB exM) = 0 := by unfold getV; rw [ex_get]; rfl
  have C1 := CP exM _ W2 hm2 (by decide) (hT.later hk2)
  rw [hpv, if_pos ex_may] at C1
  have C2 := Lib.hid (fun W (k : Kept w W) => CG PS W (by omega) (hT.later k))
  rw [hPd, hgv, ex_get] at C2
  clear hX hXs hXo hfl hrow hs1 hW2 hk2 hm2 hPS hPd hpv hgv hT CP CG
  have hl94 : ((PS.size : Int) == 94) = true := by rw [hPz]; rfl
  go_enter Tryz.func5, Tryz.ntmps5
  go_wp2_with (first
    | (with_reducible refine wpList_built rfl _ _ rfl [(1, .int .i64 5), (2, .int .u32 1), (3, .int .i64 2)] ?hp1 (enC exE0) ex_built0 ?_)
    | (with_reducible refine wpList_built rfl _ _ rfl [(1, .int .i64 7), (2, .int .u32 1)] ?hp2 (enC exE1) ex_built1 ?_)
    | (with_reducible refine wpList_buildPs rfl _ _ 2 _ rfl Tryz.underlying23 [(0, .agg (enC exE0)), (1, .agg (enC exE1))] ?hp3 X HBS.out ?_))
  rw [← HW2.out]
  refine C1.mono ?_
  rintro e w3 ⟨rfl, hb3⟩
  have HK3 : Hid (Kept w w3) := Lib.hid ((show Kept w W2 from HK2.out).then hb3)
  have HR3 := Lib.hid (Kept.row hb3 HROW.out)
  have HM3 := Lib.hid (HM2.out.later hb3)
  have C22 := C2.out w3 HK3.out
  clear hb3 C1 C2 a0 a1
  go_wp2_with fail
  refine C22.mono ?_
  rintro e w4 ⟨⟨v, rfl, hv⟩, hb4⟩
  have hv' : ManIs exM v w4 := hv
  clear hv
  obtain ⟨_, sv, rfl, hsv⟩ := hv'
  obtain ⟨p, c, rfl, -, -⟩ := hsv.out encE
  obtain ⟨id, hid⟩ : ∃ i, i = exM.id := ⟨_, rfl⟩
  obtain ⟨n2, hn2⟩ : ∃ n, n = exM.es.length := ⟨_, rfl⟩
  have HV : Hid (ManIs exM (.agg #[.int .u32 (id : Nat), .slice p n2 c]) w4) := Lib.hid (by rw [hid, hn2]; exact ⟨by decide, _, rfl, hsv⟩)
  rw [← hid, ← hn2]
  clear hid hn2 hsv C22
  have HK4 : Hid (Kept w w4) := Lib.hid ((show Kept w w3 from HK3.out).then hb4)
  have HR4 := Lib.hid (Kept.row hb4 HR3.out)
  have HM4 := Lib.hid (HM3.out.later hb4)
  clear hb4
  obtain ⟨W5, hW5⟩ : ∃ W, W = w4.alloc (.cells #[.int .u32 (id : Nat), .slice p n2 c] 25) := ⟨_, rfl⟩
  have hk5 : Kept w4 W5 := by rw [hW5]; exact box_below _ _
  have hs5 : W5.heap.size = w4.heap.size + 1 := by rw [hW5]; simp
  have HG5 : Hid (W5.heap[w4.heap.size]? = some (.cells #[.int .u32 (id : Nat), .slice p n2 c] 25 (0, 0))) := Lib.hid (by rw [hW5]; exact heap_alloc_last w4 _)
  have e0 : (w4.alloc (.cells #[.int .u32 (id : Nat), .slice p n2 c] 25)).cell? ⟨w.heap.size + 1, 0, none⟩ = some (.int .u32 3) := by rw [cell_of_row _ _ _ _ _ _ (Kept.row (box_below _ _) HR4.out)]; rfl
  have e1 : (w4.alloc (.cells #[.int .u32 (id : Nat), .slice p n2 c] 25)).cell? ⟨w.heap.size + 1, 1, none⟩ = some (.slice (some ⟨w.heap.size, 0, none⟩) 2 2) := by rw [cell_of_row _ _ _ _ _ _ (Kept.row (box_below _ _) HR4.out)]; rfl
  obtain ⟨W6, hW6⟩ : ∃ W, W = W5.alloc (.cells #[.int .u32 1, .int .i64 0, .int .u32 4, .int .i64 9] 50) := ⟨_, rfl⟩
  have hmv : MvsAt [((1, 0), (4, 9))] (.slice (some ⟨w4.heap.size + 1, 0, none⟩) 1 1) W6 := by
    refine ⟨fun p n c e => by simp only [Value.slice.injEq] at e; omega, fun a ha => ?_, ?_⟩
    · simp only [List.mem_singleton] at ha
      subst ha
      exact ⟨⟨by decide, by decide⟩, by decide, by decide⟩
    · rw [flatR_one, hW6, ← hs5]
      exact flat_rec encV W5 50 ((1, 0), (4, 9)) ⟨⟨by decide, by decide⟩, by decide, by decide⟩ _ rfl
  have hk6 : Kept w4 W6 := by rw [hW6]; exact hk5.then (box_below _ _)
  have HW6 : Hid (W6 = (w4.alloc (.cells #[.int .u32 (id : Nat), .slice p n2 c] 25)).alloc (.cells #[.int .u32 1, .int .i64 0, .int .u32 4, .int .i64 9] 50)) := Lib.hid (by rw [hW6, hW5])
  have C3 := CT exM [((1, 0), (4, 9))] _ _ W6 (HM4.out.later hk6) (by decide) hmv (by decide)
  rw [ex_hits, ex_turn] at C3
  have HR6 := Lib.hid (Kept.row hk6 HR4.out)
  have HM6 := Lib.hid (HM4.out.later hk6)
  have HV6 := Lib.hid (HV.out.later hk6)
  have HK6 : Hid (Kept w W6) := Lib.hid ((show Kept w w4 from HK4.out).then hk6)
  have HG6 : Hid (W6.heap[w4.heap.size]? = some (.cells #[.int .u32 (id : Nat), .slice p n2 c] 25 (0, 0))) := Lib.hid (by rw [hW6]; exact Kept.row (box_below _ _) HG5.out)
  clear hW5 hk5 hs5 hW6 hmv hk6 CT HG5
  go_wp2_with (first
    | (with_reducible refine wpList_built rfl _ _ rfl [(0, .agg #[.int .u32 1, .int .i64 0]), (1, .agg #[.int .u32 4, .int .i64 9])] ?hp1 #[.int .u32 1, .int .i64 0, .int .u32 4, .int .i64 9] ex_mvbuilt ?_)
    | (with_reducible refine wpList_buildPs rfl _ _ 1 _ rfl Tryz.underlying80 [(0, .agg #[.int .u32 1, .int .i64 0, .int .u32 4, .int .i64 9])] ?hp3 #[.int .u32 1, .int .i64 0, .int .u32 4, .int .i64 9] ex_mvslice ?_))
  rw [← HW6.out]
  clear e0 e1
  refine C3.mono ?_
  rintro e w7 ⟨⟨u, rfl, hu⟩, hb7⟩
  obtain ⟨_, su, rfl, hsu⟩ := hu
  obtain ⟨pt, ct, rfl, -, hcu⟩ := hsu.out encE
  rcases hcu with h0 | ⟨bt, ot, rfl, hcell⟩
  · exact absurd h0 (by decide)
  have HS9 := Lib.hid (show w7.cell? ⟨bt, ot + 35 + 34, none⟩ = some (.int .i64 9) from hcell 1 (by decide) 34 _ (enL_s (e := ⟨z32, 7, 4, 9⟩) rfl))
  obtain ⟨jd, hjd⟩ : ∃ i, i = exT.id := ⟨_, rfl⟩
  rw [← hjd, show exT.es.length = 2 from rfl]
  have HK7 : Hid (Kept w w7) := Lib.hid ((show Kept w W6 from HK6.out).then hb7)
  have HR7 := Lib.hid (Kept.row hb7 HR6.out)
  have HM7 := Lib.hid (HM6.out.later hb7)
  have HV7 := Lib.hid (HV6.out.later hb7)
  have HG7 := Lib.hid (Kept.row hb7 HG6.out)
  clear hcell hsu hjd C3 hb7
  obtain ⟨W8, hW8⟩ : ∃ W, W = w7.alloc (.cells #[.int .u32 (jd : Nat), .slice (some ⟨bt, ot, none⟩) 2 ct] 25) := ⟨_, rfl⟩
  have hk8 : Kept w7 W8 := by rw [hW8]; exact box_below _ _
  have HT8 : Hid (W8.heap[w7.heap.size]? = some (.cells #[.int .u32 (jd : Nat), .slice (some ⟨bt, ot, none⟩) 2 ct] 25 (0, 0))) := Lib.hid (by rw [hW8]; exact heap_alloc_last w7 _)
  have e0 : (w7.alloc (.cells #[.int .u32 (jd : Nat), .slice (some ⟨bt, ot, none⟩) 2 ct] 25)).cell? ⟨w.heap.size + 1, 0, none⟩ = some (.int .u32 3) := by rw [cell_of_row _ _ _ _ _ _ (Kept.row (box_below _ _) HR7.out)]; rfl
  have e1 : (w7.alloc (.cells #[.int .u32 (jd : Nat), .slice (some ⟨bt, ot, none⟩) 2 ct] 25)).cell? ⟨w.heap.size + 1, 1, none⟩ = some (.slice (some ⟨w.heap.size, 0, none⟩) 2 2) := by rw [cell_of_row _ _ _ _ _ _ (Kept.row (box_below _ _) HR7.out)]; rfl
  have HW8 := Lib.hid hW8
  have C4 := CL exM _ W8 (HM7.out.later hk8) (by decide)
  have HK8 : Hid (Kept w W8) := Lib.hid ((show Kept w w7 from HK7.out).then hk8)
  have HR8 := Lib.hid (Kept.row hk8 HR7.out)
  have HM8 := Lib.hid (HM7.out.later hk8)
  have HV8 := Lib.hid (HV7.out.later hk8)
  have HG8 := Lib.hid (Kept.row hk8 HG7.out)
  have HS8 := Lib.hid (Kept.cell hk8 HS9.out)
  clear hW8 hk8 CL
  go_wp2_with fail
  rw [← HW8.out]
  clear e0 e1
  refine C4.mono ?_
  rintro e w9 ⟨v', rfl, hv', hb9⟩
  rw [ex_places] at hv'
  obtain ⟨pp, cp, rfl, -, hcp⟩ := hv'.out encP
  rcases hcp with h0 | ⟨bp, op, rfl, hcell⟩
  · exact absurd h0 (by decide)
  have HP0 := Lib.hid (show w9.cell? ⟨bp, op + 1, none⟩ = some (.int .i64 0) from hcell 0 (by decide) 1 _ rfl)
  rw [show ([(1, 0), (1, 2)] : List Pl).length = 2 from rfl]
  have HK9 : Hid (Kept w w9) := Lib.hid ((show Kept w W8 from HK8.out).then hb9)
  have HR9 := Lib.hid (Kept.row hb9 HR8.out)
  have HM9 := Lib.hid (HM8.out.later hb9)
  have HV9 := Lib.hid (HV8.out.later hb9)
  have HG9 := Lib.hid (Kept.row hb9 HG8.out)
  have HT9 := Lib.hid (Kept.row hb9 HT8.out)
  have HS10 := Lib.hid (Kept.cell hb9 HS8.out)
  clear hcell hv' C4 hb9
  have C5 := CZ 1 w9 (by decide)
  rw [show sizeV 1 = 54 by decide] at C5
  go_wp2_with fail
  refine C5.mono ?_
  rintro e wa ⟨rfl, hba⟩
  have HKa : Hid (Kept w9 wa) := Lib.hid hba
  have e0 : wa.cell? ⟨w.heap.size + 1, 0, none⟩ = some (.int .u32 3) := by rw [cell_of_row _ _ _ _ _ _ (Kept.row HKa.out HR9.out)]; rfl
  have e1 : wa.cell? ⟨w.heap.size + 1, 1, none⟩ = some (.slice (some ⟨w.heap.size, 0, none⟩) 2 2) := by rw [cell_of_row _ _ _ _ _ _ (Kept.row HKa.out HR9.out)]; rfl
  have C6 := CB exM _ wa (HM9.out.later HKa.out) (by decide)
  rw [ex_sum] at C6
  clear hba C5 CZ CB
  go_wp2_with fail
  refine C6.mono ?_
  rintro e wb ⟨rfl, hbb⟩
  have HKb : Hid (Kept w9 wb) := Lib.hid ((show Kept w9 wa from HKa.out).then hbb)
  clear e0 e1 hbb C6
  have e0 : wb.cell? ⟨w.heap.size + 1, 0, none⟩ = some (.int .u32 3) := by rw [cell_of_row _ _ _ _ _ _ (Kept.row HKb.out HR9.out)]; rfl
  have e1 : wb.cell? ⟨w.heap.size + 1, 1, none⟩ = some (.slice (some ⟨w.heap.size, 0, none⟩) 2 2) := by rw [cell_of_row _ _ _ _ _ _ (Kept.row HKb.out HR9.out)]; rfl
  have d0 : wb.cell? ⟨w4.heap.size, 0, none⟩ = some (.int .u32 (id : Nat)) := by rw [cell_of_row _ _ _ _ _ _ (Kept.row HKb.out HG9.out)]; rfl
  have d1 : wb.cell? ⟨w4.heap.size, 1, none⟩ = some (.slice p n2 c) := by rw [cell_of_row _ _ _ _ _ _ (Kept.row HKb.out HG9.out)]; rfl
  have C7 := CS exM exM _ _ wb (HV9.out.later HKb.out) (HM9.out.later HKb.out) (by decide) (by decide)
  rw [decide_eq_true (rfl : exM = exM)] at C7
  go_wp2_with fail
  refine C7.mono ?_
  rintro e wc ⟨rfl, hbc⟩
  have HKc : Hid (Kept w9 wc) := Lib.hid ((show Kept w9 wb from HKb.out).then hbc)
  clear e0 e1 d0 d1 hbc C7 CS
  have t1 : wc.cell? ⟨w7.heap.size, 1, none⟩ = some (.slice (some ⟨bt, ot, none⟩) 2 ct) := by rw [cell_of_row _ _ _ _ _ _ (Kept.row HKc.out HT9.out)]; rfl
  have s9 := Kept.cell HKc.out HS10.out
  have p0 := Kept.cell HKc.out HP0.out
  have IXE : ∀ W, (Instr.indexAt 23 (.slice (some ⟨bt, ot, none⟩) 2 ct) (.int .i64 1)).run Tryz.prog W = .ok (.pointer (some ⟨bt, ot + 35, none⟩)) W := fun W => idx_en bt ot 2 ct 1 (by decide) W
  have IXP : ∀ W, (Instr.indexAt 28 (.slice (some ⟨bp, op, none⟩) 2 cp) (.int .i64 0)).run Tryz.prog W = .ok (.pointer (some ⟨bp, op, none⟩)) W := fun W => idx_rec (P := Tryz.prog) Tryz.underlying28 (fun w => Tryz.sizeOf35 w) bp op 2 cp 0 (by decide) W
  have C8 := fun W => CC Mf.zero (.agg #[.int .u32 0, .slice none 0 0]) W (ManIs.zero W) (by decide)
  rw [if_neg ex_zero] at C8
  go_wp2_with fail
  refine (C8 _).mono ?_
  rintro e wd ⟨rfl, hbd⟩
  have HKd : Hid (Kept w wd) := Lib.hid (((show Kept w w9 from HK9.out).then HKc.out).then hbd)
  clear hbd C8 CC t1 s9 p0
  go_wp2
  go_ret
  exact ⟨rfl, HKd.out⟩

end Go.Proofs.YteompckehokdoaaGreatDoor
