/- ManifestGets out of the contracts. -/
import Derived.Test.YteompckehokdoaaDoorMnW
namespace Go.Proofs.YteompckehokdoaaDoor
open Go.RowKit

theorem ManIs.cut {m : Mf} {v : Value} {w : World} (H : ManIs m v w) : ∃ p c, v = .agg #[.int .u32 (m.id : Nat), .slice p m.es.length c] := by
  obtain ⟨_, sv, rfl, h⟩ := H
  obtain ⟨p, c, rfl, -, -⟩ := h.out encE
  exact ⟨p, c, rfl⟩
theorem getM_few (t : List UInt8) : ((getM t).getD Mf.zero).es.length ≤ 256 := by
  cases h : getM t with
  | none => exact Nat.zero_le _
  | some m => exact (getM_ok h).1.2.1.2

set_option maxRecDepth 100000 in
set_option maxHeartbeats 8000000 in
theorem manifestGets_of (CG : MGetOk) (AW : AwakeM) (s : ByteArray) (w : World) (hT : TabAt w) :
    Calls Tryd.prog 4 #[.string s] w fun e w' => e = .returned (.bool true) ∧ Kept w w' := by
  by_cases h2 : 2000 < s.size
  · have b1 : decide ((2000 : Int) < (s.size : Int)) = true := decide_eq_true (by omega)
    have bi : (2000 : Int) < s.size := by omega
    have A := AW w hT
    clear h2 CG AW
    go_enter Tryd.func4, Tryd.ntmps4
    go_wp2_with fail
    refine A.mono ?_
    rintro e w2 ⟨rfl, hb⟩
    go_wp2
    go_ret
    exact ⟨rfl, hb⟩
  · have b1 : decide ((2000 : Int) < (s.size : Int)) = false := decide_eq_false (by omega)
    have bi : ¬ (2000 : Int) < s.size := by omega
    have C1 := CG s w (by omega) hT
    have C2 := fun W => rget15_any s (by omega) W
    obtain ⟨S, hS⟩ : ∃ S, S = s.data.toList := ⟨_, rfl⟩
    rw [← hS] at C1 C2
    obtain ⟨M, hM⟩ : ∃ M, M = (getM S).getD Mf.zero := ⟨_, rfl⟩
    obtain ⟨ok, hok⟩ : ∃ b, b = (getM S).isSome := ⟨_, rfl⟩
    obtain ⟨e1, he1⟩ : ∃ b, b = getV S := ⟨_, rfl⟩
    have hfin : (ok = true ∧ e1 = 0) ∨ (ok = false ∧ e1 = 110) := by
      rw [hok, he1]
      unfold getV
      cases (getM S).isSome with
      | true => exact Or.inl ⟨rfl, rfl⟩
      | false => exact Or.inr ⟨rfl, rfl⟩
    have hMl : M.es.length ≤ 256 := by rw [hM]; exact getM_few S
    rw [← hM, ← he1] at C1
    rw [← hM, ← hok] at C2
    obtain ⟨id, hid⟩ : ∃ b, b = M.id := ⟨_, rfl⟩
    obtain ⟨n, hn⟩ : ∃ b, b = M.es.length := ⟨_, rfl⟩
    have HIDN : Hid (id = M.id ∧ n = M.es.length) := Lib.hid ⟨hid, hn⟩
    have HML := Lib.hid hMl
    have HT := Lib.hid hT
    clear hS hM hok he1 hMl hid hn h2 CG hT
    rcases hfin with ⟨rfl, rfl⟩ | ⟨rfl, rfl⟩
    all_goals
      go_enter Tryd.func4, Tryd.ntmps4
      go_wp2_with fail
      refine C1.mono ?_
      rintro e w2 ⟨⟨v, rfl, hv⟩, hb⟩
      obtain ⟨p2, c2, hp⟩ := hv.cut
      subst hp
      rw [← HIDN.out.1, ← HIDN.out.2]
      rw [← HIDN.out.1, ← HIDN.out.2] at hv
      have hr := heap_alloc_last w2 (.cells #[.int .u32 (id : Nat), .slice p2 n c2] 25)
      obtain ⟨V2, hW⟩ : ∃ W, W = w2.alloc (.cells #[.int .u32 (id : Nat), .slice p2 n c2] 25) := ⟨_, rfl⟩
      have HV2 := Lib.hid hW
      obtain ⟨b2, hbk⟩ : ∃ b, b = w2.heap.size := ⟨_, rfl⟩
      have HB2 := Lib.hid hbk
      rw [← hbk, ← hW] at hr
      have HR2 := Lib.hid hr
      have hkx : Kept w2 V2 := by rw [hW]; exact box_below _ _
      have HS2 := Lib.hid (hv.later hkx)
      have HX2 : Hid (Kept w V2) := Lib.hid ((show Kept w w2 from hb).then hkx)
      clear hb hv hr hW hbk hkx
      have C22 := C2 V2
      clear C1 C2
      go_wp2_with fail
      try rw [← HB2.out]
      rw [← HV2.out]
      refine C22.mono ?_
      rintro e w4 ⟨⟨v, rfl, hv⟩, hb⟩
      obtain ⟨p4, c4, hp⟩ := hv.cut
      subst hp
      rw [← HIDN.out.1, ← HIDN.out.2]
      rw [← HIDN.out.1, ← HIDN.out.2] at hv
      have hr := heap_alloc_last w4 (.cells #[.int .u32 (id : Nat), .slice p4 n c4] 25)
      obtain ⟨V4, hW⟩ : ∃ W, W = w4.alloc (.cells #[.int .u32 (id : Nat), .slice p4 n c4] 25) := ⟨_, rfl⟩
      have HV4 := Lib.hid hW
      obtain ⟨b4, hbk⟩ : ∃ b, b = w4.heap.size := ⟨_, rfl⟩
      have HB4 := Lib.hid hbk
      rw [← hbk, ← hW] at hr
      have HR4 := Lib.hid hr
      have hkx : Kept w4 V4 := by rw [hW]; exact box_below _ _
      have HS4 := Lib.hid (hv.later hkx)
      have HX4 : Hid (Kept V2 V4) := Lib.hid ((show Kept V2 w4 from hb).then hkx)
      clear hb hv hr hW hbk hkx
      have hr2 := Kept.row HX4.out HR2.out
      have d0 : V4.cell? ⟨b2, 0, none⟩ = some (.int .u32 (id : Nat)) := by rw [cell_of_row _ _ _ _ _ _ hr2]; rfl
      have d1 : V4.cell? ⟨b2, 1, none⟩ = some (.slice p2 n c2) := by rw [cell_of_row _ _ _ _ _ _ hr2]; rfl
      have d2 : V4.cell? ⟨b4, 0, none⟩ = some (.int .u32 (id : Nat)) := by rw [cell_of_row _ _ _ _ _ _ HR4.out]; rfl
      have d3 : V4.cell? ⟨b4, 1, none⟩ = some (.slice p4 n c4) := by rw [cell_of_row _ _ _ _ _ _ HR4.out]; rfl
      rw [HV4.out, HB4.out] at d2 d3
      rw [HV4.out] at d0 d1
      have CS := rsame15_any M M _ _ V4 (HS2.out.later HX4.out) HS4.out (by have := HML.out; omega) (by have := HML.out; omega)
      rw [decide_eq_true (rfl : M = M)] at CS
      clear C22 hr2
      go_wp2_with fail
      try rw [← HB4.out]
      rw [← HV4.out]
      refine CS.mono ?_
      rintro e w6 ⟨rfl, hb⟩
      have HK6 : Hid (Kept w w6) := Lib.hid (((show Kept w V2 from HX2.out).then HX4.out).then hb)
      have A := AW w6 (HT.out.later HK6.out)
      clear hb CS d0 d1 d2 d3
      go_wp2_with fail
      refine A.mono ?_
      rintro e w7 ⟨rfl, hb⟩
      have HK7 : Hid (Kept w w7) := Lib.hid ((show Kept w w6 from HK6.out).then hb)
      clear hb A
      go_wp2
      go_ret
      exact ⟨rfl, HK7.out⟩


end Go.Proofs.YteompckehokdoaaDoor
