/- BoxHeads out of the contracts. -/
import Derived.Test.YtdmbebafpamgfaaDoorBxL
namespace Go.Proofs.YtdmbebafpamgfaaDoor
open Go.RowKit

theorem chunksG_len {t : List UInt8} : ((chunksG t).getD []).length ≤ 256 := by
  unfold chunksG
  cases hg : headG t with
  | none => exact Nat.zero_le _
  | some h =>
    simp only
    split
    · have := (headG_ok hg).1.len.2
      simp only [Option.getD_some, List.length_map, List.length_range]
      exact this
    · exact Nat.zero_le _
/-- What can be: head, chunk and its error. -/
theorem heads_cases (t : List UInt8) (k : Int) : (headG t = none ∧ chunkG t k = none ∧ chunkE t k = 110 ∧ chunksG t = none) ∨
    ∃ h, headG t = some h ∧ ((¬ (0 ≤ k ∧ k < h.slots.length) ∧ chunkG t k = none ∧ chunkE t k = 5) ∨ ((0 ≤ k ∧ k < h.slots.length) ∧ ((∃ x, chunkG t k = some x ∧ chunkE t k = 0) ∨ (chunkG t k = none ∧ chunkE t k = 110)))) := by
  cases hg : headG t with
  | none => exact Or.inl ⟨rfl, chunkG_none hg k, by unfold chunkE; rw [hg], chunksG_none hg⟩
  | some h =>
    refine Or.inr ⟨h, rfl, ?_⟩
    have hc := chunkG_of hg k
    have he : chunkE t k = if ¬ (0 ≤ k ∧ k < h.slots.length) then 5 else if rightK t h k.toNat then 0 else 110 := by unfold chunkE; rw [hg]
    by_cases hk : 0 ≤ k ∧ k < h.slots.length
    · refine Or.inr ⟨hk, ?_⟩
      rw [if_neg (fun x => x hk)] at he
      by_cases hr : rightK t h k.toNat
      · exact Or.inl ⟨_, by rw [hc, if_pos ⟨hk, hr⟩], by rw [he, if_pos hr]⟩
      · exact Or.inr ⟨by rw [hc, if_neg (fun y => hr y.2)], by rw [he, if_neg hr]⟩
    · exact Or.inl ⟨hk, by rw [hc, if_neg (fun y => hk y.1)], by rw [he, if_pos hk]⟩

set_option maxRecDepth 100000 in
set_option maxHeartbeats 16000000 in
theorem boxHeads_of (CH : BHeadOk) (CC : BChunkOk) (CK : BChunksOk) (AW : AwakeB) (s : ByteArray) (k : Int) (hk : (Lit.int .i64 k).wf = true) (w : World) (hT : TabAt w) :
    Calls Tryd.prog 4 #[.string s, .int .i64 k] w fun e w' => e = .returned (.bool true) ∧ Kept w w' := by
  obtain ⟨T, hTs, hcut⟩ := cut20 s
  obtain ⟨S, hS⟩ : ∃ S, S = T.data.toList := ⟨_, rfl⟩
  have C1 := CH T w (by omega) hT
  have C2 := fun W => rhead14_any T (by omega) W
  have C3 := fun W (x : Kept w W) => CC T k W (by omega) hk (hT.later x)
  have C4 := fun W => rchunk14_any T (by omega) k W
  have C5 := fun W (x : Kept w W) => CK T W (by omega) (hT.later x)
  have C6 := fun W => rchunks14_any T (by omega) W
  rw [← hS] at C1 C2 C3 C4 C5 C6
  have HT := Lib.hid hT
  have hcases := heads_cases S k
  have HCL : Hid ((((chunksG S).getD []).map str).length ≤ 1000000) := Lib.hid (by rw [List.length_map]; have := @chunksG_len S; omega)
  obtain ⟨ok, hok⟩ : ∃ b, b = (headG S).isSome := ⟨_, rfl⟩
  obtain ⟨is, his⟩ : ∃ b, b = (chunkG S k).isSome := ⟨_, rfl⟩
  obtain ⟨al, hal⟩ : ∃ b, b = (chunksG S).isSome := ⟨_, rfl⟩
  obtain ⟨e1, he1⟩ : ∃ b, b = headE S := ⟨_, rfl⟩
  obtain ⟨f1, hf1⟩ : ∃ b, b = chunkE S k := ⟨_, rfl⟩
  obtain ⟨g1, hg1⟩ : ∃ b, b = chunksE S := ⟨_, rfl⟩
  obtain ⟨st, hst⟩ : ∃ b, b = str ((chunkG S k).getD []) := ⟨_, rfl⟩
  obtain ⟨CL, hCL⟩ : ∃ b, b = ((chunksG S).getD []).map str := ⟨_, rfl⟩
  obtain ⟨h, hh⟩ : ∃ b, b = (headG S).getD Hd.zero := ⟨_, rfl⟩
  have HHD : Hid (h = h) := Lib.hid rfl
  obtain ⟨id, hid⟩ : ∃ b, b = h.id := ⟨_, rfl⟩
  obtain ⟨n, hn⟩ : ∃ b, b = h.slots.length := ⟨_, rfl⟩
  have HIDN : Hid (id = h.id ∧ n = h.slots.length) := Lib.hid ⟨hid, hn⟩
  have hnl : n ≤ 256 := by
    rw [hn, hh]
    cases hg : headG S with
    | none => exact Nat.zero_le _
    | some x => exact (headG_ok hg).1.len.2
  have HNL := Lib.hid hnl
  -- the ways it can be
  have hfin : (ok = false ∧ e1 = 110 ∧ is = false ∧ f1 = 110 ∧ al = false ∧ g1 = 110) ∨
      ((ok = true ∧ e1 = 0) ∧ ((al = true ∧ g1 = 0) ∨ (al = false ∧ g1 = 110)) ∧ ((k < 0 ∧ is = false ∧ f1 = 5) ∨ ((0 ≤ k ∧ (n : Int) ≤ k) ∧ is = false ∧ f1 = 5) ∨ ((0 ≤ k ∧ k < n) ∧ ((is = true ∧ f1 = 0) ∨ (is = false ∧ f1 = 110))))) := by
    have hcs : (al = true ∧ g1 = 0) ∨ (al = false ∧ g1 = 110) := by
      rw [hal, hg1]
      unfold chunksE
      cases (chunksG S).isSome with
      | true => exact Or.inl ⟨rfl, rfl⟩
      | false => exact Or.inr ⟨rfl, rfl⟩
    rcases hcases with ⟨a1, a2, a3, a4⟩ | ⟨x, a1, a2⟩
    · exact Or.inl ⟨by rw [hok, a1]; rfl, by rw [he1]; unfold headE; rw [a1]; rfl, by rw [his, a2]; rfl, by rw [hf1, a3], by rw [hal, a4]; rfl, by rw [hg1]; unfold chunksE; rw [a4]; rfl⟩
    · have hx : h = x := by rw [hh, a1]; rfl
      refine Or.inr ⟨⟨by rw [hok, a1]; rfl, by rw [he1]; unfold headE; rw [a1]; rfl⟩, hcs, ?_⟩
      rw [hn, hx]
      rcases a2 with ⟨b1, b2, b3⟩ | ⟨b1, ⟨y, b2, b3⟩ | ⟨b2, b3⟩⟩
      · by_cases hk0 : k < 0
        · exact Or.inl ⟨hk0, by rw [his, b2]; rfl, by rw [hf1, b3]⟩
        · exact Or.inr (Or.inl ⟨by omega, by rw [his, b2]; rfl, by rw [hf1, b3]⟩)
      · exact Or.inr (Or.inr ⟨b1, Or.inl ⟨by rw [his, b2]; rfl, by rw [hf1, b3]⟩⟩)
      · exact Or.inr (Or.inr ⟨b1, Or.inr ⟨by rw [his, b2]; rfl, by rw [hf1, b3]⟩⟩)
  rw [← he1, ← hh] at C1
  rw [← hok, ← hh] at C2
  rw [← hst, ← hf1] at C3
  rw [← hst, ← his] at C4
  rw [← hg1, ← hCL] at C5
  rw [← hal, ← hCL] at C6
  rw [← hCL] at HCL
  have hbt : (st.toList == st.toList) = true := by simp
  clear hS hcases hok his hal he1 hf1 hg1 hst hCL hh hid hn hnl CH CC CK hT hTs hk
  have main : ∀ (_ : True), Calls Tryd.prog 4 #[.string s, .int .i64 k] w fun e w' => e = .returned (.bool true) ∧ Kept w w' := by
    intro _
    rcases hfin with ⟨rfl, rfl, rfl, rfl, rfl, rfl⟩ | ⟨⟨rfl, rfl⟩, ⟨rfl, rfl⟩ | ⟨rfl, rfl⟩, ⟨hk1, rfl, rfl⟩ | ⟨⟨hk1, hk2⟩, rfl, rfl⟩ | ⟨⟨hk1, hk2⟩, ⟨rfl, rfl⟩ | ⟨rfl, rfl⟩⟩⟩
    all_goals rcases hcut with ⟨b1, hex, hle⟩ | ⟨b1, rfl⟩
    all_goals
      try have hkd1 : decide (k < 0) = true := decide_eq_true hk1
      try have hkd2 : decide (k < 0) = false := decide_eq_false (by omega)
      try have hkd3 : decide (k ≥ (n : Int)) = true := decide_eq_true hk2
      try have hkd4 : decide (k ≥ (n : Int)) = false := decide_eq_false (by omega)
      go_enter Tryd.func4, Tryd.ntmps4
      go_wp2_with fail
      refine C1.mono ?_
      rintro e w2 ⟨⟨v, rfl, hv⟩, hb⟩
      obtain ⟨sv, hsv, hsl⟩ := hv
      subst hsv
      obtain ⟨p3, c3, hp, -, -⟩ := hsl.out
      subst hp
      rw [← HIDN.out.1, ← HIDN.out.2]
      rw [← HIDN.out.2] at hsl
      have hr := heap_alloc_last w2 (.cells #[.int .u32 (id : Nat), .slice p3 n c3] 33)
      obtain ⟨W3, hW⟩ : ∃ W, W = w2.alloc (.cells #[.int .u32 (id : Nat), .slice p3 n c3] 33) := ⟨_, rfl⟩
      have HW3 := Lib.hid hW
      obtain ⟨b3, hbk⟩ : ∃ b, b = w2.heap.size := ⟨_, rfl⟩
      have HB3 := Lib.hid hbk
      rw [← hbk, ← hW] at hr
      have HROW3 := Lib.hid hr
      have hkx : Kept w2 W3 := by rw [hW]; exact box_below _ _
      have HSV3 := Lib.hid (hsl.later hkx)
      have HK3 : Hid (Kept w W3) := Lib.hid ((show Kept w w2 from hb).then hkx)
      clear hb hsl hr hW hbk hkx
      have C22 := C2 W3
      clear C1 C2
      go_wp2_with fail
      try rw [← HB3.out]
      rw [← HW3.out]
      refine C22.mono ?_
      rintro e w4 ⟨⟨v, rfl, hv⟩, hb⟩
      obtain ⟨sv, hsv, hsl⟩ := hv
      subst hsv
      obtain ⟨p5, c5, hp, -, -⟩ := hsl.out
      subst hp
      rw [← HIDN.out.1, ← HIDN.out.2]
      rw [← HIDN.out.2] at hsl
      have hr := heap_alloc_last w4 (.cells #[.int .u32 (id : Nat), .slice p5 n c5] 33)
      obtain ⟨W5, hW⟩ : ∃ W, W = w4.alloc (.cells #[.int .u32 (id : Nat), .slice p5 n c5] 33) := ⟨_, rfl⟩
      have HW5 := Lib.hid hW
      obtain ⟨b5, hbk⟩ : ∃ b, b = w4.heap.size := ⟨_, rfl⟩
      have HB5 := Lib.hid hbk
      rw [← hbk, ← hW] at hr
      have HROW5 := Lib.hid hr
      have hkx : Kept w4 W5 := by rw [hW]; exact box_below _ _
      have HSV5 := Lib.hid (hsl.later hkx)
      have HK5 : Hid (Kept w W5) := Lib.hid (((show Kept w W3 from HK3.out).then hb).then hkx)
      have HKX5 : Hid (Kept W3 W5) := Lib.hid ((show Kept W3 w4 from hb).then hkx)
      clear hb hsl hr hW hbk hkx
      have HROW35 := Lib.hid (Kept.row (HKX5.out) HROW3.out)
      have HSV35 := Lib.hid (HSV3.out.later HKX5.out)
      have C32 := C3 W5 HK5.out
      clear C22 C3
      go_wp2_with fail
      try rw [← HB5.out]
      rw [← HW5.out]
      refine C32.mono ?_
      rintro e w6 ⟨rfl, hb⟩
      have HX6 : Hid (Kept W5 w6) := Lib.hid hb
      clear hb C32
      go_wp2_with fail
      refine (C4 w6).mono ?_
      rintro e w7 ⟨rfl, hb⟩
      have HX7 : Hid (Kept W5 w7) := Lib.hid ((show Kept W5 w6 from HX6.out).then hb)
      have C52 := C5 w7 ((show Kept w W5 from HK5.out).then HX7.out)
      clear hb C4 C5
      go_wp2_with fail
      refine C52.mono ?_
      rintro e w8 ⟨⟨v8, rfl, hv8, -⟩, hb⟩
      have HX8 : Hid (Kept W5 w8) := Lib.hid ((show Kept W5 w7 from HX7.out).then hb)
      have HV8 := Lib.hid hv8
      clear hb C52 hv8
      go_wp2_with fail
      refine (C6 w8).mono ?_
      rintro e w9 ⟨⟨v9, rfl, hv9⟩, hb⟩
      have HX9 : Hid (Kept W5 w9) := Lib.hid ((show Kept W5 w8 from HX8.out).then hb)
      have HV89 := Lib.hid (HV8.out.later hb)
      have HV9 := Lib.hid hv9
      have hr3 := Kept.row HX9.out HROW35.out
      have hr5 := Kept.row HX9.out HROW5.out
      have d0 : w9.cell? ⟨b3, 0, none⟩ = some (.int .u32 (id : Nat)) := by rw [cell_of_row _ _ _ _ _ _ hr3]; rfl
      have d1 : w9.cell? ⟨b3, 1, none⟩ = some (.slice p3 n c3) := by rw [cell_of_row _ _ _ _ _ _ hr3]; rfl
      have d2 : w9.cell? ⟨b5, 0, none⟩ = some (.int .u32 (id : Nat)) := by rw [cell_of_row _ _ _ _ _ _ hr5]; rfl
      have d3 : w9.cell? ⟨b5, 1, none⟩ = some (.slice p5 n c5) := by rw [cell_of_row _ _ _ _ _ _ hr5]; rfl
      have CS := rsame14_any h (by have := HNL.out; have := HIDN.out.2; omega) (.agg #[.int .u32 (id : Nat), .slice p3 n c3]) (.agg #[.int .u32 (id : Nat), .slice p5 n c5]) w9 ⟨_, by rw [HIDN.out.1], HSV35.out.later HX9.out⟩ ⟨_, by rw [HIDN.out.1], HSV5.out.later HX9.out⟩
      clear hb C6 hr3 hr5 hv9 HV8
      go_wp2_with fail
      refine CS.mono ?_
      rintro e w10 ⟨rfl, hb⟩
      have HX10 : Hid (Kept W5 w10) := Lib.hid ((show Kept W5 w9 from HX9.out).then hb)
      have CS1 := rsame01_any CL HCL.out v8 v9 w10 (HV89.out.later hb) (HV9.out.later hb)
      clear hb CS d0 d1 d2 d3 HV89 HV9
      go_wp2_with fail
      refine CS1.mono ?_
      rintro e w11 ⟨rfl, hb⟩
      have HX11 : Hid (Kept W5 w11) := Lib.hid ((show Kept W5 w10 from HX10.out).then hb)
      have A2 := AW w11 (HT.out.later ((show Kept w W5 from HK5.out).then HX11.out))
      clear hb CS1
      go_wp2_with fail
      refine A2.mono ?_
      rintro e w12 ⟨rfl, hb⟩
      have HX12 : Hid (Kept W5 w12) := Lib.hid ((show Kept W5 w11 from HX11.out).then hb)
      have hr5 := Kept.row HX12.out HROW5.out
      have d3 : w12.cell? ⟨b5, 1, none⟩ = some (.slice p5 n c5) := by rw [cell_of_row _ _ _ _ _ _ hr5]; rfl
      have HKF : Hid (Kept w w12) := Lib.hid ((show Kept w W5 from HK5.out).then HX12.out)
      clear hb A2 hr5
      go_wp2
      go_ret
      exact ⟨rfl, HKF.out⟩
  exact main trivial

end Go.Proofs.YtdmbebafpamgfaaDoor
