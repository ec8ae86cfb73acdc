/- BoxNobody, BoxOnce out of the contracts. -/
import Derived.Test.YtdmbebafpamgfaaDoorBxA
namespace Go.Proofs.YtdmbebafpamgfaaDoor
open Go.RowKit

set_option maxRecDepth 100000 in
set_option maxHeartbeats 4000000 in
theorem boxNobody_of (N : BdNil) (AW : AwakeB) (c : ByteArray) (hc : c.size ≤ maxLen) (k : Int) (hk : (Lit.int .i64 k).wf = true) (w : World) (hT : TabAt w) :
    Calls Tryd.prog 8 #[.string c, .int .i64 k] w fun e w' => e = .returned (.bool true) ∧ Kept w w' := by
  have C1 := fun W => N.add c W hc
  have C2 := fun W => N.chunk k W hk
  have C3 := N.shut
  have C4 := N.len
  have HT := Lib.hid hT
  clear hc hk N hT
  go_enter Tryd.func8, Tryd.ntmps8
  go_wp2_with fail
  refine (C1 _).mono ?_
  rintro e w1 ⟨rfl, hb1⟩
  have K1 : Hid (Kept w w1) := Lib.hid hb1
  clear hb1 C1
  go_wp2_with fail
  refine (C2 _).mono ?_
  rintro e w2 ⟨rfl, hb2⟩
  have K2 := Lib.hid ((show Kept w w1 from K1.out).then hb2)
  clear hb2 C2
  go_wp2_with fail
  refine (C3 _).mono ?_
  rintro e w3 ⟨rfl, hb3⟩
  have K3 := Lib.hid ((show Kept w w2 from K2.out).then hb3)
  clear hb3 C3
  go_wp2_with fail
  refine (C4 _).mono ?_
  rintro e w4 ⟨rfl, hb4⟩
  have K4 := Lib.hid ((show Kept w w3 from K3.out).then hb4)
  have A4 := AW w4 (HT.out.later K4.out)
  clear hb4 C4 AW
  go_wp2_with fail
  refine A4.mono ?_
  rintro e w5 ⟨rfl, hb5⟩
  have K5 := Lib.hid ((show Kept w w4 from K4.out).then hb5)
  clear hb5 A4
  go_wp2
  go_ret
  exact ⟨rfl, K5.out⟩

/-- The first 20,000 bytes. -/
theorem cut20 (s : ByteArray) : ∃ T : ByteArray, T.size ≤ 20000 ∧ ((decide ((s.size : Int) > 20000) = true ∧ s.extract 0 20000 = T ∧ (20000 : Int) ≤ s.size) ∨ (decide ((s.size : Int) > 20000) = false ∧ s = T)) := by
  by_cases h : 20000 < s.size
  · exact ⟨s.extract 0 20000, by rw [ByteArray.size_extract]; omega, Or.inl ⟨by simp; omega, rfl, by omega⟩⟩
  · exact ⟨s, by omega, Or.inr ⟨by simp; omega, rfl⟩⟩

set_option maxRecDepth 100000 in
set_option maxHeartbeats 8000000 in
theorem boxOnce_of (CB : BBuildOk) (CH : BHeadOk) (CK : BChunksOk) (AW : AwakeB) (s : ByteArray) (w : World) (hT : TabAt w) :
    Calls Tryd.prog 5 #[.string s] w fun e w' => e = .returned (.bool true) ∧ Kept w w' := by
  obtain ⟨T, hTs, hcut⟩ := cut20 s
  obtain ⟨S, hS⟩ : ∃ S, S = T.data.toList := ⟨_, rfl⟩
  have hTS : T = str S := by rw [hS, str_data]
  have C1 := CH T w (by omega) hT
  have C2 := fun W (k : Kept w W) => CK T W (by omega) (hT.later k)
  rw [← hS] at C1 C2
  have HT := Lib.hid hT
  have HTS := Lib.hid hTS
  unfold headE at C1
  unfold chunksE at C2
  clear hS hTS CH CK hT hTs
  obtain ⟨G, hG⟩ : ∃ G, G = headG S := ⟨_, rfl⟩
  have HG := Lib.hid hG
  obtain ⟨C, hC⟩ : ∃ C, C = chunksG S := ⟨_, rfl⟩
  have HC := Lib.hid hC
  rw [← hG] at C1
  rw [← hC] at C2
  clear hG hC
  cases G with
  | none =>
    have HN : C = none := by rw [HC.out]; exact chunksG_none HG.out.symm
    subst HN
    clear CB
    simp only [Option.isSome_none, Bool.false_eq_true, if_false] at C1 C2
    rcases hcut with ⟨b1, hex, hle⟩ | ⟨b1, rfl⟩
    all_goals
      go_enter Tryd.func5, Tryd.ntmps5
      go_wp2_with fail
      refine C1.mono ?_
      rintro e w2 ⟨⟨v, rfl, hv⟩, hb2⟩
      obtain ⟨sv, hsv, hsl⟩ := hv
      subst hsv
      obtain ⟨p, c, hp, -, -⟩ := hsl.out
      subst hp
      obtain ⟨id, hid⟩ : ∃ id, id = ((none : Option Hd).getD Hd.zero).id := ⟨_, rfl⟩
      obtain ⟨n, hn⟩ : ∃ n, n = ((none : Option Hd).getD Hd.zero).slots.length := ⟨_, rfl⟩
      rw [← hid, ← hn]
      have HID := Lib.hid hid
      have hr2 := heap_alloc_last w2 (.cells #[.int .u32 (id : Nat), .slice p n c] 33)
      obtain ⟨W3, hW3⟩ : ∃ W3, W3 = w2.alloc (.cells #[.int .u32 (id : Nat), .slice p n c] 33) := ⟨_, rfl⟩
      have HW3 := Lib.hid hW3
      obtain ⟨b6, hb6⟩ : ∃ b, b = w2.heap.size := ⟨_, rfl⟩
      have HB6 := Lib.hid hb6
      rw [← hb6, ← hW3] at hr2
      have HROW := Lib.hid hr2
      have HK3 : Hid (Kept w W3) := Lib.hid (by rw [hW3]; exact (show Kept w w2 from hb2).then (box_below _ _))
      have C22 := C2 W3 HK3.out
      clear hb2 hsl hr2 hW3 hid hn hb6 C1 C2
      go_wp2_with fail
      try rw [← HB6.out]
      rw [← HW3.out]
      refine C22.mono ?_
      rintro e w4 ⟨⟨v4, rfl, -⟩, hb4⟩
      have HK4 := Lib.hid ((show Kept w W3 from HK3.out).then hb4)
      have A4 := AW w4 (HT.out.later HK4.out)
      clear hb4 C22
      go_wp2_with fail
      refine A4.mono ?_
      rintro e w5 ⟨rfl, hb5⟩
      have HK5 := Lib.hid ((show Kept w w4 from HK4.out).then hb5)
      clear hb5 A4
      go_wp2
      go_ret
      exact ⟨rfl, HK5.out⟩
  | some h =>
    cases C with
    | none =>
      clear CB
      simp only [Option.isSome_none, Option.isSome_some, Bool.false_eq_true, if_false, if_true] at C1 C2
      rcases hcut with ⟨b1, hex, hle⟩ | ⟨b1, rfl⟩
      all_goals
        go_enter Tryd.func5, Tryd.ntmps5
        go_wp2_with fail
        refine C1.mono ?_
        rintro e w2 ⟨⟨v, rfl, hv⟩, hb2⟩
        obtain ⟨sv, hsv, hsl⟩ := hv
        subst hsv
        obtain ⟨p, c, hp, -, -⟩ := hsl.out
        subst hp
        obtain ⟨id, hid⟩ : ∃ id, id = ((some h : Option Hd).getD Hd.zero).id := ⟨_, rfl⟩
        obtain ⟨n, hn⟩ : ∃ n, n = ((some h : Option Hd).getD Hd.zero).slots.length := ⟨_, rfl⟩
        rw [← hid, ← hn]
        have HID := Lib.hid hid
        have hr2 := heap_alloc_last w2 (.cells #[.int .u32 (id : Nat), .slice p n c] 33)
        obtain ⟨W3, hW3⟩ : ∃ W3, W3 = w2.alloc (.cells #[.int .u32 (id : Nat), .slice p n c] 33) := ⟨_, rfl⟩
        have HW3 := Lib.hid hW3
        obtain ⟨b6, hb6⟩ : ∃ b, b = w2.heap.size := ⟨_, rfl⟩
        have HB6 := Lib.hid hb6
        rw [← hb6, ← hW3] at hr2
        have HROW := Lib.hid hr2
        have HK3 : Hid (Kept w W3) := Lib.hid (by rw [hW3]; exact (show Kept w w2 from hb2).then (box_below _ _))
        have C22 := C2 W3 HK3.out
        clear hb2 hsl hr2 hW3 hid hn hb6 C1 C2
        go_wp2_with fail
        try rw [← HB6.out]
        rw [← HW3.out]
        refine C22.mono ?_
        rintro e w4 ⟨⟨v4, rfl, -⟩, hb4⟩
        have HK4 := Lib.hid ((show Kept w W3 from HK3.out).then hb4)
        have A4 := AW w4 (HT.out.later HK4.out)
        clear hb4 C22
        go_wp2_with fail
        refine A4.mono ?_
        rintro e w5 ⟨rfl, hb5⟩
        have HK5 := Lib.hid ((show Kept w w4 from HK4.out).then hb5)
        clear hb5 A4
        go_wp2
        go_ret
        exact ⟨rfl, HK5.out⟩
    | some P =>
      obtain ⟨hm, hbx⟩ := box_once HG.out.symm HC.out.symm
      have hll : (P.map str).length ≤ 256 := by
        have h1 := hm.2.1.2
        have h2 : (lensC (P.map str)).length = (P.map str).length := by unfold lensC; rw [List.length_map]
        omega
      have hsz : ∀ s ∈ P.map str, s.size ≤ 4096 := fun s hs => (hm.2.2.1 s.size (List.mem_map.2 ⟨s, hs, rfl⟩)).2
      have hid := hm.1.2
      have C3 := fun (v : Value) W (k : Kept w W) (H : StrAtC (P.map str) v W) => CB h.id (P.map str) v W (by omega) H (by omega) (fun s hs => by have := hsz s hs; omega) (HT.out.later k)
      unfold buildV at C3
      rw [if_pos hm, hbx, ← HTS.out, if_pos hm] at C3
      have b4 : (T.toList == T.toList) = true := by simp
      simp only [Option.isSome_some, if_true] at C1 C2
      clear CB hm hbx hll hsz hid
      rcases hcut with ⟨b1, hex, hle⟩ | ⟨b1, rfl⟩
      all_goals
        go_enter Tryd.func5, Tryd.ntmps5
        go_wp2_with fail
        refine C1.mono ?_
        rintro e w2 ⟨⟨v, rfl, hv⟩, hb2⟩
        obtain ⟨sv, hsv, hsl⟩ := hv
        subst hsv
        obtain ⟨p, c, hp, -, -⟩ := hsl.out
        subst hp
        obtain ⟨id, hid⟩ : ∃ id, id = ((some h : Option Hd).getD Hd.zero).id := ⟨_, rfl⟩
        obtain ⟨n, hn⟩ : ∃ n, n = ((some h : Option Hd).getD Hd.zero).slots.length := ⟨_, rfl⟩
        rw [← hid, ← hn]
        have HID := Lib.hid hid
        have hr2 := heap_alloc_last w2 (.cells #[.int .u32 (id : Nat), .slice p n c] 33)
        obtain ⟨W3, hW3⟩ : ∃ W3, W3 = w2.alloc (.cells #[.int .u32 (id : Nat), .slice p n c] 33) := ⟨_, rfl⟩
        have HW3 := Lib.hid hW3
        obtain ⟨b6, hb6⟩ : ∃ b, b = w2.heap.size := ⟨_, rfl⟩
        have HB6 := Lib.hid hb6
        rw [← hb6, ← hW3] at hr2
        have HROW := Lib.hid hr2
        have HK3 : Hid (Kept w W3) := Lib.hid (by rw [hW3]; exact (show Kept w w2 from hb2).then (box_below _ _))
        have C22 := C2 W3 HK3.out
        clear hb2 hsl hr2 hW3 hid hn hb6 C1 C2
        go_wp2_with fail
        try rw [← HB6.out]
        rw [← HW3.out]
        refine C22.mono ?_
        rintro e w4 ⟨⟨v4, rfl, hv4⟩, hb4⟩
        have HK4 := Lib.hid ((show Kept w W3 from HK3.out).then hb4)
        have e0 : w4.cell? ⟨b6, 0, none⟩ = some (.int .u32 (id : Nat)) := by rw [cell_of_row _ _ _ _ _ _ (Kept.row hb4 HROW.out)]; rfl
        have C32 := C3 v4 w4 HK4.out hv4
        rw [show h.id = id from HID.out.symm] at C32
        clear hb4 C22 C3 hv4
        go_wp2_with fail
        refine C32.mono ?_
        rintro e w5 ⟨rfl, hb5⟩
        have HK5 := Lib.hid ((show Kept w w4 from HK4.out).then hb5)
        have A5 := AW w5 (HT.out.later HK5.out)
        clear hb5 C32 e0
        go_wp2_with fail
        refine A5.mono ?_
        rintro e w6 ⟨rfl, hb6⟩
        have HK6 := Lib.hid ((show Kept w w5 from HK5.out).then hb6)
        clear hb6 A5
        go_wp2
        go_ret
        exact ⟨rfl, HK6.out⟩

end Go.Proofs.YtdmbebafpamgfaaDoor
