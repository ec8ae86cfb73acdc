/- The landed boxes' slotOf, headBytes. -/
import Derived.Test.YtdmbebafpamgfaaDoorBxCb
import Derived.Test.YtdmbebafpamgfaaDoorBld
import Derived.Test.YtdmbebafpamgfaaDoorShelf
import Derived.Test.YtdmbebafpamgfaaDoorSeal
namespace Go.Proofs.YtdmbebafpamgfaaDoor
open Go.RowKit

theorem infoSlB : (Tryd.prog.info? 68).map (·.size) = some (#[Value.int .i64 0, Value.int .u32 0] : Array Value).size := by kernel_rfl

theorem slotOf_any (s : ByteArray) (hs : s.size ≤ 100000) (w : World) (hT : TabAt w) :
    Calls Tryd.prog 33 #[.string s] w fun e w' => e = .returned (.agg #[.int .i64 (s.size : Nat), .int .u32 (moreN 0 s.data.toList : Nat)]) ∧ Kept w w' := by
  have CS := sum_any s (by unfold maxLen; omega)
  obtain ⟨m, hm⟩ : ∃ m, m = moreN 0 s.data.toList := ⟨_, rfl⟩
  rw [← hm] at CS ⊢
  obtain ⟨W1, hW1⟩ : ∃ W1, W1 = w.alloc (.cells #[.int .i64 0, .int .u32 0] 68) := ⟨_, rfl⟩
  have hrow := heap_alloc_last w (.cells #[.int .i64 0, .int .u32 0] 68)
  have hk : Kept w (w.alloc (.cells #[.int .i64 0, .int .u32 0] 68)) := box_below _ _
  have HROW := Lib.hid hrow
  have HK := Lib.hid hk
  have C1 := CS _ (hT.later hk)
  have g0 : (w.alloc (.cells #[.int .i64 0, .int .u32 0] 68)).cell? ⟨w.heap.size, 0, none⟩ = some (.int .i64 0) := by rw [cell_of_row _ _ _ _ _ _ hrow]; rfl
  have g1 : (w.alloc (.cells #[.int .i64 0, .int .u32 0] 68)).cell? ⟨w.heap.size, 1, none⟩ = some (.int .u32 0) := by rw [cell_of_row _ _ _ _ _ _ hrow]; rfl
  have f0 := frozen_of_row _ w.heap.size 0 _ _ hrow
  have f1 := frozen_of_row _ w.heap.size 1 _ _ hrow
  clear hm hW1 hrow hk CS
  go_enter Tryd.func33, Tryd.ntmps33
  go_wp2_with fail
  refine C1.mono ?_
  rintro e w2 ⟨rfl, rfl⟩
  clear C1
  go_wp2
  refine bodyPost_ret (results_cell_row Tryd.results33 _ _ w.heap.size 68 #[.int .i64 (s.size : Nat), .int .u32 (m : Nat)] (0, 0) _ rfl (heap_alloc_last w _) Tryd.underlying68 rfl infoSlB) rfl ⟨rfl, box_below _ _⟩

set_option maxRecDepth 100000 in
set_option maxHeartbeats 16000000 in
theorem headBytes_any (h : Hd) (v : Value) (w : World) (H : HeadIs h v w) (hwf : wfH h) (hln : h.slots.length ≤ 1000) (hT : TabAt w) :
    Calls Tryd.prog 34 #[v] w fun e w' => e = .returned (.string (str (frontH h))) ∧ Kept w w' := by
  obtain ⟨sv, rfl, hsl⟩ := H
  obtain ⟨p, c, rfl, hcap, hc⟩ := hsl.out
  have HC := Lib.hid hc
  have HT := Lib.hid hT
  obtain ⟨n, hn⟩ : ∃ n, n = h.slots.length := ⟨_, rfl⟩
  have HN := Lib.hid hn
  obtain ⟨id, hidd⟩ : ∃ id, id = h.id := ⟨_, rfl⟩
  have HW : Hid (∀ s ∈ h.slots, s.1 < 256 ^ 2 ∧ s.2 < 256 ^ 4) := Lib.hid hwf.2
  have hidl := hwf.1
  have HTK : Hid (∀ k (hk : k < h.slots.length), h.slots.take (k + 1) = h.slots.take k ++ [h.slots[k]]) := Lib.hid (fun k hk => List.take_succ_eq_append_getElem hk)
  have HFR : Hid (frontH h = frontP h ++ leB 4 (moreN 0 (frontP h))) := Lib.hid rfl
  have HFP : Hid (frontP h = (((magicX ++ leB 4 id) ++ leB 2 n)) ++ h.slots.flatMap slotB) := Lib.hid (by unfold frontP; rw [hidd, hn]; simp only [List.append_assoc])
  obtain ⟨res, hres⟩ : ∃ r, r = str (frontH h) := ⟨_, rfl⟩
  have HRES := Lib.hid hres
  rw [← hidd] at hidl
  rw [← hn] at hln hcap
  rw [← hres, ← hn, ← hidd]
  obtain ⟨S1, h1⟩ : ∃ S, S = str (leB 4 id) := ⟨_, rfl⟩
  have C1 := fun W => pu32 id (by omega) S1 h1 W
  have L1 : Hid (S1.data.toList = leB 4 id) := Lib.hid (by rw [h1, str_list])
  obtain ⟨S2, h2⟩ : ∃ S, S = str (leB 2 n) := ⟨_, rfl⟩
  have C2 := fun W => pu16 n (by omega) S2 h2 W
  have L2 : Hid (S2.data.toList = leB 2 n) := Lib.hid (by rw [h2, str_list])
  have z1 : Hid (S1.size = 4) := Lib.hid (by rw [h1, str_size, leB_len])
  have z2 : Hid (S2.size = 2) := Lib.hid (by rw [h2, str_size, leB_len])
  have u2 : IntKind.u16.wrap (n : Int) = (n : Int) := wrap_u16 (by omega)
  obtain ⟨W0, hW0⟩ : ∃ W0, W0 = w.alloc (.cells #[.int .u32 (id : Nat), .slice p n c] 33) := ⟨_, rfl⟩
  have HW0 := Lib.hid hW0
  have hrow := heap_alloc_last w (.cells #[.int .u32 (id : Nat), .slice p n c] 33)
  rw [← hW0] at hrow
  have HROW := Lib.hid hrow
  have HK0 : Hid (Kept w W0) := Lib.hid (by rw [hW0]; exact box_below _ _)
  obtain ⟨WB, hWB⟩ : ∃ WB, WB = W0.alloc (.cells #[.pointer none, .slice none 0 0] 100) := ⟨_, rfl⟩
  have HWB := Lib.hid hWB
  obtain ⟨bb, hbb⟩ : ∃ bb, bb = W0.heap.size := ⟨_, rfl⟩
  have HBB := Lib.hid hbb
  have HBL : Hid (bb ≤ W0.heap.size) := Lib.hid (by rw [hbb]; exact Nat.le_refl _)
  have HBE : Hid (bb = w.heap.size + 1) := Lib.hid (by rw [hbb, hW0]; simp)
  have HBD : Hid (BldAt bb bb [] WB) := Lib.hid (by rw [hWB, hbb]; exact Lib.fresh_isBuilder _ _ W0)
  have HKB : Hid (Below bb W0 WB) := Lib.hid (by rw [hWB, hbb]; exact box_below _ _)
  obtain ⟨M, hM⟩ : ∃ M : ByteArray, M = ⟨#[83, 66, 79, 88]⟩ := ⟨_, rfl⟩
  have zM : M.size = 4 := by rw [hM]; rfl
  have LM : Hid (M.data.toList = magicX) := Lib.hid (by rw [hM]; rfl)
  have CW0 := bwriteL_any bb bb [] M WB (by simp; omega) (Nat.le_trans HBL.out HKB.out.size) HBD.out
  rw [hM] at CW0
  have HLN := Lib.hid hln
  have HM := Lib.hid hM
  clear hc hsl hn hidd hres hW0 hrow hWB hbb hwf hT hln hcap h1 h2 hidl zM hM HBD
  go_enter Tryd.func34, Tryd.ntmps34
  go_wp2_with fail
  try rw [← HW0.out]
  try rw [← HWB.out]
  try rw [← HBE.out]
  try rw [← HBB.out]
  refine CW0.mono ?_
  rintro e w2 ⟨rfl, hbd, hb2, -⟩
  have HBD2 : Hid (BldAt bb bb magicX w2) := Lib.hid hbd
  have HK2 : Hid (Below bb W0 w2) := Lib.hid (Below.trans HKB.out hb2)
  have r2 := (show Kept W0 w2 from by have := HK2.out; rw [HBB.out] at this; exact this).row HROW.out
  have e0 : w2.cell? ⟨w.heap.size, 0, none⟩ = some (.int .u32 (id : Nat)) := by rw [cell_of_row _ _ _ _ _ _ r2]; rfl
  clear hbd hb2 CW0 r2 HKB HM LM
  go_wp2_with fail
  refine (C1 w2).mono ?_
  rintro e w3 ⟨rfl, hb3⟩
  have CW1 := bwriteL_any bb bb magicX S1 w3 (by have := z1.out; simp [magicX]; omega) (Nat.le_trans (Nat.le_trans HBL.out HK2.out.size) hb3.size) (HBD2.out.later hb3)
  rw [L1.out] at CW1
  have HK3 : Hid (Below bb W0 w3) := Lib.hid (Below.then' HK2.out hb3 (Nat.le_trans HBL.out HK2.out.size))
  clear hb3 C1 e0 HBD2 HK2
  go_wp2_with fail
  refine CW1.mono ?_
  rintro e w4 ⟨rfl, hbd, hb4, -⟩
  have HBD4 : Hid (BldAt bb bb (magicX ++ leB 4 id) w4) := Lib.hid hbd
  have HK4 : Hid (Below bb W0 w4) := Lib.hid (Below.trans HK3.out hb4)
  have r4 := (show Kept W0 w4 from by have := HK4.out; rw [HBB.out] at this; exact this).row HROW.out
  have e1 : w4.cell? ⟨w.heap.size, 1, none⟩ = some (.slice p n c) := by rw [cell_of_row _ _ _ _ _ _ r4]; rfl
  clear hbd hb4 CW1 r4 HK3
  go_wp2_with fail
  refine (C2 w4).mono ?_
  rintro e w5 ⟨rfl, hb5⟩
  have CW2 := bwriteL_any bb bb _ S2 w5 (by have := z2.out; simp [magicX, leB_len]; omega) (Nat.le_trans (Nat.le_trans HBL.out HK4.out.size) hb5.size) (HBD4.out.later hb5)
  rw [L2.out] at CW2
  have HK5 : Hid (Below bb W0 w5) := Lib.hid (Below.then' HK4.out hb5 (Nat.le_trans HBL.out HK4.out.size))
  clear hb5 C2 e1 HBD4 HK4
  go_wp2_with fail
  refine CW2.mono ?_
  rintro e w6 ⟨rfl, hbd, hb6, -⟩
  obtain ⟨PRE, hPRE⟩ : ∃ P, P = (magicX ++ leB 4 id) ++ leB 2 n := ⟨_, rfl⟩
  have HPL : Hid (PRE.length = 10) := Lib.hid (by rw [hPRE]; simp [magicX, leB_len])
  rw [← hPRE] at hbd HFP
  have HBD6 : Hid (BldAt bb bb (PRE ++ (h.slots.take 0).flatMap slotB) w6) := Lib.hid (by simpa using hbd)
  have hk6 := Below.trans HK5.out hb6
  have HK6 : Hid (Below bb W0 w6) := Lib.hid hk6
  have r6 := (show Kept W0 w6 from by rw [HBB.out] at hk6; exact hk6).row HROW.out
  have e1 : w6.cell? ⟨w.heap.size, 1, none⟩ = some (.slice p n c) := by rw [cell_of_row _ _ _ _ _ _ r6]; rfl
  clear hbd hb6 CW2 r6 hk6 HK5 hPRE u2
  go_wp2
  clear e1
  go_loopg [20] n (fun gh y wr => ∃ (k : Nat), k + gh = n ∧ y = .int .i64 k ∧ Hid (BldAt bb bb (PRE ++ (h.slots.take k).flatMap slotB) wr) ∧ Hid (Below bb W0 wr))
  case atStart => exact ⟨0, by omega, rfl, HBD6, HK6⟩
  case round =>
    clear HBD6 HK6
    obtain ⟨k, hk, rfl, HBD, HK⟩ := hrel
    by_cases hlt : k < n
    · have hki : (k : Int) < n := by omega
      have bk : decide ((k : Int) < (n : Int)) = true := by simpa using hki
      have hki0 : (0 : Int) ≤ k := by omega
      rcases HC.out with h0 | ⟨b, off, rfl, hcell⟩
      · have := HN.out; omega
      have hkl : k < h.slots.length := by have := HN.out; omega
      have hkw : Kept W0 wr := by have := HK.out; rw [HBB.out] at this; exact this
      have e1 := Kept.cell hkw (Kept.cell HK0.out (hcell k hkl).1)
      have e2 := Kept.cell hkw (Kept.cell HK0.out (hcell k hkl).2)
      have htk := HTK.out k hkl
      have hsm := HW.out (h.slots[k]) (List.getElem_mem hkl)
      obtain ⟨S, hS⟩ : ∃ S, S = h.slots[k] := ⟨_, rfl⟩
      rw [← hS] at e1 e2 htk hsm
      obtain ⟨x, q⟩ := S
      simp only at e1 e2 hsm
      obtain ⟨k1, hk1⟩ : ∃ k1, k1 = k + 1 := ⟨_, rfl⟩
      have hln := HLN.out
      have v1 : IntKind.i64.wrap ((k : Int) + 1) = (k1 : Int) := by rw [show (k : Int) + 1 = (k1 : Int) by omega]; exact IntWalk.i64_in _ (by omega)
      have u1 : IntKind.u16.wrap (x : Int) = (x : Int) := wrap_u16 (by omega)
      obtain ⟨S1, h1⟩ : ∃ S, S = str (leB 2 x) := ⟨_, rfl⟩
      have C1 := fun W => pu16 x (by omega) S1 h1 W
      have L1 : Hid (S1.data.toList = leB 2 x) := Lib.hid (by rw [h1, str_list])
      obtain ⟨S2, h2⟩ : ∃ S, S = str (leB 4 q) := ⟨_, rfl⟩
      have C2 := fun W => pu32 q (by omega) S2 h2 W
      have L2 : Hid (S2.data.toList = leB 4 q) := Lib.hid (by rw [h2, str_list])
      have z1 : Hid (S1.size = 2) := Lib.hid (by rw [h1, str_size, leB_len])
      have z2 : Hid (S2.size = 4) := Lib.hid (by rw [h2, str_size, leB_len])
      obtain ⟨X, hX⟩ : ∃ X, X = PRE ++ (h.slots.take k).flatMap slotB := ⟨_, rfl⟩
      have HXL : Hid (X.length ≤ 10000) := Lib.hid (by rw [hX, List.length_append, HPL.out, slotsB_len, List.length_take]; omega)
      have HX1 : Hid ((X ++ leB 2 x) ++ leB 4 q = PRE ++ (h.slots.take k1).flatMap slotB) := Lib.hid (by
        rw [hk1, htk, List.flatMap_append, ← List.append_assoc, ← hX, List.append_assoc]
        congr 1)
      rw [← hX] at HBD
      have HK1' : Hid (k1 = k + 1 ∧ k + gk = n ∧ k < n) := Lib.hid ⟨hk1, hk, hlt⟩
      obtain ⟨W4, hW4⟩ : ∃ W, W = wr.alloc (.cells #[.int .i64 (x : Nat), .int .u32 (q : Nat)] 68) := ⟨_, rfl⟩
      have HW4 := Lib.hid hW4
      have hrow4 := heap_alloc_last wr (.cells #[.int .i64 (x : Nat), .int .u32 (q : Nat)] 68)
      rw [← hW4] at hrow4
      have hk4 : Kept wr W4 := by rw [hW4]; exact box_below _ _
      have HBD4 := Lib.hid (HBD.out.later hk4)
      have HK4 : Hid (Below bb W0 W4) := Lib.hid (Below.then' HK.out hk4 (Nat.le_trans HBL.out HK.out.size))
      obtain ⟨b5, hb5⟩ : ∃ b, b = wr.heap.size := ⟨_, rfl⟩
      rw [← hb5] at hrow4
      have HB5 := Lib.hid hb5
      have HR4 := Lib.hid hrow4
      have HLT5 : Hid (bb ≤ b5 ∧ b5 ≠ bb) := Lib.hid ⟨by rw [hb5]; exact Nat.le_trans HBL.out HK.out.size, by
        rw [hb5]
        obtain ⟨_, _, _, hg, _⟩ := HBD.out.row
        have := (Array.getElem?_eq_some_iff.1 hg).1
        omega⟩
      have HTY : Hid ((68 : TypeId) ≠ 5) := Lib.hid (by decide)
      clear hcell hS hk1 hsm htk h1 h2 hX hW4 hrow4 hk4 hkw hk HBD HK hb5 hln
      go_wp2_with fail
      rw [← HW4.out]
      try rw [← HB5.out]
      refine (C1 W4).mono ?_
      rintro e w5 ⟨rfl, hb5⟩
      have CW1 := bwriteL_any bb bb X S1 w5 (by have := z1.out; have := HXL.out; omega) (Nat.le_trans (Nat.le_trans HBL.out HK4.out.size) hb5.size) (HBD4.out.later hb5)
      rw [L1.out] at CW1
      have HK5 : Hid (Below bb W0 w5) := Lib.hid (Below.then' HK4.out hb5 (Nat.le_trans HBL.out HK4.out.size))
      have HR5 := Lib.hid (Kept.row (show Kept W4 w5 from hb5) HR4.out)
      clear hb5 C1 HBD4 HK4 HR4 e1 e2
      go_wp2_with fail
      refine CW1.mono ?_
      rintro e w6 ⟨rfl, hbd, hb6, hkb⟩
      have HBD6 : Hid (BldAt bb bb (X ++ leB 2 x) w6) := Lib.hid hbd
      have HK6 : Hid (Below bb W0 w6) := Lib.hid (Below.trans HK5.out hb6)
      have r6 := hkb.heap HR5.out HLT5.out.2 HTY.out
      have f1 : w6.cell? ⟨b5, 1, none⟩ = some (.int .u32 (q : Nat)) := by rw [cell_of_row _ _ _ _ _ _ r6]; rfl
      clear hbd hb6 CW1 hkb HK5 HR5 r6
      go_wp2_with fail
      refine (C2 w6).mono ?_
      rintro e w7 ⟨rfl, hb7⟩
      have CW2 := bwriteL_any bb bb _ S2 w7 (by have := z2.out; have := HXL.out; rw [List.length_append, leB_len]; omega) (Nat.le_trans (Nat.le_trans HBL.out HK6.out.size) hb7.size) (HBD6.out.later hb7)
      rw [L2.out, HX1.out] at CW2
      have HK7 : Hid (Below bb W0 w7) := Lib.hid (Below.then' HK6.out hb7 (Nat.le_trans HBL.out HK6.out.size))
      clear hb7 C2 f1 HBD6 HK6
      go_wp2_with fail
      refine CW2.mono ?_
      rintro e w8 ⟨rfl, hbd, hb8, -⟩
      have HBD8 := Lib.hid hbd
      have HK8 : Hid (Below bb W0 w8) := Lib.hid (Below.trans HK7.out hb8)
      clear hbd hb8 CW2 HK7
      go_wp2
      go_roundg (n - k1)
      · exact ⟨k1, by have := HK1'.out; omega, by first | rfl | (have := HK1'.out; congr 1; omega), HBD8, HK8⟩
      · have := HK1'.out; omega
    · have hki : ¬ (k : Int) < n := by omega
      have bk : decide ((k : Int) < (n : Int)) = false := by simpa using hki
      obtain ⟨X, hX⟩ : ∃ X, X = PRE ++ (h.slots.take k).flatMap slotB := ⟨_, rfl⟩
      have hXF : X = frontP h := by rw [hX, List.take_of_length_le (by have := HN.out; omega), ← HFP.out]
      rw [← hX] at HBD
      have hXL : X.length ≤ 10000 := by rw [hX, List.length_append, HPL.out, slotsB_len, List.length_take]; have := HLN.out; omega
      have CS := Tryd.Builder_String_any bb bb X wr HBD.out (Nat.le_trans HBL.out HK.out.size)
      obtain ⟨Y, hY⟩ : ∃ Y, Y = str X := ⟨_, rfl⟩
      rw [show (⟨X.toArray⟩ : ByteArray) = Y from hY.symm] at CS
      have CZ := fun W hT => seal_any Y (by rw [hY, str_size]; omega) W hT
      have HSE : Hid (sealed Y = res) := Lib.hid (by
        unfold sealed
        rw [HRES.out, HFR.out, hY, str_list, str_append, hXF])
      rw [HSE.out] at CZ
      clear hX hXF hXL hY HBD hk hlt HSE
      go_wp2_with fail
      refine CS.mono ?_
      rintro e w2 ⟨rfl, hb2⟩
      have hk2 : Kept W0 w2 := by have := Below.trans HK.out hb2; rw [HBB.out] at this; exact this
      have CZ2 := CZ w2 (HT.out.later ((show Kept w W0 from HK0.out).then hk2))
      have HK2 : Hid (Kept w w2) := Lib.hid ((show Kept w W0 from HK0.out).then hk2)
      clear hb2 CS CZ hk2
      go_wp2_with fail
      refine CZ2.mono ?_
      rintro e w3 ⟨rfl, hb3⟩
      have HK3 : Hid (Kept w w3) := Lib.hid ((show Kept w w2 from HK2.out).then hb3)
      clear hb3 CZ2
      go_wp2
      go_ret
      exact ⟨rfl, HK3.out⟩

end Go.Proofs.YtdmbebafpamgfaaDoor
