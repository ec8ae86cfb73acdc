/- The landed recipes' Put. -/
import Derived.Test.YtijdbmapdmhknaaDoorRyD
import Derived.Test.YtijdbmapdmhknaaDoorGN
import Derived.Test.YtijdbmapdmhknaaDoorBld
import Derived.Test.YtijdbmapdmhknaaDoorShelf
namespace Go.Proofs.YtijdbmapdmhknaaDoor
open Go.RowKit

theorem wrap_u32Q (z : Int) : IntKind.u32.wrap z = (modQ z : Int) := by
  unfold modQ
  simp [IntKind.wrap, IntKind.bits, IntKind.signed]; omega
theorem ptextQ (t : ByteArray) (ht : t.size ≤ 4294967295) (S : ByteArray) (hS : S = str (textB t)) (w : World) : Calls Tryd.prog 29 #[.string t] w fun e w' => e = .returned (.string S) ∧ Below w.heap.size w w' := by
  have e : S = str (leB 4 t.size) ++ t := by rw [hS]; unfold textB; rw [← str_append, str_data]
  subst e; exact text_any t ht w

set_option maxRecDepth 100000 in
set_option maxHeartbeats 32000000 in
theorem rputOk : RPutOk := by
  intro r v w H hl hT
  have HT := Lib.hid hT
  have HH := Lib.hid H
  obtain ⟨tv, rfl, hm, hwf⟩ := H
  obtain ⟨p, c, rfl, -, hc⟩ := hm.out encU
  have HG : Hid (∀ x ∈ r.mans, x < 4294967296) := Lib.hid hm.good
  have HC := Lib.hid hc
  unfold rpC at HH ⊢
  obtain ⟨n, hn⟩ : ∃ n, n = r.mans.length := ⟨_, rfl⟩
  obtain ⟨s, hs⟩ : ∃ s, s = str r.name := ⟨_, rfl⟩
  obtain ⟨z, hz⟩ : ∃ z, z = r.size := ⟨_, rfl⟩
  obtain ⟨x, hx⟩ : ∃ x, x = r.re := ⟨_, rfl⟩
  obtain ⟨y, hy⟩ : ∃ y, y = r.im := ⟨_, rfl⟩
  have hmay : mayQ r → (1 ≤ s.size ∧ s.size ≤ 48) ∧ (0 ≤ z ∧ z ≤ 1048576) ∧ n ≤ 1024 := fun h => ⟨by rw [hs, str_size]; exact h.1, by rw [hz]; exact h.2.1, by rw [hn]; exact h.2.2.2.1⟩
  have hP : recpP r = (((((magicQ ++ leB 4 z.toNat) ++ leB 4 (modQ x)) ++ leB 4 (modQ y)) ++ textB s) ++ leB 2 n) ++ mansB r.mans := by
    unfold recpP
    rw [← hz, ← hx, ← hy, ← hs, ← hn]
    simp only [List.append_assoc]
  have HN := Lib.hid hn
  rw [← hs, ← hz, ← hx, ← hy, ← hn] at HH ⊢
  obtain ⟨W0, hW0⟩ : ∃ W0, W0 = w.alloc (.cells #[.string s, .int .i64 z, .int .i64 x, .int .i64 y, .slice p n c] 24) := ⟨_, rfl⟩
  have HW0 := Lib.hid hW0
  have hk0 : Kept w W0 := by rw [hW0]; exact box_below _ _
  have HK0 := Lib.hid hk0
  have HR0 : Hid (Row5 w.heap.size (.string s) (.int .i64 z) (.int .i64 x) (.int .i64 y) (.slice p n c) W0) := Lib.hid ⟨by rw [hW0]; exact heap_alloc_last w _⟩
  have C0 := rcheckOk r _ W0 (HH.out.later hk0) hl
  have c0 := HR0.out.c0
  have c1 := HR0.out.c1
  have c2 := HR0.out.c2
  have c3 := HR0.out.c3
  have c4 := HR0.out.c4
  rw [hW0] at c0 c1 c2 c3 c4
  obtain ⟨res, hres⟩ : ∃ q, q = putVQ r := ⟨_, rfl⟩
  rw [← hres]
  unfold putVQ at hres
  by_cases hmq : mayQ r
  · rw [if_pos hmq] at C0 hres ⊢
    obtain ⟨⟨h1, h2⟩, ⟨h3, h4⟩, h5⟩ := hmay hmq
    have HRES : Hid (res = str (recpB r)) := Lib.hid hres
    have HP := Lib.hid hP
    have HN2 : Hid (n ≤ 1024) := Lib.hid h5
    have HSL : Hid ((textB s).length ≤ 60) := Lib.hid (by rw [textB_len]; omega)
    obtain ⟨zn, hzn⟩ : ∃ k, k = z.toNat := ⟨_, rfl⟩
    obtain ⟨xn, hxn⟩ : ∃ k, k = modQ x := ⟨_, rfl⟩
    obtain ⟨yn, hyn⟩ : ∃ k, k = modQ y := ⟨_, rfl⟩
    obtain ⟨TX, hTX⟩ : ∃ k, k = textB s := ⟨_, rfl⟩
    have u1 : IntKind.u32.wrap z = (zn : Int) := by rw [wrap_u32Q, hzn]; unfold modQ; omega
    have u2 : IntKind.u32.wrap x = (xn : Int) := by rw [wrap_u32Q, hxn]
    have u3 : IntKind.u32.wrap y = (yn : Int) := by rw [wrap_u32Q, hyn]
    have u5 : IntKind.u16.wrap (n : Int) = (n : Int) := wrap_u16 (by omega)
    rw [← hzn, ← hxn, ← hyn, ← hTX] at HP
    rw [← hTX] at HSL
    have lx := modQ_lt x
    have ly := modQ_lt y
    rw [← hxn] at lx
    rw [← hyn] at ly
    obtain ⟨S1, D1⟩ : ∃ S, S = str (leB 4 zn) := ⟨_, rfl⟩
    have C1 := fun W => pu32 zn (by omega) S1 D1 W
    have L1 : Hid (S1.data.toList = leB 4 zn) := Lib.hid (by rw [D1, str_list])
    have z1 : Hid (S1.size ≤ 60) := Lib.hid (by rw [D1, str_size]; first | exact HSL.out | (rw [leB_len]; omega))
    obtain ⟨S2, D2⟩ : ∃ S, S = str (leB 4 xn) := ⟨_, rfl⟩
    have C2 := fun W => pu32 xn (by omega) S2 D2 W
    have L2 : Hid (S2.data.toList = leB 4 xn) := Lib.hid (by rw [D2, str_list])
    have z2 : Hid (S2.size ≤ 60) := Lib.hid (by rw [D2, str_size]; first | exact HSL.out | (rw [leB_len]; omega))
    obtain ⟨S3, D3⟩ : ∃ S, S = str (leB 4 yn) := ⟨_, rfl⟩
    have C3 := fun W => pu32 yn (by omega) S3 D3 W
    have L3 : Hid (S3.data.toList = leB 4 yn) := Lib.hid (by rw [D3, str_list])
    have z3 : Hid (S3.size ≤ 60) := Lib.hid (by rw [D3, str_size]; first | exact HSL.out | (rw [leB_len]; omega))
    obtain ⟨S4, D4⟩ : ∃ S, S = str (TX) := ⟨_, rfl⟩
    have C4 := fun W => ptextQ s (by omega) S4 (D4.trans (by rw [hTX])) W
    have L4 : Hid (S4.data.toList = TX) := Lib.hid (by rw [D4, str_list])
    have z4 : Hid (S4.size ≤ 60) := Lib.hid (by rw [D4, str_size]; first | exact HSL.out | (rw [leB_len]; omega))
    obtain ⟨S5, D5⟩ : ∃ S, S = str (leB 2 n) := ⟨_, rfl⟩
    have C5 := fun W => pu16 n (by omega) S5 D5 W
    have L5 : Hid (S5.data.toList = leB 2 n) := Lib.hid (by rw [D5, str_list])
    have z5 : Hid (S5.size ≤ 60) := Lib.hid (by rw [D5, str_size]; first | exact HSL.out | (rw [leB_len]; omega))
    obtain ⟨M, hM⟩ : ∃ M : ByteArray, M = ⟨#[82, 69, 67, 80]⟩ := ⟨_, rfl⟩
    have zM : M.size = 4 := by rw [hM]; rfl
    have LM : Hid (M.data.toList = magicQ) := Lib.hid (by rw [hM]; rfl)
    have CW0 := fun bb W (h1 : bb ≤ W.heap.size) (h : BldAt bb bb [] W) => bwriteL_any bb bb [] M W (by simp; omega) h1 h
    rw [hM] at CW0
    clear hm hwf hc hn hs hz hx hy hmay hP hW0 hk0 hres hmq h1 h2 h3 h4 h5 hzn hxn hyn hTX lx ly zM hM hl hT HH D1 D2 D3 D4 D5
    go_enter Tryd.func9, Tryd.ntmps9
    go_wp2_with fail
    rw [← HW0.out]
    refine C0.mono ?_
    rintro e w1 ⟨rfl, hb1⟩
    have HK1 : Hid (Kept w w1) := Lib.hid ((show Kept w W0 from HK0.out).then hb1)
    have HROW1 := Lib.hid (HR0.out.later hb1)
    obtain ⟨bb, hbb⟩ : ∃ bb, bb = w1.heap.size := ⟨_, rfl⟩
    have HBB := Lib.hid hbb
    obtain ⟨WB, hWB⟩ : ∃ WB, WB = w1.alloc (.cells #[.pointer none, .slice none 0 0] 58) := ⟨_, rfl⟩
    have HWB := Lib.hid hWB
    have HBL : Hid (bb ≤ w1.heap.size) := Lib.hid (by rw [hbb]; exact Nat.le_refl _)
    have HBD : Hid (BldAt bb bb [] WB) := Lib.hid (by rw [hWB, hbb]; exact Lib.fresh_isBuilder _ _ w1)
    have HKB : Hid (Below bb w1 WB) := Lib.hid (by rw [hWB, hbb]; exact box_below _ _)
    have CW1 := CW0 bb WB (Nat.le_trans HBL.out HKB.out.size) HBD.out
    clear hb1 hbb hWB c0 c1 c2 c3 c4 C0 CW0 HR0 HK0 HW0 HBD
    go_wp2_with fail
    try rw [← HWB.out]
    try rw [← HBB.out]
    refine CW1.mono ?_
    rintro e w2 ⟨rfl, hbd, hb2, -⟩
    obtain ⟨P0, hP0⟩ : ∃ P, P = magicQ := ⟨_, rfl⟩
    have HP0 : Hid (P0 = magicQ) := Lib.hid hP0
    have ZP0 : Hid (P0.length ≤ 4) := Lib.hid (by rw [hP0]; decide)
    have HBD2 : Hid (BldAt bb bb P0 w2) := Lib.hid (by rw [hP0]; exact hbd)
    have HK2 : Hid (Below bb w1 w2) := Lib.hid (Below.trans HKB.out hb2)
    clear hbd hb2 CW1 HKB LM hP0
    have r2 := HROW1.out.later (show Kept w1 w2 from by have := HK2.out; rw [HBB.out] at this; exact this)
    have e1 := r2.c1
    clear r2
    go_wp2_with fail
    refine (C1 w2).mono ?_
    rintro e w3 ⟨rfl, hb3⟩
    have CW1 := bwriteL_any bb bb P0 S1 w3 (by have := z1.out; have := ZP0.out; omega) (Nat.le_trans (Nat.le_trans HBL.out HK2.out.size) hb3.size) (HBD2.out.later hb3)
    rw [L1.out] at CW1
    obtain ⟨P1, hP1⟩ : ∃ P, P = P0 ++ leB 4 zn := ⟨_, rfl⟩
    have HQ1 : Hid (P1 = P0 ++ leB 4 zn) := Lib.hid hP1
    have ZP1 : Hid (P1.length ≤ 64) := Lib.hid (by rw [hP1, List.length_append]; have := ZP0.out; rw [leB_len]; omega)
    rw [← hP1] at CW1
    have HK3 : Hid (Below bb w1 w3) := Lib.hid (Below.then' HK2.out hb3 (Nat.le_trans HBL.out HK2.out.size))
    clear hb3 C1 e1 HBD2 HK2 hP1
    go_wp2_with fail
    refine CW1.mono ?_
    rintro e w4 ⟨rfl, hbd, hb4, -⟩
    have HBD4 : Hid (BldAt bb bb P1 w4) := Lib.hid hbd
    have HK4 : Hid (Below bb w1 w4) := Lib.hid (Below.trans HK3.out hb4)
    clear hbd hb4 CW1 HK3 L1 z1
    have r4 := HROW1.out.later (show Kept w1 w4 from by have := HK4.out; rw [HBB.out] at this; exact this)
    have e2 := r4.c2
    clear r4
    go_wp2_with fail
    refine (C2 w4).mono ?_
    rintro e w5 ⟨rfl, hb5⟩
    have CW1 := bwriteL_any bb bb P1 S2 w5 (by have := z2.out; have := ZP1.out; omega) (Nat.le_trans (Nat.le_trans HBL.out HK4.out.size) hb5.size) (HBD4.out.later hb5)
    rw [L2.out] at CW1
    obtain ⟨P2, hP2⟩ : ∃ P, P = P1 ++ leB 4 xn := ⟨_, rfl⟩
    have HQ2 : Hid (P2 = P1 ++ leB 4 xn) := Lib.hid hP2
    have ZP2 : Hid (P2.length ≤ 124) := Lib.hid (by rw [hP2, List.length_append]; have := ZP1.out; rw [leB_len]; omega)
    rw [← hP2] at CW1
    have HK5 : Hid (Below bb w1 w5) := Lib.hid (Below.then' HK4.out hb5 (Nat.le_trans HBL.out HK4.out.size))
    clear hb5 C2 e2 HBD4 HK4 hP2
    go_wp2_with fail
    refine CW1.mono ?_
    rintro e w6 ⟨rfl, hbd, hb6, -⟩
    have HBD6 : Hid (BldAt bb bb P2 w6) := Lib.hid hbd
    have HK6 : Hid (Below bb w1 w6) := Lib.hid (Below.trans HK5.out hb6)
    clear hbd hb6 CW1 HK5 L2 z2
    have r6 := HROW1.out.later (show Kept w1 w6 from by have := HK6.out; rw [HBB.out] at this; exact this)
    have e3 := r6.c3
    clear r6
    go_wp2_with fail
    refine (C3 w6).mono ?_
    rintro e w7 ⟨rfl, hb7⟩
    have CW1 := bwriteL_any bb bb P2 S3 w7 (by have := z3.out; have := ZP2.out; omega) (Nat.le_trans (Nat.le_trans HBL.out HK6.out.size) hb7.size) (HBD6.out.later hb7)
    rw [L3.out] at CW1
    obtain ⟨P3, hP3⟩ : ∃ P, P = P2 ++ leB 4 yn := ⟨_, rfl⟩
    have HQ3 : Hid (P3 = P2 ++ leB 4 yn) := Lib.hid hP3
    have ZP3 : Hid (P3.length ≤ 184) := Lib.hid (by rw [hP3, List.length_append]; have := ZP2.out; rw [leB_len]; omega)
    rw [← hP3] at CW1
    have HK7 : Hid (Below bb w1 w7) := Lib.hid (Below.then' HK6.out hb7 (Nat.le_trans HBL.out HK6.out.size))
    clear hb7 C3 e3 HBD6 HK6 hP3
    go_wp2_with fail
    refine CW1.mono ?_
    rintro e w8 ⟨rfl, hbd, hb8, -⟩
    have HBD8 : Hid (BldAt bb bb P3 w8) := Lib.hid hbd
    have HK8 : Hid (Below bb w1 w8) := Lib.hid (Below.trans HK7.out hb8)
    clear hbd hb8 CW1 HK7 L3 z3
    have r8 := HROW1.out.later (show Kept w1 w8 from by have := HK8.out; rw [HBB.out] at this; exact this)
    have e0 := r8.c0
    clear r8
    go_wp2_with fail
    refine (C4 w8).mono ?_
    rintro e w9 ⟨rfl, hb9⟩
    have CW1 := bwriteL_any bb bb P3 S4 w9 (by have := z4.out; have := ZP3.out; omega) (Nat.le_trans (Nat.le_trans HBL.out HK8.out.size) hb9.size) (HBD8.out.later hb9)
    rw [L4.out] at CW1
    obtain ⟨P4, hP4⟩ : ∃ P, P = P3 ++ TX := ⟨_, rfl⟩
    have HQ4 : Hid (P4 = P3 ++ TX) := Lib.hid hP4
    have ZP4 : Hid (P4.length ≤ 244) := Lib.hid (by rw [hP4, List.length_append]; have := ZP3.out; have := HSL.out; omega)
    rw [← hP4] at CW1
    have HK9 : Hid (Below bb w1 w9) := Lib.hid (Below.then' HK8.out hb9 (Nat.le_trans HBL.out HK8.out.size))
    clear hb9 C4 e0 HBD8 HK8 hP4
    go_wp2_with fail
    refine CW1.mono ?_
    rintro e w10 ⟨rfl, hbd, hb10, -⟩
    have HBD10 : Hid (BldAt bb bb P4 w10) := Lib.hid hbd
    have HK10 : Hid (Below bb w1 w10) := Lib.hid (Below.trans HK9.out hb10)
    clear hbd hb10 CW1 HK9 L4 z4
    have r10 := HROW1.out.later (show Kept w1 w10 from by have := HK10.out; rw [HBB.out] at this; exact this)
    have e4 := r10.c4
    clear r10
    go_wp2_with fail
    refine (C5 w10).mono ?_
    rintro e w11 ⟨rfl, hb11⟩
    have CW1 := bwriteL_any bb bb P4 S5 w11 (by have := z5.out; have := ZP4.out; omega) (Nat.le_trans (Nat.le_trans HBL.out HK10.out.size) hb11.size) (HBD10.out.later hb11)
    rw [L5.out] at CW1
    obtain ⟨P5, hP5⟩ : ∃ P, P = P4 ++ leB 2 n := ⟨_, rfl⟩
    have HQ5 : Hid (P5 = P4 ++ leB 2 n) := Lib.hid hP5
    have ZP5 : Hid (P5.length ≤ 304) := Lib.hid (by rw [hP5, List.length_append]; have := ZP4.out; rw [leB_len]; omega)
    rw [← hP5] at CW1
    have HK11 : Hid (Below bb w1 w11) := Lib.hid (Below.then' HK10.out hb11 (Nat.le_trans HBL.out HK10.out.size))
    clear hb11 C5 e4 HBD10 HK10 hP5
    go_wp2_with fail
    refine CW1.mono ?_
    rintro e w12 ⟨rfl, hbd, hb12, -⟩
    have HBD12 : Hid (BldAt bb bb P5 w12) := Lib.hid hbd
    have HK12 : Hid (Below bb w1 w12) := Lib.hid (Below.trans HK11.out hb12)
    clear hbd hb12 CW1 HK11 L5 z5
    have HPRE : Hid (recpP r = P5 ++ mansB r.mans) := Lib.hid (by rw [HP.out, HQ5.out, HQ4.out, HQ3.out, HQ2.out, HQ1.out, HP0.out])
    have HBDL : Hid (BldAt bb bb (P5 ++ mansB (r.mans.take 0)) w12) := Lib.hid (by simpa [mansB] using HBD12.out)
    have r12 := HROW1.out.later (show Kept w1 w12 from by have := HK12.out; rw [HBB.out] at this; exact this)
    have e4 := r12.c4
    clear r12 HP HQ1 HQ2 HQ3 HQ4 HQ5 HP0 HBD12 u1 u2 u3 u5
    go_wp2
    clear e4
    go_loopg [42] n (fun gh y wr => ∃ (k : Nat), k + gh = n ∧ y = .int .i64 k ∧ Hid (BldAt bb bb (P5 ++ mansB (r.mans.take k)) wr) ∧ Hid (Below bb w1 wr))
    case atStart => exact ⟨0, by omega, rfl, HBDL, HK12⟩
    case round =>
      clear HBDL HK12
      obtain ⟨k, hk, rfl, HBD, HK⟩ := hrel
      by_cases hlt : k < n
      · have hki : (k : Int) < n := by omega
        have bk : decide ((k : Int) < (n : Int)) = true := by simpa using hki
        have hki0 : (0 : Int) ≤ k := by omega
        have hkl : k < r.mans.length := by have := HN.out; omega
        have hkw : Kept w1 wr := by have := HK.out; rw [HBB.out] at this; exact this
        rcases HC.out with h0 | ⟨b, off, rfl, hcell⟩
        · have := HN.out; omega
        have d0 := Kept.cell ((show Kept w w1 from HK1.out).then hkw) (hcell k hkl 0 _ rfl)
        rw [Nat.mul_one, Nat.add_zero] at d0
        have hlt32 := HG.out _ (List.getElem_mem hkl)
        have htk : r.mans.take (k + 1) = r.mans.take k ++ [r.mans[k]] := List.take_succ_eq_append_getElem hkl
        obtain ⟨m, hm⟩ : ∃ m, m = r.mans[k] := ⟨_, rfl⟩
        rw [← hm] at d0 hlt32 htk
        obtain ⟨k1, hk1⟩ : ∃ k1, k1 = k + 1 := ⟨_, rfl⟩
        have v1 : IntKind.i64.wrap ((k : Int) + 1) = (k1 : Int) := by rw [show (k : Int) + 1 = (k1 : Int) by omega]; exact IntWalk.i64_in _ (by have := HN2.out; omega)
        have HKK : Hid (k1 = k + 1 ∧ k + gk = n ∧ k < n) := Lib.hid ⟨hk1, hk, hlt⟩
        obtain ⟨S1, h1⟩ : ∃ S, S = str (leB 4 m) := ⟨_, rfl⟩
        have C1 := fun W => pu32 m (by omega) S1 h1 W
        have L1 : Hid (S1.data.toList = leB 4 m) := Lib.hid (by rw [h1, str_list])
        have z1 : Hid (S1.size = 4) := Lib.hid (by rw [h1, str_size, leB_len])
        obtain ⟨XS, hXX⟩ : ∃ X, X = P5 ++ mansB (r.mans.take k) := ⟨_, rfl⟩
        have HXL : Hid (XS.length ≤ 20000) := Lib.hid (by rw [hXX, List.length_append, mansB_len, List.length_take]; have := ZP5.out; have := HN2.out; omega)
        have HX1 : Hid (XS ++ leB 4 m = P5 ++ mansB (r.mans.take k1)) := Lib.hid (by
          rw [hk1, htk, hXX]
          unfold mansB
          rw [List.flatMap_append]
          simp)
        rw [← hXX] at HBD
        clear hcell hlt32 htk hm hk1 h1 hXX hk hlt hkl hkw
        go_wp2_with fail
        refine (C1 wr).mono ?_
        rintro e w6 ⟨rfl, hb6⟩
        have CW1 := bwriteL_any bb bb XS S1 w6 (by have := z1.out; have := HXL.out; omega) (Nat.le_trans (Nat.le_trans HBL.out HK.out.size) hb6.size) (HBD.out.later hb6)
        rw [L1.out, HX1.out] at CW1
        have HK6 : Hid (Below bb w1 w6) := Lib.hid (Below.then' HK.out hb6 (Nat.le_trans HBL.out HK.out.size))
        clear hb6 C1 HBD HK d0
        go_wp2_with fail
        refine CW1.mono ?_
        rintro e w7 ⟨rfl, hbd, hb7, -⟩
        have HBD7 := Lib.hid hbd
        have HK7 : Hid (Below bb w1 w7) := Lib.hid (Below.trans HK6.out hb7)
        clear hbd hb7 CW1 HK6
        go_wp2
        go_roundg (n - k1)
        · exact ⟨k1, by have := HKK.out; omega, by first | rfl | (have := HKK.out; congr 1; omega), HBD7, HK7⟩
        · have := HKK.out; omega
      · have hki : ¬ (k : Int) < n := by omega
        have bk : decide ((k : Int) < (n : Int)) = false := by simpa using hki
        obtain ⟨X, hX⟩ : ∃ X, X = P5 ++ mansB (r.mans.take k) := ⟨_, rfl⟩
        have hXF : X = recpP r := by rw [hX, List.take_of_length_le (by have := HN.out; omega), ← HPRE.out]
        rw [← hX] at HBD
        have hXL : X.length ≤ 20000 := by rw [hX, List.length_append, mansB_len, List.length_take]; have := ZP5.out; have := HN2.out; omega
        have CS := Tryd.Builder_String_any bb bb X wr HBD.out (Nat.le_trans HBL.out HK.out.size)
        obtain ⟨Y, hY⟩ : ∃ Y, Y = str X := ⟨_, rfl⟩
        rw [show (⟨X.toArray⟩ : ByteArray) = Y from hY.symm] at CS
        have CZ := fun W hT => seal_any Y (by rw [hY, str_size]; omega) W hT
        have HSE : Hid (sealed Y = res) := Lib.hid (by
          unfold sealed
          rw [HRES.out, hY, str_list, str_append, hXF]
          rfl)
        rw [HSE.out] at CZ
        clear hX hXF hXL hY HBD hk hlt HSE
        go_wp2_with fail
        refine CS.mono ?_
        rintro e w2 ⟨rfl, hb2⟩
        have hk2 : Kept w1 w2 := by have := Below.trans HK.out hb2; rw [HBB.out] at this; exact this
        have CZ2 := CZ w2 (HT.out.later ((show Kept w w1 from HK1.out).then hk2))
        have HK2 : Hid (Kept w w2) := Lib.hid ((show Kept w w1 from HK1.out).then hk2)
        clear hb2 CS CZ hk2
        go_wp2_with fail
        refine CZ2.mono ?_
        rintro e w3 ⟨rfl, hb3⟩
        have HK3 : Hid (Kept w w3) := Lib.hid ((show Kept w w2 from HK2.out).then hb3)
        clear hb3 CZ2
        go_wp2
        first | go_ret2 | go_ret
        exact ⟨rfl, HK3.out⟩
  · rw [if_neg hmq] at C0 hres ⊢
    subst hres
    clear hm hwf hc hn hs hz hx hy hmay hP hW0 hk0 hmq hl hT HH
    go_enter Tryd.func9, Tryd.ntmps9
    go_wp2_with fail
    rw [← HW0.out]
    refine C0.mono ?_
    rintro e w1 ⟨rfl, hb1⟩
    have HK1 : Hid (Kept w w1) := Lib.hid ((show Kept w W0 from HK0.out).then hb1)
    clear hb1 C0 c0 c1 c2 c3 c4
    go_wp2
    first | go_ret2 | go_ret
    exact ⟨rfl, HK1.out⟩

end Go.Proofs.YtijdbmapdmhknaaDoor
