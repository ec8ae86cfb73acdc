/- The laws ExtentTells, ExtentSets, ExtentLowest, ExtentNobody out of the contracts. -/
import Derived.Test.YtkdodffnakdckaaExA
namespace Go.Proofs.Ytkdodffnakdckaa
open Go.RowKit

theorem take30 (l : List (Int × Int)) : (l.take 30).length ≤ 30 := by rw [List.length_take]; omega

set_option maxRecDepth 100000 in
set_option maxHeartbeats 4000000 in
theorem extentTells_of (HP : XPlainOk) (HM : XMinusOk) (HY : XMayOk) (HC : XCountOk) (HH : XHasOk) (w : World) (v : Value) (l0 : List (Int × Int)) (hv : RunsAt l0 v w) (fr te at' : Int) (hfr : I64 fr) (hte : I64 te) (hat : I64 at') :
    Calls Try.prog 3 #[v, .int .i64 fr, .int .i64 te, .int .i64 at'] w (LawPost w) := by
  have AW := Lib.hid (fun W => xawake_any HP HM W)
  have HPH := Lib.hid HP
  have HYH := Lib.hid HY
  have HCH := Lib.hid HC
  have HHH := Lib.hid HH
  have FW := few_any l0 v w hv
  have h30 := take30 l0
  obtain ⟨l, hl⟩ : ∃ l, l = l0.take 30 := ⟨_, rfl⟩
  rw [← hl] at FW h30
  have hfi := hfr
  have hti := hte
  have HFR := Lib.hid hfr
  have HTE := Lib.hid hte
  have HAT := Lib.hid hat
  have H30 : Hid (l.length ≤ 65536) := Lib.hid (by omega)
  have H31 : Hid (l.length ≤ 1048576) := Lib.hid (by omega)
  obtain ⟨bm, hbm⟩ : ∃ bm, bm = decide (validL fr te l) := ⟨_, rfl⟩
  obtain ⟨bc, hbc⟩ : ∃ bc, bc = cntA (hasR l) := ⟨_, rfl⟩
  obtain ⟨bh, hbh⟩ : ∃ bh, bh = hasSec l at' := ⟨_, rfl⟩
  have x1 : (bm != bm) = false := by cases bm <;> rfl
  have x2 : ((bc : Int) != (bc : Int)) = false := by simp
  have x3 : (bh != bh) = false := by cases bh <;> rfl
  have x4 : ((bc : Int) == (bc : Int)) = true := by simp
  have HBM := Lib.hid hbm
  have HBC := Lib.hid hbc
  have HBH := Lib.hid hbh
  obtain ⟨f, hf⟩ : ∃ f, f = hasR l := ⟨_, rfl⟩
  have HF := Lib.hid hf
  have HLA : Hid ((runsA f).length ≤ 65536) := Lib.hid (Nat.le_trans (runsA_len f) (by omega))
  have HLB : Hid ((runsA f).length ≤ 1048576) := Lib.hid (Nat.le_trans (runsA_len f) (by omega))
  have K : Hid (Kept w w) := Lib.hid (Kept.refl w)
  clear HP HM HY HC HH hv hl h30 hfr hte hat hfi hti hbm hbc hbh hf
  go_enter Try.func3, Try.ntmps3
  go_wp2_with fail
  refine FW.mono ?_
  rintro e w0 ⟨⟨u, rfl, hu⟩, rfl⟩
  have HU := Lib.hid hu
  clear FW hu
  go_wp2_with fail
  refine (HPH.out l u _ HU.out H30.out).mono ?_
  rintro e w1 ⟨x, rfl, hx, hb⟩
  rw [← HF.out] at hx
  replace HU := Lib.hid (HU.out.later hb)
  replace K := Lib.hid (K.out.then hb)
  clear hb
  have HX := Lib.hid hx
  clear hx
  go_wp2_with fail
  refine (HYH.out l u _ fr te HU.out H30.out HFR.out HTE.out).mono ?_
  rintro e w2 ⟨rfl, hb⟩
  rw [← HBM.out]
  replace HU := Lib.hid (HU.out.later hb)
  replace HX := Lib.hid (HX.out.later hb)
  replace K := Lib.hid (K.out.then hb)
  clear hb
  go_wp2_with fail
  refine (rmay_any l u _ HU.out H31.out fr te HFR.out HTE.out).mono ?_
  rintro e w3 ⟨rfl, hb⟩
  rw [← HBM.out]
  replace HU := Lib.hid (HU.out.later hb)
  replace HX := Lib.hid (HX.out.later hb)
  replace K := Lib.hid (K.out.then hb)
  clear hb
  go_wp2_with fail
  refine (HCH.out l u _ HU.out H30.out).mono ?_
  rintro e w4 ⟨rfl, hb⟩
  rw [← HBC.out]
  replace HU := Lib.hid (HU.out.later hb)
  replace HX := Lib.hid (HX.out.later hb)
  replace K := Lib.hid (K.out.then hb)
  clear hb
  go_wp2_with fail
  refine (rcount_any l u _ HU.out H31.out).mono ?_
  rintro e w5 ⟨rfl, hb⟩
  rw [← HBC.out]
  replace HU := Lib.hid (HU.out.later hb)
  replace HX := Lib.hid (HX.out.later hb)
  replace K := Lib.hid (K.out.then hb)
  clear hb
  go_wp2_with fail
  refine (HHH.out l u _ at' HU.out H30.out HAT.out).mono ?_
  rintro e w6 ⟨rfl, hb⟩
  rw [← HBH.out]
  replace HU := Lib.hid (HU.out.later hb)
  replace HX := Lib.hid (HX.out.later hb)
  replace K := Lib.hid (K.out.then hb)
  clear hb
  go_wp2_with fail
  refine (rhas_any l u _ HU.out H31.out at').mono ?_
  rintro e w7 ⟨rfl, hb⟩
  rw [← HBH.out]
  replace HU := Lib.hid (HU.out.later hb)
  replace HX := Lib.hid (HX.out.later hb)
  replace K := Lib.hid (K.out.then hb)
  clear hb
  go_wp2_with fail
  refine (AW.out _).mono ?_
  rintro e w8 ⟨rfl, hb⟩
  replace HU := Lib.hid (HU.out.later hb)
  replace HX := Lib.hid (HX.out.later hb)
  replace K := Lib.hid (K.out.then hb)
  clear hb
  go_wp2_with fail
  refine (rplain_any l u _ HU.out H31.out).mono ?_
  rintro e w9 ⟨y, rfl, hy, hb⟩
  rw [← HF.out] at hy
  replace HU := Lib.hid (HU.out.later hb)
  replace HX := Lib.hid (HX.out.later hb)
  replace K := Lib.hid (K.out.then hb)
  clear hb
  have HZ := Lib.hid (hy.at_ (runsA_wf f))
  clear hy
  go_wp2_with fail
  refine (rsame_any (runsA f) (runsA f) x y _ HX.out HZ.out HLB.out).mono ?_
  rintro e w10 ⟨rfl, hb⟩
  rw [decide_eq_true rfl]
  replace HU := Lib.hid (HU.out.later hb)
  replace HX := Lib.hid (HX.out.later hb)
  replace HZ := Lib.hid (HZ.out.later hb)
  replace K := Lib.hid (K.out.then hb)
  clear hb
  go_wp2_with fail
  refine (rmay_any (runsA f) x _ HX.out HLB.out 0 8192 (by decide) (by decide)).mono ?_
  rintro e w11 ⟨rfl, hb⟩
  rw [decide_eq_true (runsA_valid f 0 8192 (fun k hk _ => by have : (mxS : Int) = 8192 := rfl; omega))]
  replace HU := Lib.hid (HU.out.later hb)
  replace HX := Lib.hid (HX.out.later hb)
  replace K := Lib.hid (K.out.then hb)
  clear hb
  go_wp2_with fail
  refine (HPH.out (runsA f) x _ HX.out HLA.out).mono ?_
  rintro e w12 ⟨y2, rfl, hy2, hb⟩
  rw [runsA_again] at hy2
  replace HU := Lib.hid (HU.out.later hb)
  replace HX := Lib.hid (HX.out.later hb)
  replace K := Lib.hid (K.out.then hb)
  clear hb
  have HZ2 := Lib.hid hy2
  clear hy2
  go_wp2_with fail
  refine (rsame_any (runsA f) (runsA f) y2 x _ HZ2.out HX.out HLB.out).mono ?_
  rintro e w13 ⟨rfl, hb⟩
  rw [decide_eq_true rfl]
  replace HU := Lib.hid (HU.out.later hb)
  replace HX := Lib.hid (HX.out.later hb)
  replace HZ2 := Lib.hid (HZ2.out.later hb)
  replace K := Lib.hid (K.out.then hb)
  clear hb
  go_wp2_with fail
  refine (HCH.out (runsA f) x _ HX.out HLA.out).mono ?_
  rintro e w14 ⟨rfl, hb⟩
  rw [cntA_again, HF.out, ← HBC.out]
  replace HU := Lib.hid (HU.out.later hb)
  replace HX := Lib.hid (HX.out.later hb)
  replace K := Lib.hid (K.out.then hb)
  clear hb
  go_wp2_with fail
  refine (HCH.out l u _ HU.out H30.out).mono ?_
  rintro e w15 ⟨rfl, hb⟩
  rw [← HBC.out]
  replace HU := Lib.hid (HU.out.later hb)
  replace HX := Lib.hid (HX.out.later hb)
  replace K := Lib.hid (K.out.then hb)
  clear hb
  go_wp2
  go_ret
  exact ⟨rfl, K.out⟩

set_option maxRecDepth 100000 in
set_option maxHeartbeats 4000000 in
theorem extentSets_of (HP : XPlainOk) (HM : XMinusOk) (HJ : XJoinOk) (HO : XCommonOk) (HC : XCountOk) (w : World) (v1 : Value) (a0 : List (Int × Int)) (hv1 : RunsAt a0 v1 w) (v2 : Value) (b0 : List (Int × Int)) (hv2 : RunsAt b0 v2 w) :
    Calls Try.prog 4 #[v1, v2] w (LawPost w) := by
  have AW := Lib.hid (fun W => xawake_any HP HM W)
  have HPH := Lib.hid HP
  have HMH := Lib.hid HM
  have HJH := Lib.hid HJ
  have HOH := Lib.hid HO
  have HCH := Lib.hid HC
  have FW1 := few_any a0 v1 w hv1
  have FW2 := few_any b0 v2 w hv2
  have h30a := take30 a0
  have h30b := take30 b0
  obtain ⟨a, ha⟩ : ∃ l, l = a0.take 30 := ⟨_, rfl⟩
  obtain ⟨b, hb0⟩ : ∃ l, l = b0.take 30 := ⟨_, rfl⟩
  rw [← ha] at FW1 h30a
  rw [← hb0] at FW2 h30b
  have A30 : Hid (a.length ≤ 65536) := Lib.hid (by omega)
  have A31 : Hid (a.length ≤ 1048576) := Lib.hid (by omega)
  have B30 : Hid (b.length ≤ 65536) := Lib.hid (by omega)
  have B31 : Hid (b.length ≤ 1048576) := Lib.hid (by omega)
  have AB31 : Hid (a.length + b.length ≤ 1048576) := Lib.hid (by omega)
  obtain ⟨fj, hfj⟩ : ∃ f, f = fun k => hasR a k || hasR b k := ⟨_, rfl⟩
  obtain ⟨fm, hfm⟩ : ∃ f, f = fun k => hasR a k && !hasR b k := ⟨_, rfl⟩
  obtain ⟨fc, hfc⟩ : ∃ f, f = fun k => hasR a k && hasR b k := ⟨_, rfl⟩
  have HFJ := Lib.hid hfj
  have HFM := Lib.hid hfm
  have HFC := Lib.hid hfc
  have L1 : ∀ f : Nat → Bool, (runsA f).length ≤ 65536 := fun f => Nat.le_trans (runsA_len f) (by omega)
  have L2 : ∀ f : Nat → Bool, (runsA f).length ≤ 1048576 := fun f => Nat.le_trans (runsA_len f) (by omega)
  have E1 : Hid (runsA (fun k => hasR (runsA fm) k || hasR (runsA fc) k) = runsA (hasR a)) := Lib.hid (runsA_congr (fun k hk => by
    rw [runsA_has fm k hk, runsA_has fc k hk, hfm, hfc]
    show (hasR a k && !hasR b k || hasR a k && hasR b k) = _
    cases hasR a k <;> cases hasR b k <;> rfl))
  have E2 : Hid (runsA (fun k => hasR (runsA fm) k && hasR (runsA fc) k) = []) := Lib.hid (runsA_none (fun k hk => by
    rw [runsA_has fm k hk, runsA_has fc k hk, hfm, hfc]
    show (hasR a k && !hasR b k && (hasR a k && hasR b k)) = _
    cases hasR a k <;> cases hasR b k <;> rfl))
  have E3 : Hid (runsA (fun k => hasR a k || hasR a k) = runsA (hasR a)) := Lib.hid (runsA_congr (fun k hk => by cases hasR a k <;> rfl))
  obtain ⟨c1, hc1⟩ : ∃ c1, c1 = cntA fm := ⟨_, rfl⟩
  obtain ⟨c2, hc2⟩ : ∃ c2, c2 = cntA fc := ⟨_, rfl⟩
  obtain ⟨c3, hc3⟩ : ∃ c3, c3 = cntA (hasR a) := ⟨_, rfl⟩
  have hsum : c1 + c2 = c3 := by rw [hc1, hc2, hc3, hfm, hfc]; exact cntF_split (hasR a) (hasR b) mxS
  have hle : c3 ≤ 8192 := by rw [hc3]; exact cntA_le _
  have HC1 := Lib.hid hc1
  have HC2 := Lib.hid hc2
  have HC3 := Lib.hid hc3
  have v3 : IntKind.i64.wrap ((c1 : Int) + (c2 : Int)) = (c3 : Int) := by rw [show (c1 : Int) + (c2 : Int) = (c3 : Int) by omega]; exact IntWalk.i64_in _ (by omega)
  have x4 : ((c3 : Int) == (c3 : Int)) = true := by simp
  have HL1 := Lib.hid L1
  have HL2 := Lib.hid L2
  obtain ⟨fa, hfa⟩ : ∃ f, f = hasR a := ⟨_, rfl⟩
  rw [← hfa] at E1 E3
  have HFA := Lib.hid hfa
  have K : Hid (Kept w w) := Lib.hid (Kept.refl w)
  clear HP HM HJ HO HC hv1 hv2 ha hb0 h30a h30b hfj hfm hfc L1 L2 hsum hle hc1 hc2 hc3 hfa
  go_enter Try.func4, Try.ntmps4
  go_wp2_with fail
  refine FW1.mono ?_
  rintro e w0 ⟨⟨u, rfl, hu⟩, rfl⟩
  have HU := Lib.hid hu
  clear FW1 hu
  go_wp2_with fail
  refine FW2.mono ?_
  rintro e w0 ⟨⟨t, rfl, ht⟩, rfl⟩
  have HT := Lib.hid ht
  clear FW2 ht
  go_wp2_with fail
  refine (HJH.out a b u t _ HU.out HT.out A30.out B30.out).mono ?_
  rintro e w1 ⟨xj, rfl, hx, hb⟩
  rw [← HFJ.out] at hx
  replace HU := Lib.hid (HU.out.later hb)
  replace HT := Lib.hid (HT.out.later hb)
  replace K := Lib.hid (K.out.then hb)
  clear hb
  have XJ := Lib.hid hx
  clear hx
  go_wp2_with fail
  refine (HMH.out a b u t _ HU.out HT.out A30.out B30.out).mono ?_
  rintro e w2 ⟨xm, rfl, hx, hb⟩
  rw [← HFM.out] at hx
  replace HU := Lib.hid (HU.out.later hb)
  replace HT := Lib.hid (HT.out.later hb)
  replace XJ := Lib.hid (XJ.out.later hb)
  replace K := Lib.hid (K.out.then hb)
  clear hb
  have XM := Lib.hid hx
  clear hx
  go_wp2_with fail
  refine (HOH.out a b u t _ HU.out HT.out A30.out B30.out).mono ?_
  rintro e w3 ⟨xc, rfl, hx, hb⟩
  rw [← HFC.out] at hx
  replace HU := Lib.hid (HU.out.later hb)
  replace HT := Lib.hid (HT.out.later hb)
  replace XJ := Lib.hid (XJ.out.later hb)
  replace XM := Lib.hid (XM.out.later hb)
  replace K := Lib.hid (K.out.then hb)
  clear hb
  have XC := Lib.hid hx
  clear hx
  go_wp2_with fail
  refine (rjoin_any a b u t _ HU.out HT.out AB31.out).mono ?_
  rintro e w4 ⟨y, rfl, hy, hb⟩
  rw [← HFJ.out] at hy
  replace HU := Lib.hid (HU.out.later hb)
  replace HT := Lib.hid (HT.out.later hb)
  replace XJ := Lib.hid (XJ.out.later hb)
  replace XM := Lib.hid (XM.out.later hb)
  replace XC := Lib.hid (XC.out.later hb)
  replace K := Lib.hid (K.out.then hb)
  clear hb
  have HZ := Lib.hid (hy.at_ (runsA_wf fj))
  clear hy
  go_wp2_with fail
  refine (rsame_any (runsA fj) (runsA fj) xj y _ XJ.out HZ.out (HL2.out fj)).mono ?_
  rintro e w5 ⟨rfl, hb⟩
  rw [decide_eq_true rfl]
  replace HU := Lib.hid (HU.out.later hb)
  replace HT := Lib.hid (HT.out.later hb)
  replace XJ := Lib.hid (XJ.out.later hb)
  replace XM := Lib.hid (XM.out.later hb)
  replace XC := Lib.hid (XC.out.later hb)
  replace HZ := Lib.hid (HZ.out.later hb)
  replace K := Lib.hid (K.out.then hb)
  clear hb
  go_wp2_with fail
  refine (rminus_any a b u t _ HU.out HT.out A31.out B31.out).mono ?_
  rintro e w6 ⟨y1, rfl, hy, hb⟩
  rw [← HFM.out] at hy
  replace HU := Lib.hid (HU.out.later hb)
  replace HT := Lib.hid (HT.out.later hb)
  replace XM := Lib.hid (XM.out.later hb)
  replace XC := Lib.hid (XC.out.later hb)
  replace K := Lib.hid (K.out.then hb)
  clear hb
  have HZ1 := Lib.hid (hy.at_ (runsA_wf fm))
  clear hy
  go_wp2_with fail
  refine (rsame_any (runsA fm) (runsA fm) xm y1 _ XM.out HZ1.out (HL2.out fm)).mono ?_
  rintro e w7 ⟨rfl, hb⟩
  rw [decide_eq_true rfl]
  replace HU := Lib.hid (HU.out.later hb)
  replace HT := Lib.hid (HT.out.later hb)
  replace XM := Lib.hid (XM.out.later hb)
  replace XC := Lib.hid (XC.out.later hb)
  replace HZ1 := Lib.hid (HZ1.out.later hb)
  replace K := Lib.hid (K.out.then hb)
  clear hb
  go_wp2_with fail
  refine (rcommon_any a b u t _ HU.out HT.out A31.out B31.out).mono ?_
  rintro e w8 ⟨y2, rfl, hy, hb⟩
  rw [← HFC.out] at hy
  replace HU := Lib.hid (HU.out.later hb)
  replace HT := Lib.hid (HT.out.later hb)
  replace XM := Lib.hid (XM.out.later hb)
  replace XC := Lib.hid (XC.out.later hb)
  replace K := Lib.hid (K.out.then hb)
  clear hb
  have HZ2 := Lib.hid (hy.at_ (runsA_wf fc))
  clear hy
  go_wp2_with fail
  refine (rsame_any (runsA fc) (runsA fc) xc y2 _ XC.out HZ2.out (HL2.out fc)).mono ?_
  rintro e w9 ⟨rfl, hb⟩
  rw [decide_eq_true rfl]
  replace HU := Lib.hid (HU.out.later hb)
  replace HT := Lib.hid (HT.out.later hb)
  replace XM := Lib.hid (XM.out.later hb)
  replace XC := Lib.hid (XC.out.later hb)
  replace HZ2 := Lib.hid (HZ2.out.later hb)
  replace K := Lib.hid (K.out.then hb)
  clear hb
  go_wp2_with fail
  refine (AW.out _).mono ?_
  rintro e w10 ⟨rfl, hb⟩
  replace HU := Lib.hid (HU.out.later hb)
  replace HT := Lib.hid (HT.out.later hb)
  replace XM := Lib.hid (XM.out.later hb)
  replace XC := Lib.hid (XC.out.later hb)
  replace K := Lib.hid (K.out.then hb)
  clear hb
  go_wp2_with fail
  refine (HPH.out a u _ HU.out A30.out).mono ?_
  rintro e w11 ⟨p, rfl, hp, hb⟩
  rw [← HFA.out] at hp
  replace HU := Lib.hid (HU.out.later hb)
  replace HT := Lib.hid (HT.out.later hb)
  replace XM := Lib.hid (XM.out.later hb)
  replace XC := Lib.hid (XC.out.later hb)
  replace K := Lib.hid (K.out.then hb)
  clear hb
  have HPP := Lib.hid hp
  clear hp
  go_wp2_with fail
  refine (HJH.out (runsA fm) (runsA fc) xm xc _ XM.out XC.out (HL1.out fm) (HL1.out fc)).mono ?_
  rintro e w12 ⟨z1, rfl, hz, hb⟩
  rw [E1.out] at hz
  replace HU := Lib.hid (HU.out.later hb)
  replace HT := Lib.hid (HT.out.later hb)
  replace XM := Lib.hid (XM.out.later hb)
  replace XC := Lib.hid (XC.out.later hb)
  replace HPP := Lib.hid (HPP.out.later hb)
  replace K := Lib.hid (K.out.then hb)
  clear hb
  have ZZ1 := Lib.hid hz
  clear hz
  go_wp2_with fail
  refine (rsame_any (runsA fa) (runsA fa) z1 p _ ZZ1.out HPP.out (HL2.out fa)).mono ?_
  rintro e w13 ⟨rfl, hb⟩
  rw [decide_eq_true rfl]
  replace HU := Lib.hid (HU.out.later hb)
  replace HT := Lib.hid (HT.out.later hb)
  replace XM := Lib.hid (XM.out.later hb)
  replace XC := Lib.hid (XC.out.later hb)
  replace HPP := Lib.hid (HPP.out.later hb)
  replace ZZ1 := Lib.hid (ZZ1.out.later hb)
  replace K := Lib.hid (K.out.then hb)
  clear hb
  go_wp2_with fail
  refine (HOH.out (runsA fm) (runsA fc) xm xc _ XM.out XC.out (HL1.out fm) (HL1.out fc)).mono ?_
  rintro e w14 ⟨z2, rfl, hz, hb⟩
  rw [E2.out] at hz
  obtain ⟨pz, cz, rfl, -, -⟩ := hz.out
  clear hz
  replace HU := Lib.hid (HU.out.later hb)
  replace HT := Lib.hid (HT.out.later hb)
  replace XM := Lib.hid (XM.out.later hb)
  replace XC := Lib.hid (XC.out.later hb)
  replace HPP := Lib.hid (HPP.out.later hb)
  replace K := Lib.hid (K.out.then hb)
  clear hb
  go_wp2_with fail
  refine (HJH.out a a u u _ HU.out HU.out A30.out A30.out).mono ?_
  rintro e w15 ⟨z3, rfl, hz, hb⟩
  rw [← HFA.out, E3.out] at hz
  replace HU := Lib.hid (HU.out.later hb)
  replace HT := Lib.hid (HT.out.later hb)
  replace XM := Lib.hid (XM.out.later hb)
  replace XC := Lib.hid (XC.out.later hb)
  replace HPP := Lib.hid (HPP.out.later hb)
  replace K := Lib.hid (K.out.then hb)
  clear hb
  have ZZ3 := Lib.hid hz
  clear hz
  go_wp2_with fail
  refine (rsame_any (runsA fa) (runsA fa) z3 p _ ZZ3.out HPP.out (HL2.out fa)).mono ?_
  rintro e w16 ⟨rfl, hb⟩
  rw [decide_eq_true rfl]
  replace HU := Lib.hid (HU.out.later hb)
  replace HT := Lib.hid (HT.out.later hb)
  replace XM := Lib.hid (XM.out.later hb)
  replace XC := Lib.hid (XC.out.later hb)
  replace HPP := Lib.hid (HPP.out.later hb)
  replace ZZ3 := Lib.hid (ZZ3.out.later hb)
  replace K := Lib.hid (K.out.then hb)
  clear hb
  go_wp2_with fail
  refine (HCH.out (runsA fm) xm _ XM.out (HL1.out fm)).mono ?_
  rintro e w17 ⟨rfl, hb⟩
  rw [cntA_again, ← HC1.out]
  replace HU := Lib.hid (HU.out.later hb)
  replace HT := Lib.hid (HT.out.later hb)
  replace XM := Lib.hid (XM.out.later hb)
  replace XC := Lib.hid (XC.out.later hb)
  replace HPP := Lib.hid (HPP.out.later hb)
  replace K := Lib.hid (K.out.then hb)
  clear hb
  go_wp2_with fail
  refine (HCH.out (runsA fc) xc _ XC.out (HL1.out fc)).mono ?_
  rintro e w18 ⟨rfl, hb⟩
  rw [cntA_again, ← HC2.out]
  replace HU := Lib.hid (HU.out.later hb)
  replace HT := Lib.hid (HT.out.later hb)
  replace XM := Lib.hid (XM.out.later hb)
  replace XC := Lib.hid (XC.out.later hb)
  replace HPP := Lib.hid (HPP.out.later hb)
  replace K := Lib.hid (K.out.then hb)
  clear hb
  go_wp2_with fail
  refine (HCH.out a u _ HU.out A30.out).mono ?_
  rintro e w19 ⟨rfl, hb⟩
  rw [← HC3.out]
  replace HU := Lib.hid (HU.out.later hb)
  replace HT := Lib.hid (HT.out.later hb)
  replace XM := Lib.hid (XM.out.later hb)
  replace XC := Lib.hid (XC.out.later hb)
  replace HPP := Lib.hid (HPP.out.later hb)
  replace K := Lib.hid (K.out.then hb)
  clear hb
  go_wp2
  go_ret
  exact ⟨rfl, K.out⟩

theorem lowE_zero {f : Nat → Bool} {n : Int} (h : lowE f n = 0) : 0 ≤ n ∧ n.toNat ≤ cntA f := by
  unfold lowE at h
  split at h
  · cases h
  · split at h
    · cases h
    · omega

set_option maxRecDepth 100000 in
set_option maxHeartbeats 4000000 in
theorem extentLowest_of (HP : XPlainOk) (HM : XMinusOk) (HC : XCountOk) (HL : XLowestOk) (w : World) (v : Value) (l0 : List (Int × Int)) (hv : RunsAt l0 v w) (n : Int) (hn : I64 n) :
    Calls Try.prog 5 #[v, .int .i64 n] w (LawPost w) := by
  have AW := Lib.hid (fun W => xawake_any HP HM W)
  have HMH := Lib.hid HM
  have HCH := Lib.hid HC
  have HLH := Lib.hid HL
  have FW := few_any l0 v w hv
  have h30 := take30 l0
  obtain ⟨l, hl⟩ : ∃ l, l = l0.take 30 := ⟨_, rfl⟩
  rw [← hl] at FW h30
  have HNI := Lib.hid hn
  have H30 : Hid (l.length ≤ 65536) := Lib.hid (by omega)
  have H31 : Hid (l.length ≤ 1048576) := Lib.hid (by omega)
  obtain ⟨er, her⟩ : ∃ er, er = lowE (hasR l) n := ⟨_, rfl⟩
  obtain ⟨ll, hll⟩ : ∃ ll, ll = lowL (hasR l) n := ⟨_, rfl⟩
  have HER := Lib.hid her
  have HLL := Lib.hid hll
  have hl16 : ll.length ≤ 16 := by rw [hll]; exact lowL_len _ _
  have HLA : Hid (ll.length ≤ 65536) := Lib.hid (by omega)
  have HLB : Hid (ll.length ≤ 1048576) := Lib.hid (by omega)
  have x2 : (er != er) = false := by simp
  have K : Hid (Kept w w) := Lib.hid (Kept.refl w)
  clear HP HM HC HL hv hl h30 hn her hll hl16
  go_enter Try.func5, Try.ntmps5
  go_wp2_with fail
  refine FW.mono ?_
  rintro e w0 ⟨⟨u, rfl, hu⟩, rfl⟩
  have HU := Lib.hid hu
  clear FW hu
  go_wp2_with fail
  refine (HLH.out l u _ n HU.out H30.out HNI.out).mono ?_
  rintro e w1 ⟨x, rfl, hx, hb⟩
  rw [← HER.out]
  rw [← HLL.out] at hx
  replace HU := Lib.hid (HU.out.later hb)
  replace K := Lib.hid (K.out.then hb)
  clear hb
  have HX := Lib.hid hx
  clear hx
  go_wp2_with fail
  refine (rlowest_any l u _ HU.out H31.out n HNI.out).mono ?_
  rintro e w2 ⟨y, rfl, hy, hb⟩
  rw [← HER.out]
  rw [← HLL.out] at hy
  replace HU := Lib.hid (HU.out.later hb)
  replace HX := Lib.hid (HX.out.later hb)
  replace K := Lib.hid (K.out.then hb)
  clear hb
  have HZ := Lib.hid (hy.at_ (by rw [HLL.out]; exact lowL_wf _ _))
  clear hy
  go_wp2_with fail
  refine (rsame_any ll ll x y _ HX.out HZ.out HLB.out).mono ?_
  rintro e w3 ⟨rfl, hb⟩
  rw [decide_eq_true rfl]
  replace HU := Lib.hid (HU.out.later hb)
  replace HX := Lib.hid (HX.out.later hb)
  replace HZ := Lib.hid (HZ.out.later hb)
  replace K := Lib.hid (K.out.then hb)
  clear hb
  go_wp2_with fail
  refine (AW.out _).mono ?_
  rintro e w4 ⟨rfl, hb⟩
  replace HU := Lib.hid (HU.out.later hb)
  replace HX := Lib.hid (HX.out.later hb)
  replace K := Lib.hid (K.out.then hb)
  clear hb
  by_cases he : er = 0
  · have hz := lowE_zero (HER.out.symm.trans he)
    obtain ⟨q, rfl⟩ : ∃ q : Nat, n = q := ⟨n.toNat, by omega⟩
    have hle : q ≤ cntA (hasR l) := by have := hz.2; rwa [Int.toNat_natCast] at this
    have hll : ll = runsA (lowF (hasR l) q) := by
      rw [HLL.out]; unfold lowL; rw [if_pos (HER.out.symm.trans he), Int.toNat_natCast]
    have hcn : cntA (hasR ll) = q := by
      rw [hll, cntA_again]
      show cntF (lowF (hasR l) q) mxS = q
      rw [lowF_cnt]
      have : q ≤ cntF (hasR l) mxS := hle
      omega
    have hmi : runsA (fun k => hasR ll k && !hasR l k) = [] := runsA_none (fun k hk => by
      rw [hll, runsA_has _ k hk]
      cases h : lowF (hasR l) q k with
      | false => rfl
      | true => rw [lowF_sub _ _ _ h]; rfl)
    have HCN := Lib.hid hcn
    have HMI := Lib.hid hmi
    have x3 : ((q : Int) == (q : Int)) = true := by simp
    subst he
    clear hz hle hll hcn hmi
    go_wp2_with fail
    refine (HCH.out ll x _ HX.out HLA.out).mono ?_
    rintro e w5 ⟨rfl, hb⟩
    rw [HCN.out]
    replace HU := Lib.hid (HU.out.later hb)
    replace HX := Lib.hid (HX.out.later hb)
    replace K := Lib.hid (K.out.then hb)
    clear hb
    go_wp2_with fail
    refine (HMH.out ll l x u _ HX.out HU.out HLA.out H30.out).mono ?_
    rintro e w6 ⟨z, rfl, hz, hb⟩
    rw [HMI.out] at hz
    obtain ⟨pz, cz, rfl, -, -⟩ := hz.out
    clear hz
    replace HU := Lib.hid (HU.out.later hb)
    replace HX := Lib.hid (HX.out.later hb)
    replace K := Lib.hid (K.out.then hb)
    clear hb
    go_wp2
    go_ret
    exact ⟨rfl, K.out⟩
  · have be : (er != 0) = true := bne_iff_ne.2 he
    clear he
    go_wp2
    go_ret
    exact ⟨rfl, K.out⟩

set_option maxRecDepth 100000 in
set_option maxHeartbeats 4000000 in
theorem extentNobody_of (HP : XPlainOk) (HM : XMinusOk) (HN : XNilOk) (w : World) (n : Int) (v : Value) (l0 : List (Int × Int)) (hv : RunsAt l0 v w) :
    Calls Try.prog 8 #[.int .i64 n, v] w (LawPost w) := by
  have AW := Lib.hid (fun W => xawake_any HP HM W)
  have N1 := Lib.hid HN.1
  have N2 := Lib.hid HN.2.1
  have N3 := Lib.hid HN.2.2.1
  have N4 := Lib.hid HN.2.2.2.1
  have N5 := Lib.hid HN.2.2.2.2
  obtain ⟨p, c, rfl, -, -⟩ := hv.out
  obtain ⟨nl, hnl⟩ : ∃ nl, nl = l0.length := ⟨_, rfl⟩
  rw [← hnl]
  have K : Hid (Kept w w) := Lib.hid (Kept.refl w)
  clear HP HM HN hv hnl
  go_enter Try.func8, Try.ntmps8
  go_wp2_with fail
  refine (N1.out n _).mono ?_
  rintro e w1 ⟨⟨pa, ca, rfl⟩, hb⟩
  replace K := Lib.hid (K.out.then hb)
  clear hb
  go_wp2_with fail
  refine (N2.out _ _ _ _).mono ?_
  rintro e w2 ⟨rfl, hb⟩
  replace K := Lib.hid (K.out.then hb)
  clear hb
  go_wp2_with fail
  refine (N3.out _ _ _ _).mono ?_
  rintro e w3 ⟨rfl, hb⟩
  replace K := Lib.hid (K.out.then hb)
  clear hb
  go_wp2_with fail
  refine (N4.out _).mono ?_
  rintro e w4 ⟨⟨pb, cb, rfl⟩, hb⟩
  replace K := Lib.hid (K.out.then hb)
  clear hb
  go_wp2_with fail
  refine (N5.out _).mono ?_
  rintro e w5 ⟨rfl, hb⟩
  replace K := Lib.hid (K.out.then hb)
  clear hb
  go_wp2_with fail
  refine (AW.out _).mono ?_
  rintro e w6 ⟨rfl, hb⟩
  replace K := Lib.hid (K.out.then hb)
  clear hb
  go_wp2
  go_ret
  exact ⟨rfl, K.out⟩

end Go.Proofs.Ytkdodffnakdckaa
