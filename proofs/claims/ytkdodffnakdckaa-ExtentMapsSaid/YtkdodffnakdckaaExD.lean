/- The law ExtentBack out of the contracts. -/
import Derived.Test.YtkdodffnakdckaaExC
namespace Go.Proofs.Ytkdodffnakdckaa
open Go.RowKit

theorem wf_u16 {i : Int} (h : (Lit.int .u16 i).wf = true) : 0 ≤ i ∧ i ≤ 65535 := by
  simpa [Lit.wf, IntKind.min, IntKind.max, IntKind.signed, IntKind.bits] using h

set_option maxRecDepth 100000 in
set_option maxHeartbeats 4000000 in
theorem extentBack_of (HP : XPlainOk) (HM : XMinusOk) (HN : XNewOk) (w : World) (a : Int) (wa : (Lit.int .u16 a).wf = true) (v : Value) (l0 : List (Int × Int)) (hv : RunsAt l0 v w) (n : Int) (wn : (Lit.int .u16 n).wf = true) (k : Int) (wk : (Lit.int .u16 k).wf = true) :
    Calls Try.prog 7 #[.int .u16 a, v, .int .u16 n, .int .u16 k] w (LawPost w) := by
  have AW := Lib.hid (fun W => xawake_any HP HM W)
  have ha := wf_u16 wa
  have hn := wf_u16 wn
  have hk := wf_u16 wk
  obtain ⟨A, rfl⟩ : ∃ A : Nat, a = A := ⟨a.toNat, by omega⟩
  obtain ⟨n, rfl⟩ : ∃ m : Nat, n = m := ⟨n.toNat, by omega⟩
  obtain ⟨k, rfl⟩ : ∃ m : Nat, k = m := ⟨k.toNat, by omega⟩
  obtain ⟨q, hq⟩ : ∃ q, q = A % 8193 := ⟨_, rfl⟩
  have r1 : ((A : Int)).tmod 8193 = (q : Int) := by rw [hq]; rfl
  have hq8 : q ≤ 8192 := by omega
  have v1 : IntKind.i64.wrap (q : Int) = (q : Int) := IntWalk.i64_in _ (by omega)
  have v2 : IntKind.i64.wrap (n : Int) = (n : Int) := IntWalk.i64_in _ (by omega)
  have v3 : IntKind.i64.wrap (k : Int) = (k : Int) := IntWalk.i64_in _ (by omega)
  have HNI : Hid (I64 (n : Int)) := Lib.hid ⟨by omega, by omega⟩
  have HKI : Hid (I64 (k : Int)) := Lib.hid ⟨by omega, by omega⟩
  have x1 : ((n : Int) != (n : Int)) = false := by simp
  have x2 : ((k : Int) != (k : Int)) = false := by simp
  have h30 := take30 l0
  have HU0 := Lib.hid (fewV_at hv)
  obtain ⟨u, hu⟩ : ∃ u, u = fewV l0 v := ⟨_, rfl⟩
  have FW := Lib.hid (fun W (h : Kept w W) => few_val l0 v W (hv.later h))
  rw [← hu] at FW HU0
  obtain ⟨l, hl⟩ : ∃ l, l = l0.take 30 := ⟨_, rfl⟩
  rw [← hl] at HU0 h30
  have H30 : Hid (l.length ≤ 65536) := Lib.hid (by omega)
  have NW := HN 0 (q : Int) w ⟨by omega, by omega⟩ ⟨by omega, by omega⟩
  have HQ8 := Lib.hid hq8
  clear HP HM HN hv ha hn hk wa wn wk hu hl h30 hq hq8
  go_enter Try.func7, Try.ntmps7
  go_wp2_with fail
  refine NW.mono ?_
  rintro e w1 ⟨hb, hx⟩
  rcases hx with ⟨hbad, -⟩ | ⟨-, ad, P, Bs, rfl, hD, hp⟩
  · exfalso; have := HQ8.out; omega
  have HD := Lib.hid hD
  have K : Hid (Kept w w1) := Lib.hid hb
  have e0 : (⟨(0 : Int).toNat, (q : Int).toNat, fun _ => false⟩ : Mp) = ⟨0, q, fun _ => false⟩ := by rw [Int.toNat_natCast]; rfl
  rw [e0] at hp
  have OK0 : Hid ((⟨0, q, fun _ => false⟩ : Mp).ok) := Lib.hid ⟨Nat.zero_le _, HQ8.out⟩
  obtain ⟨s0, hs0⟩ : ∃ s0 : Mp, s0 = ⟨0, q, fun _ => false⟩ := ⟨_, rfl⟩
  rw [← hs0] at hp OK0
  have HU : Hid (LiveAt l u Bs w1) := Lib.hid ((LiveAt.old HU0.out (fun j hj => (hD.above _ _ _ hp j hj).1)).later hb)
  have HPQ := Lib.hid hp
  clear NW hb hD hp e0 hs0 HU0
  go_wp2_with fail
  refine (FW.out w1 K.out).mono ?_
  rintro e w' ⟨rfl, rfl⟩
  clear FW
  go_wp2_with fail
  refine (HD.out.hold s0 Bs _ l u HPQ.out OK0.out HU.out.at_ H30.out HU.out.apart).mono ?_
  rintro e w2 ⟨Bs2, rfl, hp, hsub, hbut⟩
  replace K : Hid (Kept w _) := Lib.hid (ButBy.kept hbut (fun j hj => (HD.out.above _ _ _ HPQ.out j hj).1) K.out K.out.size)
  replace HPQ := Lib.hid hp
  clear hp hsub hbut
  obtain ⟨s1, hs1⟩ : ∃ s1, s1 = holdS s0 l := ⟨_, rfl⟩
  have OK1 : Hid (s1.ok) := Lib.hid (by rw [hs1]; exact holdS_ok OK0.out l)
  rw [← hs1] at HPQ
  clear hs1 HU
  go_wp2_with fail
  refine (HD.out.free s1 Bs2 _ HPQ.out OK1.out).mono ?_
  rintro e w3 ⟨old, rfl, ho, hap, hb⟩
  replace HPQ := Lib.hid (HD.out.kept HPQ.out hb)
  replace K := Lib.hid (K.out.then hb)
  clear hb
  have HO : Hid (LiveAt (runsA (freeF s1)) old Bs2 _) := Lib.hid ⟨ho, hap⟩
  clear ho hap
  go_wp2_with fail
  refine (HD.out.take s1 Bs2 _ (n : Int) HPQ.out OK1.out HNI.out).mono ?_
  rintro e w4 ⟨y1, Bs3, rfl, hy, hap, -, hp, hsub, hbut⟩
  replace HO := Lib.hid (HO.out.turn hsub hbut)
  replace K : Hid (Kept w _) := Lib.hid (ButBy.kept hbut (fun j hj => (HD.out.above _ _ _ HPQ.out j hj).1) K.out K.out.size)
  replace HPQ := Lib.hid hp
  have HY1 : Hid (LiveAt (takeL s1 (n : Int)) y1 Bs3 _) := Lib.hid ⟨hy, hap⟩
  clear hy hap
  clear hp hsub hbut
  obtain ⟨s2, hs2⟩ : ∃ s2, s2 = takeS s1 (n : Int) := ⟨_, rfl⟩
  have OK2 : Hid (s2.ok) := Lib.hid (by rw [hs2]; exact takeS_ok OK1.out _)
  have HS2 := Lib.hid hs2
  rw [← hs2] at HPQ
  clear hs2
  go_wp2_with fail
  refine (HD.out.take s2 Bs3 _ (k : Int) HPQ.out OK2.out HKI.out).mono ?_
  rintro e w5 ⟨y2, Bs4, rfl, hy, hap, -, hp, hsub, hbut⟩
  replace HO := Lib.hid (HO.out.turn hsub hbut)
  replace HY1 := Lib.hid (HY1.out.turn hsub hbut)
  replace K : Hid (Kept w _) := Lib.hid (ButBy.kept hbut (fun j hj => (HD.out.above _ _ _ HPQ.out j hj).1) K.out K.out.size)
  replace HPQ := Lib.hid hp
  have HY2 : Hid (LiveAt (takeL s2 (k : Int)) y2 Bs4 _) := Lib.hid ⟨hy, hap⟩
  clear hy hap
  clear hp hsub hbut
  obtain ⟨s3, hs3⟩ : ∃ s3, s3 = takeS s2 (k : Int) := ⟨_, rfl⟩
  have OK3 : Hid (s3.ok) := Lib.hid (by rw [hs3]; exact takeS_ok OK2.out _)
  have HS3 := Lib.hid hs3
  rw [← hs3] at HPQ
  clear hs3
  have LA : Hid ((takeL s1 (n : Int)).length ≤ 65536) := Lib.hid (Nat.le_trans (lowL_len _ _) (by omega))
  have LB : Hid ((takeL s2 (k : Int)).length ≤ 65536) := Lib.hid (Nat.le_trans (lowL_len _ _) (by omega))
  have LA1 : Hid ((takeL s1 (n : Int)).length ≤ 1048576) := Lib.hid (Nat.le_trans (lowL_len _ _) (by omega))
  have LB1 : Hid ((takeL s2 (k : Int)).length ≤ 1048576) := Lib.hid (Nat.le_trans (lowL_len _ _) (by omega))
  have LO : Hid ((runsA (freeF s1)).length ≤ 1048576) := Lib.hid (Nat.le_trans (runsA_len _) (by omega))
  obtain ⟨e1, he1⟩ : ∃ e1, e1 = takeE s1 (n : Int) := ⟨_, rfl⟩
  obtain ⟨e2, he2⟩ : ∃ e2, e2 = takeE s2 (k : Int) := ⟨_, rfl⟩
  rw [← he1, ← he2]
  have HE1 := Lib.hid he1
  have HE2 := Lib.hid he2
  clear he1 he2
  by_cases h1 : e1 = 0
  · subst h1
    by_cases h2 : e2 = 0
    · subst h2
      have TF1 := Lib.hid (takeL_facts (s := s1) (n : Int) HE1.out.symm)
      have TF2 := Lib.hid (takeL_facts (s := s2) (k : Int) HE2.out.symm)
      have CM : Hid (runsA (fun j => hasR (takeL s1 (n : Int)) j && hasR (takeL s2 (k : Int)) j) = []) := Lib.hid (by have h := take_apart (s := s1) (n : Int) (k : Int) HE1.out.symm (by rw [← HS2.out]; exact HE2.out.symm); rw [← HS2.out] at h; exact h)
      go_wp2_with fail
      refine (rcommon_any (takeL s1 (n : Int)) (takeL s2 (k : Int)) y1 y2 _ HY1.out.at_ HY2.out.at_ LA1.out LB1.out).mono ?_
      rintro e w6 ⟨c, rfl, hc, hb⟩
      rw [CM.out] at hc
      obtain ⟨pc, cc, hce, -, -⟩ := own_slice hc
      subst hce
      clear hc
      replace HO := Lib.hid (HO.out.later hb)
      replace HY1 := Lib.hid (HY1.out.later hb)
      replace HY2 := Lib.hid (HY2.out.later hb)
      replace HPQ := Lib.hid (HD.out.kept HPQ.out hb)
      replace K := Lib.hid (K.out.then hb)
      clear hb
      go_wp2_with fail
      refine (rcount_any (takeL s1 (n : Int)) y1 _ HY1.out.at_ LA1.out).mono ?_
      rintro e w7 ⟨rfl, hb⟩
      rw [TF1.out.2.1, Int.toNat_natCast]
      replace HO := Lib.hid (HO.out.later hb)
      replace HY1 := Lib.hid (HY1.out.later hb)
      replace HY2 := Lib.hid (HY2.out.later hb)
      replace HPQ := Lib.hid (HD.out.kept HPQ.out hb)
      replace K := Lib.hid (K.out.then hb)
      clear hb
      go_wp2_with fail
      refine (rcount_any (takeL s2 (k : Int)) y2 _ HY2.out.at_ LB1.out).mono ?_
      rintro e w8 ⟨rfl, hb⟩
      rw [TF2.out.2.1, Int.toNat_natCast]
      replace HO := Lib.hid (HO.out.later hb)
      replace HY1 := Lib.hid (HY1.out.later hb)
      replace HY2 := Lib.hid (HY2.out.later hb)
      replace HPQ := Lib.hid (HD.out.kept HPQ.out hb)
      replace K := Lib.hid (K.out.then hb)
      clear hb
      have B2 := Lib.hid (back_fine (s := s2) (t := s3) (k : Int) HE2.out.symm (by rw [HS3.out]; exact Mp.same.refl _))
      go_wp2_with fail
      refine (HD.out.give s3 _ _ (takeL s2 (k : Int)) y2 HPQ.out OK3.out HY2.out.at_ LB.out HY2.out.apart).mono ?_
      rintro e w9 ⟨Bs5, rfl, hp, hsub, hbut⟩
      replace HO := Lib.hid (HO.out.turn hsub hbut)
      replace HY1 := Lib.hid (HY1.out.turn hsub hbut)
      replace HY2 := Lib.hid (HY2.out.turn hsub hbut)
      replace K : Hid (Kept w _) := Lib.hid (ButBy.kept hbut (fun j hj => (HD.out.above _ _ _ HPQ.out j hj).1) K.out K.out.size)
      replace HPQ := Lib.hid hp
      rw [B2.out.1]
      clear hp hsub hbut
      obtain ⟨s4, hs4⟩ : ∃ s4, s4 = giveS s3 (takeL s2 (k : Int)) := ⟨_, rfl⟩
      have OK4 : Hid (s4.ok) := Lib.hid (by rw [hs4]; exact giveS_ok OK3.out _)
      have SM4 : Hid (s4.same s2) := Lib.hid (by rw [hs4]; exact B2.out.2)
      rw [← hs4] at HPQ
      clear hs4 HY2
      have B1 := Lib.hid (back_fine (s := s1) (t := s4) (n : Int) HE1.out.symm (by rw [← HS2.out]; exact SM4.out))
      go_wp2_with fail
      refine (HD.out.give s4 _ _ (takeL s1 (n : Int)) y1 HPQ.out OK4.out HY1.out.at_ LA.out HY1.out.apart).mono ?_
      rintro e w10 ⟨Bs6, rfl, hp, hsub, hbut⟩
      replace HO := Lib.hid (HO.out.turn hsub hbut)
      replace HY1 := Lib.hid (HY1.out.turn hsub hbut)
      replace K : Hid (Kept w _) := Lib.hid (ButBy.kept hbut (fun j hj => (HD.out.above _ _ _ HPQ.out j hj).1) K.out K.out.size)
      replace HPQ := Lib.hid hp
      rw [B1.out.1]
      clear hp hsub hbut
      obtain ⟨s5, hs5⟩ : ∃ s5, s5 = giveS s4 (takeL s1 (n : Int)) := ⟨_, rfl⟩
      have OK5 : Hid (s5.ok) := Lib.hid (by rw [hs5]; exact giveS_ok OK4.out _)
      have HSM : Hid (s5.same s1) := Lib.hid (by rw [hs5]; exact B1.out.2)
      rw [← hs5] at HPQ
      clear hs5 HY1
      have fr5 := HSM.out.free
      have F5 := Lib.hid fr5
      clear fr5
      go_wp2_with fail
      refine (HD.out.free s5 _ _ HPQ.out OK5.out).mono ?_
      rintro e w11 ⟨z, rfl, hz, hap, hb⟩
      rw [F5.out.1] at hz
      replace HO := Lib.hid (HO.out.later hb)
      replace HPQ := Lib.hid (HD.out.kept HPQ.out hb)
      replace K := Lib.hid (K.out.then hb)
      clear hb
      have HZ := Lib.hid hz
      clear hz hap
      go_wp2_with fail
      refine (rsame_any (runsA (freeF s1)) (runsA (freeF s1)) z old _ HZ.out HO.out.at_ LO.out).mono ?_
      rintro e w12 ⟨rfl, hb⟩
      rw [decide_eq_true rfl]
      replace HO := Lib.hid (HO.out.later hb)
      replace HZ := Lib.hid (HZ.out.later hb)
      replace HPQ := Lib.hid (HD.out.kept HPQ.out hb)
      replace K := Lib.hid (K.out.then hb)
      clear hb
      go_wp2_with fail
      refine (HD.out.room s5 _ _ HPQ.out OK5.out).mono ?_
      rintro e w13 ⟨rfl, hb⟩
      rw [F5.out.2]
      replace HO := Lib.hid (HO.out.later hb)
      replace HPQ := Lib.hid (HD.out.kept HPQ.out hb)
      replace K := Lib.hid (K.out.then hb)
      clear hb
      go_wp2_with fail
      refine (rcount_any (runsA (freeF s1)) old _ HO.out.at_ LO.out).mono ?_
      rintro e w14 ⟨rfl, hb⟩
      rw [cntA_again]
      obtain ⟨ct, hct⟩ : ∃ ct, ct = cntA (freeF s1) := ⟨_, rfl⟩
      rw [← hct]
      have x9 : ((ct : Int) == (ct : Int)) = true := by simp
      clear hct
      replace HO := Lib.hid (HO.out.later hb)
      replace HPQ := Lib.hid (HD.out.kept HPQ.out hb)
      replace K := Lib.hid (K.out.then hb)
      clear hb
      go_wp2_with fail
      refine (AW.out _).mono ?_
      rintro e w15 ⟨rfl, hb⟩
      replace HO := Lib.hid (HO.out.later hb)
      replace HPQ := Lib.hid (HD.out.kept HPQ.out hb)
      replace K := Lib.hid (K.out.then hb)
      clear hb
      go_wp2
      go_ret
      exact ⟨rfl, K.out⟩
    · skip
      have TF1 := Lib.hid (takeL_facts (s := s1) (n : Int) HE1.out.symm)
      have SM4 : Hid (s3.same s2) := Lib.hid (by rw [HS3.out, takeS_no _ (fun x => h2 (HE2.out.trans x))]; exact Mp.same.refl _)
      have OK4 := OK3
      have be2 : (e2 == 0) = false := beq_eq_false_iff_ne.2 h2
      have B1 := Lib.hid (back_fine (s := s1) (t := s3) (n : Int) HE1.out.symm (by rw [← HS2.out]; exact SM4.out))
      go_wp2_with fail
      refine (HD.out.give s3 _ _ (takeL s1 (n : Int)) y1 HPQ.out OK4.out HY1.out.at_ LA.out HY1.out.apart).mono ?_
      rintro e w6 ⟨Bs6, rfl, hp, hsub, hbut⟩
      replace HO := Lib.hid (HO.out.turn hsub hbut)
      replace HY1 := Lib.hid (HY1.out.turn hsub hbut)
      replace HY2 := Lib.hid (HY2.out.turn hsub hbut)
      replace K : Hid (Kept w _) := Lib.hid (ButBy.kept hbut (fun j hj => (HD.out.above _ _ _ HPQ.out j hj).1) K.out K.out.size)
      replace HPQ := Lib.hid hp
      rw [B1.out.1]
      clear hp hsub hbut
      obtain ⟨s5, hs5⟩ : ∃ s5, s5 = giveS s3 (takeL s1 (n : Int)) := ⟨_, rfl⟩
      have OK5 : Hid (s5.ok) := Lib.hid (by rw [hs5]; exact giveS_ok OK4.out _)
      have HSM : Hid (s5.same s1) := Lib.hid (by rw [hs5]; exact B1.out.2)
      rw [← hs5] at HPQ
      clear hs5 HY1
      have fr5 := HSM.out.free
      have F5 := Lib.hid fr5
      clear fr5
      go_wp2_with fail
      refine (HD.out.free s5 _ _ HPQ.out OK5.out).mono ?_
      rintro e w7 ⟨z, rfl, hz, hap, hb⟩
      rw [F5.out.1] at hz
      replace HO := Lib.hid (HO.out.later hb)
      replace HY2 := Lib.hid (HY2.out.later hb)
      replace HPQ := Lib.hid (HD.out.kept HPQ.out hb)
      replace K := Lib.hid (K.out.then hb)
      clear hb
      have HZ := Lib.hid hz
      clear hz hap
      go_wp2_with fail
      refine (rsame_any (runsA (freeF s1)) (runsA (freeF s1)) z old _ HZ.out HO.out.at_ LO.out).mono ?_
      rintro e w8 ⟨rfl, hb⟩
      rw [decide_eq_true rfl]
      replace HO := Lib.hid (HO.out.later hb)
      replace HY2 := Lib.hid (HY2.out.later hb)
      replace HZ := Lib.hid (HZ.out.later hb)
      replace HPQ := Lib.hid (HD.out.kept HPQ.out hb)
      replace K := Lib.hid (K.out.then hb)
      clear hb
      go_wp2_with fail
      refine (HD.out.room s5 _ _ HPQ.out OK5.out).mono ?_
      rintro e w9 ⟨rfl, hb⟩
      rw [F5.out.2]
      replace HO := Lib.hid (HO.out.later hb)
      replace HY2 := Lib.hid (HY2.out.later hb)
      replace HPQ := Lib.hid (HD.out.kept HPQ.out hb)
      replace K := Lib.hid (K.out.then hb)
      clear hb
      go_wp2_with fail
      refine (rcount_any (runsA (freeF s1)) old _ HO.out.at_ LO.out).mono ?_
      rintro e w10 ⟨rfl, hb⟩
      rw [cntA_again]
      obtain ⟨ct, hct⟩ : ∃ ct, ct = cntA (freeF s1) := ⟨_, rfl⟩
      rw [← hct]
      have x9 : ((ct : Int) == (ct : Int)) = true := by simp
      clear hct
      replace HO := Lib.hid (HO.out.later hb)
      replace HY2 := Lib.hid (HY2.out.later hb)
      replace HPQ := Lib.hid (HD.out.kept HPQ.out hb)
      replace K := Lib.hid (K.out.then hb)
      clear hb
      go_wp2_with fail
      refine (AW.out _).mono ?_
      rintro e w11 ⟨rfl, hb⟩
      replace HO := Lib.hid (HO.out.later hb)
      replace HY2 := Lib.hid (HY2.out.later hb)
      replace HPQ := Lib.hid (HD.out.kept HPQ.out hb)
      replace K := Lib.hid (K.out.then hb)
      clear hb
      go_wp2
      go_ret
      exact ⟨rfl, K.out⟩
  · by_cases h2 : e2 = 0
    · subst h2
      have TF2 := Lib.hid (takeL_facts (s := s2) (k : Int) HE2.out.symm)
      have B2 := Lib.hid (back_fine (s := s2) (t := s3) (k : Int) HE2.out.symm (by rw [HS3.out]; exact Mp.same.refl _))
      go_wp2_with fail
      refine (HD.out.give s3 _ _ (takeL s2 (k : Int)) y2 HPQ.out OK3.out HY2.out.at_ LB.out HY2.out.apart).mono ?_
      rintro e w6 ⟨Bs5, rfl, hp, hsub, hbut⟩
      replace HO := Lib.hid (HO.out.turn hsub hbut)
      replace HY1 := Lib.hid (HY1.out.turn hsub hbut)
      replace HY2 := Lib.hid (HY2.out.turn hsub hbut)
      replace K : Hid (Kept w _) := Lib.hid (ButBy.kept hbut (fun j hj => (HD.out.above _ _ _ HPQ.out j hj).1) K.out K.out.size)
      replace HPQ := Lib.hid hp
      rw [B2.out.1]
      clear hp hsub hbut
      obtain ⟨s4, hs4⟩ : ∃ s4, s4 = giveS s3 (takeL s2 (k : Int)) := ⟨_, rfl⟩
      have OK4 : Hid (s4.ok) := Lib.hid (by rw [hs4]; exact giveS_ok OK3.out _)
      have SM4 : Hid (s4.same s2) := Lib.hid (by rw [hs4]; exact B2.out.2)
      rw [← hs4] at HPQ
      clear hs4 HY2
      have HSM : Hid (s4.same s1) := Lib.hid (by have h := SM4.out; rw [HS2.out, takeS_no _ (fun x => h1 (HE1.out.trans x))] at h; exact h)
      have OK5 := OK4
      have be1 : (e1 == 0) = false := beq_eq_false_iff_ne.2 h1
      have fr5 := HSM.out.free
      have F5 := Lib.hid fr5
      clear fr5
      go_wp2_with fail
      refine (HD.out.free s4 _ _ HPQ.out OK5.out).mono ?_
      rintro e w7 ⟨z, rfl, hz, hap, hb⟩
      rw [F5.out.1] at hz
      replace HO := Lib.hid (HO.out.later hb)
      replace HY1 := Lib.hid (HY1.out.later hb)
      replace HPQ := Lib.hid (HD.out.kept HPQ.out hb)
      replace K := Lib.hid (K.out.then hb)
      clear hb
      have HZ := Lib.hid hz
      clear hz hap
      go_wp2_with fail
      refine (rsame_any (runsA (freeF s1)) (runsA (freeF s1)) z old _ HZ.out HO.out.at_ LO.out).mono ?_
      rintro e w8 ⟨rfl, hb⟩
      rw [decide_eq_true rfl]
      replace HO := Lib.hid (HO.out.later hb)
      replace HY1 := Lib.hid (HY1.out.later hb)
      replace HZ := Lib.hid (HZ.out.later hb)
      replace HPQ := Lib.hid (HD.out.kept HPQ.out hb)
      replace K := Lib.hid (K.out.then hb)
      clear hb
      go_wp2_with fail
      refine (HD.out.room s4 _ _ HPQ.out OK5.out).mono ?_
      rintro e w9 ⟨rfl, hb⟩
      rw [F5.out.2]
      replace HO := Lib.hid (HO.out.later hb)
      replace HY1 := Lib.hid (HY1.out.later hb)
      replace HPQ := Lib.hid (HD.out.kept HPQ.out hb)
      replace K := Lib.hid (K.out.then hb)
      clear hb
      go_wp2_with fail
      refine (rcount_any (runsA (freeF s1)) old _ HO.out.at_ LO.out).mono ?_
      rintro e w10 ⟨rfl, hb⟩
      rw [cntA_again]
      obtain ⟨ct, hct⟩ : ∃ ct, ct = cntA (freeF s1) := ⟨_, rfl⟩
      rw [← hct]
      have x9 : ((ct : Int) == (ct : Int)) = true := by simp
      clear hct
      replace HO := Lib.hid (HO.out.later hb)
      replace HY1 := Lib.hid (HY1.out.later hb)
      replace HPQ := Lib.hid (HD.out.kept HPQ.out hb)
      replace K := Lib.hid (K.out.then hb)
      clear hb
      go_wp2_with fail
      refine (AW.out _).mono ?_
      rintro e w11 ⟨rfl, hb⟩
      replace HO := Lib.hid (HO.out.later hb)
      replace HY1 := Lib.hid (HY1.out.later hb)
      replace HPQ := Lib.hid (HD.out.kept HPQ.out hb)
      replace K := Lib.hid (K.out.then hb)
      clear hb
      go_wp2
      go_ret
      exact ⟨rfl, K.out⟩
    · skip
      have SM4 : Hid (s3.same s2) := Lib.hid (by rw [HS3.out, takeS_no _ (fun x => h2 (HE2.out.trans x))]; exact Mp.same.refl _)
      have OK4 := OK3
      have be2 : (e2 == 0) = false := beq_eq_false_iff_ne.2 h2
      have HSM : Hid (s3.same s1) := Lib.hid (by have h := SM4.out; rw [HS2.out, takeS_no _ (fun x => h1 (HE1.out.trans x))] at h; exact h)
      have OK5 := OK4
      have be1 : (e1 == 0) = false := beq_eq_false_iff_ne.2 h1
      have fr5 := HSM.out.free
      have F5 := Lib.hid fr5
      clear fr5
      go_wp2_with fail
      refine (HD.out.free s3 _ _ HPQ.out OK5.out).mono ?_
      rintro e w6 ⟨z, rfl, hz, hap, hb⟩
      rw [F5.out.1] at hz
      replace HO := Lib.hid (HO.out.later hb)
      replace HY1 := Lib.hid (HY1.out.later hb)
      replace HY2 := Lib.hid (HY2.out.later hb)
      replace HPQ := Lib.hid (HD.out.kept HPQ.out hb)
      replace K := Lib.hid (K.out.then hb)
      clear hb
      have HZ := Lib.hid hz
      clear hz hap
      go_wp2_with fail
      refine (rsame_any (runsA (freeF s1)) (runsA (freeF s1)) z old _ HZ.out HO.out.at_ LO.out).mono ?_
      rintro e w7 ⟨rfl, hb⟩
      rw [decide_eq_true rfl]
      replace HO := Lib.hid (HO.out.later hb)
      replace HY1 := Lib.hid (HY1.out.later hb)
      replace HY2 := Lib.hid (HY2.out.later hb)
      replace HZ := Lib.hid (HZ.out.later hb)
      replace HPQ := Lib.hid (HD.out.kept HPQ.out hb)
      replace K := Lib.hid (K.out.then hb)
      clear hb
      go_wp2_with fail
      refine (HD.out.room s3 _ _ HPQ.out OK5.out).mono ?_
      rintro e w8 ⟨rfl, hb⟩
      rw [F5.out.2]
      replace HO := Lib.hid (HO.out.later hb)
      replace HY1 := Lib.hid (HY1.out.later hb)
      replace HY2 := Lib.hid (HY2.out.later hb)
      replace HPQ := Lib.hid (HD.out.kept HPQ.out hb)
      replace K := Lib.hid (K.out.then hb)
      clear hb
      go_wp2_with fail
      refine (rcount_any (runsA (freeF s1)) old _ HO.out.at_ LO.out).mono ?_
      rintro e w9 ⟨rfl, hb⟩
      rw [cntA_again]
      obtain ⟨ct, hct⟩ : ∃ ct, ct = cntA (freeF s1) := ⟨_, rfl⟩
      rw [← hct]
      have x9 : ((ct : Int) == (ct : Int)) = true := by simp
      clear hct
      replace HO := Lib.hid (HO.out.later hb)
      replace HY1 := Lib.hid (HY1.out.later hb)
      replace HY2 := Lib.hid (HY2.out.later hb)
      replace HPQ := Lib.hid (HD.out.kept HPQ.out hb)
      replace K := Lib.hid (K.out.then hb)
      clear hb
      go_wp2_with fail
      refine (AW.out _).mono ?_
      rintro e w10 ⟨rfl, hb⟩
      replace HO := Lib.hid (HO.out.later hb)
      replace HY1 := Lib.hid (HY1.out.later hb)
      replace HY2 := Lib.hid (HY2.out.later hb)
      replace HPQ := Lib.hid (HD.out.kept HPQ.out hb)
      replace K := Lib.hid (K.out.then hb)
      clear hb
      go_wp2
      go_ret
      exact ⟨rfl, K.out⟩

end Go.Proofs.Ytkdodffnakdckaa
