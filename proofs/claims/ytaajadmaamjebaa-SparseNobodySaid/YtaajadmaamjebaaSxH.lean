/- The document's Hooks, Same. -/
import Derived.Test.YtaajadmaamjebaaGI
import Derived.Test.YtaajadmaamjebaaHE
namespace Go.Proofs.Ytaajadmaamjebaa
open Go.RowKit

set_option maxRecDepth 100000 in
set_option maxHeartbeats 8000000 in
theorem rhooks17_any (E : Nat → Prop) (g : Nat) (per most : Int) (A : List (SRow × Value)) (tv : Value) (w : World) (H : IxAt E g per most A tv w) (hr : A.length ≤ 1000000) :
    Calls Try.prog 25 #[.pointer (some ⟨g, 0, none⟩)] w fun e w' => ∃ v, e = .returned v ∧ FpsAt 32 ((A.map Prod.fst).map Prod.fst) v w' ∧ Kept w w' := by
  obtain ⟨ti, hi, hi1, hi2, tz, hz, hzs⟩ := info_fp
  obtain ⟨p, c, rfl⟩ := H.in_.cut
  obtain ⟨n, hn⟩ : ∃ n, n = A.length := ⟨_, rfl⟩
  rw [← hn] at H
  have HN := Lib.hid hn
  have HH := Lib.hid H
  obtain ⟨R, hR⟩ : ∃ R, R = (A.map Prod.fst).map Prod.fst := ⟨_, rfl⟩
  rw [← hR]
  have HR := Lib.hid hR
  have HRN : Hid (R.length = n ∧ n ≤ 1000000) := Lib.hid ⟨by rw [hR, List.length_map, List.length_map, hn], by omega⟩
  have HA32 : Hid (All32 R) := Lib.hid (fun l hl => by
    rw [hR] at hl
    obtain ⟨x, hx, rfl⟩ := List.mem_map.1 hl
    obtain ⟨a, ha, rfl⟩ := List.mem_map.1 hx
    exact (H.in_.rows.good a ha).1)
  clear hn H hR hr
  go_enter Try.func25, Try.ntmps25
  go_wp2
  go_loopg [3, 4] n (fun gh y3 y4 wr => ∃ (k : Nat), k + gh = n ∧ y4 = .int .i64 k ∧ Hid (wr.ownsRow w.heap.size 47 32 y3 k (flatL (R.take k))) ∧ Hid (Kept w wr))
  case atStart => exact ⟨0, by omega, rfl, Lib.hid (World.ownsRow_nil _ _ _ _), Lib.hid (Below.refl _ w)⟩
  case round =>
    obtain ⟨k, hk, rfl, HOW, HK⟩ := hrel
    have HI := Lib.hid (HH.out.later HK.out)
    have e2 := HI.out.c2
    obtain ⟨pv, cv, htv, -, -⟩ := own_slice HOW.out
    subst htv
    by_cases hlt : k < n
    · have hki : (k : Int) < n := by omega
      have bk : decide ((k : Int) < (n : Int)) = true := by simpa using hki
      have hkA : k < A.length := by rw [← HN.out]; exact hlt
      have hkR : k < R.length := by rw [HRN.out.1]; exact hlt
      obtain ⟨b, off, cs, t, fr, hp, hel⟩ := HI.out.in_.elem (g := g) HN.out hlt
      have IX := fun W => idx_rec (P := Try.prog) Try.underlying30 (fun w => Try.sizeOf73 w) b off n c k hlt W
      have ok := HI.out.in_.rows.good _ (List.getElem_mem hkA)
      have hRk : R[k] = A[k].1.1 := by simp [HR.out]
      have htk : R.take (k + 1) = R.take k ++ [A[k].1.1] := by rw [← hRk]; exact List.take_succ_eq_append_getElem hkR
      have hfp := hel.fp hkA
      have g2 := hel.hg
      have HONE := Lib.hid (fun (W : World) => fps_one W A[k].1.1 ok.1 1)
      obtain ⟨xl, hxl⟩ : ∃ x, x = A[k].1.1 := ⟨_, rfl⟩
      rw [← hxl] at hfp HONE htk
      obtain ⟨X, hX⟩ : ∃ X, X = fpA xl := ⟨_, rfl⟩
      have HXS : Hid (X.size = 32) := Lib.hid (by rw [hX, fpA_size, hxl]; exact ok.1)
      rw [← hX] at hfp HONE
      have HES := Lib.hid hfp
      obtain ⟨k1, hk1⟩ : ∃ k1, k1 = k + 1 := ⟨_, rfl⟩
      have v1 : IntKind.i64.wrap ((k : Int) + 1) = (k1 : Int) := by rw [show (k : Int) + 1 = (k1 : Int) by omega]; exact IntWalk.i64_in _ (by have := HRN.out; omega)
      have HKK : Hid (k1 = k + 1 ∧ k + gk = n ∧ k < n) := Lib.hid ⟨hk1, hk, hlt⟩
      have HTK : Hid (flatL (R.take k1) = flatL (R.take k) ++ flatL [xl]) := Lib.hid (by rw [hk1, htk, flatL_append])
      subst hp
      clear hkA hkR hel ok hRk htk hfp hxl hX hk1 hk hlt
      go_wp2_with (first
        | (with_reducible refine wpList_load_sub rfl _ _ rfl b (off + k * 33) 32 rfl t cs fr _ g2 Try.underlying47 rfl infoFp HES.out.1 X HES.out.2 ?_)
        | (with_reducible refine wpList_build1 rfl _ rfl X rfl HXS.out ?_)
        | (at_builtin; refine wpList_append_fps rfl _ _ 34 rfl w.heap.size 47 ti tz 32 Try.underlying34 hi hz hi1 hi2 hzs _ _ _ rfl (HOW.out.alloc _) _ [xl] rfl (HONE.out _) ?qd2 ?qd3 ?qd4 ?_))
      case qd2 => have := HKK.out; have := HRN.out; rw [List.length_singleton]; unfold maxLen; omega
      case qd3 => have := HKK.out; have := HRN.out; rw [List.length_singleton]; omega
      case qd4 => have := HK.out.size; simp; omega
      intro v4 w9 hown hgrow
      have HK9 : Hid (Kept w w9) := Lib.hid (append_keptX HK.out (Nat.le_refl _) HOW.out hgrow)
      have HOW9 : Hid (w9.ownsRow w.heap.size 47 32 v4 k1 (flatL (R.take k1))) := Lib.hid (by
        rw [HTK.out, HKK.out.1]
        exact hown)
      clear hown hgrow g2
      go_wp2
      go_roundg (n - k1)
      · exact ⟨k1, by have := HKK.out; omega, by first | rfl | (have := HKK.out; congr 1; omega), HOW9, HK9⟩
      · have := HKK.out; omega
    · have hki : ¬ (k : Int) < n := by omega
      have bk : decide ((k : Int) < (n : Int)) = false := by simpa using hki
      have hkn : k = n := by omega
      have HF : Hid (FpsAt 32 R (.slice pv k cv) wr) := Lib.hid (by
        have h := HOW.out
        have e : R.take k = R := List.take_of_length_le (by rw [HRN.out.1]; omega)
        rw [e] at h
        have h2 : OwnFps w.heap.size R (.slice pv k cv) wr := ⟨HA32.out, by rw [HRN.out.1, ← hkn]; exact h⟩
        exact h2.fps)
      clear hk hlt hkn
      go_wp2
      go_ret
      exact ⟨_, rfl, HF.out, HK.out⟩

set_option maxRecDepth 100000 in
set_option maxHeartbeats 8000000 in
theorem rsame17_any (a b : List Nat) (u v : Value) (w : World) (HU : UsAt a u w) (HV : UsAt b v w) (hl : a.length ≤ 1000000) :
    Calls Try.prog 19 #[u, v] w fun e w' => e = .returned (.bool (a == b)) ∧ Kept w w' := by
  have HG := Lib.hid HU.good
  have HG2 := Lib.hid HV.good
  obtain ⟨p, c, rfl, -, hca⟩ := HU.out encU
  obtain ⟨p2, c2, rfl, -, hcb⟩ := HV.out encU
  have HCA := Lib.hid hca
  have HCB := Lib.hid hcb
  obtain ⟨n, hn⟩ : ∃ n, n = a.length := ⟨_, rfl⟩
  obtain ⟨m, hm⟩ : ∃ n, n = b.length := ⟨_, rfl⟩
  have HN := Lib.hid hn
  have HM := Lib.hid hm
  rw [← hn, ← hm]
  have HN6 : Hid (n ≤ 1000000) := Lib.hid (by omega)
  obtain ⟨res, hres⟩ : ∃ r, r = (a == b) := ⟨_, rfl⟩
  rw [← hres]
  have HR : Hid (res = true ↔ a = b) := Lib.hid (by rw [hres]; simp)
  have RF : Hid (a ≠ b → res = false) := Lib.hid (fun h => by rw [hres]; simpa using h)
  clear HU HV hl hca hcb hn hm hres
  by_cases hnm : n = m
  · have b0 : ((n : Int) != (m : Int)) = false := by simp [hnm]
    have HNM := Lib.hid hnm
    clear hnm
    go_enter Try.func19, Try.ntmps19
    go_wp2
    go_loopg [5] n (fun gh y5 wr => ∃ (k : Nat), k + gh = n ∧ y5 = .int .i64 k ∧ Hid (a.take k = b.take k) ∧ Hid (Kept w wr))
    case atStart => exact ⟨0, by omega, rfl, Lib.hid (by simp), Lib.hid (Below.refl _ w)⟩
    case round =>
      obtain ⟨k, hk, rfl, HT, HK⟩ := hrel
      by_cases hlt : k < n
      · have hki : (k : Int) < n := by omega
        have bk : decide ((k : Int) < (n : Int)) = true := by simpa using hki
        have hki0 : (0 : Int) ≤ k := by omega
        have hkm : (k : Int) < m := by have := HNM.out; omega
        have hka : k < a.length := by rw [← HN.out]; exact hlt
        have hkb : k < b.length := by rw [← HM.out, ← HNM.out]; exact hlt
        rcases HCA.out with h0 | ⟨ba, oa, rfl, ha⟩
        · omega
        rcases HCB.out with h0 | ⟨bb, ob, rfl, hb⟩
        · omega
        have d0 := Kept.cell HK.out (ha k hka 0 _ rfl)
        have d1 := Kept.cell HK.out (hb k hkb 0 _ rfl)
        rw [Nat.mul_one, Nat.add_zero] at d0 d1
        have ta : a.take (k + 1) = a.take k ++ [a[k]] := List.take_succ_eq_append_getElem hka
        have tb : b.take (k + 1) = b.take k ++ [b[k]] := List.take_succ_eq_append_getElem hkb
        obtain ⟨xa, hxa⟩ : ∃ x, x = a[k] := ⟨_, rfl⟩
        obtain ⟨xb, hxb⟩ : ∃ x, x = b[k] := ⟨_, rfl⟩
        rw [← hxa] at d0 ta
        rw [← hxb] at d1 tb
        obtain ⟨q, hq⟩ : ∃ q, q = ((xa : Int) != (xb : Int)) := ⟨_, rfl⟩
        have eq1 : ((xa : Int) != (xb : Int)) = q := hq.symm
        obtain ⟨k1, hk1⟩ : ∃ k1, k1 = k + 1 := ⟨_, rfl⟩
        have v1 : IntKind.i64.wrap ((k : Int) + 1) = (k1 : Int) := by rw [show (k : Int) + 1 = (k1 : Int) by omega]; exact IntWalk.i64_in _ (by have := HN6.out; omega)
        have HKK : Hid (k1 = k + 1 ∧ k + gk = n ∧ k < n) := Lib.hid ⟨hk1, hk, hlt⟩
        have HF : Hid (q = false → a.take k1 = b.take k1) := Lib.hid (fun e => by
          have hx : xa = xb := by rw [e] at hq; have := bne_eq_false_iff_eq.1 hq.symm; omega
          rw [hk1, ta, tb, HT.out, hx])
        have HTR : Hid (q = true → res = false) := Lib.hid (fun e => RF.out (fun hab => by
          rw [e] at hq
          have h1 := bne_iff_ne.1 hq.symm
          apply h1
          rw [hxa, hxb]
          congr 1
          exact List.getElem_of_eq hab hka))
        clear hka hkb ha hb ta tb hxa hxb hq hk1 hk hlt
        go_wp2_with fail
        refine wp_region_kept (by kernel_rfl) (by kernel_rfl) ?_
        refine wpQuiet_pure (v := ?_) (by kernel_rfl) ?_ (fun K hK => ?_)
        case refine_2 => intro W _; go_simp; try with_reducible rfl
        go_simp
        refine hK _ ?_; clear hK K
        refine wpQuiet_pure (v := ?_) (by kernel_rfl) ?_ (fun K hK => ?_)
        case refine_2 => intro W _; go_simp; try with_reducible rfl
        go_simp
        refine hK _ ?_; clear hK K
        refine wpQuiet_pure (v := ?_) (by kernel_rfl) ?_ (fun K hK => ?_)
        case refine_2 => intro W _; go_simp; try with_reducible rfl
        go_simp
        refine hK _ ?_; clear hK K
        refine wpQuiet_pure (v := ?_) (by kernel_rfl) ?_ (fun K hK => ?_)
        case refine_2 => intro W hW; have e0 := hW.cell d0; go_simp; try with_reducible rfl
        go_simp
        refine hK _ ?_; clear hK K
        refine wpQuiet_pure (v := ?_) (by kernel_rfl) ?_ (fun K hK => ?_)
        case refine_2 => intro W _; go_simp; try with_reducible rfl
        go_simp
        refine hK _ ?_; clear hK K
        refine wpQuiet_pure (v := ?_) (by kernel_rfl) ?_ (fun K hK => ?_)
        case refine_2 => intro W _; go_simp; try with_reducible rfl
        go_simp
        refine hK _ ?_; clear hK K
        refine wpQuiet_pure (v := ?_) (by kernel_rfl) ?_ (fun K hK => ?_)
        case refine_2 => intro W _; go_simp; try with_reducible rfl
        go_simp
        refine hK _ ?_; clear hK K
        refine wpQuiet_pure (v := ?_) (by kernel_rfl) ?_ (fun K hK => ?_)
        case refine_2 => intro W hW; have e0 := hW.cell d1; go_simp; try with_reducible rfl
        go_simp
        refine hK _ ?_; clear hK K
        refine wpQuiet_pure (by kernel_rfl) (.bool q) (fun W _ => by go_simp) (fun K hK => ?_)
        go_simp
        refine hK _ ?_; clear hK K
        refine wpQuiet_nil ?_
        intro w2 hk2
        cases q with
        | false =>
          have HT1 := Lib.hid (HF.out rfl)
          have HK9 : Hid (Kept w w2) := Lib.hid ((show Kept w wr from HK.out).then hk2)
          clear hk2 d0 d1 eq1 HF HTR
          go_wp2
          go_roundg (n - k1)
          · exact ⟨k1, by have := HKK.out; omega, by first | rfl | (have := HKK.out; congr 1; omega), HT1, HK9⟩
          · have := HKK.out; omega
        | true =>
          have HF1 := Lib.hid (HTR.out rfl)
          have HK9 : Hid (Kept w w2) := Lib.hid ((show Kept w wr from HK.out).then hk2)
          clear hk2 d0 d1 eq1 HF HTR
          go_wp2
          go_ret
          exact ⟨by rw [HF1.out]; rfl, HK9.out⟩
      · have hki : ¬ (k : Int) < n := by omega
        have bk : decide ((k : Int) < (n : Int)) = false := by simpa using hki
        have HF1 : Hid (res = true) := Lib.hid (HR.out.2 (by
          have h := HT.out
          rw [List.take_of_length_le (by rw [← HN.out]; omega), List.take_of_length_le (by rw [← HM.out, ← HNM.out]; omega)] at h
          exact h))
        clear hk hlt
        go_wp2
        go_ret
        exact ⟨by rw [HF1.out]; rfl, HK.out⟩
  · have b0 : ((n : Int) != (m : Int)) = true := bne_iff_ne.2 (by omega)
    obtain rfl : res = false := RF.out (fun e => hnm (by rw [HN.out, HM.out, e]))
    clear hnm
    go_enter Try.func19, Try.ntmps19
    go_wp2
    go_ret
    exact ⟨rfl, Below.refl _ w⟩

end Go.Proofs.Ytaajadmaamjebaa
