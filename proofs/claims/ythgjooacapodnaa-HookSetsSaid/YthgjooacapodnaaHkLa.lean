/- The walk of HookPairs. -/
import Derived.Test.YthgjooacapodnaaHkAw
namespace Go.Proofs.Ythgjooacapodnaa
open Go.RowKit

theorem few_any (p1 p2 : Option Addr) (n1 n2 c1 c2 : Nat) (w : World) :
    Calls Try.prog 20 #[.slice p1 n1 c1, .slice p2 n2 c2] w fun e w' => e = .returned (.bool (decide (n1 ≤ 40) && decide (n2 ≤ 40))) ∧ w' = w := by
  by_cases h1 : n1 ≤ 40
  · have i1 : (n1 : Int) ≤ 40 := by omega
    have b1 : decide ((n1 : Int) ≤ 40) = true := by simpa using i1
    by_cases h2 : n2 ≤ 40
    · have i2 : (n2 : Int) ≤ 40 := by omega
      have b2 : decide ((n2 : Int) ≤ 40) = true := by simpa using i2
      have e1 : (decide (n1 ≤ 40) && decide (n2 ≤ 40)) = true := by simp [h1, h2]
      rw [e1]
      clear e1
      go_enter Try.func20, Try.ntmps20
      go_wp2
      go_ret
      exact ⟨rfl, rfl⟩
    · have i2 : ¬ (n2 : Int) ≤ 40 := by omega
      have b2 : decide ((n2 : Int) ≤ 40) = false := by simpa using i2
      have e1 : (decide (n1 ≤ 40) && decide (n2 ≤ 40)) = false := by simp [h2]
      rw [e1]
      clear e1
      go_enter Try.func20, Try.ntmps20
      go_wp2
      go_ret
      exact ⟨rfl, rfl⟩
  · have i1 : ¬ (n1 : Int) ≤ 40 := by omega
    have b1 : decide ((n1 : Int) ≤ 40) = false := by simpa using i1
    have e1 : (decide (n1 ≤ 40) && decide (n2 ≤ 40)) = false := by simp [h1]
    rw [e1]
    clear e1
    go_enter Try.func20, Try.ntmps20
    go_wp2
    go_ret
    exact ⟨rfl, rfl⟩

set_option maxRecDepth 100000 in
set_option maxHeartbeats 4000000 in
theorem walk_hookPairs (w : World) (v1 : Value) (xs : List (List UInt8)) (ha : FpsAt 32 xs v1 w) (_h1 : xs.length ≤ maxLen) (v2 : Value) (ys : List (List UInt8)) (hb : FpsAt 32 ys v2 w) (_h2 : ys.length ≤ maxLen) :
    Calls Try.prog 7 #[v1, v2] w (LawPost w) := by
  obtain ⟨p1, c1, rfl, -⟩ := ha.2
  obtain ⟨p2, c2, rfl, -⟩ := hb.2
  have FE := few_any p1 p2 xs.length ys.length c1 c2 w
  by_cases hf : xs.length ≤ 40 ∧ ys.length ≤ 40
  · have hl1 : xs.length ≤ 1000000 := by omega
    have hl2 : ys.length ≤ 1000000 := by omega
    have hsl := setL_le 32 xs ha.1
    have CO := common_any _ _ xs ys hl1 hl2 w ha hb
    have MI := fun W (k : Below w.heap.size w W) => minus_any _ _ xs ys hl1 hl2 W (ha.later k) (hb.later k)
    have RC := fun W (k : Below w.heap.size w W) => rcommon_any _ _ xs ys hl1 hl2 W (ha.later k) (hb.later k)
    have CB := fun W (k : Below w.heap.size w W) => common_any _ _ ys xs hl2 hl1 W (hb.later k) (ha.later k)
    have RM := fun W (k : Below w.heap.size w W) => rminus_any _ _ xs ys hl1 hl2 W (ha.later k) (hb.later k)
    have ST := fun W (k : Below w.heap.size w W) => set_any _ xs hl1 W (ha.later k)
    have SM := fun (v3 v4 : Value) W (h3 : FpsAt 32 (minusL xs ys) v3 W) (h4 : FpsAt 32 (minusL xs ys) v4 W) => same_any v3 v4 (minusL xs ys) (minusL xs ys) (Nat.le_trans (minus_len xs ys ha.1) (Nat.le_trans hsl hl1)) W h3 h4
    have hcc := common_comm 32 ys xs hb.1 ha.1
    have hsum := (common_both 32 xs ys ha.1).2
    have hbm : (minusL xs ys == minusL xs ys) = true := by simp
    rw [hcc] at CB
    rw [hbm] at SM
    rw [show (decide (xs.length ≤ 40) && decide (ys.length ≤ 40)) = true by simp [hf]] at FE
    obtain ⟨n1, hn1⟩ : ∃ n, n = xs.length := ⟨_, rfl⟩
    obtain ⟨n2, hn2⟩ : ∃ n, n = ys.length := ⟨_, rfl⟩
    obtain ⟨cm, hcm⟩ : ∃ n, n = commonN xs ys := ⟨_, rfl⟩
    obtain ⟨M, hM⟩ : ∃ M, M = minusL xs ys := ⟨_, rfl⟩
    obtain ⟨T, hT⟩ : ∃ M, M = setL xs := ⟨_, rfl⟩
    rw [← hcm] at CO RC CB hsum
    rw [← hM] at MI RM SM hsum
    rw [← hT] at ST hsum hsl
    rw [← hn1] at FE CO MI RC CB RM ST hf hsl ⊢
    rw [← hn2] at FE CO MI RC CB RM hf ⊢
    have hb1 : T.length ≤ 40 := by omega
    clear hcc hbm ha hb hl1 hl2 hn1 hn2 hcm hM hT _h1 _h2 hsl
    go_enter Try.func7, Try.ntmps7
    go_wp2_with fail
    refine FE.mono ?_
    rintro e w' ⟨rfl, rfl⟩
    clear FE
    go_wp2_with fail
    refine CO.mono ?_
    rintro e w1 ⟨rfl, k1⟩
    clear CO
    go_wp2_with fail
    refine (MI _ k1).mono ?_
    rintro e w2 ⟨v3, rfl, ho3, hb2⟩
    have k2 := Below.then' k1 hb2 k1.size
    clear MI k1
    obtain ⟨p3, c3, rfl, -⟩ := ho3.fps.2
    go_wp2_with fail
    refine (RC _ k2).mono ?_
    rintro e w3 ⟨rfl, hb3⟩
    have k3 := Below.then' k2 hb3 k2.size
    have f3 := ho3.fps.later hb3
    clear RC k2 ho3 hb2
    go_wp2_with fail
    refine (CB _ k3).mono ?_
    rintro e w4 ⟨rfl, hb4⟩
    have k4 := Below.then' k3 hb4 k3.size
    have f4 := f3.later hb4
    clear CB k3 f3 hb3
    go_wp2_with fail
    refine (RM _ k4).mono ?_
    rintro e w5 ⟨v5, rfl, ho5, hb5⟩
    have k5 := Below.then' k4 hb5 k4.size
    have f5 := f4.later hb5
    clear RM k4 f4 hb4
    go_wp2_with fail
    refine (SM _ _ _ f5 ho5.fps).mono ?_
    rintro e w6 ⟨rfl, hb6⟩
    have k6 := Below.then' k5 hb6 k5.size
    clear SM k5 f5 ho5 hb5
    go_wp2_with fail
    refine (ST _ k6).mono ?_
    rintro e w7 ⟨v7, rfl, ho7, hb7⟩
    have k7 := Below.then' k6 hb7 k6.size
    obtain ⟨p7, c7, rfl, -⟩ := ho7.fps.2
    have e1 : IntKind.i64.wrap ((cm : Int) + (M.length : Int)) = (T.length : Int) := by simp [IntKind.wrap, IntKind.bits, IntKind.signed]; omega
    have e2 : (cm : Int) + (M.length : Int) = (T.length : Int) := by omega
    clear ST k6 ho7 hb7 hb6
    go_wp2_with fail
    refine (awake_any _).mono ?_
    rintro e w8 ⟨rfl, hb8⟩
    go_wp2
    go_ret
    exact ⟨rfl, Below.then' k7 hb8 k7.size⟩
  · rw [show (decide (xs.length ≤ 40) && decide (ys.length ≤ 40)) = false by simp only [Bool.and_eq_false_iff, decide_eq_false_iff_not]; omega] at FE
    clear ha hb _h1 _h2 hf
    obtain ⟨n1, hn1⟩ : ∃ n, n = xs.length := ⟨_, rfl⟩
    obtain ⟨n2, hn2⟩ : ∃ n, n = ys.length := ⟨_, rfl⟩
    rw [← hn1, ← hn2] at FE ⊢
    clear hn1 hn2
    go_enter Try.func7, Try.ntmps7
    go_wp2_with fail
    refine FE.mono ?_
    rintro e w' ⟨rfl, rfl⟩
    go_wp2_with fail
    refine (awake_any _).mono ?_
    rintro e w1 ⟨rfl, hb1⟩
    go_wp2
    go_ret
    exact ⟨rfl, hb1⟩

end Go.Proofs.Ythgjooacapodnaa
