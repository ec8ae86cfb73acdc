/- The walks of cut, CrcSums and CrcJoins. -/
import Derived.Test.YtonhoahklmafgaaDoorRefSum
import Derived.Test.YtonhoahklmafgaaDoorSeal
import Derived.Test.YtonhoahklmafgaaDoorJoin
namespace Go.Proofs.YtonhoahklmafgaaDoor
open Go.RowKit

/-- A text of which not more than 300 bytes are looked at. -/
def cutB (s : ByteArray) : ByteArray := if 300 < s.size then s.extract 0 300 else s

theorem cutB_size (s : ByteArray) : (cutB s).size ≤ 300 := by
  unfold cutB
  split
  · rw [ByteArray.size_extract]; omega
  · omega

theorem cut_any (s : ByteArray) (hs : s.size ≤ maxLen) (w : World) :
    Calls Tryd.prog 9 #[.string s] w fun e w' => e = .returned (.string (cutB s)) ∧ w = w' := by
  unfold maxLen at hs
  unfold cutB
  by_cases h : 300 < s.size
  · rw [if_pos h]
    have h' : (300 : Int) < s.size := by omega
    go_enter Tryd.func9, Tryd.ntmps9
    go_wp2
    go_ret
    exact ⟨rfl, rfl⟩
  · rw [if_neg h]
    have h' : ¬ ((300 : Int) < s.size) := by omega
    go_enter Tryd.func9, Tryd.ntmps9
    go_wp2
    go_ret
    exact ⟨rfl, rfl⟩

theorem wf_u32 {x : Int} (wx : (Lit.int .u32 x).wf = true) : 0 ≤ x ∧ x ≤ 4294967295 := by
  simp [Lit.wf, IntKind.min, IntKind.max, IntKind.bits, IntKind.signed] at wx; omega

theorem wf_u16 {x : Int} (wx : (Lit.int .u16 x).wf = true) : 0 ≤ x ∧ x ≤ 65535 := by
  simp [Lit.wf, IntKind.min, IntKind.max, IntKind.bits, IntKind.signed] at wx; omega

theorem wf_i64 {x : Int} (wx : (Lit.int .i64 x).wf = true) : -9223372036854775808 ≤ x ∧ x ≤ 9223372036854775807 := by
  simp [Lit.wf, IntKind.min, IntKind.max, IntKind.bits, IntKind.signed] at wx; omega

set_option maxHeartbeats 800000 in
theorem walk_crcSums (s : ByteArray) (hs : s.size ≤ maxLen) (x : Int) (wx : (Lit.int .u32 x).wf = true) (w : World) (hT : TabAt w) :
    Calls Tryd.prog 3 #[.string s, .int .u32 x] w (LawPost w) := by
  have hx := wf_u32 wx
  obtain ⟨X, rfl⟩ := Int.eq_ofNat_of_zero_le hx.1
  have hX : X ≤ 4294967295 := by omega
  have C0 := cut_any s hs
  have hc := cutB_size s
  obtain ⟨t, ht⟩ : ∃ t, t = cutB s := ⟨_, rfl⟩
  rw [← ht] at hc C0
  have S1 := sum_any t (by unfold maxLen; omega)
  have R1 := rsum_any t (by omega)
  have M1 := more_any X hX t (by unfold maxLen; omega)
  have R2 := rmore_any X hX t (by omega)
  have M0 := more_any 0 (by omega) t (by unfold maxLen; omega)
  clear ht hx wx hs
  go_enter Tryd.func3, Tryd.ntmps3
  go_wp2_with (go_at_call 9; refine (C0 _).mono ?_; rintro e w' ⟨rfl, rfl⟩)
  go_wp2_with fail
  refine (S1 _ hT).mono ?_
  rintro e w' ⟨rfl, rfl⟩
  go_wp2_with fail
  refine (R1 _).mono ?_
  rintro e w1 ⟨rfl, K1⟩
  have T1 := hT.later K1
  go_wp2_with fail
  refine (M1 _ T1).mono ?_
  rintro e w' ⟨rfl, rfl⟩
  go_wp2_with fail
  refine (R2 _).mono ?_
  rintro e w2 ⟨rfl, hb2⟩
  have K2 := Below.then' K1 hb2 K1.size
  have T2 := hT.later K2
  clear K1 T1 hb2
  go_wp2_with fail
  refine (M0 _ T2).mono ?_
  rintro e w' ⟨rfl, rfl⟩
  go_wp2_with fail
  refine (R1 _).mono ?_
  rintro e w3 ⟨rfl, hb3⟩
  have K3 := Below.then' K2 hb3 K2.size
  have T3 := hT.later K3
  clear K2 T2 hb3
  go_wp2_with fail
  refine (awake_any _ T3).mono ?_
  rintro e w4 ⟨rfl, hb4⟩
  go_wp2
  go_ret
  exact ⟨rfl, Below.then' K3 hb4 K3.size⟩

set_option maxHeartbeats 800000 in
theorem walk_crcJoins (s0 : ByteArray) (hs0 : s0.size ≤ maxLen) (s1 : ByteArray) (hs1 : s1.size ≤ maxLen) (x : Int) (wx : (Lit.int .u32 x).wf = true) (y : Int) (wy : (Lit.int .u32 y).wf = true) (n : Int) (wn : (Lit.int .i64 n).wf = true) (w : World) (hT : TabAt w) :
    Calls Tryd.prog 4 #[.string s0, .string s1, .int .u32 x, .int .u32 y, .int .i64 n] w (LawPost w) := by
  have hx := wf_u32 wx
  have hy := wf_u32 wy
  have hn := wf_i64 wn
  obtain ⟨X, rfl⟩ := Int.eq_ofNat_of_zero_le hx.1
  obtain ⟨Y, rfl⟩ := Int.eq_ofNat_of_zero_le hy.1
  have hX : X ≤ 4294967295 := by omega
  have hY : Y ≤ 4294967295 := by omega
  have C0 := cut_any s0 hs0
  have C1 := cut_any s1 hs1
  have ha := cutB_size s0
  have hb := cutB_size s1
  obtain ⟨a, hat⟩ : ∃ t, t = cutB s0 := ⟨_, rfl⟩
  obtain ⟨b, hbt⟩ : ∃ t, t = cutB s1 := ⟨_, rfl⟩
  rw [← hat] at ha C0
  rw [← hbt] at hb C1
  have hab : (a ++ b).data.toList = a.data.toList ++ b.data.toList := by rw [ByteArray.data_append, Array.toList_append]
  have hsz : (a ++ b).size ≤ 600 := by rw [ByteArray.size_append]; omega
  have RS := rsum_any (a ++ b) (by omega)
  have SA := sum_any a (by unfold maxLen; omega)
  have SB := sum_any b (by unfold maxLen; omega)
  have lA := moreN_le 0 a.data.toList
  have lB := moreN_le 0 b.data.toList
  have J1 := join_any (moreN 0 a.data.toList) (moreN 0 b.data.toList) (b.size : Int) lA lB (by omega)
  have MA := more_any (moreN 0 a.data.toList) lA b (by unfold maxLen; omega)
  rw [Int.toNat_natCast, ← data_len b, more_join, ← hab] at J1
  rw [more_more, ← hab] at MA
  rw [data_len] at J1
  obtain ⟨v, hv⟩ : ∃ v : Nat, v = moreN 0 (a ++ b).data.toList := ⟨_, rfl⟩
  obtain ⟨vA, hvA⟩ : ∃ v : Nat, v = moreN 0 a.data.toList := ⟨_, rfl⟩
  obtain ⟨vB, hvB⟩ : ∃ v : Nat, v = moreN 0 b.data.toList := ⟨_, rfl⟩
  rw [← hv] at RS J1 MA
  rw [← hvA] at SA J1 MA
  rw [← hvB] at SB J1
  have J2 := fun k hk => join_any X Y k hX hY (show k ≤ 9223372036854775807 by omega)
  have R2 := fun k (hk : k ≤ (400 : Int)) => rjoin_any X Y k hX hY (show k ≤ 1000000 by omega)
  clear hat hbt hx hy wx wy wn hs0 hs1 hab hv hvA hvB lA lB
  by_cases h4 : n ≤ 400
  all_goals
    go_enter Tryd.func4, Tryd.ntmps4
    go_wp2_with fail
    refine (C0 _).mono ?_
    rintro e w' ⟨rfl, rfl⟩
    go_wp2_with fail
    refine (C1 _).mono ?_
    rintro e w' ⟨rfl, rfl⟩
    go_wp2_with fail
    refine (RS _).mono ?_
    rintro e w1 ⟨rfl, K1⟩
    have T1 := hT.later K1
    go_wp2_with fail
    refine (SA _ T1).mono ?_
    rintro e w' ⟨rfl, rfl⟩
    go_wp2_with fail
    refine (SB _ T1).mono ?_
    rintro e w' ⟨rfl, rfl⟩
    go_wp2_with fail
    refine (J1 _).mono ?_
    rintro e w2 ⟨rfl, hb2⟩
    have K2 := Below.then' K1 hb2 K1.size
    have T2 := hT.later K2
    clear K1 T1 hb2
    go_wp2_with fail
    refine (SA _ T2).mono ?_
    rintro e w' ⟨rfl, rfl⟩
    go_wp2_with fail
    refine (MA _ T2).mono ?_
    rintro e w' ⟨rfl, rfl⟩
    go_wp2_with fail
    refine (awake_any _ T2).mono ?_
    rintro e w3 ⟨rfl, hb3⟩
    have K3 := Below.then' K2 hb3 K2.size
    clear K2 T2 hb3
    go_wp2_with fail
    refine (J2 _ ?_ _).mono ?_
    · omega
    rintro e w4 ⟨rfl, hb4⟩
    have K4 := Below.then' K3 hb4 K3.size
    clear K3 hb4
    go_wp2_with fail
    refine (R2 _ ?_ _).mono ?_
    · omega
    rintro e w' ⟨rfl, rfl⟩
    go_wp2
    go_ret
    exact ⟨rfl, K4⟩

end Go.Proofs.YtonhoahklmafgaaDoor
