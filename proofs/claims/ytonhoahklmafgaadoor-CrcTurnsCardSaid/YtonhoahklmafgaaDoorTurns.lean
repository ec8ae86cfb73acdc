/- The walk of CrcTurns. -/
import Derived.Test.YtonhoahklmafgaaDoorApartC
import Derived.Test.YtonhoahklmafgaaDoorSums
namespace Go.Proofs.YtonhoahklmafgaaDoor
open Go.RowKit

set_option maxHeartbeats 1000000 in
theorem walk_crcTurns (s0 : ByteArray) (hs0 : s0.size ≤ maxLen) (t0 : ByteArray) (ht0 : t0.size ≤ maxLen) (a : Int) (wa : (Lit.int .i64 a).wf = true) (b0 : Int) (wb : (Lit.int .u32 b0).wf = true) (w : World) (hT : TabAt w) :
    Calls Tryd.prog 7 #[.string s0, .string t0, .int .i64 a, .int .u32 b0] w (LawPost w) := by
  have ha := wf_i64 wa
  have hbb := wf_u32 wb
  obtain ⟨b, rfl⟩ := Int.eq_ofNat_of_zero_le hbb.1
  have hb : b ≤ 4294967295 := by omega
  have C0 := cut_any s0 hs0
  have C1 := cut_any t0 ht0
  have hs := cutB_size s0
  have ht := cutB_size t0
  obtain ⟨s, hst⟩ : ∃ t, t = cutB s0 := ⟨_, rfl⟩
  obtain ⟨t, htt⟩ : ∃ t, t = cutB t0 := ⟨_, rfl⟩
  rw [← hst] at hs C0
  rw [← htt] at ht C1
  clear hbb wa wb hst htt hs0 ht0
  have TC := turn_any s (by omega) a ha b hb
  have TR := rturn_any s (by omega) a ha b hb
  have hus : (str (turnL s a b)).size = s.size := by rw [str_size, turnL_len]
  have TB := turn_any (str (turnL s a b)) (by omega) a ha b hb
  have hback : str (turnL (str (turnL s a b)) a b) = s := by
    have : turnL (str (turnL s a b)) a b = s.data.toList := bits_inj _ _ (by rw [turnL_bits, str_list, turnL_bits, flips_twice])
    rw [this, str_data]
  rw [hback] at TB
  have AU := apart_any s (str (turnL s a b)) (by omega) hus.symm
  have hap : ∀ k, ApartN (bitsB s.data.toList) (bitsB (str (turnL s a b)).data.toList) k → k ≤ 32 := fun k hk => by
    rw [str_list, turnL_bits] at hk
    exact apart_flips _ a b k hk
  obtain ⟨u, hu⟩ : ∃ u, u = str (turnL s a b) := ⟨_, rfl⟩
  rw [← hu] at TC TR TB AU hap
  have HU := Lib.hid hap
  clear hap hback hus hu
  by_cases hst : s.size = t.size
  · have AC := apart_any s t (by omega) hst
    have AR := rapart_any s t (by omega) hst
    clear hst
    go_enter Tryd.func7, Tryd.ntmps7
    go_wp2_with fail
    refine (C0 _).mono ?_
    rintro e w' ⟨rfl, rfl⟩
    go_wp2_with fail
    refine (C1 _).mono ?_
    rintro e w' ⟨rfl, rfl⟩
    go_wp2_with fail
    refine (AC _).mono ?_
    rintro e w1 ⟨n, rfl, hn, K1⟩
    go_wp2_with fail
    refine (AR _).mono ?_
    rintro e w2 ⟨m, rfl, hm, hb2⟩
    obtain rfl := apart_one hn hm
    have K2 := Below.then' K1 hb2 K1.size
    clear K1 hb2 hn hm
    go_wp2_with fail
    refine (TC _).mono ?_
    rintro e w3 ⟨rfl, hb3⟩
    have K3 := Below.then' K2 hb3 K2.size
    clear K2 hb3
    go_wp2_with fail
    refine (TR _).mono ?_
    rintro e w4 ⟨rfl, hb4⟩
    have K4 := Below.then' K3 hb4 K3.size
    clear K3 hb4
    go_wp2_with fail
    refine (TB _).mono ?_
    rintro e w5 ⟨rfl, hb5⟩
    have K5 := Below.then' K4 hb5 K4.size
    have T5 := hT.later K5
    clear K4 hb5
    go_wp2_with fail
    refine (awake_any _ T5).mono ?_
    rintro e w6 ⟨rfl, hb6⟩
    have K6 := Below.then' K5 hb6 K5.size
    clear K5 hb6
    go_wp2_with fail
    refine (AU _).mono ?_
    rintro e w7 ⟨k, rfl, hk, hb7⟩
    have hk32 := HU.out k hk
    have d32 : decide (k ≤ 32) = true := by simpa using hk32
    go_wp2
    go_ret
    exact ⟨rfl, Below.then' K6 hb7 K6.size⟩
  · have AC := apart_not s t hst
    have AR := rapart_not s t hst
    clear hst
    go_enter Tryd.func7, Tryd.ntmps7
    go_wp2_with fail
    refine (C0 _).mono ?_
    rintro e w' ⟨rfl, rfl⟩
    go_wp2_with fail
    refine (C1 _).mono ?_
    rintro e w' ⟨rfl, rfl⟩
    go_wp2_with fail
    refine (AC _).mono ?_
    rintro e w' ⟨rfl, rfl⟩
    go_wp2_with fail
    refine (AR _).mono ?_
    rintro e w' ⟨rfl, rfl⟩
    have K2 := Below.refl w.heap.size w
    go_wp2_with fail
    refine (TC _).mono ?_
    rintro e w3 ⟨rfl, hb3⟩
    have K3 := Below.then' K2 hb3 K2.size
    clear K2 hb3
    go_wp2_with fail
    refine (TR _).mono ?_
    rintro e w4 ⟨rfl, hb4⟩
    have K4 := Below.then' K3 hb4 K3.size
    clear K3 hb4
    go_wp2_with fail
    refine (TB _).mono ?_
    rintro e w5 ⟨rfl, hb5⟩
    have K5 := Below.then' K4 hb5 K4.size
    have T5 := hT.later K5
    clear K4 hb5
    go_wp2_with fail
    refine (awake_any _ T5).mono ?_
    rintro e w6 ⟨rfl, hb6⟩
    have K6 := Below.then' K5 hb6 K5.size
    clear K5 hb6
    go_wp2_with fail
    refine (AU _).mono ?_
    rintro e w7 ⟨k, rfl, hk, hb7⟩
    have hk32 := HU.out k hk
    have d32 : decide (k ≤ 32) = true := by simpa using hk32
    go_wp2
    go_ret
    exact ⟨rfl, Below.then' K6 hb7 K6.size⟩

end Go.Proofs.YtonhoahklmafgaaDoor
