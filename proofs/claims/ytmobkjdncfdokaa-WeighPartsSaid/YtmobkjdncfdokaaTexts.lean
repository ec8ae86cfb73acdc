/- The walk of WeighTexts. -/
import Derived.Test.YtmobkjdncfdokaaRefW2
import Derived.Lib.Strings
import Derived.Deep.RegionWith
import Derived.Deep.RegionHeld3
import Derived.RegionTactic
import Derived.BigRegion
namespace Go.Proofs.Ytmobkjdncfdokaa
open Go.RowKit

theorem wf_u16 {x : Int} (wx : (Lit.int .u16 x).wf = true) : 0 ≤ x ∧ x ≤ 65535 := by
  simp [Lit.wf, IntKind.min, IntKind.max, IntKind.bits, IntKind.signed] at wx; omega

theorem wf_i64 {x : Int} (wx : (Lit.int .i64 x).wf = true) : -9223372036854775808 ≤ x ∧ x ≤ 9223372036854775807 := by
  simp [Lit.wf, IntKind.min, IntKind.max, IntKind.bits, IntKind.signed] at wx; omega

theorem num_w (l : List UInt8) (h : l.length ≤ 1000000000) : NumZ (flt (wRe 0 l)) (flt (wIm 0 l)) (wRe 0 l, wIm 0 l) := by
  have a := wRe_abs 0 l
  have b := wIm_abs 0 l
  exact ⟨num_flt _ (by omega), num_flt _ (by omega)⟩

theorem w_small (l : List UInt8) (h : l.length ≤ 1000000000) : (wRe 0 l).natAbs ≤ 2 ^ 54 ∧ (wIm 0 l).natAbs ≤ 2 ^ 54 := by
  have a := wRe_abs 0 l
  have b := wIm_abs 0 l
  omega

theorem data_take (s : ByteArray) (k : Nat) : (s.extract 0 k).data.toList = s.data.toList.take k := by
  have h := Lib.extract_eq s 0 k
  rw [h]
  simp

theorem data_drop (s : ByteArray) (k : Nat) : (s.extract k s.size).data.toList = s.data.toList.drop k := by
  have h := Lib.extract_eq s k s.size
  rw [h]
  simp
  exact List.take_of_length_le (by rw [List.length_drop, data_len]; omega)

set_option maxHeartbeats 2000000 in
theorem walk_weighTexts (s0 : ByteArray) (hs0 : s0.size ≤ maxLen) (a : Int) (wa : (Lit.int .u16 a).wf = true) (w : World) :
    Calls Try.prog 3 #[.string s0, .int .u16 a] w (LawPost w) := by
  have ha := wf_u16 wa
  obtain ⟨p, rfl⟩ := Int.eq_ofNat_of_zero_le ha.1
  have C0 := cut_any s0 hs0
  have hc := cutB_size s0
  obtain ⟨s, hs⟩ : ∃ s, s = cutB s0 := ⟨_, rfl⟩
  rw [← hs] at hc C0
  have O1 := of_any s (by omega)
  have R1 := rof_any s (by omega)
  have hl := data_len s
  have N1 := num_any (wRe 0 s.data.toList) (wIm 0 s.data.toList)
  have hsm := w_small s.data.toList (by omega)
  have P1 := isPlain_any _ _ hsm.1 hsm.2
  have o1 := order_self _ hsm.1
  have o2 := order_self _ hsm.2
  obtain ⟨k, hk⟩ : ∃ k : Nat, k = min p s.size := ⟨_, rfl⟩
  have hks : k ≤ s.size := by omega
  have OA := of_any (s.extract 0 k) (by rw [ByteArray.size_extract]; omega)
  have OB := of_any (s.extract k s.size) (by rw [ByteArray.size_extract]; omega)
  rw [data_take] at OA
  rw [data_drop] at OB
  have hj := w_join s.data.toList k (by omega)
  have nA := num_w (s.data.toList.take k) (by rw [List.length_take]; omega)
  have nB := num_w (s.data.toList.drop k) (by rw [List.length_drop]; omega)
  have J := join_yes nA nB (k : Int)
  have ej : joinZ (wRe 0 (s.data.toList.take k), wIm 0 (s.data.toList.take k)) (k : Int) (wRe 0 (s.data.toList.drop k), wIm 0 (s.data.toList.drop k)) = (wRe 0 s.data.toList, wIm 0 s.data.toList) := by
    unfold joinZ
    rw [turns_nat, ← hj.1, ← hj.2]
  rw [ej] at J
  unfold wOf at O1 OA OB
  generalize flt (wRe 0 s.data.toList) = x at *
  generalize flt (wIm 0 s.data.toList) = y at *
  generalize flt (wRe 0 (s.data.toList.take k)) = xa at *
  generalize flt (wIm 0 (s.data.toList.take k)) = ya at *
  generalize flt (wRe 0 (s.data.toList.drop k)) = xb at *
  generalize flt (wIm 0 (s.data.toList.drop k)) = yb at *
  have hp : (p : Int) ≤ 65535 := by omega
  clear ej nA nB hj hsm hl hs ha wa hs0
  rcases Nat.lt_or_ge s.size p with hps | hps
  · obtain rfl : k = s.size := by omega
    have hps' : (s.size : Int) < p := by omega
    have eA : s.extract 0 s.size = s := by simp
    have eB : s.extract s.size s.size = ByteArray.empty := by simp
    rw [eA] at OA
    rw [eB] at OB
    clear hk hps hks eA eB
    go_enter Try.func3, Try.ntmps3
    go_wp2_with fail
    refine (C0 _).mono ?_
    rintro e w' ⟨rfl, rfl⟩
    go_wp2_with fail
    refine (O1 _).mono ?_
    rintro e w1 ⟨rfl, K1⟩
    go_wp2_with fail
    refine (R1 _).mono ?_
    rintro e w2 ⟨rfl, hb2⟩
    have K2 := Below.then' K1 hb2 K1.size
    clear K1 hb2
    go_wp2_with fail
    refine (N1 _).mono ?_
    rintro e w3 ⟨rfl, hb3⟩
    have K3 := Below.then' K2 hb3 K2.size
    clear K2 hb3
    go_wp2_with fail
    refine (P1 _).mono ?_
    rintro e w' ⟨rfl, rfl⟩
    go_wp2_with fail
    refine (awake_any _).mono ?_
    rintro e w4 ⟨rfl, hb4⟩
    have K4 := (Below.then' K3 hb4 K3.size).drew
    clear K3 hb4 P1 R1 N1 O1 C0
    go_wp2
    go_region_with (first
      | (go_at_call 9; (with_reducible refine (OA _).mono ?_); rintro e wA ⟨rfl, KA⟩)
      | (go_at_call 9; (with_reducible refine (OB _).mono ?_); rintro e wB ⟨rfl, KB⟩)
      | (go_at_call 14; (with_reducible refine (J _).mono ?_); rintro e wC ⟨rfl, rfl⟩))
    all_goals
      go_wp2
      go_ret
      refine ⟨rfl, ?_⟩
      first
        | exact Below.then' (Below.then' K4 KA K4.size) KB (Below.then' K4 KA K4.size).size
        | exact Below.then' (Below.then' K4 KB K4.size) KA (Below.then' K4 KB K4.size).size
  · obtain rfl : k = p := by omega
    have hps' : ¬ ((s.size : Int) < k) := by omega
    have hps2 : (k : Int) ≤ s.size := by omega
    clear hk hps hks
    go_enter Try.func3, Try.ntmps3
    go_wp2_with fail
    refine (C0 _).mono ?_
    rintro e w' ⟨rfl, rfl⟩
    go_wp2_with fail
    refine (O1 _).mono ?_
    rintro e w1 ⟨rfl, K1⟩
    go_wp2_with fail
    refine (R1 _).mono ?_
    rintro e w2 ⟨rfl, hb2⟩
    have K2 := Below.then' K1 hb2 K1.size
    clear K1 hb2
    go_wp2_with fail
    refine (N1 _).mono ?_
    rintro e w3 ⟨rfl, hb3⟩
    have K3 := Below.then' K2 hb3 K2.size
    clear K2 hb3
    go_wp2_with fail
    refine (P1 _).mono ?_
    rintro e w' ⟨rfl, rfl⟩
    go_wp2_with fail
    refine (awake_any _).mono ?_
    rintro e w4 ⟨rfl, hb4⟩
    have K4 := (Below.then' K3 hb4 K3.size).drew
    clear K3 hb4 P1 R1 N1 O1 C0
    go_wp2
    go_region_with (first
      | (go_at_call 9; (with_reducible refine (OA _).mono ?_); rintro e wA ⟨rfl, KA⟩)
      | (go_at_call 9; (with_reducible refine (OB _).mono ?_); rintro e wB ⟨rfl, KB⟩)
      | (go_at_call 14; (with_reducible refine (J _).mono ?_); rintro e wC ⟨rfl, rfl⟩))
    all_goals
      go_wp2
      go_ret
      refine ⟨rfl, ?_⟩
      first
        | exact Below.then' (Below.then' K4 KA K4.size) KB (Below.then' K4 KA K4.size).size
        | exact Below.then' (Below.then' K4 KB K4.size) KA (Below.then' K4 KB K4.size).size

end Go.Proofs.Ytmobkjdncfdokaa
