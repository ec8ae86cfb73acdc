/- The walk of CrcFar. -/
import Derived.Test.YtonhoahklmafgaaDoorSeal
import Derived.Test.YtonhoahklmafgaaDoorJoin
namespace Go.Proofs.YtonhoahklmafgaaDoor
open Go.RowKit

theorem join0_any (a : Nat) (n : Int) (ha : a ≤ 4294967295) (hn : n ≤ 9223372036854775807) (w : World) :
    Calls Tryd.prog 15 #[.int .u32 a, .int .u32 0, .int .i64 n] w fun e w' => e = .returned (.int .u32 (stps (8 * n.toNat) a : Nat)) ∧ Below w.heap.size w w' := by
  have h := join_any a 0 n ha (by omega) hn w
  rw [Nat.xor_zero] at h
  exact h

theorem walk_crcFar (x : Int) (wx : (Lit.int .u32 x).wf = true) (n : Int) (wn : (Lit.int .u16 n).wf = true) (m : Int) (wm : (Lit.int .u16 m).wf = true) (w : World) (hT : TabAt w) :
    Calls Tryd.prog 5 #[.int .u32 x, .int .u16 n, .int .u16 m] w (LawPost w) := by
  have hx : 0 ≤ x ∧ x ≤ 4294967295 := by simp [Lit.wf, IntKind.min, IntKind.max, IntKind.bits, IntKind.signed] at wx; omega
  have hn : 0 ≤ n ∧ n ≤ 65535 := by simp [Lit.wf, IntKind.min, IntKind.max, IntKind.bits, IntKind.signed] at wn; omega
  have hm : 0 ≤ m ∧ m ≤ 65535 := by simp [Lit.wf, IntKind.min, IntKind.max, IntKind.bits, IntKind.signed] at wm; omega
  obtain ⟨X, rfl⟩ := Int.eq_ofNat_of_zero_le hx.1
  obtain ⟨N, rfl⟩ := Int.eq_ofNat_of_zero_le hn.1
  obtain ⟨M, rfl⟩ := Int.eq_ofNat_of_zero_le hm.1
  have hX : X ≤ 4294967295 := by omega
  have hN : N ≤ 65535 := by omega
  have hM : M ≤ 65535 := by omega
  clear hx hn hm wx wn wm
  have J1 := join0_any X N hX (by omega)
  have J2 := join0_any (stps (8 * N) X) M (stps_le _ hX) (by omega)
  have J3 := join0_any X ((N : Int) + M) hX (by omega)
  have J4 := join0_any X 0 hX (by omega)
  have eNM : ((N : Int) + M).toNat = N + M := by omega
  rw [eNM, Nat.mul_add, stps_add] at J3
  rw [Int.toNat_natCast] at J1 J2
  rw [show stps (8 * (0 : Int).toNat) X = X from rfl] at J4
  clear eNM
  go_enter Tryd.func5, Tryd.ntmps5
  go_wp2_with fail
  refine (J1 _).mono ?_
  rintro e w1 ⟨rfl, K1⟩
  go_wp2_with fail
  refine (J2 _).mono ?_
  rintro e w2 ⟨rfl, hb2⟩
  have K2 := Below.then' K1 hb2 K1.size
  clear K1 hb2
  go_wp2_with fail
  refine (J3 _).mono ?_
  rintro e w3 ⟨rfl, hb3⟩
  have K3 := Below.then' K2 hb3 K2.size
  clear K2 hb3
  go_wp2_with fail
  refine (J4 _).mono ?_
  rintro e w4 ⟨rfl, hb4⟩
  have K4 := Below.then' K3 hb4 K3.size
  clear K3 hb4
  have T4 := hT.later K4
  go_wp2_with fail
  refine (awake_any _ T4).mono ?_
  rintro e w5 ⟨rfl, hb5⟩
  go_wp2
  go_ret
  exact ⟨rfl, Below.then' K4 hb5 K4.size⟩

end Go.Proofs.YtonhoahklmafgaaDoor
