/- The walk of Pad. -/
import Derived.Test.YtepcnedagmfpeaaDoorRev
import Derived.Test.YtepcnedagmfpeaaDoorFillB
namespace Go.Proofs.YtepcnedagmfpeaaDoor
open Go.RowKit

theorem fill_one (z : Nat) : fillB ⟨#[128]⟩ (1 + (z : Int)) = str (128 :: List.replicate z 0) := by
  unfold fillB
  have e : (1 + (z : Int) - ((⟨#[128]⟩ : ByteArray).size : Int)).toNat = z := by
    show (1 + (z : Int) - ((1 : Nat) : Int)).toNat = z
    omega
  rw [e]
  rfl

theorem pad_bytes (n : Nat) : fillB ⟨#[128]⟩ (1 + (((119 - n % 64) % 64 : Nat) : Int)) ++ str (leB 8 (rev64 (8 * n % 18446744073709551616))) = str (padL n) := by
  rw [fill_one, rev64_bytes, str_append]
  rfl

theorem pad_any (n : Nat) (hn : n ≤ 9223372036854775807) (w : World) :
    Calls Tryd.prog 19 #[.int .i64 n] w fun e w' => e = .returned (.tuple #[.string (str (padL n)), .int .i64 0]) ∧ Below w.heap.size w w' := by
  have hp := pad_bytes n
  have hm : 8 * n % 18446744073709551616 ≤ 18446744073709551615 := by omega
  have R := rev_any (8 * n % 18446744073709551616) hm
  have em : IntKind.u64.wrap (8 * (n : Int)) = ((8 * n % 18446744073709551616 : Nat) : Int) := by rw [IntKind.wrap_u64]; omega
  have ez : ((119 : Int) - (n : Int) % 64) % 64 = (((119 - n % 64) % 64 : Nat) : Int) := by omega
  have hz0 : (119 - n % 64) % 64 ≤ 63 := by omega
  obtain ⟨m, hm'⟩ : ∃ m, m = 8 * n % 18446744073709551616 := ⟨_, rfl⟩
  obtain ⟨z, hz⟩ : ∃ z, z = (119 - n % 64) % 64 := ⟨_, rfl⟩
  rw [← hm'] at hp R em
  rw [← hz] at hp ez hz0
  have F := fill_any ⟨#[128]⟩ (1 + (z : Int)) (by omega)
  obtain ⟨r, hr⟩ : ∃ r, r = rev64 m := ⟨_, rfl⟩
  rw [← hr] at hp R
  have sz : (fillB ⟨#[128]⟩ (1 + (z : Int))).size = 1 + z := by rw [fill_one, str_size]; simp; omega
  have s8 : (str (leB 8 r)).size = 8 := by rw [str_size, leB_len]
  obtain ⟨f, hf⟩ : ∃ f, f = fillB ⟨#[128]⟩ (1 + (z : Int)) := ⟨_, rfl⟩
  obtain ⟨u, hu⟩ : ∃ u, u = str (leB 8 r) := ⟨_, rfl⟩
  have U := u64_any r
  rw [← hf] at hp F sz
  rw [← hu] at hp s8 U
  have HP := Lib.hid hp
  clear hp hm hm' hz hr hf hu
  go_enter Tryd.func19, Tryd.ntmps19
  go_wp2_with fail
  refine (R _).mono ?_
  rintro e w1 ⟨rfl, rfl⟩
  go_wp2_with fail
  refine (F _).mono ?_
  rintro e w1 ⟨rfl, hb1⟩
  go_wp2_with fail
  refine (U _).mono ?_
  rintro e w2 ⟨rfl, hb2⟩
  go_wp2
  go_ret2
  exact ⟨by rw [HP.out]; rfl, Below.then' hb1 hb2 hb1.size⟩

theorem pad_neg (n : Int) (hn : n < 0) (w : World) :
    Calls Tryd.prog 19 #[.int .i64 n] w fun e w' => e = .returned (.tuple #[.string ⟨#[]⟩, .int .i64 1]) ∧ w = w' := by
  go_enter Tryd.func19, Tryd.ntmps19
  go_wp2
  go_ret2
  exact ⟨rfl, rfl⟩

end Go.Proofs.YtepcnedagmfpeaaDoor
