/- The walks of pack's numbers. pack's numbers (all of them lie in Num). The walks of Seal, of the page's examples. -/
import Derived.Test.YtijdbmapdmhknaaDoorRows
import Derived.Test.YtijdbmapdmhknaaDoorGA
import Derived.WalkKit
import Derived.WalkSpells
import Derived.WalkLawsBesides
import Derived.Deep.OwnRows
import Derived.Test.YtijdbmapdmhknaaDoorGC
namespace Go.Proofs.YtijdbmapdmhknaaDoor
open Go.RowKit

theorem info5 : (Tryd.prog.info? 5).map (fun i => (i.zero, i.size, i.bytes)) = some (some (.int .u8 0), 1, 1) := by kernel_rfl

set_option maxHeartbeats 400000 in
theorem numberBytes_any (n : Nat) (k : Nat) (hk : k ≤ 8) (w : World) :
    Calls Tryd.prog 53 #[.int .u64 n, .int .i64 k] w fun e w' => e = .returned (.string (str (leB k n))) ∧ Below w.heap.size w w' := by
  have hmk := fun w' => run_make_row' (P := Tryd.prog) 56 5 (.int .u8 0) 1 Tryd.underlying56 info5 rfl .i64 .i64 k (by omega) (by omega) w'
  go_enter Tryd.func53, Tryd.ntmps53
  go_wp2
  go_loopw [11] (fun x wr => ∃ (i : Nat) (C : Array Value), i ≤ k ∧ x = .int .i64 i ∧ C.size = k ∧ (∀ j (h : j < i), C[j]? = some (.int .u8 ((UInt8.ofNat (n / 256 ^ j)).toNat))) ∧ wr = w.alloc (.cells C 5)) (fun x _ => k - (intOf x).toNat)
  case atStart => exact ⟨0, _, Nat.zero_le _, rfl, size_madeCells _ _, fun j h => by omega, rfl⟩
  case round =>
    obtain ⟨i, C, hi, rfl, hC, hcs, rfl⟩ := hrel
    by_cases hlt : i < k
    · have hb := byte_div n i
      go_wp2
      go_roundw
      case rel =>
        refine ⟨i + 1, _, by omega, by go_num, ?_, ?_, rfl⟩
        · simpa using hC
        · intro j hj
          rw [Array.getElem?_setIfInBounds]
          by_cases e : i = j
          · subst e
            simp [hC, hlt]
          · simp [e, hcs j (by omega)]
      case measure => simp [intOf]; omega
    · obtain rfl : i = k := by omega
      have hcv := conv_bytes (P := Tryd.prog) (w.alloc (.cells C 5)) 56 9 5 w.heap.size i i (leB i n) (leB_len _ _) Tryd.underlying56 Tryd.underlying5 Tryd.underlying9 (fun j hj => by
        rw [leB_get, World.cell?_alloc_mark]
        exact hcs j (by simpa [leB_len] using hj))
      go_wp2
      go_ret
      exact ⟨rfl, (Below.refl _ _).alloc (Nat.le_refl _) _⟩

theorem numberBytes_int (x : Int) (hx : 0 ≤ x) (k : Nat) (hk : k ≤ 8) (w : World) :
    Calls Tryd.prog 53 #[.int .u64 x, .int .i64 k] w fun e w' => e = .returned (.string (str (leB k x.toNat))) ∧ Below w.heap.size w w' := by
  obtain ⟨n, rfl⟩ := Int.eq_ofNat_of_zero_le hx
  exact numberBytes_any n k hk w

theorem u16_any (x : Int) (hx : 0 ≤ x) (hx' : x ≤ 65535) (w : World) :
    Calls Tryd.prog 30 #[.int .u16 x] w fun e w' => e = .returned (.string (str (leB 2 x.toNat))) ∧ Below w.heap.size w w' := by
  go_enter Tryd.func30, Tryd.ntmps30
  go_wp2_with (go_at_call 53; refine (numberBytes_int _ (by omega) 2 (by omega) _).mono ?_; rintro e w' ⟨rfl, hb⟩)
  go_ret
  exact ⟨rfl, hb⟩

theorem u32_any (x : Int) (hx : 0 ≤ x) (hx' : x ≤ 4294967295) (w : World) :
    Calls Tryd.prog 28 #[.int .u32 x] w fun e w' => e = .returned (.string (str (leB 4 x.toNat))) ∧ Below w.heap.size w w' := by
  go_enter Tryd.func28, Tryd.ntmps28
  go_wp2_with (go_at_call 53; refine (numberBytes_int _ (by omega) 4 (by omega) _).mono ?_; rintro e w' ⟨rfl, hb⟩)
  go_ret
  exact ⟨rfl, hb⟩

/-- A length's bytes (a length below 2^32). -/
theorem lengthBytes_any (n : Nat) (hn : n ≤ 4294967295) (w : World) :
    Calls Tryd.prog 54 #[.int .i64 n] w fun e w' => e = .returned (.string (str (leB 4 n))) ∧ Below w.heap.size w w' := by
  go_enter Tryd.func54, Tryd.ntmps54
  go_wp2_with (go_at_call 28; refine (u32_any _ (by omega) (by omega) _).mono ?_; rintro e w' ⟨rfl, hb⟩)
  go_ret
  exact ⟨rfl, hb⟩

/-- A text's bytes (shorter than 2^32). -/
theorem text_any (s : ByteArray) (hs : s.size ≤ 4294967295) (w : World) :
    Calls Tryd.prog 29 #[.string s] w fun e w' => e = .returned (.string (str (leB 4 s.size) ++ s)) ∧ Below w.heap.size w w' := by
  have hz : (str (leB 4 s.size)).size = 4 := by rw [str_size, leB_len]
  go_enter Tryd.func29, Tryd.ntmps29
  go_wp2_with (go_at_call 54; refine (lengthBytes_any _ (by omega) _).mono ?_; rintro e w' ⟨rfl, hb⟩)
  go_ret
  exact ⟨rfl, hb⟩

/-! The same, of a letter; wraps of small numbers. -/
theorem pu16 (n : Nat) (hn : n < 65536) (S : ByteArray) (hS : S = str (leB 2 n)) (w : World) : Calls Tryd.prog 30 #[.int .u16 n] w fun e w' => e = .returned (.string S) ∧ Below w.heap.size w w' := by
  subst hS; exact u16_any n (by omega) (by omega) w
theorem pu32 (n : Nat) (hn : n < 4294967296) (S : ByteArray) (hS : S = str (leB 4 n)) (w : World) : Calls Tryd.prog 28 #[.int .u32 n] w fun e w' => e = .returned (.string S) ∧ Below w.heap.size w w' := by
  subst hS; exact u32_any n (by omega) (by omega) w
theorem wrap_u16 {n : Nat} (h : n < 65536) : IntKind.u16.wrap (n : Int) = (n : Int) := by simp [IntKind.wrap, IntKind.bits, IntKind.signed]; omega
theorem wrap_u8 {n : Nat} (h : n < 256) : IntKind.u8.wrap (n : Int) = (n : Int) := by simp [IntKind.wrap, IntKind.bits, IntKind.signed]; omega


end Go.Proofs.YtijdbmapdmhknaaDoor

namespace Go.Proofs.YtijdbmapdmhknaaDoor
open Go.RowKit

/-- A text with its sum behind it. -/
def sealed (s : ByteArray) : ByteArray := s ++ str (leB 4 (moreN 0 s.data.toList))

theorem sealed_size (s : ByteArray) : (sealed s).size = s.size + 4 := by
  unfold sealed
  rw [ByteArray.size_append, str_size, leB_len]

theorem sealed_list (s : ByteArray) : (sealed s).data.toList = s.data.toList ++ leB 4 (moreN 0 s.data.toList) := by
  unfold sealed
  rw [ByteArray.data_append, Array.toList_append, str_list]

theorem moreN_le (n : Nat) (l : List UInt8) : moreN n l ≤ 4294967295 := by
  have := more_lt n l
  unfold top32 at this
  omega

theorem seal_any (s : ByteArray) (hs : s.size ≤ 4294967295) (w : World) (hT : TabAt w) :
    Calls Tryd.prog 31 #[.string s] w fun e w' => e = .returned (.string (sealed s)) ∧ Below w.heap.size w w' := by
  have C1 := sum_any s (by unfold maxLen; omega)
  have hz : (str (leB 4 (moreN 0 s.data.toList))).size = 4 := by rw [str_size, leB_len]
  have hl := moreN_le 0 s.data.toList
  go_enter Tryd.func31, Tryd.ntmps31
  go_wp2_with (go_at_call 55; refine (C1 _ hT).mono ?_; rintro e w' ⟨rfl, rfl⟩)
  go_wp2_with (go_at_call 28; refine (u32_any _ (by omega) (by omega) _).mono ?_; rintro e w' ⟨rfl, hb⟩)
  go_ret
  exact ⟨rfl, hb⟩

def nine : ByteArray := ⟨#[49, 50, 51, 52, 53, 54, 55, 56, 57]⟩

theorem aw_sum (w : World) (hT : TabAt w) : Calls Tryd.prog 55 #[.string ⟨#[49, 50, 51, 52, 53, 54, 55, 56, 57]⟩] w fun e w' => e = .returned (.int .u32 3421780262) ∧ w = w' := by
  have h := sum_any nine (by decide) w hT
  have e : moreN 0 nine.data.toList = 3421780262 := by decide +kernel
  rw [e] at h
  exact h

theorem aw_seal (w : World) (hT : TabAt w) : Calls Tryd.prog 31 #[.string ⟨#[]⟩] w fun e w' => e = .returned (.string ⟨#[0, 0, 0, 0]⟩) ∧ Below w.heap.size w w' := by
  have h := seal_any ⟨#[]⟩ (by decide) w hT
  have e : sealed ⟨#[]⟩ = ⟨#[0, 0, 0, 0]⟩ := by decide +kernel
  rw [e] at h
  exact h

end Go.Proofs.YtijdbmapdmhknaaDoor
