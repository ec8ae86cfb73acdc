/- The walks of pack's numbers. -/
import Derived.Test.YtpicaiikejohaaaRows
import Derived.Test.YtpicaiikejohaaaPlain
import Derived.WalkKit
import Derived.WalkSpells
import Derived.WalkLawsBesides
import Derived.Deep.OwnRows
namespace Go.Proofs.Ytpicaiikejohaaa
open Go.RowKit

theorem info5 : (Try.prog.info? 5).map (fun i => (i.zero, i.size, i.bytes)) = some (some (.int .u8 0), 1, 1) := by kernel_rfl

set_option maxHeartbeats 400000 in
theorem numberBytes_any (n : Nat) (k : Nat) (hk : k ≤ 8) (w : World) :
    Calls Try.prog 35 #[.int .u64 n, .int .i64 k] w fun e w' => e = .returned (.string (str (leB k n))) ∧ Below w.heap.size w w' := by
  have hmk := fun w' => run_make_row' (P := Try.prog) 59 5 (.int .u8 0) 1 Try.underlying59 info5 rfl .i64 .i64 k (by omega) (by omega) w'
  go_enter Try.func35, Try.ntmps35
  go_wp2
  go_loopw [11] (fun x wr => ∃ (i : Nat) (C : Array Value), i ≤ k ∧ x = .int .i64 i ∧ C.size = k ∧ (∀ j (h : j < i), C[j]? = some (.int .u8 ((UInt8.ofNat (n / 256 ^ j)).toNat))) ∧ wr = w.alloc (.cells C 5)) (fun x _ => k - (intOf x).toNat)
  case atStart => exact ⟨0, _, Nat.zero_le _, rfl, size_madeCells _ _, fun j h => by omega, rfl⟩
  case round =>
    obtain ⟨i, C, hi, rfl, hC, hcs, rfl⟩ := hrel
    by_cases hlt : i < k
    · have hb := byte_div n i
      go_wp2
      go_roundw
      case rel =>
        refine ⟨i + 1, _, by omega, by go_num, ?_, ?_, rfl⟩
        · simpa using hC
        · intro j hj
          rw [Array.getElem?_setIfInBounds]
          by_cases e : i = j
          · subst e
            simp [hC, hlt]
          · simp [e, hcs j (by omega)]
      case measure => simp [intOf]; omega
    · obtain rfl : i = k := by omega
      have hcv := conv_bytes (P := Try.prog) (w.alloc (.cells C 5)) 59 9 5 w.heap.size i i (leB i n) (leB_len _ _) Try.underlying59 Try.underlying5 Try.underlying9 (fun j hj => by
        rw [leB_get, World.cell?_alloc_mark]
        exact hcs j (by simpa [leB_len] using hj))
      go_wp2
      go_ret
      exact ⟨rfl, (Below.refl _ _).alloc (Nat.le_refl _) _⟩

theorem numberBytes_int (x : Int) (hx : 0 ≤ x) (k : Nat) (hk : k ≤ 8) (w : World) :
    Calls Try.prog 35 #[.int .u64 x, .int .i64 k] w fun e w' => e = .returned (.string (str (leB k x.toNat))) ∧ Below w.heap.size w w' := by
  obtain ⟨n, rfl⟩ := Int.eq_ofNat_of_zero_le hx
  exact numberBytes_any n k hk w

theorem u8_any (x : Int) (hx : 0 ≤ x) (hx' : x ≤ 255) (w : World) :
    Calls Try.prog 9 #[.int .u8 x] w fun e w' => e = .returned (.string (str (leB 1 x.toNat))) ∧ Below w.heap.size w w' := by
  go_enter Try.func9, Try.ntmps9
  go_wp2_with (go_at_call 35; refine (numberBytes_int _ (by omega) 1 (by omega) _).mono ?_; rintro e w' ⟨rfl, hb⟩)
  go_ret
  exact ⟨rfl, hb⟩

theorem u16_any (x : Int) (hx : 0 ≤ x) (hx' : x ≤ 65535) (w : World) :
    Calls Try.prog 10 #[.int .u16 x] w fun e w' => e = .returned (.string (str (leB 2 x.toNat))) ∧ Below w.heap.size w w' := by
  go_enter Try.func10, Try.ntmps10
  go_wp2_with (go_at_call 35; refine (numberBytes_int _ (by omega) 2 (by omega) _).mono ?_; rintro e w' ⟨rfl, hb⟩)
  go_ret
  exact ⟨rfl, hb⟩

theorem u32_any (x : Int) (hx : 0 ≤ x) (hx' : x ≤ 4294967295) (w : World) :
    Calls Try.prog 11 #[.int .u32 x] w fun e w' => e = .returned (.string (str (leB 4 x.toNat))) ∧ Below w.heap.size w w' := by
  go_enter Try.func11, Try.ntmps11
  go_wp2_with (go_at_call 35; refine (numberBytes_int _ (by omega) 4 (by omega) _).mono ?_; rintro e w' ⟨rfl, hb⟩)
  go_ret
  exact ⟨rfl, hb⟩

theorem u64_any (x : Int) (hx : 0 ≤ x) (w : World) :
    Calls Try.prog 12 #[.int .u64 x] w fun e w' => e = .returned (.string (str (leB 8 x.toNat))) ∧ Below w.heap.size w w' := by
  go_enter Try.func12, Try.ntmps12
  go_wp2_with (go_at_call 35; refine (numberBytes_int _ (by omega) 8 (by omega) _).mono ?_; rintro e w' ⟨rfl, hb⟩)
  go_ret
  exact ⟨rfl, hb⟩

/-- A length's bytes (a length below 2^32). -/
theorem lengthBytes_any (n : Nat) (hn : n ≤ 4294967295) (w : World) :
    Calls Try.prog 36 #[.int .i64 n] w fun e w' => e = .returned (.string (str (leB 4 n))) ∧ Below w.heap.size w w' := by
  go_enter Try.func36, Try.ntmps36
  go_wp2_with (go_at_call 11; refine (u32_any _ (by omega) (by omega) _).mono ?_; rintro e w' ⟨rfl, hb⟩)
  go_ret
  exact ⟨rfl, hb⟩

/-- A text's bytes (shorter than 2^32). -/
theorem text_any (s : ByteArray) (hs : s.size ≤ 4294967295) (w : World) :
    Calls Try.prog 14 #[.string s] w fun e w' => e = .returned (.string (str (leB 4 s.size) ++ s)) ∧ Below w.heap.size w w' := by
  have hz : (str (leB 4 s.size)).size = 4 := by rw [str_size, leB_len]
  go_enter Try.func14, Try.ntmps14
  go_wp2_with (go_at_call 36; refine (lengthBytes_any _ (by omega) _).mono ?_; rintro e w' ⟨rfl, hb⟩)
  go_ret
  exact ⟨rfl, hb⟩

end Go.Proofs.Ytpicaiikejohaaa
