/- The walks of pack's numbers of 8 bytes and of Fill (in place of Num and Build where a translation holds no others). -/
import Derived.Test.YtepcnedagmfpeaaDoorRows
import Derived.Test.YtepcnedagmfpeaaDoorPlain
import Derived.Test.YtepcnedagmfpeaaDoorShelf
import Derived.WalkKit
import Derived.WalkSpells
import Derived.WalkLawsBesides
import Derived.Deep.OwnRows
namespace Go.Proofs.YtepcnedagmfpeaaDoor
open Go.RowKit

theorem info5 : (Tryd.prog.info? 5).map (fun i => (i.zero, i.size, i.bytes)) = some (some (.int .u8 0), 1, 1) := by kernel_rfl

set_option maxHeartbeats 400000 in
theorem numberBytes_any (n : Nat) (k : Nat) (hk : k ≤ 8) (w : World) :
    Calls Tryd.prog 37 #[.int .u64 n, .int .i64 k] w fun e w' => e = .returned (.string (str (leB k n))) ∧ Below w.heap.size w w' := by
  have hmk := fun w' => run_make_row' (P := Tryd.prog) 60 5 (.int .u8 0) 1 Tryd.underlying60 info5 rfl .i64 .i64 k (by omega) (by omega) w'
  go_enter Tryd.func37, Tryd.ntmps37
  go_wp2
  go_loopw [11] (fun x wr => ∃ (i : Nat) (C : Array Value), i ≤ k ∧ x = .int .i64 i ∧ C.size = k ∧ (∀ j (h : j < i), C[j]? = some (.int .u8 ((UInt8.ofNat (n / 256 ^ j)).toNat))) ∧ wr = w.alloc (.cells C 5)) (fun x _ => k - (intOf x).toNat)
  case atStart => exact ⟨0, _, Nat.zero_le _, rfl, size_madeCells _ _, fun j h => by omega, rfl⟩
  case round =>
    obtain ⟨i, C, hi, rfl, hC, hcs, rfl⟩ := hrel
    by_cases hlt : i < k
    · have hb := byte_div n i
      go_wp2
      go_roundw
      case rel =>
        refine ⟨i + 1, _, by omega, by go_num, ?_, ?_, rfl⟩
        · simpa using hC
        · intro j hj
          rw [Array.getElem?_setIfInBounds]
          by_cases e : i = j
          · subst e
            simp [hC, hlt]
          · simp [e, hcs j (by omega)]
      case measure => simp [intOf]; omega
    · obtain rfl : i = k := by omega
      have hcv := conv_bytes (P := Tryd.prog) (w.alloc (.cells C 5)) 60 9 5 w.heap.size i i (leB i n) (leB_len _ _) Tryd.underlying60 Tryd.underlying5 Tryd.underlying9 (fun j hj => by
        rw [leB_get, World.cell?_alloc_mark]
        exact hcs j (by simpa [leB_len] using hj))
      go_wp2
      go_ret
      exact ⟨rfl, (Below.refl _ _).alloc (Nat.le_refl _) _⟩

theorem u64_any (n : Nat) (w : World) :
    Calls Tryd.prog 32 #[.int .u64 n] w fun e w' => e = .returned (.string (str (leB 8 n))) ∧ Below w.heap.size w w' := by
  go_enter Tryd.func32, Tryd.ntmps32
  go_wp2_with (go_at_call 37; refine (numberBytes_any _ 8 (by omega) _).mono ?_; rintro e w' ⟨rfl, hb⟩)
  go_ret
  exact ⟨rfl, hb⟩

/-- A text filled with zero bytes up to a length. -/
def fillB (s : ByteArray) (n : Int) : ByteArray := s ++ str (List.replicate (n - s.size).toNat 0)

theorem repeat_zero (k : Nat) : Lib.repeatL [0] k = List.replicate k 0 := by
  induction k with
  | zero => rfl
  | succ k ih => simp [Lib.repeatL, List.replicate_succ, ih]

theorem fillB_same (s : ByteArray) (n : Int) (h : n ≤ s.size) : fillB s n = s := by
  have : (n - s.size).toNat = 0 := by omega
  unfold fillB
  rw [this]
  apply ByteArray.ext
  simp [str, ByteArray.data_append]

theorem fill_any (s : ByteArray) (n : Int) (hn : n ≤ 5000) (w : World) :
    Calls Tryd.prog 31 #[.string s, .int .i64 n] w fun e w' => e = .returned (.string (fillB s n)) ∧ Below w.heap.size w w' := by
  by_cases h : n ≤ s.size
  · have e := fillB_same s n h
    go_enter Tryd.func31, Tryd.ntmps31
    go_wp2
    go_ret
    exact ⟨by first | rfl | (rw [e]; rfl), Below.refl _ _⟩
  · obtain ⟨k, hk⟩ : ∃ k : Nat, n = s.size + k := ⟨(n - s.size).toNat, by omega⟩
    subst hk
    have e : fillB s (s.size + k) = s ++ str (List.replicate k 0) := by
      unfold fillB; congr 3; omega
    have hz : (str (List.replicate k 0)).size = k := by simp [str_size]
    have es : (s.size : Int) + (k : Int) - (s.size : Int) = k := by omega
    have er : (⟨(Lib.repeatL (⟨#[0]⟩ : ByteArray).data.toList k).toArray⟩ : ByteArray) = str (List.replicate k 0) := by
      rw [show (⟨#[0]⟩ : ByteArray).data.toList = [0] from rfl, repeat_zero]; rfl
    go_enter Tryd.func31, Tryd.ntmps31
    go_wp2_with (go_at_call 36; fail)
    refine (Tryd.strings_Repeat _ k _ ?_ ?_).mono ?_
    · omega
    · show 1 * k ≤ _
      omega
    rw [er]
    rintro e' w' ⟨rfl, hb⟩
    go_wp2
    go_ret
    exact ⟨by first | rfl | (rw [e]; rfl), hb⟩

end Go.Proofs.YtepcnedagmfpeaaDoor
