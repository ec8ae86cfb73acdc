/- The walks of pack's reader. -/
import Derived.Test.YtdmbebafpamgfaaDoorRows
import Derived.Test.YtdmbebafpamgfaaDoorPlain
import Derived.WalkKit
import Derived.WalkSpells
import Derived.WalkLawsBesides
import Derived.Deep.OwnRows
import Derived.Lib.Hide
import Derived.Lib.Builder
namespace Go.Proofs.YtdmbebafpamgfaaDoor
open Go.RowKit

/-- A reader in the block b: what is left, and its error. -/
def RdAt (b : Nat) (s : RdSt) (w : World) : Prop := w.heap[b]? = some (.cells #[.string (str s.1), .int .i64 s.2] 121 (0, 0))

theorem RdAt.c0 {b : Nat} {s : RdSt} {w : World} (h : RdAt b s w) : w.cell? ⟨b, 0, none⟩ = some (.string (str s.1)) := by rw [Lib.cell_of_heap h]; rfl
theorem RdAt.c1 {b : Nat} {s : RdSt} {w : World} (h : RdAt b s w) : w.cell? ⟨b, 1, none⟩ = some (.int .i64 s.2) := by rw [Lib.cell_of_heap h]; rfl
theorem RdAt.f {b : Nat} {s : RdSt} {w : World} (h : RdAt b s w) (j : Nat) : w.frozen? ⟨b, j, none⟩ = false := Lib.frozen_of_heap h j
theorem RdAt.lt {b : Nat} {s : RdSt} {w : World} (h : RdAt b s w) : b < w.heap.size := (Array.getElem?_eq_some_iff.1 h).1
theorem RdAt.set0 {b : Nat} {s : RdSt} {w : World} (h : RdAt b s w) (l : List UInt8) : RdAt b (l, s.2) (w.setCell ⟨b, 0, none⟩ (.string (str l))) := by
  unfold RdAt at *
  simp [World.setCell, Array.getElem?_modify, h]
theorem RdAt.set1 {b : Nat} {s : RdSt} {w : World} (h : RdAt b s w) (e : Int) : RdAt b (s.1, e) (w.setCell ⟨b, 1, none⟩ (.int .i64 e)) := by
  unfold RdAt at *
  simp [World.setCell, Array.getElem?_modify, h]
theorem RdAt.later {b : Nat} {s : RdSt} {w w' : World} (h : RdAt b s w) {r : Option Nat} (hb : w.grownBy w' r) (hr : some b ≠ r) : RdAt b s w' := by
  unfold RdAt at *
  rw [hb.block b (Array.getElem?_eq_some_iff.1 h).1 hr]; exact h

def RdPost (b : Nat) (v : Value) (s : RdSt) (w : World) (e : Ending) (w' : World) : Prop := e = .returned v ∧ RdAt b s w' ∧ w.grownBy w' (some b)

theorem read_any (s : ByteArray) (w : World) :
    Calls Tryd.prog 62 #[.string s] w fun e w' => e = .returned (.pointer (some ⟨w.heap.size, 0, none⟩)) ∧ RdAt w.heap.size (s.data.toList, 0) w' ∧ Below w.heap.size w w' := by
  go_enter Tryd.func62, Tryd.ntmps62
  go_wp2
  go_ret
  refine ⟨rfl, ?_, (Below.refl _ _).alloc (Nat.le_refl _) _⟩
  unfold RdAt
  rw [str_data]
  exact Go.Deep.blk_alloc_new _ _

theorem fail_any (b : Nat) (s : RdSt) (er : Int) (w : World) (h : RdAt b s w) :
    Calls Tryd.prog 77 #[.pointer (some ⟨b, 0, none⟩), .int .i64 er] w (RdPost b (.tuple #[]) ([], er) w) := by
  have f0 := h.f 0
  have f1 := h.f 1
  have c0 := h.c0
  have c1 := h.c1
  go_enter Tryd.func77, Tryd.ntmps77
  go_wp2
  go_end0
  refine ⟨rfl, ?_, ?_⟩
  · exact RdAt.set1 (h.set0 []) er
  · exact grown_trans (grown_set _ _ _ _) (grown_set _ _ _ _)

set_option maxHeartbeats 400000 in
theorem take_any (b : Nat) (s : RdSt) (n : Int) (w : World) (h : RdAt b s w) (hl : s.1.length ≤ 1000000) :
    Calls Tryd.prog 63 #[.pointer (some ⟨b, 0, none⟩), .int .i64 n] w (RdPost b (.string (str (takeR s n).1)) (takeR s n).2 w) := by
  obtain ⟨l, e⟩ := s
  have f0 := h.f 0
  have f1 := h.f 1
  have c0 := h.c0
  have c1 := h.c1
  have hz : (str l).size = l.length := str_size l
  simp only at c0 c1 hl
  unfold takeR
  by_cases he : e = 0
  · subst he
    rw [if_neg (by simp)]
    by_cases hn : n < 0
    · rw [if_pos hn]
      go_enter Tryd.func63, Tryd.ntmps63
      go_wp2_with (go_at_call 77; refine (fail_any b _ 1 _ h).mono ?_; rintro e w' ⟨rfl, h1, h2⟩)
      go_ret
      exact ⟨rfl, h1, h2⟩
    · rw [if_neg hn]
      by_cases hb : (l.length : Int) < n
      · rw [if_pos hb]
        go_enter Tryd.func63, Tryd.ntmps63
        go_wp2_with (go_at_call 77; refine (fail_any b _ 10 _ h).mono ?_; rintro e w' ⟨rfl, h1, h2⟩)
        go_ret
        exact ⟨rfl, h1, h2⟩
      · rw [if_neg hb]
        obtain ⟨k, rfl⟩ := Int.eq_ofNat_of_zero_le (show 0 ≤ n by omega)
        have ht := str_take l k
        have hd := str_drop l k
        go_enter Tryd.func63, Tryd.ntmps63
        go_wp2
        go_ret
        refine ⟨rfl, ?_, grown_set _ _ _ _⟩
        exact h.set0 (l.drop k)
  · rw [if_pos he]
    have he' : (e == 0) = false := by simpa using he
    have he'' : (e != 0) = true := by simpa using he
    have HE := Lib.hid he
    clear he
    go_enter Tryd.func63, Tryd.ntmps63
    go_wp2
    go_ret
    exact ⟨rfl, h, grown_refl _ _⟩

theorem takeR_len (s : RdSt) (n : Int) : (takeR s n).2.1.length ≤ s.1.length := by
  unfold takeR
  split
  · simp
  · split
    · simp
    · split <;> simp

theorem takeR_le (s : RdSt) (k : Nat) : (takeR s k).1.length ≤ k := by
  unfold takeR
  split
  · simp
  · split
    · simp
    · split
      · simp
      · simp [List.length_take]; omega

set_option maxHeartbeats 400000 in
theorem number_any (b : Nat) (s : RdSt) (k : Nat) (hk : k ≤ 8) (w : World) (h : RdAt b s w) (hl : s.1.length ≤ 1000000) :
    Calls Tryd.prog 78 #[.pointer (some ⟨b, 0, none⟩), .int .i64 k] w (RdPost b (.int .u64 (numR s k).1) (numR s k).2 w) := by
  unfold numR
  have hx := takeR_le s k
  go_enter Tryd.func78, Tryd.ntmps78
  go_wp2_with (go_at_call 63; refine (take_any b s k _ h hl).mono ?_; rintro e w' ⟨rfl, h1, h2⟩)
  obtain ⟨x, hX⟩ : ∃ x, (takeR s k).1 = x := ⟨_, rfl⟩
  rw [hX] at hx ⊢
  have HX := Lib.hid hX
  clear hX h hl
  have hz : (str x).size = x.length := str_size x
  go_wp2
  go_loop [6, 13] (fun n y => ∃ i : Nat, i ≤ x.length ∧ y = .int .i64 i ∧ n = .int .u64 (ofLE (x.take i))) (fun _ y => x.length - (intOf y).toNat)
  case atStart => exact ⟨0, Nat.zero_le _, rfl, rfl⟩
  case round =>
    obtain ⟨i, hi, rfl, rfl⟩ := hrel
    by_cases hlt : i < x.length
    · have hlt' := ofLE_lt (x.take i)
      rw [List.length_take, Nat.min_eq_left (by omega)] at hlt'
      have hB := x[i].toNat_lt
      have HO := Lib.hid (or_step (ofLE (x.take i)) (x[i]).toNat i hlt' (by omega) (by omega))
      have HT := Lib.hid (ofLE_take x i hlt)
      clear hlt' hB
      go_wp2
      go_round
      case rel => exact ⟨i + 1, by omega, by go_num, by rw [HT.out, ← HO.out]; rfl⟩
      case measure => simp [intOf]; omega
    · obtain rfl : i = x.length := by omega
      rw [List.take_length]
      go_wp2
      go_ret
      exact ⟨by rw [HX.out]; rfl, h1, h2⟩

theorem numR_lt (s : RdSt) (k : Nat) : (numR s k).1 < 256 ^ k :=
  Nat.lt_of_lt_of_le (ofLE_lt _) (Nat.pow_le_pow_right (by omega) (takeR_le s k))

theorem numR_len (s : RdSt) (k : Nat) : (numR s k).2.1.length ≤ s.1.length := takeR_len s k

theorem u16r_any (b : Nat) (s : RdSt) (w : World) (h : RdAt b s w) (hl : s.1.length ≤ 1000000) :
    Calls Tryd.prog 65 #[.pointer (some ⟨b, 0, none⟩)] w (RdPost b (.int .u16 (numR s 2).1) (numR s 2).2 w) := by
  have hb : (numR s 2).1 < 65536 := numR_lt s 2
  go_enter Tryd.func65, Tryd.ntmps65
  go_wp2_with (go_at_call 78; refine (number_any b s 2 (by omega) _ h hl).mono ?_; rintro e w' ⟨rfl, h1, h2⟩)
  go_ret
  exact ⟨rfl, h1, h2⟩

theorem u32r_any (b : Nat) (s : RdSt) (w : World) (h : RdAt b s w) (hl : s.1.length ≤ 1000000) :
    Calls Tryd.prog 64 #[.pointer (some ⟨b, 0, none⟩)] w (RdPost b (.int .u32 (numR s 4).1) (numR s 4).2 w) := by
  have hb : (numR s 4).1 < 4294967296 := numR_lt s 4
  go_enter Tryd.func64, Tryd.ntmps64
  go_wp2_with (go_at_call 78; refine (number_any b s 4 (by omega) _ h hl).mono ?_; rintro e w' ⟨rfl, h1, h2⟩)
  go_ret
  exact ⟨rfl, h1, h2⟩

theorem lenR_len (s : RdSt) (m : Nat) : (lenR s m).2.1.length ≤ s.1.length := by
  unfold lenR
  split
  · simp
  · exact numR_len s 4

theorem textR_len (s : RdSt) : (textR s).2.1.length ≤ s.1.length := Nat.le_trans (takeR_len _ _) (lenR_len s _)

/-- What End answers. -/
def endR (s : RdSt) : Int := if s.2 = 0 ∧ s.1 ≠ [] then 7 else s.2

end Go.Proofs.YtdmbebafpamgfaaDoor
