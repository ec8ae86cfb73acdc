/- The walks of a Roll: New, add, Sum, Push, Len, Reset; Slide. -/
import Derived.Test.YtimllddlcjnikaaDoorRollW
import Derived.Test.YtimllddlcjnikaaDoorArr
import Derived.Laws.Rows
import Derived.Deep.WholeRow
import Derived.RegionTactic
import Derived.Deep.RegionWith
namespace Go.Proofs.YtimllddlcjnikaaDoor
open Go.RowKit

theorem below_setRow {B : Nat} {w w' : World} (h : Below B w w') (g : Nat) (cs : Array Value) (hg : B ≤ g) : Below B w (w'.setRow g cs) :=
  ⟨h.os, h.tape, h.output, by simpa using h.size, fun i hi => (setRow_other w' g i cs (by omega)).trans (h.block i hi)⟩

/-! ### Slide. -/
set_option maxRecDepth 100000 in
theorem slide_any (h : Nat) (hh : h < 2147483647) (o b : UInt8) (w : World) (hT : TabAt w) :
    Calls Tryd.prog 44 #[.int .u32 h, .int .u8 (o.toNat : Int), .int .u8 (b.toNat : Int)] w fun e w' => e = .returned (.tuple #[.int .u32 (rslide h o b : Nat), .int .i64 0]) ∧ w = w' := by
  have S := slid_any h hh o b w hT
  have b1 : ((2147483647 : Int) ≤ h) = False := eq_false (by omega)
  clear hh hT
  go_enter Tryd.func44, Tryd.ntmps44
  go_wp2_with fail
  refine S.mono ?_
  rintro e w' ⟨rfl, rfl⟩
  go_wp2
  go_ret2
  exact ⟨rfl, rfl⟩

set_option maxRecDepth 100000 in
theorem slide_arg (h : Nat) (hh : 2147483647 ≤ h) (o b : Int) (w : World) :
    Calls Tryd.prog 44 #[.int .u32 h, .int .u8 o, .int .u8 b] w fun e w' => e = .returned (.tuple #[.int .u32 0, .int .i64 1]) ∧ w = w' := by
  have b1 : ((2147483647 : Int) ≤ h) = True := eq_true (by omega)
  clear hh
  go_enter Tryd.func44, Tryd.ntmps44
  go_wp2
  go_ret2
  exact ⟨rfl, rfl⟩

/-! ### The cells of a Roll. -/
def byA (l : List UInt8) : Array Value := (l.map fun c : UInt8 => Value.int .u8 (c.toNat : Int)).toArray
theorem byA_size (l : List UInt8) : (byA l).size = l.length := by simp [byA]
theorem byA_get (l : List UInt8) (i : Nat) (h : i < l.length) : (byA l)[i]? = some (.int .u8 ((l.getD i 0).toNat : Int)) := by
  simp [byA, List.getD, h]

def rollA (A : List UInt8) (n : Nat) : Array Value := (byA A).push (.int .i64 n)
theorem rollA_size (A : List UInt8) (n : Nat) (h : A.length = 16) : (rollA A n).size = 17 := by simp [rollA, byA_size, h]
theorem rollA_last (A : List UInt8) (n : Nat) (h : A.length = 16) : (rollA A n)[16]? = some (.int .i64 n) := by
  have : 16 = (byA A).size := by rw [byA_size, h]
  unfold rollA
  rw [this, Array.getElem?_push_size]
theorem rollA_get (A : List UInt8) (n i : Nat) (h : A.length = 16) (hi : i < 16) : (rollA A n)[i]? = some (.int .u8 ((A.getD i 0).toNat : Int)) := by
  unfold rollA
  rw [Array.getElem?_push_lt (by rw [byA_size]; omega), ← byA_get A i (by omega), Array.getElem?_eq_getElem (by rw [byA_size]; omega)]
theorem rollA_set (A : List UInt8) (n i : Nat) (b : UInt8) (h : A.length = 16) (hi : i < 16) : (rollA A n).setIfInBounds i (.int .u8 (b.toNat : Int)) = rollA (A.set i b) n := by
  apply Array.ext'
  simp only [rollA, byA, Array.toList_setIfInBounds, Array.toList_push, List.map_set]
  rw [List.set_append_left _ _ (by simp; omega)]
theorem rollA_count (A : List UInt8) (n m : Nat) (h : A.length = 16) : (rollA A n).setIfInBounds 16 (.int .i64 m) = rollA A m := by
  apply Array.ext'
  simp only [rollA, byA, Array.toList_setIfInBounds, Array.toList_push]
  rw [List.set_append_right _ _ (by simp; omega)]
  simp [h]
theorem rollA_one (A : List UInt8) (n : Nat) : (rollA A n).all (·.oneCell') = true := by
  rw [Array.all_eq_true]
  intro i hi
  simp only [rollA, byA, Array.getElem_push]
  split
  · simp [Value.oneCell']
  · rfl

/-- A Roll that the bytes l came to. -/
def IsRoll (rb : Nat) (l : List UInt8) (w : World) : Prop := ∃ A, RingOf l A ∧ w.heap[rb]? = some (.cells (rollA A l.length) 82 (0, 0))

theorem IsRoll.later {rb : Nat} {l : List UInt8} {w w' : World} (h : IsRoll rb l w) (hb : Below w.heap.size w w') : IsRoll rb l w' := by
  obtain ⟨A, hA, h⟩ := h
  exact ⟨A, hA, (hb.block _ (Array.getElem?_eq_some_iff.1 h).1).trans h⟩

theorem infoRoll : (Tryd.prog.info? 82).map (·.size) = some 17 := by kernel_rfl

theorem new_any (w : World) : Calls Tryd.prog 46 #[] w fun e w' => e = .returned (.pointer (some ⟨w.heap.size, 0, none⟩)) ∧ IsRoll w.heap.size [] w' ∧ Below w.heap.size w w' := by
  go_enter Tryd.func46, Tryd.ntmps46
  go_wp2
  go_ret
  exact ⟨rfl, ⟨_, RingOf.nil, heap_alloc_last w _⟩, (Below.refl _ _).alloc (Nat.le_refl _) _⟩

theorem sumr_no (w : World) :
    Calls Tryd.prog 48 #[.pointer none] w fun e w' => e = .returned (.int .u32 0) ∧ w = w' := by
  go_enter Tryd.func48, Tryd.ntmps48
  go_wp2
  go_ret
  exact ⟨rfl, rfl⟩

theorem built_roll : Tryd.prog.built 82 [] = some (rollA (List.replicate 16 0) 0) := by kernel_rfl

end Go.Proofs.YtimllddlcjnikaaDoor
