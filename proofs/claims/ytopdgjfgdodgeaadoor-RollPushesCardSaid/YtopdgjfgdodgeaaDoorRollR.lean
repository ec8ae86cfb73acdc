/- The walks of a Roll: New, add, Sum, Push, Len, Reset; Slide. -/
import Derived.Test.YtopdgjfgdodgeaaDoorRollW
import Derived.Test.YtopdgjfgdodgeaaDoorArr
import Derived.Laws.Rows
import Derived.Deep.WholeRow
import Derived.RegionTactic
import Derived.Deep.RegionWith
namespace Go.Proofs.YtopdgjfgdodgeaaDoor
open Go.RowKit

theorem below_setRow {B : Nat} {w w' : World} (h : Below B w w') (g : Nat) (cs : Array Value) (hg : B ≤ g) : Below B w (w'.setRow g cs) :=
  ⟨h.os, h.tape, h.output, by simpa using h.size, fun i hi => (setRow_other w' g i cs (by omega)).trans (h.block i hi)⟩

/-! ### Slide. -/
set_option maxRecDepth 100000 in
theorem slide_any (h : Nat) (hh : h < 2147483647) (o b : UInt8) (w : World) (hT : TabAt w) :
    Calls Tryd.prog 14 #[.int .u32 h, .int .u8 (o.toNat : Int), .int .u8 (b.toNat : Int)] w fun e w' => e = .returned (.tuple #[.int .u32 (rslide h o b : Nat), .int .i64 0]) ∧ w = w' := by
  have S := slid_any h hh o b w hT
  have b1 : ((2147483647 : Int) ≤ h) = False := eq_false (by omega)
  clear hh hT
  go_enter Tryd.func14, Tryd.ntmps14
  go_wp2_with fail
  refine S.mono ?_
  rintro e w' ⟨rfl, rfl⟩
  go_wp2
  go_ret2
  exact ⟨rfl, rfl⟩

set_option maxRecDepth 100000 in
theorem slide_arg (h : Nat) (hh : 2147483647 ≤ h) (o b : Int) (w : World) :
    Calls Tryd.prog 14 #[.int .u32 h, .int .u8 o, .int .u8 b] w fun e w' => e = .returned (.tuple #[.int .u32 0, .int .i64 1]) ∧ w = w' := by
  have b1 : ((2147483647 : Int) ≤ h) = True := eq_true (by omega)
  clear hh
  go_enter Tryd.func14, Tryd.ntmps14
  go_wp2
  go_ret2
  exact ⟨rfl, rfl⟩

/-! ### The cells of a Roll. -/
def byA (l : List UInt8) : Array Value := (l.map fun c : UInt8 => Value.int .u8 (c.toNat : Int)).toArray
theorem byA_size (l : List UInt8) : (byA l).size = l.length := by simp [byA]
theorem byA_get (l : List UInt8) (i : Nat) (h : i < l.length) : (byA l)[i]? = some (.int .u8 ((l.getD i 0).toNat : Int)) := by
  simp [byA, List.getD, h]

def rollA (A : List UInt8) (n : Nat) : Array Value := (byA A).push (.int .i64 n)
theorem rollA_size (A : List UInt8) (n : Nat) (h : A.length = 16) : (rollA A n).size = 17 := by simp [rollA, byA_size, h]
theorem rollA_last (A : List UInt8) (n : Nat) (h : A.length = 16) : (rollA A n)[16]? = some (.int .i64 n) := by
  have : 16 = (byA A).size := by rw [byA_size, h]
  unfold rollA
  rw [this, Array.getElem?_push_size]
theorem rollA_get (A : List UInt8) (n i : Nat) (h : A.length = 16) (hi : i < 16) : (rollA A n)[i]? = some (.int .u8 ((A.getD i 0).toNat : Int)) := by
  unfold rollA
  rw [Array.getElem?_push_lt (by rw [byA_size]; omega), ← byA_get A i (by omega), Array.getElem?_eq_getElem (by rw [byA_size]; omega)]
theorem rollA_set (A : List UInt8) (n i : Nat) (b : UInt8) (h : A.length = 16) (hi : i < 16) : (rollA A n).setIfInBounds i (.int .u8 (b.toNat : Int)) = rollA (A.set i b) n := by
  apply Array.ext'
  simp only [rollA, byA, Array.toList_setIfInBounds, Array.toList_push, List.map_set]
  rw [List.set_append_left _ _ (by simp; omega)]
theorem rollA_count (A : List UInt8) (n m : Nat) (h : A.length = 16) : (rollA A n).setIfInBounds 16 (.int .i64 m) = rollA A m := by
  apply Array.ext'
  simp only [rollA, byA, Array.toList_setIfInBounds, Array.toList_push]
  rw [List.set_append_right _ _ (by simp; omega)]
  simp [h]
theorem rollA_one (A : List UInt8) (n : Nat) : (rollA A n).all (·.oneCell') = true := by
  rw [Array.all_eq_true]
  intro i hi
  simp only [rollA, byA, Array.getElem_push]
  split
  · simp [Value.oneCell']
  · rfl

/-- A Roll that the bytes l came to. -/
def IsRoll (rb : Nat) (l : List UInt8) (w : World) : Prop := ∃ A, RingOf l A ∧ w.heap[rb]? = some (.cells (rollA A l.length) 49 (0, 0))

theorem IsRoll.later {rb : Nat} {l : List UInt8} {w w' : World} (h : IsRoll rb l w) (hb : Below w.heap.size w w') : IsRoll rb l w' := by
  obtain ⟨A, hA, h⟩ := h
  exact ⟨A, hA, (hb.block _ (Array.getElem?_eq_some_iff.1 h).1).trans h⟩

theorem infoRoll : (Tryd.prog.info? 49).map (·.size) = some 17 := by kernel_rfl

theorem new_any (w : World) : Calls Tryd.prog 18 #[] w fun e w' => e = .returned (.pointer (some ⟨w.heap.size, 0, none⟩)) ∧ IsRoll w.heap.size [] w' ∧ Below w.heap.size w w' := by
  go_enter Tryd.func18, Tryd.ntmps18
  go_wp2
  go_ret
  exact ⟨rfl, ⟨_, RingOf.nil, heap_alloc_last w _⟩, (Below.refl _ _).alloc (Nat.le_refl _) _⟩

theorem len_any (rb : Nat) (l : List UInt8) (w : World) (hR : IsRoll rb l w) :
    Calls Tryd.prog 21 #[.pointer (some ⟨rb, 0, none⟩)] w fun e w' => e = .returned (.int .i64 l.length) ∧ w = w' := by
  obtain ⟨A, hA, ga⟩ := hR
  have c16 : w.cell? ⟨rb, 16, none⟩ = some (.int .i64 l.length) := (cell_of_row w _ _ _ _ _ ga).trans (rollA_last A _ hA.1)
  clear ga hA
  go_enter Tryd.func21, Tryd.ntmps21
  go_wp2
  go_ret
  exact ⟨rfl, rfl⟩

theorem len_no (w : World) :
    Calls Tryd.prog 21 #[.pointer none] w fun e w' => e = .returned (.int .i64 0) ∧ w = w' := by
  go_enter Tryd.func21, Tryd.ntmps21
  go_wp2
  go_ret
  exact ⟨rfl, rfl⟩

theorem sumr_no (w : World) :
    Calls Tryd.prog 20 #[.pointer none] w fun e w' => e = .returned (.int .u32 0) ∧ w = w' := by
  go_enter Tryd.func20, Tryd.ntmps20
  go_wp2
  go_ret
  exact ⟨rfl, rfl⟩

theorem push_no (b : Int) (w : World) :
    Calls Tryd.prog 22 #[.pointer none, .int .u8 b] w fun e w' => e = .returned (.int .u32 0) ∧ w = w' := by
  go_enter Tryd.func22, Tryd.ntmps22
  go_wp2
  go_ret
  exact ⟨rfl, rfl⟩

theorem reset_no (w : World) :
    Calls Tryd.prog 19 #[.pointer none] w fun e w' => e = .returned (.tuple #[]) ∧ w = w' := by
  go_enter Tryd.func19, Tryd.ntmps19
  go_wp2
  go_end0
  exact ⟨rfl, rfl⟩

theorem built_roll : Tryd.prog.built 49 [] = some (rollA (List.replicate 16 0) 0) := by kernel_rfl

set_option maxRecDepth 100000 in
theorem reset_any (B rb : Nat) (hB : B ≤ rb) (l : List UInt8) (w : World) (hw : B ≤ w.heap.size) (hR : IsRoll rb l w) :
    Calls Tryd.prog 19 #[.pointer (some ⟨rb, 0, none⟩)] w fun e w' => e = .returned (.tuple #[]) ∧ IsRoll rb [] w' ∧ Below B w w' := by
  obtain ⟨A, hA, ga⟩ := hR
  have HO := Lib.hid (rollA_size A l.length hA.1)
  obtain ⟨U, hU⟩ : ∃ U, U = rollA A l.length := ⟨_, rfl⟩
  rw [← hU] at ga HO
  have hb := built_roll
  have hF1 := rollA_one (List.replicate 16 0) 0
  have hD0 : (rollA (List.replicate 16 0) 0).size = 17 := rfl
  have hz : IsRoll rb [] (w.setRow rb (rollA (List.replicate 16 0) 0)) := ⟨_, RingOf.nil, setRow_heap _ _ _ _ _ _ ga⟩
  obtain ⟨D, hD⟩ : ∃ D, D = rollA (List.replicate 16 0) 0 := ⟨_, rfl⟩
  rw [← hD] at hb hF1 hD0 hz
  have HB := Lib.hid hb
  have HF1 := Lib.hid hF1
  have HFI : Hid ((Tryd.prog.info? 49).map (·.size) = some D.size) := by rw [hD0]; exact infoRoll
  have HUS : Hid (U.size = D.size) := by
    have : U.size = D.size := by rw [hD0, HO.out]
    exact this
  have HZ := Lib.hid hz
  clear hU hb hF1 hD0 hz hD hA
  go_enter Tryd.func19, Tryd.ntmps19
  go_wp2_with (first
    | (with_reducible refine wpList_built rfl _ _ rfl [] ?p D HB.out ?_)
    | (with_reducible refine wpList_store_row rfl _ _ _ rfl rb D rfl rfl 49 U ga HFI.out HUS.out HF1.out ?_))
  go_end0
  exact ⟨rfl, HZ.out, below_setRow ((Below.refl _ _).mono hw) _ _ hB⟩

end Go.Proofs.YtopdgjfgdodgeaaDoor
