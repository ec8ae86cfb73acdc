/- The walks of a search: isLast, step. -/
import Derived.Test.YtimllddlcjnikaaDoorCutS
import Derived.Test.YtimllddlcjnikaaDoorRollP
namespace Go.Proofs.YtimllddlcjnikaaDoor
open Go.RowKit

/-- Settings in cells: the first four, of thirteen. -/
structure IsConf (C : Array Value) (a b c d : Int) : Prop where
  size : C.size = 13
  c0 : C[0]? = some (.int .i64 a)
  c1 : C[1]? = some (.int .i64 b)
  c2 : C[2]? = some (.int .i64 c)
  c3 : C[3]? = some (.int .i64 d)
  one : C.all (·.oneCell') = true

/-- A search in a row, from a place on. -/
structure SrchRow (R : Array Value) (o : Nat) (C : Array Value) (n fr h k : Nat) : Prop where
  size : o + 17 ≤ R.size
  conf : R.extract o (o + 13) = C
  cn : R[o + 13]? = some (.int .i64 n)
  cf : R[o + 14]? = some (.int .i64 fr)
  ch : R[o + 15]? = some (.int .u32 h)
  ck : R[o + 16]? = some (.int .i64 k)

/-- All but the search stays. -/
def Other (o : Nat) (R R' : Array Value) : Prop := R'.size = R.size ∧ ∀ j, j < o + 13 ∨ o + 17 ≤ j → R'[j]? = R[j]?

theorem Other.refl (o : Nat) (R : Array Value) : Other o R R := ⟨rfl, fun _ _ => rfl⟩
theorem Other.set {o : Nat} {R R' : Array Value} (h : Other o R R') (i : Nat) (v : Value) (hi : o + 13 ≤ i) (hi2 : i < o + 17) : Other o R (R'.setIfInBounds i v) :=
  ⟨by rw [Array.size_setIfInBounds]; exact h.1, fun j hj => by rw [Array.getElem?_setIfInBounds_ne (by omega)]; exact h.2 j hj⟩
theorem Other.trans {o : Nat} {R R' R'' : Array Value} (h : Other o R R') (h2 : Other o R' R'') : Other o R R'' := ⟨h2.1.trans h.1, fun j hj => (h2.2 j hj).trans (h.2 j hj)⟩

theorem extract_set (R : Array Value) (o i : Nat) (v : Value) (h : o + 13 ≤ i) : (R.setIfInBounds i v).extract o (o + 13) = R.extract o (o + 13) := by
  apply Array.ext_getElem?
  intro j
  rw [Array.getElem?_extract, Array.getElem?_extract, Array.size_setIfInBounds]
  by_cases hj : j < min (o + 13) R.size - o
  · rw [if_pos hj, if_pos hj, Array.getElem?_setIfInBounds_ne (by omega)]
  · rw [if_neg hj, if_neg hj]

theorem set_same (R : Array Value) (i : Nat) (v : Value) (h : i < R.size) : (R.setIfInBounds i v)[i]? = some v := by
  rw [Array.getElem?_setIfInBounds, if_pos rfl, if_pos h]

theorem SrchRow.setN {R : Array Value} {o : Nat} {C : Array Value} {n fr h k : Nat} (s : SrchRow R o C n fr h k) (m : Nat) : SrchRow (R.setIfInBounds (o + 13) (.int .i64 m)) o C m fr h k where
  size := by rw [Array.size_setIfInBounds]; exact s.size
  conf := by rw [extract_set _ _ _ _ (Nat.le_refl _)]; exact s.conf
  cn := set_same _ _ _ (by have := s.size; omega)
  cf := by rw [Array.getElem?_setIfInBounds_ne (by omega)]; exact s.cf
  ch := by rw [Array.getElem?_setIfInBounds_ne (by omega)]; exact s.ch
  ck := by rw [Array.getElem?_setIfInBounds_ne (by omega)]; exact s.ck
theorem SrchRow.setH {R : Array Value} {o : Nat} {C : Array Value} {n fr h k : Nat} (s : SrchRow R o C n fr h k) (m : Nat) : SrchRow (R.setIfInBounds (o + 15) (.int .u32 m)) o C n fr m k where
  size := by rw [Array.size_setIfInBounds]; exact s.size
  conf := by rw [extract_set _ _ _ _ (by omega)]; exact s.conf
  cn := by rw [Array.getElem?_setIfInBounds_ne (by omega)]; exact s.cn
  cf := by rw [Array.getElem?_setIfInBounds_ne (by omega)]; exact s.cf
  ch := set_same _ _ _ (by have := s.size; omega)
  ck := by rw [Array.getElem?_setIfInBounds_ne (by omega)]; exact s.ck
theorem SrchRow.setK {R : Array Value} {o : Nat} {C : Array Value} {n fr h k : Nat} (s : SrchRow R o C n fr h k) (m : Nat) : SrchRow (R.setIfInBounds (o + 16) (.int .i64 m)) o C n fr h m where
  size := by rw [Array.size_setIfInBounds]; exact s.size
  conf := by rw [extract_set _ _ _ _ (by omega)]; exact s.conf
  cn := by rw [Array.getElem?_setIfInBounds_ne (by omega)]; exact s.cn
  cf := by rw [Array.getElem?_setIfInBounds_ne (by omega)]; exact s.cf
  ch := by rw [Array.getElem?_setIfInBounds_ne (by omega)]; exact s.ch
  ck := set_same _ _ _ (by have := s.size; omega)

/-- A search in the block b, from the place o on; beside it the row R0. -/
def SrchIn (b o : Nat) (T : TypeId) (R0 C : Array Value) (n fr h k : Nat) (w : World) : Prop :=
  ∃ R, w.heap[b]? = some (.cells R T (0, 0)) ∧ SrchRow R o C n fr h k ∧ Other o R0 R

section
variable {b o : Nat} {T : TypeId} {R0 C : Array Value} {n fr h k : Nat} {w w' : World}

theorem SrchIn.lt (s : SrchIn b o T R0 C n fr h k w) : b < w.heap.size := by
  obtain ⟨R, g, _⟩ := s
  exact (Array.getElem?_eq_some_iff.1 g).1
theorem SrchIn.later (s : SrchIn b o T R0 C n fr h k w) (hb : Below w.heap.size w w') : SrchIn b o T R0 C n fr h k w' := by
  obtain ⟨R, g, x⟩ := s
  exact ⟨R, (hb.block _ (Array.getElem?_eq_some_iff.1 g).1).trans g, x⟩
theorem SrchIn.drew (s : SrchIn b o T R0 C n fr h k w) : SrchIn b o T R0 C n fr h k w.drew := s
theorem SrchIn.drewN (s : SrchIn b o T R0 C n fr h k w) (m : Nat) : SrchIn b o T R0 C n fr h k (w.drewN m) := s
theorem SrchIn.setN (s : SrchIn b o T R0 C n fr h k w) (m : Nat) : SrchIn b o T R0 C m fr h k (w.setCell ⟨b, o + 13, none⟩ (.int .i64 m)) := by
  obtain ⟨R, g, x, y⟩ := s
  exact ⟨_, heap_setCell_same _ _ _ _ _ _ g, x.setN m, y.set _ _ (by omega) (by omega)⟩
theorem SrchIn.setH (s : SrchIn b o T R0 C n fr h k w) (m : Nat) : SrchIn b o T R0 C n fr m k (w.setCell ⟨b, o + 15, none⟩ (.int .u32 m)) := by
  obtain ⟨R, g, x, y⟩ := s
  exact ⟨_, heap_setCell_same _ _ _ _ _ _ g, x.setH m, y.set _ _ (by omega) (by omega)⟩
theorem SrchIn.setK (s : SrchIn b o T R0 C n fr h k w) (m : Nat) : SrchIn b o T R0 C n fr h m (w.setCell ⟨b, o + 16, none⟩ (.int .i64 m)) := by
  obtain ⟨R, g, x, y⟩ := s
  exact ⟨_, heap_setCell_same _ _ _ _ _ _ g, x.setK m, y.set _ _ (by omega) (by omega)⟩
theorem SrchIn.frozen (s : SrchIn b o T R0 C n fr h k w) (j : Nat) : w.frozen? ⟨b, j, none⟩ = false := by
  obtain ⟨R, g, _⟩ := s
  exact frozen_of_row _ _ _ _ _ g
theorem SrchIn.cn (s : SrchIn b o T R0 C n fr h k w) : w.cell? ⟨b, o + 13, none⟩ = some (.int .i64 n) := by
  obtain ⟨R, g, x, _⟩ := s
  exact (cell_of_row _ _ _ _ _ _ g).trans x.cn
theorem SrchIn.cf (s : SrchIn b o T R0 C n fr h k w) : w.cell? ⟨b, o + 14, none⟩ = some (.int .i64 fr) := by
  obtain ⟨R, g, x, _⟩ := s
  exact (cell_of_row _ _ _ _ _ _ g).trans x.cf
theorem SrchIn.ch (s : SrchIn b o T R0 C n fr h k w) : w.cell? ⟨b, o + 15, none⟩ = some (.int .u32 h) := by
  obtain ⟨R, g, x, _⟩ := s
  exact (cell_of_row _ _ _ _ _ _ g).trans x.ch
theorem SrchIn.ck (s : SrchIn b o T R0 C n fr h k w) : w.cell? ⟨b, o + 16, none⟩ = some (.int .i64 k) := by
  obtain ⟨R, g, x, _⟩ := s
  exact (cell_of_row _ _ _ _ _ _ g).trans x.ck
theorem SrchIn.cc (s : SrchIn b o T R0 C n fr h k w) (i : Nat) (hi : i < 13) (v : Value) (hv : C[i]? = some v) : w.cell? ⟨b, o + i, none⟩ = some v := by
  obtain ⟨R, g, x, _⟩ := s
  rw [cell_of_row _ _ _ _ _ _ g, ← hv, ← x.conf, Array.getElem?_extract, if_pos (by have := x.size; omega)]
end

theorem lastB_int (h d : Nat) (hd : 1 ≤ d) : (((h : Int)).tmod (d : Int) == (d : Int) - 1) = lastB h d := by
  unfold lastB
  rw [Int.tmod_eq_emod_of_nonneg (by omega)]
  have e : ((h : Int) % (d : Int)) = ((h % d : Nat) : Int) := by simp
  rw [e]
  by_cases c : h % d = d - 1
  · rw [c]; simp; omega
  · have : ¬ (((h % d : Nat) : Int) = (d : Int) - 1) := by omega
    rw [beq_eq_false_iff_ne.2 this, beq_eq_false_iff_ne.2 c]

set_option maxRecDepth 100000 in
theorem isLast_any (h d : Nat) (hh : h < 2147483647) (hd : 1 ≤ d) (hd2 : d ≤ 1048576) (w : World) :
    Calls Tryd.prog 39 #[.int .u32 h, .int .i64 d] w fun e w' => e = .returned (.bool (lastB h d)) ∧ w = w' := by
  have hl := lastB_int h d hd
  obtain ⟨r, hr⟩ : ∃ r, r = lastB h d := ⟨_, rfl⟩
  rw [← hr] at hl ⊢
  have em : ((h : Int)).tmod (d : Int) = (h : Int) % d := Int.tmod_eq_emod_of_nonneg (by omega)
  have h0 : ¬ ((d : Int) = 0) := by omega
  have hlt : (h : Int) % d < d := Int.emod_lt_of_pos _ (by omega)
  have hge : 0 ≤ (h : Int) % d := Int.emod_nonneg _ h0
  have hm : ∃ m : Nat, (h : Int) % d = m := ⟨((h : Int) % d).toNat, by omega⟩
  obtain ⟨m, hm⟩ := hm
  rw [em, hm] at hl
  rw [hm] at em hlt
  clear hr hge hm
  go_enter Tryd.func39, Tryd.ntmps39
  go_wp2
  go_ret
  exact ⟨rfl, rfl⟩

end Go.Proofs.YtimllddlcjnikaaDoor
