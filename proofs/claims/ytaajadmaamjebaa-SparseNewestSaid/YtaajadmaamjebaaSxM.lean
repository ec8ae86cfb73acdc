/- The sparse index as the document says it: rows of hooks with lists, in the order of their last use; the mathematics of stage 17, of no program. -/
import Derived.Test.YtaajadmaamjebaaGH
namespace Go.Proofs.Ytaajadmaamjebaa

/-- A hook and its list, the newest first. -/
abbrev SRow := List UInt8 × List Nat
/-- How many pairs. -/
def lenS : List SRow → Nat
  | [] => 0
  | r :: R => r.2.length + lenS R
def idxS (R : List SRow) (h : List UInt8) : Option Nat := R.findIdx? (fun r => r.1 == h)
def atS (R : List SRow) (h : List UInt8) : Int := match idxS R h with | none => -1 | some i => (i : Int)
def peekS (R : List SRow) (h : List UInt8) : List Nat := match idxS R h with | none => [] | some i => (R.getD i ([], [])).2
def cutS (R : List SRow) (i : Int) : List SRow := if i < 0 then R else R.eraseIdx i.toNat
def lastS (R : List SRow) (i : Int) (r : SRow) : List SRow := cutS R i ++ [r]
def lookS (R : List SRow) (h : List UInt8) : List SRow := match idxS R h with | none => R | some i => lastS R (i : Int) (R.getD i ([], []))
def addS (per : Int) (man : Nat) (l : List Nat) (m : Nat) : List Nat := if m ≠ man ∧ (l.length : Int) < per then l ++ [m] else l
def listS (per : Int) (man : Nat) (old : List Nat) : List Nat := old.foldl (addS per man) [man]
def trimS (most : Int) : List SRow → List SRow
  | [] => []
  | r :: R => if most < (lenS (r :: R) : Int) then trimS most R else r :: R
def putOne (per most : Int) (man : Nat) (R : List SRow) (h : List UInt8) : List SRow := trimS most (lastS R (atS R h) (h, listS per man (peekS R h)))
def putS (per most : Int) (man : Nat) (R : List SRow) (hooks : List (List UInt8)) : List SRow := if 0 < per ∧ 0 < most then (setL hooks).foldl (putOne per most man) R else R
def keepS (man : Nat) (l : List Nat) : List Nat := l.filter (fun m => decide (m ≠ man))
def dropS (man : Nat) : List SRow → List SRow
  | [] => []
  | r :: R => if 0 < (keepS man r.2).length then (r.1, keepS man r.2) :: dropS man R else dropS man R

/-! ### Lengths -/
theorem lenS_append : ∀ (A B : List SRow), lenS (A ++ B) = lenS A + lenS B
  | [], B => by simp [lenS]
  | r :: A, B => by
    show r.2.length + lenS (A ++ B) = r.2.length + lenS A + lenS B
    rw [lenS_append A B]; omega
theorem lenS_erase : ∀ (R : List SRow) (i : Nat) (h : i < R.length), lenS (R.eraseIdx i) + R[i].2.length = lenS R
  | r :: R, 0, _ => by show lenS R + r.2.length = r.2.length + lenS R; omega
  | r :: R, i + 1, h => by
    have hi : i < R.length := by simpa using h
    have := lenS_erase R i hi
    show r.2.length + lenS (R.eraseIdx i) + (R[i]'hi).2.length = r.2.length + lenS R
    omega
theorem idxS_lt {R : List SRow} {h : List UInt8} {i : Nat} (e : idxS R h = some i) : ∃ hi : i < R.length, R[i].1 = h := by
  unfold idxS at e
  rw [List.findIdx?_eq_some_iff_getElem] at e
  obtain ⟨hi, h1, -⟩ := e
  exact ⟨hi, by simpa using h1⟩
theorem idxS_none {R : List SRow} {h : List UInt8} (e : idxS R h = none) : ∀ r ∈ R, r.1 ≠ h := by
  unfold idxS at e
  rw [List.findIdx?_eq_none_iff] at e
  intro r hr
  simpa using e r hr
theorem idxS_first {R : List SRow} {h : List UInt8} {i : Nat} (e : idxS R h = some i) : ∀ j (_ : j < i) (hR : j < R.length), R[j].1 ≠ h := by
  unfold idxS at e
  rw [List.findIdx?_eq_some_iff_getElem] at e
  obtain ⟨hi, -, h2⟩ := e
  intro j hj _
  have := h2 j hj
  simpa using this
theorem lenS_look (R : List SRow) (h : List UInt8) : lenS (lookS R h) = lenS R := by
  unfold lookS
  split
  · rfl
  · rename_i i e
    obtain ⟨hi, -⟩ := idxS_lt e
    have h1 := lenS_erase R i hi
    unfold lastS cutS
    rw [if_neg (by omega), lenS_append, List.getD_eq_getElem?_getD, List.getElem?_eq_getElem hi]
    simp only [Int.toNat_natCast, Option.getD_some, lenS]
    omega
theorem trim_len {most : Int} (hm : 0 ≤ most) : ∀ R : List SRow, (lenS (trimS most R) : Int) ≤ most
  | [] => hm
  | r :: R => by
    unfold trimS
    split
    · exact trim_len hm R
    · omega
theorem trim_id {most : Int} : ∀ R : List SRow, (lenS R : Int) ≤ most → trimS most R = R
  | [], _ => rfl
  | r :: R, h => by
    unfold trimS
    rw [if_neg (by omega)]
theorem trim_suffix {most : Int} : ∀ R : List SRow, ∃ P, R = P ++ trimS most R
  | [] => ⟨[], rfl⟩
  | r :: R => by
    unfold trimS
    split
    · obtain ⟨P, h⟩ := trim_suffix (most := most) R
      exact ⟨r :: P, by rw [List.cons_append, ← h]⟩
    · exact ⟨[], rfl⟩
theorem addS_len (per : Int) (man : Nat) (l : List Nat) (m : Nat) : l.length ≤ (addS per man l m).length ∧ (addS per man l m).length ≤ l.length + 1 := by
  unfold addS
  split
  · simp
  · omega
theorem foldS_len (per : Int) (man : Nat) : ∀ (old l : List Nat), l.length ≤ (old.foldl (addS per man) l).length ∧ (old.foldl (addS per man) l).length ≤ l.length + old.length
  | [], l => by simp
  | m :: old, l => by
    have h1 := addS_len per man l m
    have h2 := foldS_len per man old (addS per man l m)
    rw [List.foldl_cons, List.length_cons]; omega
theorem foldS_head (per : Int) (man : Nat) : ∀ (old l : List Nat), l.head? = some man → (old.foldl (addS per man) l).head? = some man
  | [], _, h => h
  | m :: old, l, h => by
    rw [List.foldl_cons]
    refine foldS_head per man old _ ?_
    unfold addS
    split
    · cases l with
      | nil => cases h
      | cons a l => exact h
    · exact h
theorem foldS_per (per : Int) (man : Nat) : ∀ (old l : List Nat), (l.length : Int) ≤ per → ((old.foldl (addS per man) l).length : Int) ≤ per
  | [], _, h => h
  | m :: old, l, h => by
    rw [List.foldl_cons]
    refine foldS_per per man old _ ?_
    unfold addS
    split
    · rename_i hc
      rw [List.length_append]
      have := hc.2
      simp only [List.length_cons, List.length_nil]; omega
    · exact h
theorem listS_head (per : Int) (man : Nat) (old : List Nat) : (listS per man old).head? = some man := foldS_head per man old [man] rfl
theorem listS_pos (per : Int) (man : Nat) (old : List Nat) : 1 ≤ (listS per man old).length := (foldS_len per man old [man]).1
theorem listS_len (per : Int) (man : Nat) (old : List Nat) : (listS per man old).length ≤ old.length + 1 := by
  have h : (old.foldl (addS per man) [man]).length ≤ 1 + old.length := (foldS_len per man old [man]).2
  show (old.foldl (addS per man) [man]).length ≤ _
  omega
theorem peek_len {R : List SRow} {h : List UInt8} {i : Nat} (e : idxS R h = some i) : ∃ hi : i < R.length, peekS R h = R[i].2 := by
  obtain ⟨hi, -⟩ := idxS_lt e
  refine ⟨hi, ?_⟩
  unfold peekS
  rw [e]
  show (R.getD i ([], [])).2 = _
  rw [List.getD_eq_getElem?_getD, List.getElem?_eq_getElem hi]; rfl
/-- One more pair at most. -/
theorem one_len (per : Int) (man : Nat) (R : List SRow) (h : List UInt8) : lenS (lastS R (atS R h) (h, listS per man (peekS R h))) ≤ lenS R + 1 := by
  have hl := listS_len per man (peekS R h)
  cases e : idxS R h with
  | none =>
    have hp : peekS R h = [] := by unfold peekS; rw [e]
    have ha : atS R h = -1 := by unfold atS; rw [e]
    rw [hp] at hl ⊢
    rw [ha]
    show lenS (R ++ [_]) ≤ _
    rw [lenS_append]
    simp only [lenS, List.length_nil] at hl ⊢
    omega
  | some i =>
    obtain ⟨hi, hp⟩ := peek_len e
    have h1 := lenS_erase R i hi
    have ha : atS R h = (i : Int) := by unfold atS; rw [e]
    rw [hp] at hl ⊢
    rw [ha]
    unfold lastS cutS
    rw [if_neg (by omega), Int.toNat_natCast, lenS_append]
    simp only [lenS]
    omega
theorem put_len {per most : Int} (hm : 0 ≤ most) (man : Nat) (R : List SRow) (hooks : List (List UInt8)) (h : (lenS R : Int) ≤ most) : (lenS (putS per most man R hooks) : Int) ≤ most := by
  unfold putS
  split
  · have : ∀ (S : List (List UInt8)) (R : List SRow), (lenS R : Int) ≤ most → (lenS (S.foldl (putOne per most man) R) : Int) ≤ most := by
      intro S
      induction S with
      | nil => exact fun R h => h
      | cons a S ih => exact fun R _ => ih _ (trim_len hm _)
    exact this _ _ h
  · exact h
theorem drop_len (man : Nat) : ∀ R : List SRow, lenS (dropS man R) ≤ lenS R
  | [] => Nat.le_refl _
  | r :: R => by
    have h1 := drop_len man R
    have h2 : (keepS man r.2).length ≤ r.2.length := List.length_filter_le _ _
    unfold dropS
    split
    · show (keepS man r.2).length + _ ≤ r.2.length + _; omega
    · show _ ≤ r.2.length + _; omega

/-! ### What a row of an index keeps: a hook of 32 bytes, a list that is not empty and not longer than perHook; no hook twice -/
structure OkS (per : Int) (R : List SRow) : Prop where
  key : ∀ r ∈ R, r.1.length = 32
  pos : ∀ r ∈ R, 1 ≤ r.2.length
  per : ∀ r ∈ R, (r.2.length : Int) ≤ per
  lo : ∀ r ∈ R, ∀ m ∈ r.2, m < 4294967296
  one : (R.map Prod.fst).Nodup
theorem OkS.nil (per : Int) : OkS per [] := ⟨fun r h => (by cases h), fun r h => (by cases h), fun r h => (by cases h), fun r h => (by cases h), List.nodup_nil⟩
theorem OkS.sub {per : Int} {R S : List SRow} (h : OkS per R) (hs : S.Sublist R) : OkS per S :=
  ⟨fun r hr => h.key r (hs.mem hr), fun r hr => h.pos r (hs.mem hr), fun r hr => h.per r (hs.mem hr), fun r hr => h.lo r (hs.mem hr), h.one.sublist (hs.map Prod.fst)⟩
theorem OkS.cut {per : Int} {R : List SRow} (h : OkS per R) (i : Int) : OkS per (cutS R i) := by
  unfold cutS
  split
  · exact h
  · exact h.sub (List.eraseIdx_sublist _ _)
theorem OkS.count {per : Int} {R : List SRow} (h : OkS per R) : R.length ≤ lenS R := by
  have : ∀ R : List SRow, (∀ r ∈ R, 1 ≤ r.2.length) → R.length ≤ lenS R := by
    intro R
    induction R with
    | nil => intro _; exact Nat.le_refl _
    | cons r R ih =>
      intro h
      have h1 := h r (List.mem_cons_self ..)
      have h2 := ih (fun x hx => h x (List.mem_cons_of_mem _ hx))
      show R.length + 1 ≤ r.2.length + lenS R; omega
  exact this R h.pos

end Go.Proofs.Ytaajadmaamjebaa
