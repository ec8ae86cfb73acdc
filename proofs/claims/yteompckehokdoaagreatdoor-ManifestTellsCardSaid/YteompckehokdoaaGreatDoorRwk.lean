/- A row of records with something behind it; each record once where equals stand together. Of no program. -/
import Derived.Test.YteompckehokdoaaGreatDoorRws
namespace Go.Proofs.YteompckehokdoaaGreatDoor
open Go.RowKit

def rowG {α : Type} (enc : α → List Value) (ls : List α) (rest : List Value) : Array Value := (flatR enc ls ++ rest).toArray
/-- A row of records in the block g. -/
structure RowG {α : Type} (enc : α → List Value) (ok : α → Prop) (T : TypeId) (g : Nat) (ls : List α) (rest : List Value) (w : World) : Prop where
  good : ∀ a ∈ ls, ok a
  row : w.heap[g]? = some (.cells (rowG enc ls rest) T (0, 0))

section
variable {α : Type} {enc : α → List Value} {k : Nat} {ok : α → Prop} {T : TypeId}
theorem flatR_cons (a : α) (l : List α) : flatR enc (a :: l) = enc a ++ flatR enc l := rfl
theorem flatR_split (ls : List α) (i : Nat) (hi : i < ls.length) : flatR enc ls = flatR enc (ls.take i) ++ (enc ls[i] ++ flatR enc (ls.drop (i + 1))) := by
  conv => lhs; rw [← List.take_append_drop i ls, List.drop_eq_getElem_cons hi]
  rw [flatR_append, flatR_cons]
theorem flatR_take (E : Enc enc k ok) {ls : List α} (h : ∀ a ∈ ls, ok a) (i : Nat) (hi : i ≤ ls.length) : (flatR enc (ls.take i)).length = i * k := by
  rw [flatR_len E _ (fun a ha => h a (List.mem_of_mem_take ha)), List.length_take, Nat.min_eq_left hi]
theorem rowG_size (E : Enc enc k ok) {ls : List α} (rest : List Value) (h : ∀ a ∈ ls, ok a) : (rowG enc ls rest).size = ls.length * k + rest.length := by
  simp [rowG, flatR_len E ls h]
theorem rowG_extract (E : Enc enc k ok) {ls : List α} (rest : List Value) (h : ∀ a ∈ ls, ok a) (i : Nat) (hi : i < ls.length) : (rowG enc ls rest).extract (i * k) (i * k + k) = (enc ls[i]).toArray := by
  have e0 := flatR_take E h i (by omega)
  have e1 := E.len _ (h _ (List.getElem_mem hi))
  apply Array.toList_inj.1
  rw [Array.toList_extract]
  unfold rowG
  rw [flatR_split ls i hi]
  simp only [List.extract_eq_take_drop]
  rw [List.append_assoc, List.drop_left' e0, List.append_assoc, show i * k + k - i * k = k by omega, List.take_left' e1]
theorem rowG_set (E : Enc enc k ok) {ls : List α} (rest : List Value) (h : ∀ a ∈ ls, ok a) (i : Nat) (hi : i < ls.length) (x : α) (hx : ok x) : laidOver (rowG enc ls rest) (i * k) (enc x) = rowG enc (ls.set i x) rest := by
  have e0 := flatR_take E h i (by omega)
  have e1 := E.len _ (h _ (List.getElem_mem hi))
  have e2 := E.len x hx
  have s1 : flatR enc (ls.set i x) = flatR enc (ls.take i) ++ (enc x ++ flatR enc (ls.drop (i + 1))) := by
    rw [List.set_eq_take_append_cons_drop, if_pos hi, flatR_append, flatR_cons]
  unfold laidOver rowG
  congr 1
  rw [s1, flatR_split ls i hi, e2]
  simp only [List.append_assoc]
  rw [List.take_left' e0, ← List.drop_drop, List.drop_left' e0, List.drop_left' e1]
theorem ok_take {ls : List α} (h : ∀ a ∈ ls, ok a) (i : Nat) : ∀ a ∈ ls.take i, ok a := fun a ha => h a (List.mem_of_mem_take ha)
theorem ok_set {ls : List α} (h : ∀ a ∈ ls, ok a) (i : Nat) (x : α) (hx : ok x) : ∀ a ∈ ls.set i x, ok a := fun a ha => by
  rcases List.mem_or_eq_of_mem_set ha with e | e
  · exact h a e
  · rw [e]; exact hx
theorem RowG.lt {g : Nat} {ls : List α} {rest : List Value} {w : World} (h : RowG enc ok T g ls rest w) : g < w.heap.size := (Array.getElem?_eq_some_iff.1 h.row).1
theorem RowG.kept {g : Nat} {ls : List α} {rest : List Value} {w w' : World} (h : RowG enc ok T g ls rest w) (kk : Kept w w') : RowG enc ok T g ls rest w' :=
  ⟨h.good, kk.row h.row⟩
theorem RowG.set {g : Nat} {ls ms : List α} {rest rest' : List Value} {w : World} (h : RowG enc ok T g ls rest w) (hm : ∀ a ∈ ms, ok a) : RowG enc ok T g ms rest' (w.setRow g (rowG enc ms rest')) :=
  ⟨hm, setRow_heap _ _ _ _ _ _ h.row⟩
theorem RowG.elem (E : Enc enc k ok) {g : Nat} {ls : List α} {rest : List Value} {w : World} (h : RowG enc ok T g ls rest w) (i : Nat) (hi : i < ls.length) : i * k + k ≤ (rowG enc ls rest).size ∧ (rowG enc ls rest).extract (i * k) (i * k + k) = (enc ls[i]).toArray :=
  ⟨by rw [rowG_size E _ h.good]; have := Nat.mul_le_mul_right k (show i + 1 ≤ ls.length from hi); rw [Nat.succ_mul] at this; omega, rowG_extract E rest h.good i hi⟩
/-- An own slice of records is empty, or a row. -/
theorem own_parts (_ : Enc enc k ok) {B : Nat} {ls : List α} {v : Value} {w : World} (hok : ∀ a ∈ ls, ok a) (h : w.ownsRow B T k v ls.length (flatR enc ls)) : (v = .slice none 0 0 ∧ ls = []) ∨
    ∃ g cap rest, v = .slice (some ⟨g, 0, none⟩) ls.length cap ∧ B ≤ g ∧ RowG enc ok T g ls rest w ∧ ls.length ≤ cap ∧ cap ≤ maxLen ∧ ls.length * k + rest.length = cap * k := by
  rcases h.2 with ⟨rfl, h0⟩ | ⟨g, cap, cur, rfl, hb, hg, hc, hm, hs, ht⟩
  · exact Or.inl ⟨rfl, List.length_eq_zero_iff.1 h0⟩
  · right
    have e : cur = rowG enc ls (cur.toList.drop (ls.length * k)) := by
      apply Array.toList_inj.1
      unfold rowG
      rw [← ht]
      simp
    refine ⟨g, cap, _, rfl, hb, ⟨hok, by rw [← e]; exact hg⟩, hc, hm, ?_⟩
    rw [List.length_drop]
    have e2 : cur.toList.length = cur.size := Array.length_toList
    have := Nat.mul_le_mul_right k hc
    omega
theorem own_of_row (E : Enc enc k ok) {B g cap : Nat} {ls : List α} {rest : List Value} {w : World} (hB : B ≤ g) (h : RowG enc ok T g ls rest w) (hc : ls.length ≤ cap) (hm : cap ≤ maxLen) (hs : ls.length * k + rest.length = cap * k) :
    w.ownsRow B T k (.slice (some ⟨g, 0, none⟩) ls.length cap) ls.length (flatR enc ls) :=
  ⟨flatR_len E ls h.good, Or.inr ⟨g, cap, _, rfl, hB, h.row, hc, hm, by rw [rowG_size E _ h.good]; exact hs, by rw [← flatR_len E ls h.good]; simp [rowG]⟩⟩
theorem grown_rowG {w w' : World} {g : Nat} (h : w.grownBy w' (some g)) (cs : Array Value) : w.grownBy (w'.setRow g cs) (some g) :=
  ⟨h.os, h.tape, h.output, by rw [setRow_size]; exact h.size, fun k hk hne => by rw [setRow_other _ _ _ _ (fun e => hne (by rw [e]))]; exact h.block k hk hne⟩
theorem grown_thenG {w w1 w2 : World} {g : Nat} (h : w.grownBy w1 (some g)) (k : Below w1.heap.size w1 w2) : w.grownBy w2 (some g) :=
  ⟨k.os.trans h.os, k.tape.trans h.tape, k.output.trans h.output, Nat.le_trans h.size k.size, fun j hj hne => (k.block j (Nat.lt_of_lt_of_le hj h.size)).trans (h.block j hj hne)⟩
theorem kept_grownG {w w' : World} (h : Kept w w') (row : Option Nat) : w.grownBy w' row := ⟨h.os, h.tape, h.output, h.size, fun k hk _ => h.block k hk⟩
end

/-! ### Each once, where equals stand together -/
section
variable {α : Type} [DecidableEq α]
def onceG : List α → List α
  | [] => []
  | [a] => [a]
  | a :: b :: l => if a = b then onceG (b :: l) else a :: onceG (b :: l)
theorem onceG_mem : ∀ (l : List α) (x : α), x ∈ onceG l ↔ x ∈ l
  | [], x => Iff.rfl
  | [a], x => Iff.rfl
  | a :: b :: l, x => by
    have ih := onceG_mem (b :: l) x
    unfold onceG
    split
    · rename_i e
      subst e
      rw [ih, List.mem_cons (a := x) (b := a) (l := a :: l)]
      constructor
      · exact Or.inr
      · rintro (h | h)
        · rw [h]; exact List.mem_cons_self ..
        · exact h
    · rw [List.mem_cons, ih, List.mem_cons (a := x) (b := a)]
theorem onceG_snoc (x y : α) : ∀ l : List α, onceG (l ++ [y] ++ [x]) = if y = x then onceG (l ++ [y]) else onceG (l ++ [y]) ++ [x]
  | [] => by
    simp only [List.nil_append, List.cons_append, onceG]
    by_cases h : y = x
    · subst h; simp
    · simp [h]
  | [a] => by
    have ih := onceG_snoc x y []
    simp only [List.nil_append, List.cons_append] at ih ⊢
    rw [onceG]
    rw [show onceG [a, y] = if a = y then onceG [y] else a :: onceG [y] from rfl]
    by_cases h : a = y
    · rw [if_pos h, if_pos h]; exact ih
    · rw [if_neg h, if_neg h, ih]
      by_cases h2 : y = x
      · rw [if_pos h2, if_pos h2]
      · rw [if_neg h2, if_neg h2]; rfl
  | a :: b :: l => by
    have ih := onceG_snoc x y (b :: l)
    simp only [List.cons_append] at ih ⊢
    rw [onceG]
    rw [show onceG (a :: b :: (l ++ [y])) = if a = b then onceG (b :: (l ++ [y])) else a :: onceG (b :: (l ++ [y])) from rfl]
    by_cases h : a = b
    · rw [if_pos h, if_pos h]; exact ih
    · rw [if_neg h, if_neg h, ih]
      by_cases h2 : y = x
      · rw [if_pos h2, if_pos h2]
      · rw [if_neg h2, if_neg h2]; rfl
theorem onceG_take (ls : List α) (j : Nat) (hj : j + 1 < ls.length) : onceG (ls.take (j + 2)) = if ls[j] = ls[j + 1] then onceG (ls.take (j + 1)) else onceG (ls.take (j + 1)) ++ [ls[j + 1]] := by
  rw [List.take_succ_eq_append_getElem hj, List.take_succ_eq_append_getElem (show j < ls.length by omega)]
  exact onceG_snoc _ _ _
theorem onceG_short : ∀ l : List α, l.length < 2 → onceG l = l
  | [], _ => rfl
  | [_], _ => rfl
  | _ :: _ :: _, h => by simp at h; omega
end

end Go.Proofs.YteompckehokdoaaGreatDoor
