/- A disk of bytes: the mathematics of the last write that waits, of sectors laid over an image. -/
import Derived.Test.YtpnnlpmkgglgdaaDkX
import Derived.Test.YtpnnlpmkgglgdaaIMap
import Derived.Test.YtpnnlpmkgglgdaaBytesAt
namespace Go.Proofs.Ytpnnlpmkgglgdaa
open Go.RowKit

/-- Which write of a sector is the last one, of the first k. -/
def lastK (ws : List (Nat × List UInt8)) : Nat → Int → Option Int
  | 0 => fun _ => none
  | k + 1 => updI (lastK ws k) ((ws.getD k (0, [])).1 : Int) (k : Int)
def lastF (ws : List (Nat × List UInt8)) : Int → Option Int := lastK ws ws.length

theorem lastK_append (ws : List (Nat × List UInt8)) (p : Nat × List UInt8) : ∀ k, k ≤ ws.length → lastK (ws ++ [p]) k = lastK ws k
  | 0, _ => rfl
  | k + 1, h => by
    unfold lastK
    rw [lastK_append ws p k (by omega), List.getD_eq_getElem?_getD, List.getD_eq_getElem?_getD, List.getElem?_append_left (by omega)]

theorem lastF_nil : lastF [] = fun _ => none := rfl
theorem lastF_snoc (ws : List (Nat × List UInt8)) (p : Nat × List UInt8) : lastF (ws ++ [p]) = updI (lastF ws) (p.1 : Int) (ws.length : Int) := by
  show lastK (ws ++ [p]) (ws ++ [p]).length = updI (lastK ws ws.length) (p.1 : Int) (ws.length : Int)
  rw [List.length_append]
  show updI (lastK (ws ++ [p]) ws.length) (((ws ++ [p]).getD ws.length (0, [])).1 : Int) (ws.length : Int) = _
  rw [lastK_append ws p _ (Nat.le_refl _), List.getD_eq_getElem?_getD, List.getElem?_append_right (Nat.le_refl _), Nat.sub_self]
  rfl

theorem lastK_vis (ws : List (Nat × List UInt8)) (i : Nat) (t : List UInt8) : ∀ k, k ≤ ws.length → (lastK ws k i = none ∧ visK i t (ws.take k) = t) ∨ ∃ j : Nat, lastK ws k i = some (j : Int) ∧ ∃ h : j < ws.length, visK i t (ws.take k) = ws[j].2
  | 0, _ => Or.inl ⟨rfl, rfl⟩
  | k + 1, h => by
    have hk : k < ws.length := by omega
    have ih := lastK_vis ws i t k (by omega)
    rw [List.take_succ_eq_append_getElem hk, visK_snoc]
    unfold lastK updI
    rw [List.getD_eq_getElem?_getD, List.getElem?_eq_getElem hk]
    show (((if (i : Int) = (ws[k].1 : Int) then some (k : Int) else lastK ws k i) = none) ∧ _) ∨ ∃ j : Nat, (if (i : Int) = (ws[k].1 : Int) then some (k : Int) else lastK ws k i) = some (j : Int) ∧ _
    by_cases he : ws[k].1 = i
    · right
      refine ⟨k, by rw [if_pos (by omega)], hk, by rw [if_pos he]⟩
    · rw [if_neg (by omega), if_neg he]
      exact ih

/-- What is read of a sector. -/
theorem lastF_vis (s : Dk) (i : Nat) : (lastF s.waits i = none ∧ s.vis i = s.stands.getD i []) ∨ ∃ j : Nat, lastF s.waits i = some (j : Int) ∧ ∃ h : j < s.waits.length, s.vis i = s.waits[j].2 := by
  have h := lastK_vis s.waits i (s.stands.getD i []) s.waits.length (Nat.le_refl _)
  rw [List.take_length] at h
  exact h

theorem flat_set : ∀ (L : List (List UInt8)), (∀ l ∈ L, l.length = 128) → ∀ (i : Nat) (x : List UInt8), i < L.length → x.length = 128 → (L.set i x).flatten = L.flatten.take (128 * i) ++ x ++ L.flatten.drop (128 * i + 128)
  | [], _, i, x, h, _ => by simp at h
  | a :: L, hL, 0, x, _, hx => by
    have ha := hL a (List.mem_cons_self ..)
    rw [List.set_cons_zero, List.flatten_cons, List.flatten_cons, Nat.mul_zero, List.take_zero, List.nil_append, Nat.zero_add, List.drop_left' ha]
  | a :: L, hL, i + 1, x, h, hx => by
    have ha := hL a (List.mem_cons_self ..)
    have ih := flat_set L (fun l hl => hL l (List.mem_cons_of_mem _ hl)) i x (by simpa using h) hx
    rw [List.set_cons_succ, List.flatten_cons, List.flatten_cons, ih]
    rw [show 128 * (i + 1) = a.length + 128 * i by omega, show a.length + 128 * i + 128 = a.length + (128 * i + 128) by omega, List.take_length_add_append, List.drop_length_add_append]
    simp

theorem image_set (s : Dk) (h : ∀ l ∈ s.stands, l.length = 128) (i : Nat) (x : List UInt8) (hi : i < s.stands.length) (hx : x.length = 128) : (s.stands.set i x).flatten = patch s.stands.flatten (128 * i) x := by
  rw [flat_set _ h i x hi hx, patch_eq _ _ _ (by rw [flat_len _ h]; omega), hx]

theorem image_set' (L : List (List UInt8)) (h : ∀ l ∈ L, l.length = 128) (i : Nat) (x : List UInt8) (hi : i < L.length) (hx : x.length = 128) : (L.set i x).flatten = patch L.flatten (128 * i) x := by
  rw [flat_set _ h i x hi hx, patch_eq _ _ _ (by rw [flat_len _ h]; omega), hx]

end Go.Proofs.Ytpnnlpmkgglgdaa
