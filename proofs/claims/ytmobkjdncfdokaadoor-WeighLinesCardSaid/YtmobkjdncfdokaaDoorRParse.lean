/- The walk of the document's Parse. -/
import Derived.Test.YtmobkjdncfdokaaDoorSizeW
namespace Go.Proofs.YtmobkjdncfdokaaDoor
open Go.RowKit

theorem ext_take (s : ByteArray) (k : Nat) : (s.extract 0 k).data.toList = s.data.toList.take k := by
  have h := Lib.extract_eq s 0 k
  rw [h]
  simp

theorem ext_drop (s : ByteArray) (k : Nat) : (s.extract k s.size).data.toList = s.data.toList.drop k := by
  have h := Lib.extract_eq s k s.size
  rw [h]
  simp
  exact List.take_of_length_le (by rw [List.length_drop, data_len]; omega)

/-- What stands ahead of the sign at k, without a minus; what stands between it and the last byte. -/
def fstB (l : List UInt8) (k : Nat) (neg : Bool) : List UInt8 := if neg then (l.take k).drop 1 else l.take k
def sndB (l : List UInt8) (k : Nat) : List UInt8 := (l.take (l.length - 1)).drop (k + 1)
def isMinus (c : UInt8) : Bool := c.toNat == 45
def byNeg (neg : Bool) (n : Nat) : Int := if neg then -(n : Int) else n

theorem first_of (a : Int) (h : a.natAbs ≤ 9007199254740992) : isMinus ((Lib.itoa a).getD 0 0) = decide (a < 0) ∧
    (if isMinus ((Lib.itoa a).getD 0 0) then (Lib.itoa a).drop 1 else Lib.itoa a) = Lib.decDigits a.natAbs := by
  rcases int_cases a with ⟨n, h1, rfl⟩ | ⟨n, rfl⟩
  · rw [itoa_neg n h1]
    have e : isMinus ((45 :: Lib.decDigits n).getD 0 0) = true := rfl
    rw [e]
    refine ⟨by simp; omega, ?_⟩
    simp
  · rw [itoa_pos n]
    have e : isMinus ((Lib.decDigits n).getD 0 0) = false := by
      cases hd : Lib.decDigits n with
      | nil => exact absurd hd (dec_ne n)
      | cons x r =>
        have := head_digit _ _ _ hd
        simp [isMinus, this.2]
    rw [e]
    refine ⟨by simp, ?_⟩
    simp

/-- The bytes of a weight's text. -/
theorem text_len (a b : Int) : (textW a b).length = (Lib.itoa a).length + (secB b).length + 1 := by
  unfold textW; simp only [List.length_append, List.length_singleton]; omega

theorem text_last (a b : Int) : ((textW a b).getD ((textW a b).length - 1) 0).toNat = 105 := by
  rw [text_len, Nat.add_sub_cancel, List.getD_eq_getElem?_getD]
  unfold textW
  rw [List.getElem?_append_right (by omega), Nat.add_sub_cancel_left, List.getElem?_append_right (Nat.le_refl _), Nat.sub_self]
  rfl

theorem text_sign (a b : Int) : (textW a b).getD (Lib.itoa a).length 0 = if b < 0 then 45 else 43 := by
  rw [List.getD_eq_getElem?_getD]
  unfold textW secB
  rw [List.getElem?_append_right (Nat.le_refl _), Nat.sub_self]
  rfl

/-- At the sign between the parts of a weight's text the parts are read. -/
theorem found {l : List UInt8} {a b : Int} (hv : Valid a b) (h : l = textW a b) {k : Nat} (hk : k = (Lib.itoa a).length) (neg min : Bool) (hn : isMinus (l.getD 0 0) = neg) (hm : isMinus (l.getD k 0) = min) :
    (sizeR (fstB l k neg)).2 = true ∧ (sizeR (sndB l k)).2 = true ∧ byNeg neg (sizeR (fstB l k neg)).1 = a ∧ byNeg min (sizeR (sndB l k)).1 = b := by
  subst h
  obtain ⟨ha, hb⟩ := hv
  have hlen := itoa_len a ha
  have ht : (textW a b).take k = Lib.itoa a := by rw [hk]; unfold textW; exact List.take_left' rfl
  have h0 : (textW a b).getD 0 0 = (Lib.itoa a).getD 0 0 := by
    rw [List.getD_eq_getElem?_getD, List.getD_eq_getElem?_getD]
    unfold textW
    rw [List.getElem?_append_left (by omega)]
  obtain ⟨f1, f2⟩ := first_of a ha
  rw [h0] at hn
  rw [hn] at f1 f2
  have e1 : fstB (textW a b) k neg = Lib.decDigits a.natAbs := by unfold fstB; rw [ht]; exact f2
  have e2 : sndB (textW a b) k = Lib.decDigits b.natAbs := by
    unfold sndB
    rw [text_len, Nat.add_sub_cancel]
    have : (textW a b).take ((Lib.itoa a).length + (secB b).length) = Lib.itoa a ++ secB b := by
      unfold textW
      rw [← List.append_assoc]
      exact List.take_left' (by simp)
    rw [this, hk]
    have : (Lib.itoa a ++ secB b).drop ((Lib.itoa a).length + 1) = (secB b).drop 1 := by
      rw [List.drop_append, List.drop_of_length_le (by omega), Nat.add_sub_cancel_left]
      rfl
    rw [this]
    rfl
  rw [e1, e2, sizeR_dec _ ha, sizeR_dec _ hb]
  refine ⟨rfl, rfl, ?_, ?_⟩
  · unfold byNeg
    rw [f1]
    by_cases c : a < 0
    · simp [c]; omega
    · simp [c]; omega
  · rw [hk, text_sign] at hm
    unfold byNeg
    by_cases c : b < 0
    · rw [if_pos c] at hm
      have : min = true := by rw [← hm]; rfl
      rw [this]; simp; omega
    · rw [if_neg c] at hm
      have : min = false := by rw [← hm]; rfl
      rw [this]; simp; omega

theorem numOf_lt16 (l : List UInt8) (h : digs l = true) (h16 : l.length ≤ 16) : numOf l < 10000000000000000 := by
  have := numOf_small l l.length (Nat.le_refl _) (by rw [List.take_length]; exact h) h16
  rwa [List.take_length] at this

theorem sizeR_lt (l : List UInt8) : (sizeR l).1 < 10000000000000000 := by
  unfold sizeR
  split
  · simp
  · rename_i h
    simp only
    refine numOf_lt16 l ?_ ?_
    · cases hd : digs l with
      | true => rfl
      | false => exact absurd (Or.inr (Or.inr (Or.inr hd))) h
    · apply Nat.not_lt.1
      intro h2
      exact h (Or.inr (Or.inl h2))

/-- The two outcomes. -/
def RParsePost (w : World) (s : ByteArray) (e : Ending) (w' : World) : Prop :=
  ((∃ a b, Valid a b ∧ s = str (textW a b) ∧ e = .returned (.tuple #[wW a b, .int .i64 0])) ∨ (NoText s ∧ e = .returned (.tuple #[wW 0 0, .int .i64 7]))) ∧ Below w.heap.size w w'

/-- The sign of a weight's text does not stand ahead of k. -/
def NotYet (s : ByteArray) (k : Nat) : Prop := ∀ a b, Valid a b → s = str (textW a b) → k ≤ (Lib.itoa a).length

end Go.Proofs.YtmobkjdncfdokaaDoor
