/- The walk of SegAll, out of the contracts. -/
import Derived.Test.YtlmccnelhpnneaaSegG
namespace Go.Proofs.Ytlmccnelhpnneaa
open Go.RowKit

/-- A slice of slices of fingerprints. -/
def SegsAt (S : List (List (List UInt8))) (v : Value) (w : World) : Prop := ∃ p c, ∃ vs : List Value, v = .slice p S.length c ∧ vs.length = S.length ∧
  (S = [] ∨ ∃ b off, p = some ⟨b, off, none⟩ ∧ ∀ i (h : i < vs.length), w.cell? ⟨b, off + i, none⟩ = some vs[i]) ∧ ∀ i (h : i < vs.length) (h2 : i < S.length), FpsAt 32 S[i] vs[i] w

theorem SegsAt.later {S : List (List (List UInt8))} {v : Value} {w w' : World} (h : SegsAt S v w) (k : Kept w w') : SegsAt S v w' := by
  obtain ⟨p, c, vs, e, hl, hc, hf⟩ := h
  refine ⟨p, c, vs, e, hl, ?_, fun i h1 h2 => (hf i h1 h2).later k⟩
  rcases hc with h | ⟨b, off, hp, hc⟩
  · exact Or.inl h
  · exact Or.inr ⟨b, off, hp, fun i h => k.cell (hc i h)⟩

def SplitOk : Prop := ∀ (p : Option Addr) (c n : Nat) (ls : List (List UInt8)), n = ls.length → n ≤ 1000000 → n ≤ c → ∀ (C : Array Value) (a b d : Int), IsSeg C a b d → ∀ w, FpsAt 32 ls (.slice p n c) w →
  Calls Try.prog 15 #[.slice p n c, .agg C] w fun e w' => ∃ v, e = .returned v ∧ SegsAt (allS a b d ls) v w' ∧ Below w.heap.size w w'

theorem allS_len (a b d : Int) (l : List (List UInt8)) : (allS a b d l).length ≤ l.length := by
  unfold allS; split
  · exact segs_len l
  · simp

/-- What is known of each segment. -/
theorem allS_each (a b d : Int) (l : List (List UInt8)) (i : Nat) (h : i < (allS a b d l).length) :
    1 ≤ ((allS a b d l)[i]).length ∧ (((allS a b d l)[i]).length : Int) ≤ b ∧ (i + 1 < (allS a b d l).length → a ≤ (((allS a b d l)[i]).length : Int)) := by
  by_cases hM : MayS a b d
  · have e : allS a b d l = segs (segI a b d) l := by unfold allS; rw [if_pos hM]
    rw [e] at h
    simp only [e]
    obtain ⟨mn, mx, dv, rfl, rfl, rfl, h1, h2, h3, h4, h5⟩ := mayS_nats hM
    have hp := segs_pos l _ (List.getElem_mem h)
    have hs := segs_sizes mn mx h1 (f := segI mn mx dv) (fun l => by
      unfold segI
      rw [if_pos hM]
      simp only [Int.toNat_natCast]
      rcases segN_in (markB dv) mn mx h1 h2 l with e | e
      · exact Or.inl ⟨e, Nat.le_of_lt (segN_short (markB dv) mn mx h1 h2 l e)⟩
      · exact Or.inr e) l i h
    refine ⟨hp, by have := hs.1; omega, fun hh => ?_⟩
    have := hs.2 hh
    omega
  · exfalso
    have e : allS a b d l = [] := by unfold allS; rw [if_neg hM]
    rw [e] at h
    simp at h

theorem allS_join (a b d : Int) (l : List (List UInt8)) (hM : MayS a b d) : (allS a b d l).flatten = l := by
  unfold allS; rw [if_pos hM]; exact segs_join l

end Go.Proofs.Ytlmccnelhpnneaa
