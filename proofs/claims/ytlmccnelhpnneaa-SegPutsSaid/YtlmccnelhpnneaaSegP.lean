/- One by one: what Put is to say; a parter's contract, whatever it is made of. -/
import Derived.Test.YtlmccnelhpnneaaSegI
namespace Go.Proofs.Ytlmccnelhpnneaa
open Go.RowKit

theorem segI_nil (a b d : Int) : segI a b d [] = 0 := by have := segI_le a b d []; simpa using this

/-- Where nothing has ended, one more fingerprint ends a segment if it is a mark with enough before it, or the last that there may be. -/
theorem segI_step {a b d : Int} (hM : MayS a b d) (l : List (List UInt8)) (f : List UInt8) (h : segI a b d l = 0) :
    segI a b d (l ++ [f]) = if a ≤ (l.length : Int) + 1 ∧ ((l.length : Int) + 1 = b ∨ markB d.toNat f = true) then l.length + 1 else 0 := by
  obtain ⟨mn, mx, dv, rfl, rfl, rfl, h1, h2, h3, h4, h5⟩ := mayS_nats hM
  unfold segI at h ⊢
  rw [if_pos hM] at h ⊢
  simp only [Int.toNat_natCast] at h ⊢
  rw [segN_snoc _ _ _ h1 l f h]
  by_cases hc : mn ≤ l.length + 1 ∧ (l.length + 1 = mx ∨ markB dv f = true)
  · rw [if_pos hc, if_pos ⟨by omega, hc.2.imp (fun e => by omega) id⟩]
  · rw [if_neg hc, if_neg (fun x => hc ⟨by omega, x.2.imp (fun e => by omega) id⟩)]

/-- Nothing ended: there are less than the most. -/
theorem segI_short {a b d : Int} (hM : MayS a b d) (l : List (List UInt8)) (h : segI a b d l = 0) : (l.length : Int) < b := by
  obtain ⟨mn, mx, dv, rfl, rfl, rfl, h1, h2, h3, h4, h5⟩ := mayS_nats hM
  unfold segI at h
  rw [if_pos hM] at h
  simp only [Int.toNat_natCast] at h
  have := segN_short _ _ _ h1 h2 l h
  omega

/-- All stays but some blocks. -/
structure ButBy (Bs : Nat → Prop) (w w' : World) : Prop where
  os : w'.os = w.os
  tape : w'.tape = w.tape
  output : w'.output = w.output
  size : w.heap.size ≤ w'.heap.size
  block : ∀ k, k < w.heap.size → ¬ Bs k → w'.heap[k]? = w.heap[k]?

theorem ButBy.below {Bs : Nat → Prop} {w w' : World} (h : Below w.heap.size w w') : ButBy Bs w w' := ⟨h.os, h.tape, h.output, h.size, fun k hk _ => h.block k hk⟩
theorem ButBy.kept {Bs : Nat → Prop} {B : Nat} {w0 w w' : World} (h : ButBy Bs w w') (hB : ∀ k, Bs k → B ≤ k) (k0 : Below B w0 w) (hs : B ≤ w.heap.size) : Below B w0 w' :=
  ⟨h.os.trans k0.os, h.tape.trans k0.tape, h.output.trans k0.output, Nat.le_trans k0.size h.size, fun k hk => (h.block k (Nat.lt_of_lt_of_le hk hs) (fun e => by have := hB k e; omega)).trans (k0.block k hk)⟩

/-- A row of fingerprints stays where only blocks of other types are written. -/
theorem OwnFps.but {B : Nat} {ls : List (List UInt8)} {v : Value} {w w' : World} {Bs : Nat → Prop} (h : OwnFps B ls v w) (hb : ButBy Bs w w') (ht : ∀ k, Bs k → ∀ cur fz, w.heap[k]? ≠ some (.cells cur 37 fz)) : OwnFps B ls v w' := by
  refine ⟨h.1, h.2.1, ?_⟩
  rcases h.2.2 with hn | ⟨g, cap, cur, rfl, hB, hg, hr⟩
  · exact Or.inl hn
  · exact Or.inr ⟨g, cap, cur, rfl, hB, by rw [hb.block _ (Array.getElem?_eq_some_iff.1 hg).1 (fun e => ht _ e _ _ hg)]; exact hg, hr⟩

/-- The own row is none of the blocks of other types. -/
theorem OwnFps.apart {B : Nat} {ls : List (List UInt8)} {v : Value} {w : World} {Bs : Nat → Prop} (h : OwnFps B ls v w) (ht : ∀ k, Bs k → ∀ cur fz, w.heap[k]? ≠ some (.cells cur 37 fz)) : ∀ k, Bs k → some k ≠ v.ownBlock := by
  intro k hk e
  rcases h.2.2 with ⟨rfl, _⟩ | ⟨g, cap, cur, rfl, hB, hg, hr⟩
  · simp [Value.ownBlock] at e
  · simp only [Value.ownBlock, Option.some.injEq] at e
    subst e
    exact ht _ hk _ _ hg

/-- What a parter is to keep, for some predicate on its state (what it has received, its blocks). -/
structure PartOk (a b d : Int) (B : Nat) (x : Value) (P : List (List UInt8) → (Nat → Prop) → World → Prop) : Prop where
  above : ∀ l Bs w, P l Bs w → ∀ k, Bs k → B ≤ k ∧ k < w.heap.size
  typ : ∀ l Bs w, P l Bs w → ∀ k, Bs k → ∀ cur fz, w.heap[k]? ≠ some (.cells cur 37 fz)
  stay : ∀ l Bs w w', P l Bs w → w.heap.size ≤ w'.heap.size → (∀ k, Bs k → w'.heap[k]? = w.heap[k]?) → P l Bs w'
  put : ∀ l Bs w f, P l Bs w → segI a b d l = 0 → f.length = 32 → Calls Try.prog 21 #[x, .agg (fpA f)] w fun e w' =>
    e = .returned (.bool (decide (0 < segI a b d (l ++ [f])))) ∧ (∃ Bs', P (if 0 < segI a b d (l ++ [f]) then [] else l ++ [f]) Bs' w' ∧ ∀ k, Bs' k → Bs k ∨ w.heap.size ≤ k) ∧ ButBy Bs w w'
  len : ∀ l Bs w, P l Bs w → Calls Try.prog 22 #[x] w fun e w' => e = .returned (.int .i64 (l.length : Nat)) ∧ Below w.heap.size w w'
  reset : ∀ l Bs w, P l Bs w → Calls Try.prog 20 #[x] w fun e w' =>
    e = .returned (.tuple #[]) ∧ (∃ Bs', P [] Bs' w' ∧ ∀ k, Bs' k → Bs k ∨ w.heap.size ≤ k) ∧ ButBy Bs w w'

def NewOk : Prop := ∀ (C : Array Value) (a b d : Int), IsSeg C a b d → ∀ w, Calls Try.prog 19 #[.agg C] w fun e w' => Below w.heap.size w w' ∧
  ((¬ MayS a b d ∧ e = .returned (.tuple #[.pointer none, .int .i64 1])) ∨
   (MayS a b d ∧ ∃ ad P Bs, e = .returned (.tuple #[.pointer (some ad), .int .i64 0]) ∧ PartOk a b d w.heap.size (.pointer (some ad)) P ∧ P [] Bs w'))

end Go.Proofs.Ytlmccnelhpnneaa
