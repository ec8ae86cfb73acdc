/- Contracts of a sparse index by name, whatever it is made of; the document's index beside it. -/
import Derived.Test.YtaajadmaamjebaaSxU
import Derived.Test.YtaajadmaamjebaaSxN
import Derived.Test.YtaajadmaamjebaaOwn
namespace Go.Proofs.Ytaajadmaamjebaa
open Go.RowKit

/-- What a call that changes an index leaves. -/
def XPost (P : List SRow → (Nat → Prop) → World → Prop) (Bs : Nat → Prop) (R' : List SRow) (w w' : World) : Prop := (∃ Bs', P R' Bs' w' ∧ ∀ k, Bs' k → Bs k ∨ w.heap.size ≤ k) ∧ ButBy Bs w w'
/-- A slice of fingerprints that lies in none of the blocks Bs. -/
def FpsOff (Bs : Nat → Prop) (ls : List (List UInt8)) (v : Value) (w : World) : Prop := ∀ W : World, w.heap.size ≤ W.heap.size → (∀ k, k < w.heap.size → ¬ Bs k → W.heap[k]? = w.heap[k]?) → FpsAt 32 ls v W

/-- What an index is to keep, for some predicate on its rows and its blocks. -/
structure IdxOk (B : Nat) (x : Value) (per most : Int) (P : List SRow → (Nat → Prop) → World → Prop) : Prop where
  above : ∀ R Bs w, P R Bs w → ∀ k, Bs k → B ≤ k ∧ k < w.heap.size
  stay : ∀ R Bs w w', P R Bs w → w.heap.size ≤ w'.heap.size → (∀ k, Bs k → w'.heap[k]? = w.heap[k]?) → P R Bs w'
  ptr : ∃ ad, x = .pointer (some ad)
  len : ∀ R Bs w, P R Bs w → OkI per most R → Calls Try.prog 11 #[x] w fun e w' => e = .returned (.int .i64 (lenS R : Nat)) ∧ Kept w w'
  hooks : ∀ R Bs w, P R Bs w → OkI per most R → Calls Try.prog 17 #[x] w fun e w' => (∃ v, e = .returned v ∧ FpsAt 32 (R.map Prod.fst) v w') ∧ Kept w w'
  peek : ∀ R Bs w (h : List UInt8), P R Bs w → OkI per most R → h.length = 32 → Calls Try.prog 14 #[x, .agg (fpA h)] w fun e w' => (∃ v, e = .returned v ∧ ∀ W, OnNew w w' W → UsAt (peekS R h) v W) ∧ Kept w w'
  look : ∀ R Bs w (h : List UInt8), P R Bs w → OkI per most R → h.length = 32 → Calls Try.prog 15 #[x, .agg (fpA h)] w fun e w' => (∃ v, e = .returned v ∧ ∀ W, OnNew w w' W → UsAt (peekS R h) v W) ∧ XPost P Bs (lookS R h) w w'
  put : ∀ R Bs w (man : Nat) (ls : List (List UInt8)) (vs : Value), P R Bs w → OkI per most R → man < 4294967296 → ls.length ≤ 1000 → FpsOff Bs ls vs w → Calls Try.prog 12 #[x, .int .u32 (man : Nat), vs] w fun e w' => e = .returned (.tuple #[]) ∧ XPost P Bs (putS per most man R ls) w w'
  drop : ∀ R Bs w (man : Nat), P R Bs w → OkI per most R → man < 4294967296 → Calls Try.prog 16 #[x, .int .u32 (man : Nat)] w fun e w' => e = .returned (.int .i64 ((lenS R : Int) - (lenS (dropS man R) : Int))) ∧ XPost P Bs (dropS man R) w w'

/-- New: an index of its own, or none. -/
def NewIdx : Prop := ∀ (per most : Int) w, (Lit.int .i64 per).wf = true → (Lit.int .i64 most).wf = true → Calls Try.prog 6 #[.int .i64 per, .int .i64 most] w fun e w' => Kept w w' ∧
  ((¬ ((0 ≤ per ∧ per ≤ 64) ∧ 0 ≤ most ∧ most ≤ 65536) ∧ e = .returned (.tuple #[.pointer none, .int .i64 1])) ∨
   (((0 ≤ per ∧ per ≤ 64) ∧ 0 ≤ most ∧ most ≤ 65536) ∧ ∃ ad P Bs, e = .returned (.tuple #[.pointer (some ad), .int .i64 0]) ∧ IdxOk w.heap.size (.pointer (some ad)) per most P ∧ P [] Bs w'))
/-- An index that nobody made. -/
structure IdxNil : Prop where
  len : ∀ w, Calls Try.prog 11 #[.pointer none] w fun e w' => e = .returned (.int .i64 0) ∧ Kept w w'
  hooks : ∀ w, Calls Try.prog 17 #[.pointer none] w fun e w' => (∃ p c, e = .returned (.slice p 0 c)) ∧ Kept w w'
  peek : ∀ w (h : List UInt8), h.length = 32 → Calls Try.prog 14 #[.pointer none, .agg (fpA h)] w fun e w' => (∃ p c, e = .returned (.slice p 0 c)) ∧ Kept w w'
  look : ∀ w (h : List UInt8), h.length = 32 → Calls Try.prog 15 #[.pointer none, .agg (fpA h)] w fun e w' => (∃ p c, e = .returned (.slice p 0 c)) ∧ Kept w w'
  put : ∀ w (man : Nat) (vs : Value) (h : List UInt8), h.length = 32 → FpsAt 32 [h] vs w → man < 4294967296 → Calls Try.prog 12 #[.pointer none, .int .u32 (man : Nat), vs] w fun e w' => e = .returned (.tuple #[]) ∧ Kept w w'
  drop : ∀ w (man : Nat), man < 4294967296 → Calls Try.prog 16 #[.pointer none, .int .u32 (man : Nat)] w fun e w' => e = .returned (.int .i64 0) ∧ Kept w w'

theorem IdxOk.kept {B : Nat} {x : Value} {per most : Int} {P : List SRow → (Nat → Prop) → World → Prop} (D : IdxOk B x per most P) {R : List SRow} {Bs : Nat → Prop} {w w' : World} (h : P R Bs w) (k : Kept w w') : P R Bs w' :=
  D.stay R Bs w w' h k.size (fun j hj => k.block j (D.above R Bs w h j hj).2)

/-! ### Both side by side -/
/-- The program's index and the document's, with the same rows, apart. -/
structure Duo (w0 : World) (x : Value) (g : Nat) (per most : Int) (P : List SRow → (Nat → Prop) → World → Prop) (Bs : Nat → Prop) (A : List (SRow × Value)) (tv : Value) (R : List SRow) (w : World) : Prop where
  p : P R Bs w
  ix : IxAt (fun m => m = g ∨ Bs m) g per most A tv w
  map : A.map Prod.fst = R
  ok : OkI per most R
  off : ¬ Bs g
  kept : Kept w0 w
  low : ∀ m, m = g ∨ Bs m → w0.heap.size ≤ m
section
variable {B : Nat} {w0 w w' : World} {x : Value} {g : Nat} {per most : Int} {P : List SRow → (Nat → Prop) → World → Prop} {Bs : Nat → Prop} {A A' : List (SRow × Value)} {tv tv' : Value} {R R' : List SRow}
theorem Duo.later (D : IdxOk B x per most P) (h : Duo w0 x g per most P Bs A tv R w) (k : Kept w w') : Duo w0 x g per most P Bs A tv R w' :=
  ⟨D.kept h.p k, h.ix.later k, h.map, h.ok, h.off, h.kept.then k, h.low⟩
/-- Behind a call that changes the program's index. -/
theorem Duo.prog (D : IdxOk B x per most P) (h : Duo w0 x g per most P Bs A tv R w) (hp : XPost P Bs R' w w') : ∃ Bs', P R' Bs' w' ∧ ¬ Bs' g ∧ IxAt (fun m => m = g ∨ Bs' m) g per most A tv w' ∧ Kept w0 w' ∧ (∀ m, m = g ∨ Bs' m → w0.heap.size ≤ m) := by
  obtain ⟨⟨Bs', h1, h2⟩, hb⟩ := hp
  have hg := h.ix.bnd g (Or.inl rfl)
  refine ⟨Bs', h1, fun e => ?_, ⟨?_, fun W hW => ?_, Or.inl rfl, fun k hk => ?_⟩, ButBy.kept hb (fun m hm => h.low m (Or.inr hm)) h.kept h.kept.size, fun m hm => ?_⟩
  · rcases h2 g e with y | y
    · exact h.off y
    · omega
  · exact (hb.block g hg h.off).trans h.ix.row
  · refine h.ix.rows W (fun j hj hlt => ?_)
    rw [hW j (fun e => hj (by
      rcases e with y | y
      · exact Or.inl y
      · rcases h2 j y with z | z
        · exact Or.inr z
        · omega)) (Nat.lt_of_lt_of_le hlt hb.size)]
    exact hb.block j hlt (fun e => hj (Or.inr e))
  · rcases hk with y | y
    · rw [y]; exact Nat.lt_of_lt_of_le hg hb.size
    · exact (D.above _ _ _ h1 k y).2
  · rcases hm with y | y
    · exact h.low m (Or.inl y)
    · rcases h2 m y with z | z
      · exact h.low m (Or.inr z)
      · exact Nat.le_trans h.kept.size z
/-- And behind the document's. -/
theorem Duo.doc (D : IdxOk B x per most P) {w1 : World} (hp : P R' Bs w1) (hoff : ¬ Bs g) (hk : Kept w0 w1) (hlow : ∀ m, m = g ∨ Bs m → w0.heap.size ≤ m) (hb : ButBy (fun m => m = g) w1 w') (hix : IxAt (fun m => m = g ∨ Bs m) g per most A' tv' w') (hmap : A'.map Prod.fst = R') (hok : OkI per most R') : Duo w0 x g per most P Bs A' tv' R' w' :=
  ⟨D.stay _ _ _ _ hp hb.size (fun k hkB => hb.block k (D.above _ _ _ hp k hkB).2 (fun e => hoff (e ▸ hkB))), hix, hmap, hok, hoff, ButBy.kept hb (fun m hm => hlow m (Or.inl hm)) hk hk.size, hlow⟩
end

end Go.Proofs.Ytaajadmaamjebaa
