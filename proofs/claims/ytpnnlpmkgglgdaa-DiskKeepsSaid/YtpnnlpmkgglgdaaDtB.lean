/- Slices of one element, however many cells it has, laid; an append to a disk's pending writes: what it leaves. -/
import Derived.Test.YtpnnlpmkgglgdaaDtR
import Derived.Test.YtpnnlpmkgglgdaaFlat
import Derived.Great.BuildSlice
import Derived.Shelf.GgSortFunc.RowK
namespace Go.Proofs.Ytpnnlpmkgglgdaa
open Go.RowKit

theorem foldN_many (off : Nat) : ∀ (l : List Value) (j : Nat) (cells : Array Value), (l.zipIdx j).foldl (fun cs p => cs.setIfInBounds (off + p.2) p.1) cells = Sort.setMany cells (off + j) l
  | [], _, _ => rfl
  | v :: l, j, cells => by
    rw [List.zipIdx_cons, List.foldl_cons, foldN_many off l (j + 1)]
    rfl

theorem foldN_arr (off : Nat) (X cells : Array Value) : X.zipIdx.foldl (fun cs (p : Value × Nat) => cs.setIfInBounds (off + p.2) p.1) cells = Sort.setMany cells off X.toList := by
  rw [← Array.foldl_toList, Array.toList_zipIdx, foldN_many off X.toList 0 cells, Nat.add_zero]

theorem fillN_one (n : Nat) (X cells : Array Value) (hX : X.size = n) (hc : cells.size = n) : Instr.fill (fun i => some (i * n, n)) cells [(0, .agg X)] = some X := by
  have h1 : (Value.agg X).cells = X := rfl
  simp only [Instr.fill, h1, hX, hc]
  rw [if_neg (by simp)]
  congr 1
  refine (foldN_arr (0 * n) X cells).trans ?_
  apply Sort.ext_get! (by rw [Sort.size_setMany, hX, hc])
  intro t ht
  rw [Sort.size_setMany] at ht
  rw [Sort.get_setMany _ _ _ t ht, if_pos (by rw [Array.length_toList, hX]; omega)]
  rw [Nat.zero_mul, Nat.sub_zero, getElem!_pos X t (by omega), getElem!_pos X.toList t (by rw [Array.length_toList]; omega)]
  simp

theorem wp_buildN_one {P : Program} {o : Oper} {a : Act} {w : World} {K : Act → World → Prop} {Q : Exit → Act → World → Prop} (t e : TypeId) (x : Operand) (ho : o.op = .buildSlice t 1 #[(0, x)]) (X : Array Value) (hx : a.eval x = .agg X)
    (i : TypeInfo) (z : Value) (n : Nat) (hu : P.underlying t = some (.slice e)) (hi : P.info? e = some i) (hz : i.zero = some z) (hs : i.size = n) (hn : 0 < n) (hn2 : n ≤ 65536) (hX : X.size = n)
    (h : K (a.put o.dst (.slice (some ⟨w.heap.size, 0, none⟩) 1 1)) (w.alloc (.cells X e))) : o.wp P a w K Q := by
  refine wp_buildSlice t e 1 _ ho X i z hu hi hz (by rw [hs]; omega) (by rw [hs]; omega) ?_ h
  rw [hs]
  have e : (#[(0, x)].map fun (p : Nat × Operand) => (p.1, a.eval p.2)).toList = [(0, Value.agg X)] := by simp [hx]
  refine (congrArg _ e).trans (fillN_one n X _ hX (by simp))

/-- A disk, one of whose pending writes is in its map, but not yet in its list. -/
structure Mid (B g b c m : Nat) (s : Dk) (q : Nat) (l : List UInt8) (vp : Value) (w : World) : Prop where
  base : B ≤ g
  row : w.heap[g]? = some (.cells (dA g s b s.image.length c vp m) 59 (0, 0))
  hb : B ≤ b
  cap : s.image.length ≤ c
  dur : BytesAt b s.image w
  pend : w.ownsRow B 64 129 vp s.waits.length (wtB s.waits)
  hm : B ≤ m
  map : MapIs eltInt m (s.waits ++ [(q, l)]).length (lastF (s.waits ++ [(q, l)])) w
  ap : b ≠ g ∧ m ≠ g ∧ m ≠ b ∧ vp.ownBlock ≠ some g ∧ vp.ownBlock ≠ some b ∧ vp.ownBlock ≠ some m

/-- The map's entry is made. -/
theorem DAt.mid {B g b c m : Nat} {s : Dk} {vp : Value} {w w2 : World} (h : DAt B g b c m s vp w) (q : Nat) (l : List UInt8) (hm : MapIs eltInt m (s.waits.length + 1) (updI (lastF s.waits) (q : Int) (s.waits.length : Int)) w2) (hg : w.grownBy w2 (some m)) :
    Mid B g b c m s q l vp w2 := by
  have ap := h.apart
  have hsame : ∀ k, k ≠ m → k < w.heap.size → w2.heap[k]? = w.heap[k]? := fun k hk hl => hg.block k hl (fun e => hk (Option.some.inj e))
  refine ⟨h.base, ?_, h.hb, h.cap, h.dur.stay (hsame b (fun x => ap.2.2.1 x.symm) h.dur.lt), own_stay h.pend (fun k e => hsame k (fun x => ap.2.2.2.2.2 (by rw [e, x])) (h.pend.lt k e).2), h.hm, ?_, ap⟩
  · rw [hsame g (fun x => ap.2.1 x.symm) (h.lt g (Or.inl rfl)).2]; exact h.row
  · rw [← lastF_snoc s.waits (q, l)] at hm
    rw [List.length_append]; exact hm

theorem Mid.kept {B g b c m : Nat} {s : Dk} {q : Nat} {l : List UInt8} {vp : Value} {w w' : World} (h : Mid B g b c m s q l vp w) (k : Kept w w') : Mid B g b c m s q l vp w' :=
  ⟨h.base, by rw [k.block g (Array.getElem?_eq_some_iff.1 h.row).1]; exact h.row, h.hb, h.cap, h.dur.kept k, own_stay h.pend (fun j e => k.block j (h.pend.lt j e).2), h.hm, h.map.stay (k.block m h.map.lt), h.ap⟩

/-- What stands behind the append to the list, and what behind its store. -/
theorem Mid.done {B g b c m : Nat} {s : Dk} {q : Nat} {l : List UInt8} {vp : Value} {w2 W6 : World} (h : Mid B g b c m s q l vp w2) (k : Kept w2 W6) (hl : l.length = 128) {v' : Value} {w5 : World}
    (ho : w5.ownsRow B 64 129 v' (s.waits.length + 1) (wtB s.waits ++ wcell q l)) (hg : W6.grownBy w5 vp.ownBlock) (hw : v'.ownBlock = vp.ownBlock ∨ v'.ownBlock = some W6.heap.size) :
    DAt B g b c m ⟨s.stands, s.waits ++ [(q, l)], s.fuse, s.ops, s.down⟩ v' (w5.setCell ⟨g, 2, none⟩ v') ∧ (∀ j, v'.ownBlock = some j → vp.ownBlock = some j ∨ w2.heap.size ≤ j) ∧ ButBy (DBs g b m vp) w2 (w5.setCell ⟨g, 2, none⟩ v') ∧
      w5.cell? ⟨g, 2, none⟩ = some vp ∧ w5.frozen? ⟨g, 2, none⟩ = false ∧ ∀ j, j < w2.heap.size → ¬ DBs g b m vp j → w5.heap[j]? = w2.heap[j]? ∧ (w5.setCell ⟨g, 2, none⟩ v').heap[j]? = w2.heap[j]? := by
  have ap := h.ap
  have hsame : ∀ j, j < w2.heap.size → vp.ownBlock ≠ some j → w5.heap[j]? = w2.heap[j]? := fun j hj hn => (hg.block j (Nat.lt_of_lt_of_le hj k.size) (fun e => hn e.symm)).trans (k.block j hj)
  have hrow5 : w5.heap[g]? = some (.cells (dA g s b s.image.length c vp m) 59 (0, 0)) := by rw [hsame g (Array.getElem?_eq_some_iff.1 h.row).1 ap.2.2.2.1]; exact h.row
  have hgl := (Array.getElem?_eq_some_iff.1 h.row).1
  have hnew : ∀ j, v'.ownBlock = some j → vp.ownBlock = some j ∨ w2.heap.size ≤ j := fun j e => by
    rcases hw with x | x
    · rw [x] at e; exact Or.inl e
    · rw [x] at e
      have e2 := Option.some.inj e
      have := k.size
      exact Or.inr (by omega)
  have hng : ∀ j, v'.ownBlock = some j → j ≠ g ∧ j ≠ b ∧ j ≠ m := fun j e => by
    have hbl := h.dur.lt
    have hml := h.map.lt
    rcases hnew j e with x | x
    · exact ⟨fun y => ap.2.2.2.1 (by rw [x, y]), fun y => ap.2.2.2.2.1 (by rw [x, y]), fun y => ap.2.2.2.2.2 (by rw [x, y])⟩
    · exact ⟨by omega, by omega, by omega⟩
  refine ⟨⟨h.base, ?_, h.hb, h.cap, ?_, ?_, h.hm, ?_⟩, hnew, ?_, ?_, ?_, ?_⟩
  · rw [heap_setCell_same _ _ _ _ _ _ hrow5]; rfl
  · exact h.dur.stay ((set_other _ _ _ _ _ ap.1).trans (hsame b h.dur.lt ap.2.2.2.2.1))
  · refine own_stay (w := w5) ?_ (fun j e => set_other _ _ _ _ _ (hng j e).1)
    show w5.ownsRow B 64 129 v' (s.waits ++ [(q, l)]).length (wtB (s.waits ++ [(q, l)]))
    rw [List.length_append, wtB_append, wtB_single]
    exact ho
  · exact h.map.stay ((set_other _ _ _ _ _ ap.2.1).trans (hsame m h.map.lt ap.2.2.2.2.2))
  · have hb : ButBy (DBs g b m vp) w2 w5 := ⟨hg.os.trans k.os, hg.tape.trans k.tape, hg.output.trans k.output, Nat.le_trans k.size hg.size, fun j hj hn => hsame j hj (fun e => hn (Or.inr (Or.inr (Or.inr e))))⟩
    exact hb.setCell g 2 _ (Or.inl rfl)
  · rw [cell_of_row _ _ _ _ _ _ hrow5]; rfl
  · exact frozen_of_row _ _ _ _ _ hrow5
  · intro j hj hn
    have e := hsame j hj (fun e => hn (Or.inr (Or.inr (Or.inr e))))
    exact ⟨e, (set_other _ _ _ _ _ (fun x => hn (Or.inl x))).trans e⟩

end Go.Proofs.Ytpnnlpmkgglgdaa
