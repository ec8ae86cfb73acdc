/- The document's sparse index in memory: rows of hooks with lists, in a block of its own. -/
import Derived.Test.YtaajadmaamjebaaSxM
import Derived.Test.YtaajadmaamjebaaUs
import Derived.Test.YtaajadmaamjebaaHB
import Derived.Test.YtaajadmaamjebaaGen
namespace Go.Proofs.Ytaajadmaamjebaa
open Go.RowKit

/-- A row with the slice of its list, cell by cell. -/
def sxL (a : SRow × Value) : List Value := (fpA a.1.1).toList ++ [a.2]
def okSx (a : SRow × Value) : Prop := a.1.1.length = 32 ∧ a.2.oneCell' = true
theorem fpA_len (l : List UInt8) : (fpA l).toList.length = l.length := by rw [Array.length_toList, fpA_size]
theorem encSx : Enc sxL 33 okSx := ⟨fun a h => by unfold sxL; rw [List.length_append, fpA_len, h.1]; rfl, fun a h x hx => by
  rcases List.mem_append.1 hx with y | y
  · have h1 := fpA_one a.1.1
    rw [Array.all_eq_true_iff_forall_mem] at h1
    exact h1 x (Array.mem_toList_iff.1 y)
  · rw [List.mem_singleton.1 y]; exact h.2, by decide⟩
theorem sxL_tv {a : SRow × Value} (h : a.1.1.length = 32) : (sxL a)[32]? = some a.2 := by
  unfold sxL
  rw [List.getElem?_append_right (by rw [fpA_len]; omega), fpA_len, h]; rfl
theorem sxL_fp {a : SRow × Value} (h : a.1.1.length = 32) : (sxL a).take 32 = (fpA a.1.1).toList := by
  unfold sxL
  rw [List.take_append_of_le_length (by rw [fpA_len]; omega), List.take_of_length_le (by rw [fpA_len]; omega)]
structure SxIn (A : List (SRow × Value)) (v : Value) (w : World) : Prop where
  each : ∀ a ∈ A, UsAt a.1.2 a.2 w
  rows : RowsAt sxL 33 okSx A v w
/-- W has all that w had but some blocks. -/
def Off (E : Nat → Prop) (w W : World) : Prop := ∀ j, ¬ E j → j < w.heap.size → W.heap[j]? = w.heap[j]?
theorem Off.self (E : Nat → Prop) (w : World) : Off E w w := fun _ _ _ => rfl
theorem Off.of_kept {E : Nat → Prop} {w W : World} (k : Kept w W) : Off E w W := fun j _ hj => k.block j hj
theorem Off.trans {E : Nat → Prop} {w W X : World} (h : Off E w W) (hs : w.heap.size ≤ W.heap.size) (k : Off E W X) : Off E w X := fun j h1 h2 => (k j h1 (by omega)).trans (h j h1 h2)
theorem Off.of_but {E : Nat → Prop} {g : Nat} {w W : World} (hE : E g) (k : ButBy (fun m => m = g) w W) : Off E w W := fun j h1 h2 => k.block j h2 (fun e => h1 (e ▸ hE))
/-- An index at the block g, whose rows lie in none of the blocks E. -/
structure IxAt (E : Nat → Prop) (g : Nat) (per most : Int) (A : List (SRow × Value)) (tv : Value) (w : World) : Prop where
  row : w.heap[g]? = some (.cells #[.int .i64 per, .int .i64 most, tv] 32 (0, 0))
  rows : ∀ W, Off E w W → SxIn A tv W
  mem : E g
  bnd : ∀ k, E k → k < w.heap.size
theorem IxAt.later {E : Nat → Prop} {g : Nat} {per most : Int} {A : List (SRow × Value)} {tv : Value} {w w' : World} (h : IxAt E g per most A tv w) (k : Kept w w') : IxAt E g per most A tv w' :=
  ⟨k.row h.row, fun W hW => h.rows W ((Off.of_kept k).trans k.size hW), h.mem, fun j hj => Nat.lt_of_lt_of_le (h.bnd j hj) k.size⟩
theorem IxAt.c0 {E : Nat → Prop} {g : Nat} {per most : Int} {A : List (SRow × Value)} {tv : Value} {w : World} (h : IxAt E g per most A tv w) : w.cell? ⟨g, 0, none⟩ = some (.int .i64 per) := by rw [cell_of_row _ _ _ _ _ _ h.row]; rfl
theorem IxAt.c1 {E : Nat → Prop} {g : Nat} {per most : Int} {A : List (SRow × Value)} {tv : Value} {w : World} (h : IxAt E g per most A tv w) : w.cell? ⟨g, 1, none⟩ = some (.int .i64 most) := by rw [cell_of_row _ _ _ _ _ _ h.row]; rfl
theorem IxAt.c2 {E : Nat → Prop} {g : Nat} {per most : Int} {A : List (SRow × Value)} {tv : Value} {w : World} (h : IxAt E g per most A tv w) : w.cell? ⟨g, 2, none⟩ = some tv := by rw [cell_of_row _ _ _ _ _ _ h.row]; rfl
theorem IxAt.in_ {E : Nat → Prop} {g : Nat} {per most : Int} {A : List (SRow × Value)} {tv : Value} {w : World} (h : IxAt E g per most A tv w) : SxIn A tv w := h.rows w (Off.self E w)
theorem infoSxRow : (Try.prog.info? 73).map (fun i => (i.size, i.bytes)) = some (33, 56) := by kernel_rfl
theorem infoSxRw : (Try.prog.info? 73).map (·.size) = some 33 := by kernel_rfl
/-- An element: its cells. -/
structure ElemS (g : Nat) (A : List (SRow × Value)) (k : Nat) (b off : Nat) (cs : Array Value) (t : TypeId) (fr : Nat × Nat) (w : World) : Prop where
  hg : w.heap[b]? = some (.cells cs t fr)
  fp : ∀ h : k < A.length, off + k * 33 + 32 ≤ cs.size ∧ cs.extract (off + k * 33) (off + k * 33 + 32) = fpA A[k].1.1
  tv : ∀ h : k < A.length, cs[off + k * 33 + 32]? = some A[k].2
  all : ∀ h : k < A.length, off + k * 33 + 33 ≤ cs.size ∧ cs.extract (off + k * 33) (off + k * 33 + 33) = (sxL A[k]).toArray
theorem SxIn.elem {g : Nat} {A : List (SRow × Value)} {p : Option Addr} {n c k : Nat} {w : World} (h : SxIn A (.slice p n c) w) (hn : n = A.length) (hk : k < n) :
    ∃ b off cs t fr, p = some ⟨b, off, none⟩ ∧ ElemS g A k b off cs t fr w := by
  subst hn
  obtain ⟨b, off, cs, t, fr, hp, hg, hs, hx, hc⟩ := h.rows.elem encSx hk
  have ok := h.rows.good _ (List.getElem_mem hk)
  refine ⟨b, off, cs, t, fr, hp, hg, fun _ => ⟨by omega, ?_⟩, fun _ => ?_, fun _ => ⟨hs, hx⟩⟩
  · have e : cs.extract (off + k * 33) (off + k * 33 + 32) = (cs.extract (off + k * 33) (off + k * 33 + 33)).extract 0 32 := by
      rw [Array.extract_extract]
      congr 1 <;> omega
    rw [e, hx]
    apply Array.toList_inj.1
    rw [Array.toList_extract]
    exact sxL_fp ok.1
  · have h1 := hc 32 _ (sxL_tv ok.1)
    rw [cell_of_row _ _ _ _ _ _ hg] at h1
    exact h1

end Go.Proofs.Ytaajadmaamjebaa
