/- The walks of All, and of the document's All. -/
import Derived.Test.YtimllddlcjnikaaDoorRollA
namespace Go.Proofs.YtimllddlcjnikaaDoor
open Go.RowKit

/-- The hashes of all beginnings. -/
def hashes (l : List UInt8) (k : Nat) : List Nat := (List.range k).map fun i => rsum (l.take (i + 1))
theorem hashes_len (l : List UInt8) (k : Nat) : (hashes l k).length = k := by simp [hashes]
theorem hashes_get (l : List UInt8) (k i : Nat) (h : i < k) : (hashes l k).getD i 0 = rsum (l.take (i + 1)) := by simp [hashes, List.getD, h]
theorem hashes_snoc (l : List UInt8) (k : Nat) : hashes l (k + 1) = hashes l k ++ [rsum (l.take (k + 1))] := by simp [hashes, List.range_succ]
theorem hashes_lt (l : List UInt8) (k i : Nat) (h : i < k) : (hashes l k).getD i 0 < 2147483647 := by rw [hashes_get l k i h]; exact rsum_lt _

theorem info36 : (Tryd.prog.info? 45).map (fun i => (i.zero, i.size, i.bytes)) = some (some (.int .u32 0), 1, 4) := by kernel_rfl

theorem cut_list (s : ByteArray) (n : Nat) (hn : n ≤ s.size) : (s.extract 0 n).data.toList = s.data.toList.take n ∧ (s.extract 0 n).size = n := by
  have e : (s.extract 0 n).data.toList = s.data.toList.take n := by
    have h := Lib.extract_eq s 0 n
    rw [h, List.drop_zero, Nat.sub_zero]
  refine ⟨e, ?_⟩
  rw [← data_len, e, List.length_take, data_len]
  omega

/-- The cells of the hashes that are there so far. -/
def AllAt (w : World) (l : List UInt8) (n i : Nat) (wr : World) : Prop :=
  ∃ C : Array Value, wr.heap[w.heap.size]? = some (.cells C 45 (0, 0)) ∧ C.size = n ∧ (∀ j, j < i → C[j]? = some (.int .u32 (rsum (l.take (j + 1)) : Nat))) ∧ Below w.heap.size w wr

theorem AllAt.set {w : World} {l : List UInt8} {n i : Nat} {wr : World} (h : AllAt w l n i wr) (hi : i < n) (r : Nat) (hr : r = rsum (l.take (i + 1))) : AllAt w l n (i + 1) (wr.setCell ⟨w.heap.size, i, none⟩ (.int .u32 (r : Nat))) := by
  obtain ⟨C, g, hs, hc, hb⟩ := h
  refine ⟨_, heap_setCell_same _ _ _ _ _ _ g, by simpa using hs, fun j hj => ?_, hb.setCell (Nat.le_refl _) _⟩
  rw [Array.getElem?_setIfInBounds]
  by_cases e : i = j
  · subst e
    rw [if_pos rfl, if_pos (by omega), hr]
  · rw [if_neg e]; exact hc j (by omega)

theorem AllAt.drew {w : World} {l : List UInt8} {n i : Nat} {wr : World} (h : AllAt w l n i wr) : AllAt w l n i wr.drew := by
  obtain ⟨C, g, hs, hc, hb⟩ := h
  exact ⟨C, g, hs, hc, hb.drew⟩

theorem AllAt.later {w : World} {l : List UInt8} {n i : Nat} {wr wr' : World} (h : AllAt w l n i wr) (hb' : Below wr.heap.size wr wr') : AllAt w l n i wr' := by
  obtain ⟨C, g, hs, hc, hb⟩ := h
  exact ⟨C, (hb'.block _ (Array.getElem?_eq_some_iff.1 g).1).trans g, hs, hc, Below.then' hb hb' hb.size⟩

end Go.Proofs.YtimllddlcjnikaaDoor
