/- RecipeJoins: mathematics, worlds. -/
import Derived.Test.YtijdbmapdmhknaaDoorRqH
namespace Go.Proofs.YtijdbmapdmhknaaDoor
open Go.RowKit

def partL : List UInt8 := [112, 97, 114, 116]
def wholeL : List UInt8 := [119, 104, 111, 108, 101]
/-- The first texts, cut, with their manifests. -/
def PQ (ss : List ByteArray) : Nat → List (List UInt8 × List Nat)
  | 0 => []
  | k + 1 => PQ ss k ++ [((ss.getD k ⟨#[]⟩).extract 0 400 |>.data.toList, [k + 1])]
theorem PQ_length (ss : List ByteArray) : ∀ k, (PQ ss k).length = k
  | 0 => rfl
  | k + 1 => by
    show (PQ ss k ++ [_]).length = _
    rw [List.length_append, PQ_length ss k]; rfl
theorem PQ_one (ss : List ByteArray) : ∀ k, ∀ x ∈ PQ ss k, x.2.length = 1
  | 0, _, h => by cases h
  | k + 1, x, h => by
    rcases List.mem_append.1 h with a | a
    · exact PQ_one ss k x a
    · rw [List.mem_singleton.1 a]; rfl
theorem cut_len (s : ByteArray) : (s.extract 0 400).data.toList.length ≤ 400 := by
  rw [data_len, ByteArray.size_extract]; omega
theorem PQ_len (ss : List ByteArray) : ∀ k, ((PQ ss k).map Prod.fst).flatten.length ≤ 400 * k
  | 0 => Nat.le_refl _
  | k + 1 => by
    show ((PQ ss k ++ [_]).map Prod.fst).flatten.length ≤ _
    rw [List.map_append, List.flatten_append, List.length_append]
    have h1 := PQ_len ss k
    have h2 := cut_len (ss.getD k ⟨#[]⟩)
    simp only [List.map_cons, List.map_nil, List.flatten_cons, List.flatten_nil, List.append_nil]
    omega
theorem PQ_snd (ss : List ByteArray) : ∀ k, ((PQ ss k).map Prod.snd).flatten.length = k ∧ ∀ m ∈ ((PQ ss k).map Prod.snd).flatten, 1 ≤ m ∧ m ≤ k
  | 0 => ⟨rfl, fun m hm => by cases hm⟩
  | k + 1 => by
    obtain ⟨h1, h2⟩ := PQ_snd ss k
    rw [show PQ ss (k + 1) = PQ ss k ++ [((ss.getD k ⟨#[]⟩).extract 0 400 |>.data.toList, [k + 1])] from rfl, List.map_append, List.flatten_append, List.length_append, h1]
    refine ⟨rfl, fun m hm => ?_⟩
    rcases List.mem_append.1 hm with a | a
    · have := h2 m a; omega
    · simp at a; omega
theorem PQ_each (ss : List ByteArray) : ∀ k, ∀ x ∈ PQ ss k, x.1.length ≤ 400 ∧ ∀ m ∈ x.2, 1 ≤ m ∧ m ≤ k
  | 0, _, h => by cases h
  | k + 1, x, h => by
    rcases List.mem_append.1 h with a | a
    · obtain ⟨h1, h2⟩ := PQ_each ss k x a
      exact ⟨h1, fun m hm => by have := h2 m hm; omega⟩
    · rw [List.mem_singleton.1 a]
      exact ⟨cut_len _, fun m hm => by rw [List.mem_singleton.1 hm]; omega⟩
theorem may_name {name : List UInt8} (hn : 1 ≤ name.length ∧ name.length ≤ 48) (s : List UInt8) (l : List Nat) (hs : s.length ≤ 4000) (hl : ∀ m ∈ l, manQ m) (hk : l.length ≤ 1024) : mayQ (ofR name s l) := by
  have a := wRe_abs 0 s
  have b := wIm_abs 0 s
  refine ⟨hn, ⟨?_, ?_⟩, ⟨⟨?_, ?_⟩, ?_, ?_⟩, hk, hl⟩
  · show 0 ≤ (s.length : Int); omega
  · show (s.length : Int) ≤ _; omega
  · show _ ≤ wRe 0 s; omega
  · show wRe 0 s ≤ _; omega
  · show _ ≤ wIm 0 s; omega
  · show wIm 0 s ≤ _; omega
theorem may_part (s : List UInt8) (l : List Nat) (hs : s.length ≤ 4000) (hl : ∀ m ∈ l, manQ m) (hk : l.length ≤ 1024) : mayQ (ofR partL s l) := may_name (by decide) s l hs hl hk
theorem whole_of (ss : List ByteArray) (k : Nat) (hk : k ≤ 8) :
    joinQ wholeL ((PQ ss k).map fun x => ofR partL x.1 x.2) = some (ofR wholeL ((PQ ss k).map Prod.fst).flatten ((PQ ss k).map Prod.snd).flatten) ∧ mayQ (ofR wholeL ((PQ ss k).map Prod.fst).flatten ((PQ ss k).map Prod.snd).flatten) ∧ ((PQ ss k).map Prod.snd).flatten.length = k := by
  have h1 := PQ_len ss k
  obtain ⟨h2, h3⟩ := PQ_snd ss k
  have hm : mayQ (ofR wholeL ((PQ ss k).map Prod.fst).flatten ((PQ ss k).map Prod.snd).flatten) := may_name (by decide) _ _ (by omega) (fun m hm => by have := h3 m hm; unfold manQ; omega) (by omega)
  have hj := join_of wholeL partL (PQ ss k)
  refine ⟨?_, hm, h2⟩
  unfold joinQ
  rw [hj]
  refine if_pos ⟨fun r hr => ?_, hm⟩
  obtain ⟨x, hx, rfl⟩ := List.mem_map.1 hr
  obtain ⟨e1, e2⟩ := PQ_each ss k x hx
  have e3 := PQ_one ss k x hx
  exact may_part _ _ (by omega) (fun m hm => by have := e2 m hm; unfold manQ; omega) (by omega)

/-! ### Worlds -/
/-- W has all blocks of w from B on but the own block of v. -/
def OnBut (B : Nat) (v : Value) (w W : World) : Prop := ∀ j, B ≤ j → j < w.heap.size → v.ownBlock ≠ some j → W.heap[j]? = w.heap[j]?
theorem each_next {wr w2 W3 w9 : World} {B : Nat} {v v4 : Value} {LA : List (Rp × Value)} {R : Rp} {tu : Value} {X : Array Value} {k : Nat} {xs : List Value}
    (h : ∀ a ∈ LA, ∀ W, OnBut B v wr W → RpAt a.1 a.2 W) (hr : ∀ W : World, (∀ j, wr.heap.size ≤ j → j < w2.heap.size → W.heap[j]? = w2.heap[j]?) → RpAt R tu W)
    (ho : wr.ownsRow B 24 5 v k xs) (hB : B ≤ wr.heap.size) (k2 : Kept wr w2) (k3 : Kept w2 W3) (hg : (W3.alloc (.cells X 24)).grownBy w9 v.ownBlock)
    (hw : v4.ownBlock = v.ownBlock ∨ v4.ownBlock = some (W3.alloc (.cells X 24)).heap.size) :
    ∀ a ∈ LA ++ [(R, tu)], ∀ W, OnBut B v4 w9 W → RpAt a.1 a.2 W := by
  have ka : Kept W3 (W3.alloc (.cells X 24)) := box_below _ _
  have s1 := k2.size
  have s2 := k3.size
  have s3 := ka.size
  have s4 := hg.size
  have all : ∀ j, j < (W3.alloc (.cells X 24)).heap.size → v.ownBlock ≠ some j → w9.heap[j]? = (W3.alloc (.cells X 24)).heap[j]? := fun j hj hn => hg.block j hj (fun e => hn e.symm)
  have no4 : ∀ j, j < w2.heap.size → v.ownBlock ≠ some j → v4.ownBlock ≠ some j := fun j hj hn e => by
    rcases hw with e2 | e2
    · exact hn (e2.symm.trans e)
    · have := Option.some.inj (e2.symm.trans e); omega
  intro a ha W hW
  rcases List.mem_append.1 ha with x | x
  · refine h a x W (fun j h1 h2 h3 => ?_)
    rw [hW j h1 (by omega) (no4 j (by omega) h3), all j (by omega) h3, ka.block j (by omega), k3.block j (by omega), k2.block j h2]
  · rw [List.mem_singleton.1 x]
    refine hr W (fun j h1 h2 => ?_)
    have hn : v.ownBlock ≠ some j := fun e => by have := (ho.lt j e).2; omega
    rw [hW j (by omega) (by omega) (no4 j h2 hn), all j (by omega) hn, ka.block j (by omega), k3.block j (by omega)]
theorem infoRpF : ∃ i : TypeInfo, ∃ z : Value, Tryd.prog.info? 24 = some i ∧ i.zero = some z ∧ i.size = 5 ∧ i.bytes = 64 ∧ z.cells.size = 5 := by
  obtain ⟨i, h1, h2⟩ := Option.map_eq_some_iff.1 info_rp
  simp only [Prod.mk.injEq] at h2
  exact ⟨i, _, h1, h2.1, h2.2.1, h2.2.2, rfl⟩

end Go.Proofs.YtijdbmapdmhknaaDoor
