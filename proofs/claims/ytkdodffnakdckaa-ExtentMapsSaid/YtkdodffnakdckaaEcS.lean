/- The landed extent's ordered: a copy, sorted by where its runs begin. -/
import Derived.Test.YtkdodffnakdckaaEcB
import Derived.Test.YtkdodffnakdckaaLay
import Derived.Shelf.SlSortCmp.NoneTotal
namespace Go.Proofs.Ytkdodffnakdckaa
open Go.RowKit Go.Sort

def SortPost (B : Nat) (l : List (Int × Int)) (v : Value) (w : World) (e : Ending) (w' : World) : Prop :=
  e = .returned (.tuple #[]) ∧ ∃ s : List (Int × Int), s.Perm l ∧ s.Pairwise (fun a b => a.1 ≤ b.1) ∧ OwnRuns B s v w' ∧ w.grownBy w' v.ownBlock

theorem encR_one (x : Int × Int) : ∀ v ∈ encR x, v.oneCell' = true := fun v hv => by
  unfold encR at hv
  simp only [List.mem_cons, List.not_mem_nil, or_false] at hv
  rcases hv with rfl | rfl <;> rfl

/-- What the library's flat row holds. -/
theorem flat_runC (l : List (Int × Int)) (t : Nat) (ht : t < l.length * 2) : (runC l)[t]? = some ((flatK encR 2 l.toArray)[t]!) := by
  have hq : t / 2 < l.length := by omega
  have hg := runC_get l (t / 2) hq
  have e2 : (l.toArray)[t / 2]! = l[t / 2] := by rw [getElem!_pos _ _ (by simpa using hq)]; simp
  rw [get_flatK _ _ _ t (by simpa using ht), e2]
  rcases Nat.mod_two_eq_zero_or_one t with h | h
  · rw [h]
    have e : t = t / 2 * 2 := by omega
    rw [show (runC l)[t]? = (runC l)[t / 2 * 2]? from congrArg (fun k => (runC l)[k]?) e, hg.1]
    rfl
  · rw [h]
    have e : t = t / 2 * 2 + 1 := by omega
    rw [show (runC l)[t]? = (runC l)[t / 2 * 2 + 1]? from congrArg (fun k => (runC l)[k]?) e, hg.2]
    rfl
theorem flat_all (l : List (Int × Int)) : (flatK encR 2 l.toArray).toList = runC l := by
  apply List.ext_getElem?
  intro t
  by_cases ht : t < l.length * 2
  · rw [flat_runC l t ht, Array.getElem?_toList, getElem!_pos _ t (by simpa using ht)]
    exact Array.getElem?_eq_getElem _
  · rw [List.getElem?_eq_none (by simp; omega), List.getElem?_eq_none (by rw [runC_len]; omega)]

theorem row_sorted {g : Nat} {cur : Array Value} {T : TypeId} {w : World} (hg : w.heap[g]? = some (.cells cur T (0, 0))) (n : Nat) (d : Array (Int × Int)) (os : Array Obj) :
    (sortWorldK encR 2 w g 0 n d os).heap[g]? = some (.cells (putCells id 0 (flatK encR 2 d) cur) T (0, 0)) ∧ w.grownBy (sortWorldK encR 2 w g 0 n d os) (some g) := by
  have hlt := (Array.getElem?_eq_some_iff.1 hg).1
  have e0 : ∀ k, k < w.heap.size → (sortWorldK encR 2 w g 0 n d os).heap[k]? = (mapBlock (Sort.ahead w n) g (putCells id 0 (flatK encR 2 d))).heap[k]? := fun k hk => by
    unfold sortWorldK putRowK putRow
    rw [heap_grow_old _ _ (by simpa [mapBlock] using hk)]
  refine ⟨?_, ⟨rfl, rfl, rfl, ?_, fun k hk hne => ?_⟩⟩
  · rw [e0 g hlt]
    show ((w.heap.modify g (onCells _)))[g]? = _
    rw [Array.getElem?_modify, if_pos rfl, hg]
    rfl
  · unfold sortWorldK putRowK putRow
    rw [size_grow]
    show w.heap.size ≤ (w.heap.modify g _).size + _
    rw [Array.size_modify]
    omega
  · rw [e0 k hk]
    show ((w.heap.modify g (onCells _)))[k]? = _
    rw [Array.getElem?_modify, if_neg (fun e => hne (by rw [e]))]
theorem put_take (F cur : Array Value) (h : F.size ≤ cur.size) : (putCells id 0 F cur).toList.take F.size = F.toList := by
  apply List.ext_getElem?
  intro k
  rw [List.getElem?_take]
  by_cases hk : k < F.size
  · rw [if_pos hk, Array.getElem?_toList, Array.getElem?_toList]
    unfold putCells
    rw [Array.getElem?_mapIdx, Array.getElem?_eq_getElem (show k < cur.size by omega)]
    simp only [Option.map_some, id]
    rw [if_pos (by omega), Nat.sub_zero, getElem!_pos _ k hk, Array.getElem?_eq_getElem hk]
  · rw [if_neg hk, List.getElem?_eq_none (by simp; omega)]

theorem cmpLaysR (blk off size : Nat) (w : World) : CmpLays Try.prog 53 #[] encR 2 cmpR blk off size w := fun _ _ _ _ x y => ordCmp_any x y _

/-- slices.SortFunc of an own slice of runs. -/
theorem rsort_any (B : Nat) (l : List (Int × Int)) (hs : l.length ≤ 1048576) (v : Value) (w : World) (h : OwnRuns B l v w) :
    Calls Try.prog 52 #[v, .func (.func 53) #[] #[]] w (SortPost B l v w) := by
  have hcells : ∀ j, j < (flatK encR 2 l.toArray).size → ∀ g c, v = .slice (some ⟨g, 0, none⟩) l.length c → w.cell? ⟨g, 0 + j, none⟩ = some ((flatK encR 2 l.toArray)[j]!) ∧ w.frozen? ⟨g, 0 + j, none⟩ = false := fun j hj g c hv => by
    subst hv
    have hj2 : j < l.length * 2 := by simpa using hj
    have h1 := World.ownsRow.cells h (g := g) rfl j _ (flat_runC l j hj2)
    rw [addr_add] at h1
    exact ⟨h1, World.ownsRow.frozenAt h _⟩
  rcases h.2 with ⟨rfl, h0⟩ | ⟨g, cap, cur, rfl, hbg, hg, hnc, hcm, hcs, htake⟩
  · have h1 : l = [] := List.eq_nil_of_length_eq_zero h0
    subst h1
    refine (AnyF.slices_SortFunc_none Try.sortR none 0 _ w).mono ?_
    rintro e w' ⟨he, rfl⟩
    exact ⟨he, [], List.Perm.refl _, List.Pairwise.nil, h, grown_refl _ _⟩
  · have hH : HoldsK encR 2 w g 0 l.toArray := fun j hj => by
      have h1 := hcells j hj g cap rfl
      exact ⟨h1.1, h1.2⟩
    have hcon := AnyQ.slices_SortFunc (P := Try.prog) Try.sortR 2 Try.isAgg57 Try.sizeOf57 encR (fun _ => rfl) encR_one cmpR swoR 53 #[] g 0 cap l.toArray w (enters_of Try.func53 (by kernel_rfl) rfl)
      (cmpLaysR g 0 l.toArray.size w) hH (Array.getElem?_eq_some_iff.1 hg).1 (by simp; omega)
    rw [show l.toArray.size = l.length from List.size_toArray] at hcon
    change Calls Try.prog 52 _ _ _ at hcon
    refine hcon.mono ?_
    rintro e w' ⟨he, d, n, os, hp, hsd, rfl⟩
    have hds : d.size = l.length := by have := hp.1; simpa using this
    have hperm : d.toList.Perm l := by
      have := hp.2.2
      rw [show d.extract 0 l.length = d from by rw [← hds]; simp] at this
      simpa using this
    have hlen : d.toList.length = l.length := hperm.length_eq
    have R := row_sorted hg n d os
    refine ⟨he, d.toList, hperm, ?_, ⟨runC_len _, Or.inr ⟨g, cap, _, by rw [hlen], hbg, R.1, by rw [hlen]; exact hnc, hcm, ?_, ?_⟩⟩, R.2⟩
    · rw [List.pairwise_iff_getElem]
      intro i j hi hj hij
      have h1 := hsd i j (Nat.zero_le _) hij (by rw [← hlen]; exact hj)
      rw [ltR] at h1
      have e1 : d[i]! = d.toList[i] := by rw [getElem!_pos d i (by simpa using hi)]; simp
      have e2 : d[j]! = d.toList[j] := by rw [getElem!_pos d j (by simpa using hj)]; simp
      rw [e1, e2] at h1
      have h2 := of_decide_eq_false h1
      omega
    · unfold putCells; rw [Array.size_mapIdx]; exact hcs
    · have e3 : (flatK encR 2 d).size = d.toList.length * 2 := by simp
      rw [← e3, put_take _ _ (by rw [e3, hlen, hcs]; exact Nat.mul_le_mul_right _ hnc)]
      have := flat_all d.toList
      simpa using this

def OrdPost (l : List (Int × Int)) (w : World) (e : Ending) (w' : World) : Prop :=
  ∃ s u, e = .returned u ∧ s.Perm l ∧ s.Pairwise (fun a b => a.1 ≤ b.1) ∧ OwnRuns w.heap.size s u w' ∧ Below w.heap.size w w'

set_option maxRecDepth 100000 in
theorem ordered_any (l : List (Int × Int)) (v : Value) (w : World) (h : RunsAt l v w) (hs : l.length ≤ 1048576) :
    Calls Try.prog 38 #[v] w (OrdPost l w) := by
  have C := rclone_any v l hs w h
  obtain ⟨p, c, rfl, -, -⟩ := h.out
  obtain ⟨n, hn⟩ : ∃ n, n = l.length := ⟨_, rfl⟩
  rw [← hn] at C ⊢
  rw [← hn] at hs
  have HN := Lib.hid hn
  clear h hn
  go_enter Try.func38, Try.ntmps38
  go_wp2_with fail
  refine C.mono ?_
  rintro e w1 ⟨v1, rfl, ho1, hb1⟩
  have S := rsort_any w.heap.size l (by rw [← HN.out]; exact hs) v1 w1 ho1
  have l1 := World.ownsRow.lt ho1
  clear ho1 C
  go_wp2_with fail
  refine S.mono ?_
  rintro e w2 ⟨rfl, s, hp, hpw, ho2, hg2⟩
  have hb2 : Below w.heap.size w w2 := hb1.grown hg2 hb1.size (fun k hk => (l1 k hk).1)
  clear S hg2 hb1
  go_wp2
  go_ret
  exact ⟨s, _, rfl, hp, hpw, ho2, hb2⟩

end Go.Proofs.Ytkdodffnakdckaa
