/- The landed extent's ordered: a copy, sorted by where its runs begin. A region that draws its order whose head leaves all that was (a class of worlds) and whose last operations, one behind another, wait for all of the head: one walk of the head in its written order, then the tail. The landed extent's Plain. The landed extent's rest, Minus. -/
import Derived.Test.YtppbknlhknadbaaEcB
import Derived.Test.YtppbknlhknadbaaLay
import Derived.Shelf.SlSortCmp.NoneTotal
import Derived.Test.YtppbknlhknadbaaGB
import Derived.StillTail
import Derived.Deep.Quiet
namespace Go.Proofs.Ytppbknlhknadbaa
open Go.RowKit Go.Sort

def SortPost (B : Nat) (l : List (Int × Int)) (v : Value) (w : World) (e : Ending) (w' : World) : Prop :=
  e = .returned (.tuple #[]) ∧ ∃ s : List (Int × Int), s.Perm l ∧ s.Pairwise (fun a b => a.1 ≤ b.1) ∧ OwnRuns B s v w' ∧ w.grownBy w' v.ownBlock

theorem encR_one (x : Int × Int) : ∀ v ∈ encR x, v.oneCell' = true := fun v hv => by
  unfold encR at hv
  simp only [List.mem_cons, List.not_mem_nil, or_false] at hv
  rcases hv with rfl | rfl <;> rfl

/-- What the library's flat row holds. -/
theorem flat_runC (l : List (Int × Int)) (t : Nat) (ht : t < l.length * 2) : (runC l)[t]? = some ((flatK encR 2 l.toArray)[t]!) := by
  have hq : t / 2 < l.length := by omega
  have hg := runC_get l (t / 2) hq
  have e2 : (l.toArray)[t / 2]! = l[t / 2] := by rw [getElem!_pos _ _ (by simpa using hq)]; simp
  rw [get_flatK _ _ _ t (by simpa using ht), e2]
  rcases Nat.mod_two_eq_zero_or_one t with h | h
  · rw [h]
    have e : t = t / 2 * 2 := by omega
    rw [show (runC l)[t]? = (runC l)[t / 2 * 2]? from congrArg (fun k => (runC l)[k]?) e, hg.1]
    rfl
  · rw [h]
    have e : t = t / 2 * 2 + 1 := by omega
    rw [show (runC l)[t]? = (runC l)[t / 2 * 2 + 1]? from congrArg (fun k => (runC l)[k]?) e, hg.2]
    rfl
theorem flat_all (l : List (Int × Int)) : (flatK encR 2 l.toArray).toList = runC l := by
  apply List.ext_getElem?
  intro t
  by_cases ht : t < l.length * 2
  · rw [flat_runC l t ht, Array.getElem?_toList, getElem!_pos _ t (by simpa using ht)]
    exact Array.getElem?_eq_getElem _
  · rw [List.getElem?_eq_none (by simp; omega), List.getElem?_eq_none (by rw [runC_len]; omega)]

theorem row_sorted {g : Nat} {cur : Array Value} {T : TypeId} {w : World} (hg : w.heap[g]? = some (.cells cur T (0, 0))) (n : Nat) (d : Array (Int × Int)) (os : Array Obj) :
    (sortWorldK encR 2 w g 0 n d os).heap[g]? = some (.cells (putCells id 0 (flatK encR 2 d) cur) T (0, 0)) ∧ w.grownBy (sortWorldK encR 2 w g 0 n d os) (some g) := by
  have hlt := (Array.getElem?_eq_some_iff.1 hg).1
  have e0 : ∀ k, k < w.heap.size → (sortWorldK encR 2 w g 0 n d os).heap[k]? = (mapBlock (Sort.ahead w n) g (putCells id 0 (flatK encR 2 d))).heap[k]? := fun k hk => by
    unfold sortWorldK putRowK putRow
    rw [heap_grow_old _ _ (by simpa [mapBlock] using hk)]
  refine ⟨?_, ⟨rfl, rfl, rfl, ?_, fun k hk hne => ?_⟩⟩
  · rw [e0 g hlt]
    show ((w.heap.modify g (onCells _)))[g]? = _
    rw [Array.getElem?_modify, if_pos rfl, hg]
    rfl
  · unfold sortWorldK putRowK putRow
    rw [size_grow]
    show w.heap.size ≤ (w.heap.modify g _).size + _
    rw [Array.size_modify]
    omega
  · rw [e0 k hk]
    show ((w.heap.modify g (onCells _)))[k]? = _
    rw [Array.getElem?_modify, if_neg (fun e => hne (by rw [e]))]
theorem put_take (F cur : Array Value) (h : F.size ≤ cur.size) : (putCells id 0 F cur).toList.take F.size = F.toList := by
  apply List.ext_getElem?
  intro k
  rw [List.getElem?_take]
  by_cases hk : k < F.size
  · rw [if_pos hk, Array.getElem?_toList, Array.getElem?_toList]
    unfold putCells
    rw [Array.getElem?_mapIdx, Array.getElem?_eq_getElem (show k < cur.size by omega)]
    simp only [Option.map_some, id]
    rw [if_pos (by omega), Nat.sub_zero, getElem!_pos _ k hk, Array.getElem?_eq_getElem hk]
  · rw [if_neg hk, List.getElem?_eq_none (by simp; omega)]

theorem cmpLaysR (blk off size : Nat) (w : World) : CmpLays Try.prog 75 #[] encR 2 cmpR blk off size w := fun _ _ _ _ x y => ordCmp_any x y _

/-- slices.SortFunc of an own slice of runs. -/
theorem rsort_any (B : Nat) (l : List (Int × Int)) (hs : l.length ≤ 1048576) (v : Value) (w : World) (h : OwnRuns B l v w) :
    Calls Try.prog 74 #[v, .func (.func 75) #[] #[]] w (SortPost B l v w) := by
  have hcells : ∀ j, j < (flatK encR 2 l.toArray).size → ∀ g c, v = .slice (some ⟨g, 0, none⟩) l.length c → w.cell? ⟨g, 0 + j, none⟩ = some ((flatK encR 2 l.toArray)[j]!) ∧ w.frozen? ⟨g, 0 + j, none⟩ = false := fun j hj g c hv => by
    subst hv
    have hj2 : j < l.length * 2 := by simpa using hj
    have h1 := World.ownsRow.cells h (g := g) rfl j _ (flat_runC l j hj2)
    rw [addr_add] at h1
    exact ⟨h1, World.ownsRow.frozenAt h _⟩
  rcases h.2 with ⟨rfl, h0⟩ | ⟨g, cap, cur, rfl, hbg, hg, hnc, hcm, hcs, htake⟩
  · have h1 : l = [] := List.eq_nil_of_length_eq_zero h0
    subst h1
    refine (AnyF.slices_SortFunc_none Try.sortR none 0 _ w).mono ?_
    rintro e w' ⟨he, rfl⟩
    exact ⟨he, [], List.Perm.refl _, List.Pairwise.nil, h, grown_refl _ _⟩
  · have hH : HoldsK encR 2 w g 0 l.toArray := fun j hj => by
      have h1 := hcells j hj g cap rfl
      exact ⟨h1.1, h1.2⟩
    have hcon := AnyQ.slices_SortFunc (P := Try.prog) Try.sortR 2 Try.isAgg66 Try.sizeOf66 encR (fun _ => rfl) encR_one cmpR swoR 75 #[] g 0 cap l.toArray w (enters_of Try.func75 (by kernel_rfl) rfl)
      (cmpLaysR g 0 l.toArray.size w) hH (Array.getElem?_eq_some_iff.1 hg).1 (by simp; omega)
    rw [show l.toArray.size = l.length from List.size_toArray] at hcon
    change Calls Try.prog 74 _ _ _ at hcon
    refine hcon.mono ?_
    rintro e w' ⟨he, d, n, os, hp, hsd, rfl⟩
    have hds : d.size = l.length := by have := hp.1; simpa using this
    have hperm : d.toList.Perm l := by
      have := hp.2.2
      rw [show d.extract 0 l.length = d from by rw [← hds]; simp] at this
      simpa using this
    have hlen : d.toList.length = l.length := hperm.length_eq
    have R := row_sorted hg n d os
    refine ⟨he, d.toList, hperm, ?_, ⟨runC_len _, Or.inr ⟨g, cap, _, by rw [hlen], hbg, R.1, by rw [hlen]; exact hnc, hcm, ?_, ?_⟩⟩, R.2⟩
    · rw [List.pairwise_iff_getElem]
      intro i j hi hj hij
      have h1 := hsd i j (Nat.zero_le _) hij (by rw [← hlen]; exact hj)
      rw [ltR] at h1
      have e1 : d[i]! = d.toList[i] := by rw [getElem!_pos d i (by simpa using hi)]; simp
      have e2 : d[j]! = d.toList[j] := by rw [getElem!_pos d j (by simpa using hj)]; simp
      rw [e1, e2] at h1
      have h2 := of_decide_eq_false h1
      omega
    · unfold putCells; rw [Array.size_mapIdx]; exact hcs
    · have e3 : (flatK encR 2 d).size = d.toList.length * 2 := by simp
      rw [← e3, put_take _ _ (by rw [e3, hlen, hcs]; exact Nat.mul_le_mul_right _ hnc)]
      have := flat_all d.toList
      simpa using this

def OrdPost (l : List (Int × Int)) (w : World) (e : Ending) (w' : World) : Prop :=
  ∃ s u, e = .returned u ∧ s.Perm l ∧ s.Pairwise (fun a b => a.1 ≤ b.1) ∧ OwnRuns w.heap.size s u w' ∧ Below w.heap.size w w'

set_option maxRecDepth 100000 in
theorem ordered_any (l : List (Int × Int)) (v : Value) (w : World) (h : RunsAt l v w) (hs : l.length ≤ 1048576) :
    Calls Try.prog 61 #[v] w (OrdPost l w) := by
  have C := rclone_any v l hs w h
  obtain ⟨p, c, rfl, -, -⟩ := h.out
  obtain ⟨n, hn⟩ : ∃ n, n = l.length := ⟨_, rfl⟩
  rw [← hn] at C ⊢
  rw [← hn] at hs
  have HN := Lib.hid hn
  clear h hn
  go_enter Try.func61, Try.ntmps61
  go_wp2_with fail
  refine C.mono ?_
  rintro e w1 ⟨v1, rfl, ho1, hb1⟩
  have S := rsort_any w.heap.size l (by rw [← HN.out]; exact hs) v1 w1 ho1
  have l1 := World.ownsRow.lt ho1
  clear ho1 C
  go_wp2_with fail
  refine S.mono ?_
  rintro e w2 ⟨rfl, s, hp, hpw, ho2, hg2⟩
  have hb2 : Below w.heap.size w w2 := hb1.grown hg2 hb1.size (fun k hk => (l1 k hk).1)
  clear S hg2 hb1
  go_wp2
  go_ret
  exact ⟨s, _, rfl, hp, hpw, ho2, hb2⟩

end Go.Proofs.Ytppbknlhknadbaa
namespace Go.Proofs.Ytppbknlhknadbaa
open Go.RowKit

section
variable {P : Program} {ops : Array Oper} {C : World → Prop} {Q : Exit → Act → World → Prop}

/-- Every operation waits for earlier ones alone, and its guard is an earlier one's. -/
def backB (ops : Array Oper) : Bool :=
  (List.range ops.size).all fun j => match ops[j]? with
    | some o => o.after.all (fun e => !Region.binds .any e || decide (e.on < j)) && (match o.guard with | some (k, _) => decide (k < j) | none => true)
    | none => true
theorem backB_spec (h : backB ops = true) {j : Nat} {o : Oper} (ho : ops[j]? = some o) : (∀ e ∈ o.after, Region.binds .any e = true → e.on < j) ∧ ∀ k b, o.guard = some (k, b) → k < j := by
  have h1 := List.all_eq_true.1 h j (List.mem_range.2 (Array.getElem?_eq_some_iff.1 ho).1)
  simp only [ho, Bool.and_eq_true] at h1
  refine ⟨fun e he hb => ?_, fun k b hg => ?_⟩
  · have h2 := Array.all_eq_true_iff_forall_mem.1 h1.1 e he
    simpa [hb] using h2
  · have h2 := h1.2
    rw [hg] at h2
    simpa using h2

/-- Where something has not come up, something may. -/
theorem ready_some (h : backB ops = true) {listed : Array Bool} (hs : listed.size = ops.size) : ∀ (j : Nat), j < ops.size → listed.getD j true = false → ∃ i, i ≤ j ∧ i ∈ Region.ready .any ops listed := by
  intro j
  induction j using Nat.strongRecOn with
  | _ j ih =>
    intro hj hun
    have ho : ops[j]? = some ops[j] := Array.getElem?_eq_getElem hj
    by_cases hall : ∀ e ∈ ops[j].after, Region.binds .any e = true → listed.getD e.on false = true
    · exact ⟨j, Nat.le_refl _, mem_ready.2 ⟨hun, _, ho, hall⟩⟩
    · simp only [Classical.not_forall] at hall
      obtain ⟨e, he, hb, hn⟩ := hall
      have hlt := (backB_spec h ho).1 e he hb
      obtain ⟨i, hi, hr⟩ := ih e.on hlt (by omega) (getD_in (by omega) (by simpa using hn))
      exact ⟨i, by omega, hr⟩

theorem wpAny_more (n : Nat) : ∀ (f : Nat) (listed : Array Bool) (a : Act) (w : World), wpAny P .any ops Q f listed a w → wpAny P .any ops Q (f + n) listed a w := by
  induction n with
  | zero => exact fun _ _ _ _ h => h
  | succ n ih =>
    have one : ∀ (f : Nat) (listed : Array Bool) (a : Act) (w : World), wpAny P .any ops Q f listed a w → wpAny P .any ops Q (f + 1) listed a w := by
      intro f
      induction f with
      | zero => exact fun _ _ _ h => ⟨fun _ => h.2, fun i hi => by rw [h.1] at hi; cases hi⟩
      | succ f ihf => exact fun _ _ _ h => ⟨h.1, fun i hi => wpOp_mono (fun _ _ => ihf _ _ _) (h.2 i hi)⟩
    exact fun f listed a w h => one _ _ _ _ (ih f listed a w h)

/-- The first n have come up, all others not. -/
def upTo (n g : Nat) : Array Bool := Array.replicate n true ++ Array.replicate g false

theorem wpAny_quiet_tail {n : Nat} {hd : Array Oper} {tl : List Oper} (hh : ∀ j, j < n → hd[j]? = ops[j]?) (hhs : hd.size = n) (hn : n < ops.size) (hb : backB ops = true)
    (hs : Region.sinkB .any ops n = true) (hc : Region.chainB .any ops n = true) (hq : Region.seqB .any ops tl.length n (upTo n (ops.size - n)) = true) (htl : ∀ j, tl[j]? = ops[n + j]?) :
    ∀ (f : Nat) (listed lh : Array Bool) (a : Act) (w : World), C w → HeadInv .any ops n listed → lh.size = n → (∀ j, j < n → lh[j]? = listed[j]?) →
    wpAnyQ P .any hd C (fun a' => ∀ w', C w' → wpList P ops Q tl a' w') f lh a → wpAny P .any ops Q (f + tl.length) listed a w := by
  have hready : ∀ (listed lh : Array Bool), HeadInv .any ops n listed → lh.size = n → (∀ j, j < n → lh[j]? = listed[j]?) → ∀ i, i < n → (i ∈ Region.ready .any ops listed ↔ i ∈ Region.ready .any hd lh) := by
    intro listed lh inv hls hl i hi
    have hg : ∀ j d, j < n → lh.getD j d = listed.getD j d := fun j d hj => by
      rw [Array.getD_eq_getD_getElem?, Array.getD_eq_getD_getElem?, hl j hj]
    rw [mem_ready, mem_ready, hg i true hi]
    constructor
    · rintro ⟨h1, o, ho, h2⟩
      refine ⟨h1, o, (hh i hi).trans ho, fun e he hbd => ?_⟩
      rw [hg e.on false (Nat.lt_trans ((backB_spec hb ho).1 e he hbd) hi)]
      exact h2 e he hbd
    · rintro ⟨h1, o, ho, h2⟩
      have ho' := (hh i hi).symm.trans ho
      refine ⟨h1, o, ho', fun e he hbd => ?_⟩
      rw [← hg e.on false (Nat.lt_trans ((backB_spec hb ho').1 e he hbd) hi)]
      exact h2 e he hbd
  have hend : ∀ (f : Nat) (listed lh : Array Bool) (a : Act) (w : World), HeadInv .any ops n listed → lh.size = n → (∀ j, j < n → lh[j]? = listed[j]?) → Region.ready .any hd lh = [] → wpList P ops Q tl a w → wpAny P .any ops Q (f + tl.length) listed a w := by
    intro f listed lh a w inv hls hl hr hw
    have hall : ∀ i, i < n → listed.getD i true = true := fun i hi => by
      cases e : listed.getD i true with
      | true => rfl
      | false =>
        obtain ⟨k, hk, hk2⟩ := ready_some hb inv.size i (by omega) e
        rw [hready listed lh inv hls hl k (by omega), hr] at hk2
        cases hk2
    have hup : listed = upTo n (ops.size - n) := by
      have hsz := inv.size
      apply Array.ext_getElem?
      intro i
      unfold upTo
      by_cases h1 : i < ops.size
      · have hls1 : i < listed.size := by omega
        rw [Array.getElem?_eq_getElem hls1]
        by_cases hi : i < n
        · have := hall i hi
          have e1 : listed[i] = true := by simpa [hls1] using this
          rw [e1, Array.getElem?_append_left (by simpa using hi), Array.getElem?_replicate, if_pos hi]
        · have := inv.tail i (by omega) (by omega)
          have e1 : listed[i] = false := by simpa [hls1] using this
          rw [e1, Array.getElem?_append_right (by simp; omega), Array.getElem?_replicate, if_pos (by simp; omega)]
      · rw [Array.getElem?_eq_none (by omega), Array.getElem?_eq_none (by simp; omega)]
    rw [Nat.add_comm]
    refine wpAny_more f _ _ _ _ ?_
    rw [hup]
    exact wpAny_of_seq tl n _ a w htl hq hw
  intro f
  induction f with
  | zero =>
    intro listed lh a w hC inv hls hl h
    exact hend 0 listed lh a w inv hls hl h.1 (h.2 w hC)
  | succ f ih =>
    intro listed lh a w hC inv hls hl h
    by_cases hr : Region.ready .any hd lh = []
    · exact hend (f + 1) listed lh a w inv hls hl hr (h.1 hr w hC)
    · obtain ⟨i0, hi0⟩ := List.exists_mem_of_ne_nil _ hr
      have hlt0 : i0 < n := by
        obtain ⟨_, o, ho, _⟩ := mem_ready.1 hi0
        rw [← hhs]; exact (Array.getElem?_eq_some_iff.1 ho).1
      have hi0' := (hready listed lh inv hls hl i0 hlt0).2 hi0
      rw [show f + 1 + tl.length = f + tl.length + 1 by omega]
      refine ⟨fun h0 => (by rw [h0] at hi0'; cases hi0'), fun i hi => ?_⟩
      have hin : i < n := by
        rcases Nat.lt_or_ge i n with h1 | h1
        · exact h1
        · exact absurd hi (tail_waits hs hc hn inv _ i0 rfl hlt0 (mem_ready.1 hi0').1 i h1)
      have hq1 := h.2 i ((hready listed lh inv hls hl i hin).1 hi)
      obtain ⟨_, o, ho, _⟩ := mem_ready.1 hi
      have ho' : hd[i]? = some o := (hh i hin).trans ho
      have hy : Region.wanted o (yielded hd a.tmps) = Region.wanted o (yielded ops a.tmps) := by
        cases hg : o.guard with
        | none => unfold Region.wanted; simp only [hg]
        | some kb =>
          obtain ⟨k, b⟩ := kb
          have hk := (backB_spec hb ho).2 k b hg
          have : yielded hd a.tmps k = yielded ops a.tmps k := by unfold yielded; rw [hh k (by omega)]
          unfold Region.wanted; simp only [hg, this]
      have next : ∀ a' w', C w' → wpAnyQ P .any hd C (fun a' => ∀ w', C w' → wpList P ops Q tl a' w') f (lh.setIfInBounds i true) a' → wpAny P .any ops Q (f + tl.length) (listed.setIfInBounds i true) a' w' := fun a' w' hC' h' =>
        ih _ _ a' w' hC' (inv.set hi hin) (by simpa using hls) (fun j hj => by
          rw [Array.getElem?_setIfInBounds, Array.getElem?_setIfInBounds, hl j hj, hls, inv.size, if_pos hin, if_pos (show i < ops.size by omega)]) h'
      unfold qOp at hq1
      unfold wpOp
      simp only [ho', ho, hy] at hq1 ⊢
      split
      · rename_i hw
        rw [if_pos hw] at hq1
        exact Or.inl (Oper.wp_of_quiet hC next hq1)
      · rename_i hw
        rw [if_neg hw] at hq1
        exact next _ _ hC hq1

/-- THE LAW. What is asked of the region as a whole is reckoned (four times 'by kernel_rfl'). -/
theorem wp_region_quiet_tail {id : Nat} {a : Act} {w : World} {l : List Oper} (n : Nat) (hm : P.follows .mixedOrders = true)
    (hn : n < l.length) (hb : backB l.toArray = true) (hs : (Region.sinkB .any l.toArray n && Region.chainB .any l.toArray n && Region.seqB .any l.toArray (l.drop n).length n (upTo n (l.length - n)) && Region.lexB .any (l.take n).toArray) = true)
    (hC : C { w with drawn := w.drawn + 1 })
    (h : wpQuiet P (l.take n).toArray C (fun a' => ∀ w', C w' → wpList P l.toArray Q (l.drop n) a' w') (l.take n) a) : (Code.region id l.toArray true).wp P Q a w := by
  simp only [Bool.and_eq_true] at hs
  obtain ⟨⟨⟨h1, h2⟩, h3⟩, h4⟩ := hs
  simp only [Region.lexB, Bool.and_eq_true] at h4
  have htk : (l.take n).length = n := by simp; omega
  have hq := wpAnyQ_lex (C := C) (md := .any) h4.1 (l.take n) 0 (Array.replicate (l.take n).toArray.size false) a (by simp) (by simpa using h4.2) h
  rw [htk] at hq
  have inv0 : HeadInv .any l.toArray n (Array.replicate l.toArray.size false) :=
    ⟨by simp, fun j oj _ hl => (by rw [getD_replicate_false] at hl; cases hl), fun t _ ht => getD_in (by simpa using ht) (getD_replicate_false _ _)⟩
  have hA := wpAny_quiet_tail (C := C) (Q := Q) (P := P) (ops := l.toArray) (n := n) (hd := (l.take n).toArray) (tl := l.drop n) (fun j hj => by simp [hj]) (by simpa using htk) (by simpa using hn) hb h1 h2 (by simpa using h3) (fun j => by simp [List.getElem?_drop])
    n (Array.replicate l.toArray.size false) (Array.replicate (l.take n).toArray.size false) a { w with drawn := w.drawn + 1 } hC inv0 (by simpa using htk) (fun j hj => by
      rw [Array.getElem?_replicate, Array.getElem?_replicate, if_pos (by simp; omega), if_pos (by simp; omega)]) hq
  refine wp_region_any hm ?_
  have e : n + (l.drop n).length = l.toArray.size := by simp; omega
  rw [e] at hA
  exact hA
end

/-- The same at the class 'all that was stands'. -/
theorem wp_region_kept_tail {P : Program} {Q : Exit → Act → World → Prop} {id : Nat} {a : Act} {w : World} {l : List Oper} (n : Nat) (hm : P.follows .mixedOrders = true)
    (hn : n < l.length) (hb : backB l.toArray = true) (hs : (Region.sinkB .any l.toArray n && Region.chainB .any l.toArray n && Region.seqB .any l.toArray (l.drop n).length n (upTo n (l.length - n)) && Region.lexB .any (l.take n).toArray) = true)
    (h : wpQuiet P (l.take n).toArray (Kept w) (fun a' => ∀ w', Kept w w' → wpList P l.toArray Q (l.drop n) a' w') (l.take n) a) : (Code.region id l.toArray true).wp P Q a w :=
  wp_region_quiet_tail n hm hn hb hs (below_drewN (Below.refl _ w) 1) h

end Go.Proofs.Ytppbknlhknadbaa
namespace Go.Proofs.Ytppbknlhknadbaa
open Go.RowKit

theorem below_setRow {B : Nat} {w w' : World} (h : Below B w w') (g : Nat) (cs : Array Value) (hg : B ≤ g) : Below B w (w'.setRow g cs) :=
  ⟨h.os, h.tape, h.output, by simpa using h.size, fun i hi => (setRow_other w' g i cs (by omega)).trans (h.block i hi)⟩

/-- A row is stored, the world behind it by name. -/
theorem wpList_store_named {P : Program} {ops : Array Oper} {rest : List Oper} {o : Oper} {a : Act} {w : World} {Q : Exit → Act → World → Prop} (hgd : o.guard = none) (ty : TypeId) (x y : Operand) (ho : o.op = .store ty x y)
    (g : Nat) (X : Array Value) (hx : a.eval x = .pointer (some ⟨g, 0, none⟩)) (hy : a.eval y = .agg X) (t : TypeId) (old : Array Value) (hg : w.heap[g]? = some (.cells old t (0, 0))) (hi : (P.info? ty).map (·.size) = some X.size)
    (hold : old.size = X.size) (h1 : X.all (·.oneCell') = true) (W : World) (hW : W = w.setRow g X) (h : wpList P ops Q rest (a.put o.dst undef) W) : wpList P ops Q (o :: rest) a w := by
  subst hW
  exact wpList_store_row hgd ty x y ho g X hx hy t old hg hi hold h1 h

/-- The greater of two, in every world of the class. -/
theorem wpQuiet_maxI {P : Program} {ops : Array Oper} {C : World → Prop} {Q : Act → Prop} {a : Act} {o : Oper} {rest : List Oper} (hw : Region.wanted o (yielded ops a.tmps) = true) (x y : Operand) (t u : TypeId)
    (ho : o.op = .call { callee := .builtin .max, args := #[x, y], argTypes := #[t, u] }) (k k' : IntKind) (m n r : Int) (hx : a.eval x = .int k m) (hy : a.eval y = .int k' n) (hr : (if n > m then n else m) = r)
    (h : ∀ K : Act → Prop, (∀ a, wpQuiet P ops C Q rest a → K a) → K (a.put o.dst (.int k r))) : wpQuiet P ops C Q (o :: rest) a :=
  wpQuiet_pure hw _ (fun W _ => by
    subst hr
    unfold execOp
    simp only [ho, resolve, invoke, builtin, Sem.run_bind, Sem.run_pure, Result.andThen_ok, List.map_toArray, List.map_cons, List.map_nil, hx, hy, run_max_int2]) h

/-- The last run of a list that has one. -/
theorem snoc_of {P : List (Int × Int)} (h : P ≠ []) : ∃ P0 r, P = P0 ++ [r] := ⟨P.dropLast, P.getLast h, (List.dropLast_concat_getLast h).symm⟩
theorem runC_grow (P0 : List (Int × Int)) (x y z : Int) : (runC (P0 ++ [(x, y)])).set (P0.length * 2 + 1) (.int .i64 z) = runC (P0 ++ [(x, z)]) := by
  rw [runC_append, runC_append, List.set_append_right _ _ (by rw [runC_len]; omega), runC_len, show P0.length * 2 + 1 - P0.length * 2 = 1 by omega]
  rfl

set_option maxRecDepth 100000 in
set_option maxHeartbeats 8000000 in
theorem eplain_any (l : List (Int × Int)) (v : Value) (w : World) (h : RunsAt l v w) (hl : l.length ≤ 1048576) :
    Calls Try.prog 63 #[v] w fun e w' => ∃ u, e = .returned u ∧ OwnRuns w.heap.size (runsA (hasR l)) u w' ∧ Below w.heap.size w w' := by
  obtain ⟨ir, hir, hx⟩ := Option.map_eq_some_iff.1 infoRun
  simp only [Prod.mk.injEq] at hx
  obtain ⟨hz0, hz1, hz2⟩ := hx
  have HIR := Lib.hid hir
  have HZ0 := Lib.hid hz0
  have HZ1 := Lib.hid hz1
  have HZ2 := Lib.hid hz2
  have HFI : Hid ((Try.prog.info? 66).map (·.size) = some 2) := Lib.hid (by rw [hir]; simp [hz1])
  have OR := ordered_any l v w h hl
  have HWL := Lib.hid h.wf
  obtain ⟨p, c, rfl, -, -⟩ := h.out
  obtain ⟨nl, hnl⟩ : ∃ nl, nl = l.length := ⟨_, rfl⟩
  rw [← hnl] at OR hl ⊢
  have HNL := Lib.hid hnl
  clear hir hz0 hz1 hz2 h hnl
  go_enter Try.func63, Try.ntmps63
  go_wp2_with fail
  refine OR.mono ?_
  rintro e w1 ⟨s, u, rfl, hp, hpw, ho, hb1⟩
  obtain ⟨pu, cu, rfl, hcu, hcell⟩ := own_slice ho
  have HPW := Lib.hid hpw
  have HPM := Lib.hid hp
  have HC := Lib.hid hcell
  have HB1 := Lib.hid hb1
  have HWS : Hid (wfR s) := Lib.hid (fun r hr => HWL.out r (hp.mem_iff.1 hr))
  have hsl := hp.length_eq
  obtain ⟨n, hn⟩ : ∃ n, n = s.length := ⟨_, rfl⟩
  have HN := Lib.hid hn
  have hn8 : n ≤ 1048576 := by have := HNL.out; omega
  rw [← hn] at hcu ⊢
  have P0 : Hid (PInv s 0 []) := Lib.hid (PInv.zero s)
  have O0 : Hid (w1.ownsRow w1.heap.size 66 2 (.slice none 0 0) ([] : List (Int × Int)).length (runC [])) := Lib.hid (World.ownsRow_nil _ _ _ _)
  have K0 : Hid (Kept w1 w1) := Lib.hid (Kept.refl w1)
  clear OR hp hpw ho hcell hb1 hsl hn
  go_wp2
  go_loopg [3, 10] n (fun gh s3 s10 wx => ∃ (i : Nat) (P : List (Int × Int)), i + gh = n ∧ s10 = .int .i64 i ∧ Hid (PInv s i P) ∧ Hid (wx.ownsRow w1.heap.size 66 2 s3 P.length (runC P)) ∧ Hid (Kept w1 wx))
  case atStart => exact ⟨0, [], by omega, rfl, P0, O0, K0⟩
  case round =>
    clear P0 O0 K0
    obtain ⟨i, P, hi, rfl, HP, HO, HK⟩ := hrel
    obtain ⟨i1, hi1⟩ : ∃ i1, i1 = i + 1 := ⟨_, rfl⟩
    have v1 : IntKind.i64.wrap ((i : Int) + 1) = (i1 : Int) := by rw [show (i : Int) + 1 = (i1 : Int) by omega]; exact IntWalk.i64_in _ (by omega)
    obtain ⟨pv, cv, hv, hcv, -⟩ := own_slice HO.out
    subst hv
    by_cases hin : i < n
    · have hki : (i : Int) < n := by omega
      have bk : decide ((i : Int) < (n : Int)) = true := by simpa using hki
      have hki0 : (0 : Int) ≤ i := by omega
      have hil : i < s.length := by rw [← HN.out]; exact hin
      rcases HC.out with h0 | ⟨g, rfl, hgb, hcell⟩
      · have := HN.out; omega
      have hgc := runC_get s i hil
      have d1 := HK.out.cell (hcell _ _ hgc.1)
      have d2 := HK.out.cell (hcell _ _ hgc.2)
      have hw := HWS.out _ (List.getElem_mem hil)
      have HSK : Hid ((cropI s[i]).2 = 0 → PInv s i1 P) := Lib.hid (fun h0 => by rw [hi1]; exact HP.out.skip hil h0)
      have HGR : Hid (∀ P0 x y, P = P0 ++ [(x, y)] → (cropI s[i]).2 ≠ 0 → (cropI s[i]).1 ≤ x + y → PInv s i1 (P0 ++ [(x, max (x + y) ((cropI s[i]).1 + (cropI s[i]).2) - x)])) := Lib.hid (fun P0 x y he h0 h1 => by
        rw [hi1]; exact PInv.grow (by rw [← he]; exact HP.out) hil h0 h1)
      have HAD : Hid ((cropI s[i]).2 ≠ 0 → (∀ p ∈ P, p.1 + p.2 < (cropI s[i]).1) → PInv s i1 (P ++ [cropI s[i]])) := Lib.hid (fun h0 h1 => by rw [hi1]; exact HP.out.add hil HPW.out h0 h1)
      have hbd := crop_bound s[i]
      obtain ⟨r, hr⟩ : ∃ r, r = s[i] := ⟨_, rfl⟩
      rw [← hr] at d1 d2 hw HSK HGR HAD hbd
      obtain ⟨a, m⟩ := r
      have CR := fun W => cropped_any a m hw.1 hw.2 W
      obtain ⟨c1, hc1⟩ : ∃ c1, c1 = (cropI (a, m)).1 := ⟨_, rfl⟩
      obtain ⟨c2, hc2⟩ : ∃ c2, c2 = (cropI (a, m)).2 := ⟨_, rfl⟩
      have hcc : cropI (a, m) = (c1, c2) := by rw [hc1, hc2]
      rw [hcc] at HAD
      rw [← hc1, ← hc2] at CR HGR hbd
      rw [← hc2] at HSK
      have HBD := Lib.hid hbd
      obtain ⟨b0, hb0⟩ : ∃ b0, b0 = wr.heap.size := ⟨_, rfl⟩
      have HB0 := Lib.hid hb0
      have g0 : Hid ((wr.alloc (.cells #[.int .i64 a, .int .i64 m] 66)).heap[b0]? = some (.cells #[.int .i64 a, .int .i64 m] 66 (0, 0))) := Lib.hid (by rw [hb0]; exact heap_alloc_last wr _)
      clear hgc hw hr hbd hc1 hc2 hcc hil hcell hgb hb0
      go_wp2_with fail
      refine (CR _).mono ?_
      rintro e w2 ⟨rfl, hb2⟩
      have r0 := Kept.row hb2 g0.out
      obtain ⟨W3, hW3⟩ : ∃ W3, W3 = w2.setRow b0 #[.int .i64 c1, .int .i64 c2] := ⟨_, rfl⟩
      have r3 : W3.heap[b0]? = some (.cells #[.int .i64 c1, .int .i64 c2] 66 (0, 0)) := by rw [hW3]; exact setRow_heap _ _ _ _ _ _ r0
      have K3 : Kept wr W3 := by
        rw [hW3]
        exact below_setRow (Below.then' (box_below wr _) hb2 (by simp)) _ _ (by rw [HB0.out]; exact Nat.le_refl _)
      have HS := Lib.hid hW3
      have HR0 := Lib.hid r0
      have HR3 := Lib.hid r3
      have HX0 : Hid ((Try.prog.info? 66).map (·.size) = some (#[Value.int .i64 c1, Value.int .i64 c2] : Array Value).size) := Lib.hid HFI.out
      have HX1 : Hid ((#[Value.int .i64 a, Value.int .i64 m] : Array Value).size = (#[Value.int .i64 c1, Value.int .i64 c2] : Array Value).size) := Lib.hid rfl
      have HX2 : Hid ((#[Value.int .i64 c1, Value.int .i64 c2] : Array Value).all (·.oneCell') = true) := Lib.hid (by simp [Value.oneCell'])
      have q1 : W3.cell? ⟨b0, 0, none⟩ = some (.int .i64 c1) := by rw [cell_of_row _ _ _ _ _ _ r3]; rfl
      have q2 : W3.cell? ⟨b0, 1, none⟩ = some (.int .i64 c2) := by rw [cell_of_row _ _ _ _ _ _ r3]; rfl
      have HK3 : Hid (Kept w1 W3) := Lib.hid (HK.out.then K3)
      have HKW := Lib.hid K3
      have HO3 : Hid (W3.ownsRow w1.heap.size 66 2 (.slice pv P.length cv) P.length (runC P)) := Lib.hid (own_stay HO.out (fun j hj => K3.block j (HO.out.lt j hj).2))
      have hb0s : Hid (wr.heap.size ≤ b0) := Lib.hid (by rw [HB0.out]; exact Nat.le_refl _)
      rw [← HB0.out]
      have HLEN : Hid (P.length ≤ 8192) := Lib.hid HP.out.len
      have HPLN : Hid (PlainL P) := Lib.hid HP.out.pl
      clear CR hb2 hW3 r0 r3 K3 HO g0 HP
      by_cases h0 : c2 = 0
      · have HP2 := Lib.hid (HSK.out h0)
        subst h0
        have HO4 := HO3
        obtain ⟨np, hnp⟩ : ∃ np, np = P.length := ⟨_, rfl⟩
        rw [← hnp] at HO3 ⊢
        have HNP := Lib.hid hnp
        clear hnp HSK HGR HAD q1 HPLN HLEN
        go_wp2_with (with_reducible refine wpList_store_named rfl _ _ _ rfl b0 #[.int .i64 c1, .int .i64 0] rfl rfl 66 _ HR0.out HX0.out HX1.out HX2.out W3 HS.out ?_)
        go_roundg (n - i1)
        case measure => omega
        case rel => exact ⟨i1, P, by omega, by first | rfl | (congr 1; omega), HP2, by rw [HNP.out]; exact HO4, HK3⟩
      · have bz : (c2 == (0 : Int)) = false := beq_eq_false_iff_ne.2 h0
        have HH0 := Lib.hid h0
        clear h0 HSK
        have HLP : Hid (P.length ≤ 8192) := HLEN
        by_cases hPn : P = []
        · have HPA : Hid (PInv s i1 (P ++ [(c1, c2)])) := Lib.hid (HAD.out HH0.out (fun p hp => by rw [hPn] at hp; cases hp))
          have hnp0 : P.length = 0 := by rw [hPn]; rfl
          have hpl : runC P = runC P := rfl
          obtain ⟨np, hnp⟩ : ∃ np, np = P.length := ⟨_, rfl⟩
          rw [← hnp] at HO3 hnp0 ⊢
          have HNP := Lib.hid hnp
          subst hnp0
          have v2 : IntKind.i64.wrap ((0 : Int) - 1) = -1 := rfl
          clear hnp hPn HAD HGR hpl HLP HLEN HPLN
          go_wp2_with (with_reducible refine wpList_store_named rfl _ _ _ rfl b0 #[.int .i64 c1, .int .i64 c2] rfl rfl 66 _ HR0.out HX0.out HX1.out HX2.out W3 HS.out ?_)
          refine wp_region_kept (by kernel_rfl) (by kernel_rfl) ?_
          refine wpQuiet_pure (v := ?_) (by kernel_rfl) ?_ (fun K hK => ?_)
          case refine_2 => intro W _; go_simp; try with_reducible rfl
          go_simp
          refine hK _ ?_; clear hK K
          refine wpQuiet_pure (by kernel_rfl) (.bool false) (fun W _ => by go_simp) (fun K hK => ?_)
          go_simp
          refine hK _ ?_; clear hK K
          refine wpQuiet_pure (v := ?_) (by kernel_rfl) ?_ (fun K hK => ?_)
          case refine_2 => intro W _; go_simp; try with_reducible rfl
          go_simp
          refine hK _ ?_; clear hK K
          go_big_quiet_skip
          go_big_quiet_skip
          go_big_quiet_skip
          go_big_quiet_skip
          go_big_quiet_skip
          go_big_quiet_skip
          go_big_quiet_skip
          go_big_quiet_skip
          refine wpQuiet_pure (v := ?_) (by kernel_rfl) ?_ (fun K hK => ?_)
          case refine_2 => intro W _; go_simp; try with_reducible rfl
          go_simp
          refine hK _ ?_; clear hK K
          refine wpQuiet_nil ?_
          intro w4 hk4

          have ho4 := own_stay HO3.out (fun j hj => hk4.block j (HO3.out.lt j hj).2)
          have HK4 := HK3.out.then hk4
          have q3 := hk4.cell q1
          have q4 := hk4.cell q2
          clear hk4 q1 q2
          have HOA : Hid ((w4.alloc (.cells #[.int .i64 c1, .int .i64 c2] 66)).ownsRow w1.heap.size 66 2 (.slice pv 0 cv) 0 (runC P)) := Lib.hid (ho4.alloc _)
          have HFN : Hid (FlatAt 2 1 [.int .i64 c1, .int .i64 c2] (.slice (some ⟨w4.heap.size, 0, none⟩) 1 1) (w4.alloc (.cells #[.int .i64 c1, .int .i64 c2] 66))) := Lib.hid (FlatAt.new w4 66 2 1 1 #[.int .i64 c1, .int .i64 c2] rfl (by intro x hx; simp at hx; rcases hx with rfl | rfl <;> rfl))
          have HKS : Hid (w1.heap.size ≤ w4.heap.size) := Lib.hid HK4.size
          have HEND : Hid (∀ v2 w5, w5.ownsRow w1.heap.size 66 2 v2 (0 + 1) (runC P ++ [.int .i64 c1, .int .i64 c2]) → (w4.alloc (.cells #[.int .i64 c1, .int .i64 c2] 66)).grownBy w5 (Value.slice pv 0 cv).ownBlock →
              Hid (w5.ownsRow w1.heap.size 66 2 v2 (P ++ [(c1, c2)]).length (runC (P ++ [(c1, c2)]))) ∧ Hid (Kept w1 w5)) := Lib.hid (fun v2 w5 h1 h2 => ⟨Lib.hid (by
                rw [List.length_append, runC_append, ← HNP.out]; exact h1), Lib.hid ((HK4.then (box_below w4 _)).grown h2 (Nat.le_trans HKS.out (by simp)) (fun j hj => (ho4.lt j hj).1))⟩)
          clear ho4
          go_wp2_with (at_builtin; refine wpList_append_flat rfl _ _ 22 rfl w1.heap.size 66 ir (.agg #[.int .i64 0, .int .i64 0]) 2 16 Try.underlying22 HIR.out HZ0.out HZ1.out HZ2.out rfl (by decide) _ 0 _ rfl HOA.out _ 1 _ rfl HFN.out ?wa1 ?wa2 ?wa3 ?_)
          case wa1 => unfold maxLen; omega
          case wa2 => omega
          try case wa3 => have := HKS.out; first | omega | (simp; omega)
          intro v2 w5 hown2 hgr2 _
          obtain ⟨HO5, HK5⟩ := HEND.out v2 w5 hown2 hgr2
          clear hown2 hgr2
          go_wp2
          go_roundg (n - i1)
          case measure => omega
          case rel => exact ⟨i1, P ++ [(c1, c2)], by omega, by first | rfl | (congr 1; omega), HPA, HO5, HK5⟩
        · obtain ⟨P0, ⟨x, y⟩, hPe⟩ := snoc_of hPn
          subst hPe
          have hxy := HPLN.out.nat (x, y) (by simp)
          simp only at hxy
          have hxy1 := hxy.1
          have hxy2 := hxy.2.1
          have hxy3 := hxy.2.2
          obtain ⟨m, hm⟩ : ∃ m, m = P0.length := ⟨_, rfl⟩
          obtain ⟨np, hnp⟩ : ∃ np, np = (P0 ++ [(x, y)]).length := ⟨_, rfl⟩
          have hnm : np = m + 1 := by rw [hnp, hm]; simp
          have ho := HO3.out
          have hml : m < (P0 ++ [(x, y)]).length := by rw [← hnp]; omega
          have hgc := runC_get (P0 ++ [(x, y)]) m hml
          have hlast : (P0 ++ [(x, y)])[m] = (x, y) := by simp [hm]
          rw [hlast] at hgc
          rcases ho.2 with ⟨_, e0⟩ | ⟨gp, cap, cur, hve, hbg, hgg, _, _, _, _⟩
          · simp at e0
          simp only [Value.slice.injEq] at hve
          obtain ⟨rfl, -, rfl⟩ := hve
          have e1 : W3.cell? ⟨gp, m * 2, none⟩ = some (.int .i64 x) := by rw [ho.cellAt (m * 2) (by rw [← hnp]; omega)]; exact hgc.1
          have e2 : W3.cell? ⟨gp, m * 2 + 1, none⟩ = some (.int .i64 y) := by rw [ho.cellAt (m * 2 + 1) (by rw [← hnp]; omega)]; exact hgc.2
          have HF2 : Hid (∀ W, Kept W3 W → W.frozen? ⟨gp, m * 2 + 1, none⟩ = false) := Lib.hid (fun W k => (own_stay ho (fun j hj => k.block j (ho.lt j hj).2)).frozenAt _)
          have hnp8 : np ≤ 8192 := by rw [hnp]; exact HLP.out
          have v2 : IntKind.i64.wrap ((np : Int) - 1) = (m : Int) := by rw [show (np : Int) - 1 = (m : Int) by omega]; exact IntWalk.i64_in _ (by omega)
          have i3 : (0 : Int) ≤ m := by omega
          have i4 : (m : Int) < np := by omega
          obtain ⟨z, hz⟩ : ∃ z, z = x + y := ⟨_, rfl⟩
          have EN := fun W => eend_any x y ⟨by omega, by omega⟩ W
          rw [← hz] at EN
          have hbd1 := HBD.out.1
          have hbd2 := HBD.out.2.1
          have hbd3 := HBD.out.2.2
          rw [← hnp] at ho ⊢
          have HO4 : Hid (W3.ownsRow w1.heap.size 66 2 (.slice (some ⟨gp, 0, none⟩) np cv) np (runC (P0 ++ [(x, y)]))) := Lib.hid ho
          have HNP := Lib.hid hnp
          have HZ := Lib.hid hz
          have HM := Lib.hid hm
          have HNM := Lib.hid hnm
          have HBG := Lib.hid hbg
          clear hxy hnp hnm ho hml hgc hlast hgg hPn HO3 hm hz hbg
          by_cases ht : c1 ≤ z
          · have bt : decide (c1 ≤ z) = true := decide_eq_true ht
            obtain ⟨zc, hzc⟩ : ∃ zc, zc = c1 + c2 := ⟨_, rfl⟩
            have EC := fun W => eend_any c1 c2 ⟨by omega, by omega⟩ W
            rw [← hzc] at EC
            obtain ⟨mx, hmx⟩ : ∃ mx, mx = max z zc := ⟨_, rfl⟩
            have hmr : Hid ((if zc > z then zc else z) = mx) := Lib.hid (by split <;> omega)
            obtain ⟨nl2, hnl2⟩ : ∃ nl2, nl2 = mx - x := ⟨_, rfl⟩
            have v3 : IntKind.i64.wrap (mx - x) = nl2 := by rw [hnl2]; exact IntWalk.i64_in _ (by have := HZ.out; omega)
            have HPB : Hid (PInv s i1 (P0 ++ [(x, nl2)])) := Lib.hid (by
              have := HGR.out P0 x y rfl HH0.out (by rw [← HZ.out]; exact ht)
              rw [hnl2, hmx, HZ.out, hzc]
              exact this)
            have HSET := Lib.hid (runC_grow P0 x y nl2)
            have HLL : Hid (np = (P0 ++ [(x, nl2)]).length) := Lib.hid (by rw [HNP.out]; simp)
            clear HGR HAD HPLN hzc hmx hnl2 HNP HLP HLEN
            go_wp2_with (with_reducible refine wpList_store_named rfl _ _ _ rfl b0 #[.int .i64 c1, .int .i64 c2] rfl rfl 66 _ HR0.out HX0.out HX1.out HX2.out W3 HS.out ?_)
            refine wp_region_kept (by kernel_rfl) (by kernel_rfl) ?_
            refine wpQuiet_pure (v := ?_) (by kernel_rfl) ?_ (fun K hK => ?_)
            case refine_2 => intro W _; go_simp; try with_reducible rfl
            go_simp
            refine hK _ ?_; clear hK K
            refine wpQuiet_pure (by kernel_rfl) (.bool true) (fun W _ => by go_simp) (fun K hK => ?_)
            go_simp
            refine hK _ ?_; clear hK K
            refine wpQuiet_pure (v := ?_) (by kernel_rfl) ?_ (fun K hK => ?_)
            case refine_2 => intro W _; go_simp; try with_reducible rfl
            go_simp
            refine hK _ ?_; clear hK K
            refine wpQuiet_pure (v := ?_) (by kernel_rfl) ?_ (fun K hK => ?_)
            case refine_2 => intro W _; go_simp; try with_reducible rfl
            go_simp
            refine hK _ ?_; clear hK K
            refine wpQuiet_pure (v := ?_) (by kernel_rfl) ?_ (fun K hK => ?_)
            case refine_2 => intro W hW; have e0 := hW.cell q1; go_simp; try with_reducible rfl
            go_simp
            refine hK _ ?_; clear hK K
            refine wpQuiet_pure (v := ?_) (by kernel_rfl) ?_ (fun K hK => ?_)
            case refine_2 => intro W _; go_simp; try with_reducible rfl
            go_simp
            refine hK _ ?_; clear hK K
            refine wpQuiet_pure (v := ?_) (by kernel_rfl) ?_ (fun K hK => ?_)
            case refine_2 => intro W _; go_simp; try with_reducible rfl
            go_simp
            refine hK _ ?_; clear hK K
            refine wpQuiet_pure (v := ?_) (by kernel_rfl) ?_ (fun K hK => ?_)
            case refine_2 => intro W _; go_simp; try with_reducible rfl
            go_simp
            refine hK _ ?_; clear hK K
            refine wpQuiet_pure (v := ?_) (by kernel_rfl) ?_ (fun K hK => ?_)
            case refine_2 => intro W hW; have e0 := hW.cell e1; have e1 := hW.cell e2; go_simp; try with_reducible rfl
            go_simp
            refine hK _ ?_; clear hK K
            refine wpQuiet_call (by kernel_rfl) _ _ _ (fun W => by go_simp) (fun W h => Calls.kept_of h (EN W)) (fun K hK => ?_)
            go_simp
            refine hK _ ?_; clear hK K
            refine wpQuiet_pure (v := ?_) (by kernel_rfl) ?_ (fun K hK => ?_)
            case refine_2 => intro W _; go_simp; try with_reducible rfl
            go_simp
            refine hK _ ?_; clear hK K
            refine wpQuiet_pure (v := ?_) (by kernel_rfl) ?_ (fun K hK => ?_)
            case refine_2 => intro W _; go_simp; try with_reducible rfl
            go_simp
            refine hK _ ?_; clear hK K
            refine wpQuiet_nil ?_
            intro w4 hk4

            have e3 := hk4.cell e1
            have e4 := hk4.cell e2
            have q3 := hk4.cell q1
            have q4 := hk4.cell q2
            have HK4 := Lib.hid hk4
            clear hk4 e1 e2 q1 q2
            go_wp2_with fail
            refine wp_region_kept_tail 18 (by kernel_rfl) (by decide) (by kernel_rfl) (by kernel_rfl) ?_
            simp only [List.take_succ_cons, List.take_zero, List.drop_succ_cons, List.drop_zero]
            refine wpQuiet_pure (v := ?_) (by kernel_rfl) ?_ (fun K hK => ?_)
            case refine_2 => intro W _; go_simp; try with_reducible rfl
            go_simp
            refine hK _ ?_; clear hK K
            refine wpQuiet_pure (v := ?_) (by kernel_rfl) ?_ (fun K hK => ?_)
            case refine_2 => intro W _; go_simp; try with_reducible rfl
            go_simp
            refine hK _ ?_; clear hK K
            refine wpQuiet_pure (v := ?_) (by kernel_rfl) ?_ (fun K hK => ?_)
            case refine_2 => intro W _; go_simp; try with_reducible rfl
            go_simp
            refine hK _ ?_; clear hK K
            refine wpQuiet_pure (v := ?_) (by kernel_rfl) ?_ (fun K hK => ?_)
            case refine_2 => intro W _; go_simp; try with_reducible rfl
            go_simp
            refine hK _ ?_; clear hK K
            refine wpQuiet_pure (v := ?_) (by kernel_rfl) ?_ (fun K hK => ?_)
            case refine_2 => intro W _; go_simp; try with_reducible rfl
            go_simp
            refine hK _ ?_; clear hK K
            refine wpQuiet_pure (v := ?_) (by kernel_rfl) ?_ (fun K hK => ?_)
            case refine_2 => intro W hW; have e0 := hW.cell e3; have e1 := hW.cell e4; go_simp; try with_reducible rfl
            go_simp
            refine hK _ ?_; clear hK K
            refine wpQuiet_call (by kernel_rfl) _ _ _ (fun W => by go_simp) (fun W h => Calls.kept_of h (EN W)) (fun K hK => ?_)
            go_simp
            refine hK _ ?_; clear hK K
            refine wpQuiet_pure (v := ?_) (by kernel_rfl) ?_ (fun K hK => ?_)
            case refine_2 => intro W hW; have e0 := hW.cell q3; have e1 := hW.cell q4; go_simp; try with_reducible rfl
            go_simp
            refine hK _ ?_; clear hK K
            refine wpQuiet_call (by kernel_rfl) _ _ _ (fun W => by go_simp) (fun W h => Calls.kept_of h (EC W)) (fun K hK => ?_)
            go_simp
            refine hK _ ?_; clear hK K
            refine wpQuiet_maxI (by kernel_rfl) _ _ _ _ rfl .i64 .i64 z zc mx rfl rfl hmr.out (fun K hK => ?_)
            go_simp
            refine hK _ ?_; clear hK K
            refine wpQuiet_pure (v := ?_) (by kernel_rfl) ?_ (fun K hK => ?_)
            case refine_2 => intro W _; go_simp; try with_reducible rfl
            go_simp
            refine hK _ ?_; clear hK K
            refine wpQuiet_pure (v := ?_) (by kernel_rfl) ?_ (fun K hK => ?_)
            case refine_2 => intro W _; go_simp; try with_reducible rfl
            go_simp
            refine hK _ ?_; clear hK K
            refine wpQuiet_pure (v := ?_) (by kernel_rfl) ?_ (fun K hK => ?_)
            case refine_2 => intro W _; go_simp; try with_reducible rfl
            go_simp
            refine hK _ ?_; clear hK K
            refine wpQuiet_pure (v := ?_) (by kernel_rfl) ?_ (fun K hK => ?_)
            case refine_2 => intro W _; go_simp; try with_reducible rfl
            go_simp
            refine hK _ ?_; clear hK K
            refine wpQuiet_pure (v := ?_) (by kernel_rfl) ?_ (fun K hK => ?_)
            case refine_2 => intro W hW; have e0 := hW.cell e3; go_simp; try with_reducible rfl
            go_simp
            refine hK _ ?_; clear hK K
            refine wpQuiet_pure (v := ?_) (by kernel_rfl) ?_ (fun K hK => ?_)
            case refine_2 => intro W _; go_simp; try with_reducible rfl
            go_simp
            refine hK _ ?_; clear hK K
            refine wpQuiet_pure (v := ?_) (by kernel_rfl) ?_ (fun K hK => ?_)
            case refine_2 => intro W _; go_simp; try with_reducible rfl
            go_simp
            refine hK _ ?_; clear hK K
            refine wpQuiet_pure (v := ?_) (by kernel_rfl) ?_ (fun K hK => ?_)
            case refine_2 => intro W _; go_simp; try with_reducible rfl
            go_simp
            refine hK _ ?_; clear hK K
            refine wpQuiet_nil ?_
            intro w5 hk5

            have f5 : w5.cell? ⟨gp, m * 2 + 1, none⟩ = some (.int .i64 y) := hk5.cell e4
            have HK5 := HK4.out.then hk5
            have g5 := HF2.out w5 HK5
            have ho5 := own_stay HO4.out (fun j hj => HK5.block j (HO4.out.lt j hj).2)
            have HO6 : Hid ((w5.setCell ⟨gp, m * 2 + 1, none⟩ (.int .i64 nl2)).ownsRow w1.heap.size 66 2 (.slice (some ⟨gp, 0, none⟩) np cv) (P0 ++ [(x, nl2)]).length (runC (P0 ++ [(x, nl2)]))) := Lib.hid (by
              rw [← HSET.out, ← HLL.out, ← HM.out]
              exact (ho5.stored (m * 2 + 1) _).1)
            have HK6 : Hid (Kept w1 (w5.setCell ⟨gp, m * 2 + 1, none⟩ (.int .i64 nl2))) := Lib.hid (Below.setCell (HK3.out.then HK5) HBG.out _)
            clear ho5 HK5 hk5 e3 e4 q3 q4
            go_wp2
            go_roundg (n - i1)
            case measure => omega
            case rel => exact ⟨i1, P0 ++ [(x, nl2)], by omega, by first | rfl | (congr 1; omega), HPB, HO6, HK6⟩
          · have HPA : Hid (PInv s i1 ((P0 ++ [(x, y)]) ++ [(c1, c2)])) := Lib.hid (HAD.out HH0.out (fun p hp => HPLN.out.gaps (by simp only; rw [← HZ.out]; omega) p hp))
            have bt : decide (c1 ≤ z) = false := decide_eq_false ht
            clear HGR HAD HPLN HLP HLEN HF2
            go_wp2_with (with_reducible refine wpList_store_named rfl _ _ _ rfl b0 #[.int .i64 c1, .int .i64 c2] rfl rfl 66 _ HR0.out HX0.out HX1.out HX2.out W3 HS.out ?_)
            refine wp_region_kept (by kernel_rfl) (by kernel_rfl) ?_
            refine wpQuiet_pure (v := ?_) (by kernel_rfl) ?_ (fun K hK => ?_)
            case refine_2 => intro W _; go_simp; try with_reducible rfl
            go_simp
            refine hK _ ?_; clear hK K
            refine wpQuiet_pure (by kernel_rfl) (.bool true) (fun W _ => by go_simp) (fun K hK => ?_)
            go_simp
            refine hK _ ?_; clear hK K
            refine wpQuiet_pure (v := ?_) (by kernel_rfl) ?_ (fun K hK => ?_)
            case refine_2 => intro W _; go_simp; try with_reducible rfl
            go_simp
            refine hK _ ?_; clear hK K
            refine wpQuiet_pure (v := ?_) (by kernel_rfl) ?_ (fun K hK => ?_)
            case refine_2 => intro W _; go_simp; try with_reducible rfl
            go_simp
            refine hK _ ?_; clear hK K
            refine wpQuiet_pure (v := ?_) (by kernel_rfl) ?_ (fun K hK => ?_)
            case refine_2 => intro W hW; have e0 := hW.cell q1; go_simp; try with_reducible rfl
            go_simp
            refine hK _ ?_; clear hK K
            refine wpQuiet_pure (v := ?_) (by kernel_rfl) ?_ (fun K hK => ?_)
            case refine_2 => intro W _; go_simp; try with_reducible rfl
            go_simp
            refine hK _ ?_; clear hK K
            refine wpQuiet_pure (v := ?_) (by kernel_rfl) ?_ (fun K hK => ?_)
            case refine_2 => intro W _; go_simp; try with_reducible rfl
            go_simp
            refine hK _ ?_; clear hK K
            refine wpQuiet_pure (v := ?_) (by kernel_rfl) ?_ (fun K hK => ?_)
            case refine_2 => intro W _; go_simp; try with_reducible rfl
            go_simp
            refine hK _ ?_; clear hK K
            refine wpQuiet_pure (v := ?_) (by kernel_rfl) ?_ (fun K hK => ?_)
            case refine_2 => intro W hW; have e0 := hW.cell e1; have e1 := hW.cell e2; go_simp; try with_reducible rfl
            go_simp
            refine hK _ ?_; clear hK K
            refine wpQuiet_call (by kernel_rfl) _ _ _ (fun W => by go_simp) (fun W h => Calls.kept_of h (EN W)) (fun K hK => ?_)
            go_simp
            refine hK _ ?_; clear hK K
            refine wpQuiet_pure (v := ?_) (by kernel_rfl) ?_ (fun K hK => ?_)
            case refine_2 => intro W _; go_simp; try with_reducible rfl
            go_simp
            refine hK _ ?_; clear hK K
            refine wpQuiet_pure (v := ?_) (by kernel_rfl) ?_ (fun K hK => ?_)
            case refine_2 => intro W _; go_simp; try with_reducible rfl
            go_simp
            refine hK _ ?_; clear hK K
            refine wpQuiet_nil ?_
            intro w4 hk4

            have ho4 := own_stay HO4.out (fun j hj => hk4.block j (HO4.out.lt j hj).2)
            have HK4 := HK3.out.then hk4
            have q3 := hk4.cell q1
            have q4 := hk4.cell q2
            clear hk4 q1 q2 e1 e2
            have HOA : Hid ((w4.alloc (.cells #[.int .i64 c1, .int .i64 c2] 66)).ownsRow w1.heap.size 66 2 (.slice (some ⟨gp, 0, none⟩) np cv) np (runC (P0 ++ [(x, y)]))) := Lib.hid (ho4.alloc _)
            have HFN : Hid (FlatAt 2 1 [.int .i64 c1, .int .i64 c2] (.slice (some ⟨w4.heap.size, 0, none⟩) 1 1) (w4.alloc (.cells #[.int .i64 c1, .int .i64 c2] 66))) := Lib.hid (FlatAt.new w4 66 2 1 1 #[.int .i64 c1, .int .i64 c2] rfl (by intro x hx; simp at hx; rcases hx with rfl | rfl <;> rfl))
            have HKS : Hid (w1.heap.size ≤ w4.heap.size) := Lib.hid HK4.size
            have HEND : Hid (∀ v2 w5, w5.ownsRow w1.heap.size 66 2 v2 (np + 1) (runC (P0 ++ [(x, y)]) ++ [.int .i64 c1, .int .i64 c2]) → (w4.alloc (.cells #[.int .i64 c1, .int .i64 c2] 66)).grownBy w5 (Value.slice (some ⟨gp, 0, none⟩) np cv).ownBlock →
                Hid (w5.ownsRow w1.heap.size 66 2 v2 ((P0 ++ [(x, y)]) ++ [(c1, c2)]).length (runC ((P0 ++ [(x, y)]) ++ [(c1, c2)]))) ∧ Hid (Kept w1 w5)) := Lib.hid (fun v2 w5 h1 h2 => ⟨Lib.hid (by
                  rw [List.length_append, runC_append, ← HNP.out]; exact h1), Lib.hid ((HK4.then (box_below w4 _)).grown h2 (Nat.le_trans HKS.out (by simp)) (fun j hj => (ho4.lt j hj).1))⟩)
            clear ho4
            go_wp2_with (at_builtin; refine wpList_append_flat rfl _ _ 22 rfl w1.heap.size 66 ir (.agg #[.int .i64 0, .int .i64 0]) 2 16 Try.underlying22 HIR.out HZ0.out HZ1.out HZ2.out rfl (by decide) _ np _ rfl HOA.out _ 1 _ rfl HFN.out ?wa1 ?wa2 ?wa3 ?_)
            case wa1 => unfold maxLen; omega
            case wa2 => omega
            try case wa3 => have := HKS.out; first | omega | (simp; omega)
            intro v2 w5 hown2 hgr2 _
            obtain ⟨HO5, HK5⟩ := HEND.out v2 w5 hown2 hgr2
            clear hown2 hgr2
            go_wp2
            go_roundg (n - i1)
            case measure => omega
            case rel => exact ⟨i1, (P0 ++ [(x, y)]) ++ [(c1, c2)], by omega, by first | rfl | (congr 1; omega), HPA, HO5, HK5⟩
    · have hki : ¬ (i : Int) < n := by omega
      have bk : decide ((i : Int) < (n : Int)) = false := by simpa using hki
      have hie : i = s.length := by rw [← HN.out]; omega
      have hpd := HP.out
      rw [hie] at hpd
      have hPe := hpd.done HPM.out
      have HE : Hid (OwnRuns w.heap.size (runsA (hasR l)) (.slice pv P.length cv) wr) := Lib.hid (by
        rw [← hPe]
        exact OwnRuns.base HO.out HB1.out.size)
      have HKE : Hid (Kept w wr) := Lib.hid ((show Kept w w1 from HB1.out).then HK.out)
      obtain ⟨np, hnp⟩ : ∃ np, np = P.length := ⟨_, rfl⟩
      rw [← hnp] at HE ⊢
      clear hie hpd hPe hnp
      go_wp2
      go_ret
      exact ⟨_, rfl, HE.out, HKE.out⟩

end Go.Proofs.Ytppbknlhknadbaa
namespace Go.Proofs.Ytppbknlhknadbaa
open Go.RowKit

/-- The gaps of a plain list, and the last one behind them. -/
def RInv (P : List (Int × Int)) (i : Nat) (a : Int) (G : List (Int × Int)) : Prop := (i ≤ P.length ∧ GInv P i a G) ∨ (i = P.length + 1 ∧ G = runsA (fun k => !hasR P k))
theorem RInv.step {P G : List (Int × Int)} {i : Nat} {a x y : Int} (hP : PlainL P) (h : RInv P i a G) (hi : i < (P ++ [((8192 : Int), (0 : Int))]).length) (hr : (P ++ [((8192 : Int), (0 : Int))])[i] = (x, y)) :
    (a < x → RInv P (i + 1) (x + y) (G ++ [(a, x - a)])) ∧ (¬ a < x → RInv P (i + 1) (x + y) G) ∧ 0 ≤ x ∧ 0 ≤ y ∧ x + y ≤ 8192 := by
  have hi2 : i < P.length + 1 := by simpa using hi
  rcases h with ⟨hle, hG⟩ | ⟨he, _⟩
  · by_cases hlt : i < P.length
    · rw [List.getElem_append_left hlt] at hr
      have hn := hG.next hP hlt
      rw [hr] at hn
      have hb := hP.nat _ (List.getElem_mem hlt)
      rw [hr] at hb
      simp only at hb
      exact ⟨fun h1 => Or.inl ⟨by omega, hn.1 h1⟩, fun h1 => Or.inl ⟨by omega, hn.2 h1⟩, by omega, by omega, by omega⟩
    · have hie : i = P.length := by omega
      subst hie
      rw [List.getElem_append_right (Nat.le_refl _)] at hr
      simp only [Nat.sub_self, List.getElem_cons_zero, Prod.mk.injEq] at hr
      obtain ⟨rfl, rfl⟩ := hr
      have hl := hG.last
      exact ⟨fun h1 => Or.inr ⟨rfl, hl.1 h1⟩, fun h1 => Or.inr ⟨rfl, hl.2 h1⟩, by omega, by omega, by omega⟩
  · omega
theorem RInv.len {P G : List (Int × Int)} {i : Nat} {a : Int} (h : RInv P i a G) : G.length ≤ 8192 := by
  rcases h with ⟨_, hG⟩ | ⟨_, hG⟩
  · rw [plain_runsA hG.pl fun _ _ => rfl]; exact runsA_len _
  · rw [hG]; exact runsA_len _

end Go.Proofs.Ytppbknlhknadbaa
