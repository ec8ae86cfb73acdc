/- A region that draws its order whose head leaves all that was (a class of worlds) and whose last operations, one behind another, wait for all of the head: one walk of the head in its written order, then the tail. -/
import Derived.Test.YtaajadmaamjebaaGen
import Derived.StillTail
import Derived.Deep.Quiet
namespace Go.Proofs.Ytaajadmaamjebaa
open Go.RowKit

section
variable {P : Program} {ops : Array Oper} {C : World → Prop} {Q : Exit → Act → World → Prop}

/-- Every operation waits for earlier ones alone, and its guard is an earlier one's. -/
def backB (ops : Array Oper) : Bool :=
  (List.range ops.size).all fun j => match ops[j]? with
    | some o => o.after.all (fun e => !Region.binds .any e || decide (e.on < j)) && (match o.guard with | some (k, _) => decide (k < j) | none => true)
    | none => true
theorem backB_spec (h : backB ops = true) {j : Nat} {o : Oper} (ho : ops[j]? = some o) : (∀ e ∈ o.after, Region.binds .any e = true → e.on < j) ∧ ∀ k b, o.guard = some (k, b) → k < j := by
  have h1 := List.all_eq_true.1 h j (List.mem_range.2 (Array.getElem?_eq_some_iff.1 ho).1)
  simp only [ho, Bool.and_eq_true] at h1
  refine ⟨fun e he hb => ?_, fun k b hg => ?_⟩
  · have h2 := Array.all_eq_true_iff_forall_mem.1 h1.1 e he
    simpa [hb] using h2
  · have h2 := h1.2
    rw [hg] at h2
    simpa using h2

/-- Where something has not come up, something may. -/
theorem ready_some (h : backB ops = true) {listed : Array Bool} (hs : listed.size = ops.size) : ∀ (j : Nat), j < ops.size → listed.getD j true = false → ∃ i, i ≤ j ∧ i ∈ Region.ready .any ops listed := by
  intro j
  induction j using Nat.strongRecOn with
  | _ j ih =>
    intro hj hun
    have ho : ops[j]? = some ops[j] := Array.getElem?_eq_getElem hj
    by_cases hall : ∀ e ∈ ops[j].after, Region.binds .any e = true → listed.getD e.on false = true
    · exact ⟨j, Nat.le_refl _, mem_ready.2 ⟨hun, _, ho, hall⟩⟩
    · simp only [Classical.not_forall] at hall
      obtain ⟨e, he, hb, hn⟩ := hall
      have hlt := (backB_spec h ho).1 e he hb
      obtain ⟨i, hi, hr⟩ := ih e.on hlt (by omega) (getD_in (by omega) (by simpa using hn))
      exact ⟨i, by omega, hr⟩

theorem wpAny_more (n : Nat) : ∀ (f : Nat) (listed : Array Bool) (a : Act) (w : World), wpAny P .any ops Q f listed a w → wpAny P .any ops Q (f + n) listed a w := by
  induction n with
  | zero => exact fun _ _ _ _ h => h
  | succ n ih =>
    have one : ∀ (f : Nat) (listed : Array Bool) (a : Act) (w : World), wpAny P .any ops Q f listed a w → wpAny P .any ops Q (f + 1) listed a w := by
      intro f
      induction f with
      | zero => exact fun _ _ _ h => ⟨fun _ => h.2, fun i hi => by rw [h.1] at hi; cases hi⟩
      | succ f ihf => exact fun _ _ _ h => ⟨h.1, fun i hi => wpOp_mono (fun _ _ => ihf _ _ _) (h.2 i hi)⟩
    exact fun f listed a w h => one _ _ _ _ (ih f listed a w h)

/-- The first n have come up, all others not. -/
def upTo (n g : Nat) : Array Bool := Array.replicate n true ++ Array.replicate g false

theorem wpAny_quiet_tail {n : Nat} {hd : Array Oper} {tl : List Oper} (hh : ∀ j, j < n → hd[j]? = ops[j]?) (hhs : hd.size = n) (hn : n < ops.size) (hb : backB ops = true)
    (hs : Region.sinkB .any ops n = true) (hc : Region.chainB .any ops n = true) (hq : Region.seqB .any ops tl.length n (upTo n (ops.size - n)) = true) (htl : ∀ j, tl[j]? = ops[n + j]?) :
    ∀ (f : Nat) (listed lh : Array Bool) (a : Act) (w : World), C w → HeadInv .any ops n listed → lh.size = n → (∀ j, j < n → lh[j]? = listed[j]?) →
    wpAnyQ P .any hd C (fun a' => ∀ w', C w' → wpList P ops Q tl a' w') f lh a → wpAny P .any ops Q (f + tl.length) listed a w := by
  have hready : ∀ (listed lh : Array Bool), HeadInv .any ops n listed → lh.size = n → (∀ j, j < n → lh[j]? = listed[j]?) → ∀ i, i < n → (i ∈ Region.ready .any ops listed ↔ i ∈ Region.ready .any hd lh) := by
    intro listed lh inv hls hl i hi
    have hg : ∀ j d, j < n → lh.getD j d = listed.getD j d := fun j d hj => by
      rw [Array.getD_eq_getD_getElem?, Array.getD_eq_getD_getElem?, hl j hj]
    rw [mem_ready, mem_ready, hg i true hi]
    constructor
    · rintro ⟨h1, o, ho, h2⟩
      refine ⟨h1, o, (hh i hi).trans ho, fun e he hbd => ?_⟩
      rw [hg e.on false (Nat.lt_trans ((backB_spec hb ho).1 e he hbd) hi)]
      exact h2 e he hbd
    · rintro ⟨h1, o, ho, h2⟩
      have ho' := (hh i hi).symm.trans ho
      refine ⟨h1, o, ho', fun e he hbd => ?_⟩
      rw [← hg e.on false (Nat.lt_trans ((backB_spec hb ho').1 e he hbd) hi)]
      exact h2 e he hbd
  have hend : ∀ (f : Nat) (listed lh : Array Bool) (a : Act) (w : World), HeadInv .any ops n listed → lh.size = n → (∀ j, j < n → lh[j]? = listed[j]?) → Region.ready .any hd lh = [] → wpList P ops Q tl a w → wpAny P .any ops Q (f + tl.length) listed a w := by
    intro f listed lh a w inv hls hl hr hw
    have hall : ∀ i, i < n → listed.getD i true = true := fun i hi => by
      cases e : listed.getD i true with
      | true => rfl
      | false =>
        obtain ⟨k, hk, hk2⟩ := ready_some hb inv.size i (by omega) e
        rw [hready listed lh inv hls hl k (by omega), hr] at hk2
        cases hk2
    have hup : listed = upTo n (ops.size - n) := by
      have hsz := inv.size
      apply Array.ext_getElem?
      intro i
      unfold upTo
      by_cases h1 : i < ops.size
      · have hls1 : i < listed.size := by omega
        rw [Array.getElem?_eq_getElem hls1]
        by_cases hi : i < n
        · have := hall i hi
          have e1 : listed[i] = true := by simpa [hls1] using this
          rw [e1, Array.getElem?_append_left (by simpa using hi), Array.getElem?_replicate, if_pos hi]
        · have := inv.tail i (by omega) (by omega)
          have e1 : listed[i] = false := by simpa [hls1] using this
          rw [e1, Array.getElem?_append_right (by simp; omega), Array.getElem?_replicate, if_pos (by simp; omega)]
      · rw [Array.getElem?_eq_none (by omega), Array.getElem?_eq_none (by simp; omega)]
    rw [Nat.add_comm]
    refine wpAny_more f _ _ _ _ ?_
    rw [hup]
    exact wpAny_of_seq tl n _ a w htl hq hw
  intro f
  induction f with
  | zero =>
    intro listed lh a w hC inv hls hl h
    exact hend 0 listed lh a w inv hls hl h.1 (h.2 w hC)
  | succ f ih =>
    intro listed lh a w hC inv hls hl h
    by_cases hr : Region.ready .any hd lh = []
    · exact hend (f + 1) listed lh a w inv hls hl hr (h.1 hr w hC)
    · obtain ⟨i0, hi0⟩ := List.exists_mem_of_ne_nil _ hr
      have hlt0 : i0 < n := by
        obtain ⟨_, o, ho, _⟩ := mem_ready.1 hi0
        rw [← hhs]; exact (Array.getElem?_eq_some_iff.1 ho).1
      have hi0' := (hready listed lh inv hls hl i0 hlt0).2 hi0
      rw [show f + 1 + tl.length = f + tl.length + 1 by omega]
      refine ⟨fun h0 => (by rw [h0] at hi0'; cases hi0'), fun i hi => ?_⟩
      have hin : i < n := by
        rcases Nat.lt_or_ge i n with h1 | h1
        · exact h1
        · exact absurd hi (tail_waits hs hc hn inv _ i0 rfl hlt0 (mem_ready.1 hi0').1 i h1)
      have hq1 := h.2 i ((hready listed lh inv hls hl i hin).1 hi)
      obtain ⟨_, o, ho, _⟩ := mem_ready.1 hi
      have ho' : hd[i]? = some o := (hh i hin).trans ho
      have hy : Region.wanted o (yielded hd a.tmps) = Region.wanted o (yielded ops a.tmps) := by
        cases hg : o.guard with
        | none => unfold Region.wanted; simp only [hg]
        | some kb =>
          obtain ⟨k, b⟩ := kb
          have hk := (backB_spec hb ho).2 k b hg
          have : yielded hd a.tmps k = yielded ops a.tmps k := by unfold yielded; rw [hh k (by omega)]
          unfold Region.wanted; simp only [hg, this]
      have next : ∀ a' w', C w' → wpAnyQ P .any hd C (fun a' => ∀ w', C w' → wpList P ops Q tl a' w') f (lh.setIfInBounds i true) a' → wpAny P .any ops Q (f + tl.length) (listed.setIfInBounds i true) a' w' := fun a' w' hC' h' =>
        ih _ _ a' w' hC' (inv.set hi hin) (by simpa using hls) (fun j hj => by
          rw [Array.getElem?_setIfInBounds, Array.getElem?_setIfInBounds, hl j hj, hls, inv.size, if_pos hin, if_pos (show i < ops.size by omega)]) h'
      unfold qOp at hq1
      unfold wpOp
      simp only [ho', ho, hy] at hq1 ⊢
      split
      · rename_i hw
        rw [if_pos hw] at hq1
        exact Or.inl (Oper.wp_of_quiet hC next hq1)
      · rename_i hw
        rw [if_neg hw] at hq1
        exact next _ _ hC hq1

/-- THE LAW. What is asked of the region as a whole is reckoned (four times 'by kernel_rfl'). -/
theorem wp_region_quiet_tail {id : Nat} {a : Act} {w : World} {l : List Oper} (n : Nat) (hm : P.follows .mixedOrders = true)
    (hn : n < l.length) (hb : backB l.toArray = true) (hs : (Region.sinkB .any l.toArray n && Region.chainB .any l.toArray n && Region.seqB .any l.toArray (l.drop n).length n (upTo n (l.length - n)) && Region.lexB .any (l.take n).toArray) = true)
    (hC : C { w with drawn := w.drawn + 1 })
    (h : wpQuiet P (l.take n).toArray C (fun a' => ∀ w', C w' → wpList P l.toArray Q (l.drop n) a' w') (l.take n) a) : (Code.region id l.toArray true).wp P Q a w := by
  simp only [Bool.and_eq_true] at hs
  obtain ⟨⟨⟨h1, h2⟩, h3⟩, h4⟩ := hs
  simp only [Region.lexB, Bool.and_eq_true] at h4
  have htk : (l.take n).length = n := by simp; omega
  have hq := wpAnyQ_lex (C := C) (md := .any) h4.1 (l.take n) 0 (Array.replicate (l.take n).toArray.size false) a (by simp) (by simpa using h4.2) h
  rw [htk] at hq
  have inv0 : HeadInv .any l.toArray n (Array.replicate l.toArray.size false) :=
    ⟨by simp, fun j oj _ hl => (by rw [getD_replicate_false] at hl; cases hl), fun t _ ht => getD_in (by simpa using ht) (getD_replicate_false _ _)⟩
  have hA := wpAny_quiet_tail (C := C) (Q := Q) (P := P) (ops := l.toArray) (n := n) (hd := (l.take n).toArray) (tl := l.drop n) (fun j hj => by simp [hj]) (by simpa using htk) (by simpa using hn) hb h1 h2 (by simpa using h3) (fun j => by simp [List.getElem?_drop])
    n (Array.replicate l.toArray.size false) (Array.replicate (l.take n).toArray.size false) a { w with drawn := w.drawn + 1 } hC inv0 (by simpa using htk) (fun j hj => by
      rw [Array.getElem?_replicate, Array.getElem?_replicate, if_pos (by simp; omega), if_pos (by simp; omega)]) hq
  refine wp_region_any hm ?_
  have e : n + (l.drop n).length = l.toArray.size := by simp; omega
  rw [e] at hA
  exact hA
end

/-- The same at the class 'all that was stands'. -/
theorem wp_region_kept_tail {P : Program} {Q : Exit → Act → World → Prop} {id : Nat} {a : Act} {w : World} {l : List Oper} (n : Nat) (hm : P.follows .mixedOrders = true)
    (hn : n < l.length) (hb : backB l.toArray = true) (hs : (Region.sinkB .any l.toArray n && Region.chainB .any l.toArray n && Region.seqB .any l.toArray (l.drop n).length n (upTo n (l.length - n)) && Region.lexB .any (l.take n).toArray) = true)
    (h : wpQuiet P (l.take n).toArray (Kept w) (fun a' => ∀ w', Kept w w' → wpList P l.toArray Q (l.drop n) a' w') (l.take n) a) : (Code.region id l.toArray true).wp P Q a w :=
  wp_region_quiet_tail n hm hn hb hs (below_drewN (Below.refl _ w) 1) h

end Go.Proofs.Ytaajadmaamjebaa
