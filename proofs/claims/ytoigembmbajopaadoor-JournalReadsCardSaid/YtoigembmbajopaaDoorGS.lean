/- The document's Get: a text of 128 bytes. The document's Pick. The contracts of the program's calls, by name, whatever they are made of; superblocks in cells; few, the statements' example. The landed super's Need, Slot, lies, overlaps. The landed super's Check: validNumbers, validRuns. -/
import Derived.Test.YtoigembmbajopaaDoorGD
import Derived.Deep.LoopGhost
import Derived.Deep.CutBlock
import Derived.Test.YtoigembmbajopaaDoorGB
import Derived.Test.YtoigembmbajopaaDoorGC
namespace Go.Proofs.YtoigembmbajopaaDoor
open Go.RowKit

theorem run_flat_run (w : World) (a b : Int) : FlatAt 2 1 (runC [(a, b)]) (.slice (some ⟨w.heap.size, 0, none⟩) 1 1) (w.alloc (.cells #[.int .i64 a, .int .i64 b] 83)) :=
  FlatAt.new w 83 2 1 1 #[.int .i64 a, .int .i64 b] rfl (by intro x hx; simp at hx; rcases hx with rfl | rfl <;> rfl)
theorem infoRn : (Tryd.prog.info? 83).map (fun i => (i.zero, i.size, i.bytes)) = some (some (.agg #[.int .i64 0, .int .i64 0]), 2, 16) := by kernel_rfl


def rowB (q0 : Nat) (q1 q2 q3 q4 : Int) (tv : Value) : Array Value := #[.int .u64 q0, .int .i64 q1, .int .i64 q2, .int .i64 q3, .int .i64 q4, tv]
theorem set6_row {w : World} {g : Nat} {T : TypeId} {x0 x1 x2 x3 x4 x5 : Value} (h : w.heap[g]? = some (.cells #[x0, x1, x2, x3, x4, x5] T (0, 0))) (y0 y1 y2 y3 y4 y5 : Value) :
    ((((((w.setCell ⟨g, 0, none⟩ y0).setCell ⟨g, 1, none⟩ y1).setCell ⟨g, 2, none⟩ y2).setCell ⟨g, 3, none⟩ y3).setCell ⟨g, 4, none⟩ y4).setCell ⟨g, 5, none⟩ y5).heap[g]? = some (.cells #[y0, y1, y2, y3, y4, y5] T (0, 0)) :=
  heap_setCell_same _ _ _ _ _ _ (heap_setCell_same _ _ _ _ _ _ (heap_setCell_same _ _ _ _ _ _ (heap_setCell_same _ _ _ _ _ _ (heap_setCell_same _ _ _ _ _ _ (heap_setCell_same _ _ _ _ _ _ h)))))
theorem below_set6 {w0 w : World} {g : Nat} (h : Kept w0 w) (hg : w0.heap.size ≤ g) (y0 y1 y2 y3 y4 y5 : Value) :
    Kept w0 ((((((w.setCell ⟨g, 0, none⟩ y0).setCell ⟨g, 1, none⟩ y1).setCell ⟨g, 2, none⟩ y2).setCell ⟨g, 3, none⟩ y3).setCell ⟨g, 4, none⟩ y4).setCell ⟨g, 5, none⟩ y5) :=
  ButBy.kept (Bs := fun k => k = g) (((((((but_refl (fun k => k = g) w).setCell g 0 y0 rfl).setCell g 1 y1 rfl).setCell g 2 y2 rfl).setCell g 3 y3 rfl).setCell g 4 y4 rfl).setCell g 5 y5 rfl) (fun k hk => by rw [hk]; exact hg) h h.size

theorem own_set6 {w : World} {base g n : Nat} {T : TypeId} {v : Value} {xs : List Value} (h : w.ownsRow base T 2 v n xs) (hg : g < base) (y0 y1 y2 y3 y4 y5 : Value) :
    ((((((w.setCell ⟨g, 0, none⟩ y0).setCell ⟨g, 1, none⟩ y1).setCell ⟨g, 2, none⟩ y2).setCell ⟨g, 3, none⟩ y3).setCell ⟨g, 4, none⟩ y4).setCell ⟨g, 5, none⟩ y5).ownsRow base T 2 v n xs :=
  own_stay h fun m hm => by
    have hne : m ≠ g := by have := (h.lt m hm).1; omega
    rw [heap_setCell_other _ _ _ _ hne, heap_setCell_other _ _ _ _ hne, heap_setCell_other _ _ _ _ hne, heap_setCell_other _ _ _ _ hne, heap_setCell_other _ _ _ _ hne, heap_setCell_other _ _ _ _ hne]

theorem fieldN_two2 (t : List UInt8) (i a b : Nat) (ha : a = i) (hb : b = i + 1) (h : b < t.length) : fieldN t i 2 = (t[a]'(by omega)).toNat + 256 * t[b].toNat := by
  subst ha hb
  exact fieldN_two t a h

end Go.Proofs.YtoigembmbajopaaDoor
namespace Go.Proofs.YtoigembmbajopaaDoor
open Go.RowKit

theorem pick_y {A B : List UInt8} (h1 : (getS B).isSome = true) (h2 : (getD B).seq % 2 = 1) (h3 : ¬ (((getS A).isSome = true ∧ (getD A).seq % 2 = 0) ∧ (getD B).seq < (getD A).seq)) : (pickS A B).isSome = true ∧ pickD A B = getD B := by
  have e : pickS A B = getS B := by unfold pickS; rw [if_pos ⟨h1, h2, h3⟩]
  unfold pickD
  rw [e]
  exact ⟨h1, rfl⟩
theorem pick_x {A B : List UInt8} (h1 : (getS A).isSome = true) (h2 : (getD A).seq % 2 = 0) (h3 : ¬ ((getS B).isSome = true ∧ (getD B).seq % 2 = 1) ∨ (getD B).seq < (getD A).seq) : (pickS A B).isSome = true ∧ pickD A B = getD A := by
  have e : pickS A B = getS A := by
    unfold pickS
    rw [if_neg (fun y => h3.elim (fun z => z ⟨y.1, y.2.1⟩) (fun z => y.2.2 ⟨⟨h1, h2⟩, z⟩)), if_pos ⟨h1, h2⟩]
  unfold pickD
  rw [e]
  exact ⟨h1, rfl⟩
theorem pick_n {A B : List UInt8} (h1 : ¬ ((getS A).isSome = true ∧ (getD A).seq % 2 = 0)) (h2 : ¬ ((getS B).isSome = true ∧ (getD B).seq % 2 = 1)) : (pickS A B).isSome = false ∧ pickD A B = Sb.zero := by
  have e : pickS A B = none := by
    unfold pickS
    rw [if_neg (fun y => h2 ⟨y.1, y.2.1⟩), if_neg h1]
  unfold pickD
  rw [e]
  exact ⟨rfl, rfl⟩
theorem but_set6 (w : World) (g : Nat) (y0 y1 y2 y3 y4 y5 : Value) : ButBy (fun k => k = g) w ((((((w.setCell ⟨g, 0, none⟩ y0).setCell ⟨g, 1, none⟩ y1).setCell ⟨g, 2, none⟩ y2).setCell ⟨g, 3, none⟩ y3).setCell ⟨g, 4, none⟩ y4).setCell ⟨g, 5, none⟩ y5) :=
  ((((((but_refl (fun k => k = g) w).setCell g 0 y0 rfl).setCell g 1 y1 rfl).setCell g 2 y2 rfl).setCell g 3 y3 rfl).setCell g 4 y4 rfl).setCell g 5 y5 rfl

end Go.Proofs.YtoigembmbajopaaDoor
namespace Go.Proofs.YtoigembmbajopaaDoor
open Go.RowKit

def chkE (s : Sb) : Int := if mayS s then 0 else 1
def putV (s : Sb) : ByteArray := str (if mayS s then putS s else [])
def YNeedOk : Prop := ∀ (n : Int) (w : World), I64 n → Calls Tryd.prog 70 #[.int .i64 n] w fun e w' => e = .returned (.int .i64 (needN n)) ∧ Kept w w'
theorem RunsAt.sliced {l : List (Int × Int)} {v : Value} {w : World} (h : RunsAt l v w) : ∃ p n c, v = .slice p n c := by
  obtain ⟨p, c, e, -, -⟩ := h.out
  exact ⟨p, _, c, e⟩

def sb0S : Sb := ⟨5, 20, 3, 7, 130, [(9, 2)]⟩
theorem s0_may : maySP sb0S := by decide
theorem s0_wf : sb0S.wf := ⟨by decide, by decide, by decide, by decide, by decide⟩
theorem s0_put : mayS sb0S = true := decide_eq_true s0_may
theorem s0_get : getS (putS sb0S) = some sb0S := getS_putS s0_may s0_wf
theorem s0_pick : pickE [] (putS sb0S) = 0 ∧ pickD [] (putS sb0S) = sb0S := by
  have h := pick_y (A := []) (B := putS sb0S) (by rw [s0_get]; rfl) (by unfold getD; rw [s0_get]; rfl) (fun y => by
    have : getS [] = none := by unfold getS; rw [if_neg (fun z => absurd z.1 (by decide))]
    rw [this] at y; simp at y)
  refine ⟨by unfold pickE; rw [if_pos h.1], ?_⟩
  rw [h.2]
  unfold getD
  rw [s0_get]
  rfl
theorem zero_may : mayS Sb.zero = false := decide_eq_false (fun h => absurd h.seq (by decide))

end Go.Proofs.YtoigembmbajopaaDoor
namespace Go.Proofs.YtoigembmbajopaaDoor
open Go.RowKit

theorem need_any (n : Int) (hn : -9223372036854775808 ≤ n ∧ n ≤ 9223372036854775807) (w : World) :
    Calls Tryd.prog 70 #[.int .i64 n] w fun e w' => e = .returned (.int .i64 (needN n)) ∧ w = w' := by
  by_cases h1 : n < 1
  · have e1 : needN n = 0 := if_pos h1
    rw [e1]
    go_enter Tryd.func70, Tryd.ntmps70
    go_wp2
    go_ret
    exact ⟨rfl, rfl⟩
  · have e1 : needN n = (n - 1) / 128 + 1 := if_neg h1
    obtain ⟨d, hd⟩ : ∃ d, d = n - 1 := ⟨_, rfl⟩
    have hd0 : 0 ≤ d ∧ d ≤ 9223372036854775806 := by omega
    have v1 : IntKind.i64.wrap (n - 1) = d := by rw [← hd]; exact IntWalk.i64_in _ (by omega)
    have v2 : IntKind.i64.wrap (d.tdiv 128) = d / 128 := by rw [Int.tdiv_eq_ediv_of_nonneg hd0.1]; exact IntWalk.i64_in _ (by omega)
    have v3 : IntKind.i64.wrap (d / 128 + 1) = d / 128 + 1 := IntWalk.i64_in _ (by omega)
    have v4 : IntKind.i64.wrap (d / 128) = d / 128 := IntWalk.i64_in _ (by omega)
    rw [e1, ← hd]
    have V5 : Hid (wrap64 (wrap64 (d.tdiv 128) + 1) = d / 128 + 1) := Lib.hid (by rw [← IntWalk.i64_left, ← IntWalk.i64_left, v2, v3])
    clear hd hd0 v2 v3 v4
    go_enter Tryd.func70, Tryd.ntmps70
    go_wp2
    go_ret
    exact ⟨congrArg (fun z => Ending.returned (Value.int .i64 z)) V5.out, rfl⟩
theorem needOk : YNeedOk := fun n w hn => (need_any n hn w).mono fun _ _ ⟨a, b⟩ => ⟨a, b ▸ Kept.refl _⟩

/-- Two runs that share a sector. -/
def meetR (r o : Int × Int) : Bool := decide (r.1 < o.1 + o.2) && decide (o.1 < r.1 + r.2)
/-- Numbers whose sums are numbers. -/
def smallR (r : Int × Int) : Prop := (-100000 ≤ r.1 ∧ r.1 ≤ 100000) ∧ (-100000 ≤ r.2 ∧ r.2 ≤ 100000)

def IdxS (l : List (Int × Int)) (q : Int × Int → Bool) (w : World) (e : Ending) (w' : World) : Prop :=
  ∃ i : Int, e = .returned (.int .i64 i) ∧ decide (i ≥ 0) = l.any q ∧ Below w.heap.size w w'

end Go.Proofs.YtoigembmbajopaaDoor
namespace Go.Proofs.YtoigembmbajopaaDoor
open Go.RowKit

theorem infoRnS : (Tryd.prog.info? 83).map (·.size) = some 2 := by kernel_rfl

def numP (s : Sb) : Prop := 1 ≤ s.seq ∧ (4 ≤ s.sec ∧ s.sec ≤ 8192) ∧ (1 ≤ s.jou ∧ s.jou ≤ s.sec - 2) ∧ (0 ≤ s.use ∧ s.use ≤ s.jou * 128) ∧ (0 ≤ s.siz ∧ s.siz ≤ 1048576)
instance (s : Sb) : Decidable (numP s) := by unfold numP; infer_instance
def runsP (s : Sb) : Prop := s.runs.length ≤ 16 ∧ validL (2 + s.jou) s.sec s.runs ∧ sumR s.runs = needN s.siz
instance (s : Sb) : Decidable (runsP s) := by unfold runsP; infer_instance
theorem maySP_two (s : Sb) : maySP s ↔ numP s ∧ runsP s :=
  ⟨fun h => ⟨⟨h.seq, h.sec, h.jou, h.use, h.siz⟩, h.len, h.runs, h.sum⟩, fun ⟨⟨a, b, c, d, e⟩, f, g, h⟩ => ⟨a, b, c, d, e, f, g, h⟩⟩

theorem RunsAt.takeN {l : List (Int × Int)} {p : Option Addr} {n c : Nat} {w : World} (h : RunsAt l (.slice p n c) w) (k : Nat) (hk : k ≤ n) : RunsAt (l.take k) (.slice p k c) w := by
  obtain ⟨p', c', he, hcap, -⟩ := h.out
  simp only [Value.slice.injEq] at he
  obtain ⟨rfl, rfl, rfl⟩ := he
  obtain ⟨hl, h1, p', c', he, hc⟩ := h.at_
  simp only [Value.slice.injEq] at he
  obtain ⟨rfl, -, rfl⟩ := he
  have hlt : (l.take k).length = k := by rw [List.length_take]; omega
  have := RunsAt.of_cells (l := l.take k) (w := w) (wfR_take h.wf k) p c (by omega) (by
    rcases hc with h0 | ⟨b, off, rfl, hcell⟩
    · exact Or.inl (by omega)
    · exact Or.inr ⟨b, off, rfl, fun j x hx => hcell j x (by
        rw [runC_take, List.getElem?_take] at hx
        split at hx
        · exact hx
        · cases hx)⟩)
  rw [hlt] at this
  exact this

theorem getD_at {l : List (Int × Int)} {k : Nat} (h : k < l.length) : l.getD k (0, 0) = l[k] := by rw [List.getD_eq_getElem?_getD, List.getElem?_eq_getElem h]; rfl
theorem small_of_fit {fr te : Int} (hf : 0 ≤ fr) (ht : te ≤ 8192) {r : Int × Int} (h : fitR fr te r) : smallR r := by
  unfold fitR at h; unfold smallR; omega
theorem small_of_valid {fr te : Int} {l : List (Int × Int)} {k : Nat} (hf : 0 ≤ fr) (ht : te ≤ 8192) (hk : k ≤ l.length) (h : validK fr te l k) : ∀ o ∈ l.take k, smallR o := by
  intro o ho
  obtain ⟨i, hi, rfl⟩ := List.mem_iff_getElem.1 ho
  rw [List.length_take] at hi
  have hv := (h i (by omega)).1
  rw [getD_at (by omega)] at hv
  rw [List.getElem_take]
  exact small_of_fit hf ht hv
theorem valid_step {fr te : Int} {l : List (Int × Int)} {k : Nat} (hk : k < l.length) (h : validK fr te l k) (hf : fitR fr te l[k]) (ha : (l.take k).any (meetR l[k]) = false) : validK fr te l (k + 1) := by
  intro j hj
  by_cases hjk : j < k
  · exact h j hjk
  · obtain rfl : j = k := by omega
    rw [getD_at hk]
    refine ⟨hf, fun i hi => ?_⟩
    rw [List.any_eq_false] at ha
    have hil : i < l.length := by omega
    have hm := ha l[i] (List.mem_iff_getElem.2 ⟨i, by rw [List.length_take]; omega, List.getElem_take⟩)
    rw [getD_at hil]
    have hi1 := (h i hi).1
    rw [getD_at hil] at hi1
    have hov := over_iff l[j].1 l[j].2 l[i].1 l[i].2 hf.2.1 hi1.2.1
    have hn : ¬ (l[j].1 < l[i].1 + l[i].2 ∧ l[i].1 < l[j].1 + l[j].2) := by
      intro x
      apply hm
      unfold meetR
      rw [decide_eq_true x.1, decide_eq_true x.2]
      rfl
    have hno := fun x => hn (hov.1 x)
    exact ⟨fun x => hno (Or.inl x), fun x => hno (Or.inr x)⟩
theorem valid_not {fr te : Int} {l : List (Int × Int)} {k : Nat} (hk : k < l.length) (ha : (l.take k).any (meetR l[k]) = true) : ¬ validL fr te l := by
  intro h
  obtain ⟨o, ho, hm⟩ := List.any_eq_true.1 ha
  obtain ⟨i, hi, rfl⟩ := List.mem_iff_getElem.1 ho
  rw [List.length_take] at hi
  rw [List.getElem_take] at hm
  have hil : i < l.length := by omega
  have h1 := h k hk
  have h2 := (h i hil).1
  have h3 := h1.2 i (by omega)
  have hfk := h1.1
  rw [getD_at hk, getD_at hil] at h3
  rw [getD_at hk] at hfk
  rw [getD_at hil] at h2
  have hov := (over_iff l[k].1 l[k].2 l[i].1 l[i].2 hfk.2.1 h2.2.1).2 (by
    unfold meetR at hm
    rw [Bool.and_eq_true, decide_eq_true_eq, decide_eq_true_eq] at hm
    exact hm)
  rcases hov with x | x
  · exact h3.1 x
  · exact h3.2 x

end Go.Proofs.YtoigembmbajopaaDoor
