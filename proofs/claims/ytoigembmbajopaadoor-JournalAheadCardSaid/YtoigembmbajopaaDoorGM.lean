/- What a call does to both disks: the statements' text and does, out of a disk's contract. Rows of cells that came in; of no program. Acts and truths as arguments. Runs as arguments. Records, lists of lists of them, and cases as arguments. -/
import Derived.Test.YtoigembmbajopaaDoorGK
import Derived.OpenShut
import Derived.Test.YtoigembmbajopaaDoorGA
import Derived.ChangeSlices
import Derived.Test.YtoigembmbajopaaDoorGB
import Derived.Test.YtoigembmbajopaaDoorGL
import Derived.Lib.SmallJoins
namespace Go.Proofs.YtoigembmbajopaaDoor
open Go.RowKit Go.ChangeShapes

def actA (kd i : Int) (t : ByteArray) (f : Bool) (kv : Value) : Array Value := #[.int .i64 kd, .int .i64 i, .string t, .bool f, kv]
/-- What an act writes. -/
def actT (t : ByteArray) (f : Bool) : ByteArray := if f then str (secT t.data.toList) else t
theorem actT_size (t : ByteArray) (f : Bool) (h : t.size ≤ maxLen) : (actT t f).size ≤ maxLen := by
  unfold actT
  split
  · rw [str_size, secT_len]; decide
  · exact h

/-- Both disks, of the same state, apart in memory. -/
structure Pair (B Br g : Nat) (P : Dk → (Nat → Prop) → World → Prop) (s : Dk) (Bs : Nat → Prop) (vs vw : Value) (w : World) : Prop where
  d : P s Bs w
  r : RAt Br g s vs vw w
  apart : ∀ k, Bs k → ¬ RBs g vs vw k
  base : Br ≤ w.heap.size
  lt : ∀ k, Bs k → B ≤ k ∧ k < w.heap.size
  ok : s.ok

/-- The blocks that both lie in. -/
def PBs (Bs : Nat → Prop) (g : Nat) (vs vw : Value) (k : Nat) : Prop := Bs k ∨ RBs g vs vw k

def PairPost (B Br g : Nat) (P : Dk → (Nat → Prop) → World → Prop) (s' : Dk) (Bs : Nat → Prop) (vs vw ret : Value) (w : World) (e : Ending) (w' : World) : Prop :=
  e = .returned ret ∧ (∃ Bs' vs' vw', Pair B Br g P s' Bs' vs' vw' w' ∧ ∀ k, PBs Bs' g vs' vw' k → PBs Bs g vs vw k ∨ w.heap.size ≤ k) ∧ ButBy (PBs Bs g vs vw) w w'

section
variable {B Br g : Nat} {x : Value} {P : Dk → (Nat → Prop) → World → Prop} (D : DiskOk B x P) {s : Dk} {Bs : Nat → Prop} {vs vw : Value} {w : World} (h : Pair B Br g P s Bs vs vw w)
include D h

theorem Pair.kept {w' : World} (k : Kept w w') : Pair B Br g P s Bs vs vw w' :=
  ⟨D.kept h.d k, h.r.kept k, h.apart, Nat.le_trans h.base k.size, fun j hj => ⟨(h.lt j hj).1, Nat.lt_of_lt_of_le (h.lt j hj).2 k.size⟩, h.ok⟩

omit D in
/-- The document's disk stands where the other is written. -/
theorem Pair.r_stay {w' : World} (hb : ButBy Bs w w') : RAt Br g s vs vw w' := h.r.stay (fun k hk => hb.block k (h.r.lt k hk).2 (fun y => h.apart k y hk))

/-- Behind both calls. -/
theorem Pair.step {s1 : Dk} {Bs1 : Nat → Prop} {vs2 vw2 : Value} {w1 w2 : World} (hd : P s1 Bs1 w1) (hs1 : ∀ k, Bs1 k → Bs k ∨ w.heap.size ≤ k) (hb1 : ButBy Bs w w1)
    (hr : RAt Br g s1 vs2 vw2 w2) (hs2 : ∀ k, RBs g vs2 vw2 k → RBs g vs vw k ∨ w1.heap.size ≤ k) (hb2 : ButBy (fun k => k = g) w1 w2) (hok : s1.ok) :
    (∃ Bs' vs' vw', Pair B Br g P s1 Bs' vs' vw' w2 ∧ ∀ k, PBs Bs' g vs' vw' k → PBs Bs g vs vw k ∨ w.heap.size ≤ k) ∧ ButBy (PBs Bs g vs vw) w w2 := by
  have hg : g < w.heap.size := (h.r.lt g (Or.inl rfl)).2
  have hne : ∀ k, Bs1 k → k ≠ g := fun k hk e => by
    rcases hs1 k hk with y | y
    · exact h.apart k y (Or.inl e)
    · omega
  have hl1 := D.above s1 Bs1 w1 hd
  refine ⟨⟨Bs1, vs2, vw2, ⟨D.stay s1 Bs1 w1 w2 hd hb2.size (fun k hk => hb2.block k (hl1 k hk).2 (hne k hk)), hr, fun k hk hk2 => ?_, Nat.le_trans h.base (Nat.le_trans hb1.size hb2.size), fun k hk => ⟨(hl1 k hk).1, Nat.lt_of_lt_of_le (hl1 k hk).2 hb2.size⟩, hok⟩, fun k hk => ?_⟩, ?_⟩
  · rcases hs1 k hk with y | y
    · rcases hs2 k hk2 with z | z
      · exact h.apart k y z
      · have := (h.lt k y).2; have := hb1.size; omega
    · rcases hs2 k hk2 with z | z
      · have := (h.r.lt k z).2; omega
      · have := (hl1 k hk).2; omega
  · rcases hk with y | y
    · exact (hs1 k y).imp Or.inl id
    · exact (hs2 k y).imp Or.inr (fun z => Nat.le_trans hb1.size z)
  · refine (hb1.mono (fun k hk => Or.inl hk)).trans (hb2.mono (fun k hk => ?_))
    exact Or.inr (Or.inl hk)
end

/-- What an act makes of a disk. -/
def doS (s : Dk) (kd i : Int) (t : ByteArray) (f : Bool) (l : List Bool) : Dk :=
  if kd = 1 then s else if kd = 2 then s.flushS else if kd = 3 then { s with fuse := i } else if kd = 4 then s.powerS l else if kd = 5 then s.spoilS i t.data.toList else s.writeS i (actT t f).data.toList

/-- The act's box stands where the disks are written. -/
theorem box_stays {Bs : Nat → Prop} {b : Nat} {w W w' : World} {o : Obj} (hW : W.heap[b]? = some o) (hb : b = w.heap.size) (hlt : ∀ k, Bs k → k < w.heap.size) (hbut : ButBy Bs W w') : w'.heap[b]? = some o := by
  rw [hbut.block b (Array.getElem?_eq_some_iff.1 hW).1 (fun x => by have := hlt b x; omega)]
  exact hW

end Go.Proofs.YtoigembmbajopaaDoor
namespace Go.Proofs.YtoigembmbajopaaDoor
open Go.RowKit

theorem spot_none {w : World} {a : Addr} {v : Value} (h : w.cell? ((a.add 0).add 0) = some v) : a = ⟨a.block, a.off, none⟩ := by
  have hs : ((a.add 0).add 0) = a.add 0 := by
    obtain ⟨b, o, sp⟩ := a
    cases sp with
    | none => rw [addr_add, addr_add]
    | some x => simp [Addr.add]
  rw [hs] at h
  exact addr_cell h

/-- Where cells lie together: a part of a row. -/
theorem row_cells5 {w : World} {b o n : Nat} (C : Array Value) (hn : C.size = n) (h : ∀ j, j < n → w.cell? ⟨b, o + j, none⟩ = C[j]?) (h0 : 0 < n := by decide) :
    ∃ cs t fr, w.heap[b]? = some (.cells cs t fr) ∧ o + n ≤ cs.size ∧ cs.extract o (o + n) = C := by
  have hz := h 0 h0
  have hC0 : C[0]? = some C[0] := Array.getElem?_eq_getElem (by omega)
  rw [hC0] at hz
  unfold World.cell? at hz
  split at hz
  · rename_i cs t fr hb
    have each : ∀ j, j < n → cs[o + j]? = C[j]? := by
      intro j hj
      have := h j hj
      unfold World.cell? at this
      simpa [hb] using this
    have hsz : o + n ≤ cs.size := by
      have h1 := each (n - 1) (by omega)
      rw [Array.getElem?_eq_getElem (by omega : n - 1 < C.size)] at h1
      have := (Array.getElem?_eq_some_iff.1 h1).1
      omega
    refine ⟨cs, t, fr, hb, hsz, ?_⟩
    apply Array.ext_getElem?
    intro j
    by_cases hj : j < n
    · rw [Array.getElem?_extract, if_pos (by omega), each j hj]
    · rw [Array.getElem?_eq_none (by rw [Array.size_extract]; omega), Array.getElem?_eq_none (by omega)]
  · simp_all

theorem spot_none2 {w : World} {a : Addr} {x : Option Value} (h : w.cell? ((a.add 0).add 0) = x) (hx : x.isSome = true := by rfl) : a = ⟨a.block, a.off, none⟩ := by
  obtain ⟨v, hv⟩ := Option.isSome_iff_exists.1 hx
  rw [hv] at h
  exact spot_none h

end Go.Proofs.YtoigembmbajopaaDoor
namespace Go.Proofs.YtoigembmbajopaaDoor
open Go.ChangeShapes Go.WideShapes Go.RowKit

structure ActR where
  kd : Int
  i : Int
  t : ByteArray
  f : Bool
  l : List Bool
  kv : Value
def ActR.cells (a : ActR) : Array Value := actA a.kd a.i a.t a.f a.kv
/-- An act that came in. -/
structure ActR.good (a : ActR) (w : World) : Prop where
  kd : (Lit.int .i64 a.kd).wf = true
  i : (Lit.int .i64 a.i).wf = true
  t : a.t.size ≤ maxLen
  kv : BoolAt a.l a.kv w
  ll : a.l.length ≤ maxLen

/-- A slice of acts. -/
def ActsAt (acs : List ActR) (v : Value) (w : World) : Prop := (∀ a ∈ acs, a.good w) ∧ ∃ p c, v = .slice p acs.length c ∧
  (acs = [] ∨ ∃ b off, p = some ⟨b, off, none⟩ ∧ ∀ k (h : k < acs.length), ∃ cs t fr, w.heap[b]? = some (.cells cs t fr) ∧ off + k * 5 + 5 ≤ cs.size ∧ cs.extract (off + k * 5) (off + k * 5 + 5) = acs[k].cells)

theorem ActR.good.later {a : ActR} {w w' : World} (h : a.good w) (k : Kept w w') : a.good w' := ⟨h.kd, h.i, h.t, h.kv.later k, h.ll⟩
theorem ActsAt.later {acs : List ActR} {v : Value} {w w' : World} (h : ActsAt acs v w) (k : Kept w w') : ActsAt acs v w' := by
  obtain ⟨hg, p, c, rfl, h⟩ := h
  refine ⟨fun a ha => (hg a ha).later k, p, c, rfl, ?_⟩
  rcases h with h0 | ⟨b, off, hp, hc⟩
  · exact Or.inl h0
  · refine Or.inr ⟨b, off, hp, fun j hj => ?_⟩
    obtain ⟨cs, t, fr, h1, h2, h3⟩ := hc j hj
    exact ⟨cs, t, fr, k.row h1, h2, h3⟩

section
variable {H : Type} {enc : TypeId × Value → H} {w : World} {base : Nat} {spare : Nat → Bool} {held : Bool}

theorem cellsB : Tryd.prog.cellsOf 4 = 1 := by kernel_rfl
theorem cellsIn : Tryd.prog.cellsOf 3 = 1 := by kernel_rfl
theorem cellsStr : Tryd.prog.cellsOf 9 = 1 := by kernel_rfl
theorem cellsBs : Tryd.prog.cellsOf 47 = 1 := by kernel_rfl

theorem open_bools {fuel : Nat} {cs : List Value} {x : DataW H × List MemPlace} (h : DataW.trod enc Tryd.prog w base spare held fuel 47 cs = some x) : ∃ (v : Value) (l : List Bool), cs = [v] ∧ BoolAt l v w ∧ l.length ≤ maxLen := by
  rcases DataW.trod_slice Tryd.underlying47 h with ⟨rfl, _⟩ | ⟨a, len, cap, elems, rest, m, _, rfl, _, hb, hl, hm, hlen, hel, _, _⟩
  · exact ⟨_, [], rfl, BoolAt.nil w, by simp⟩
  have each : ∀ i, i < len → ∃ b : Bool, w.cell? ((a.add i).add 0) = some (.bool b) := by
    intro i hi
    have := hel i hi
    rw [cellsB, Nat.mul_one, List.getElem?_eq_getElem (by omega), Option.bind_eq_some_iff] at this
    obtain ⟨cs', hcs, hy⟩ := this
    obtain ⟨b, rfl, _⟩ := DataW.trod_bool Tryd.underlying4 hy
    refine ⟨b, ?_⟩
    unfold World.cells? at hcs
    split at hcs
    · have := mapM_some_get hcs 0 0 (by simp)
      rw [this]; rfl
    · simp at hcs
  have all : ∃ l : List Bool, l.length = len ∧ ∀ i, i < len → w.cell? ((a.add i).add 0) = some (.bool (l.getD i false)) := by
    refine ⟨(List.range len).map fun i => if h : i < len then (each i h).choose else false, by simp, fun i hi => ?_⟩
    rw [(each i hi).choose_spec]
    simp [List.getD, hi]
  obtain ⟨l, hll, hcell⟩ := all
  refine ⟨_, l, rfl, ⟨some a, cap, by rw [hll], ?_⟩, by omega⟩
  by_cases hz : len = 0
  · exact Or.inl (List.length_eq_zero_iff.1 (by omega))
  · right
    have ha := spot_none (hcell 0 (by omega))
    refine ⟨a.block, a.off, by rw [← ha], fun i hi => ?_⟩
    have h := hcell i (by omega)
    rw [ha, addr_add, addr_add, Nat.add_zero] at h
    exact h

end

end Go.Proofs.YtoigembmbajopaaDoor
namespace Go.Proofs.YtoigembmbajopaaDoor
open Go.ChangeShapes Go.WideShapes Go.RowKit

section
variable {H : Type} {enc : TypeId × Value → H} {w : World} {base : Nat} {spare : Nat → Bool} {held : Bool}

theorem cellsR : Tryd.prog.cellsOf 83 = 2 := by kernel_rfl
theorem cellsR1 : Tryd.prog.cellsOf 3 = 1 := by kernel_rfl

set_option maxRecDepth 100000 in
theorem trod_run {fuel : Nat} {cs : List Value} {x : DataW H × List MemPlace} (h : DataW.trod enc Tryd.prog w base spare held fuel 83 cs = some x) : ∃ r : Int × Int, wfR [r] ∧ cs = runC [r] := by
  obtain ⟨xs, n, _, _, hsz, hlen, hg⟩ := DataW.trod_struct Tryd.underlying83 h
  match cs, hsz.trans cellsR with
  | [c0, c1], _ =>
    match xs, hlen with
    | [y0, y1], _ =>
      have g0 : DataW.trod enc Tryd.prog w base spare held n 3 [c0] = some y0 := by simpa [cellsR1] using hg 0 _ rfl
      have g1 : DataW.trod enc Tryd.prog w base spare held n 3 [c1] = some y1 := by simpa [cellsR1] using hg 1 _ rfl
      obtain ⟨n0, e0, _, w0⟩ := DataW.trod_int Tryd.underlying3 g0
      obtain ⟨n1, e1, _, w1⟩ := DataW.trod_int Tryd.underlying3 g1
      simp only [List.cons.injEq, and_true] at e0 e1
      subst e0 e1
      exact ⟨(n0, n1), fun r hr => by rw [List.mem_singleton.1 hr]; exact ⟨wf_I64 w0, wf_I64 w1⟩, rfl⟩

set_option maxRecDepth 100000 in
theorem open_runs {fuel : Nat} {cs : List Value} {x : DataW H × List MemPlace} (h : DataW.trod enc Tryd.prog w base spare held fuel 28 cs = some x) : ∃ (v : Value) (l : List (Int × Int)), cs = [v] ∧ RunsAt l v w ∧ l.length ≤ maxLen := by
  rcases DataW.trod_slice Tryd.underlying28 h with ⟨rfl, _⟩ | ⟨a, len, cap, elems, rest, m, _, rfl, hc1, hb, hl, hm, hlen, hel, _, _⟩
  · exact ⟨_, [], rfl, RunsAt.nil w 0, by simp⟩
  have each : ∀ i, i < len → ∃ r : Int × Int, wfR [r] ∧ ∀ j, j < 2 → w.cell? ((a.add (i * 2)).add j) = (runC [r])[j]? := by
    intro i hi
    have := hel i hi
    rw [cellsR, List.getElem?_eq_getElem (by omega), Option.bind_eq_some_iff] at this
    obtain ⟨cs', hcs, hy⟩ := this
    obtain ⟨r, hr, rfl⟩ := trod_run hy
    refine ⟨r, hr, fun j hj => ?_⟩
    unfold World.cells? at hcs
    split at hcs
    · have := mapM_some_get hcs j j (by simp [hj])
      exact this
    · simp at hcs
  have all : ∃ l : List (Int × Int), l.length = len ∧ wfR l ∧ ∀ i (h : i < l.length), ∀ j, j < 2 → w.cell? ((a.add (i * 2)).add j) = (runC [l[i]])[j]? := by
    refine ⟨(List.range len).map fun i => if h : i < len then (each i h).choose else (0, 0), by simp, ?_, ?_⟩
    · intro r hr
      obtain ⟨i, hi, rfl⟩ := List.mem_map.1 hr
      have hi' : i < len := by simpa using hi
      rw [dif_pos hi']
      exact (each i hi').choose_spec.1 _ (by simp)
    · intro i hi j hj
      have hi' : i < len := by simpa using hi
      simp only [List.getElem_map, List.getElem_range]
      rw [dif_pos hi']
      exact (each i hi').choose_spec.2 j hj
  obtain ⟨l, hll, hwf, hcell⟩ := all
  refine ⟨_, l, rfl, ?_, by omega⟩
  rw [← hll]
  by_cases hz : len = 0
  · exact RunsAt.of_cells hwf _ _ (by omega) (Or.inl (by omega))
  · have ha0 := hcell 0 (by omega) 0 (by omega)
    rw [Nat.zero_mul] at ha0
    have ha := spot_none2 ha0
    refine RunsAt.of_cells hwf _ _ (by omega) (Or.inr ⟨a.block, a.off, by rw [← ha], fun j x hx => ?_⟩)
    have hjl : j < l.length * 2 := by rw [← runC_len]; exact (List.getElem?_eq_some_iff.1 hx).1
    have hi : j / 2 < l.length := by omega
    have h1 := hcell (j / 2) hi (j % 2) (by omega)
    rw [ha, addr_add, addr_add] at h1
    have e : a.off + j / 2 * 2 + j % 2 = a.off + j := by omega
    rw [e] at h1
    rw [h1, ← hx]
    have hg := runC_get l (j / 2) hi
    rcases Nat.mod_two_eq_zero_or_one j with h2 | h2
    · rw [h2, show (runC l)[j]? = (runC l)[j / 2 * 2]? by congr 1; omega, hg.1]; rfl
    · rw [h2, show (runC l)[j]? = (runC l)[j / 2 * 2 + 1]? by congr 1; omega, hg.2]; rfl

end

end Go.Proofs.YtoigembmbajopaaDoor
namespace Go.Proofs.YtoigembmbajopaaDoor
open Go.Joins Go.ChangeShapes Go.WideShapes Go.RowKit Go.Deep

section
variable {H : Type} {enc : TypeId × Value → H} {w : World} {base : Nat} {spare : Nat → Bool} {held : Bool}

theorem cellsRc : Tryd.prog.cellsOf 30 = 5 := by kernel_rfl
theorem cellsRk : Tryd.prog.cellsOf 26 = 1 := by kernel_rfl
theorem cellsU32 : Tryd.prog.cellsOf 27 = 1 := by kernel_rfl
theorem cellsRnl : Tryd.prog.cellsOf 28 = 1 := by kernel_rfl
theorem cellsRcl : Tryd.prog.cellsOf 22 = 1 := by kernel_rfl
theorem cellsU8 : Tryd.prog.cellsOf 5 = 1 := by kernel_rfl
theorem cellsU8l : Tryd.prog.cellsOf 46 = 1 := by kernel_rfl
theorem cellsCase : Tryd.prog.cellsOf 49 = 7 := by kernel_rfl
theorem wf_u32 {i : Int} (h : (Lit.int .u32 i).wf = true) : 0 ≤ i ∧ i < 4294967296 := by
  have h2 : 0 ≤ i ∧ i ≤ 4294967295 := by simpa [Lit.wf, IntKind.min, IntKind.max, IntKind.signed, IntKind.bits] using h
  omega
theorem wf_u8 {i : Int} (h : (Lit.int .u8 i).wf = true) : 0 ≤ i ∧ i ≤ 255 := by
  simpa [Lit.wf, IntKind.min, IntKind.max, IntKind.signed, IntKind.bits] using h

set_option maxRecDepth 100000 in
theorem trod_rec {fuel : Nat} {cs : List Value} {x : DataW H × List MemPlace} (h : DataW.trod enc Tryd.prog w base spare held fuel 30 cs = some x) : ∃ (r : Rc) (tv : Value), RecAt r tv w ∧ cs = (recC r tv).toList := by
  obtain ⟨xs, n, _, _, hsz, hlen, hg⟩ := DataW.trod_struct Tryd.underlying30 h
  match cs, hsz.trans cellsRc with
  | [c0, c1, c2, c3, c4], _ =>
    match xs, hlen with
    | [y0, y1, y2, y3, y4], _ =>
      have g0 : DataW.trod enc Tryd.prog w base spare held n 26 [c0] = some y0 := by simpa [cellsRk] using hg 0 _ rfl
      have g1 : DataW.trod enc Tryd.prog w base spare held n 27 [c1] = some y1 := by simpa [cellsU32] using hg 1 _ rfl
      have g2 : DataW.trod enc Tryd.prog w base spare held n 9 [c2] = some y2 := by simpa [cellsStr] using hg 2 _ rfl
      have g3 : DataW.trod enc Tryd.prog w base spare held n 3 [c3] = some y3 := by simpa [cellsR1] using hg 3 _ rfl
      have g4 : DataW.trod enc Tryd.prog w base spare held n 28 [c4] = some y4 := by simpa [cellsRnl] using hg 4 _ rfl
      obtain ⟨n0, e0, _, w0⟩ := DataW.trod_int Tryd.underlying26 g0
      obtain ⟨n1, e1, _, w1⟩ := DataW.trod_int Tryd.underlying27 g1
      obtain ⟨s2, e2, _, w2⟩ := DataW.trod_string Tryd.underlying9 g2
      obtain ⟨n3, e3, _, w3⟩ := DataW.trod_int Tryd.underlying3 g3
      obtain ⟨v4, l4, e4, w4, _⟩ := open_runs g4
      simp only [List.cons.injEq, and_true] at e0 e1 e2 e3 e4
      subst e0 e1 e2 e3 e4
      have h1 := wf_u32 w1
      obtain ⟨q, rfl⟩ : ∃ q : Nat, n1 = q := ⟨n1.toNat, by omega⟩
      refine ⟨⟨n0, q, s2.data.toList, n3, l4⟩, _, ⟨w4, ⟨wf_I64 w0, by show q < 4294967296; omega, by show s2.data.toList.length ≤ maxLen; rw [data_len]; exact w2, wf_I64 w3⟩⟩, ?_⟩
      unfold recC
      simp only [str_data]

set_option maxRecDepth 100000 in
theorem open_recs {fuel : Nat} {cs : List Value} {x : DataW H × List MemPlace} (h : DataW.trod enc Tryd.prog w base spare held fuel 22 cs = some x) : ∃ (v : Value) (l : List Rc), cs = [v] ∧ RecsAt l v w ∧ l.length ≤ maxLen := by
  rcases DataW.trod_slice Tryd.underlying22 h with ⟨rfl, _⟩ | ⟨a, len, cap, elems, rest, m, _, rfl, hc1, hb, hl, hm, hlen, hel, _, _⟩
  · exact ⟨_, [], rfl, RecsAt.nil w 0, by simp⟩
  have each : ∀ i, i < len → ∃ r : Rc × Value, RecAt r.1 r.2 w ∧ ∀ j, j < 5 → w.cell? ((a.add (i * 5)).add j) = (recC r.1 r.2)[j]? := by
    intro i hi
    have := hel i hi
    rw [cellsRc, List.getElem?_eq_getElem (by omega), Option.bind_eq_some_iff] at this
    obtain ⟨cs', hcs, hy⟩ := this
    obtain ⟨r, tv, hr, rfl⟩ := trod_rec hy
    refine ⟨(r, tv), hr, fun j hj => ?_⟩
    unfold World.cells? at hcs
    split at hcs
    · have := mapM_some_get hcs j j (by simp [hj])
      rw [this, Array.getElem?_toList]
    · simp at hcs
  have all : ∃ A : List (Rc × Value), A.length = len ∧ (∀ r ∈ A, RecAt r.1 r.2 w) ∧ ∀ i (h : i < A.length), ∀ j, j < 5 → w.cell? ((a.add (i * 5)).add j) = (recC A[i].1 A[i].2)[j]? := by
    refine ⟨(List.range len).map fun i => if h : i < len then (each i h).choose else (⟨0, 0, [], 0, []⟩, .nilFunc), by simp, ?_, ?_⟩
    · intro r hr
      obtain ⟨i, hi, rfl⟩ := List.mem_map.1 hr
      have hi' : i < len := by simpa using hi
      rw [dif_pos hi']
      exact (each i hi').choose_spec.1
    · intro i hi j hj
      have hi' : i < len := by simpa using hi
      simp only [List.getElem_map, List.getElem_range]
      rw [dif_pos hi']
      exact (each i hi').choose_spec.2 j hj
  obtain ⟨A, hAl, hgood, hcell⟩ := all
  refine ⟨_, A.map Prod.fst, rfl, ⟨A, rfl, hgood, fun p n c e => ?_, ?_⟩, by rw [List.length_map]; omega⟩
  · simp only [Value.slice.injEq] at e
    omega
  · refine ⟨cellsA_len A, cellsA_one hgood, some a, cap, by rw [hAl], ?_⟩
    by_cases hz : len = 0
    · exact Or.inl (by omega)
    · have ha0 := hcell 0 (by omega) 0 (by omega)
      rw [Nat.zero_mul] at ha0
      have ha := spot_none2 ha0
      refine Or.inr ⟨a.block, a.off, by rw [← ha], fun j x hx => ?_⟩
      have hjl : j < A.length * 5 := by rw [← cellsA_len]; exact (List.getElem?_eq_some_iff.1 hx).1
      have hi : j / 5 < A.length := by omega
      have h1 := hcell (j / 5) hi (j % 5) (by omega)
      rw [ha, addr_add, addr_add] at h1
      have e : a.off + j / 5 * 5 + j % 5 = a.off + j := by omega
      rw [e] at h1
      have hg := cellsA_get A (j / 5) hi (j % 5) (by omega)
      rw [show j / 5 * 5 + j % 5 = j by omega, hx] at hg
      rw [h1, ← hg]

/-- Lists of records, none longer than memory. -/
def TxsArg (L : List (List Rc)) (v : Value) (w : World) : Prop := TxsAt L v w ∧ ∀ l ∈ L, l.length ≤ maxLen
set_option maxRecDepth 100000 in
theorem open_txs {fuel : Nat} {cs : List Value} {x : DataW H × List MemPlace} (h : DataW.trod enc Tryd.prog w base spare held fuel 36 cs = some x) : ∃ (v : Value) (l : List (List Rc)), cs = [v] ∧ TxsArg l v w ∧ l.length ≤ maxLen := by
  rcases DataW.trod_slice Tryd.underlying36 h with ⟨rfl, _⟩ | ⟨a, len, cap, elems, rest, m, _, rfl, hc1, hb, hl, hm, hlen, hel, _, _⟩
  · refine ⟨_, [], rfl, ⟨⟨[], rfl, fun i hi _ => by simp at hi, fun p n c e => ?_, rfl, fun x hx => (by cases hx), none, 0, rfl, Or.inl rfl⟩, fun l hl => by cases hl⟩, by simp⟩
    simp only [Value.slice.injEq] at e; omega
  have each : ∀ i, i < len → ∃ r : List Rc × Value, (RecsAt r.1 r.2 w ∧ r.1.length ≤ maxLen) ∧ w.cell? ((a.add i).add 0) = some r.2 := by
    intro i hi
    have := hel i hi
    rw [cellsRcl, Nat.mul_one, List.getElem?_eq_getElem (by omega), Option.bind_eq_some_iff] at this
    obtain ⟨cs', hcs, hy⟩ := this
    obtain ⟨v, l, rfl, hr, hle⟩ := open_recs hy
    refine ⟨(l, v), ⟨hr, hle⟩, ?_⟩
    unfold World.cells? at hcs
    split at hcs
    · have := mapM_some_get hcs 0 0 (by simp)
      rw [this]; rfl
    · simp at hcs
  have all : ∃ A : List (List Rc × Value), A.length = len ∧ (∀ r ∈ A, RecsAt r.1 r.2 w ∧ r.1.length ≤ maxLen) ∧ ∀ i (h : i < A.length), w.cell? ((a.add i).add 0) = some A[i].2 := by
    refine ⟨(List.range len).map fun i => if h : i < len then (each i h).choose else ([], .nilFunc), by simp, ?_, ?_⟩
    · intro r hr
      obtain ⟨i, hi, rfl⟩ := List.mem_map.1 hr
      have hi' : i < len := by simpa using hi
      rw [dif_pos hi']
      exact (each i hi').choose_spec.1
    · intro i hi
      have hi' : i < len := by simpa using hi
      simp only [List.getElem_map, List.getElem_range]
      rw [dif_pos hi']
      exact (each i hi').choose_spec.2
  obtain ⟨A, hAl, hgood, hcell⟩ := all
  refine ⟨_, A.map Prod.fst, rfl, ⟨⟨A.map Prod.snd, by simp, fun i h1 h2 => ?_, fun p n c e => ?_, ?_⟩, fun l hl => ?_⟩, by rw [List.length_map]; omega⟩
  · have hi : i < A.length := by simpa using h1
    simp only [List.getElem_map]
    exact (hgood _ (List.getElem_mem hi)).1
  · simp only [Value.slice.injEq] at e
    omega
  · refine ⟨by simp, fun x hx => ?_, some a, cap, by rw [List.length_map, hAl], ?_⟩
    · obtain ⟨r, hr, rfl⟩ := List.mem_map.1 hx
      obtain ⟨p, c, hv, _⟩ := (hgood r hr).1.sliced
      rw [hv]; rfl
    · by_cases hz : len = 0
      · exact Or.inl (by rw [List.length_map]; omega)
      · have ha := spot_none (hcell 0 (by omega))
        refine Or.inr ⟨a.block, a.off, by rw [← ha], fun j x hx => ?_⟩
        have hjl : j < A.length := by have := (List.getElem?_eq_some_iff.1 hx).1; simpa using this
        have h1 := hcell j hjl
        rw [ha, addr_add, addr_add, Nat.add_zero] at h1
        rw [h1, ← hx, List.getElem?_map, List.getElem?_eq_getElem hjl]
        rfl
  · obtain ⟨r, hr, rfl⟩ := List.mem_map.1 hl
    exact (hgood r hr).2

theorem open_u8s {fuel : Nat} {cs : List Value} {x : DataW H × List MemPlace} (h : DataW.trod enc Tryd.prog w base spare held fuel 46 cs = some x) : ∃ (v : Value) (l : List Int), cs = [v] ∧ IntAt .u8 l v w ∧ (∀ z ∈ l, 0 ≤ z ∧ z ≤ 255) ∧ l.length ≤ maxLen := by
  rcases DataW.trod_slice Tryd.underlying46 h with ⟨rfl, _⟩ | ⟨a, len, cap, elems, rest, m, _, rfl, _, hb, hl, hm, hlen, hel, _, _⟩
  · exact ⟨_, [], rfl, ⟨none, 0, rfl, Or.inl rfl⟩, fun z hz => (by cases hz), by simp⟩
  have each : ∀ i, i < len → ∃ b : Int, (0 ≤ b ∧ b ≤ 255) ∧ w.cell? ((a.add i).add 0) = some (.int .u8 b) := by
    intro i hi
    have := hel i hi
    rw [cellsU8, Nat.mul_one, List.getElem?_eq_getElem (by omega), Option.bind_eq_some_iff] at this
    obtain ⟨cs', hcs, hy⟩ := this
    obtain ⟨b, rfl, _, wb⟩ := DataW.trod_int Tryd.underlying5 hy
    refine ⟨b, wf_u8 wb, ?_⟩
    unfold World.cells? at hcs
    split at hcs
    · have := mapM_some_get hcs 0 0 (by simp)
      rw [this]; rfl
    · simp at hcs
  have all : ∃ l : List Int, l.length = len ∧ (∀ z ∈ l, 0 ≤ z ∧ z ≤ 255) ∧ ∀ i (h : i < l.length), w.cell? ((a.add i).add 0) = some (.int .u8 l[i]) := by
    refine ⟨(List.range len).map fun i => if h : i < len then (each i h).choose else 0, by simp, ?_, fun i hi => ?_⟩
    · intro r hr
      obtain ⟨i, hi, rfl⟩ := List.mem_map.1 hr
      have hi' : i < len := by simpa using hi
      rw [dif_pos hi']
      exact (each i hi').choose_spec.1
    · have hi' : i < len := by simpa using hi
      simp only [List.getElem_map, List.getElem_range]
      rw [dif_pos hi']
      exact (each i hi').choose_spec.2
  obtain ⟨l, hll, hgood, hcell⟩ := all
  refine ⟨_, l, rfl, ⟨some a, cap, by rw [hll], ?_⟩, hgood, by omega⟩
  by_cases hz : len = 0
  · exact Or.inl (List.length_eq_zero_iff.1 (by omega))
  · right
    have ha := spot_none (hcell 0 (by omega))
    refine ⟨a.block, a.off, by rw [← ha], fun i hi => ?_⟩
    have h := hcell i hi
    rw [ha, addr_add, addr_add, Nat.add_zero] at h
    exact h

/-- A case that came in. -/
def CaseAt (v : Value) (w : World) : Prop := ∃ (n : Int) (zs : List Int) (vb : Value) (fz j u : Int) (t : ByteArray) (l : List Bool) (vk : Value), v = .agg (caseC n vb fz j u t vk) ∧
  (I64 n ∧ I64 fz ∧ I64 j ∧ I64 u) ∧ t.size ≤ maxLen ∧ (IntAt .u8 zs vb w ∧ (∀ z ∈ zs, 0 ≤ z ∧ z ≤ 255) ∧ zs.length ≤ maxLen) ∧ BoolAt l vk w ∧ l.length ≤ maxLen

set_option maxRecDepth 100000 in
theorem open_case {r : Reach} {b0 : Nat} {v : Value} {d : DataW H} {p : List MemPlace}
    (hv : Value.okWide Tryd.prog w r b0 49 v) (h : DataW.Trod enc Tryd.prog w base spare held 49 v d p) : CaseAt v w := by
  have hs := Tryd.underlying49
  obtain ⟨cs, rfl, hsz⟩ := okWide_struct hs hv
  obtain ⟨l⟩ := cs
  match l, hsz.trans cellsCase with
  | [c0, c1, c2, c3, c4, c5, c6], _ =>
    obtain ⟨fuel, hf⟩ := h
    obtain ⟨xs, n, _, hx, _, hlen, hg⟩ := DataW.trod_struct hs hf
    match xs, hlen with
    | [y0, y1, y2, y3, y4, y5, y6], _ =>
      have g0 : DataW.trod enc Tryd.prog w base spare held n 3 [c0] = some y0 := by simpa [Value.cells, cellsR1] using hg 0 _ rfl
      have g1 : DataW.trod enc Tryd.prog w base spare held n 46 [c1] = some y1 := by simpa [Value.cells, cellsU8l] using hg 1 _ rfl
      have g2 : DataW.trod enc Tryd.prog w base spare held n 3 [c2] = some y2 := by simpa [Value.cells, cellsR1] using hg 2 _ rfl
      have g3 : DataW.trod enc Tryd.prog w base spare held n 3 [c3] = some y3 := by simpa [Value.cells, cellsR1] using hg 3 _ rfl
      have g4 : DataW.trod enc Tryd.prog w base spare held n 3 [c4] = some y4 := by simpa [Value.cells, cellsR1] using hg 4 _ rfl
      have g5 : DataW.trod enc Tryd.prog w base spare held n 9 [c5] = some y5 := by simpa [Value.cells, cellsStr] using hg 5 _ rfl
      have g6 : DataW.trod enc Tryd.prog w base spare held n 47 [c6] = some y6 := by simpa [Value.cells, cellsBs] using hg 6 _ rfl
      obtain ⟨n0, e0, _, w0⟩ := DataW.trod_int Tryd.underlying3 g0
      obtain ⟨v1, l1, e1, w1, z1, k1⟩ := open_u8s g1
      obtain ⟨n2, e2, _, w2⟩ := DataW.trod_int Tryd.underlying3 g2
      obtain ⟨n3, e3, _, w3⟩ := DataW.trod_int Tryd.underlying3 g3
      obtain ⟨n4, e4, _, w4⟩ := DataW.trod_int Tryd.underlying3 g4
      obtain ⟨s5, e5, _, w5⟩ := DataW.trod_string Tryd.underlying9 g5
      obtain ⟨v6, l6, e6, w6, k6⟩ := open_bools g6
      simp only [List.cons.injEq, and_true] at e0 e1 e2 e3 e4 e5 e6
      subst e0 e1 e2 e3 e4 e5 e6
      exact ⟨n0, l1, _, n2, n3, n4, s5, l6, _, rfl, ⟨wf_I64 w0, wf_I64 w2, wf_I64 w3, wf_I64 w4⟩, w5, ⟨w1, z1, k1⟩, w6, k6⟩
end

end Go.Proofs.YtoigembmbajopaaDoor
