/- What a call does to both disks: the statements' text and does, out of a disk's contract. What an act does to both disks: the statements' does, out of the contracts. -/
import Derived.Test.YtppbknlhknadbaaGE
import Derived.OpenShut
namespace Go.Proofs.Ytppbknlhknadbaa
open Go.RowKit Go.ChangeShapes

def actA (kd i : Int) (t : ByteArray) (f : Bool) (kv : Value) : Array Value := #[.int .i64 kd, .int .i64 i, .string t, .bool f, kv]
/-- What an act writes. -/
def actT (t : ByteArray) (f : Bool) : ByteArray := if f then str (secT t.data.toList) else t
theorem actT_size (t : ByteArray) (f : Bool) (h : t.size ≤ maxLen) : (actT t f).size ≤ maxLen := by
  unfold actT
  split
  · rw [str_size, secT_len]; decide
  · exact h

/-- Both disks, of the same state, apart in memory. -/
structure Pair (B Br g : Nat) (P : Dk → (Nat → Prop) → World → Prop) (s : Dk) (Bs : Nat → Prop) (vs vw : Value) (w : World) : Prop where
  d : P s Bs w
  r : RAt Br g s vs vw w
  apart : ∀ k, Bs k → ¬ RBs g vs vw k
  base : Br ≤ w.heap.size
  lt : ∀ k, Bs k → B ≤ k ∧ k < w.heap.size
  ok : s.ok

/-- The blocks that both lie in. -/
def PBs (Bs : Nat → Prop) (g : Nat) (vs vw : Value) (k : Nat) : Prop := Bs k ∨ RBs g vs vw k

def PairPost (B Br g : Nat) (P : Dk → (Nat → Prop) → World → Prop) (s' : Dk) (Bs : Nat → Prop) (vs vw ret : Value) (w : World) (e : Ending) (w' : World) : Prop :=
  e = .returned ret ∧ (∃ Bs' vs' vw', Pair B Br g P s' Bs' vs' vw' w' ∧ ∀ k, PBs Bs' g vs' vw' k → PBs Bs g vs vw k ∨ w.heap.size ≤ k) ∧ ButBy (PBs Bs g vs vw) w w'

section
variable {B Br g : Nat} {x : Value} {P : Dk → (Nat → Prop) → World → Prop} (D : DiskOk B x P) {s : Dk} {Bs : Nat → Prop} {vs vw : Value} {w : World} (h : Pair B Br g P s Bs vs vw w)
include D h

theorem Pair.kept {w' : World} (k : Kept w w') : Pair B Br g P s Bs vs vw w' :=
  ⟨D.kept h.d k, h.r.kept k, h.apart, Nat.le_trans h.base k.size, fun j hj => ⟨(h.lt j hj).1, Nat.lt_of_lt_of_le (h.lt j hj).2 k.size⟩, h.ok⟩

omit D in
/-- The document's disk stands where the other is written. -/
theorem Pair.r_stay {w' : World} (hb : ButBy Bs w w') : RAt Br g s vs vw w' := h.r.stay (fun k hk => hb.block k (h.r.lt k hk).2 (fun y => h.apart k y hk))

/-- Behind both calls. -/
theorem Pair.step {s1 : Dk} {Bs1 : Nat → Prop} {vs2 vw2 : Value} {w1 w2 : World} (hd : P s1 Bs1 w1) (hs1 : ∀ k, Bs1 k → Bs k ∨ w.heap.size ≤ k) (hb1 : ButBy Bs w w1)
    (hr : RAt Br g s1 vs2 vw2 w2) (hs2 : ∀ k, RBs g vs2 vw2 k → RBs g vs vw k ∨ w1.heap.size ≤ k) (hb2 : ButBy (fun k => k = g) w1 w2) (hok : s1.ok) :
    (∃ Bs' vs' vw', Pair B Br g P s1 Bs' vs' vw' w2 ∧ ∀ k, PBs Bs' g vs' vw' k → PBs Bs g vs vw k ∨ w.heap.size ≤ k) ∧ ButBy (PBs Bs g vs vw) w w2 := by
  have hg : g < w.heap.size := (h.r.lt g (Or.inl rfl)).2
  have hne : ∀ k, Bs1 k → k ≠ g := fun k hk e => by
    rcases hs1 k hk with y | y
    · exact h.apart k y (Or.inl e)
    · omega
  have hl1 := D.above s1 Bs1 w1 hd
  refine ⟨⟨Bs1, vs2, vw2, ⟨D.stay s1 Bs1 w1 w2 hd hb2.size (fun k hk => hb2.block k (hl1 k hk).2 (hne k hk)), hr, fun k hk hk2 => ?_, Nat.le_trans h.base (Nat.le_trans hb1.size hb2.size), fun k hk => ⟨(hl1 k hk).1, Nat.lt_of_lt_of_le (hl1 k hk).2 hb2.size⟩, hok⟩, fun k hk => ?_⟩, ?_⟩
  · rcases hs1 k hk with y | y
    · rcases hs2 k hk2 with z | z
      · exact h.apart k y z
      · have := (h.lt k y).2; have := hb1.size; omega
    · rcases hs2 k hk2 with z | z
      · have := (h.r.lt k z).2; omega
      · have := (hl1 k hk).2; omega
  · rcases hk with y | y
    · exact (hs1 k y).imp Or.inl id
    · exact (hs2 k y).imp Or.inr (fun z => Nat.le_trans hb1.size z)
  · refine (hb1.mono (fun k hk => Or.inl hk)).trans (hb2.mono (fun k hk => ?_))
    exact Or.inr (Or.inl hk)
end

/-- What an act makes of a disk. -/
def doS (s : Dk) (kd i : Int) (t : ByteArray) (f : Bool) (l : List Bool) : Dk :=
  if kd = 1 then s else if kd = 2 then s.flushS else if kd = 3 then { s with fuse := i } else if kd = 4 then s.powerS l else if kd = 5 then s.spoilS i t.data.toList else s.writeS i (actT t f).data.toList

/-- The act's box stands where the disks are written. -/
theorem box_stays {Bs : Nat → Prop} {b : Nat} {w W w' : World} {o : Obj} (hW : W.heap[b]? = some o) (hb : b = w.heap.size) (hlt : ∀ k, Bs k → k < w.heap.size) (hbut : ButBy Bs W w') : w'.heap[b]? = some o := by
  rw [hbut.block b (Array.getElem?_eq_some_iff.1 hW).1 (fun x => by have := hlt b x; omega)]
  exact hW

end Go.Proofs.Ytppbknlhknadbaa
namespace Go.Proofs.Ytppbknlhknadbaa
open Go.RowKit Go.ChangeShapes

def actB (kd : Int) (vr vt : Value) (size c fz : Int) : Array Value := #[.int .u8 kd, vr, vt, .int .i64 size, .int .u8 c, .int .i64 fz]
/-- Behind the fuse. -/
def fzS (s : Dk) (fz : Int) : Dk := if 0 ≤ fz then { s with fuse := fz } else s
theorem fzS_ops (s : Dk) (fz : Int) : (fzS s fz).ops = s.ops := by unfold fzS; split <;> rfl
theorem fzS_stands (s : Dk) (fz : Int) : (fzS s fz).stands = s.stands := by unfold fzS; split <;> rfl

theorem bPut_ok {s : Dk} (h : s.ok) (l : List (Int × Int)) (t : List UInt8) : (bPut s l t).1.ok := by
  unfold bPut
  split
  · exact h
  · split
    · exact h
    · exact putG_ok _ _ _ _ h
theorem bCopy_ok {s : Dk} (h : s.ok) (a b : List (Int × Int)) (n : Int) : (bCopy s a b n).1.ok := by
  unfold bCopy
  split
  · exact h
  · split
    · exact h
    · exact bPut_ok h _ _

/-- Amid an act: both disks, the act's box. -/
structure Mid12 (B Br g : Nat) (P : Dk → (Nat → Prop) → World → Prop) (s0 : Dk) (Bs : Nat → Prop) (vs vw : Value) (w : World) (A : Array Value) (Bs1 : Nat → Prop) (W1 : World) : Prop where
  p : Pair B Br g P s0 Bs1 vs vw W1
  row : W1.heap[w.heap.size]? = some (.cells A 41 (0, 0))
  sub : ∀ k, Bs1 k → Bs k ∨ w.heap.size < k
  but : ButBy (PBs Bs g vs vw) w W1
  old : ∀ k, PBs Bs g vs vw k → k < w.heap.size

section
variable {B Br g : Nat} {x : Value} {P : Dk → (Nat → Prop) → World → Prop} {s0 : Dk} {Bs Bs1 : Nat → Prop} {vs vw : Value} {w W1 : World} {A : Array Value} (M : Mid12 B Br g P s0 Bs vs vw w A Bs1 W1)
include M

theorem Mid12.sub2 : ∀ k, PBs Bs1 g vs vw k → PBs Bs g vs vw k ∨ w.heap.size < k := fun k hk => by
  rcases hk with y | y
  · exact (M.sub k y).imp Or.inl id
  · exact Or.inl (Or.inr y)
theorem Mid12.out : ¬ PBs Bs1 g vs vw w.heap.size := fun y => by
  rcases M.sub2 _ y with z | z
  · exact Nat.lt_irrefl _ (M.old _ z)
  · exact Nat.lt_irrefl _ z
theorem Mid12.later (D : DiskOk B x P) {W2 : World} (k : Kept W1 W2) : Mid12 B Br g P s0 Bs vs vw w A Bs1 W2 :=
  ⟨M.p.kept D k, k.row M.row, M.sub, M.but.then_kept k, M.old⟩
theorem Mid12.live {l : List (Int × Int)} {v : Value} (hv : LiveAt l v (PBs Bs g vs vw) w) : LiveAt l v (PBs Bs1 g vs vw) W1 :=
  hv.turn (fun k hk => (M.sub2 k hk).imp id Nat.le_of_lt) M.but
theorem Mid12.row2 {w2 : World} (hb : ButBy (PBs Bs1 g vs vw) W1 w2) : w2.heap[w.heap.size]? = some (.cells A 41 (0, 0)) := by
  rw [hb.block _ (Array.getElem?_eq_some_iff.1 M.row).1 M.out]
  exact M.row
theorem Mid12.done {s' : Dk} {w2 : World} {ret : Value} (h : (∃ Bs' vs' vw', Pair B Br g P s' Bs' vs' vw' w2 ∧ ∀ k, PBs Bs' g vs' vw' k → PBs Bs1 g vs vw k ∨ W1.heap.size ≤ k) ∧ ButBy (PBs Bs1 g vs vw) W1 w2) :
    PairPost B Br g P s' Bs vs vw ret w (.returned ret) w2 := by
  obtain ⟨⟨Bs', vs', vw', hp, hs⟩, hb⟩ := h
  refine ⟨rfl, ⟨Bs', vs', vw', hp, fun k hk => ?_⟩, ?_⟩
  · rcases hs k hk with y | y
    · exact (M.sub2 k y).imp id Nat.le_of_lt
    · exact Or.inr (Nat.le_trans M.but.size y)
  · exact ⟨hb.os.trans M.but.os, hb.tape.trans M.but.tape, hb.output.trans M.but.output, Nat.le_trans M.but.size hb.size, fun j hj hn => (hb.block j (Nat.lt_of_lt_of_le hj M.but.size) (fun y => by
      rcases M.sub2 j y with z | z
      · exact hn z
      · omega)).trans (M.but.block j hj hn)⟩
end

theorem i64_wf {z : Int} (h : I64 z) : (Lit.int .i64 z).wf = true := by
  obtain ⟨h1, h2⟩ := h
  simp [Lit.wf, IntKind.min, IntKind.max, IntKind.signed, IntKind.bits]
  omega
theorem mid12_fuse {B Br g : Nat} {x : Value} {P : Dk → (Nat → Prop) → World → Prop} {s : Dk} {Bs Bs1 : Nat → Prop} {vs vw : Value} {w W w1 : World} {A : Array Value} {fz : Int}
    (M : Mid12 B Br g P s Bs vs vw w A Bs W) (D : DiskOk B x P) (hz : fzS s fz = { s with fuse := fz }) (hf : I64 fz) (hd1 : P { s with fuse := fz } Bs1 w1) (hs1 : ∀ k, Bs1 k → Bs k ∨ W.heap.size ≤ k) (hb1 : ButBy Bs W w1) :
    ∃ V, Mid12 B Br g P (fzS s fz) Bs vs vw w A Bs1 V ∧ V = w1.setCell ⟨g, 2, none⟩ (.int .i64 fz) := by
  refine ⟨_, ?_, rfl⟩
  rw [hz]
  have hr1 := M.p.r_stay hb1
  have hr2 : RAt Br g { s with fuse := fz } vs vw (w1.setCell ⟨g, 2, none⟩ (.int .i64 fz)) := hr1.fields (by rw [heap_setCell_same _ _ _ _ _ _ hr1.row]; rfl) (fun k _ hn => set_other _ _ _ _ _ hn) rfl rfl
  have hok2 : ({ s with fuse := fz } : Dk).ok := ⟨M.p.ok.sect, M.p.ok.pos, M.p.ok.most, M.p.ok.wait, M.p.ok.few, hf⟩
  have hg : g < W.heap.size := (M.p.r.lt g (Or.inl rfl)).2
  have hgo : g < w.heap.size := M.old g (Or.inr (Or.inl rfl))
  have hne : ∀ k, Bs1 k → k ≠ g := fun k hk e => by
    rcases hs1 k hk with y | y
    · exact M.p.apart k y (Or.inl e)
    · omega
  have hb2 : ButBy (fun k => k = g) w1 (w1.setCell ⟨g, 2, none⟩ (.int .i64 fz)) := ButBy.setCell (Bs := fun k => k = g) (but_refl _ w1) g 2 _ rfl
  have hl1 := D.above _ _ _ hd1
  have hrow : w1.heap[w.heap.size]? = some (.cells A 41 (0, 0)) := M.row2 (hb1.mono fun _ h => Or.inl h)
  exact ⟨⟨D.stay _ Bs1 w1 _ hd1 hb2.size (fun k hk => hb2.block k (hl1 k hk).2 (hne k hk)), hr2,
      fun k hk hk2 => (hs1 k hk).elim (fun y => M.p.apart k y hk2) (fun y => absurd (M.p.r.lt k hk2).2 (Nat.not_lt.2 y)), Nat.le_trans M.p.base (Nat.le_trans hb1.size hb2.size),
      fun k hk => ⟨(hl1 k hk).1, Nat.lt_of_lt_of_le (hl1 k hk).2 hb2.size⟩, hok2⟩,
    by rw [hb2.block _ (Array.getElem?_eq_some_iff.1 hrow).1 (fun y => by omega)]; exact hrow,
    fun k hk => (hs1 k hk).elim (fun y => M.sub k y) (fun y => Or.inr (Nat.lt_of_lt_of_le (Array.getElem?_eq_some_iff.1 M.row).1 y)),
    (M.but.trans (hb1.mono fun _ h => Or.inl h)).trans (hb2.mono fun k hk => Or.inr (Or.inl hk)), M.old⟩
theorem mid12_row {B Br g : Nat} {P : Dk → (Nat → Prop) → World → Prop} {s : Dk} {Bs : Nat → Prop} {vs vw : Value} {w W w1 : World} {A : Array Value} (M : Mid12 B Br g P s Bs vs vw w A Bs W) (hb1 : ButBy Bs W w1) :
    w1.heap[w.heap.size]? = some (.cells A 41 (0, 0)) := M.row2 (hb1.mono fun _ h => Or.inl h)
theorem LiveAt.left {l : List (Int × Int)} {v : Value} {Bs : Nat → Prop} {g : Nat} {vs vw : Value} {w : World} (h : LiveAt l v (PBs Bs g vs vw) w) : LiveAt l v Bs w :=
  ⟨h.at_, fun a n c e hn hk => h.apart a n c e hn (Or.inl hk)⟩
/-- An act's contract. -/
def Does12 (B Br g : Nat) (x : Value) (P : Dk → (Nat → Prop) → World → Prop) (_ : Dk) (Bs : Nat → Prop) (vs vw : Value) (w : World) (A : Array Value) (s' : Dk) : Prop :=
  Calls Try.prog 16 #[x, .pointer (some ⟨g, 0, none⟩), .agg A] w (PairPost B Br g P s' Bs vs vw (.bool true) w)

theorem bool_nil (w : World) : BoolAt [] (.slice none 0 0) w := ⟨none, 0, rfl, Or.inl rfl⟩

end Go.Proofs.Ytppbknlhknadbaa
