/- A disk alone: its contract step by step; the statements' own example, out of it. The walks of DiskNobody, DiskLoads, out of the contracts. Acts and truths as arguments. The walk of DiskDoes, out of the contracts. P9.6's mathematics: of each sector behind a power cut. The walk of DiskKeeps, out of the contracts. -/
import Derived.Test.YtppbknlhknadbaaGG
import Derived.Test.YtppbknlhknadbaaGI
import Derived.OpenShut
import Derived.ChangeSlices
import Derived.Test.YtppbknlhknadbaaGL
import Derived.Deep.CutBlock
namespace Go.Proofs.Ytppbknlhknadbaa
open Go.RowKit

/-- A disk of that state, in memory of the call's own; all below stands. -/
def DIn (B : Nat) (P : Dk → (Nat → Prop) → World → Prop) (s : Dk) (w0 w : World) : Prop := (∃ Bs, P s Bs w) ∧ Below B w0 w ∧ B ≤ w.heap.size

section
variable {B : Nat} {x : Value} {P : Dk → (Nat → Prop) → World → Prop} (D : DiskOk B x P) {s : Dk} {w0 w : World} (h : DIn B P s w0 w)
include D h

theorem DIn.kept {w' : World} (k : Kept w w') : DIn B P s w0 w' := by
  obtain ⟨⟨Bs, hp⟩, hb, hs⟩ := h
  exact ⟨⟨Bs, D.kept hp k⟩, Below.then' hb k hs, Nat.le_trans hs k.size⟩

omit h in
theorem DIn.of_post {Bs : Nat → Prop} {s' : Dk} {ret : Value} {e : Ending} {w' : World} (hp : P s Bs w) (hb : Below B w0 w) (hs : B ≤ w.heap.size) (post : DPost P Bs s' ret w e w') : e = .returned ret ∧ DIn B P s' w0 w' := by
  obtain ⟨he, ⟨Bs', hp', _⟩, hbut⟩ := post
  exact ⟨he, ⟨Bs', hp'⟩, hbut.kept (fun k hk => (D.above s Bs w hp k hk).1) hb hs, Nat.le_trans hs hbut.size⟩

theorem din_len (hok : s.ok) : Calls Try.prog 47 #[x] w fun e w' => e = .returned (.int .i64 (s.stands.length : Nat)) ∧ DIn B P s w0 w' := by
  have h' := h
  obtain ⟨⟨Bs, hp⟩, _⟩ := h'
  exact (D.len s Bs w hp hok).mono fun e w' ⟨a, b⟩ => ⟨a, DIn.kept D h b⟩
theorem din_down : Calls Try.prog 19 #[x] w fun e w' => e = .returned (.bool s.down) ∧ DIn B P s w0 w' := by
  have h' := h
  obtain ⟨⟨Bs, hp⟩, _⟩ := h'
  exact (D.down s Bs w hp).mono fun e w' ⟨a, b⟩ => ⟨a, DIn.kept D h b⟩
theorem din_waits : Calls Try.prog 20 #[x] w fun e w' => e = .returned (.int .i64 (s.waits.length : Nat)) ∧ DIn B P s w0 w' := by
  have h' := h
  obtain ⟨⟨Bs, hp⟩, _⟩ := h'
  exact (D.waits s Bs w hp).mono fun e w' ⟨a, b⟩ => ⟨a, DIn.kept D h b⟩
theorem din_image (hok : s.ok) : Calls Try.prog 17 #[x] w fun e w' => e = .returned (.string (str s.image)) ∧ DIn B P s w0 w' := by
  have h' := h
  obtain ⟨⟨Bs, hp⟩, _⟩ := h'
  exact (D.image s Bs w hp hok).mono fun e w' ⟨a, b⟩ => ⟨a, DIn.kept D h b⟩
theorem din_read (i : Int) (hok : s.ok) (hlo : s.ops ≤ 4294967296) (hi : (Lit.int .i64 i).wf = true) : Calls Try.prog 36 #[x, .int .i64 i] w fun e w' => e = .returned (.tuple #[.string (str (s.readT i)), .int .i64 (s.readE i)]) ∧ DIn B P s w0 w' := by
  have h' := h
  obtain ⟨⟨Bs, hp⟩, _⟩ := h'
  exact (D.read s Bs w i hp hok hlo hi).mono fun e w' ⟨a, b⟩ => ⟨a, DIn.kept D h b⟩
theorem din_write (i : Int) (t : ByteArray) (hok : s.ok) (hlo : s.ops ≤ 4294967295) (hi : (Lit.int .i64 i).wf = true) (ht : t.size ≤ maxLen) : Calls Try.prog 49 #[x, .int .i64 i, .string t] w fun e w' => e = .returned (.int .i64 (s.writeE i t.data.toList)) ∧ DIn B P (s.writeS i t.data.toList) w0 w' := by
  obtain ⟨⟨Bs, hp⟩, hb, hs⟩ := h
  exact (D.write s Bs w i t hp hok hlo hi ht).mono fun e w' p => DIn.of_post D hp hb hs p
theorem din_flush (hok : s.ok) (hlo : s.ops ≤ 4294967295) : Calls Try.prog 24 #[x] w fun e w' => e = .returned (.int .i64 s.flushE) ∧ DIn B P s.flushS w0 w' := by
  obtain ⟨⟨Bs, hp⟩, hb, hs⟩ := h
  exact (D.flush s Bs w hp hok hlo).mono fun e w' p => DIn.of_post D hp hb hs p
theorem din_power (l : List Bool) (kv : Value) (hok : s.ok) (hlo : s.ops ≤ 4294967296) (hkv : ∀ w', w.heap.size ≤ w'.heap.size → (∀ k, k < B → k < w.heap.size → w'.heap[k]? = w.heap[k]?) → BoolAt l kv w') : Calls Try.prog 25 #[x, kv] w fun e w' => e = .returned (.tuple #[]) ∧ DIn B P (s.powerS l) w0 w' := by
  obtain ⟨⟨Bs, hp⟩, hb, hs⟩ := h
  exact (D.power s Bs w l kv hp hok hlo hkv).mono fun e w' p => DIn.of_post D hp hb hs p
end

def ta : ByteArray := str (secT [97])
def tb : ByteArray := str (secT [98])
def s0 : Dk := Dk.new 3
def s1 : Dk := s0.writeS 1 ta.data.toList
def s2 : Dk := s1.powerS []
def s3 : Dk := s2.writeS 1 tb.data.toList
def s4 : Dk := s3.flushS
def s5 : Dk := s4.powerS []
theorem aw1 : s0.writeE 1 ta.data.toList = 0 ∧ s2.readE 1 = 0 ∧ s2.writeE 1 tb.data.toList = 0 ∧ s3.flushE = 0 ∧ s5.readE 1 = 0 := by decide +kernel
theorem aw2 : s2.readT 1 = zeroT ∧ s5.readT 1 = secT [98] ∧ s5.image.length = 384 ∧ s5.ops = 3 := by decide +kernel
theorem ok0 : s0.ok := Dk.ok.new (by decide) (by decide)
theorem ok1 : s1.ok := ok0.write _ _
theorem ok2 : s2.ok := ok1.power _
theorem ok3 : s3.ok := ok2.write _ _
theorem ok4 : s4.ok := ok3.flush
theorem ok5 : s5.ok := ok4.power _
theorem lo0 : s0.ops ≤ 3 ∧ s1.ops ≤ 3 ∧ s2.ops ≤ 3 ∧ s3.ops ≤ 3 ∧ s4.ops ≤ 3 ∧ s5.ops ≤ 3 := by decide +kernel

end Go.Proofs.Ytppbknlhknadbaa
namespace Go.Proofs.Ytppbknlhknadbaa
open Go.RowKit Go.ChangeShapes

/-- Of a disk that nobody made nothing comes. -/
structure NilDisk : Prop where
  fuse : ∀ (n : Int) w, Calls Try.prog 38 #[.pointer none, .int .i64 n] w fun e w' => e = .returned (.tuple #[]) ∧ Below w.heap.size w w'
  power : ∀ w, Calls Try.prog 25 #[.pointer none, .slice none 0 0] w fun e w' => e = .returned (.tuple #[]) ∧ Below w.heap.size w w'
  read : ∀ (i : Int) w, Calls Try.prog 36 #[.pointer none, .int .i64 i] w fun e w' => e = .returned (.tuple #[.string ⟨#[]⟩, .int .i64 4]) ∧ Below w.heap.size w w'
  write : ∀ (i : Int) (t : ByteArray) w, Calls Try.prog 49 #[.pointer none, .int .i64 i, .string t] w fun e w' => e = .returned (.int .i64 4) ∧ Below w.heap.size w w'
  flush : ∀ w, Calls Try.prog 24 #[.pointer none] w fun e w' => e = .returned (.int .i64 4) ∧ Below w.heap.size w w'
  len : ∀ w, Calls Try.prog 47 #[.pointer none] w fun e w' => e = .returned (.int .i64 0) ∧ Below w.heap.size w w'
  waits : ∀ w, Calls Try.prog 20 #[.pointer none] w fun e w' => e = .returned (.int .i64 0) ∧ Below w.heap.size w w'
  down : ∀ w, Calls Try.prog 19 #[.pointer none] w fun e w' => e = .returned (.bool false) ∧ Below w.heap.size w w'
  image : ∀ w, Calls Try.prog 17 #[.pointer none] w fun e w' => e = .returned (.string ⟨#[]⟩) ∧ Below w.heap.size w w'

end Go.Proofs.Ytppbknlhknadbaa
namespace Go.Proofs.Ytppbknlhknadbaa
open Go.ChangeShapes Go.WideShapes Go.RowKit

structure ActR where
  kd : Int
  i : Int
  t : ByteArray
  f : Bool
  l : List Bool
  kv : Value
def ActR.cells (a : ActR) : Array Value := actA a.kd a.i a.t a.f a.kv
/-- An act that came in. -/
structure ActR.good (a : ActR) (w : World) : Prop where
  kd : (Lit.int .i64 a.kd).wf = true
  i : (Lit.int .i64 a.i).wf = true
  t : a.t.size ≤ maxLen
  kv : BoolAt a.l a.kv w
  ll : a.l.length ≤ maxLen

/-- A slice of acts. -/
def ActsAt (acs : List ActR) (v : Value) (w : World) : Prop := (∀ a ∈ acs, a.good w) ∧ ∃ p c, v = .slice p acs.length c ∧
  (acs = [] ∨ ∃ b off, p = some ⟨b, off, none⟩ ∧ ∀ k (h : k < acs.length), ∃ cs t fr, w.heap[b]? = some (.cells cs t fr) ∧ off + k * 5 + 5 ≤ cs.size ∧ cs.extract (off + k * 5) (off + k * 5 + 5) = acs[k].cells)

theorem ActR.good.later {a : ActR} {w w' : World} (h : a.good w) (k : Kept w w') : a.good w' := ⟨h.kd, h.i, h.t, h.kv.later k, h.ll⟩
theorem ActsAt.later {acs : List ActR} {v : Value} {w w' : World} (h : ActsAt acs v w) (k : Kept w w') : ActsAt acs v w' := by
  obtain ⟨hg, p, c, rfl, h⟩ := h
  refine ⟨fun a ha => (hg a ha).later k, p, c, rfl, ?_⟩
  rcases h with h0 | ⟨b, off, hp, hc⟩
  · exact Or.inl h0
  · refine Or.inr ⟨b, off, hp, fun j hj => ?_⟩
    obtain ⟨cs, t, fr, h1, h2, h3⟩ := hc j hj
    exact ⟨cs, t, fr, k.row h1, h2, h3⟩

section
variable {H : Type} {enc : TypeId × Value → H} {w : World} {base : Nat} {spare : Nat → Bool} {held : Bool}

theorem cellsB : Try.prog.cellsOf 4 = 1 := by kernel_rfl
theorem cellsIn : Try.prog.cellsOf 3 = 1 := by kernel_rfl
theorem cellsStr : Try.prog.cellsOf 9 = 1 := by kernel_rfl
theorem cellsBs : Try.prog.cellsOf 85 = 1 := by kernel_rfl

theorem open_bools {fuel : Nat} {cs : List Value} {x : DataW H × List MemPlace} (h : DataW.trod enc Try.prog w base spare held fuel 85 cs = some x) : ∃ (v : Value) (l : List Bool), cs = [v] ∧ BoolAt l v w ∧ l.length ≤ maxLen := by
  rcases DataW.trod_slice Try.underlying85 h with ⟨rfl, _⟩ | ⟨a, len, cap, elems, rest, m, _, rfl, _, hb, hl, hm, hlen, hel, _, _⟩
  · exact ⟨_, [], rfl, BoolAt.nil w, by simp⟩
  have each : ∀ i, i < len → ∃ b : Bool, w.cell? ((a.add i).add 0) = some (.bool b) := by
    intro i hi
    have := hel i hi
    rw [cellsB, Nat.mul_one, List.getElem?_eq_getElem (by omega), Option.bind_eq_some_iff] at this
    obtain ⟨cs', hcs, hy⟩ := this
    obtain ⟨b, rfl, _⟩ := DataW.trod_bool Try.underlying4 hy
    refine ⟨b, ?_⟩
    unfold World.cells? at hcs
    split at hcs
    · have := mapM_some_get hcs 0 0 (by simp)
      rw [this]; rfl
    · simp at hcs
  have all : ∃ l : List Bool, l.length = len ∧ ∀ i, i < len → w.cell? ((a.add i).add 0) = some (.bool (l.getD i false)) := by
    refine ⟨(List.range len).map fun i => if h : i < len then (each i h).choose else false, by simp, fun i hi => ?_⟩
    rw [(each i hi).choose_spec]
    simp [List.getD, hi]
  obtain ⟨l, hll, hcell⟩ := all
  refine ⟨_, l, rfl, ⟨some a, cap, by rw [hll], ?_⟩, by omega⟩
  by_cases hz : len = 0
  · exact Or.inl (List.length_eq_zero_iff.1 (by omega))
  · right
    have ha := spot_none (hcell 0 (by omega))
    refine ⟨a.block, a.off, by rw [← ha], fun i hi => ?_⟩
    have h := hcell i (by omega)
    rw [ha, addr_add, addr_add, Nat.add_zero] at h
    exact h

end

end Go.Proofs.Ytppbknlhknadbaa
namespace Go.Proofs.Ytppbknlhknadbaa
open Go.RowKit Go.ChangeShapes

theorem cut_ops (s : Dk) : s.cut.ops = s.ops + 1 := rfl
theorem doS_ops (s : Dk) (kd i : Int) (t : ByteArray) (f : Bool) (l : List Bool) : (doS s kd i t f l).ops ≤ s.ops + 1 := by
  unfold doS
  split
  · omega
  split
  · unfold Dk.flushS
    split
    · omega
    · split
      · rw [cut_ops]; omega
      · show s.cut.ops ≤ _; rw [cut_ops]; omega
  split
  · show s.ops ≤ _; omega
  split
  · show s.ops ≤ _; omega
  split
  · unfold Dk.spoilS
    split
    · omega
    · show s.ops ≤ _; omega
  · unfold Dk.writeS
    split
    · omega
    · rw [cut_ops]; show s.ops + 1 ≤ _; omega

/-- Truths below stand. -/
theorem BoolAt.below {l : List Bool} {v : Value} {w w' : World} (h : BoolAt l v w) (hb : ∀ k, k < w.heap.size → w'.heap[k]? = w.heap[k]?) : BoolAt l v w' := by
  obtain ⟨p, c, rfl, h⟩ := h
  refine ⟨p, c, rfl, ?_⟩
  rcases h with h0 | ⟨b, off, hp, hc⟩
  · exact Or.inl h0
  · refine Or.inr ⟨b, off, hp, fun i hi => ?_⟩
    have h1 := hc i hi
    rw [← h1]
    exact World.cell?_of_block (hb b (World.block_lt_of_cell? _ _ h1))

/-- The cells of an act in its row. -/
theorem act_cell {w : World} {b o : Nat} {cs : Array Value} {t : TypeId} {fr : Nat × Nat} {C : Array Value} (hg : w.heap[b]? = some (.cells cs t fr)) (hs : o + 5 ≤ cs.size) (he : cs.extract o (o + 5) = C) (j : Nat) (hj : j < 5) : w.cell? ⟨b, o + j, none⟩ = C[j]? := by
  rw [cell_of_row _ _ _ _ _ _ hg, ← he, Array.getElem?_extract, if_pos (by omega)]

end Go.Proofs.Ytppbknlhknadbaa
namespace Go.Proofs.Ytppbknlhknadbaa
open Go.RowKit Go.ChangeShapes

instance : Inhabited ActR := ⟨⟨0, 0, ⟨#[]⟩, false, [], .nilFunc⟩⟩
/-- What some writes make of a disk. -/
def wrS (s : Dk) (acs : List ActR) : Nat → Dk
  | 0 => s
  | k + 1 => (wrS s acs k).writeS (acs.getD k default).i (secT (acs.getD k default).t.data.toList)

theorem wrS_next (s : Dk) (acs : List ActR) (k : Nat) (hk : k < acs.length) : wrS s acs (k + 1) = (wrS s acs k).writeS acs[k].i (secT acs[k].t.data.toList) := by
  conv => lhs; unfold wrS
  rw [List.getD_eq_getElem?_getD, List.getElem?_eq_getElem hk]
  rfl

/-- No fuse, and it is up. -/
def Dk.calm (s : Dk) : Prop := s.fuse < 0 ∧ s.down = false

theorem writeS_calm (s : Dk) (hc : s.calm) (i : Int) (t : List UInt8) : (s.writeS i t).calm ∧ (s.writeS i t).stands = s.stands ∧ (s.writeS i t).ops ≤ s.ops + 1 ∧
    ∀ p ∈ (s.writeS i t).waits, p ∈ s.waits ∨ (p.1 : Int) = i ∧ p.2 = t := by
  unfold Dk.writeS
  split
  · exact ⟨hc, rfl, by omega, fun p hp => Or.inl hp⟩
  · rename_i hb
    unfold Dk.bad Dk.out at hb
    have h0 : 0 ≤ i := by omega
    have hf := hc.1
    refine ⟨⟨?_, ?_⟩, rfl, Nat.le_refl _, fun p hp => ?_⟩
    · show (if 0 < s.fuse then s.fuse - 1 else s.fuse) < 0
      rw [if_neg (by omega)]; exact hf
    · show (s.down || s.fuse == 0) = false
      rw [hc.2, beq_eq_false_iff_ne.2 (by omega)]; rfl
    · have hp2 : p ∈ s.waits ++ [(i.toNat, t)] := hp
      rcases List.mem_append.1 hp2 with e | e
      · exact Or.inl e
      · rw [List.mem_singleton.1 e]
        exact Or.inr ⟨by show ((i.toNat : Nat) : Int) = i; omega, rfl⟩

theorem wrS_calm (s : Dk) (hok : s.ok) (hc : s.calm) (acs : List ActR) : ∀ k, (wrS s acs k).ok ∧ (wrS s acs k).calm ∧ (wrS s acs k).stands = s.stands ∧ True ∧ (wrS s acs k).ops ≤ s.ops + k ∧
    ∀ p ∈ (wrS s acs k).waits, p ∈ s.waits ∨ ∃ j, j < k ∧ (p.1 : Int) = (acs.getD j default).i ∧ p.2 = secT (acs.getD j default).t.data.toList
  | 0 => ⟨hok, hc, rfl, trivial, Nat.le_refl _, fun p hp => Or.inl hp⟩
  | k + 1 => by
    obtain ⟨h1, h2, h3, _, h5, h6⟩ := wrS_calm s hok hc acs k
    obtain ⟨g1, g2, g3, g4⟩ := writeS_calm (wrS s acs k) h2 (acs.getD k default).i (secT (acs.getD k default).t.data.toList)
    refine ⟨h1.write _ _, g1, g2.trans h3, trivial, Nat.le_trans g3 (by omega), fun p hp => ?_⟩
    rcases g4 p hp with e | ⟨e1, e2⟩
    · rcases h6 p e with e | ⟨j, hj, e⟩
      · exact Or.inl e
      · exact Or.inr ⟨j, by omega, e⟩
    · exact Or.inr ⟨k, by omega, e1, e2⟩

theorem new_calm (n : Nat) : (Dk.new n).calm := ⟨by show (-1 : Int) < 0; decide, rfl⟩
theorem flush_calm (s : Dk) (hc : s.calm) : s.flushE = 0 ∧ s.flushS.calm ∧ s.flushS.waits = [] ∧ s.flushS.stands.length = s.stands.length ∧ s.flushS.ops = s.ops + 1 := by
  have hd : ¬ s.down = true := by rw [hc.2]; exact Bool.false_ne_true
  have hf : ¬ s.fuse = 0 := by have := hc.1; omega
  have e : s.flushS = s.cut.stand keepAll := by unfold Dk.flushS; rw [if_neg hd, if_neg hf]
  refine ⟨by unfold Dk.flushE; rw [if_neg hd, if_neg hf], ?_, ?_, ?_, ?_⟩
  · rw [e]
    refine ⟨?_, ?_⟩
    · show (if 0 < s.fuse then s.fuse - 1 else s.fuse) < 0
      rw [if_neg (by have := hc.1; omega)]; exact hc.1
    · show (s.down || s.fuse == 0) = false
      rw [hc.2, beq_eq_false_iff_ne.2 hf]; rfl
  · rw [e]; rfl
  · rw [e]; show (standK keepAll s.cut.stands s.cut.waits _).length = _; rw [standK_len]; rfl
  · rw [e]; rfl

/-- What stands behind is what stood, or what was kept. -/
theorem standK_from (keep : Nat → Bool) (st : List (List UInt8)) (ws : List (Nat × List UInt8)) : ∀ j, j ≤ ws.length → ∀ k, (standK keep st ws j)[k]? = st[k]? ∨ ∃ i, i < j ∧ keep i = true ∧ (ws.getD i (0, [])).1 = k ∧ (standK keep st ws j)[k]? = some (ws.getD i (0, [])).2
  | 0, _, k => Or.inl rfl
  | j + 1, hj, k => by
    have ih := standK_from keep st ws j (by omega) k
    unfold standK
    by_cases hk : keep j = true
    · rw [if_pos hk]
      by_cases he : (ws.getD j (0, [])).1 = k
      · by_cases hl : k < (standK keep st ws j).length
        · right
          refine ⟨j, by omega, hk, he, ?_⟩
          rw [he, List.getElem?_set_self hl]
        · left
          rw [List.getElem?_eq_none (by rw [List.length_set]; omega), List.getElem?_eq_none (by rw [standK_len] at hl; omega)]
      · rw [List.getElem?_set_ne he]
        rcases ih with e | ⟨i, h1, h2⟩
        · exact Or.inl e
        · exact Or.inr ⟨i, by omega, h2⟩
    · rw [if_neg hk]
      rcases ih with e | ⟨i, h1, h2⟩
      · exact Or.inl e
      · exact Or.inr ⟨i, by omega, h2⟩

/-- P9.6, of a sector: as it stood, or as a write of it that waited and was kept. -/
theorem keeps_at (s : Dk) (hok : s.ok) (hc : s.calm) (hw : s.waits = []) (acs : List ActR) (M : Nat) (l : List Bool) (k : Nat) (hk : k < s.stands.length) :
    ∃ x, ((wrS s acs M).powerS l).stands[k]? = some x ∧ (x = s.stands[k] ∨ 0 < l.length ∧ ∃ j, j < M ∧ (acs.getD j default).i = (k : Int) ∧ secT (acs.getD j default).t.data.toList = x) := by
  obtain ⟨h1, h2, h3, _, h5, h6⟩ := wrS_calm s hok hc acs M
  have e : ((wrS s acs M).powerS l).stands = standK (keepL l) s.stands (wrS s acs M).waits (wrS s acs M).waits.length := by
    show standK (keepL l) (wrS s acs M).stands _ _ = _
    rw [h3]
  rw [e]
  rcases standK_from (keepL l) s.stands (wrS s acs M).waits _ (Nat.le_refl _) k with f | ⟨i, hi, hki, hk1, hk2⟩
  · exact ⟨s.stands[k], by rw [f]; exact List.getElem?_eq_getElem hk, Or.inl rfl⟩
  · refine ⟨_, hk2, Or.inr ⟨?_, ?_⟩⟩
    · unfold keepL at hki
      cases l with
      | nil => simp at hki
      | cons a l => simp
    · have hm : (wrS s acs M).waits.getD i (0, []) ∈ (wrS s acs M).waits := by
        rw [List.getD_eq_getElem?_getD, List.getElem?_eq_getElem hi]
        exact List.getElem_mem hi
      rcases h6 _ hm with f | ⟨j, hj, f1, f2⟩
      · rw [hw] at f; simp at f
      · exact ⟨j, hj, by rw [← f1, hk1], f2.symm⟩

end Go.Proofs.Ytppbknlhknadbaa
namespace Go.Proofs.Ytppbknlhknadbaa
open Go.RowKit Go.ChangeShapes

end Go.Proofs.Ytppbknlhknadbaa
