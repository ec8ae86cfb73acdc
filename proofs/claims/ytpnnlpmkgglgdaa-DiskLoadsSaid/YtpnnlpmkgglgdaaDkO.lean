/- Acts and truths as arguments. -/
import Derived.Test.YtpnnlpmkgglgdaaDkB
import Derived.Test.YtpnnlpmkgglgdaaZRow
import Derived.OpenShut
import Derived.ChangeSlices
namespace Go.Proofs.Ytpnnlpmkgglgdaa
open Go.ChangeShapes Go.WideShapes Go.RowKit

structure ActR where
  kd : Int
  i : Int
  t : ByteArray
  f : Bool
  l : List Bool
  kv : Value
def ActR.cells (a : ActR) : Array Value := actA a.kd a.i a.t a.f a.kv
/-- An act that came in. -/
structure ActR.good (a : ActR) (w : World) : Prop where
  kd : (Lit.int .i64 a.kd).wf = true
  i : (Lit.int .i64 a.i).wf = true
  t : a.t.size ≤ maxLen
  kv : BoolAt a.l a.kv w
  ll : a.l.length ≤ maxLen

/-- A slice of acts. -/
def ActsAt (acs : List ActR) (v : Value) (w : World) : Prop := (∀ a ∈ acs, a.good w) ∧ ∃ p c, v = .slice p acs.length c ∧
  (acs = [] ∨ ∃ b off, p = some ⟨b, off, none⟩ ∧ ∀ k (h : k < acs.length), ∃ cs t fr, w.heap[b]? = some (.cells cs t fr) ∧ off + k * 5 + 5 ≤ cs.size ∧ cs.extract (off + k * 5) (off + k * 5 + 5) = acs[k].cells)

theorem ActR.good.later {a : ActR} {w w' : World} (h : a.good w) (k : Kept w w') : a.good w' := ⟨h.kd, h.i, h.t, h.kv.later k, h.ll⟩
theorem ActsAt.later {acs : List ActR} {v : Value} {w w' : World} (h : ActsAt acs v w) (k : Kept w w') : ActsAt acs v w' := by
  obtain ⟨hg, p, c, rfl, h⟩ := h
  refine ⟨fun a ha => (hg a ha).later k, p, c, rfl, ?_⟩
  rcases h with h0 | ⟨b, off, hp, hc⟩
  · exact Or.inl h0
  · refine Or.inr ⟨b, off, hp, fun j hj => ?_⟩
    obtain ⟨cs, t, fr, h1, h2, h3⟩ := hc j hj
    exact ⟨cs, t, fr, k.row h1, h2, h3⟩

section
variable {H : Type} {enc : TypeId × Value → H} {w : World} {base : Nat} {spare : Nat → Bool} {held : Bool}

theorem cellsB : Try.prog.cellsOf 4 = 1 := by kernel_rfl
theorem cellsAct : Try.prog.cellsOf 32 = 5 := by kernel_rfl
theorem cellsIn : Try.prog.cellsOf 3 = 1 := by kernel_rfl
theorem cellsStr : Try.prog.cellsOf 9 = 1 := by kernel_rfl
theorem cellsBs : Try.prog.cellsOf 30 = 1 := by kernel_rfl

theorem open_bools {fuel : Nat} {cs : List Value} {x : DataW H × List MemPlace} (h : DataW.trod enc Try.prog w base spare held fuel 30 cs = some x) : ∃ (v : Value) (l : List Bool), cs = [v] ∧ BoolAt l v w ∧ l.length ≤ maxLen := by
  rcases DataW.trod_slice Try.underlying30 h with ⟨rfl, _⟩ | ⟨a, len, cap, elems, rest, m, _, rfl, _, hb, hl, hm, hlen, hel, _, _⟩
  · exact ⟨_, [], rfl, BoolAt.nil w, by simp⟩
  have each : ∀ i, i < len → ∃ b : Bool, w.cell? ((a.add i).add 0) = some (.bool b) := by
    intro i hi
    have := hel i hi
    rw [cellsB, Nat.mul_one, List.getElem?_eq_getElem (by omega), Option.bind_eq_some_iff] at this
    obtain ⟨cs', hcs, hy⟩ := this
    obtain ⟨b, rfl, _⟩ := DataW.trod_bool Try.underlying4 hy
    refine ⟨b, ?_⟩
    unfold World.cells? at hcs
    split at hcs
    · have := mapM_some_get hcs 0 0 (by simp)
      rw [this]; rfl
    · simp at hcs
  have all : ∃ l : List Bool, l.length = len ∧ ∀ i, i < len → w.cell? ((a.add i).add 0) = some (.bool (l.getD i false)) := by
    refine ⟨(List.range len).map fun i => if h : i < len then (each i h).choose else false, by simp, fun i hi => ?_⟩
    rw [(each i hi).choose_spec]
    simp [List.getD, hi]
  obtain ⟨l, hll, hcell⟩ := all
  refine ⟨_, l, rfl, ⟨some a, cap, by rw [hll], ?_⟩, by omega⟩
  by_cases hz : len = 0
  · exact Or.inl (List.length_eq_zero_iff.1 (by omega))
  · right
    have ha := spot_none (hcell 0 (by omega))
    refine ⟨a.block, a.off, by rw [← ha], fun i hi => ?_⟩
    have h := hcell i (by omega)
    rw [ha, addr_add, addr_add, Nat.add_zero] at h
    exact h

theorem trod_act {fuel : Nat} {cs : List Value} {x : DataW H × List MemPlace} (h : DataW.trod enc Try.prog w base spare held fuel 32 cs = some x) : ∃ a : ActR, a.good w ∧ cs = a.cells.toList := by
  obtain ⟨xs, n, _, _, hsz, hlen, hg⟩ := DataW.trod_struct Try.underlying32 h
  match cs, hsz.trans cellsAct with
  | [c0, c1, c2, c3, c4], _ =>
    match xs, hlen with
    | [y0, y1, y2, y3, y4], _ =>
      have g0 : DataW.trod enc Try.prog w base spare held n 3 [c0] = some y0 := by simpa [cellsIn] using hg 0 _ rfl
      have g1 : DataW.trod enc Try.prog w base spare held n 3 [c1] = some y1 := by simpa [cellsIn] using hg 1 _ rfl
      have g2 : DataW.trod enc Try.prog w base spare held n 9 [c2] = some y2 := by simpa [cellsStr] using hg 2 _ rfl
      have g3 : DataW.trod enc Try.prog w base spare held n 4 [c3] = some y3 := by simpa [cellsB] using hg 3 _ rfl
      have g4 : DataW.trod enc Try.prog w base spare held n 30 [c4] = some y4 := by simpa [cellsBs] using hg 4 _ rfl
      obtain ⟨n0, e0, _, w0⟩ := DataW.trod_int Try.underlying3 g0
      obtain ⟨n1, e1, _, w1⟩ := DataW.trod_int Try.underlying3 g1
      obtain ⟨s2, e2, _, w2⟩ := DataW.trod_string Try.underlying9 g2
      obtain ⟨b3, e3, _⟩ := DataW.trod_bool Try.underlying4 g3
      obtain ⟨v4, l4, e4, w4, wl⟩ := open_bools g4
      simp only [List.cons.injEq, and_true] at e0 e1 e2 e3 e4
      subst e0 e1 e2 e3 e4
      exact ⟨⟨n0, n1, s2, b3, l4, _⟩, ⟨w0, w1, w2, w4, wl⟩, rfl⟩

theorem open_acts {fuel : Nat} {cs : List Value} {x : DataW H × List MemPlace} (h : DataW.trod enc Try.prog w base spare held fuel 22 cs = some x) : ∃ (v : Value) (acs : List ActR), cs = [v] ∧ ActsAt acs v w ∧ acs.length ≤ maxLen := by
  rcases DataW.trod_slice Try.underlying22 h with ⟨rfl, _⟩ | ⟨a, len, cap, elems, rest, m, _, rfl, _, hb, hl, hm, hlen, hel, _, _⟩
  · exact ⟨_, [], rfl, ⟨by simp, none, 0, rfl, Or.inl rfl⟩, by simp⟩
  have each : ∀ i, i < len → ∃ r : ActR, r.good w ∧ ∀ j, j < 5 → w.cell? ((a.add (i * 5)).add j) = r.cells[j]? := by
    intro i hi
    have := hel i hi
    rw [cellsAct, List.getElem?_eq_getElem (by omega), Option.bind_eq_some_iff] at this
    obtain ⟨cs', hcs, hy⟩ := this
    obtain ⟨r, hr, rfl⟩ := trod_act hy
    refine ⟨r, hr, fun j hj => ?_⟩
    unfold World.cells? at hcs
    split at hcs
    · have := mapM_some_get hcs j j (by simp [hj])
      rw [this, Array.getElem?_toList]
    · simp at hcs
  have all : ∃ acs : List ActR, acs.length = len ∧ (∀ r ∈ acs, r.good w) ∧ ∀ i (h : i < acs.length), ∀ j, j < 5 → w.cell? ((a.add (i * 5)).add j) = acs[i].cells[j]? := by
    refine ⟨(List.range len).map fun i => if h : i < len then (each i h).choose else ⟨0, 0, ⟨#[]⟩, false, [], .nilFunc⟩, by simp, ?_, ?_⟩
    · intro r hr
      obtain ⟨i, hi, rfl⟩ := List.mem_map.1 hr
      have hi' : i < len := by simpa using hi
      rw [dif_pos hi']
      exact (each i hi').choose_spec.1
    · intro i hi j hj
      have hi' : i < len := by simpa using hi
      simp only [List.getElem_map, List.getElem_range]
      rw [dif_pos hi']
      exact (each i hi').choose_spec.2 j hj
  obtain ⟨acs, has, hgood, hcell⟩ := all
  refine ⟨_, acs, rfl, ⟨hgood, some a, cap, by rw [has], ?_⟩, by omega⟩
  by_cases hz : len = 0
  · exact Or.inl (List.length_eq_zero_iff.1 (by omega))
  · right
    have ha0 := hcell 0 (by omega) 0 (by omega)
    rw [Nat.zero_mul] at ha0
    have ha := spot_none2 ha0
    refine ⟨a.block, a.off, by rw [← ha], fun k hk => ?_⟩
    refine row_cells5 acs[k].cells rfl (fun j hj => ?_)
    have h := hcell k hk j hj
    rw [ha, addr_add, addr_add] at h
    exact h
end

end Go.Proofs.Ytpnnlpmkgglgdaa
