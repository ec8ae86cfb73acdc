/- Runs and acts as arguments. -/
import Derived.Test.YtkdodffnakdckaaExE
import Derived.Test.YtkdodffnakdckaaZRun
import Derived.OpenShut
import Derived.ChangeSlices
namespace Go.Proofs.Ytkdodffnakdckaa
open Go.ChangeShapes Go.WideShapes Go.RowKit

/-- A call of the statements: its kind, its number, its list. -/
structure ActM where
  kd : Int
  n : Int
  l : List (Int × Int)
  lv : Value
def ActM.cells (a : ActM) : List Value := [.int .u8 a.kd, .int .i64 a.n, a.lv]
structure ActM.good (a : ActM) (w : World) : Prop where
  kd : (Lit.int .u8 a.kd).wf = true
  n : (Lit.int .i64 a.n).wf = true
  lv : RunsAt a.l a.lv w
theorem ActM.good.later {a : ActM} {w w' : World} (h : a.good w) (k : Kept w w') : a.good w' := ⟨h.kd, h.n, h.lv.later k⟩
def ActsM (acs : List ActM) (v : Value) (w : World) : Prop := (∀ a ∈ acs, a.good w) ∧ ∃ p c, v = .slice p acs.length c ∧
  (acs.length = 0 ∨ ∃ b off, p = some ⟨b, off, none⟩ ∧ ∀ k (h : k < acs.length), ∀ j, j < 3 → w.cell? ⟨b, off + k * 3 + j, none⟩ = acs[k].cells[j]?)

section
variable {H : Type} {enc : TypeId × Value → H} {w : World} {base : Nat} {spare : Nat → Bool} {held : Bool}

theorem cellsAM : Try.prog.cellsOf 42 = 3 := by kernel_rfl
theorem cellsU1 : Try.prog.cellsOf 5 = 1 := by kernel_rfl
theorem cellsRs : Try.prog.cellsOf 22 = 1 := by kernel_rfl

theorem trod_actM {fuel : Nat} {cs : List Value} {x : DataW H × List MemPlace} (h : DataW.trod enc Try.prog w base spare held fuel 42 cs = some x) : ∃ a : ActM, a.good w ∧ cs = a.cells := by
  obtain ⟨xs, n, _, _, hsz, hlen, hg⟩ := DataW.trod_struct Try.underlying42 h
  match cs, hsz.trans cellsAM with
  | [c0, c1, c2], _ =>
    match xs, hlen with
    | [y0, y1, y2], _ =>
      have g0 : DataW.trod enc Try.prog w base spare held n 5 [c0] = some y0 := by simpa [cellsU1] using hg 0 _ rfl
      have g1 : DataW.trod enc Try.prog w base spare held n 3 [c1] = some y1 := by simpa [cellsR1] using hg 1 _ rfl
      have g2 : DataW.trod enc Try.prog w base spare held n 22 [c2] = some y2 := by simpa [cellsRs] using hg 2 _ rfl
      obtain ⟨n0, e0, _, w0⟩ := DataW.trod_int Try.underlying5 g0
      obtain ⟨n1, e1, _, w1⟩ := DataW.trod_int Try.underlying3 g1
      obtain ⟨v2, l2, e2, w2, _⟩ := open_runs g2
      simp only [List.cons.injEq, and_true] at e0 e1 e2
      subst e0 e1 e2
      exact ⟨⟨n0, n1, l2, _⟩, ⟨w0, w1, w2⟩, rfl⟩

theorem open_actsM {fuel : Nat} {cs : List Value} {x : DataW H × List MemPlace} (h : DataW.trod enc Try.prog w base spare held fuel 34 cs = some x) : ∃ (v : Value) (acs : List ActM), cs = [v] ∧ ActsM acs v w ∧ acs.length ≤ maxLen := by
  rcases DataW.trod_slice Try.underlying34 h with ⟨rfl, _⟩ | ⟨a, len, cap, elems, rest, m, _, rfl, _, hb, hl, hm, hlen, hel, _, _⟩
  · exact ⟨_, [], rfl, ⟨by simp, none, 0, rfl, Or.inl rfl⟩, by simp⟩
  have each : ∀ i, i < len → ∃ r : ActM, r.good w ∧ ∀ j, j < 3 → w.cell? ((a.add (i * 3)).add j) = r.cells[j]? := by
    intro i hi
    have := hel i hi
    rw [cellsAM, List.getElem?_eq_getElem (by omega), Option.bind_eq_some_iff] at this
    obtain ⟨cs', hcs, hy⟩ := this
    obtain ⟨r, hr, rfl⟩ := trod_actM hy
    refine ⟨r, hr, fun j hj => ?_⟩
    unfold World.cells? at hcs
    split at hcs
    · have := mapM_some_get hcs j j (by simp [hj])
      exact this
    · simp at hcs
  have all : ∃ acs : List ActM, acs.length = len ∧ (∀ r ∈ acs, r.good w) ∧ ∀ i (h : i < acs.length), ∀ j, j < 3 → w.cell? ((a.add (i * 3)).add j) = acs[i].cells[j]? := by
    refine ⟨(List.range len).map fun i => if h : i < len then (each i h).choose else ⟨0, 0, [], .nilFunc⟩, by simp, ?_, ?_⟩
    · intro r hr
      obtain ⟨i, hi, rfl⟩ := List.mem_map.1 hr
      have hi' : i < len := by simpa using hi
      rw [dif_pos hi']
      exact (each i hi').choose_spec.1
    · intro i hi j hj
      have hi' : i < len := by simpa using hi
      simp only [List.getElem_map, List.getElem_range]
      rw [dif_pos hi']
      exact (each i hi').choose_spec.2 j hj
  obtain ⟨acs, has, hgood, hcell⟩ := all
  refine ⟨_, acs, rfl, ⟨hgood, some a, cap, by rw [has], ?_⟩, by omega⟩
  by_cases hz : len = 0
  · exact Or.inl (by omega)
  · right
    have ha0 := hcell 0 (by omega) 0 (by omega)
    rw [Nat.zero_mul] at ha0
    have ha := spot_none2 ha0
    refine ⟨a.block, a.off, by rw [← ha], fun k hk j hj => ?_⟩
    have h := hcell k hk j hj
    rw [ha, addr_add, addr_add] at h
    exact h
end

end Go.Proofs.Ytkdodffnakdckaa
