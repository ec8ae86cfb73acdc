/- Runs as arguments. -/
import Derived.Test.YtlfmmhalheohdaaDoorGB
import Derived.Test.YtlfmmhalheohdaaDoorZRow
import Derived.OpenShut
import Derived.ChangeSlices
namespace Go.Proofs.YtlfmmhalheohdaaDoor
open Go.ChangeShapes Go.WideShapes Go.RowKit

section
variable {H : Type} {enc : TypeId × Value → H} {w : World} {base : Nat} {spare : Nat → Bool} {held : Bool}

theorem cellsR : Tryd.prog.cellsOf 48 = 2 := by kernel_rfl
theorem cellsR1 : Tryd.prog.cellsOf 3 = 1 := by kernel_rfl

set_option maxRecDepth 100000 in
theorem trod_run {fuel : Nat} {cs : List Value} {x : DataW H × List MemPlace} (h : DataW.trod enc Tryd.prog w base spare held fuel 48 cs = some x) : ∃ r : Int × Int, wfR [r] ∧ cs = runC [r] := by
  obtain ⟨xs, n, _, _, hsz, hlen, hg⟩ := DataW.trod_struct Tryd.underlying48 h
  match cs, hsz.trans cellsR with
  | [c0, c1], _ =>
    match xs, hlen with
    | [y0, y1], _ =>
      have g0 : DataW.trod enc Tryd.prog w base spare held n 3 [c0] = some y0 := by simpa [cellsR1] using hg 0 _ rfl
      have g1 : DataW.trod enc Tryd.prog w base spare held n 3 [c1] = some y1 := by simpa [cellsR1] using hg 1 _ rfl
      obtain ⟨n0, e0, _, w0⟩ := DataW.trod_int Tryd.underlying3 g0
      obtain ⟨n1, e1, _, w1⟩ := DataW.trod_int Tryd.underlying3 g1
      simp only [List.cons.injEq, and_true] at e0 e1
      subst e0 e1
      exact ⟨(n0, n1), fun r hr => by rw [List.mem_singleton.1 hr]; exact ⟨wf_I64 w0, wf_I64 w1⟩, rfl⟩

set_option maxRecDepth 100000 in
theorem open_runs {fuel : Nat} {cs : List Value} {x : DataW H × List MemPlace} (h : DataW.trod enc Tryd.prog w base spare held fuel 23 cs = some x) : ∃ (v : Value) (l : List (Int × Int)), cs = [v] ∧ RunsAt l v w ∧ l.length ≤ maxLen := by
  rcases DataW.trod_slice Tryd.underlying23 h with ⟨rfl, _⟩ | ⟨a, len, cap, elems, rest, m, _, rfl, hc1, hb, hl, hm, hlen, hel, _, _⟩
  · exact ⟨_, [], rfl, RunsAt.nil w 0, by simp⟩
  have each : ∀ i, i < len → ∃ r : Int × Int, wfR [r] ∧ ∀ j, j < 2 → w.cell? ((a.add (i * 2)).add j) = (runC [r])[j]? := by
    intro i hi
    have := hel i hi
    rw [cellsR, List.getElem?_eq_getElem (by omega), Option.bind_eq_some_iff] at this
    obtain ⟨cs', hcs, hy⟩ := this
    obtain ⟨r, hr, rfl⟩ := trod_run hy
    refine ⟨r, hr, fun j hj => ?_⟩
    unfold World.cells? at hcs
    split at hcs
    · have := mapM_some_get hcs j j (by simp [hj])
      exact this
    · simp at hcs
  have all : ∃ l : List (Int × Int), l.length = len ∧ wfR l ∧ ∀ i (h : i < l.length), ∀ j, j < 2 → w.cell? ((a.add (i * 2)).add j) = (runC [l[i]])[j]? := by
    refine ⟨(List.range len).map fun i => if h : i < len then (each i h).choose else (0, 0), by simp, ?_, ?_⟩
    · intro r hr
      obtain ⟨i, hi, rfl⟩ := List.mem_map.1 hr
      have hi' : i < len := by simpa using hi
      rw [dif_pos hi']
      exact (each i hi').choose_spec.1 _ (by simp)
    · intro i hi j hj
      have hi' : i < len := by simpa using hi
      simp only [List.getElem_map, List.getElem_range]
      rw [dif_pos hi']
      exact (each i hi').choose_spec.2 j hj
  obtain ⟨l, hll, hwf, hcell⟩ := all
  refine ⟨_, l, rfl, ?_, by omega⟩
  rw [← hll]
  by_cases hz : len = 0
  · exact RunsAt.of_cells hwf _ _ (by omega) (Or.inl (by omega))
  · have ha0 := hcell 0 (by omega) 0 (by omega)
    rw [Nat.zero_mul] at ha0
    have ha := spot_none2 ha0
    refine RunsAt.of_cells hwf _ _ (by omega) (Or.inr ⟨a.block, a.off, by rw [← ha], fun j x hx => ?_⟩)
    have hjl : j < l.length * 2 := by rw [← runC_len]; exact (List.getElem?_eq_some_iff.1 hx).1
    have hi : j / 2 < l.length := by omega
    have h1 := hcell (j / 2) hi (j % 2) (by omega)
    rw [ha, addr_add, addr_add] at h1
    have e : a.off + j / 2 * 2 + j % 2 = a.off + j := by omega
    rw [e] at h1
    rw [h1, ← hx]
    have hg := runC_get l (j / 2) hi
    rcases Nat.mod_two_eq_zero_or_one j with h2 | h2
    · rw [h2, show (runC l)[j]? = (runC l)[j / 2 * 2]? by congr 1; omega, hg.1]; rfl
    · rw [h2, show (runC l)[j]? = (runC l)[j / 2 * 2 + 1]? by congr 1; omega, hg.2]; rfl

end

end Go.Proofs.YtlfmmhalheohdaaDoor
