/- Rows of cells that came in; of no program. Runs as arguments. Acts of the statements on blob as arguments. -/
import Derived.Test.YtppbknlhknadbaaGA
import Derived.Test.YtppbknlhknadbaaGB
import Derived.OpenShut
import Derived.ChangeSlices
import Derived.Test.YtppbknlhknadbaaGH
namespace Go.Proofs.Ytppbknlhknadbaa
open Go.RowKit

theorem spot_none {w : World} {a : Addr} {v : Value} (h : w.cell? ((a.add 0).add 0) = some v) : a = ⟨a.block, a.off, none⟩ := by
  have hs : ((a.add 0).add 0) = a.add 0 := by
    obtain ⟨b, o, sp⟩ := a
    cases sp with
    | none => rw [addr_add, addr_add]
    | some x => simp [Addr.add]
  rw [hs] at h
  exact addr_cell h

/-- Where cells lie together: a part of a row. -/
theorem row_cells5 {w : World} {b o n : Nat} (C : Array Value) (hn : C.size = n) (h : ∀ j, j < n → w.cell? ⟨b, o + j, none⟩ = C[j]?) (h0 : 0 < n := by decide) :
    ∃ cs t fr, w.heap[b]? = some (.cells cs t fr) ∧ o + n ≤ cs.size ∧ cs.extract o (o + n) = C := by
  have hz := h 0 h0
  have hC0 : C[0]? = some C[0] := Array.getElem?_eq_getElem (by omega)
  rw [hC0] at hz
  unfold World.cell? at hz
  split at hz
  · rename_i cs t fr hb
    have each : ∀ j, j < n → cs[o + j]? = C[j]? := by
      intro j hj
      have := h j hj
      unfold World.cell? at this
      simpa [hb] using this
    have hsz : o + n ≤ cs.size := by
      have h1 := each (n - 1) (by omega)
      rw [Array.getElem?_eq_getElem (by omega : n - 1 < C.size)] at h1
      have := (Array.getElem?_eq_some_iff.1 h1).1
      omega
    refine ⟨cs, t, fr, hb, hsz, ?_⟩
    apply Array.ext_getElem?
    intro j
    by_cases hj : j < n
    · rw [Array.getElem?_extract, if_pos (by omega), each j hj]
    · rw [Array.getElem?_eq_none (by rw [Array.size_extract]; omega), Array.getElem?_eq_none (by omega)]
  · simp_all

theorem spot_none2 {w : World} {a : Addr} {x : Option Value} (h : w.cell? ((a.add 0).add 0) = x) (hx : x.isSome = true := by rfl) : a = ⟨a.block, a.off, none⟩ := by
  obtain ⟨v, hv⟩ := Option.isSome_iff_exists.1 hx
  rw [hv] at h
  exact spot_none h

end Go.Proofs.Ytppbknlhknadbaa
namespace Go.Proofs.Ytppbknlhknadbaa
open Go.ChangeShapes Go.WideShapes Go.RowKit

section
variable {H : Type} {enc : TypeId × Value → H} {w : World} {base : Nat} {spare : Nat → Bool} {held : Bool}

theorem cellsR : Try.prog.cellsOf 66 = 2 := by kernel_rfl
theorem cellsR1 : Try.prog.cellsOf 3 = 1 := by kernel_rfl

set_option maxRecDepth 100000 in
theorem trod_run {fuel : Nat} {cs : List Value} {x : DataW H × List MemPlace} (h : DataW.trod enc Try.prog w base spare held fuel 66 cs = some x) : ∃ r : Int × Int, wfR [r] ∧ cs = runC [r] := by
  obtain ⟨xs, n, _, _, hsz, hlen, hg⟩ := DataW.trod_struct Try.underlying66 h
  match cs, hsz.trans cellsR with
  | [c0, c1], _ =>
    match xs, hlen with
    | [y0, y1], _ =>
      have g0 : DataW.trod enc Try.prog w base spare held n 3 [c0] = some y0 := by simpa [cellsR1] using hg 0 _ rfl
      have g1 : DataW.trod enc Try.prog w base spare held n 3 [c1] = some y1 := by simpa [cellsR1] using hg 1 _ rfl
      obtain ⟨n0, e0, _, w0⟩ := DataW.trod_int Try.underlying3 g0
      obtain ⟨n1, e1, _, w1⟩ := DataW.trod_int Try.underlying3 g1
      simp only [List.cons.injEq, and_true] at e0 e1
      subst e0 e1
      exact ⟨(n0, n1), fun r hr => by rw [List.mem_singleton.1 hr]; exact ⟨wf_I64 w0, wf_I64 w1⟩, rfl⟩

set_option maxRecDepth 100000 in
theorem open_runs {fuel : Nat} {cs : List Value} {x : DataW H × List MemPlace} (h : DataW.trod enc Try.prog w base spare held fuel 22 cs = some x) : ∃ (v : Value) (l : List (Int × Int)), cs = [v] ∧ RunsAt l v w ∧ l.length ≤ maxLen := by
  rcases DataW.trod_slice Try.underlying22 h with ⟨rfl, _⟩ | ⟨a, len, cap, elems, rest, m, _, rfl, hc1, hb, hl, hm, hlen, hel, _, _⟩
  · exact ⟨_, [], rfl, RunsAt.nil w 0, by simp⟩
  have each : ∀ i, i < len → ∃ r : Int × Int, wfR [r] ∧ ∀ j, j < 2 → w.cell? ((a.add (i * 2)).add j) = (runC [r])[j]? := by
    intro i hi
    have := hel i hi
    rw [cellsR, List.getElem?_eq_getElem (by omega), Option.bind_eq_some_iff] at this
    obtain ⟨cs', hcs, hy⟩ := this
    obtain ⟨r, hr, rfl⟩ := trod_run hy
    refine ⟨r, hr, fun j hj => ?_⟩
    unfold World.cells? at hcs
    split at hcs
    · have := mapM_some_get hcs j j (by simp [hj])
      exact this
    · simp at hcs
  have all : ∃ l : List (Int × Int), l.length = len ∧ wfR l ∧ ∀ i (h : i < l.length), ∀ j, j < 2 → w.cell? ((a.add (i * 2)).add j) = (runC [l[i]])[j]? := by
    refine ⟨(List.range len).map fun i => if h : i < len then (each i h).choose else (0, 0), by simp, ?_, ?_⟩
    · intro r hr
      obtain ⟨i, hi, rfl⟩ := List.mem_map.1 hr
      have hi' : i < len := by simpa using hi
      rw [dif_pos hi']
      exact (each i hi').choose_spec.1 _ (by simp)
    · intro i hi j hj
      have hi' : i < len := by simpa using hi
      simp only [List.getElem_map, List.getElem_range]
      rw [dif_pos hi']
      exact (each i hi').choose_spec.2 j hj
  obtain ⟨l, hll, hwf, hcell⟩ := all
  refine ⟨_, l, rfl, ?_, by omega⟩
  rw [← hll]
  by_cases hz : len = 0
  · exact RunsAt.of_cells hwf _ _ (by omega) (Or.inl (by omega))
  · have ha0 := hcell 0 (by omega) 0 (by omega)
    rw [Nat.zero_mul] at ha0
    have ha := spot_none2 ha0
    refine RunsAt.of_cells hwf _ _ (by omega) (Or.inr ⟨a.block, a.off, by rw [← ha], fun j x hx => ?_⟩)
    have hjl : j < l.length * 2 := by rw [← runC_len]; exact (List.getElem?_eq_some_iff.1 hx).1
    have hi : j / 2 < l.length := by omega
    have h1 := hcell (j / 2) hi (j % 2) (by omega)
    rw [ha, addr_add, addr_add] at h1
    have e : a.off + j / 2 * 2 + j % 2 = a.off + j := by omega
    rw [e] at h1
    rw [h1, ← hx]
    have hg := runC_get l (j / 2) hi
    rcases Nat.mod_two_eq_zero_or_one j with h2 | h2
    · rw [h2, show (runC l)[j]? = (runC l)[j / 2 * 2]? by congr 1; omega, hg.1]; rfl
    · rw [h2, show (runC l)[j]? = (runC l)[j / 2 * 2 + 1]? by congr 1; omega, hg.2]; rfl

end

end Go.Proofs.Ytppbknlhknadbaa
namespace Go.Proofs.Ytppbknlhknadbaa
open Go.ChangeShapes Go.WideShapes Go.RowKit

section
variable {H : Type} {enc : TypeId × Value → H} {w : World} {base : Nat} {spare : Nat → Bool} {held : Bool}

theorem cellsAB : Try.prog.cellsOf 41 = 6 := by kernel_rfl
theorem cellsBU : Try.prog.cellsOf 5 = 1 := by kernel_rfl
theorem cellsBR : Try.prog.cellsOf 22 = 1 := by kernel_rfl

theorem u8_val {n : Int} (h : (Lit.int .u8 n).wf = true) : 0 ≤ n ∧ ∃ c : UInt8, (c.toNat : Int) = n := by
  have h0 : 0 ≤ n ∧ n ≤ 255 := by
    have := h
    simp [Lit.wf, IntKind.min, IntKind.max, IntKind.signed, IntKind.bits] at this
    omega
  refine ⟨h0.1, UInt8.ofNat n.toNat, ?_⟩
  rw [UInt8.toNat_ofNat']
  omega

set_option maxRecDepth 100000 in
theorem trod_actB {fuel : Nat} {cs : List Value} {x : DataW H × List MemPlace} (h : DataW.trod enc Try.prog w base spare held fuel 41 cs = some x) : ∃ a : ActB12, a.good w ∧ cs = a.cells.toList := by
  obtain ⟨xs, n, _, _, hsz, hlen, hg⟩ := DataW.trod_struct Try.underlying41 h
  match cs, hsz.trans cellsAB with
  | [c0, c1, c2, c3, c4, c5], _ =>
    match xs, hlen with
    | [y0, y1, y2, y3, y4, y5], _ =>
      have g0 : DataW.trod enc Try.prog w base spare held n 5 [c0] = some y0 := by simpa [cellsBU] using hg 0 _ rfl
      have g1 : DataW.trod enc Try.prog w base spare held n 22 [c1] = some y1 := by simpa [cellsBR] using hg 1 _ rfl
      have g2 : DataW.trod enc Try.prog w base spare held n 22 [c2] = some y2 := by simpa [cellsBR] using hg 2 _ rfl
      have g3 : DataW.trod enc Try.prog w base spare held n 3 [c3] = some y3 := by simpa [cellsR1] using hg 3 _ rfl
      have g4 : DataW.trod enc Try.prog w base spare held n 5 [c4] = some y4 := by simpa [cellsBU] using hg 4 _ rfl
      have g5 : DataW.trod enc Try.prog w base spare held n 3 [c5] = some y5 := by simpa [cellsR1] using hg 5 _ rfl
      obtain ⟨n0, e0, _, w0⟩ := DataW.trod_int Try.underlying5 g0
      obtain ⟨v1, l1, e1, w1, _⟩ := open_runs g1
      obtain ⟨v2, l2, e2, w2, _⟩ := open_runs g2
      obtain ⟨n3, e3, _, w3⟩ := DataW.trod_int Try.underlying3 g3
      obtain ⟨n4, e4, _, w4⟩ := DataW.trod_int Try.underlying5 g4
      obtain ⟨n5, e5, _, w5⟩ := DataW.trod_int Try.underlying3 g5
      simp only [List.cons.injEq, and_true] at e0 e1 e2 e3 e4 e5
      obtain ⟨-, c, rfl⟩ := u8_val w4
      subst e0 e1 e2 e3 e4 e5
      exact ⟨⟨n0, l1, _, l2, _, n3, c, n5⟩, ⟨(u8_val w0).1, w1, w2, wf_I64 w3, wf_I64 w5⟩, rfl⟩

set_option maxRecDepth 100000 in
theorem open_actsB {fuel : Nat} {cs : List Value} {x : DataW H × List MemPlace} (h : DataW.trod enc Try.prog w base spare held fuel 32 cs = some x) : ∃ (v : Value) (acs : List ActB12), cs = [v] ∧ ActsB acs v w ∧ acs.length ≤ maxLen := by
  rcases DataW.trod_slice Try.underlying32 h with ⟨rfl, _⟩ | ⟨a, len, cap, elems, rest, m, _, rfl, _, hb, hl, hm, hlen, hel, _, _⟩
  · exact ⟨_, [], rfl, ⟨by simp, none, 0, rfl, Or.inl rfl⟩, by simp⟩
  have each : ∀ i, i < len → ∃ r : ActB12, r.good w ∧ ∀ j, j < 6 → w.cell? ((a.add (i * 6)).add j) = r.cells[j]? := by
    intro i hi
    have := hel i hi
    rw [cellsAB, List.getElem?_eq_getElem (by omega), Option.bind_eq_some_iff] at this
    obtain ⟨cs', hcs, hy⟩ := this
    obtain ⟨r, hr, rfl⟩ := trod_actB hy
    refine ⟨r, hr, fun j hj => ?_⟩
    unfold World.cells? at hcs
    split at hcs
    · have := mapM_some_get hcs j j (by simp [hj])
      rw [this, Array.getElem?_toList]
    · simp at hcs
  have all : ∃ acs : List ActB12, acs.length = len ∧ (∀ r ∈ acs, r.good w) ∧ ∀ i (h : i < acs.length), ∀ j, j < 6 → w.cell? ((a.add (i * 6)).add j) = acs[i].cells[j]? := by
    refine ⟨(List.range len).map fun i => if h : i < len then (each i h).choose else ⟨0, [], .nilFunc, [], .nilFunc, 0, 0, 0⟩, by simp, ?_, ?_⟩
    · intro r hr
      obtain ⟨i, hi, rfl⟩ := List.mem_map.1 hr
      have hi' : i < len := by simpa using hi
      rw [dif_pos hi']
      exact (each i hi').choose_spec.1
    · intro i hi j hj
      have hi' : i < len := by simpa using hi
      simp only [List.getElem_map, List.getElem_range]
      rw [dif_pos hi']
      exact (each i hi').choose_spec.2 j hj
  obtain ⟨acs, has, hgood, hcell⟩ := all
  refine ⟨_, acs, rfl, ⟨hgood, some a, cap, by rw [has], ?_⟩, by omega⟩
  by_cases hz : len = 0
  · exact Or.inl (by omega)
  · right
    have ha0 := hcell 0 (by omega) 0 (by omega)
    rw [Nat.zero_mul] at ha0
    have ha := spot_none2 ha0
    refine ⟨a.block, a.off, by rw [← ha], fun k hk j u hu => ?_⟩
    have hj : j < 6 := (List.getElem?_eq_some_iff.1 hu).1
    have h := hcell k hk j hj
    rw [ha, addr_add, addr_add] at h
    rw [h, ← Array.getElem?_toList]
    exact hu
end

end Go.Proofs.Ytppbknlhknadbaa
