/- Rows of cells that came in; of no program. Slices of records as arguments. Recipes, slices of them, slices of numbers of 32 bits, as arguments. -/
import Derived.Test.YtijdbmapdmhknaaDoorGA
import Derived.Test.YtijdbmapdmhknaaDoorRws
import Derived.OpenShut
import Derived.ChangeSlices
import Derived.Lib.SmallJoins
import Derived.Test.YtijdbmapdmhknaaDoorRqR
namespace Go.Proofs.YtijdbmapdmhknaaDoor
open Go.RowKit

theorem spot_none {w : World} {a : Addr} {v : Value} (h : w.cell? ((a.add 0).add 0) = some v) : a = ⟨a.block, a.off, none⟩ := by
  have hs : ((a.add 0).add 0) = a.add 0 := by
    obtain ⟨b, o, sp⟩ := a
    cases sp with
    | none => rw [addr_add, addr_add]
    | some x => simp [Addr.add]
  rw [hs] at h
  exact addr_cell h

/-- Where cells lie together: a part of a row. -/
theorem row_cells5 {w : World} {b o n : Nat} (C : Array Value) (hn : C.size = n) (h : ∀ j, j < n → w.cell? ⟨b, o + j, none⟩ = C[j]?) (h0 : 0 < n := by decide) :
    ∃ cs t fr, w.heap[b]? = some (.cells cs t fr) ∧ o + n ≤ cs.size ∧ cs.extract o (o + n) = C := by
  have hz := h 0 h0
  have hC0 : C[0]? = some C[0] := Array.getElem?_eq_getElem (by omega)
  rw [hC0] at hz
  unfold World.cell? at hz
  split at hz
  · rename_i cs t fr hb
    have each : ∀ j, j < n → cs[o + j]? = C[j]? := by
      intro j hj
      have := h j hj
      unfold World.cell? at this
      simpa [hb] using this
    have hsz : o + n ≤ cs.size := by
      have h1 := each (n - 1) (by omega)
      rw [Array.getElem?_eq_getElem (by omega : n - 1 < C.size)] at h1
      have := (Array.getElem?_eq_some_iff.1 h1).1
      omega
    refine ⟨cs, t, fr, hb, hsz, ?_⟩
    apply Array.ext_getElem?
    intro j
    by_cases hj : j < n
    · rw [Array.getElem?_extract, if_pos (by omega), each j hj]
    · rw [Array.getElem?_eq_none (by rw [Array.size_extract]; omega), Array.getElem?_eq_none (by omega)]
  · simp_all

theorem spot_none2 {w : World} {a : Addr} {x : Option Value} (h : w.cell? ((a.add 0).add 0) = x) (hx : x.isSome = true := by rfl) : a = ⟨a.block, a.off, none⟩ := by
  obtain ⟨v, hv⟩ := Option.isSome_iff_exists.1 hx
  rw [hv] at h
  exact spot_none h

end Go.Proofs.YtijdbmapdmhknaaDoor
namespace Go.Proofs.YtijdbmapdmhknaaDoor
open Go.Joins Go.ChangeShapes Go.WideShapes Go.RowKit Go.Deep

section
variable {H : Type} {ec : TypeId × Value → H} {w : World} {base : Nat} {spare : Nat → Bool} {held : Bool} {P : Program}

theorem flatR_at {α : Type} {enc : α → List Value} {k : Nat} {ok : α → Prop} (E : Enc enc k ok) (l : List α) (h : ∀ a ∈ l, ok a) {j : Nat} {x : Value} (hx : (flatR enc l)[j]? = some x) :
    ∃ hi : j / k < l.length, (enc (l[j / k]))[j % k]? = some x := by
  have hj : j < l.length * k := by rw [← flatR_len E l h]; exact (List.getElem?_eq_some_iff.1 hx).1
  have hi : j / k < l.length := (Nat.div_lt_iff_lt_mul E.pos).2 hj
  refine ⟨hi, ?_⟩
  rw [← flatR_get E l h (j / k) hi (j % k) (Nat.mod_lt _ E.pos)]
  have e : j / k * k + j % k = j := by rw [Nat.mul_comm]; exact Nat.div_add_mod j k
  rw [e]
  exact hx
theorem open_rowsG {α : Type} [Inhabited α] {enc : α → List Value} {k : Nat} {ok : α → Prop} (E : Enc enc k ok) {S T fuel : Nat} {cs : List Value} {x : DataW H × List MemPlace} (hS : P.underlying S = some (.slice T)) (hC : P.cellsOf T = k)
    (hr : ∀ {fuel : Nat} {cs : List Value} {x : DataW H × List MemPlace}, DataW.trod ec P w base spare held fuel T cs = some x → ∃ r : α, ok r ∧ cs = enc r)
    (h : DataW.trod ec P w base spare held fuel S cs = some x) : ∃ (v : Value) (l : List α), cs = [v] ∧ RowsAt enc k ok l v w ∧ l.length ≤ maxLen := by
  have hk := E.pos
  rcases DataW.trod_slice hS h with ⟨rfl, _⟩ | ⟨a, len, cap, elems, rest, m, _, rfl, hc1, hb, hl, hm, hlen, hel, _, _⟩
  · exact ⟨_, [], rfl, RowsAt.nil w 0, by simp⟩
  have each : ∀ i, i < len → ∃ r : α, ok r ∧ ∀ j, j < k → w.cell? ((a.add (i * k)).add j) = (enc r)[j]? := by
    intro i hi
    have := hel i hi
    rw [hC, List.getElem?_eq_getElem (by omega), Option.bind_eq_some_iff] at this
    obtain ⟨cs', hcs, hy⟩ := this
    obtain ⟨r, hr, rfl⟩ := hr hy
    refine ⟨r, hr, fun j hj => ?_⟩
    unfold World.cells? at hcs
    split at hcs
    · have := mapM_some_get hcs j j (by simp [hj])
      exact this
    · simp at hcs
  have all : ∃ l : List α, l.length = len ∧ (∀ r ∈ l, ok r) ∧ ∀ i (h : i < l.length), ∀ j, j < k → w.cell? ((a.add (i * k)).add j) = (enc l[i])[j]? := by
    refine ⟨(List.range len).map fun i => if h : i < len then (each i h).choose else default, by simp, ?_, ?_⟩
    · intro r hr
      obtain ⟨i, hi, rfl⟩ := List.mem_map.1 hr
      have hi' : i < len := by simpa using hi
      rw [dif_pos hi']
      exact (each i hi').choose_spec.1
    · intro i hi j hj
      have hi' : i < len := by simpa using hi
      simp only [List.getElem_map, List.getElem_range]
      rw [dif_pos hi']
      exact (each i hi').choose_spec.2 j hj
  obtain ⟨l, hll, hwf, hcell⟩ := all
  refine ⟨_, l, rfl, ?_, by omega⟩
  refine ⟨fun p n c e => ?_, hwf, ?_⟩
  · simp only [Value.slice.injEq] at e
    omega
  · refine ⟨flatR_len E l hwf, flatR_ones E l hwf, some a, cap, by rw [hll], ?_⟩
    by_cases hz : len = 0
    · exact Or.inl (by omega)
    · right
      have ha0 := hcell 0 (by omega) 0 hk
      rw [Nat.zero_mul] at ha0
      have ha := spot_none2 ha0 (by
        have := hwf _ (List.getElem_mem (show 0 < l.length by omega))
        rw [List.getElem?_eq_getElem (by rw [E.len _ this]; exact hk)]
        rfl)
      refine ⟨a.block, a.off, by rw [← ha], fun j x hx => ?_⟩
      obtain ⟨hi, hx2⟩ := flatR_at E l hwf hx
      have h1 := hcell (j / k) hi (j % k) (Nat.mod_lt _ hk)
      rw [ha, addr_add, addr_add, hx2] at h1
      have e : a.off + j / k * k + j % k = a.off + j := by
        have := Nat.div_add_mod j k
        rw [Nat.mul_comm] at this
        omega
      rw [e] at h1
      exact h1
end

end Go.Proofs.YtijdbmapdmhknaaDoor
namespace Go.Proofs.YtijdbmapdmhknaaDoor
open Go.Joins Go.ChangeShapes Go.WideShapes Go.RowKit Go.Deep

section
variable {H : Type} {ec : TypeId × Value → H} {w : World} {base : Nat} {spare : Nat → Bool} {held : Bool}

theorem cellsRp : Tryd.prog.cellsOf 24 = 5 := by kernel_rfl
theorem cellsIntQ : Tryd.prog.cellsOf 3 = 1 := by kernel_rfl
theorem cellsStrQ : Tryd.prog.cellsOf 9 = 1 := by kernel_rfl
theorem cellsU32Q : Tryd.prog.cellsOf 53 = 1 := by kernel_rfl
theorem cellsUsQ : Tryd.prog.cellsOf 22 = 1 := by kernel_rfl
theorem wfQ_i64 {i : Int} (h : (Lit.int .i64 i).wf = true) : isQ i := by
  have h2 : -9223372036854775808 ≤ i ∧ i ≤ 9223372036854775807 := by simpa [Lit.wf, IntKind.min, IntKind.max, IntKind.signed, IntKind.bits] using h
  exact h2
theorem wfQ_u32 {i : Int} (h : (Lit.int .u32 i).wf = true) : 0 ≤ i ∧ i < 4294967296 := by
  have h2 : 0 ≤ i ∧ i ≤ 4294967295 := by simpa [Lit.wf, IntKind.min, IntKind.max, IntKind.signed, IntKind.bits] using h
  omega
theorem trod_u {fuel : Nat} {cs : List Value} {x : DataW H × List MemPlace} (h : DataW.trod ec Tryd.prog w base spare held fuel 53 cs = some x) : ∃ r : Nat, wfU r ∧ cs = uL r := by
  obtain ⟨n0, e0, _, w0⟩ := DataW.trod_int Tryd.underlying53 h
  have h0 := wfQ_u32 w0
  obtain ⟨q, rfl⟩ := Int.eq_ofNat_of_zero_le h0.1
  exact ⟨q, by show q < 4294967296; omega, e0⟩
theorem open_us {fuel : Nat} {cs : List Value} {x : DataW H × List MemPlace} (h : DataW.trod ec Tryd.prog w base spare held fuel 22 cs = some x) : ∃ (v : Value) (l : List Nat), cs = [v] ∧ UsAt l v w ∧ l.length ≤ maxLen :=
  open_rowsG encU Tryd.underlying22 cellsU32Q trod_u h

/-- A recipe whose manifests lie in this memory. -/
def okRpW (w : World) (a : Rp × Value) : Prop := okRp a ∧ RpAt a.1 a.2 w
theorem encRpW (w : World) : Enc rpL 5 (okRpW w) := ⟨fun a ha => encRp.len a ha.1, fun a ha => encRp.one a ha.1, by decide⟩
set_option maxRecDepth 100000 in
theorem trod_rp {fuel : Nat} {cs : List Value} {x : DataW H × List MemPlace} (h : DataW.trod ec Tryd.prog w base spare held fuel 24 cs = some x) : ∃ r : Rp × Value, okRpW w r ∧ cs = rpL r := by
  obtain ⟨xs, n, _, _, hsz, hlen, hg⟩ := DataW.trod_struct Tryd.underlying24 h
  match cs, hsz.trans cellsRp with
  | [c0, c1, c2, c3, c4], _ =>
    match xs, hlen with
    | [y0, y1, y2, y3, y4], _ =>
      have g0 : DataW.trod ec Tryd.prog w base spare held n 9 [c0] = some y0 := by simpa [cellsStrQ] using hg 0 _ rfl
      have g1 : DataW.trod ec Tryd.prog w base spare held n 3 [c1] = some y1 := by simpa [cellsIntQ] using hg 1 _ rfl
      have g2 : DataW.trod ec Tryd.prog w base spare held n 3 [c2] = some y2 := by simpa [cellsIntQ] using hg 2 _ rfl
      have g3 : DataW.trod ec Tryd.prog w base spare held n 3 [c3] = some y3 := by simpa [cellsIntQ] using hg 3 _ rfl
      have g4 : DataW.trod ec Tryd.prog w base spare held n 22 [c4] = some y4 := by simpa [cellsUsQ] using hg 4 _ rfl
      obtain ⟨s, e0, _, w0⟩ := DataW.trod_string Tryd.underlying9 g0
      obtain ⟨n1, e1, _, w1⟩ := DataW.trod_int Tryd.underlying3 g1
      obtain ⟨n2, e2, _, w2⟩ := DataW.trod_int Tryd.underlying3 g2
      obtain ⟨n3, e3, _, w3⟩ := DataW.trod_int Tryd.underlying3 g3
      obtain ⟨v4, l4, e4, w4, _⟩ := open_us g4
      simp only [List.cons.injEq, and_true] at e0 e1 e2 e3 e4
      subst e0 e1 e2 e3 e4
      refine ⟨(⟨s.data.toList, n1, n2, n3, l4⟩, c4), ⟨w4.one_, w4, ⟨?_, wfQ_i64 w1, wfQ_i64 w2, wfQ_i64 w3⟩⟩, ?_⟩
      · show s.data.toList.length ≤ maxLen
        rw [data_len]; exact w0
      · show [_, _, _, _, _] = [_, _, _, _, _]
        rw [str_data]
set_option maxRecDepth 100000 in
theorem open_rps {fuel : Nat} {cs : List Value} {x : DataW H × List MemPlace} (h : DataW.trod ec Tryd.prog w base spare held fuel 49 cs = some x) : ∃ (v : Value) (l : List Rp), cs = [v] ∧ RpsAt l v w ∧ l.length ≤ maxLen := by
  haveI : Inhabited (Rp × Value) := ⟨(Rp.zero, undef)⟩
  obtain ⟨v, A, e, h1, h2⟩ := open_rowsG (encRpW w) Tryd.underlying49 cellsRp trod_rp h
  exact ⟨v, A.map Prod.fst, e, ⟨A, rfl, ⟨fun a ha => (h1.good a ha).2, ⟨h1.cap, fun a ha => (h1.good a ha).1, h1.at_⟩⟩⟩, by rw [List.length_map]; exact h2⟩
set_option maxRecDepth 100000 in
theorem open_rp {r : Reach} {b0 : Nat} {v : Value} {d : DataW H} {p : List MemPlace} (hv : Value.okWide Tryd.prog w r b0 24 v) (h : DataW.Trod ec Tryd.prog w base spare held 24 v d p) : ∃ m : Rp, RpIs m v w := by
  have hs := Tryd.underlying24
  obtain ⟨cs, rfl, hsz⟩ := okWide_struct hs hv
  obtain ⟨fuel, hf⟩ := h
  obtain ⟨a, ha, e⟩ := trod_rp hf
  refine ⟨a.1, a.2, ?_, ha.2⟩
  have e2 : (Value.agg cs).cells = cs := rfl
  rw [e2] at e
  exact congrArg Value.agg (Array.toList_inj.1 e)
end

end Go.Proofs.YtijdbmapdmhknaaDoor
