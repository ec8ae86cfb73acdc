/- Manifests, places, moves as arguments. -/
import Derived.Test.YteompckehokdoaaGreatDoorMnR
import Derived.Test.YteompckehokdoaaGreatDoorZRow
import Derived.OpenShut
import Derived.ChangeSlices
import Derived.Lib.SmallJoins
namespace Go.Proofs.YteompckehokdoaaGreatDoor
open Go.Joins Go.ChangeShapes Go.WideShapes Go.RowKit Go.Deep

section
variable {H : Type} {ec : TypeId × Value → H} {w : World} {base : Nat} {spare : Nat → Bool} {held : Bool} {P : Program}

theorem flatR_at {α : Type} {enc : α → List Value} {k : Nat} {ok : α → Prop} (E : Enc enc k ok) (l : List α) (h : ∀ a ∈ l, ok a) {j : Nat} {x : Value} (hx : (flatR enc l)[j]? = some x) :
    ∃ hi : j / k < l.length, (enc (l[j / k]))[j % k]? = some x := by
  have hj : j < l.length * k := by rw [← flatR_len E l h]; exact (List.getElem?_eq_some_iff.1 hx).1
  have hi : j / k < l.length := (Nat.div_lt_iff_lt_mul E.pos).2 hj
  refine ⟨hi, ?_⟩
  rw [← flatR_get E l h (j / k) hi (j % k) (Nat.mod_lt _ E.pos)]
  have e : j / k * k + j % k = j := by rw [Nat.mul_comm]; exact Nat.div_add_mod j k
  rw [e]
  exact hx
theorem open_rowsG {α : Type} [Inhabited α] {enc : α → List Value} {k : Nat} {ok : α → Prop} (E : Enc enc k ok) {S T fuel : Nat} {cs : List Value} {x : DataW H × List MemPlace} (hS : P.underlying S = some (.slice T)) (hC : P.cellsOf T = k)
    (hr : ∀ {fuel : Nat} {cs : List Value} {x : DataW H × List MemPlace}, DataW.trod ec P w base spare held fuel T cs = some x → ∃ r : α, ok r ∧ cs = enc r)
    (h : DataW.trod ec P w base spare held fuel S cs = some x) : ∃ (v : Value) (l : List α), cs = [v] ∧ RowsAt enc k ok l v w ∧ l.length ≤ maxLen := by
  have hk := E.pos
  rcases DataW.trod_slice hS h with ⟨rfl, _⟩ | ⟨a, len, cap, elems, rest, m, _, rfl, hc1, hb, hl, hm, hlen, hel, _, _⟩
  · exact ⟨_, [], rfl, RowsAt.nil w 0, by simp⟩
  have each : ∀ i, i < len → ∃ r : α, ok r ∧ ∀ j, j < k → w.cell? ((a.add (i * k)).add j) = (enc r)[j]? := by
    intro i hi
    have := hel i hi
    rw [hC, List.getElem?_eq_getElem (by omega), Option.bind_eq_some_iff] at this
    obtain ⟨cs', hcs, hy⟩ := this
    obtain ⟨r, hr, rfl⟩ := hr hy
    refine ⟨r, hr, fun j hj => ?_⟩
    unfold World.cells? at hcs
    split at hcs
    · have := mapM_some_get hcs j j (by simp [hj])
      exact this
    · simp at hcs
  have all : ∃ l : List α, l.length = len ∧ (∀ r ∈ l, ok r) ∧ ∀ i (h : i < l.length), ∀ j, j < k → w.cell? ((a.add (i * k)).add j) = (enc l[i])[j]? := by
    refine ⟨(List.range len).map fun i => if h : i < len then (each i h).choose else default, by simp, ?_, ?_⟩
    · intro r hr
      obtain ⟨i, hi, rfl⟩ := List.mem_map.1 hr
      have hi' : i < len := by simpa using hi
      rw [dif_pos hi']
      exact (each i hi').choose_spec.1
    · intro i hi j hj
      have hi' : i < len := by simpa using hi
      simp only [List.getElem_map, List.getElem_range]
      rw [dif_pos hi']
      exact (each i hi').choose_spec.2 j hj
  obtain ⟨l, hll, hwf, hcell⟩ := all
  refine ⟨_, l, rfl, ?_, by omega⟩
  refine ⟨fun p n c e => ?_, hwf, ?_⟩
  · simp only [Value.slice.injEq] at e
    omega
  · refine ⟨flatR_len E l hwf, flatR_ones E l hwf, some a, cap, by rw [hll], ?_⟩
    by_cases hz : len = 0
    · exact Or.inl (by omega)
    · right
      have ha0 := hcell 0 (by omega) 0 hk
      rw [Nat.zero_mul] at ha0
      have ha := spot_none2 ha0 (by
        have := hwf _ (List.getElem_mem (show 0 < l.length by omega))
        rw [List.getElem?_eq_getElem (by rw [E.len _ this]; exact hk)]
        rfl)
      refine ⟨a.block, a.off, by rw [← ha], fun j x hx => ?_⟩
      obtain ⟨hi, hx2⟩ := flatR_at E l hwf hx
      have h1 := hcell (j / k) hi (j % k) (Nat.mod_lt _ hk)
      rw [ha, addr_add, addr_add, hx2] at h1
      have e : a.off + j / k * k + j % k = a.off + j := by
        have := Nat.div_add_mod j k
        rw [Nat.mul_comm] at this
        omega
      rw [e] at h1
      exact h1
end

section
variable {H : Type} {ec : TypeId × Value → H} {w : World} {base : Nat} {spare : Nat → Bool} {held : Bool}
instance : Inhabited En := ⟨⟨[], 0, 0, 0⟩⟩
theorem cellsEn : Tryz.prog.cellsOf 41 = 35 := by kernel_rfl
theorem cellsPl : Tryz.prog.cellsOf 35 = 2 := by kernel_rfl
theorem cellsMf : Tryz.prog.cellsOf 25 = 2 := by kernel_rfl
theorem cellsFpM : Tryz.prog.cellsOf 39 = 32 := by kernel_rfl
theorem cellsIntM : Tryz.prog.cellsOf 3 = 1 := by kernel_rfl
theorem cellsU32M : Tryz.prog.cellsOf 22 = 1 := by kernel_rfl
theorem cellsEnsM : Tryz.prog.cellsOf 23 = 1 := by kernel_rfl
theorem cellsPlsM : Tryz.prog.cellsOf 28 = 1 := by kernel_rfl
theorem wfM_i64 {i : Int} (h : (Lit.int .i64 i).wf = true) : isI i := by
  have h2 : -9223372036854775808 ≤ i ∧ i ≤ 9223372036854775807 := by simpa [Lit.wf, IntKind.min, IntKind.max, IntKind.signed, IntKind.bits] using h
  exact h2
theorem wfM_u32 {i : Int} (h : (Lit.int .u32 i).wf = true) : 0 ≤ i ∧ i < 4294967296 := by
  have h2 : 0 ≤ i ∧ i ≤ 4294967295 := by simpa [Lit.wf, IntKind.min, IntKind.max, IntKind.signed, IntKind.bits] using h
  omega

set_option maxRecDepth 100000 in
theorem trod_pl {fuel : Nat} {cs : List Value} {x : DataW H × List MemPlace} (h : DataW.trod ec Tryz.prog w base spare held fuel 35 cs = some x) : ∃ r : Pl, wfP r ∧ cs = plL r := by
  obtain ⟨xs, n, _, _, hsz, hlen, hg⟩ := DataW.trod_struct Tryz.underlying35 h
  match cs, hsz.trans cellsPl with
  | [c0, c1], _ =>
    match xs, hlen with
    | [y0, y1], _ =>
      have g0 : DataW.trod ec Tryz.prog w base spare held n 22 [c0] = some y0 := by simpa [cellsU32M] using hg 0 _ rfl
      have g1 : DataW.trod ec Tryz.prog w base spare held n 3 [c1] = some y1 := by simpa [cellsIntM] using hg 1 _ rfl
      obtain ⟨n0, e0, _, w0⟩ := DataW.trod_int Tryz.underlying22 g0
      obtain ⟨n1, e1, _, w1⟩ := DataW.trod_int Tryz.underlying3 g1
      simp only [List.cons.injEq, and_true] at e0 e1
      subst e0 e1
      have h0 := wfM_u32 w0
      obtain ⟨q, rfl⟩ := Int.eq_ofNat_of_zero_le h0.1
      exact ⟨(q, n1), ⟨by show q < 4294967296; omega, wfM_i64 w1⟩, rfl⟩
set_option maxRecDepth 100000 in
theorem trod_en {fuel : Nat} {cs : List Value} {x : DataW H × List MemPlace} (h : DataW.trod ec Tryz.prog w base spare held fuel 41 cs = some x) : ∃ r : En, wfE r ∧ cs = enL r := by
  obtain ⟨xs, n, _, _, hsz, hlen, hg⟩ := DataW.trod_struct Tryz.underlying41 h
  have hsz := hsz.trans cellsEn
  match xs, hlen with
  | [y0, y1, y2, y3], _ =>
    have g0 : DataW.trod ec Tryz.prog w base spare held n 39 (cs.take 32) = some y0 := by simpa [cellsFpM] using hg 0 _ rfl
    have g1 : DataW.trod ec Tryz.prog w base spare held n 3 ((cs.drop 32).take 1) = some y1 := by simpa [cellsIntM] using hg 1 _ rfl
    have g2 : DataW.trod ec Tryz.prog w base spare held n 22 ((cs.drop 33).take 1) = some y2 := by simpa [cellsU32M] using hg 2 _ rfl
    have g3 : DataW.trod ec Tryz.prog w base spare held n 3 ((cs.drop 34).take 1) = some y3 := by simpa [cellsIntM] using hg 3 _ rfl
    obtain ⟨f, hf, e0⟩ := trod_fp Tryz.underlying39 Tryz.underlying5 (by kernel_rfl) cellsFpM g0
    obtain ⟨n1, e1, _, w1⟩ := DataW.trod_int Tryz.underlying3 g1
    obtain ⟨n2, e2, _, w2⟩ := DataW.trod_int Tryz.underlying22 g2
    obtain ⟨n3, e3, _, w3⟩ := DataW.trod_int Tryz.underlying3 g3
    have h2 := wfM_u32 w2
    obtain ⟨q, rfl⟩ := Int.eq_ofNat_of_zero_le h2.1
    refine ⟨⟨f, n1, q, n3⟩, ⟨hf, wfM_i64 w1, by show q < 4294967296; omega, wfM_i64 w3⟩, ?_⟩
    have h34 : cs.drop 34 = [.int .i64 n3] := by
      rw [← e3]
      exact (List.take_of_length_le (by rw [List.length_drop]; omega)).symm
    have d1 : cs.drop 33 = (cs.drop 33).take 1 ++ cs.drop 34 := by rw [← List.drop_drop (i := 1) (j := 33)]; exact (List.take_append_drop 1 _).symm
    have d2 : cs.drop 32 = (cs.drop 32).take 1 ++ cs.drop 33 := by rw [← List.drop_drop (i := 1) (j := 32)]; exact (List.take_append_drop 1 _).symm
    have d3 : cs = cs.take 32 ++ cs.drop 32 := (List.take_append_drop 32 _).symm
    rw [d3, d2, d1, e0, e1, e2, h34]
    rfl
theorem open_pls {fuel : Nat} {cs : List Value} {x : DataW H × List MemPlace} (h : DataW.trod ec Tryz.prog w base spare held fuel 28 cs = some x) : ∃ (v : Value) (l : List Pl), cs = [v] ∧ PlsAt l v w ∧ l.length ≤ maxLen :=
  open_rowsG encP Tryz.underlying28 cellsPl trod_pl h
theorem open_ents {fuel : Nat} {cs : List Value} {x : DataW H × List MemPlace} (h : DataW.trod ec Tryz.prog w base spare held fuel 23 cs = some x) : ∃ (v : Value) (l : List En), cs = [v] ∧ EntsAt l v w ∧ l.length ≤ maxLen :=
  open_rowsG encE Tryz.underlying23 cellsEn trod_en h
set_option maxRecDepth 100000 in
theorem open_mf {r : Reach} {b0 : Nat} {v : Value} {d : DataW H} {p : List MemPlace} (hv : Value.okWide Tryz.prog w r b0 25 v) (h : DataW.Trod ec Tryz.prog w base spare held 25 v d p) : ∃ m : Mf, ManIs m v w ∧ m.es.length ≤ maxLen := by
  have hs := Tryz.underlying25
  obtain ⟨cs, rfl, hsz⟩ := okWide_struct hs hv
  obtain ⟨l⟩ := cs
  match l, hsz.trans cellsMf with
  | [c0, c1], _ =>
    obtain ⟨fuel, hf⟩ := h
    obtain ⟨xs, n, _, hx, _, hlen, hg⟩ := DataW.trod_struct hs hf
    match xs, hlen with
    | [y0, y1], _ =>
      have g0 : DataW.trod ec Tryz.prog w base spare held n 22 [c0] = some y0 := by simpa [Value.cells, cellsU32M] using hg 0 _ rfl
      have g1 : DataW.trod ec Tryz.prog w base spare held n 23 [c1] = some y1 := by simpa [Value.cells, cellsEnsM] using hg 1 _ rfl
      obtain ⟨n0, e0, _, w0⟩ := DataW.trod_int Tryz.underlying22 g0
      obtain ⟨v1, l1, e1, w1, h1⟩ := open_ents g1
      simp only [List.cons.injEq, and_true] at e0 e1
      subst e0 e1
      have h0 := wfM_u32 w0
      obtain ⟨q, rfl⟩ := Int.eq_ofNat_of_zero_le h0.1
      exact ⟨⟨q, l1⟩, ⟨by show q < 4294967296; omega, _, rfl, w1⟩, h1⟩
/-- Moves as they come in: two slices of places. -/
def MovesAt (F T : List Pl) (v : Value) (w : World) : Prop := ∃ vf vt, v = .agg #[vf, vt] ∧ PlsAt F vf w ∧ PlsAt T vt w
end

end Go.Proofs.YteompckehokdoaaGreatDoor
