/- Slices of records as arguments. -/
import Derived.Test.YtaajadmaamjebaaRws
import Derived.Test.YtaajadmaamjebaaZRow
import Derived.OpenShut
import Derived.ChangeSlices
import Derived.Lib.SmallJoins
namespace Go.Proofs.Ytaajadmaamjebaa
open Go.Joins Go.ChangeShapes Go.WideShapes Go.RowKit Go.Deep

section
variable {H : Type} {ec : TypeId × Value → H} {w : World} {base : Nat} {spare : Nat → Bool} {held : Bool} {P : Program}

theorem flatR_at {α : Type} {enc : α → List Value} {k : Nat} {ok : α → Prop} (E : Enc enc k ok) (l : List α) (h : ∀ a ∈ l, ok a) {j : Nat} {x : Value} (hx : (flatR enc l)[j]? = some x) :
    ∃ hi : j / k < l.length, (enc (l[j / k]))[j % k]? = some x := by
  have hj : j < l.length * k := by rw [← flatR_len E l h]; exact (List.getElem?_eq_some_iff.1 hx).1
  have hi : j / k < l.length := (Nat.div_lt_iff_lt_mul E.pos).2 hj
  refine ⟨hi, ?_⟩
  rw [← flatR_get E l h (j / k) hi (j % k) (Nat.mod_lt _ E.pos)]
  have e : j / k * k + j % k = j := by rw [Nat.mul_comm]; exact Nat.div_add_mod j k
  rw [e]
  exact hx
theorem open_rowsG {α : Type} [Inhabited α] {enc : α → List Value} {k : Nat} {ok : α → Prop} (E : Enc enc k ok) {S T fuel : Nat} {cs : List Value} {x : DataW H × List MemPlace} (hS : P.underlying S = some (.slice T)) (hC : P.cellsOf T = k)
    (hr : ∀ {fuel : Nat} {cs : List Value} {x : DataW H × List MemPlace}, DataW.trod ec P w base spare held fuel T cs = some x → ∃ r : α, ok r ∧ cs = enc r)
    (h : DataW.trod ec P w base spare held fuel S cs = some x) : ∃ (v : Value) (l : List α), cs = [v] ∧ RowsAt enc k ok l v w ∧ l.length ≤ maxLen := by
  have hk := E.pos
  rcases DataW.trod_slice hS h with ⟨rfl, _⟩ | ⟨a, len, cap, elems, rest, m, _, rfl, hc1, hb, hl, hm, hlen, hel, _, _⟩
  · exact ⟨_, [], rfl, RowsAt.nil w 0, by simp⟩
  have each : ∀ i, i < len → ∃ r : α, ok r ∧ ∀ j, j < k → w.cell? ((a.add (i * k)).add j) = (enc r)[j]? := by
    intro i hi
    have := hel i hi
    rw [hC, List.getElem?_eq_getElem (by omega), Option.bind_eq_some_iff] at this
    obtain ⟨cs', hcs, hy⟩ := this
    obtain ⟨r, hr, rfl⟩ := hr hy
    refine ⟨r, hr, fun j hj => ?_⟩
    unfold World.cells? at hcs
    split at hcs
    · have := mapM_some_get hcs j j (by simp [hj])
      exact this
    · simp at hcs
  have all : ∃ l : List α, l.length = len ∧ (∀ r ∈ l, ok r) ∧ ∀ i (h : i < l.length), ∀ j, j < k → w.cell? ((a.add (i * k)).add j) = (enc l[i])[j]? := by
    refine ⟨(List.range len).map fun i => if h : i < len then (each i h).choose else default, by simp, ?_, ?_⟩
    · intro r hr
      obtain ⟨i, hi, rfl⟩ := List.mem_map.1 hr
      have hi' : i < len := by simpa using hi
      rw [dif_pos hi']
      exact (each i hi').choose_spec.1
    · intro i hi j hj
      have hi' : i < len := by simpa using hi
      simp only [List.getElem_map, List.getElem_range]
      rw [dif_pos hi']
      exact (each i hi').choose_spec.2 j hj
  obtain ⟨l, hll, hwf, hcell⟩ := all
  refine ⟨_, l, rfl, ?_, by omega⟩
  refine ⟨fun p n c e => ?_, hwf, ?_⟩
  · simp only [Value.slice.injEq] at e
    omega
  · refine ⟨flatR_len E l hwf, flatR_ones E l hwf, some a, cap, by rw [hll], ?_⟩
    by_cases hz : len = 0
    · exact Or.inl (by omega)
    · right
      have ha0 := hcell 0 (by omega) 0 hk
      rw [Nat.zero_mul] at ha0
      have ha := spot_none2 ha0 (by
        have := hwf _ (List.getElem_mem (show 0 < l.length by omega))
        rw [List.getElem?_eq_getElem (by rw [E.len _ this]; exact hk)]
        rfl)
      refine ⟨a.block, a.off, by rw [← ha], fun j x hx => ?_⟩
      obtain ⟨hi, hx2⟩ := flatR_at E l hwf hx
      have h1 := hcell (j / k) hi (j % k) (Nat.mod_lt _ hk)
      rw [ha, addr_add, addr_add, hx2] at h1
      have e : a.off + j / k * k + j % k = a.off + j := by
        have := Nat.div_add_mod j k
        rw [Nat.mul_comm] at this
        omega
      rw [e] at h1
      exact h1
end

end Go.Proofs.Ytaajadmaamjebaa
