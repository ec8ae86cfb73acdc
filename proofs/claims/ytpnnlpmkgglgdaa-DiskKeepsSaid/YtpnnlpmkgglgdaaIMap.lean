/- A map of the call's own, keyed by ints, with elements of a plain type, as a function. -/
import Derived.Test.YtpnnlpmkgglgdaaRows
import Derived.Test.YtpnnlpmkgglgdaaGen
import Derived.Maps.OwnSet
import Derived.Maps.StringElems
namespace Go.Proofs.Ytpnnlpmkgglgdaa
open Go.RowKit Go.Maps Go.MapKept Go.ChangeMaps

/-- How an element lies, and reads. -/
structure Elt (e : TypeId) (α : Type) where
  val : α → Value
  lit : α → Lit
  ok : α → Prop
  zero : α
  zok : ok zero
  read : ∀ x, ok x → plainElem (H := Unit) Try.prog e (val x) = some (.lit (lit x), [])
  inv : ∀ v x ps, plainElem (H := Unit) Try.prog e v = some (.lit (lit x), ps) → v = val x
  zv : ∀ w, (zeroValue e).run Try.prog w = .ok (val zero) w

theorem zvInt (w : World) : (zeroValue 3).run Try.prog w = .ok (.int .i64 0) w := by kernel_rfl
theorem zvStr (w : World) : (zeroValue 9).run Try.prog w = .ok (.string ⟨#[]⟩) w := by kernel_rfl

def eltInt : Elt 3 Int where
  val := Value.int .i64
  lit := Lit.int .i64
  ok a := (Lit.int .i64 a).wf = true
  zero := 0
  zok := by decide
  read x h := plainElem_int Try.underlying3 h
  inv v x ps h := by
    obtain ⟨a, rfl, ha, _⟩ := plainElem_int_inv Try.underlying3 h
    simp at ha
    rw [ha.1]
  zv := zvInt

def eltStr : Elt 9 ByteArray where
  val := Value.string
  lit s := Lit.string s.data.toList
  ok s := s.size ≤ maxLen
  zero := ⟨#[]⟩
  zok := by decide
  read x h := plainElem_string Try.underlying9 h
  inv v x ps h := by
    obtain ⟨a, rfl, ha, _⟩ := plainElem_string_inv Try.underlying9 h
    simp at ha
    have e : x.data = a.data := ha.1
    cases x; cases a; simp_all
  zv := zvStr

def keyI (i : Int) : Lit := .int .i64 i
theorem keyed_int : Keyed Try.prog 3 := int_keyed Try.underlying3
theorem keyOf_i {i : Int} (h : (Lit.int .i64 i).wf = true) : keyOf Try.prog 3 (.int .i64 i) = some (keyI i) := keyOf_int_mk Try.underlying3 h
theorem isKey_i (i : Int) : WideAt.IsKeyLit (keyI i) := trivial
theorem keyI_ne {i j : Int} (h : i ≠ j) : keyI i ≠ keyI j := fun e => h (by simpa [keyI] using e)

variable {e T : TypeId} {α : Type}

/-- The map in the block b, of at most n entries, is that function. -/
def MapIs (E : Elt e α) (b n : Nat) (f : Int → Option α) (w : World) : Prop :=
  ∃ D : DataW Unit, w.ownsMap Try.prog 3 (plainElem Try.prog e) b n D ∧ ∀ i, Maps.has D (keyI i) = (f i).isSome ∧ D.atKey (keyI i) (.lit (E.lit E.zero)) = .lit (E.lit ((f i).getD E.zero)) ∧ E.ok ((f i).getD E.zero)

def delI (f : Int → Option α) (i : Int) : Int → Option α := fun j => if j = i then none else f j
def updI (f : Int → Option α) (i : Int) (x : α) : Int → Option α := fun j => if j = i then some x else f j

section
variable {E : Elt e α} {b n : Nat} {f : Int → Option α} {w : World}

theorem MapIs.made (E : Elt e α) (w : World) : MapIs E w.heap.size 0 (fun _ => none) (w.alloc (.map #[] 0)) :=
  ⟨.map [], World.ownsMap_made _ _ _ _, fun i => ⟨rfl, rfl, E.zok⟩⟩

theorem MapIs.stay (h : MapIs E b n f w) {w' : World} (hk : w'.heap[b]? = w.heap[b]?) : MapIs E b n f w' := by
  obtain ⟨D, ⟨es, c, hb, r⟩, hf⟩ := h
  exact ⟨D, ⟨es, c, hk.trans hb, r⟩, hf⟩
theorem MapIs.lt (h : MapIs E b n f w) : b < w.heap.size := by
  obtain ⟨D, hd, _⟩ := h
  exact hd.lt
theorem MapIs.mono (h : MapIs E b n f w) {m : Nat} (hm : n ≤ m) : MapIs E b m f w := by
  obtain ⟨D, hd, hf⟩ := h
  exact ⟨D, hd.mono hm, hf⟩
theorem MapIs.block (h : MapIs E b n f w) : ∃ es c, w.heap[b]? = some (.map es c) := by
  obtain ⟨D, ⟨es, c, hb, _⟩, _⟩ := h
  exact ⟨es, c, hb⟩

/-- v, ok := m[i] -/
theorem MapIs.look (h : MapIs E b n f w) (ht : Try.prog.underlying T = some (.map 3 e)) {i : Int} (hi : (Lit.int .i64 i).wf = true) :
    (Instr.lookup T (.map (some b)) (.int .i64 i) true).run Try.prog w = .ok (.tuple #[E.val ((f i).getD E.zero), .bool (f i).isSome]) w := by
  obtain ⟨D, hd, hf⟩ := h
  obtain ⟨h1, h2, h3⟩ := hf i
  obtain ⟨v, ps, hrun, hv⟩ := hd.look_ok keyed_int ht (E.zv w) (E.read _ E.zok) (keyOf_i hi)
  rw [h2] at hv
  rw [hrun, E.inv _ _ _ hv, h1]

/-- m[i] -/
theorem MapIs.get (h : MapIs E b n f w) (ht : Try.prog.underlying T = some (.map 3 e)) {i : Int} (hi : (Lit.int .i64 i).wf = true) :
    (Instr.lookup T (.map (some b)) (.int .i64 i) false).run Try.prog w = .ok (E.val ((f i).getD E.zero)) w := by
  obtain ⟨D, hd, hf⟩ := h
  obtain ⟨h1, h2, h3⟩ := hf i
  obtain ⟨v, ps, hrun, hv⟩ := hd.lookup keyed_int ht (E.zv w) (E.read _ E.zok) (keyOf_i hi)
  rw [h2] at hv
  rw [hrun, E.inv _ _ _ hv]

/-- m[i] = x -/
theorem MapIs.set (h : MapIs E b n f w) (ht : Try.prog.underlying T = some (.map 3 e)) (hn : n < maxLen) {i : Int} (hi : (Lit.int .i64 i).wf = true) {x : α} (hx : E.ok x) :
    ∃ w', (Instr.mapUpdate T (.map (some b)) (.int .i64 i) (E.val x)).run Try.prog w = .ok () w' ∧ MapIs E b (n + 1) (updI f i x) w' ∧ w.grownBy w' (some b) ∧ w.mapTurned w' b := by
  obtain ⟨D, hd, hf⟩ := h
  obtain ⟨w', hrun, ho, ht'⟩ := hd.store keyed_int ht hn (keyOf_i hi) (E.read x hx)
  refine ⟨w', hrun, ⟨_, ho, fun j => ?_⟩, ht'.grown, ht'⟩
  by_cases hj : j = i
  · subst hj
    have e1 : updI f j x j = some x := by unfold updI; rw [if_pos rfl]
    rw [e1]
    exact ⟨has_put_same hd.isMap (isKey_i j) _, atKey_put_same hd.isMap (isKey_i j) _ _, hx⟩
  · have e1 : updI f i x j = f j := by unfold updI; rw [if_neg hj]
    rw [e1, has_put_other (keyI_ne hj), atKey_put_other (keyI_ne hj)]
    exact hf j

/-- clear(m) -/
theorem MapIs.clear (h : MapIs E b n f w) (ht : Try.prog.underlying T = some (.map 3 e)) :
    ∃ w', (∀ ty, (Builtin.clear_ #[T] ty #[.map (some b)]).run Try.prog w = .ok (.tuple #[]) w') ∧ MapIs E b 0 (fun _ => none) w' ∧ w.grownBy w' (some b) ∧ w.mapTurned w' b := by
  obtain ⟨D, ⟨es, c, hb, F, _⟩, hf⟩ := h
  have htn : w.mapTurned (setBlock w b (.map #[] c)) b := ⟨es, c, #[], c, hb, rfl⟩
  refine ⟨setBlock w b (.map #[] c), fun ty => ?_, ⟨.map [], ⟨#[], c, heap_setBlock_same hb _, ⟨by simp, stamped_empty c, by simp⟩, Nat.le_refl _, rfl⟩, fun i => ⟨rfl, rfl, E.zok⟩⟩, htn.grown, htn⟩
  simp [Builtin.clear_, run_underlying ht, MapKept.run_getObj_map hb, run_setObj_map _ hb, Result.andThen, setBlock]

/-- delete(m, i) -/
theorem MapIs.drop (h : MapIs E b n f w) (ht : Try.prog.underlying T = some (.map 3 e)) {i : Int} (hi : (Lit.int .i64 i).wf = true) :
    ∃ w', (∀ ty, (Builtin.delete_ #[T, 3] ty #[.map (some b), .int .i64 i]).run Try.prog w = .ok (.tuple #[]) w') ∧ MapIs E b n (delI f i) w' ∧ w.grownBy w' (some b) := by
  obtain ⟨D, hd, hf⟩ := h
  obtain ⟨w', hrun, ho, ht'⟩ := hd.drop keyed_int ht (keyOf_i hi) 0
  refine ⟨w', fun ty => ?_, ⟨_, ho, fun j => ?_⟩, ht'.grown⟩
  · obtain ⟨w2, hrun2, _⟩ := hd.drop keyed_int ht (keyOf_i hi) ty
    exact hrun
  · by_cases hj : j = i
    · subst hj
      have e1 : delI f j j = none := by unfold delI; rw [if_pos rfl]
      rw [e1]
      exact ⟨has_del_same, atKey_del_same _, E.zok⟩
    · have e1 : delI f i j = f j := by unfold delI; rw [if_neg hj]
      rw [e1, has_del_other (keyI_ne hj), atKey_del_other (keyI_ne hj)]
      exact hf j
end

end Go.Proofs.Ytpnnlpmkgglgdaa
