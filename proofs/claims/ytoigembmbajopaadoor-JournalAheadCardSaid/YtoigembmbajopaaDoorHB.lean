/- A map of the call's own, keyed by ints, with elements of a plain type, as a function. A disk of bytes: the mathematics of the last write that waits, of sectors laid over an image. Laws on arrays inside a row of cells: a part that is loaded, stored, indexed, cut, copied to. A disk whose pending writes hold arrays of 128 bytes: their cells; the fuse as it is kept. The program's disk in memory (pending writes of 129 cells); the walks of its small functions. The program's disk: the walk of Read. -/
import Derived.Test.YtoigembmbajopaaDoorRows
import Derived.Test.YtoigembmbajopaaDoorGB
import Derived.Maps.OwnSet
import Derived.Maps.StringElems
import Derived.Test.YtoigembmbajopaaDoorGK
import Derived.Test.YtoigembmbajopaaDoorGO
import Derived.Laws.Rows
import Derived.Laws.CopyRow
import Derived.Laws.CopyOwn
import Derived.Lib.Strings
import Derived.Below
import Derived.WalkKit
import Derived.LaidEqlPtr
namespace Go.Proofs.YtoigembmbajopaaDoor
open Go.RowKit Go.Maps Go.MapKept Go.ChangeMaps

/-- How an element lies, and reads. -/
structure Elt (e : TypeId) (α : Type) where
  val : α → Value
  lit : α → Lit
  ok : α → Prop
  zero : α
  zok : ok zero
  read : ∀ x, ok x → plainElem (H := Unit) Tryd.prog e (val x) = some (.lit (lit x), [])
  inv : ∀ v x ps, plainElem (H := Unit) Tryd.prog e v = some (.lit (lit x), ps) → v = val x
  zv : ∀ w, (zeroValue e).run Tryd.prog w = .ok (val zero) w

theorem zvInt (w : World) : (zeroValue 3).run Tryd.prog w = .ok (.int .i64 0) w := by kernel_rfl
theorem zvStr (w : World) : (zeroValue 9).run Tryd.prog w = .ok (.string ⟨#[]⟩) w := by kernel_rfl

def eltInt : Elt 3 Int where
  val := Value.int .i64
  lit := Lit.int .i64
  ok a := (Lit.int .i64 a).wf = true
  zero := 0
  zok := by decide
  read x h := plainElem_int Tryd.underlying3 h
  inv v x ps h := by
    obtain ⟨a, rfl, ha, _⟩ := plainElem_int_inv Tryd.underlying3 h
    simp at ha
    rw [ha.1]
  zv := zvInt

def eltStr : Elt 9 ByteArray where
  val := Value.string
  lit s := Lit.string s.data.toList
  ok s := s.size ≤ maxLen
  zero := ⟨#[]⟩
  zok := by decide
  read x h := plainElem_string Tryd.underlying9 h
  inv v x ps h := by
    obtain ⟨a, rfl, ha, _⟩ := plainElem_string_inv Tryd.underlying9 h
    simp at ha
    have e : x.data = a.data := ha.1
    cases x; cases a; simp_all
  zv := zvStr

def keyI (i : Int) : Lit := .int .i64 i
theorem keyed_int : Keyed Tryd.prog 3 := int_keyed Tryd.underlying3
theorem keyOf_i {i : Int} (h : (Lit.int .i64 i).wf = true) : keyOf Tryd.prog 3 (.int .i64 i) = some (keyI i) := keyOf_int_mk Tryd.underlying3 h
theorem isKey_i (i : Int) : WideAt.IsKeyLit (keyI i) := trivial
theorem keyI_ne {i j : Int} (h : i ≠ j) : keyI i ≠ keyI j := fun e => h (by simpa [keyI] using e)

variable {e T : TypeId} {α : Type}

/-- The map in the block b, of at most n entries, is that function. -/
def MapIs (E : Elt e α) (b n : Nat) (f : Int → Option α) (w : World) : Prop :=
  ∃ D : DataW Unit, w.ownsMap Tryd.prog 3 (plainElem Tryd.prog e) b n D ∧ ∀ i, Maps.has D (keyI i) = (f i).isSome ∧ D.atKey (keyI i) (.lit (E.lit E.zero)) = .lit (E.lit ((f i).getD E.zero)) ∧ E.ok ((f i).getD E.zero)

def delI (f : Int → Option α) (i : Int) : Int → Option α := fun j => if j = i then none else f j
def updI (f : Int → Option α) (i : Int) (x : α) : Int → Option α := fun j => if j = i then some x else f j

section
variable {E : Elt e α} {b n : Nat} {f : Int → Option α} {w : World}

theorem MapIs.made (E : Elt e α) (w : World) : MapIs E w.heap.size 0 (fun _ => none) (w.alloc (.map #[] 0)) :=
  ⟨.map [], World.ownsMap_made _ _ _ _, fun _ => ⟨rfl, rfl, E.zok⟩⟩

theorem MapIs.stay (h : MapIs E b n f w) {w' : World} (hk : w'.heap[b]? = w.heap[b]?) : MapIs E b n f w' := by
  obtain ⟨D, ⟨es, c, hb, r⟩, hf⟩ := h
  exact ⟨D, ⟨es, c, hk.trans hb, r⟩, hf⟩
theorem MapIs.lt (h : MapIs E b n f w) : b < w.heap.size := by
  obtain ⟨D, hd, _⟩ := h
  exact hd.lt
theorem MapIs.mono (h : MapIs E b n f w) {m : Nat} (hm : n ≤ m) : MapIs E b m f w := by
  obtain ⟨D, hd, hf⟩ := h
  exact ⟨D, hd.mono hm, hf⟩
theorem MapIs.block (h : MapIs E b n f w) : ∃ es c, w.heap[b]? = some (.map es c) := by
  obtain ⟨D, ⟨es, c, hb, _⟩, _⟩ := h
  exact ⟨es, c, hb⟩

/-- v, ok := m[i] -/
theorem MapIs.look (h : MapIs E b n f w) (ht : Tryd.prog.underlying T = some (.map 3 e)) {i : Int} (hi : (Lit.int .i64 i).wf = true) :
    (Instr.lookup T (.map (some b)) (.int .i64 i) true).run Tryd.prog w = .ok (.tuple #[E.val ((f i).getD E.zero), .bool (f i).isSome]) w := by
  obtain ⟨D, hd, hf⟩ := h
  obtain ⟨h1, h2, h3⟩ := hf i
  obtain ⟨v, ps, hrun, hv⟩ := hd.look_ok keyed_int ht (E.zv w) (E.read _ E.zok) (keyOf_i hi)
  rw [h2] at hv
  rw [hrun, E.inv _ _ _ hv, h1]

/-- m[i] -/
theorem MapIs.get (h : MapIs E b n f w) (ht : Tryd.prog.underlying T = some (.map 3 e)) {i : Int} (hi : (Lit.int .i64 i).wf = true) :
    (Instr.lookup T (.map (some b)) (.int .i64 i) false).run Tryd.prog w = .ok (E.val ((f i).getD E.zero)) w := by
  obtain ⟨D, hd, hf⟩ := h
  obtain ⟨h1, h2, h3⟩ := hf i
  obtain ⟨v, ps, hrun, hv⟩ := hd.lookup keyed_int ht (E.zv w) (E.read _ E.zok) (keyOf_i hi)
  rw [h2] at hv
  rw [hrun, E.inv _ _ _ hv]

/-- m[i] = x -/
theorem MapIs.set (h : MapIs E b n f w) (ht : Tryd.prog.underlying T = some (.map 3 e)) (hn : n < maxLen) {i : Int} (hi : (Lit.int .i64 i).wf = true) {x : α} (hx : E.ok x) :
    ∃ w', (Instr.mapUpdate T (.map (some b)) (.int .i64 i) (E.val x)).run Tryd.prog w = .ok () w' ∧ MapIs E b (n + 1) (updI f i x) w' ∧ w.grownBy w' (some b) ∧ w.mapTurned w' b := by
  obtain ⟨D, hd, hf⟩ := h
  obtain ⟨w', hrun, ho, ht'⟩ := hd.store keyed_int ht hn (keyOf_i hi) (E.read x hx)
  refine ⟨w', hrun, ⟨_, ho, fun j => ?_⟩, ht'.grown, ht'⟩
  by_cases hj : j = i
  · subst hj
    have e1 : updI f j x j = some x := by unfold updI; rw [if_pos rfl]
    rw [e1]
    exact ⟨has_put_same hd.isMap (isKey_i j) _, atKey_put_same hd.isMap (isKey_i j) _ _, hx⟩
  · have e1 : updI f i x j = f j := by unfold updI; rw [if_neg hj]
    rw [e1, has_put_other (keyI_ne hj), atKey_put_other (keyI_ne hj)]
    exact hf j

/-- clear(m) -/
theorem MapIs.clear (h : MapIs E b n f w) (ht : Tryd.prog.underlying T = some (.map 3 e)) :
    ∃ w', (∀ ty, (Builtin.clear_ #[T] ty #[.map (some b)]).run Tryd.prog w = .ok (.tuple #[]) w') ∧ MapIs E b 0 (fun _ => none) w' ∧ w.grownBy w' (some b) ∧ w.mapTurned w' b := by
  obtain ⟨D, ⟨es, c, hb, F, _⟩, hf⟩ := h
  have htn : w.mapTurned (setBlock w b (.map #[] c)) b := ⟨es, c, #[], c, hb, rfl⟩
  refine ⟨setBlock w b (.map #[] c), fun ty => ?_, ⟨.map [], ⟨#[], c, heap_setBlock_same hb _, ⟨by simp, stamped_empty c, by simp⟩, Nat.le_refl _, rfl⟩, fun i => ⟨rfl, rfl, E.zok⟩⟩, htn.grown, htn⟩
  simp [Builtin.clear_, run_underlying ht, MapKept.run_getObj_map hb, run_setObj_map _ hb, Result.andThen, setBlock]

/-- delete(m, i) -/
theorem MapIs.drop (h : MapIs E b n f w) (ht : Tryd.prog.underlying T = some (.map 3 e)) {i : Int} (hi : (Lit.int .i64 i).wf = true) :
    ∃ w', (∀ ty, (Builtin.delete_ #[T, 3] ty #[.map (some b), .int .i64 i]).run Tryd.prog w = .ok (.tuple #[]) w') ∧ MapIs E b n (delI f i) w' ∧ w.grownBy w' (some b) := by
  obtain ⟨D, hd, hf⟩ := h
  obtain ⟨w', hrun, ho, ht'⟩ := hd.drop keyed_int ht (keyOf_i hi) 0
  refine ⟨w', fun ty => ?_, ⟨_, ho, fun j => ?_⟩, ht'.grown⟩
  · obtain ⟨w2, hrun2, _⟩ := hd.drop keyed_int ht (keyOf_i hi) ty
    exact hrun
  · by_cases hj : j = i
    · subst hj
      have e1 : delI f j j = none := by unfold delI; rw [if_pos rfl]
      rw [e1]
      exact ⟨has_del_same, atKey_del_same _, E.zok⟩
    · have e1 : delI f i j = f j := by unfold delI; rw [if_neg hj]
      rw [e1, has_del_other (keyI_ne hj), atKey_del_other (keyI_ne hj)]
      exact hf j
end

end Go.Proofs.YtoigembmbajopaaDoor
namespace Go.Proofs.YtoigembmbajopaaDoor
open Go.RowKit

/-- Which write of a sector is the last one, of the first k. -/
def lastK (ws : List (Nat × List UInt8)) : Nat → Int → Option Int
  | 0 => fun _ => none
  | k + 1 => updI (lastK ws k) ((ws.getD k (0, [])).1 : Int) (k : Int)
def lastF (ws : List (Nat × List UInt8)) : Int → Option Int := lastK ws ws.length

theorem lastK_append (ws : List (Nat × List UInt8)) (p : Nat × List UInt8) : ∀ k, k ≤ ws.length → lastK (ws ++ [p]) k = lastK ws k
  | 0, _ => rfl
  | k + 1, h => by
    unfold lastK
    rw [lastK_append ws p k (by omega), List.getD_eq_getElem?_getD, List.getD_eq_getElem?_getD, List.getElem?_append_left (by omega)]

theorem lastF_nil : lastF [] = fun _ => none := rfl
theorem lastF_snoc (ws : List (Nat × List UInt8)) (p : Nat × List UInt8) : lastF (ws ++ [p]) = updI (lastF ws) (p.1 : Int) (ws.length : Int) := by
  show lastK (ws ++ [p]) (ws ++ [p]).length = updI (lastK ws ws.length) (p.1 : Int) (ws.length : Int)
  rw [List.length_append]
  show updI (lastK (ws ++ [p]) ws.length) (((ws ++ [p]).getD ws.length (0, [])).1 : Int) (ws.length : Int) = _
  rw [lastK_append ws p _ (Nat.le_refl _), List.getD_eq_getElem?_getD, List.getElem?_append_right (Nat.le_refl _), Nat.sub_self]
  rfl

theorem lastK_vis (ws : List (Nat × List UInt8)) (i : Nat) (t : List UInt8) : ∀ k, k ≤ ws.length → (lastK ws k i = none ∧ visK i t (ws.take k) = t) ∨ ∃ j : Nat, lastK ws k i = some (j : Int) ∧ ∃ h : j < ws.length, visK i t (ws.take k) = ws[j].2
  | 0, _ => Or.inl ⟨rfl, rfl⟩
  | k + 1, h => by
    have hk : k < ws.length := by omega
    have ih := lastK_vis ws i t k (by omega)
    rw [List.take_succ_eq_append_getElem hk, visK_snoc]
    unfold lastK updI
    rw [List.getD_eq_getElem?_getD, List.getElem?_eq_getElem hk]
    show (((if (i : Int) = (ws[k].1 : Int) then some (k : Int) else lastK ws k i) = none) ∧ _) ∨ ∃ j : Nat, (if (i : Int) = (ws[k].1 : Int) then some (k : Int) else lastK ws k i) = some (j : Int) ∧ _
    by_cases he : ws[k].1 = i
    · right
      refine ⟨k, by rw [if_pos (by omega)], hk, by rw [if_pos he]⟩
    · rw [if_neg (by omega), if_neg he]
      exact ih

/-- What is read of a sector. -/
theorem lastF_vis (s : Dk) (i : Nat) : (lastF s.waits i = none ∧ s.vis i = s.stands.getD i []) ∨ ∃ j : Nat, lastF s.waits i = some (j : Int) ∧ ∃ h : j < s.waits.length, s.vis i = s.waits[j].2 := by
  have h := lastK_vis s.waits i (s.stands.getD i []) s.waits.length (Nat.le_refl _)
  rw [List.take_length] at h
  exact h

theorem flat_set : ∀ (L : List (List UInt8)), (∀ l ∈ L, l.length = 128) → ∀ (i : Nat) (x : List UInt8), i < L.length → x.length = 128 → (L.set i x).flatten = L.flatten.take (128 * i) ++ x ++ L.flatten.drop (128 * i + 128)
  | [], _, i, x, h, _ => by simp at h
  | a :: L, hL, 0, x, _, hx => by
    have ha := hL a (List.mem_cons_self ..)
    rw [List.set_cons_zero, List.flatten_cons, List.flatten_cons, Nat.mul_zero, List.take_zero, List.nil_append, Nat.zero_add, List.drop_left' ha]
  | a :: L, hL, i + 1, x, h, hx => by
    have ha := hL a (List.mem_cons_self ..)
    have ih := flat_set L (fun l hl => hL l (List.mem_cons_of_mem _ hl)) i x (by simpa using h) hx
    rw [List.set_cons_succ, List.flatten_cons, List.flatten_cons, ih]
    rw [show 128 * (i + 1) = a.length + 128 * i by omega, show a.length + 128 * i + 128 = a.length + (128 * i + 128) by omega, List.take_length_add_append, List.drop_length_add_append]
    simp

theorem image_set (s : Dk) (h : ∀ l ∈ s.stands, l.length = 128) (i : Nat) (x : List UInt8) (hi : i < s.stands.length) (hx : x.length = 128) : (s.stands.set i x).flatten = patch s.stands.flatten (128 * i) x := by
  rw [flat_set _ h i x hi hx, patch_eq _ _ _ (by rw [flat_len _ h]; omega), hx]

theorem image_set' (L : List (List UInt8)) (h : ∀ l ∈ L, l.length = 128) (i : Nat) (x : List UInt8) (hi : i < L.length) (hx : x.length = 128) : (L.set i x).flatten = patch L.flatten (128 * i) x := by
  rw [flat_set _ h i x hi hx, patch_eq _ _ _ (by rw [flat_len _ h]; omega), hx]

end Go.Proofs.YtoigembmbajopaaDoor
namespace Go.Proofs.YtoigembmbajopaaDoor
open Go.RowKit

section
variable {P : Program}

/-- A row with some cells laid over it. -/
def laidOver (cur : Array Value) (o : Nat) (vs : List Value) : Array Value := (cur.toList.take o ++ vs ++ cur.toList.drop (o + vs.length)).toArray

theorem laidOver_size (cur : Array Value) (o : Nat) (vs : List Value) (h : o + vs.length ≤ cur.size) : (laidOver cur o vs).size = cur.size := by
  simp [laidOver]; omega

theorem laidOver_in (cur : Array Value) (o : Nat) (vs : List Value) (h : o + vs.length ≤ cur.size) (j : Nat) (hj : j < vs.length) : (laidOver cur o vs)[o + j]? = vs[j]? := by
  unfold laidOver
  simp only [List.getElem?_toArray]
  have hl : (cur.toList.take o).length = o := by rw [List.length_take, Array.length_toList]; omega
  rw [List.append_assoc, List.getElem?_append_right (by omega), hl, show o + j - o = j by omega, List.getElem?_append_left hj]

theorem laidOver_lo (cur : Array Value) (o : Nat) (vs : List Value) (h : o + vs.length ≤ cur.size) (j : Nat) (hj : j < o) : (laidOver cur o vs)[j]? = cur[j]? := by
  unfold laidOver
  simp only [List.getElem?_toArray]
  have hl : (cur.toList.take o).length = o := by rw [List.length_take, Array.length_toList]; omega
  rw [List.append_assoc, List.getElem?_append_left (by omega), List.getElem?_take, if_pos hj, Array.getElem?_toList]

theorem laidOver_hi (cur : Array Value) (o : Nat) (vs : List Value) (h : o + vs.length ≤ cur.size) (j : Nat) (hj : o + vs.length ≤ j) : (laidOver cur o vs)[j]? = cur[j]? := by
  unfold laidOver
  simp only [List.getElem?_toArray]
  have hl : (cur.toList.take o).length = o := by rw [List.length_take, Array.length_toList]; omega
  rw [List.append_assoc, List.getElem?_append_right (by omega), hl, List.getElem?_append_right (by omega), List.getElem?_drop, show o + vs.length + (j - o - vs.length) = j by omega, Array.getElem?_toList]

theorem run_index_arr (w : World) (t e : TypeId) (n : Nat) (cs : Array Value) (k ik : IntKind) (i : Nat) (v : Value) (ht : P.underlying t = some (.array n e)) (he : P.underlying e = some (.int ik)) (hs : (P.info? e).map (·.size) = some 1)
    (hi : i < n) (hv : cs[i]? = some v) : (Instr.index t (.agg cs) (.int k i)).run P w = .ok v w := by
  cases hq : P.info? e with
  | none => simp [hq] at hs
  | some ti =>
    have h1 : ti.size = 1 := by simpa [hq] using hs
    have hi' : (i : Int) < n := by omega
    simp [Instr.index, run_underlying ht, asIntOf, part, isAgg, run_underlying he, sizeOf, typeInfo, hq, h1, hv, hi]

/-- An array in a row, cut from a place that it has. -/
theorem run_cut_arr (w : World) (t e : TypeId) (n g o i : Nat) (k : IntKind) (ht : P.underlying t = some (.array n e)) (hs : (P.info? e).map (·.size) = some 1) (hi : i < n) :
    (Instr.sliceAt t (.pointer (some ⟨g, o, none⟩)) (some (.int k i)) none none).run P w = .ok (.slice (some ⟨g, o + i, none⟩) (n - i) (n - i)) w := by
  cases hq : P.info? e with
  | none => simp [hq] at hs
  | some ti =>
    have h1 : ti.size = 1 := by simpa [hq] using hs
    have hne : ¬ n = i := by omega
    have hadd : (⟨g, o, none⟩ : Addr).add i = ⟨g, o + i, none⟩ := by unfold Addr.add; split <;> simp_all
    simp [Instr.sliceAt, run_underlying ht, Instr.sureAddr, Instr.sliceBounds, Instr.sliceBound, asIntOf, sizeOf, typeInfo, hq, h1, hne, hadd]
    omega

/-- The load of an array that is a part of a row. -/
theorem run_loadVar_sub (w : World) (g o n : Nat) (t ty : TypeId) (cs : Array Value) (fr : Nat × Nat) (d : TypeDesc) (hg : w.heap[g]? = some (.cells cs t fr))
    (hu : P.underlying ty = some d) (hd : (match d with | .struct _ | .array _ _ => true | _ => false) = true) (hi : (P.info? ty).map (·.size) = some n) (ho : o + n ≤ cs.size) :
    (loadVar ty ⟨g, o, none⟩).run P w = .ok (.agg (cs.extract o (o + n))) w := by
  have hl : (loadCells ⟨g, o, none⟩ (cs.extract o (o + n)).toList.length).run P w = .ok (cs.extract o (o + n)).toList.toArray w :=
    run_loadCells_list (P := P) w ⟨g, o, none⟩ (cs.extract o (o + n)).toList (fun j v hv => by
      have hadd : (⟨g, o, none⟩ : Addr).add j = ⟨g, o + j, none⟩ := by unfold Addr.add; split <;> simp_all
      rw [hadd, cell_of_row w g (o + j) cs t fr hg]
      rw [Array.getElem?_toList, Array.getElem?_extract] at hv
      by_cases hj : j < min (o + n) cs.size - o
      · rw [if_pos hj] at hv; exact hv
      · rw [if_neg hj] at hv; cases hv)
  have hsz : (cs.extract o (o + n)).size = n := by rw [Array.size_extract]; omega
  cases hq : P.info? ty with
  | none => simp [hq] at hi
  | some i =>
    have hs : i.size = n := by simpa [hq] using hi
    have hagg : (isAgg ty).run P w = .ok true w := by
      unfold isAgg
      rw [Sem.run_bind, run_underlying hu w]
      cases d <;> simp_all
    simp only [Array.length_toList, Array.toArray_toList, hsz] at hl
    simp [loadVar, Sem.run_bind, hagg, sizeOf, typeInfo, hq, hs, hl]

theorem wp_load_sub {o : Oper} {a : Act} {w : World} {K : Act → World → Prop} {Q : Exit → Act → World → Prop} (ty : TypeId) (x : Operand) (ho : o.op = .load ty x)
    (g off n : Nat) (hx : a.eval x = .pointer (some ⟨g, off, none⟩)) (t : TypeId) (cs : Array Value) (fr : Nat × Nat) (d : TypeDesc) (hg : w.heap[g]? = some (.cells cs t fr))
    (hu : P.underlying ty = some d) (hd : (match d with | .struct _ | .array _ _ => true | _ => false) = true) (hi : (P.info? ty).map (·.size) = some n) (hon : off + n ≤ cs.size)
    (v : Array Value) (hv : cs.extract off (off + n) = v)
    (h : K (a.put o.dst (.agg v)) w) : o.wp P a w K Q := by
  subst hv
  unfold Oper.wp execOp
  simp only [ho, hx, Instr.loadAt, Instr.sureAddr, Sem.run_bind, Sem.run_pure, Result.andThen_ok, run_loadVar_sub w g off n t ty cs fr d hg hu hd hi hon]
  exact h

theorem wpList_load_sub {ops : Array Oper} {rest : List Oper} {o : Oper} {a : Act} {w : World} {Q : Exit → Act → World → Prop} (hgd : o.guard = none) (ty : TypeId) (x : Operand) (ho : o.op = .load ty x)
    (g off n : Nat) (hx : a.eval x = .pointer (some ⟨g, off, none⟩)) (t : TypeId) (cs : Array Value) (fr : Nat × Nat) (d : TypeDesc) (hg : w.heap[g]? = some (.cells cs t fr))
    (hu : P.underlying ty = some d) (hd : (match d with | .struct _ | .array _ _ => true | _ => false) = true) (hi : (P.info? ty).map (·.size) = some n) (hon : off + n ≤ cs.size)
    (v : Array Value) (hv : cs.extract off (off + n) = v)
    (h : wpList P ops Q rest (a.put o.dst (.agg v)) w) : wpList P ops Q (o :: rest) a w :=
  wpList_plain hgd fun _ hK => wp_load_sub ty x ho g off n hx t cs fr d hg hu hd hi hon v hv (hK _ _ h)

/-- The store of an array that is a part of a row. -/
theorem run_storeVar_sub (w : World) (g o : Nat) (t ty : TypeId) (old cells : Array Value) (hg : w.heap[g]? = some (.cells old t (0, 0))) (hi : (P.info? ty).map (·.size) = some cells.size)
    (ho : o + cells.size ≤ old.size) (h1 : cells.all (·.oneCell') = true) :
    (storeVar ty ⟨g, o, none⟩ (.agg cells)).run P w = .ok () (w.setRow g (laidOver old o cells.toList)) := by
  have := run_storeCells_at P g o t cells.toList 0 old w hg (by simp; omega) (fun v hv => (Array.all_eq_true_iff_forall_mem.1 h1) v (by simpa using hv))
  cases hq : P.info? ty with
  | none => simp [hq] at hi
  | some i =>
    have hs : cells.size = i.size := by simp [hq] at hi; omega
    rw [Nat.add_zero] at this
    simp [storeVar, sizeOf, typeInfo, hq, Value.cells, hs, laidOver]
    simpa [hs] using this

theorem wp_store_sub {o : Oper} {a : Act} {w : World} {K : Act → World → Prop} {Q : Exit → Act → World → Prop} (ty : TypeId) (x y : Operand) (ho : o.op = .store ty x y)
    (g off : Nat) (cells : Array Value) (hx : a.eval x = .pointer (some ⟨g, off, none⟩)) (hy : a.eval y = .agg cells)
    (t : TypeId) (old : Array Value) (hg : w.heap[g]? = some (.cells old t (0, 0))) (hi : (P.info? ty).map (·.size) = some cells.size)
    (hold : off + cells.size ≤ old.size) (h1 : cells.all (·.oneCell') = true)
    (h : K (a.put o.dst undef) (w.setRow g (laidOver old off cells.toList))) : o.wp P a w K Q := by
  unfold Oper.wp execOp
  simp only [ho, hx, hy, Instr.storeAt, Instr.sureAddr, Sem.run_bind, Sem.run_pure, Result.andThen_ok, run_storeVar_sub w g off t ty old cells hg hi hold h1]
  exact h

theorem wpList_store_sub {ops : Array Oper} {rest : List Oper} {o : Oper} {a : Act} {w : World} {Q : Exit → Act → World → Prop} (hgd : o.guard = none) (ty : TypeId) (x y : Operand) (ho : o.op = .store ty x y)
    (g off : Nat) (cells : Array Value) (hx : a.eval x = .pointer (some ⟨g, off, none⟩)) (hy : a.eval y = .agg cells)
    (t : TypeId) (old : Array Value) (hg : w.heap[g]? = some (.cells old t (0, 0))) (hi : (P.info? ty).map (·.size) = some cells.size)
    (hold : off + cells.size ≤ old.size) (h1 : cells.all (·.oneCell') = true)
    (h : wpList P ops Q rest (a.put o.dst undef) (w.setRow g (laidOver old off cells.toList))) : wpList P ops Q (o :: rest) a w :=
  wpList_plain hgd fun _ hK => wp_store_sub ty x y ho g off cells hx hy t old hg hi hold h1 (hK _ _ h)

/-- An array out of an aggregate. -/
theorem run_field_sub (w : World) (t : TypeId) (fs : Array Field) (cs : Array Value) (k : Nat) (f : Field) (d : TypeDesc) (n : Nat) (ht : P.underlying t = some (.struct fs)) (hf : fs[k]? = some f)
    (hu : P.underlying f.type = some d) (hd : (match d with | .struct _ | .array _ _ => true | _ => false) = true) (hi : (P.info? f.type).map (·.size) = some n) :
    (Instr.field t (.agg cs) k).run P w = .ok (.agg (cs.extract f.offset (f.offset + n))) w := by
  cases hq : P.info? f.type with
  | none => simp [hq] at hi
  | some i =>
    have hs : i.size = n := by simpa [hq] using hi
    have hagg : (isAgg f.type).run P w = .ok true w := by
      unfold isAgg
      rw [Sem.run_bind, run_underlying hu w]
      cases d <;> simp_all
    simp [Instr.field, run_underlying ht, hf, asAgg, part, hagg, sizeOf, typeInfo, hq, hs]

/-- A literal of known parts. -/
theorem wpList_built {ops : Array Oper} {rest : List Oper} {o : Oper} {a : Act} {w : World} {Q : Exit → Act → World → Prop} (hg : o.guard = none) (t : TypeId) (parts : Array (Nat × Operand)) (ho : o.op = .build t parts)
    (ps : List (Nat × Value)) (hps : (parts.map fun (i, x) => (i, a.eval x)).toList = ps) (cells : Array Value) (hb : P.built t ps = some cells)
    (h : wpList P ops Q rest (a.put o.dst (.agg cells)) w) : wpList P ops Q (o :: rest) a w := by
  subst hps
  exact wpList_build hg t parts ho (by rw [hb]; rfl) (by rw [hb]; exact h)

/-- The cells of the first k bytes of a text. -/
def firstB (s : ByteArray) (k : Nat) : List Value := (s.data.toList.take k).map fun x => Value.int .u8 (x.toNat : Int)

theorem firstB_len (s : ByteArray) (k : Nat) (h : k ≤ s.size) : (firstB s k).length = k := by
  simp only [firstB, List.length_map, List.length_take]
  have : s.data.toList.length = s.size := (Lib.size_eq s).symm
  omega

/-- 'copy(dst, s)', s a text, dst a part of a row: as many bytes as the shorter has. -/
theorem run_copy_str (w : World) (dT sT ty elem : TypeId) (g o dLen dCap : Nat) (s : ByteArray) (cur : Array Value) (t : TypeId) (k : Nat)
    (hu : P.underlying dT = some (.slice elem)) (hs : (P.info? elem).map (·.size) = some 1) (hk : Nat.min s.size dLen = k)
    (hg : w.heap[g]? = some (.cells cur t (0, 0))) (hfit : o + dLen ≤ cur.size) :
    (Builtin.copy_ #[dT, sT] ty #[.slice (some ⟨g, o, none⟩) dLen dCap, .string s]).run P w = .ok (goInt k) (w.setRow g (laidOver cur o (firstB s k))) := by
  have hkl : k ≤ s.size := by rw [← hk]; exact Nat.min_le_left _ _
  have hkd : k ≤ dLen := by rw [← hk]; exact Nat.min_le_right _ _
  have hst := run_storeCells_at P g o t (firstB s k) 0 cur w hg (by rw [firstB_len s k hkl]; omega) (by
    intro v hv
    obtain ⟨x, _, rfl⟩ := List.mem_map.1 hv
    rfl)
  rw [Nat.add_zero] at hst
  cases hq : P.info? elem with
  | none => simp [hq] at hs
  | some i =>
    have hi : i.size = 1 := by simpa [hq] using hs
    simp [Builtin.copy_, run_underlying hu, Builtin.lenOf, Builtin.firstCells, sizeOf, typeInfo, hq, hk]
    rw [← List.map_take]
    unfold firstB at hst
    rw [hst]
    rfl

theorem wpList_copy_str {ops : Array Oper} {rest : List Oper} {o : Oper} {a : Act} {w : World} {Q : Exit → Act → World → Prop} (hgd : o.guard = none) (d x : Operand) (dT sT : TypeId)
    (ho : o.op = .call { callee := .builtin .copy, args := #[d, x], argTypes := #[dT, sT] }) (elem : TypeId) (hu : P.underlying dT = some (.slice elem)) (hsz : (P.info? elem).map (·.size) = some 1)
    (g off dLen dCap : Nat) (s : ByteArray) (hd : a.eval d = .slice (some ⟨g, off, none⟩) dLen dCap) (hx : a.eval x = .string s)
    (cur : Array Value) (t : TypeId) (hg : w.heap[g]? = some (.cells cur t (0, 0))) (k : Nat) (hk : Nat.min s.size dLen = k) (hfit : off + dLen ≤ cur.size)
    (new : Array Value) (hnew : laidOver cur off (firstB s k) = new)
    (h : wpList P ops Q rest (a.put o.dst (goInt k)) (w.setRow g new)) : wpList P ops Q (o :: rest) a w := by
  subst hnew
  refine wpList_plain hgd fun K hK => ?_
  have hrun := run_copy_str (P := P) w dT sT o.type elem g off dLen dCap s cur t k hu hsz hk hg hfit
  unfold Oper.wp
  simp [execOp, ho, resolve, invoke, builtin, hd, hx, hrun, Result.andThen]
  exact hK _ _ h

end

end Go.Proofs.YtoigembmbajopaaDoor
namespace Go.Proofs.YtoigembmbajopaaDoor
open Go.RowKit

/-- The cells of one pending write. -/
def wcell (a : Nat) (x : List UInt8) : List Value := Value.int .i64 (a : Int) :: x.map u8V
def wtB (ws : List (Nat × List UInt8)) : List Value := ws.flatMap fun p => wcell p.1 p.2

theorem wcell_len (a : Nat) (x : List UInt8) (h : x.length = 128) : (wcell a x).length = 129 := by simp [wcell, h]
theorem wcell_one (a : Nat) (x : List UInt8) : ∀ v ∈ wcell a x, v.oneCell' = true := by
  intro v hv
  unfold wcell at hv
  rcases List.mem_cons.1 hv with rfl | hv
  · rfl
  · obtain ⟨y, _, rfl⟩ := List.mem_map.1 hv
    rfl
theorem wtB_append (a b : List (Nat × List UInt8)) : wtB (a ++ b) = wtB a ++ wtB b := List.flatMap_append
theorem wtB_single (p : Nat × List UInt8) : wtB [p] = wcell p.1 p.2 := by simp [wtB]
theorem wtB_one (ws : List (Nat × List UInt8)) : ∀ x ∈ wtB ws, x.oneCell' = true := fun x hx => by
  obtain ⟨p, _, hp⟩ := List.mem_flatMap.1 hx
  exact wcell_one p.1 p.2 x hp

/-- The cells of one of them, among all. -/
theorem wtB_cut : ∀ (ws : List (Nat × List UInt8)) (_ : ∀ p ∈ ws, p.2.length = 128) (k : Nat) (h : k < ws.length), ((wtB ws).drop (k * 129)).take 129 = wcell ws[k].1 ws[k].2
  | [], _, k, h => by simp at h
  | p :: ws, hl, 0, _ => by
    have e : wtB (p :: ws) = wcell p.1 p.2 ++ wtB ws := rfl
    rw [Nat.zero_mul, List.drop_zero, e, List.take_left' (wcell_len _ _ (hl p (List.mem_cons_self ..)))]
    rfl
  | p :: ws, hl, k + 1, h => by
    have e : wtB (p :: ws) = wcell p.1 p.2 ++ wtB ws := rfl
    rw [e, show (k + 1) * 129 = 129 + k * 129 by omega, ← List.drop_drop, List.drop_left' (wcell_len _ _ (hl p (List.mem_cons_self ..))), wtB_cut ws (fun q hq => hl q (List.mem_cons_of_mem _ hq)) k (by simpa using h)]
    rfl

theorem wtB_get (ws : List (Nat × List UInt8)) (hl : ∀ p ∈ ws, p.2.length = 128) (k : Nat) (h : k < ws.length) (j : Nat) (hj : j < 129) : (wtB ws)[k * 129 + j]? = (wcell ws[k].1 ws[k].2)[j]? := by
  rw [← wtB_cut ws hl k h, List.getElem?_take, if_pos hj, List.getElem?_drop]

theorem wcell_sector (a : Nat) (x : List UInt8) : (wcell a x)[0]? = some (.int .i64 (a : Int)) := rfl
theorem wcell_byte (a : Nat) (x : List UInt8) (j : Nat) (hj : j < x.length) : (wcell a x)[1 + j]? = some (u8V x[j]) := by
  unfold wcell
  rw [Nat.add_comm, List.getElem?_cons_succ, List.getElem?_map, List.getElem?_eq_getElem hj]
  rfl

/-- The row of an own slice that is not empty, cut. -/
theorem own_cut {w : World} {base : Nat} {e : TypeId} {n : Nat} {v : Value} {ws : List (Nat × List UInt8)} (h : w.ownsRow base e 129 v n (wtB ws)) (hn : n = ws.length) (hl : ∀ p ∈ ws, p.2.length = 128) (k : Nat) (hk : k < ws.length) :
    ∃ (gp cap : Nat) (cur : Array Value), v = .slice (some ⟨gp, 0, none⟩) n cap ∧ base ≤ gp ∧ w.heap[gp]? = some (.cells cur e (0, 0)) ∧ n ≤ cap ∧ k * 129 + 129 ≤ cur.size ∧ cur.extract (k * 129) (k * 129 + 129) = (wcell ws[k].1 ws[k].2).toArray ∧
      w.cell? ⟨gp, k * 129, none⟩ = some (.int .i64 (ws[k].1 : Int)) ∧ ∀ j, ∀ hj : j < 128, ∃ x, ws[k].2[j]? = some x ∧ w.cell? ⟨gp, k * 129 + 1 + j, none⟩ = some (u8V x) := by
  rcases h.2 with ⟨_, h0⟩ | ⟨gp, cap, cur, rfl, hb, hg, hc, hm, hs, ht⟩
  · omega
  have hsz : k * 129 + 129 ≤ cur.size := by
    rw [hs]
    have : (k + 1) * 129 ≤ cap * 129 := Nat.mul_le_mul_right _ (by omega)
    omega
  have hget : ∀ j, j < 129 → cur[k * 129 + j]? = (wcell ws[k].1 ws[k].2)[j]? := fun j hj => by
    rw [← wtB_get ws hl k hk j hj, ← ht, List.getElem?_take, if_pos (by
      have : (k + 1) * 129 ≤ n * 129 := Nat.mul_le_mul_right _ (by omega)
      omega), Array.getElem?_toList]
  have hx := hl _ (List.getElem_mem hk)
  refine ⟨gp, cap, cur, rfl, hb, hg, hc, hsz, ?_, ?_, fun j hj => ?_⟩
  · apply Array.ext_getElem?
    intro j
    have e2 : (wcell ws[k].1 ws[k].2).toArray[j]? = (wcell ws[k].1 ws[k].2)[j]? := by simp
    rw [e2, Array.getElem?_extract]
    by_cases hj : j < 129
    · rw [if_pos (by omega), hget j hj]
    · rw [if_neg (by omega), List.getElem?_eq_none (by rw [wcell_len _ _ hx]; omega)]
  · rw [cell_of_row _ _ _ _ _ _ hg]
    exact hget 0 (by omega)
  · have hj2 : j < ws[k].2.length := by omega
    refine ⟨ws[k].2[j], List.getElem?_eq_getElem hj2, ?_⟩
    rw [cell_of_row _ _ _ _ _ _ hg, show k * 129 + 1 + j = k * 129 + (1 + j) by omega, hget (1 + j) (by omega), wcell_byte _ _ _ hj2]

/-- 'string(a[:])' of 128 bytes that lie in some row. -/
theorem conv_cells {w : World} (g o n c : Nat) (x : List UInt8) (hx : x.length = n) (h : ∀ j, ∀ _ : j < n, ∃ y, x[j]? = some y ∧ w.cell? ⟨g, o + j, none⟩ = some (u8V y)) :
    (convert 46 9 (.slice (some ⟨g, o, none⟩) n c)).run Tryd.prog w = .ok (.string (str x)) w := by
  have h1 := run_convert_bytes_back (P := Tryd.prog) w 46 9 5 ⟨g, o, none⟩ c x Tryd.underlying46 Tryd.underlying5 Tryd.underlying9 (fun j hj => by
    rw [addr_add]
    obtain ⟨y, hy, hc⟩ := h j (by omega)
    rw [hc, List.getElem?_eq_getElem hj] at *
    simp only [Option.some.injEq] at hy
    rw [← hy]
    rfl)
  rw [hx] at h1
  exact h1

/-- The fuse as the program keeps it. -/
def fzI (n : Int) : Int := if (-1 : Int) > n then -1 else n
theorem fzI_zero (n : Int) : fzI n = 0 ↔ n = 0 := by unfold fzI; split <;> omega
theorem fzI_neg (n : Int) : fzI n = -1 ↔ n < 0 := by unfold fzI; split <;> omega
theorem fzI_pos (n : Int) (h : 0 ≤ n) : fzI n = n := by unfold fzI; split <;> omega

end Go.Proofs.YtoigembmbajopaaDoor
namespace Go.Proofs.YtoigembmbajopaaDoor
open Go.RowKit

def dA (g : Nat) (s : Dk) (b n c : Nat) (vp : Value) (m : Nat) : Array Value :=
  #[.pointer (some ⟨g, 0, none⟩), .slice (some ⟨b, 0, none⟩) n c, vp, .map (some m), .int .i64 (fzI s.fuse), .int .i64 (s.ops : Int), .bool s.down]
/-- The program's disk: its struct in the block g, its bytes in b, its map in m. -/
structure DAt (B g b c m : Nat) (s : Dk) (vp : Value) (w : World) : Prop where
  base : B ≤ g
  row : w.heap[g]? = some (.cells (dA g s b s.image.length c vp m) 115 (0, 0))
  hb : B ≤ b
  cap : s.image.length ≤ c
  dur : BytesAt b s.image w
  pend : w.ownsRow B 141 129 vp s.waits.length (wtB s.waits)
  hm : B ≤ m
  map : MapIs eltInt m s.waits.length (lastF s.waits) w

def DBs (g b m : Nat) (vp : Value) (k : Nat) : Prop := k = g ∨ k = b ∨ k = m ∨ vp.ownBlock = some k

section
variable {B g b c m : Nat} {s : Dk} {vp : Value} {w : World} (h : DAt B g b c m s vp w)
include h

theorem DAt.stay {w' : World} (hk : ∀ k, DBs g b m vp k → w'.heap[k]? = w.heap[k]?) : DAt B g b c m s vp w' :=
  ⟨h.base, by rw [hk g (Or.inl rfl)]; exact h.row, h.hb, h.cap, h.dur.stay (hk b (Or.inr (Or.inl rfl))), own_stay h.pend (fun k e => hk k (Or.inr (Or.inr (Or.inr e)))), h.hm, h.map.stay (hk m (Or.inr (Or.inr (Or.inl rfl))))⟩

theorem DAt.lt : ∀ k, DBs g b m vp k → B ≤ k ∧ k < w.heap.size := by
  intro k hk
  rcases hk with rfl | rfl | rfl | e
  · exact ⟨h.base, (Array.getElem?_eq_some_iff.1 h.row).1⟩
  · exact ⟨h.hb, h.dur.lt⟩
  · exact ⟨h.hm, h.map.lt⟩
  · exact h.pend.lt k e

theorem DAt.kept {w' : World} (k : Kept w w') : DAt B g b c m s vp w' := h.stay (fun j hj => k.block j (h.lt j hj).2)
theorem DAt.cell (i : Nat) (x : Value) (hx : (dA g s b s.image.length c vp m)[i]? = some x) : w.cell? ⟨g, i, none⟩ = some x := by rw [cell_of_row _ _ _ _ _ _ h.row]; exact hx
theorem DAt.froz (i : Nat) : w.frozen? ⟨g, i, none⟩ = false := frozen_of_row _ _ _ _ _ h.row

/-- Its blocks are apart. -/
theorem DAt.apart : b ≠ g ∧ m ≠ g ∧ m ≠ b ∧ vp.ownBlock ≠ some g ∧ vp.ownBlock ≠ some b ∧ vp.ownBlock ≠ some m := by
  obtain ⟨cs, fr, hb⟩ := h.dur.typ
  obtain ⟨es, cl, hm⟩ := h.map.block
  refine ⟨fun e => ?_, fun e => ?_, fun e => ?_, fun e => ?_, fun e => ?_, fun e => ?_⟩
  · subst e; rw [h.row] at hb; simp at hb
  · subst e; rw [h.row] at hm; simp at hm
  · subst e; rw [hb] at hm; simp at hm
  · obtain ⟨cur, hc⟩ := own_typ h.pend g e
    rw [h.row] at hc; simp at hc
  · obtain ⟨cur, hc⟩ := own_typ h.pend b e
    rw [hb] at hc; simp at hc
  · obtain ⟨cur, hc⟩ := own_typ h.pend m e
    rw [hm] at hc; simp at hc

/-- Its plain fields written anew. -/
theorem DAt.fields {s' : Dk} {w' : World} (hr : w'.heap[g]? = some (.cells (dA g s' b s.image.length c vp m) 115 (0, 0))) (ho : ∀ k, k < w.heap.size → k ≠ g → w'.heap[k]? = w.heap[k]?) (hs : s'.stands = s.stands) (hw : s'.waits = s.waits) : DAt B g b c m s' vp w' := by
  have ha := h.apart
  have hi : s'.image = s.image := by unfold Dk.image; rw [hs]
  refine ⟨h.base, by rw [hi]; exact hr, h.hb, by rw [hi]; exact h.cap, by rw [hi]; exact h.dur.stay (ho b h.dur.lt ha.1), ?_, h.hm, ?_⟩
  · rw [hw]; exact own_stay h.pend (fun k e => ho k (h.pend.lt k e).2 (fun x => ha.2.2.2.1 (by rw [e, x])))
  · rw [hw]; exact h.map.stay (ho m h.map.lt ha.2.1)

theorem DAt.setRow (i : Nat) (x : Value) : (w.setCell ⟨g, i, none⟩ x).heap[g]? = some (.cells ((dA g s b s.image.length c vp m).setIfInBounds i x) 115 (0, 0)) := heap_setCell_same _ _ _ _ _ _ h.row

set_option maxRecDepth 100000 in
set_option maxHeartbeats 1000000 in
theorem dmade_any : Calls Tryd.prog 67 #[.pointer (some ⟨g, 0, none⟩)] w fun e w' => e = .returned (.bool true) ∧ w = w' := by
  have c0 : w.cell? ⟨g, 0, none⟩ = some (.pointer (some ⟨g, 0, none⟩)) := h.cell 0 _ rfl
  obtain ⟨ti, hti⟩ : ∃ ti, Tryd.prog.info? 115 = some ti := ⟨_, rfl⟩
  have heq := fun w' => run_eql_ptr_same (P := Tryd.prog) w' (⟨g, 0, none⟩ : Addr) Tryd.underlying51 hti
  clear h hti
  go_enter Tryd.func67, Tryd.ntmps67
  go_wp2
  go_ret
  exact ⟨rfl, rfl⟩

set_option maxRecDepth 100000 in
set_option maxHeartbeats 1000000 in
theorem dlen_any (hok : s.ok) : Calls Tryd.prog 101 #[.pointer (some ⟨g, 0, none⟩)] w fun e w' => e = .returned (.int .i64 (s.stands.length : Nat)) ∧ w = w' := by
  have M := dmade_any h
  have c1 : w.cell? ⟨g, 1, none⟩ = some (.slice (some ⟨b, 0, none⟩) s.image.length c) := h.cell 1 _ rfl
  rw [hok.image_len] at c1
  have hmost := hok.most
  obtain ⟨n, hn⟩ : ∃ n, n = s.stands.length := ⟨_, rfl⟩
  rw [← hn] at c1 hmost ⊢
  obtain ⟨z, hz⟩ : ∃ z, z = 128 * n := ⟨_, rfl⟩
  rw [← hz] at c1
  have v1 : wrap64 ((z : Int) / 128) = (n : Int) := by rw [show (z : Int) / 128 = (n : Int) by omega]; unfold wrap64; omega
  clear h hok hn hz
  go_enter Tryd.func101, Tryd.ntmps101
  go_wp2_with fail
  refine M.mono ?_
  rintro e w1 ⟨rfl, rfl⟩
  go_wp2
  go_ret
  exact ⟨congrArg (fun x => Ending.returned (.int .i64 x)) v1, rfl⟩

set_option maxRecDepth 100000 in
set_option maxHeartbeats 1000000 in
theorem dwaits_any : Calls Tryd.prog 29 #[.pointer (some ⟨g, 0, none⟩)] w fun e w' => e = .returned (.int .i64 (s.waits.length : Nat)) ∧ w = w' := by
  have M := dmade_any h
  obtain ⟨p, cp, hvp, -, -⟩ := own_slice h.pend
  have c2 : w.cell? ⟨g, 2, none⟩ = some vp := h.cell 2 _ rfl
  rw [hvp] at c2
  clear h hvp
  go_enter Tryd.func29, Tryd.ntmps29
  go_wp2_with fail
  refine M.mono ?_
  rintro e w1 ⟨rfl, rfl⟩
  go_wp2
  go_ret
  exact ⟨rfl, rfl⟩

set_option maxRecDepth 100000 in
set_option maxHeartbeats 1000000 in
theorem dops_any : Calls Tryd.prog 27 #[.pointer (some ⟨g, 0, none⟩)] w fun e w' => e = .returned (.int .i64 (s.ops : Nat)) ∧ w = w' := by
  have M := dmade_any h
  have c5 : w.cell? ⟨g, 5, none⟩ = some (.int .i64 (s.ops : Int)) := h.cell 5 _ rfl
  clear h
  go_enter Tryd.func27, Tryd.ntmps27
  go_wp2_with fail
  refine M.mono ?_
  rintro e w1 ⟨rfl, rfl⟩
  go_wp2
  go_ret
  exact ⟨rfl, rfl⟩

set_option maxRecDepth 100000 in
set_option maxHeartbeats 1000000 in
theorem ddown_any : Calls Tryd.prog 30 #[.pointer (some ⟨g, 0, none⟩)] w fun e w' => e = .returned (.bool s.down) ∧ w = w' := by
  have M := dmade_any h
  have c6 : w.cell? ⟨g, 6, none⟩ = some (.bool s.down) := h.cell 6 _ rfl
  clear h
  go_enter Tryd.func30, Tryd.ntmps30
  go_wp2_with fail
  refine M.mono ?_
  rintro e w1 ⟨rfl, rfl⟩
  go_wp2
  go_ret
  exact ⟨rfl, rfl⟩

set_option maxRecDepth 100000 in
set_option maxHeartbeats 1000000 in
theorem dimage_any : Calls Tryd.prog 34 #[.pointer (some ⟨g, 0, none⟩)] w fun e w' => e = .returned (.string (str s.image)) ∧ w = w' := by
  have M := dmade_any h
  have c1 : w.cell? ⟨g, 1, none⟩ = some (.slice (some ⟨b, 0, none⟩) s.image.length c) := h.cell 1 _ rfl
  have hcv := h.dur.conv 0 s.image.length c (by omega)
  rw [List.drop_zero, List.take_length] at hcv
  clear h
  go_enter Tryd.func34, Tryd.ntmps34
  go_wp2_with fail
  refine M.mono ?_
  rintro e w1 ⟨rfl, rfl⟩
  go_wp2
  go_ret
  exact ⟨rfl, rfl⟩

/-- What a call that changes the disk leaves. -/
def DsPost (B g b c m : Nat) (s' : Dk) (vp ret : Value) (w : World) (e : Ending) (w' : World) : Prop :=
  e = .returned ret ∧ ∃ vp', DAt B g b c m s' vp' w' ∧ (∀ k, vp'.ownBlock = some k → vp.ownBlock = some k ∨ w.heap.size ≤ k) ∧ ButBy (DBs g b m vp) w w'

set_option maxRecDepth 100000 in
set_option maxHeartbeats 1000000 in
theorem dfuse_any (n : Int) : Calls Tryd.prog 23 #[.pointer (some ⟨g, 0, none⟩), .int .i64 n] w (DsPost B g b c m { s with fuse := n } vp (.tuple #[]) w) := by
  have M := dmade_any h
  have f4 := h.froz 4
  have c4 : w.cell? ⟨g, 4, none⟩ = some (.int .i64 (fzI s.fuse)) := h.cell 4 _ rfl
  have FIN : Hid (DsPost B g b c m { s with fuse := n } vp (.tuple #[]) w (.returned (.tuple #[])) (w.setCell ⟨g, 4, none⟩ (.int .i64 (fzI n)))) := Lib.hid
    ⟨rfl, vp, h.fields (by rw [h.setRow 4]; rfl) (fun k _ hk => set_other _ _ _ _ _ hk) rfl rfl, fun k e => Or.inl e, (but_refl _ w).setCell g 4 _ (Or.inl rfl)⟩
  clear h
  by_cases hn : (-1 : Int) > n
  · have e : fzI n = -1 := by unfold fzI; rw [if_pos hn]
    rw [e] at FIN
    clear e
    go_enter Tryd.func23, Tryd.ntmps23
    go_wp2_with fail
    refine M.mono ?_
    rintro e w1 ⟨rfl, rfl⟩
    go_wp2
    first | go_ret | go_end0
    exact FIN.out
  · have e : fzI n = n := by unfold fzI; rw [if_neg hn]
    rw [e] at FIN
    clear e
    go_enter Tryd.func23, Tryd.ntmps23
    go_wp2_with fail
    refine M.mono ?_
    rintro e w1 ⟨rfl, rfl⟩
    go_wp2
    first | go_ret | go_end0
    exact FIN.out

set_option maxRecDepth 100000 in
set_option maxHeartbeats 1000000 in
/-- Does the disk execute anything? -/
theorem dready_any : Calls Tryd.prog 77 #[.pointer (some ⟨g, 0, none⟩)] w fun e w' => e = .returned (.int .i64 (if s.down = true then 90 else 0)) ∧ w = w' := by
  have M := dmade_any h
  have c6 : w.cell? ⟨g, 6, none⟩ = some (.bool s.down) := h.cell 6 _ rfl
  clear h
  cases hd : s.down with
  | true =>
    rw [hd] at c6
    rw [if_pos rfl]
    clear hd
    go_enter Tryd.func77, Tryd.ntmps77
    go_wp2_with fail
    refine M.mono ?_
    rintro e w1 ⟨rfl, rfl⟩
    go_wp2
    go_ret
    exact ⟨rfl, rfl⟩
  | false =>
    rw [hd] at c6
    rw [if_neg (by decide)]
    clear hd
    go_enter Tryd.func77, Tryd.ntmps77
    go_wp2_with fail
    refine M.mono ?_
    rintro e w1 ⟨rfl, rfl⟩
    go_wp2
    go_ret
    exact ⟨rfl, rfl⟩

set_option maxRecDepth 100000 in
set_option maxHeartbeats 1000000 in
/-- May a sector be asked for? -/
theorem dreach_any (hok : s.ok) (i : Int) : Calls Tryd.prog 99 #[.pointer (some ⟨g, 0, none⟩), .int .i64 i] w fun e w' => e = .returned (.int .i64 (s.readE i)) ∧ w = w' := by
  have RD := dready_any h
  have LN := dlen_any h hok
  by_cases hd : s.down = true
  · have e1 : s.readE i = 90 := by unfold Dk.readE; rw [if_pos hd]
    rw [e1]
    rw [if_pos hd] at RD
    clear h hok e1 hd LN
    go_enter Tryd.func99, Tryd.ntmps99
    go_wp2_with fail
    refine RD.mono ?_
    rintro e w1 ⟨rfl, rfl⟩
    go_wp2
    go_ret
    exact ⟨rfl, rfl⟩
  · rw [if_neg hd] at RD
    by_cases ho : s.out i
    · have e1 : s.readE i = 5 := by unfold Dk.readE; rw [if_neg hd, if_pos ho]
      rw [e1]
      unfold Dk.out at ho
      obtain ⟨n, hn⟩ : ∃ n, n = s.stands.length := ⟨_, rfl⟩
      rw [← hn] at LN ho
      clear h hok e1 hd hn
      by_cases h0 : i < 0
      · go_enter Tryd.func99, Tryd.ntmps99
        go_wp2_with fail
        refine RD.mono ?_
        rintro e w1 ⟨rfl, rfl⟩
        go_wp2
        go_ret
        exact ⟨rfl, rfl⟩
      · have h1 : (n : Int) ≤ i := by omega
        clear ho
        go_enter Tryd.func99, Tryd.ntmps99
        go_wp2_with fail
        refine RD.mono ?_
        rintro e w1 ⟨rfl, rfl⟩
        go_wp2_with fail
        refine LN.mono ?_
        rintro e w1 ⟨rfl, rfl⟩
        go_wp2
        go_ret
        exact ⟨rfl, rfl⟩
    · have e1 : s.readE i = 0 := by unfold Dk.readE; rw [if_neg hd, if_neg ho]
      rw [e1]
      unfold Dk.out at ho
      obtain ⟨n, hn⟩ : ∃ n, n = s.stands.length := ⟨_, rfl⟩
      rw [← hn] at LN ho
      have h0 : ¬ i < 0 := by omega
      have h1 : ¬ (n : Int) ≤ i := by omega
      clear h hok e1 hd hn ho
      go_enter Tryd.func99, Tryd.ntmps99
      go_wp2_with fail
      refine RD.mono ?_
      rintro e w1 ⟨rfl, rfl⟩
      go_wp2_with fail
      refine LN.mono ?_
      rintro e w1 ⟨rfl, rfl⟩
      go_wp2
      go_ret
      exact ⟨rfl, rfl⟩

set_option maxRecDepth 100000 in
set_option maxHeartbeats 1000000 in
/-- Where a sector stands. -/
theorem dsector_any (hok : s.ok) (q : Nat) (hq : q < s.stands.length) : Calls Tryd.prog 103 #[.pointer (some ⟨g, 0, none⟩), .int .i64 (q : Int)] w fun e w' => e = .returned (.slice (some ⟨b, 128 * q, none⟩) 128 (c - 128 * q)) ∧ w = w' := by
  have c1 : w.cell? ⟨g, 1, none⟩ = some (.slice (some ⟨b, 0, none⟩) s.image.length c) := h.cell 1 _ rfl
  have hil := hok.image_len
  have hcap := h.cap
  have hmost := hok.most
  obtain ⟨a, ha⟩ : ∃ a, a = 128 * q := ⟨_, rfl⟩
  rw [← ha]
  obtain ⟨z, hz⟩ : ∃ z, z = a + 128 := ⟨_, rfl⟩
  obtain ⟨L, hL⟩ : ∃ L, L = s.image.length := ⟨_, rfl⟩
  rw [← hL] at c1 hil hcap
  obtain ⟨q1, hq1⟩ : ∃ q1, q1 = q + 1 := ⟨_, rfl⟩
  have v0 : IntKind.i64.wrap ((q : Int) + 1) = (q1 : Int) := by rw [show (q : Int) + 1 = (q1 : Int) by omega]; exact IntWalk.i64_in _ (by omega)
  have v1 : IntKind.i64.wrap ((q : Int) * 128) = (a : Int) := by rw [show (q : Int) * 128 = (a : Int) by omega]; exact IntWalk.i64_in _ (by omega)
  have v2 : IntKind.i64.wrap ((q1 : Int) * 128) = (z : Int) := by rw [show (q1 : Int) * 128 = (z : Int) by omega]; exact IntWalk.i64_in _ (by omega)
  have i1 : (0 : Int) ≤ a := by omega
  have i2 : (a : Int) ≤ z := by omega
  have i3 : (z : Int) ≤ c := by omega
  have i4 : ¬ (z : Int) < a := by omega
  have i5 : z - a = 128 := by omega
  have i6 : ¬ c = a := by omega
  clear h hok hil hcap hmost hq ha hz hL hq1
  go_enter Tryd.func103, Tryd.ntmps103
  go_wp2
  go_ret
  exact ⟨rfl, rfl⟩

set_option maxRecDepth 100000 in
set_option maxHeartbeats 1000000 in
/-- An operation begins. -/
theorem dcut_any (hlo : s.ops ≤ 4294967296) (hfz : -9223372036854775808 ≤ s.fuse ∧ s.fuse ≤ 9223372036854775807) :
    Calls Tryd.prog 78 #[.pointer (some ⟨g, 0, none⟩)] w fun e w' => e = .returned (.int .i64 (if s.fuse = 0 then 90 else 0)) ∧ DAt B g b c m s.cut vp w' ∧ ButBy (fun k => k = g) w w' := by
  have c5 : w.cell? ⟨g, 5, none⟩ = some (.int .i64 (s.ops : Int)) := h.cell 5 _ rfl
  have f5 := h.froz 5
  have w1r := h.setRow 5 (.int .i64 ((s.ops + 1 : Nat) : Int))
  have hw1 : (dA g s b s.image.length c vp m).setIfInBounds 5 (.int .i64 ((s.ops + 1 : Nat) : Int)) = #[.pointer (some ⟨g, 0, none⟩), .slice (some ⟨b, 0, none⟩) s.image.length c, vp, .map (some m), .int .i64 (fzI s.fuse), .int .i64 ((s.ops + 1 : Nat) : Int), .bool s.down] := rfl
  rw [hw1] at w1r
  have HO : Hid (∀ k, k ≠ g → (w.setCell ⟨g, 5, none⟩ (.int .i64 ((s.ops + 1 : Nat) : Int))).heap[k]? = w.heap[k]?) := Lib.hid (fun k hk => set_other _ _ _ _ _ hk)
  have HB1 : Hid (ButBy (fun k => k = g) w (w.setCell ⟨g, 5, none⟩ (.int .i64 ((s.ops + 1 : Nat) : Int)))) := Lib.hid ((but_refl _ w).setCell g 5 _ rfl)
  have H := Lib.hid h
  have v1 : IntKind.i64.wrap ((s.ops : Int) + 1) = ((s.ops + 1 : Nat) : Int) := by rw [show (s.ops : Int) + 1 = ((s.ops + 1 : Nat) : Int) by omega]; exact IntWalk.i64_in _ (by omega)
  have HCUT : Hid (s.cut = ⟨s.stands, s.waits, if 0 < s.fuse then s.fuse - 1 else s.fuse, s.ops + 1, s.down || s.fuse == 0⟩) := Lib.hid rfl
  obtain ⟨o1, ho1⟩ : ∃ o1, o1 = s.ops + 1 := ⟨_, rfl⟩
  rw [← ho1] at w1r HO HB1 v1 HCUT
  obtain ⟨fz, hfe⟩ : ∃ fz, fz = s.fuse := ⟨_, rfl⟩
  rw [← hfe] at w1r hfz HCUT ⊢
  obtain ⟨W1, hW1⟩ : ∃ W1, W1 = w.setCell ⟨g, 5, none⟩ (.int .i64 (o1 : Int)) := ⟨_, rfl⟩
  rw [← hW1] at w1r HO HB1
  have HW1 := Lib.hid hW1
  have W1R := Lib.hid w1r
  have d4 : W1.cell? ⟨g, 4, none⟩ = some (.int .i64 (fzI fz)) := by rw [cell_of_row _ _ _ _ _ _ w1r]; rfl
  have d6 : W1.cell? ⟨g, 6, none⟩ = some (.bool s.down) := by rw [cell_of_row _ _ _ _ _ _ w1r]; rfl
  have e4 := frozen_of_row W1 g 4 _ _ w1r
  have e6 := frozen_of_row W1 g 6 _ _ w1r
  clear h w1r hw1 hW1 hfe ho1 hlo
  rw [HW1.out] at d4 d6 e4 e6
  by_cases h0 : fz = 0
  · subst h0
    rw [if_pos rfl]
    have d4' : (w.setCell ⟨g, 5, none⟩ (.int .i64 (o1 : Int))).cell? ⟨g, 4, none⟩ = some (.int .i64 0) := d4
    clear d4
    go_enter Tryd.func78, Tryd.ntmps78
    go_wp2
    go_ret
    rw [← HW1.out]
    refine ⟨rfl, H.out.fields ?_ (fun k hk hn => (set_other _ _ _ _ _ hn).trans (HO.out k hn)) rfl rfl, HB1.out.setCell g 6 _ rfl⟩
    rw [heap_setCell_same _ _ _ _ _ _ W1R.out, HCUT.out]
    simp [dA]
  · have hne : (fz == 0) = false := beq_eq_false_iff_ne.2 h0
    rw [if_neg h0]
    rw [hne] at HCUT
    by_cases hp : 0 < fz
    · have v2 : IntKind.i64.wrap (fz - 1) = fz - 1 := IntWalk.i64_in _ (by omega)
      rw [fzI_pos fz (by omega)] at d4
      have hb1 : (fz == -1) = false := beq_eq_false_iff_ne.2 (by omega)
      have HP := Lib.hid hp
      have HF1 : Hid (fzI (fz - 1) = fz - 1) := Lib.hid (fzI_pos _ (by omega))
      clear hp
      go_enter Tryd.func78, Tryd.ntmps78
      go_wp2
      go_ret
      rw [← HW1.out]
      refine ⟨rfl, H.out.fields ?_ (fun k hk hn => (set_other _ _ _ _ _ hn).trans (HO.out k hn)) rfl rfl, HB1.out.setCell g 4 _ rfl⟩
      rw [heap_setCell_same _ _ _ _ _ _ W1R.out, HCUT.out, if_pos HP.out]
      simp [dA, HF1.out]
    · have hq : fzI fz = -1 := (fzI_neg fz).2 (by omega)
      rw [hq] at d4
      have HP := Lib.hid hp
      have HQ := Lib.hid hq
      clear hp hne h0 hq
      go_enter Tryd.func78, Tryd.ntmps78
      go_wp2
      go_ret
      rw [← HW1.out]
      refine ⟨rfl, H.out.fields ?_ (fun k hk hn => HO.out k hn) rfl rfl, HB1.out⟩
      rw [W1R.out, HCUT.out, if_neg (by have := HP.out; omega)]
      simp [dA]
end

end Go.Proofs.YtoigembmbajopaaDoor
namespace Go.Proofs.YtoigembmbajopaaDoor
open Go.RowKit

section
variable {B g b c m : Nat} {s : Dk} {vp : Value} {w : World} (h : DAt B g b c m s vp w)
include h

set_option maxRecDepth 100000 in
set_option maxHeartbeats 1000000 in
theorem dread_any (hok : s.ok) (i : Int) (hi : (Lit.int .i64 i).wf = true) :
    Calls Tryd.prog 71 #[.pointer (some ⟨g, 0, none⟩), .int .i64 i] w fun e w' => e = .returned (.tuple #[.string (str (s.readT i)), .int .i64 (s.readE i)]) ∧ w = w' := by
  have RC := dreach_any h hok i
  by_cases hbad : s.down = true ∨ s.out i
  · have e2 : str (s.readT i) = ⟨#[]⟩ := by unfold Dk.readT; rw [if_pos hbad]; rfl
    have e1 : (s.readE i != 0) = true := by unfold Dk.readE; rw [bne_iff_ne]; split; · decide
                                            rcases hbad with x | x
                                            · contradiction
                                            · rw [if_pos x]; decide
    rw [e2]
    obtain ⟨r, hr⟩ : ∃ r, r = s.readE i := ⟨_, rfl⟩
    rw [← hr] at RC e1 ⊢
    clear h hok e2 hbad hr
    go_enter Tryd.func71, Tryd.ntmps71
    go_wp2_with fail
    refine RC.mono ?_
    rintro e w1 ⟨rfl, rfl⟩
    go_wp2
    first | go_ret | go_ret2
    exact ⟨rfl, rfl⟩
  · have hd : ¬ s.down = true := fun x => hbad (Or.inl x)
    have ho : ¬ s.out i := fun x => hbad (Or.inr x)
    have e1 : s.readE i = 0 := by unfold Dk.readE; rw [if_neg hd, if_neg ho]
    have e2 : s.readT i = s.vis i.toNat := by unfold Dk.readT; rw [if_neg hbad]
    rw [e1] at RC
    rw [e1, e2]
    unfold Dk.out at ho
    obtain ⟨q, rfl⟩ : ∃ q : Nat, i = q := ⟨i.toNat, by omega⟩
    rw [Int.toNat_natCast]
    have hqs : q < s.stands.length := by omega
    have hlk := h.map.look Tryd.underlying113 hi
    have c3 : w.cell? ⟨g, 3, none⟩ = some (.map (some m)) := h.cell 3 _ rfl
    rcases lastF_vis s q with ⟨hn, hv⟩ | ⟨j, hj, hjl, hv⟩
    · have hil := hok.image_len
      have hcv := h.dur.conv (128 * q) 128 (c - 128 * q) (by omega)
      have hsec : (s.image.drop (128 * q)).take 128 = s.vis q := by
        rw [hv, List.getD_eq_getElem?_getD, List.getElem?_eq_getElem hqs]
        exact flat_sect _ hok.sect q hqs
      rw [hsec] at hcv
      rw [hn] at hlk
      have hlk2 : (Instr.lookup 113 (.map (some m)) (.int .i64 (q : Int)) true).run Tryd.prog w = .ok (.tuple #[.int .i64 0, .bool false]) w := hlk
      obtain ⟨tv, htv⟩ : ∃ tv, tv = str (s.vis q) := ⟨_, rfl⟩
      rw [← htv] at hcv ⊢
      have SC := dsector_any h hok q hqs
      obtain ⟨a, ha⟩ : ∃ a, a = 128 * q := ⟨_, rfl⟩
      rw [← ha] at hcv SC
      clear h hok e1 e2 hbad hd hlk hn hv hsec htv ha hil hqs ho
      go_enter Tryd.func71, Tryd.ntmps71
      go_wp2_with fail
      refine RC.mono ?_
      rintro e w1 ⟨rfl, rfl⟩
      go_wp2_with fail
      refine SC.mono ?_
      rintro e w1 ⟨rfl, rfl⟩
      go_wp2
      first | go_ret | go_ret2
      exact ⟨rfl, rfl⟩
    · have hwl : ∀ p ∈ s.waits, p.2.length = 128 := fun p hp => (hok.wait p hp).2
      obtain ⟨gp, cp, cur, hvp, -, -, -, -, -, -, hby⟩ := own_cut h.pend rfl hwl j hjl
      have c2 : w.cell? ⟨g, 2, none⟩ = some vp := h.cell 2 _ rfl
      rw [hvp] at c2
      have hcv := conv_cells (w := w) gp (j * 129 + 1) 128 128 s.waits[j].2 (hwl _ (List.getElem_mem hjl)) hby
      rw [← hv] at hcv
      rw [hj] at hlk
      have hlk2 : (Instr.lookup 113 (.map (some m)) (.int .i64 (q : Int)) true).run Tryd.prog w = .ok (.tuple #[.int .i64 (j : Int), .bool true]) w := hlk
      obtain ⟨tv, htv⟩ : ∃ tv, tv = str (s.vis q) := ⟨_, rfl⟩
      rw [← htv] at hcv ⊢
      obtain ⟨k, hk⟩ : ∃ k, k = s.waits.length := ⟨_, rfl⟩
      rw [← hk] at c2 hjl
      have i1 : (0 : Int) ≤ j := by omega
      have i2 : (j : Int) < k := by omega
      clear h hok e1 e2 hbad hd hlk hj hv htv hby hk hvp hqs ho hwl
      go_enter Tryd.func71, Tryd.ntmps71
      go_wp2_with fail
      refine RC.mono ?_
      rintro e w1 ⟨rfl, rfl⟩
      go_wp2
      first | go_ret | go_ret2
      exact ⟨rfl, rfl⟩
end

end Go.Proofs.YtoigembmbajopaaDoor
