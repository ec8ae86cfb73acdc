/- Laws on arrays inside a row of cells: a part that is loaded, stored, indexed, cut, copied to. How many first bits are 0, the document's; hooks. Rows of fingerprints; what is appended to them. Sorted, without duplicates: the list as a set. Mathematics, of no program. -/
import Derived.Laws.Rows
import Derived.Laws.CopyRow
import Derived.Laws.CopyOwn
import Derived.Lib.Strings
import Derived.Below
import Derived.WalkKit
import Derived.Test.YtlmccnelhpnneaaGB
import Derived.Deep.RegionHeld
import Derived.Deep.MidRow
import Derived.Laws.AppendOwn
import Derived.Lib.AppendStr
namespace Go.Proofs.Ytlmccnelhpnneaa
open Go.RowKit

section
variable {P : Program}

/-- A row with some cells laid over it. -/
def laidOver (cur : Array Value) (o : Nat) (vs : List Value) : Array Value := (cur.toList.take o ++ vs ++ cur.toList.drop (o + vs.length)).toArray

theorem laidOver_size (cur : Array Value) (o : Nat) (vs : List Value) (h : o + vs.length ≤ cur.size) : (laidOver cur o vs).size = cur.size := by
  simp [laidOver]; omega

theorem laidOver_in (cur : Array Value) (o : Nat) (vs : List Value) (h : o + vs.length ≤ cur.size) (j : Nat) (hj : j < vs.length) : (laidOver cur o vs)[o + j]? = vs[j]? := by
  unfold laidOver
  simp only [List.getElem?_toArray]
  have hl : (cur.toList.take o).length = o := by rw [List.length_take, Array.length_toList]; omega
  rw [List.append_assoc, List.getElem?_append_right (by omega), hl, show o + j - o = j by omega, List.getElem?_append_left hj]

theorem laidOver_lo (cur : Array Value) (o : Nat) (vs : List Value) (h : o + vs.length ≤ cur.size) (j : Nat) (hj : j < o) : (laidOver cur o vs)[j]? = cur[j]? := by
  unfold laidOver
  simp only [List.getElem?_toArray]
  have hl : (cur.toList.take o).length = o := by rw [List.length_take, Array.length_toList]; omega
  rw [List.append_assoc, List.getElem?_append_left (by omega), List.getElem?_take, if_pos hj, Array.getElem?_toList]

theorem laidOver_hi (cur : Array Value) (o : Nat) (vs : List Value) (h : o + vs.length ≤ cur.size) (j : Nat) (hj : o + vs.length ≤ j) : (laidOver cur o vs)[j]? = cur[j]? := by
  unfold laidOver
  simp only [List.getElem?_toArray]
  have hl : (cur.toList.take o).length = o := by rw [List.length_take, Array.length_toList]; omega
  rw [List.append_assoc, List.getElem?_append_right (by omega), hl, List.getElem?_append_right (by omega), List.getElem?_drop, show o + vs.length + (j - o - vs.length) = j by omega, Array.getElem?_toList]

theorem run_index_arr (w : World) (t e : TypeId) (n : Nat) (cs : Array Value) (k ik : IntKind) (i : Nat) (v : Value) (ht : P.underlying t = some (.array n e)) (he : P.underlying e = some (.int ik)) (hs : (P.info? e).map (·.size) = some 1)
    (hi : i < n) (hv : cs[i]? = some v) : (Instr.index t (.agg cs) (.int k i)).run P w = .ok v w := by
  cases hq : P.info? e with
  | none => simp [hq] at hs
  | some ti =>
    have h1 : ti.size = 1 := by simpa [hq] using hs
    have hi' : (i : Int) < n := by omega
    simp [Instr.index, run_underlying ht, asIntOf, part, isAgg, run_underlying he, sizeOf, typeInfo, hq, h1, hv, hi]

/-- An array in a row, cut from a place that it has. -/
theorem run_cut_arr (w : World) (t e : TypeId) (n g o i : Nat) (k : IntKind) (ht : P.underlying t = some (.array n e)) (hs : (P.info? e).map (·.size) = some 1) (hi : i < n) :
    (Instr.sliceAt t (.pointer (some ⟨g, o, none⟩)) (some (.int k i)) none none).run P w = .ok (.slice (some ⟨g, o + i, none⟩) (n - i) (n - i)) w := by
  cases hq : P.info? e with
  | none => simp [hq] at hs
  | some ti =>
    have h1 : ti.size = 1 := by simpa [hq] using hs
    have hne : ¬ n = i := by omega
    have hadd : (⟨g, o, none⟩ : Addr).add i = ⟨g, o + i, none⟩ := by unfold Addr.add; split <;> simp_all
    simp [Instr.sliceAt, run_underlying ht, Instr.sureAddr, Instr.sliceBounds, Instr.sliceBound, asIntOf, sizeOf, typeInfo, hq, h1, hne, hadd]
    omega

/-- The load of an array that is a part of a row. -/
theorem run_loadVar_sub (w : World) (g o n : Nat) (t ty : TypeId) (cs : Array Value) (fr : Nat × Nat) (d : TypeDesc) (hg : w.heap[g]? = some (.cells cs t fr))
    (hu : P.underlying ty = some d) (hd : (match d with | .struct _ | .array _ _ => true | _ => false) = true) (hi : (P.info? ty).map (·.size) = some n) (ho : o + n ≤ cs.size) :
    (loadVar ty ⟨g, o, none⟩).run P w = .ok (.agg (cs.extract o (o + n))) w := by
  have hl : (loadCells ⟨g, o, none⟩ (cs.extract o (o + n)).toList.length).run P w = .ok (cs.extract o (o + n)).toList.toArray w :=
    run_loadCells_list (P := P) w ⟨g, o, none⟩ (cs.extract o (o + n)).toList (fun j v hv => by
      have hadd : (⟨g, o, none⟩ : Addr).add j = ⟨g, o + j, none⟩ := by unfold Addr.add; split <;> simp_all
      rw [hadd, cell_of_row w g (o + j) cs t fr hg]
      rw [Array.getElem?_toList, Array.getElem?_extract] at hv
      by_cases hj : j < min (o + n) cs.size - o
      · rw [if_pos hj] at hv; exact hv
      · rw [if_neg hj] at hv; cases hv)
  have hsz : (cs.extract o (o + n)).size = n := by rw [Array.size_extract]; omega
  cases hq : P.info? ty with
  | none => simp [hq] at hi
  | some i =>
    have hs : i.size = n := by simpa [hq] using hi
    have hagg : (isAgg ty).run P w = .ok true w := by
      unfold isAgg
      rw [Sem.run_bind, run_underlying hu w]
      cases d <;> simp_all
    simp only [Array.length_toList, Array.toArray_toList, hsz] at hl
    simp [loadVar, Sem.run_bind, hagg, sizeOf, typeInfo, hq, hs, hl]

theorem wp_load_sub {o : Oper} {a : Act} {w : World} {K : Act → World → Prop} {Q : Exit → Act → World → Prop} (ty : TypeId) (x : Operand) (ho : o.op = .load ty x)
    (g off n : Nat) (hx : a.eval x = .pointer (some ⟨g, off, none⟩)) (t : TypeId) (cs : Array Value) (fr : Nat × Nat) (d : TypeDesc) (hg : w.heap[g]? = some (.cells cs t fr))
    (hu : P.underlying ty = some d) (hd : (match d with | .struct _ | .array _ _ => true | _ => false) = true) (hi : (P.info? ty).map (·.size) = some n) (hon : off + n ≤ cs.size)
    (v : Array Value) (hv : cs.extract off (off + n) = v)
    (h : K (a.put o.dst (.agg v)) w) : o.wp P a w K Q := by
  subst hv
  unfold Oper.wp execOp
  simp only [ho, hx, Instr.loadAt, Instr.sureAddr, Sem.run_bind, Sem.run_pure, Result.andThen_ok, run_loadVar_sub w g off n t ty cs fr d hg hu hd hi hon]
  exact h

theorem wpList_load_sub {ops : Array Oper} {rest : List Oper} {o : Oper} {a : Act} {w : World} {Q : Exit → Act → World → Prop} (hgd : o.guard = none) (ty : TypeId) (x : Operand) (ho : o.op = .load ty x)
    (g off n : Nat) (hx : a.eval x = .pointer (some ⟨g, off, none⟩)) (t : TypeId) (cs : Array Value) (fr : Nat × Nat) (d : TypeDesc) (hg : w.heap[g]? = some (.cells cs t fr))
    (hu : P.underlying ty = some d) (hd : (match d with | .struct _ | .array _ _ => true | _ => false) = true) (hi : (P.info? ty).map (·.size) = some n) (hon : off + n ≤ cs.size)
    (v : Array Value) (hv : cs.extract off (off + n) = v)
    (h : wpList P ops Q rest (a.put o.dst (.agg v)) w) : wpList P ops Q (o :: rest) a w :=
  wpList_plain hgd fun _ hK => wp_load_sub ty x ho g off n hx t cs fr d hg hu hd hi hon v hv (hK _ _ h)

/-- The store of an array that is a part of a row. -/
theorem run_storeVar_sub (w : World) (g o : Nat) (t ty : TypeId) (old cells : Array Value) (hg : w.heap[g]? = some (.cells old t (0, 0))) (hi : (P.info? ty).map (·.size) = some cells.size)
    (ho : o + cells.size ≤ old.size) (h1 : cells.all (·.oneCell') = true) :
    (storeVar ty ⟨g, o, none⟩ (.agg cells)).run P w = .ok () (w.setRow g (laidOver old o cells.toList)) := by
  have := run_storeCells_at P g o t cells.toList 0 old w hg (by simp; omega) (fun v hv => (Array.all_eq_true_iff_forall_mem.1 h1) v (by simpa using hv))
  cases hq : P.info? ty with
  | none => simp [hq] at hi
  | some i =>
    have hs : cells.size = i.size := by simp [hq] at hi; omega
    rw [Nat.add_zero] at this
    simp [storeVar, sizeOf, typeInfo, hq, Value.cells, hs, laidOver]
    simpa [hs] using this

theorem wp_store_sub {o : Oper} {a : Act} {w : World} {K : Act → World → Prop} {Q : Exit → Act → World → Prop} (ty : TypeId) (x y : Operand) (ho : o.op = .store ty x y)
    (g off : Nat) (cells : Array Value) (hx : a.eval x = .pointer (some ⟨g, off, none⟩)) (hy : a.eval y = .agg cells)
    (t : TypeId) (old : Array Value) (hg : w.heap[g]? = some (.cells old t (0, 0))) (hi : (P.info? ty).map (·.size) = some cells.size)
    (hold : off + cells.size ≤ old.size) (h1 : cells.all (·.oneCell') = true)
    (h : K (a.put o.dst undef) (w.setRow g (laidOver old off cells.toList))) : o.wp P a w K Q := by
  unfold Oper.wp execOp
  simp only [ho, hx, hy, Instr.storeAt, Instr.sureAddr, Sem.run_bind, Sem.run_pure, Result.andThen_ok, run_storeVar_sub w g off t ty old cells hg hi hold h1]
  exact h

theorem wpList_store_sub {ops : Array Oper} {rest : List Oper} {o : Oper} {a : Act} {w : World} {Q : Exit → Act → World → Prop} (hgd : o.guard = none) (ty : TypeId) (x y : Operand) (ho : o.op = .store ty x y)
    (g off : Nat) (cells : Array Value) (hx : a.eval x = .pointer (some ⟨g, off, none⟩)) (hy : a.eval y = .agg cells)
    (t : TypeId) (old : Array Value) (hg : w.heap[g]? = some (.cells old t (0, 0))) (hi : (P.info? ty).map (·.size) = some cells.size)
    (hold : off + cells.size ≤ old.size) (h1 : cells.all (·.oneCell') = true)
    (h : wpList P ops Q rest (a.put o.dst undef) (w.setRow g (laidOver old off cells.toList))) : wpList P ops Q (o :: rest) a w :=
  wpList_plain hgd fun _ hK => wp_store_sub ty x y ho g off cells hx hy t old hg hi hold h1 (hK _ _ h)

/-- An array out of an aggregate. -/
theorem run_field_sub (w : World) (t : TypeId) (fs : Array Field) (cs : Array Value) (k : Nat) (f : Field) (d : TypeDesc) (n : Nat) (ht : P.underlying t = some (.struct fs)) (hf : fs[k]? = some f)
    (hu : P.underlying f.type = some d) (hd : (match d with | .struct _ | .array _ _ => true | _ => false) = true) (hi : (P.info? f.type).map (·.size) = some n) :
    (Instr.field t (.agg cs) k).run P w = .ok (.agg (cs.extract f.offset (f.offset + n))) w := by
  cases hq : P.info? f.type with
  | none => simp [hq] at hi
  | some i =>
    have hs : i.size = n := by simpa [hq] using hi
    have hagg : (isAgg f.type).run P w = .ok true w := by
      unfold isAgg
      rw [Sem.run_bind, run_underlying hu w]
      cases d <;> simp_all
    simp [Instr.field, run_underlying ht, hf, asAgg, part, hagg, sizeOf, typeInfo, hq, hs]

/-- A literal of known parts. -/
theorem wpList_built {ops : Array Oper} {rest : List Oper} {o : Oper} {a : Act} {w : World} {Q : Exit → Act → World → Prop} (hg : o.guard = none) (t : TypeId) (parts : Array (Nat × Operand)) (ho : o.op = .build t parts)
    (ps : List (Nat × Value)) (hps : (parts.map fun (i, x) => (i, a.eval x)).toList = ps) (cells : Array Value) (hb : P.built t ps = some cells)
    (h : wpList P ops Q rest (a.put o.dst (.agg cells)) w) : wpList P ops Q (o :: rest) a w := by
  subst hps
  exact wpList_build hg t parts ho (by rw [hb]; rfl) (by rw [hb]; exact h)

/-- The cells of the first k bytes of a text. -/
def firstB (s : ByteArray) (k : Nat) : List Value := (s.data.toList.take k).map fun x => Value.int .u8 (x.toNat : Int)

theorem firstB_len (s : ByteArray) (k : Nat) (h : k ≤ s.size) : (firstB s k).length = k := by
  simp only [firstB, List.length_map, List.length_take]
  have : s.data.toList.length = s.size := (Lib.size_eq s).symm
  omega

/-- 'copy(dst, s)', s a text, dst a part of a row: as many bytes as the shorter has. -/
theorem run_copy_str (w : World) (dT sT ty elem : TypeId) (g o dLen dCap : Nat) (s : ByteArray) (cur : Array Value) (t : TypeId) (k : Nat)
    (hu : P.underlying dT = some (.slice elem)) (hs : (P.info? elem).map (·.size) = some 1) (hk : Nat.min s.size dLen = k)
    (hg : w.heap[g]? = some (.cells cur t (0, 0))) (hfit : o + dLen ≤ cur.size) :
    (Builtin.copy_ #[dT, sT] ty #[.slice (some ⟨g, o, none⟩) dLen dCap, .string s]).run P w = .ok (goInt k) (w.setRow g (laidOver cur o (firstB s k))) := by
  have hkl : k ≤ s.size := by rw [← hk]; exact Nat.min_le_left _ _
  have hkd : k ≤ dLen := by rw [← hk]; exact Nat.min_le_right _ _
  have hst := run_storeCells_at P g o t (firstB s k) 0 cur w hg (by rw [firstB_len s k hkl]; omega) (by
    intro v hv
    obtain ⟨x, _, rfl⟩ := List.mem_map.1 hv
    rfl)
  rw [Nat.add_zero] at hst
  cases hq : P.info? elem with
  | none => simp [hq] at hs
  | some i =>
    have hi : i.size = 1 := by simpa [hq] using hs
    simp [Builtin.copy_, run_underlying hu, Builtin.lenOf, Builtin.firstCells, sizeOf, typeInfo, hq, hk]
    rw [← List.map_take]
    unfold firstB at hst
    rw [hst]
    rfl

theorem wpList_copy_str {ops : Array Oper} {rest : List Oper} {o : Oper} {a : Act} {w : World} {Q : Exit → Act → World → Prop} (hgd : o.guard = none) (d x : Operand) (dT sT : TypeId)
    (ho : o.op = .call { callee := .builtin .copy, args := #[d, x], argTypes := #[dT, sT] }) (elem : TypeId) (hu : P.underlying dT = some (.slice elem)) (hsz : (P.info? elem).map (·.size) = some 1)
    (g off dLen dCap : Nat) (s : ByteArray) (hd : a.eval d = .slice (some ⟨g, off, none⟩) dLen dCap) (hx : a.eval x = .string s)
    (cur : Array Value) (t : TypeId) (hg : w.heap[g]? = some (.cells cur t (0, 0))) (k : Nat) (hk : Nat.min s.size dLen = k) (hfit : off + dLen ≤ cur.size)
    (new : Array Value) (hnew : laidOver cur off (firstB s k) = new)
    (h : wpList P ops Q rest (a.put o.dst (goInt k)) (w.setRow g new)) : wpList P ops Q (o :: rest) a w := by
  subst hnew
  refine wpList_plain hgd fun K hK => ?_
  have hrun := run_copy_str (P := P) w dT sT o.type elem g off dLen dCap s cur t k hu hsz hk hg hfit
  unfold Oper.wp
  simp [execOp, ho, resolve, invoke, builtin, hd, hx, hrun, Result.andThen]
  exact hK _ _ h

end

end Go.Proofs.Ytlmccnelhpnneaa
namespace Go.Proofs.Ytlmccnelhpnneaa
open Go.RowKit

/-- What a bit is worth. -/
def worthN (k : Nat) : Nat := 128 / 2 ^ k

theorem worth_next (k : Nat) : worthN k / 2 = worthN (k + 1) := by
  unfold worthN
  rw [Nat.div_div_eq_div_mul, Nat.pow_succ]

theorem worth_pos : ∀ k : Fin 8, 0 < worthN k.val ∧ worthN k.val ≤ 128 := by decide +kernel
theorem worth_end : worthN 8 = 0 := by decide +kernel
theorem bit_set : ∀ (k : Fin 8) (x : Fin 256), x.val < 2 ^ (8 - k.val) → x.val / worthN k.val % 2 = 1 → x.val ≠ 0 ∧ 8 - Lib.bitLen x.val = k.val := by decide +kernel
theorem bit_clear : ∀ (k : Fin 8) (x : Fin 256), x.val < 2 ^ (8 - k.val) → x.val / worthN k.val % 2 ≠ 1 → x.val < 2 ^ (8 - (k.val + 1)) := by decide +kernel

/-- The load of a number, in every world of the class. -/
theorem wpQuiet_load_int {P : Program} {ops : Array Oper} {C : World → Prop} {Q : Act → Prop} {a : Act} {o : Oper} {rest : List Oper} (hw : Region.wanted o (yielded ops a.tmps) = true) (ty : TypeId) (x : Operand) (ho : o.op = .load ty x)
    (p : Addr) (hx : a.eval x = .pointer (some p)) (k : IntKind) (hu : P.underlying ty = some (.int k)) (v : Value) (hg : ∀ W, C W → W.cell? p = some v)
    (h : ∀ K : Act → Prop, (∀ a, wpQuiet P ops C Q rest a → K a) → K (a.put o.dst v)) : wpQuiet P ops C Q (o :: rest) a := by
  refine wpQuiet_pure hw v (fun W hC => ?_) h
  have c := hg W hC
  have u := run_underlying hu
  simp [execOp, ho, hx, Instr.loadAt, Instr.sureAddr, loadVar, isAgg, u, c]

theorem range_of_row {w : World} {b : Nat} {C : Array Value} {T : TypeId} {f : Nat × Nat} (g : w.heap[b]? = some (.cells C T f)) : w.rangeAt b 0 C.toList := fun j v hv => by
  rw [cell_of_row _ _ _ _ _ _ g, Nat.zero_add, ← Array.getElem?_toList]; exact hv

end Go.Proofs.Ytlmccnelhpnneaa
namespace Go.Proofs.Ytlmccnelhpnneaa
open Go.RowKit

/-- The cells of some fingerprints. -/
def flatL (ls : List (List UInt8)) : List Value := ls.flatMap fun l => (fpA l).toList
def rowA (ls : List (List UInt8)) (rest : List Value) : Array Value := (flatL ls ++ rest).toArray
/-- All have 32 bytes. -/
def All32 (ls : List (List UInt8)) : Prop := ∀ l ∈ ls, l.length = 32

theorem fpL_len (l : List UInt8) : (fpA l).toList.length = l.length := by rw [Array.length_toList, fpA_size]

theorem flatL_append (a b : List (List UInt8)) : flatL (a ++ b) = flatL a ++ flatL b := List.flatMap_append
theorem flatL_cons (x : List UInt8) (b : List (List UInt8)) : flatL (x :: b) = (fpA x).toList ++ flatL b := List.flatMap_cons
theorem flatL_one (x : List UInt8) : flatL [x] = (fpA x).toList := by rw [flatL_cons]; simp [flatL]

theorem flatL_len : ∀ ls : List (List UInt8), All32 ls → (flatL ls).length = ls.length * 32
  | [], _ => rfl
  | x :: ls, h => by
    rw [flatL_cons, List.length_append, fpL_len, h x (List.mem_cons_self ..), flatL_len ls (fun l hl => h l (List.mem_cons_of_mem _ hl)), List.length_cons]
    omega

theorem flatL_one' : ∀ (ls : List (List UInt8)) (u : Value), u ∈ flatL ls → u.oneCell' = true := by
  intro ls u hu
  obtain ⟨l, _, hl⟩ := List.mem_flatMap.1 hu
  simp only [fpA, List.mem_map] at hl
  obtain ⟨c, _, rfl⟩ := hl
  rfl

theorem flat_split (ls : List (List UInt8)) (i : Nat) (hi : i < ls.length) : flatL ls = flatL (ls.take i) ++ ((fpA ls[i]).toList ++ flatL (ls.drop (i + 1))) := by
  conv => lhs; rw [← List.take_append_drop i ls, List.drop_eq_getElem_cons hi]
  rw [flatL_append, flatL_cons]

theorem all32_take {ls : List (List UInt8)} (h : All32 ls) (i : Nat) : All32 (ls.take i) := fun l hl => h l (List.mem_of_mem_take hl)
theorem all32_drop {ls : List (List UInt8)} (h : All32 ls) (i : Nat) : All32 (ls.drop i) := fun l hl => h l (List.mem_of_mem_drop hl)
theorem all32_set {ls : List (List UInt8)} (h : All32 ls) (i : Nat) (x : List UInt8) (hx : x.length = 32) : All32 (ls.set i x) := fun l hl => by
  rcases List.mem_or_eq_of_mem_set hl with e | e
  · exact h l e
  · rw [e]; exact hx

theorem take_flat_len {ls : List (List UInt8)} (h : All32 ls) (i : Nat) (hi : i ≤ ls.length) : (flatL (ls.take i)).length = i * 32 := by
  rw [flatL_len _ (all32_take h i), List.length_take, Nat.min_eq_left hi]

theorem rowA_size (ls : List (List UInt8)) (rest : List Value) (h : All32 ls) : (rowA ls rest).size = ls.length * 32 + rest.length := by
  simp [rowA, flatL_len ls h]

theorem rowA_extract (ls : List (List UInt8)) (rest : List Value) (h : All32 ls) (i : Nat) (hi : i < ls.length) : (rowA ls rest).extract (i * 32) (i * 32 + 32) = fpA ls[i] := by
  have e0 := take_flat_len h i (by omega)
  have e1 : (fpA ls[i]).toList.length = 32 := by rw [fpL_len]; exact h _ (List.getElem_mem hi)
  apply Array.toList_inj.1
  rw [Array.toList_extract]
  unfold rowA
  rw [flat_split ls i hi]
  simp only [List.extract_eq_take_drop]
  rw [List.append_assoc, List.drop_left' e0, List.append_assoc, show i * 32 + 32 - i * 32 = 32 by omega, List.take_left' e1]

theorem rowA_set (ls : List (List UInt8)) (rest : List Value) (h : All32 ls) (i : Nat) (hi : i < ls.length) (x : List UInt8) (hx : x.length = 32) : laidOver (rowA ls rest) (i * 32) (fpA x).toList = rowA (ls.set i x) rest := by
  have e0 := take_flat_len h i (by omega)
  have e1 : (fpA ls[i]).toList.length = 32 := by rw [fpL_len]; exact h _ (List.getElem_mem hi)
  have e2 : (fpA x).toList.length = 32 := by rw [fpL_len]; exact hx
  have s1 : flatL (ls.set i x) = flatL (ls.take i) ++ ((fpA x).toList ++ flatL (ls.drop (i + 1))) := by
    rw [List.set_eq_take_append_cons_drop, if_pos hi, flatL_append, flatL_cons]
  unfold laidOver rowA
  congr 1
  rw [s1, flat_split ls i hi, e2]
  simp only [List.append_assoc]
  rw [List.take_left' e0, ← List.drop_drop, List.drop_left' e0, List.drop_left' e1]

theorem rowA_cell (ls : List (List UInt8)) (rest : List Value) (h : All32 ls) (i c : Nat) (hi : i < ls.length) (hc : c < 32) : (rowA ls rest)[i * 32 + c]? = (fpA ls[i])[c]? := by
  have hs := rowA_size ls rest h
  rw [← rowA_extract ls rest h i hi, Array.getElem?_extract, if_pos (by rw [hs]; have := Nat.mul_le_mul_right 32 (show i + 1 ≤ ls.length from hi); omega)]

/-- The first elements of a row. -/
theorem rowA_take (ls : List (List UInt8)) (rest : List Value) (k : Nat) : rowA ls rest = rowA (ls.take k) (flatL (ls.drop k) ++ rest) := by
  unfold rowA
  rw [← List.append_assoc, ← flatL_append, List.take_append_drop]

/-- A row of fingerprints in the block g. -/
def RowAt (g : Nat) (ls : List (List UInt8)) (rest : List Value) (w : World) : Prop := All32 ls ∧ w.heap[g]? = some (.cells (rowA ls rest) 37 (0, 0))

theorem RowAt.lt {g : Nat} {ls : List (List UInt8)} {rest : List Value} {w : World} (h : RowAt g ls rest w) : g < w.heap.size := (Array.getElem?_eq_some_iff.1 h.2).1
theorem RowAt.kept {g : Nat} {ls : List (List UInt8)} {rest : List Value} {w w' : World} (h : RowAt g ls rest w) (k : Below w.heap.size w w') : RowAt g ls rest w' :=
  ⟨h.1, by rw [k.block _ h.lt]; exact h.2⟩

/-- A slice of fingerprints in memory of the call's own. -/
def OwnFps (B : Nat) (ls : List (List UInt8)) (v : Value) (w : World) : Prop := All32 ls ∧ w.ownsRow B 37 32 v ls.length (flatL ls)

theorem OwnFps.nil (B : Nat) (w : World) : OwnFps B [] (.slice none 0 0) w := ⟨(fun _ h => by cases h), World.ownsRow_nil w B _ 32⟩

theorem OwnFps.parts {B : Nat} {ls : List (List UInt8)} {v : Value} {w : World} (h : OwnFps B ls v w) : (v = .slice none 0 0 ∧ ls = []) ∨
    ∃ g cap rest, v = .slice (some ⟨g, 0, none⟩) ls.length cap ∧ B ≤ g ∧ RowAt g ls rest w ∧ ls.length ≤ cap ∧ cap ≤ maxLen ∧ ls.length * 32 + rest.length = cap * 32 := by
  rcases h.2.2 with ⟨rfl, h0⟩ | ⟨g, cap, cur, rfl, hb, hg, hc, hm, hs, ht⟩
  · exact Or.inl ⟨rfl, List.length_eq_zero_iff.1 h0⟩
  · right
    have e : cur = rowA ls (cur.toList.drop (ls.length * 32)) := by
      apply Array.toList_inj.1
      unfold rowA
      rw [← ht]
      simp
    refine ⟨g, cap, _, rfl, hb, ⟨h.1, by rw [← e]; exact hg⟩, hc, hm, ?_⟩
    rw [List.length_drop]
    have e2 : cur.toList.length = cur.size := Array.length_toList
    have := Nat.mul_le_mul_right 32 hc
    omega

theorem OwnFps.of_row {B g cap : Nat} {ls : List (List UInt8)} {rest : List Value} {w : World} (hB : B ≤ g) (h : RowAt g ls rest w) (hc : ls.length ≤ cap) (hm : cap ≤ maxLen) (hs : ls.length * 32 + rest.length = cap * 32) :
    OwnFps B ls (.slice (some ⟨g, 0, none⟩) ls.length cap) w :=
  ⟨h.1, flatL_len ls h.1, Or.inr ⟨g, cap, _, rfl, hB, h.2, hc, hm, by rw [rowA_size _ _ h.1]; exact hs, by rw [← flatL_len ls h.1]; simp [rowA]⟩⟩

theorem RowAt.fps {g cap : Nat} {ls : List (List UInt8)} {rest : List Value} {w : World} (h : RowAt g ls rest w) : FpsAt 32 ls (.slice (some ⟨g, 0, none⟩) ls.length cap) w := by
  refine ⟨h.1, some ⟨g, 0, none⟩, cap, rfl, Or.inr ⟨g, 0, rfl, fun i hi j hj => ?_⟩⟩
  rw [Nat.zero_add, cell_of_row _ _ _ _ _ _ h.2, rowA_cell ls rest h.1 i j hi hj, fpA_get _ _ (by rw [h.1 _ (List.getElem_mem hi)]; exact hj)]

theorem OwnFps.fps {B : Nat} {ls : List (List UInt8)} {v : Value} {w : World} (h : OwnFps B ls v w) : FpsAt 32 ls v w := by
  rcases h.parts with ⟨rfl, rfl⟩ | ⟨g, cap, rest, rfl, _, hr, _⟩
  · exact ⟨h.1, none, 0, rfl, Or.inl rfl⟩
  · exact hr.fps

theorem OwnFps.later {B : Nat} {ls : List (List UInt8)} {v : Value} {w w' : World} (h : OwnFps B ls v w) (k : Below w.heap.size w w') : OwnFps B ls v w' := by
  refine ⟨h.1, h.2.1, ?_⟩
  rcases h.2.2 with hn | ⟨g, cap, cur, rfl, hb, hg, hr⟩
  · exact Or.inl hn
  · exact Or.inr ⟨g, cap, cur, rfl, hb, by rw [k.block _ (Array.getElem?_eq_some_iff.1 hg).1]; exact hg, hr⟩

theorem OwnFps.base {B B' : Nat} {ls : List (List UInt8)} {v : Value} {w : World} (h : OwnFps B ls v w) (hB : B' ≤ B) : OwnFps B' ls v w := by
  refine ⟨h.1, h.2.1, ?_⟩
  rcases h.2.2 with hn | ⟨g, cap, cur, rfl, hb, hr⟩
  · exact Or.inl hn
  · exact Or.inr ⟨g, cap, cur, rfl, Nat.le_trans hB hb, hr⟩

theorem OwnFps.lt {B : Nat} {ls : List (List UInt8)} {v : Value} {w : World} (h : OwnFps B ls v w) : ∀ k, v.ownBlock = some k → B ≤ k ∧ k < w.heap.size := World.ownsRow.lt h.2

/-- The row in which an element of a slice lies. -/
theorem FpsAt.elem {ls : List (List UInt8)} {w : World} {p : Option Addr} {c i : Nat} (h : FpsAt 32 ls (.slice p ls.length c) w) (hi : i < ls.length) :
    ∃ b off cs t fr, p = some ⟨b, off, none⟩ ∧ w.heap[b]? = some (.cells cs t fr) ∧ off + i * 32 + 32 ≤ cs.size ∧ cs.extract (off + i * 32) (off + i * 32 + 32) = fpA ls[i] := by
  obtain ⟨hn, p', c', e, h⟩ := h
  simp only [Value.slice.injEq, true_and] at e
  obtain ⟨rfl, rfl⟩ := e
  rcases h with rfl | ⟨b, off, rfl, hc⟩
  · simp at hi
  · obtain ⟨cs, t, fr, h1, h2, h3⟩ := row_of_cells (o := off + i * 32) (hn _ (List.getElem_mem hi)) (by decide) (fun j hj => by rw [Nat.add_assoc]; exact hc i hi j hj)
    exact ⟨b, off, cs, t, fr, rfl, h1, h2, h3⟩

theorem grown_same (w : World) (row : Option Nat) : w.grownBy w row := ⟨rfl, rfl, rfl, Nat.le_refl _, fun _ _ _ => rfl⟩

/-- 'append(l, p...)' of fingerprints onto a row of the call's own, whatever p is. -/
theorem wpList_append_fps {P : Program} {ops : Array Oper} {rest : List Oper} {o : Oper} {a : Act} {w : World} {Q : Exit → Act → World → Prop} (hgd : o.guard = none) (s x : Operand) (t : TypeId)
    (ho : o.op = .call { callee := .builtin .append, args := #[s, x], argTypes := #[t, t] })
    (base : Nat) (e : TypeId) (i : TypeInfo) (z : Value) (bytes : Nat) (ht : P.underlying t = some (.slice e)) (hi : P.info? e = some i) (hz : i.zero = some z)
    (hsize : i.size = 32) (hby : i.bytes = bytes) (hzs : z.cells.size = 32)
    (v : Value) (n : Nat) (xs : List Value) (hs : a.eval s = v) (hown : w.ownsRow base e 32 v n xs)
    (u : Value) (ss : List (List UInt8)) (hx : a.eval x = u) (hu : FpsAt 32 ss u w)
    (h63 : n + ss.length ≤ maxLen) (hbytes : (n + ss.length) * bytes ≤ 140737488355328) (hbase : base ≤ w.heap.size)
    (h : ∀ v' w', w'.ownsRow base e 32 v' (n + ss.length) (xs ++ flatL ss) → w.grownBy w' v.ownBlock → wpList P ops Q rest (a.put o.dst v') w') : wpList P ops Q (o :: rest) a w := by
  obtain ⟨h32, p, c, rfl, hc⟩ := hu
  rcases hc with hss | ⟨b, off, rfl, hcell⟩
  · subst hss
    cases p with
    | some ad =>
      exact wpList_append_own w hgd s x t ho base e i z 32 bytes ht hi hz hsize hby hzs (by decide) v n xs hs hown ad 0 c [] hx rfl (fun j u hj => by simp at hj) (fun u hu => by simp at hu) h63 hbytes hbase (fun v' w' h1 h2 _ => h v' w' (by simpa [flatL] using h1) h2)
    | none =>
      refine wpList_plain hgd fun K hK => ?_
      have hfin := h v w (by simpa [flatL] using hown) (grown_same w _)
      rcases hown.2 with ⟨rfl, rfl⟩ | ⟨g, cap, cur, rfl, hb, hg, hnc, hcm, hcs, htake⟩
      · unfold Oper.wp execOp
        simp only [ho, resolve, invoke, builtin, Sem.run_bind, Sem.run_pure, Result.andThen_ok, List.map_toArray, List.map_cons, List.map_nil, hs, hx]
        have hr : (Builtin.append_ #[t, t] o.type #[.slice none 0 0, .slice none 0 c]).run P w = .ok (.slice none 0 0) w := by
          simp [Builtin.append_, run_underlying ht, sizeOf, typeInfo, hi, hsize, Builtin.lenOf, Builtin.firstCells]
        simp only [List.length_nil, hr]
        exact hK _ _ hfin
      · unfold Oper.wp execOp
        simp only [ho, resolve, invoke, builtin, Sem.run_bind, Sem.run_pure, Result.andThen_ok, List.map_toArray, List.map_cons, List.map_nil, hs, hx]
        have hr : (Builtin.append_ #[t, t] o.type #[.slice (some ⟨g, 0, none⟩) n cap, .slice none 0 c]).run P w = .ok (.slice (some ⟨g, 0, none⟩) n cap) w := by
          simp [Builtin.append_, run_underlying ht, sizeOf, typeInfo, hi, hsize, Builtin.lenOf, Builtin.firstCells, hnc, storeCells]
        simp only [List.length_nil, hr]
        exact hK _ _ hfin
  · exact wpList_append_own w hgd s x t ho base e i z 32 bytes ht hi hz hsize hby hzs (by decide) v n xs hs hown ⟨b, off, none⟩ ss.length c (flatL ss) hx (flatL_len ss h32)
      (fun j u hj => by
        rw [addr_add]
        have hjl : j < ss.length * 32 := by have := (List.getElem?_eq_some_iff.1 hj).1; rwa [flatL_len ss h32] at this
        have hd : j = j / 32 * 32 + j % 32 := by omega
        have hq : j / 32 < ss.length := by omega
        have hr := rowA_cell ss [] h32 (j / 32) (j % 32) hq (by omega)
        rw [← hd] at hr
        have he : (rowA ss [])[j]? = (flatL ss)[j]? := by simp [rowA]
        rw [he, hj, fpA_get _ _ (by rw [h32 _ (List.getElem_mem hq)]; omega)] at hr
        have := hcell (j / 32) hq (j % 32) (by omega)
        rw [← hd] at this
        rw [this]
        exact hr.symm)
      (fun u hu => flatL_one' ss u hu) h63 hbytes hbase (fun v' w' h1 h2 _ => h v' w' h1 h2)

end Go.Proofs.Ytlmccnelhpnneaa
namespace Go.Proofs.Ytlmccnelhpnneaa

/-- Each once, where equals stand together. -/
def onceL : List (List UInt8) → List (List UInt8)
  | [] => []
  | [a] => [a]
  | a :: b :: l => if a = b then onceL (b :: l) else a :: onceL (b :: l)

theorem onceL_mem : ∀ (l : List (List UInt8)) (x : List UInt8), x ∈ onceL l ↔ x ∈ l
  | [], x => Iff.rfl
  | [a], x => Iff.rfl
  | a :: b :: l, x => by
    have ih := onceL_mem (b :: l) x
    unfold onceL
    split
    · rename_i e
      subst e
      rw [ih, List.mem_cons (a := x) (b := a) (l := a :: l)]
      constructor
      · exact Or.inr
      · rintro (h | h)
        · rw [h]; exact List.mem_cons_self ..
        · exact h
    · rw [List.mem_cons, ih, List.mem_cons (a := x) (b := a)]

theorem onceL_snoc (x y : List UInt8) : ∀ l : List (List UInt8), onceL (l ++ [y] ++ [x]) = if y = x then onceL (l ++ [y]) else onceL (l ++ [y]) ++ [x]
  | [] => by
    simp only [List.nil_append, List.cons_append, onceL]
    by_cases h : y = x
    · subst h; simp
    · simp [h]
  | [a] => by
    have ih := onceL_snoc x y []
    simp only [List.nil_append, List.cons_append] at ih ⊢
    rw [onceL]
    rw [show onceL [a, y] = if a = y then onceL [y] else a :: onceL [y] from rfl]
    by_cases h : a = y
    · rw [if_pos h, if_pos h]; exact ih
    · rw [if_neg h, if_neg h, ih]
      by_cases h2 : y = x
      · rw [if_pos h2, if_pos h2]
      · rw [if_neg h2, if_neg h2]; rfl
  | a :: b :: l => by
    have ih := onceL_snoc x y (b :: l)
    simp only [List.cons_append] at ih ⊢
    rw [onceL]
    rw [show onceL (a :: b :: (l ++ [y])) = if a = b then onceL (b :: (l ++ [y])) else a :: onceL (b :: (l ++ [y])) from rfl]
    by_cases h : a = b
    · rw [if_pos h, if_pos h]; exact ih
    · rw [if_neg h, if_neg h, ih]
      by_cases h2 : y = x
      · rw [if_pos h2, if_pos h2]
      · rw [if_neg h2, if_neg h2]; rfl

theorem onceL_one (a : List UInt8) : onceL [a] = [a] := rfl

/-- One more element. -/
theorem onceL_take (ls : List (List UInt8)) (j : Nat) (hj : j + 1 < ls.length) : onceL (ls.take (j + 2)) = if ls[j] = ls[j + 1] then onceL (ls.take (j + 1)) else onceL (ls.take (j + 1)) ++ [ls[j + 1]] := by
  rw [List.take_succ_eq_append_getElem hj, List.take_succ_eq_append_getElem (show j < ls.length by omega)]
  exact onceL_snoc _ _ _

/-- Sorted lists: each once is in increasing order. -/
theorem onceL_incr (n : Nat) : ∀ l : List (List UInt8), (∀ x ∈ l, x.length = n) → l.Pairwise (fun a b => ltB b a = false) → Incr (onceL l)
  | [], _, _ => by simp [onceL, Incr]
  | [a], _, _ => by simp [onceL, Incr]
  | a :: b :: l, hn, h => by
    rw [List.pairwise_cons] at h
    have ih := onceL_incr n (b :: l) (fun x hx => hn x (List.mem_cons_of_mem _ hx)) h.2
    unfold onceL
    split
    · exact ih
    · rename_i hab
      rw [Incr, List.pairwise_cons]
      refine ⟨fun x hx => ?_, ih⟩
      have hx' := (onceL_mem _ x).1 hx
      have hbl : b.length = n := hn b (by simp)
      have hal : a.length = n := hn a (by simp)
      have hba : ltB b a = false := h.1 b (by simp)
      have lab : ltB a b = true := ltB_total b a (by omega) hba (fun e => hab e.symm)
      rcases List.mem_cons.1 hx' with e | e
      · rw [e]; exact lab
      · have hbx : ltB x b = false := (List.pairwise_cons.1 h.2).1 x e
        by_cases hxb : x = b
        · rw [hxb]; exact lab
        · have := ltB_total x b (by rw [hn x (by simp [e])]; omega) hbx hxb
          exact ltB_trans _ _ _ lab this

/-- A sorted permutation, each once, is the list as a set. -/
theorem once_set (n : Nat) (l m : List (List UInt8)) (hl : ∀ x ∈ l, x.length = n) (hp : m.Perm l) (hs : m.Pairwise (fun a b => ltB b a = false)) : onceL m = setL l :=
  setL_unique n l _ hl (onceL_incr n m (fun x hx => hl x (hp.mem_iff.1 hx)) hs) (fun y => (onceL_mem m y).trans hp.mem_iff)

theorem onceL_le : ∀ l : List (List UInt8), (onceL l).length ≤ l.length
  | [] => Nat.le_refl _
  | [a] => Nat.le_refl _
  | a :: b :: l => by
    have := onceL_le (b :: l)
    unfold onceL
    split
    · rw [List.length_cons (a := a)]; omega
    · rw [List.length_cons, List.length_cons (a := a)]; omega

theorem once_pos (a : List UInt8) : ∀ l : List (List UInt8), 0 < (onceL (a :: l)).length
  | [] => Nat.one_pos
  | b :: l => by
    unfold onceL
    split
    · exact once_pos b l
    · exact Nat.succ_pos _

end Go.Proofs.Ytlmccnelhpnneaa
