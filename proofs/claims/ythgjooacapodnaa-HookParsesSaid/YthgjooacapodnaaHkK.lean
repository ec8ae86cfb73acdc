/- Compact of fingerprints: the walk of the library's text. -/
import Derived.Test.YthgjooacapodnaaHkS
namespace Go.Proofs.Ythgjooacapodnaa
open Go.RowKit

section
variable {P : Program} {ops : Array Oper}

/-- The load of a part of a row, in every world of the class. -/
theorem wpQuiet_load_sub {C : World → Prop} {Q : Act → Prop} {a : Act} {o : Oper} {rest : List Oper} (hw : Region.wanted o (yielded ops a.tmps) = true) (ty : TypeId) (x : Operand) (ho : o.op = .load ty x)
    (g off n : Nat) (hx : a.eval x = .pointer (some ⟨g, off, none⟩)) (t : TypeId) (cs : Array Value) (fr : Nat × Nat) (d : TypeDesc) (hg : ∀ W, C W → W.heap[g]? = some (.cells cs t fr))
    (hu : P.underlying ty = some d) (hd : (match d with | .struct _ | .array _ _ => true | _ => false) = true) (hi : (P.info? ty).map (·.size) = some n) (v : Array Value) (hv : off + n ≤ cs.size ∧ cs.extract off (off + n) = v)
    (h : ∀ K : Act → Prop, (∀ a, wpQuiet P ops C Q rest a → K a) → K (a.put o.dst (.agg v))) : wpQuiet P ops C Q (o :: rest) a := by
  obtain ⟨hon, rfl⟩ := hv
  unfold wpQuiet
  rw [if_pos hw]
  refine ⟨.agg (cs.extract off (off + n)), fun W hC => ?_, h _ (fun _ x => x)⟩
  unfold Oper.quietAt execOp
  simp only [ho, hx, Instr.loadAt, Instr.sureAddr, Sem.run_bind, Sem.run_pure, Result.andThen_ok, run_loadVar_sub W g off n t ty cs fr d (hg W hC) hu hd hi hon]
  exact ⟨rfl, rfl⟩
end

theorem sizeFp (w : World) : (Go.sizeOf 23).run Try.prog w = .ok 32 w := Try.sizeOf23 w

/-- The address of an element. -/
theorem idx_at (g o n c k : Nat) (hk : k < n) (w : World) : (Instr.indexAt 37 (.slice (some ⟨g, o, none⟩) n c) (.int .i64 k)).run Try.prog w = .ok (.pointer (some ⟨g, o + k * 32, none⟩)) w := by
  have hk' : (k : Int) < n := by omega
  have h0 : (0 : Int) ≤ k := by omega
  simp [Instr.indexAt, run_underlying Try.underlying37, asIntOf, h0, addr_add]
  intro h
  omega

theorem cut_lo (g o n c k : Nat) (hk : k ≤ n) (hc : k < c) (w : World) : (Instr.sliceAt 37 (.slice (some ⟨g, o, none⟩) n c) (some (.int .i64 k)) none none).run Try.prog w = .ok (.slice (some ⟨g, o + k * 32, none⟩) (n - k) (c - k)) w := by
  have hk' : (k : Int) ≤ n := by omega
  have h0 : (0 : Int) ≤ k := by omega
  have hne : ¬ c = k := by omega
  simp [Instr.sliceAt, Instr.slice, run_underlying Try.underlying37, Instr.sliceBounds, Instr.sliceBound, asIntOf, h0, addr_add, hne]
  intro h
  omega

theorem cut_hi (g o n c k : Nat) (hk : k ≤ c) (hc : 0 < c) (w : World) : (Instr.sliceAt 37 (.slice (some ⟨g, o, none⟩) n c) none (some (.int .i64 k)) none).run Try.prog w = .ok (.slice (some ⟨g, o, none⟩) k c) w := by
  have hk' : (k : Int) ≤ c := by omega
  have h0 : (0 : Int) ≤ k := by omega
  have hne : ¬ c = 0 := by omega
  simp [Instr.sliceAt, Instr.slice, run_underlying Try.underlying37, Instr.sliceBounds, Instr.sliceBound, asIntOf, h0, addr_add, hne]
  intro h
  omega

theorem zeroFp (w : World) : (zeroValue 23).run Try.prog w = .ok (.agg (fpA zeroL)) w := by
  rw [zeroL_cells]
  exact Try.zeroValue23 w

theorem zeros_cells (n : Nat) : (Builtin.zeroCells (Value.agg (fpA zeroL)).cells n).toList = flatL (List.replicate n zeroL) := by
  have hs : (fpA zeroL).size = 32 := by rw [fpA_size]; rfl
  have hall : All32 (List.replicate n zeroL) := fun l hl => by rw [List.eq_of_mem_replicate hl]; rfl
  apply List.ext_getElem?
  intro t
  simp only [Value.cells, Builtin.zeroCells, hs]
  by_cases ht : t < n * 32
  · have hq : t / 32 < n := by omega
    have hd : t = t / 32 * 32 + t % 32 := by omega
    have h1 := rowA_cell (List.replicate n zeroL) [] hall (t / 32) (t % 32) (by rw [List.length_replicate]; exact hq) (by omega)
    rw [← hd, List.getElem_replicate] at h1
    have h2 : (rowA (List.replicate n zeroL) [])[t]? = (flatL (List.replicate n zeroL))[t]? := by simp [rowA]
    have hm : t % 32 < (fpA zeroL).size := by rw [hs]; omega
    rw [← h2, h1, Array.toList_map, List.getElem?_map, Array.toList_range, List.getElem?_range ht, Array.getElem?_eq_getElem hm]
    simp only [Option.map_some]
    rw [getElem!_pos (fpA zeroL) (t % 32) hm]
  · have h1 : (flatL (List.replicate n zeroL)).length = n * 32 := by rw [flatL_len _ hall, List.length_replicate]
    rw [List.getElem?_eq_none (l := flatL _) (by rw [h1]; omega), List.getElem?_eq_none (by simp; omega)]

/-- clear(s[k:]) of a row. -/
theorem clear_at (g n k c : Nat) (ls : List (List UInt8)) (rest : List Value) (w : World) (h : RowAt g ls rest w) (hn : ls.length = n) (hk : k < n) (ty : TypeId) :
    (Builtin.clear_ #[37] ty #[.slice (some ⟨g, k * 32, none⟩) (n - k) c]).run Try.prog w = .ok (.tuple #[]) (w.setRow g (rowA (ls.take k) (flatL (List.replicate (n - k) zeroL) ++ rest))) := by
  subst hn
  have hall : All32 (List.replicate (ls.length - k) zeroL) := fun l hl => by rw [List.eq_of_mem_replicate hl]; rfl
  have hz := zeros_cells (ls.length - k)
  have hl : (flatL (List.replicate (ls.length - k) zeroL)).length = (ls.length - k) * 32 := by rw [flatL_len _ hall, List.length_replicate]
  have hst := run_storeCells_at Try.prog g (k * 32) 23 (flatL (List.replicate (ls.length - k) zeroL)) 0 _ w h.2 (by
    rw [hl, rowA_size _ _ h.1]
    have := Nat.mul_le_mul_right 32 (Nat.le_of_lt hk)
    rw [Nat.sub_mul]; omega) (flatL_one' _)
  have e : ((rowA ls rest).toList.take (k * 32 + 0) ++ flatL (List.replicate (ls.length - k) zeroL) ++ (rowA ls rest).toList.drop (k * 32 + 0 + (flatL (List.replicate (ls.length - k) zeroL)).length)).toArray = rowA (ls.take k) (flatL (List.replicate (ls.length - k) zeroL) ++ rest) := by
    have e0 := take_flat_len h.1 k (by omega)
    rw [hl, Nat.add_zero, Nat.sub_mul, show k * 32 + (ls.length * 32 - k * 32) = ls.length * 32 by omega]
    unfold rowA
    congr 1
    have e1 : flatL ls = flatL (ls.take k) ++ flatL (ls.drop k) := by rw [← flatL_append, List.take_append_drop]
    have e2 : (flatL ls ++ rest).drop (ls.length * 32) = rest := List.drop_left' (flatL_len ls h.1)
    show (flatL ls ++ rest).take (k * 32) ++ _ ++ (flatL ls ++ rest).drop (ls.length * 32) = _
    rw [e2, e1, List.append_assoc (flatL (ls.take k)), List.take_left' e0, List.append_assoc]
  rw [e] at hst
  obtain ⟨m, hm⟩ : ∃ m, ls.length - k = m + 1 := ⟨ls.length - k - 1, by omega⟩
  rw [hm] at hst hz ⊢
  rw [zeroL_cells] at hz
  simp [Builtin.clear_, run_underlying Try.underlying37, hz, hst]

theorem RowAt.set {g : Nat} {ls ms : List (List UInt8)} {rest rest' : List Value} {w : World} (h : RowAt g ls rest w) (hm : All32 ms) : RowAt g ms rest' (w.setRow g (rowA ms rest')) :=
  ⟨hm, setRow_heap _ _ _ _ _ _ h.2⟩

theorem grown_row {w w' : World} {g : Nat} (h : w.grownBy w' (some g)) (cs : Array Value) : w.grownBy (w'.setRow g cs) (some g) :=
  ⟨h.os, h.tape, h.output, by rw [setRow_size]; exact h.size, fun k hk hne => by rw [setRow_other _ _ _ _ (fun e => hne (by rw [e]))]; exact h.block k hk hne⟩

theorem grown_then {w w1 w2 : World} {g : Nat} (h : w.grownBy w1 (some g)) (k : Below w1.heap.size w1 w2) : w.grownBy w2 (some g) :=
  ⟨k.os.trans h.os, k.tape.trans h.tape, k.output.trans h.output, Nat.le_trans h.size k.size, fun j hj hne => (k.block j (Nat.lt_of_lt_of_le hj h.size)).trans (h.block j hj hne)⟩

/-- An element of a row, to be loaded. -/
theorem RowAt.elem {g : Nat} {ls : List (List UInt8)} {rest : List Value} {w : World} (h : RowAt g ls rest w) (i : Nat) (hi : i < ls.length) : i * 32 + 32 ≤ (rowA ls rest).size ∧ (rowA ls rest).extract (i * 32) (i * 32 + 32) = fpA ls[i] :=
  ⟨by rw [rowA_size _ _ h.1]; have := Nat.mul_le_mul_right 32 (show i + 1 ≤ ls.length from hi); omega, rowA_extract ls rest h.1 i hi⟩

end Go.Proofs.Ythgjooacapodnaa
