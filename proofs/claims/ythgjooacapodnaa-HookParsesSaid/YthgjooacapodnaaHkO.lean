/- Slices of one fingerprint, of two, laid; Of: the walk. -/
import Derived.Test.YthgjooacapodnaaHkF
import Derived.Great.BuildSlice
namespace Go.Proofs.Ythgjooacapodnaa
open Go.RowKit

theorem fold_many (off : Nat) : ∀ (l : List Value) (j : Nat) (cells : Array Value), (l.zipIdx j).foldl (fun cs p => cs.setIfInBounds (off + p.2) p.1) cells = Sort.setMany cells (off + j) l
  | [], _, _ => rfl
  | v :: l, j, cells => by
    rw [List.zipIdx_cons, List.foldl_cons, fold_many off l (j + 1)]
    rfl

theorem fold_arr (off : Nat) (X cells : Array Value) : X.zipIdx.foldl (fun cs (p : Value × Nat) => cs.setIfInBounds (off + p.2) p.1) cells = Sort.setMany cells off X.toList := by
  rw [← Array.foldl_toList, Array.toList_zipIdx, fold_many off X.toList 0 cells, Nat.add_zero]

theorem fill_one (X cells : Array Value) (hX : X.size = 32) (hc : cells.size = 32) : Instr.fill (fun i => some (i * 32, 32)) cells [(0, .agg X)] = some X := by
  have h1 : (Value.agg X).cells = X := rfl
  simp only [Instr.fill, h1, hX, hc]
  rw [if_neg (by decide)]
  congr 1
  refine (fold_arr (0 * 32) X cells).trans ?_
  apply Sort.ext_get! (by rw [Sort.size_setMany, hX, hc])
  intro t ht
  rw [Sort.size_setMany] at ht
  rw [Sort.get_setMany _ _ _ t ht, if_pos (by rw [Array.length_toList, hX]; omega)]
  rw [Nat.zero_mul, Nat.sub_zero, getElem!_pos X t (by omega), getElem!_pos X.toList t (by rw [Array.length_toList]; omega)]
  simp

theorem fill_two (X Y cells : Array Value) (hX : X.size = 32) (hY : Y.size = 32) (hc : cells.size = 64) : Instr.fill (fun i => some (i * 32, 32)) cells [(0, .agg X), (1, .agg Y)] = some (X ++ Y) := by
  have h1 : (Value.agg X).cells = X := rfl
  have h2 : (Value.agg Y).cells = Y := rfl
  have e1 : X.zipIdx.foldl (fun cs (p : Value × Nat) => cs.setIfInBounds (0 * 32 + p.2) p.1) cells = Sort.setMany cells (0 * 32) X.toList := fold_arr _ _ _
  have e2 : Y.zipIdx.foldl (fun cs (p : Value × Nat) => cs.setIfInBounds (1 * 32 + p.2) p.1) (Sort.setMany cells (0 * 32) X.toList) = Sort.setMany (Sort.setMany cells (0 * 32) X.toList) (1 * 32) Y.toList := fold_arr _ _ _
  simp only [Instr.fill, h1, h2, hX, hc]
  rw [if_neg (by decide)]
  have e3 : (X.zipIdx.foldl (fun cs x => match x with | (c, j) => cs.setIfInBounds (0 * 32 + j) c) cells) = Sort.setMany cells (0 * 32) X.toList := e1
  rw [e3]
  simp only [Sort.size_setMany, hY, hc]
  rw [if_neg (by decide)]
  congr 1
  refine e2.trans ?_
  apply Sort.ext_get! (by rw [Sort.size_setMany, Sort.size_setMany, Array.size_append, hX, hY, hc])
  intro t ht
  rw [Sort.size_setMany, Sort.size_setMany] at ht
  rw [Sort.get_setMany _ _ _ t (by rw [Sort.size_setMany]; exact ht)]
  have hts : t < (X ++ Y).size := by rw [Array.size_append, hX, hY]; omega
  rw [getElem!_pos (X ++ Y) t hts]
  by_cases h : t < 32
  · rw [if_neg (by omega), Sort.get_setMany _ _ _ t ht, if_pos (by rw [Array.length_toList, hX]; omega), Nat.zero_mul, Nat.sub_zero, getElem!_pos X.toList t (by rw [Array.length_toList]; omega), Array.getElem_append_left (by omega)]
    simp
  · rw [if_pos (by rw [Array.length_toList, hY]; omega), getElem!_pos Y.toList (t - 1 * 32) (by rw [Array.length_toList]; omega), Array.getElem_append_right (by omega)]
    simp [hX]

section
variable {ops : Array Oper}

theorem wpList_build1 {rest : List Oper} {o : Oper} {a : Act} {w : World} {Q : Exit → Act → World → Prop} (hg : o.guard = none) (x : Operand) (ho : o.op = .buildSlice 37 1 #[(0, x)]) (X : Array Value) (hx : a.eval x = .agg X) (hX : X.size = 32)
    (h : wpList Try.prog ops Q rest (a.put o.dst (.slice (some ⟨w.heap.size, 0, none⟩) 1 1)) (w.alloc (.cells X 23))) : wpList Try.prog ops Q (o :: rest) a w := by
  obtain ⟨i, hi, h1, h2, z, hz, hzs⟩ := info_fp
  refine wpList_buildSlice hg 37 23 1 _ ho X i z Try.underlying37 hi hz (by rw [h1]; decide) (by rw [h1]; decide) ?_ h
  rw [h1]
  have e : (#[(0, x)].map fun (p : Nat × Operand) => (p.1, a.eval p.2)).toList = [(0, Value.agg X)] := by simp [hx]
  refine (congrArg _ e).trans (fill_one X _ hX (by simp))

theorem wpList_build2 {rest : List Oper} {o : Oper} {a : Act} {w : World} {Q : Exit → Act → World → Prop} (hg : o.guard = none) (x y : Operand) (ho : o.op = .buildSlice 37 2 #[(0, x), (1, y)]) (X Y : Array Value) (hx : a.eval x = .agg X) (hy : a.eval y = .agg Y) (hX : X.size = 32) (hY : Y.size = 32)
    (h : wpList Try.prog ops Q rest (a.put o.dst (.slice (some ⟨w.heap.size, 0, none⟩) 2 2)) (w.alloc (.cells (X ++ Y) 23))) : wpList Try.prog ops Q (o :: rest) a w := by
  obtain ⟨i, hi, h1, h2, z, hz, hzs⟩ := info_fp
  refine wpList_buildSlice hg 37 23 2 _ ho (X ++ Y) i z Try.underlying37 hi hz (by rw [h1]; decide) (by rw [h1]; decide) ?_ h
  rw [h1]
  have e : (#[(0, x), (1, y)].map fun (p : Nat × Operand) => (p.1, a.eval p.2)).toList = [(0, Value.agg X), (1, Value.agg Y)] := by simp [hx, hy]
  refine (congrArg _ e).trans (fill_two X Y _ hX hY (by simp))
end

/-- One fingerprint, laid. -/
theorem fps_one (w : World) (l : List UInt8) (hl : l.length = 32) (c : Nat) : FpsAt 32 [l] (.slice (some ⟨w.heap.size, 0, none⟩) 1 c) (w.alloc (.cells (fpA l) 23)) := by
  have h : RowAt w.heap.size [l] [] (w.alloc (.cells (fpA l) 23)) := ⟨(fun x hx => by rw [List.mem_singleton.1 hx]; exact hl), by
    rw [heap_alloc_new]
    simp [rowA, flatL_one]⟩
  exact h.fps

theorem own_snoc {B : Nat} {ls : List (List UInt8)} {l : List UInt8} {v : Value} {w : World} (h : All32 ls) (hl : l.length = 32) (ho : w.ownsRow B 23 32 v (ls.length + [l].length) (flatL ls ++ flatL [l])) : OwnFps B (ls ++ [l]) v w := by
  refine ⟨(fun x hx => by
    rcases List.mem_append.1 hx with e | e
    · exact h x e
    · rw [List.mem_singleton.1 e]; exact hl), ?_⟩
  rw [List.length_append, flatL_append]
  exact ho

end Go.Proofs.Ythgjooacapodnaa
