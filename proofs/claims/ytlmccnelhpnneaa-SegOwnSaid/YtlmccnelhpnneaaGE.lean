/- Slices of one fingerprint, of two, laid; Of: the walk. Of: the walk. The document's Less, Set: the walks. The document's Set: the walk. The document's Of, Minus, Common: the walks. A fingerprint's number: the walks. -/
import Derived.Test.YtlmccnelhpnneaaGD
import Derived.Great.BuildSlice
import Derived.Shelf.GgSortFunc.RowK
namespace Go.Proofs.Ytlmccnelhpnneaa
open Go.RowKit

theorem fold_many (off : Nat) : ∀ (l : List Value) (j : Nat) (cells : Array Value), (l.zipIdx j).foldl (fun cs p => cs.setIfInBounds (off + p.2) p.1) cells = Sort.setMany cells (off + j) l
  | [], _, _ => rfl
  | v :: l, j, cells => by
    rw [List.zipIdx_cons, List.foldl_cons, fold_many off l (j + 1)]
    rfl

theorem fold_arr (off : Nat) (X cells : Array Value) : X.zipIdx.foldl (fun cs (p : Value × Nat) => cs.setIfInBounds (off + p.2) p.1) cells = Sort.setMany cells off X.toList := by
  rw [← Array.foldl_toList, Array.toList_zipIdx, fold_many off X.toList 0 cells, Nat.add_zero]

theorem fill_one (X cells : Array Value) (hX : X.size = 32) (hc : cells.size = 32) : Instr.fill (fun i => some (i * 32, 32)) cells [(0, .agg X)] = some X := by
  have h1 : (Value.agg X).cells = X := rfl
  simp only [Instr.fill, h1, hX, hc]
  rw [if_neg (by decide)]
  congr 1
  refine (fold_arr (0 * 32) X cells).trans ?_
  apply Sort.ext_get! (by rw [Sort.size_setMany, hX, hc])
  intro t ht
  rw [Sort.size_setMany] at ht
  rw [Sort.get_setMany _ _ _ t ht, if_pos (by rw [Array.length_toList, hX]; omega)]
  rw [Nat.zero_mul, Nat.sub_zero, getElem!_pos X t (by omega), getElem!_pos X.toList t (by rw [Array.length_toList]; omega)]
  simp

theorem fill_two (X Y cells : Array Value) (hX : X.size = 32) (hY : Y.size = 32) (hc : cells.size = 64) : Instr.fill (fun i => some (i * 32, 32)) cells [(0, .agg X), (1, .agg Y)] = some (X ++ Y) := by
  have h1 : (Value.agg X).cells = X := rfl
  have h2 : (Value.agg Y).cells = Y := rfl
  have e1 : X.zipIdx.foldl (fun cs (p : Value × Nat) => cs.setIfInBounds (0 * 32 + p.2) p.1) cells = Sort.setMany cells (0 * 32) X.toList := fold_arr _ _ _
  have e2 : Y.zipIdx.foldl (fun cs (p : Value × Nat) => cs.setIfInBounds (1 * 32 + p.2) p.1) (Sort.setMany cells (0 * 32) X.toList) = Sort.setMany (Sort.setMany cells (0 * 32) X.toList) (1 * 32) Y.toList := fold_arr _ _ _
  simp only [Instr.fill, h1, h2, hX, hc]
  rw [if_neg (by decide)]
  have e3 : (X.zipIdx.foldl (fun cs x => match x with | (c, j) => cs.setIfInBounds (0 * 32 + j) c) cells) = Sort.setMany cells (0 * 32) X.toList := e1
  rw [e3]
  simp only [Sort.size_setMany, hY, hc]
  rw [if_neg (by decide)]
  congr 1
  refine e2.trans ?_
  apply Sort.ext_get! (by rw [Sort.size_setMany, Sort.size_setMany, Array.size_append, hX, hY, hc])
  intro t ht
  rw [Sort.size_setMany, Sort.size_setMany] at ht
  rw [Sort.get_setMany _ _ _ t (by rw [Sort.size_setMany]; exact ht)]
  have hts : t < (X ++ Y).size := by rw [Array.size_append, hX, hY]; omega
  rw [getElem!_pos (X ++ Y) t hts]
  by_cases h : t < 32
  · rw [if_neg (by omega), Sort.get_setMany _ _ _ t ht, if_pos (by rw [Array.length_toList, hX]; omega), Nat.zero_mul, Nat.sub_zero, getElem!_pos X.toList t (by rw [Array.length_toList]; omega), Array.getElem_append_left (by omega)]
    simp
  · rw [if_pos (by rw [Array.length_toList, hY]; omega), getElem!_pos Y.toList (t - 1 * 32) (by rw [Array.length_toList]; omega), Array.getElem_append_right (by omega)]
    simp [hX]

section
variable {ops : Array Oper}

theorem wpList_build1 {rest : List Oper} {o : Oper} {a : Act} {w : World} {Q : Exit → Act → World → Prop} (hg : o.guard = none) (x : Operand) (ho : o.op = .buildSlice 22 1 #[(0, x)]) (X : Array Value) (hx : a.eval x = .agg X) (hX : X.size = 32)
    (h : wpList Try.prog ops Q rest (a.put o.dst (.slice (some ⟨w.heap.size, 0, none⟩) 1 1)) (w.alloc (.cells X 37))) : wpList Try.prog ops Q (o :: rest) a w := by
  obtain ⟨i, hi, h1, h2, z, hz, hzs⟩ := info_fp
  refine wpList_buildSlice hg 22 37 1 _ ho X i z Try.underlying22 hi hz (by rw [h1]; decide) (by rw [h1]; decide) ?_ h
  rw [h1]
  have e : (#[(0, x)].map fun (p : Nat × Operand) => (p.1, a.eval p.2)).toList = [(0, Value.agg X)] := by simp [hx]
  refine (congrArg _ e).trans (fill_one X _ hX (by simp))

theorem wpList_build2 {rest : List Oper} {o : Oper} {a : Act} {w : World} {Q : Exit → Act → World → Prop} (hg : o.guard = none) (x y : Operand) (ho : o.op = .buildSlice 22 2 #[(0, x), (1, y)]) (X Y : Array Value) (hx : a.eval x = .agg X) (hy : a.eval y = .agg Y) (hX : X.size = 32) (hY : Y.size = 32)
    (h : wpList Try.prog ops Q rest (a.put o.dst (.slice (some ⟨w.heap.size, 0, none⟩) 2 2)) (w.alloc (.cells (X ++ Y) 37))) : wpList Try.prog ops Q (o :: rest) a w := by
  obtain ⟨i, hi, h1, h2, z, hz, hzs⟩ := info_fp
  refine wpList_buildSlice hg 22 37 2 _ ho (X ++ Y) i z Try.underlying22 hi hz (by rw [h1]; decide) (by rw [h1]; decide) ?_ h
  rw [h1]
  have e : (#[(0, x), (1, y)].map fun (p : Nat × Operand) => (p.1, a.eval p.2)).toList = [(0, Value.agg X), (1, Value.agg Y)] := by simp [hx, hy]
  refine (congrArg _ e).trans (fill_two X Y _ hX hY (by simp))
end

/-- One fingerprint, laid. -/
theorem fps_one (w : World) (l : List UInt8) (hl : l.length = 32) (c : Nat) : FpsAt 32 [l] (.slice (some ⟨w.heap.size, 0, none⟩) 1 c) (w.alloc (.cells (fpA l) 37)) := by
  have h : RowAt w.heap.size [l] [] (w.alloc (.cells (fpA l) 37)) := ⟨(fun x hx => by rw [List.mem_singleton.1 hx]; exact hl), by
    rw [heap_alloc_new]
    simp [rowA, flatL_one]⟩
  exact h.fps

theorem own_snoc {B : Nat} {ls : List (List UInt8)} {l : List UInt8} {v : Value} {w : World} (h : All32 ls) (hl : l.length = 32) (ho : w.ownsRow B 37 32 v (ls.length + [l].length) (flatL ls ++ flatL [l])) : OwnFps B (ls ++ [l]) v w := by
  refine ⟨(fun x hx => by
    rcases List.mem_append.1 hx with e | e
    · exact h x e
    · rw [List.mem_singleton.1 e]; exact hl), ?_⟩
  rw [List.length_append, flatL_append]
  exact ho

end Go.Proofs.Ytlmccnelhpnneaa
namespace Go.Proofs.Ytlmccnelhpnneaa
open Go.RowKit

theorem take_keep (ls : List (List UInt8)) (q : List UInt8 → Bool) (j : Nat) (hj : j < ls.length) : (ls.take (j + 1)).filter q = if q ls[j] then (ls.take j).filter q ++ [ls[j]] else (ls.take j).filter q := by
  rw [List.take_succ_eq_append_getElem hj, List.filter_append]
  cases h : q ls[j] <;> simp [h]

theorem all32_filter {ls : List (List UInt8)} (h : All32 ls) (q : List UInt8 → Bool) : All32 (ls.filter q) := fun l hl => h l (List.mem_filter.1 hl).1

/-- The state of a loop that keeps some. -/
def KeepIn (B k : Nat) (q : List UInt8 → Bool) (ls : List (List UInt8)) (v : Value) (w wr : World) : Prop := OwnFps B ((ls.take k).filter q) v wr ∧ Below B w wr

theorem keep_len (q : List UInt8 → Bool) (ls : List (List UInt8)) (k : Nat) : ((ls.take k).filter q).length ≤ ls.length :=
  Nat.le_trans (List.length_filter_le _ _) (by rw [List.length_take]; omega)

end Go.Proofs.Ytlmccnelhpnneaa
namespace Go.Proofs.Ytlmccnelhpnneaa
open Go.RowKit

theorem ltB_drop (l m : List UInt8) (i : Nat) (h1 : i < l.length) (h2 : i < m.length) : ltB (l.drop i) (m.drop i) = if l[i] = m[i] then ltB (l.drop (i + 1)) (m.drop (i + 1)) else decide ((l[i]).toNat < (m[i]).toNat) := by
  rw [List.drop_eq_getElem_cons h1, List.drop_eq_getElem_cons h2, ltB]

/-- Two fingerprints in blocks of their own, and all else as it was. -/
def TwoFp (w : World) (l m : List UInt8) (wr : World) : Prop :=
  wr.heap[w.heap.size]? = some (.cells (fpA l) 37 (0, 0)) ∧ wr.heap[w.heap.size + 1]? = some (.cells (fpA m) 37 (0, 0)) ∧ Below w.heap.size w wr

theorem two_cell {wr : World} {l : List UInt8} {g : Nat} (h : wr.heap[g]? = some (.cells (fpA l) 37 (0, 0))) (i : Nat) (hi : i < l.length) : wr.cell? ⟨g, i, none⟩ = some (.int .u8 ((l[i].toNat : Nat) : Int)) := fp_cell wr g _ l _ h i hi

/-- A slice cut in two. -/
theorem own_cuts {B : Nat} {ls : List (List UInt8)} {p : Option Addr} {c : Nat} {w : World} (h : OwnFps B ls (.slice p ls.length c) w) (k : Nat) (hk : k ≤ ls.length) :
    ∃ v1 v2, (∀ w', (Instr.sliceAt 22 (.slice p ls.length c) none (some (.int .i64 k)) none).run Try.prog w' = .ok v1 w') ∧ FpsAt 32 (ls.take k) v1 w ∧
      (∀ w', (Instr.sliceAt 22 (.slice p ls.length c) (some (.int .i64 k)) none none).run Try.prog w' = .ok v2 w') ∧ FpsAt 32 (ls.drop k) v2 w := by
  have h32 := h.1
  rcases h.parts with ⟨e, rfl⟩ | ⟨g, cap, rest, e, hB, hr, hc, hm, hsz⟩
  · simp only [Value.slice.injEq] at e
    obtain ⟨rfl, _, rfl⟩ := e
    obtain rfl : k = 0 := by simpa using hk
    refine ⟨.slice none 0 0, .slice none 0 0, fun w' => ?_, ⟨(fun l hl => by simp at hl), none, 0, rfl, Or.inl rfl⟩, fun w' => ?_, ⟨(fun l hl => by simp at hl), none, 0, rfl, Or.inl rfl⟩⟩
    · simp [Instr.sliceAt, Instr.slice, run_underlying Try.underlying22, Instr.sliceBounds, Instr.sliceBound, asIntOf]
    · simp [Instr.sliceAt, Instr.slice, run_underlying Try.underlying22, Instr.sliceBounds, Instr.sliceBound, asIntOf]
  · simp only [Value.slice.injEq] at e
    obtain ⟨rfl, _, rfl⟩ := e
    have hT : RowAt g (ls.take k) (flatL (ls.drop k) ++ rest) w := ⟨all32_take h32 k, by rw [← rowA_take]; exact hr.2⟩
    have f1 : FpsAt 32 (ls.take k) (.slice (some ⟨g, 0, none⟩) k c) w := by
      have := hT.fps (cap := c)
      rwa [List.length_take, Nat.min_eq_left hk] at this
    by_cases h0 : c = 0
    · subst h0
      have hl0 : ls.length = 0 := by omega
      have hk0 : k = 0 := by omega
      subst hk0
      have hls := List.length_eq_zero_iff.1 hl0
      subst hls
      refine ⟨.slice (some ⟨g, 0, none⟩) 0 0, .slice (some ⟨g, 0, none⟩) 0 0, fun w' => ?_, f1, fun w' => ?_, ⟨(fun l hl => by simp at hl), _, 0, rfl, Or.inl rfl⟩⟩
      · simp [Instr.sliceAt, Instr.slice, run_underlying Try.underlying22, Instr.sliceBounds, Instr.sliceBound, asIntOf]
      · simp [Instr.sliceAt, Instr.slice, run_underlying Try.underlying22, Instr.sliceBounds, Instr.sliceBound, asIntOf]
    · have C1 := fun w' => cut_hi g 0 ls.length c k (by omega) (by omega) w'
      by_cases hkc : k < c
      · have C2 := fun w' => cut_lo g 0 ls.length c k hk hkc w'
        refine ⟨_, _, C1, f1, C2, all32_drop h32 k, some ⟨g, 0 + k * 32, none⟩, c - k, by rw [List.length_drop], Or.inr ⟨g, 0 + k * 32, rfl, fun i hi j hj => ?_⟩⟩
        rw [List.length_drop] at hi
        have hki : k + i < ls.length := by omega
        rw [show 0 + k * 32 + (i * 32 + j) = (k + i) * 32 + j by omega, cell_of_row _ _ _ _ _ _ hr.2, rowA_cell ls rest h32 (k + i) j hki hj, fpA_get _ _ (by rw [h32 _ (List.getElem_mem hki)]; exact hj), List.getElem_drop]
      · have hkl : k = ls.length := by omega
        have hcl : c = ls.length := by omega
        subst hkl
        have hd : ls.drop ls.length = [] := List.drop_length
        refine ⟨_, .slice (some ⟨g, 0, none⟩) 0 0, C1, f1, fun w' => ?_, by rw [hd]; exact ⟨(fun l hl => by simp at hl), _, 0, rfl, Or.inl rfl⟩⟩
        subst hcl
        simp [Instr.sliceAt, Instr.slice, run_underlying Try.underlying22, Instr.sliceBounds, Instr.sliceBound, asIntOf, sizeFp]

end Go.Proofs.Ytlmccnelhpnneaa
namespace Go.Proofs.Ytlmccnelhpnneaa
open Go.RowKit

theorem set_take (ls : List (List UInt8)) (i : Nat) (h : i < ls.length) : setL (ls.take (i + 1)) = add1 (setL (ls.take i)) ls[i] := by
  unfold setL
  rw [List.take_succ_eq_append_getElem h, List.foldl_append]
  rfl

theorem while_len (S : List (List UInt8)) (p : List UInt8 → Bool) : ∀ (k : Nat), (∀ a ∈ S.take k, p a = true) → k ≤ S.length → (∀ h : k < S.length, p S[k] = false) → (S.takeWhile p).length = k := by
  induction S with
  | nil => intro k _ hk _; simp at hk; simp [hk]
  | cons a S ih =>
    intro k h1 hk h2
    cases k with
    | zero =>
      have := h2 (by simp)
      simp only [List.getElem_cons_zero] at this
      rw [List.takeWhile_cons_of_neg (by rw [this]; decide)]
      rfl
    | succ k =>
      have ha : p a = true := h1 a (by simp)
      rw [List.takeWhile_cons_of_pos ha, List.length_cons, ih k (fun b hb => h1 b (by simp [hb])) (by simpa using hk) (fun h => by
        have := h2 (by simpa using h)
        simpa using this)]

theorem ins_at (S : List (List UInt8)) (x : List UInt8) (k : Nat) (h1 : ∀ a ∈ S.take k, ltB a x = true) (hk : k ≤ S.length) (h2 : ∀ h : k < S.length, ltB S[k] x = false) : ins x S = S.take k ++ [x] ++ S.drop k := by
  rw [ins_split, while_len S (fun a => ltB a x) k h1 hk h2]
  simp

theorem all32_set32 {ls : List (List UInt8)} (h : All32 ls) : All32 (setL ls) := fun l hl => h l ((setL_mem ls l).1 hl)

/-- The state of the loop. -/
def SetIn (B i : Nat) (ls : List (List UInt8)) (v : Value) (w wr : World) : Prop := OwnFps B (setL (ls.take i)) v wr ∧ Below B w wr

end Go.Proofs.Ytlmccnelhpnneaa
namespace Go.Proofs.Ytlmccnelhpnneaa
open Go.RowKit

end Go.Proofs.Ytlmccnelhpnneaa
namespace Go.Proofs.Ytlmccnelhpnneaa
open Go.RowKit

/-- The first four bytes as a number. -/
def numL (l : List UInt8) : Nat := (((l.getD 0 0).toNat * 256 + (l.getD 1 0).toNat) * 256 + (l.getD 2 0).toNat) * 256 + (l.getD 3 0).toNat

theorem or_u32 (i a b : Nat) (hb : b < 2 ^ i) (hab : 2 ^ i * a + b ≤ 4294967295) : bits .or .u32 ((2 ^ i * a : Nat) : Int) (b : Int) = ((2 ^ i * a + b : Nat) : Int) := by
  rw [Nat.two_pow_add_eq_or_of_lt hb]
  exact u32_or_nat _ _ (by omega) (by omega)

set_option maxRecDepth 100000 in
set_option maxHeartbeats 1000000 in
theorem num_any (l : List UInt8) (hl : l.length = 32) (w : World) :
    Calls Try.prog 30 #[.agg (fpA l)] w fun e w' => e = .returned (.int .u32 (numL l : Nat)) ∧ Below w.heap.size w w' := by
  have O0 := OneRow.made w l
  have c0 := O0.cell 0 (by omega)
  have c1 := O0.cell 1 (by omega)
  have c2 := O0.cell 2 (by omega)
  have c3 := O0.cell 3 (by omega)
  have HO := Lib.hid O0
  have hN : numL l = (((l.getD 0 0).toNat * 256 + (l.getD 1 0).toNat) * 256 + (l.getD 2 0).toNat) * 256 + (l.getD 3 0).toNat := rfl
  have b0 := (l.getD 0 0).toNat_lt
  have b1 := (l.getD 1 0).toNat_lt
  have b2 := (l.getD 2 0).toNat_lt
  have b3 := (l.getD 3 0).toNat_lt
  obtain ⟨x0, h0⟩ : ∃ x, x = (l.getD 0 0).toNat := ⟨_, rfl⟩
  obtain ⟨x1, h1⟩ : ∃ x, x = (l.getD 1 0).toNat := ⟨_, rfl⟩
  obtain ⟨x2, h2⟩ : ∃ x, x = (l.getD 2 0).toNat := ⟨_, rfl⟩
  obtain ⟨x3, h3⟩ : ∃ x, x = (l.getD 3 0).toNat := ⟨_, rfl⟩
  rw [← h0] at c0 b0 hN
  rw [← h1] at c1 b1 hN
  rw [← h2] at c2 b2 hN
  rw [← h3] at c3 b3 hN
  rw [hN]
  obtain ⟨L, hLL⟩ : ∃ L, L = fpA l := ⟨_, rfl⟩
  rw [← hLL] at c0 c1 c2 c3 ⊢
  have HB : Hid (Below w.heap.size w (w.alloc (.cells L 37))) := by rw [hLL]; exact HO.out.2
  clear hN h0 h1 h2 h3 hLL HO O0 hl
  go_enter Try.func30, Try.ntmps30
  go_wp2
  go_ret
  refine ⟨?_, HB.out⟩
  have e1 : bits .or .u32 ((x0 : Int) * 16777216) ((x1 : Int) * 65536) = ((2 ^ 24 * x0 + x1 * 65536 : Nat) : Int) := by
    have := or_u32 24 x0 (x1 * 65536) (by omega) (by omega)
    rw [← this]; congr 1 <;> omega
  have e2 : bits .or .u32 ((2 ^ 24 * x0 + x1 * 65536 : Nat) : Int) ((x2 : Int) * 256) = ((2 ^ 16 * (256 * x0 + x1) + x2 * 256 : Nat) : Int) := by
    have := or_u32 16 (256 * x0 + x1) (x2 * 256) (by omega) (by omega)
    rw [← this]; congr 1 <;> omega
  have e3 : bits .or .u32 ((2 ^ 16 * (256 * x0 + x1) + x2 * 256 : Nat) : Int) (x3 : Int) = ((2 ^ 8 * (256 * (256 * x0 + x1) + x2) + x3 : Nat) : Int) := by
    have := or_u32 8 (256 * (256 * x0 + x1) + x2) x3 (by omega) (by omega)
    rw [← this]; congr 1 <;> omega
  show Ending.returned (Value.int .u32 (bits .or .u32 (bits .or .u32 (bits .or .u32 ((x0 : Int) * 16777216) ((x1 : Int) * 65536)) ((x2 : Int) * 256)) (x3 : Int))) = _
  rw [e1, e2, e3]
  congr 2
  omega

theorem rnum_step (a b : Nat) (ha : a < 16777216) (hb : b < 256) : IntKind.u32.wrap (IntKind.u32.wrap ((a : Int) * 256) + (b : Int)) = ((a * 256 + b : Nat) : Int) := by
  simp [IntKind.wrap, IntKind.bits, IntKind.signed]
  omega

/-- The number of the first bytes. -/
def numK (l : List UInt8) : Nat → Nat
  | 0 => 0
  | k + 1 => numK l k * 256 + (l.getD k 0).toNat

theorem numK_lt (l : List UInt8) : ∀ k, numK l k < 256 ^ k
  | 0 => Nat.one_pos
  | k + 1 => by
    have h1 := numK_lt l k
    have h2 := (l.getD k 0).toNat_lt
    unfold numK
    rw [Nat.pow_succ]
    omega

theorem numK_four (l : List UInt8) : numK l 4 = numL l := by simp [numK, numL]

theorem num_bound (l : List UInt8) (i : Nat) (hi : i < 4) : numK l i < 16777216 := by
  have := numK_lt l i
  have h : i = 0 ∨ i = 1 ∨ i = 2 ∨ i = 3 := by omega
  rcases h with rfl | rfl | rfl | rfl <;> omega

set_option maxRecDepth 100000 in
set_option maxHeartbeats 1000000 in
/-- The document's Num. -/
theorem rnum_any (l : List UInt8) (hl : l.length = 32) (w : World) :
    Calls Try.prog 24 #[.agg (fpA l)] w fun e w' => e = .returned (.int .u32 (numL l : Nat)) ∧ Below w.heap.size w w' := by
  have O0 := OneRow.made w l
  have HL := Lib.hid hl
  rw [← numK_four]
  obtain ⟨L, hLL⟩ : ∃ L, L = fpA l := ⟨_, rfl⟩
  have O1 : Hid (OneRow w l (w.alloc (.cells L 37))) := by rw [hLL]; exact O0
  rw [← hLL]
  clear hl O0 hLL
  go_enter Try.func24, Try.ntmps24
  go_wp2
  go_loopw [3, 4] (fun y x wr => ∃ (i : Nat), i ≤ 4 ∧ x = .int .i64 i ∧ y = .int .u32 (numK l i : Nat) ∧ Hid (OneRow w l wr)) (fun _ x _ => 4 - (intOf x).toNat)
  case atStart => exact ⟨0, by omega, rfl, rfl, O1⟩
  case round =>
    clear O1
    obtain ⟨i, hi, rfl, rfl, HR⟩ := hrel
    by_cases hlt : i < 4
    · have c1 := HR.out.cell i (by rw [HL.out]; omega)
      have hb := num_bound l i hlt
      have hs : numK l (i + 1) = numK l i * 256 + (l.getD i 0).toNat := rfl
      have hx := (l.getD i 0).toNat_lt
      obtain ⟨x, hxx⟩ : ∃ x, x = (l.getD i 0).toNat := ⟨_, rfl⟩
      obtain ⟨a, haa⟩ : ∃ a, a = numK l i := ⟨_, rfl⟩
      rw [← hxx] at c1 hs hx
      rw [← haa] at hs hb ⊢
      have HS := Lib.hid hs
      have e1 := rnum_step a x hb hx
      clear hs hxx haa
      go_wp2
      go_roundw
      case rel => exact ⟨i + 1, by omega, by go_num, by rw [HS.out]; first | rfl | go_num, HR⟩
      case measure => simp [intOf]; omega
    · obtain rfl : i = 4 := by omega
      go_wp2
      go_ret
      exact ⟨rfl, HR.out.2⟩

end Go.Proofs.Ytlmccnelhpnneaa
