/- Slices of one fingerprint, of two, laid; Of: the walk. Of: the walk. The document's Less, Set: the walks. The document's Set: the walk. The document's Of, Minus, Common: the walks. -/
import Derived.Test.YtaajadmaamjebaaHD
import Derived.Great.BuildSlice
import Derived.Shelf.GgSortFunc.RowK
namespace Go.Proofs.Ytaajadmaamjebaa
open Go.RowKit

theorem fold_many (off : Nat) : ∀ (l : List Value) (j : Nat) (cells : Array Value), (l.zipIdx j).foldl (fun cs p => cs.setIfInBounds (off + p.2) p.1) cells = Sort.setMany cells (off + j) l
  | [], _, _ => rfl
  | v :: l, j, cells => by
    rw [List.zipIdx_cons, List.foldl_cons, fold_many off l (j + 1)]
    rfl

theorem fold_arr (off : Nat) (X cells : Array Value) : X.zipIdx.foldl (fun cs (p : Value × Nat) => cs.setIfInBounds (off + p.2) p.1) cells = Sort.setMany cells off X.toList := by
  rw [← Array.foldl_toList, Array.toList_zipIdx, fold_many off X.toList 0 cells, Nat.add_zero]

theorem fill_one (X cells : Array Value) (hX : X.size = 32) (hc : cells.size = 32) : Instr.fill (fun i => some (i * 32, 32)) cells [(0, .agg X)] = some X := by
  have h1 : (Value.agg X).cells = X := rfl
  simp only [Instr.fill, h1, hX, hc]
  rw [if_neg (by decide)]
  congr 1
  refine (fold_arr (0 * 32) X cells).trans ?_
  apply Sort.ext_get! (by rw [Sort.size_setMany, hX, hc])
  intro t ht
  rw [Sort.size_setMany] at ht
  rw [Sort.get_setMany _ _ _ t ht, if_pos (by rw [Array.length_toList, hX]; omega)]
  rw [Nat.zero_mul, Nat.sub_zero, getElem!_pos X t (by omega), getElem!_pos X.toList t (by rw [Array.length_toList]; omega)]
  simp

theorem fill_two (X Y cells : Array Value) (hX : X.size = 32) (hY : Y.size = 32) (hc : cells.size = 64) : Instr.fill (fun i => some (i * 32, 32)) cells [(0, .agg X), (1, .agg Y)] = some (X ++ Y) := by
  have h1 : (Value.agg X).cells = X := rfl
  have h2 : (Value.agg Y).cells = Y := rfl
  have e1 : X.zipIdx.foldl (fun cs (p : Value × Nat) => cs.setIfInBounds (0 * 32 + p.2) p.1) cells = Sort.setMany cells (0 * 32) X.toList := fold_arr _ _ _
  have e2 : Y.zipIdx.foldl (fun cs (p : Value × Nat) => cs.setIfInBounds (1 * 32 + p.2) p.1) (Sort.setMany cells (0 * 32) X.toList) = Sort.setMany (Sort.setMany cells (0 * 32) X.toList) (1 * 32) Y.toList := fold_arr _ _ _
  simp only [Instr.fill, h1, h2, hX, hc]
  rw [if_neg (by decide)]
  have e3 : (X.zipIdx.foldl (fun cs x => match x with | (c, j) => cs.setIfInBounds (0 * 32 + j) c) cells) = Sort.setMany cells (0 * 32) X.toList := e1
  rw [e3]
  simp only [Sort.size_setMany, hY, hc]
  rw [if_neg (by decide)]
  congr 1
  refine e2.trans ?_
  apply Sort.ext_get! (by rw [Sort.size_setMany, Sort.size_setMany, Array.size_append, hX, hY, hc])
  intro t ht
  rw [Sort.size_setMany, Sort.size_setMany] at ht
  rw [Sort.get_setMany _ _ _ t (by rw [Sort.size_setMany]; exact ht)]
  have hts : t < (X ++ Y).size := by rw [Array.size_append, hX, hY]; omega
  rw [getElem!_pos (X ++ Y) t hts]
  by_cases h : t < 32
  · rw [if_neg (by omega), Sort.get_setMany _ _ _ t ht, if_pos (by rw [Array.length_toList, hX]; omega), Nat.zero_mul, Nat.sub_zero, getElem!_pos X.toList t (by rw [Array.length_toList]; omega), Array.getElem_append_left (by omega)]
    simp
  · rw [if_pos (by rw [Array.length_toList, hY]; omega), getElem!_pos Y.toList (t - 1 * 32) (by rw [Array.length_toList]; omega), Array.getElem_append_right (by omega)]
    simp [hX]

section
variable {ops : Array Oper}

theorem wpList_build1 {rest : List Oper} {o : Oper} {a : Act} {w : World} {Q : Exit → Act → World → Prop} (hg : o.guard = none) (x : Operand) (ho : o.op = .buildSlice 34 1 #[(0, x)]) (X : Array Value) (hx : a.eval x = .agg X) (hX : X.size = 32)
    (h : wpList Try.prog ops Q rest (a.put o.dst (.slice (some ⟨w.heap.size, 0, none⟩) 1 1)) (w.alloc (.cells X 47))) : wpList Try.prog ops Q (o :: rest) a w := by
  obtain ⟨i, hi, h1, h2, z, hz, hzs⟩ := info_fp
  refine wpList_buildSlice hg 34 47 1 _ ho X i z Try.underlying34 hi hz (by rw [h1]; decide) (by rw [h1]; decide) ?_ h
  rw [h1]
  have e : (#[(0, x)].map fun (p : Nat × Operand) => (p.1, a.eval p.2)).toList = [(0, Value.agg X)] := by simp [hx]
  refine (congrArg _ e).trans (fill_one X _ hX (by simp))

theorem wpList_build2 {rest : List Oper} {o : Oper} {a : Act} {w : World} {Q : Exit → Act → World → Prop} (hg : o.guard = none) (x y : Operand) (ho : o.op = .buildSlice 34 2 #[(0, x), (1, y)]) (X Y : Array Value) (hx : a.eval x = .agg X) (hy : a.eval y = .agg Y) (hX : X.size = 32) (hY : Y.size = 32)
    (h : wpList Try.prog ops Q rest (a.put o.dst (.slice (some ⟨w.heap.size, 0, none⟩) 2 2)) (w.alloc (.cells (X ++ Y) 47))) : wpList Try.prog ops Q (o :: rest) a w := by
  obtain ⟨i, hi, h1, h2, z, hz, hzs⟩ := info_fp
  refine wpList_buildSlice hg 34 47 2 _ ho (X ++ Y) i z Try.underlying34 hi hz (by rw [h1]; decide) (by rw [h1]; decide) ?_ h
  rw [h1]
  have e : (#[(0, x), (1, y)].map fun (p : Nat × Operand) => (p.1, a.eval p.2)).toList = [(0, Value.agg X), (1, Value.agg Y)] := by simp [hx, hy]
  refine (congrArg _ e).trans (fill_two X Y _ hX hY (by simp))
end

/-- One fingerprint, laid. -/
theorem fps_one (w : World) (l : List UInt8) (hl : l.length = 32) (c : Nat) : FpsAt 32 [l] (.slice (some ⟨w.heap.size, 0, none⟩) 1 c) (w.alloc (.cells (fpA l) 47)) := by
  have h : RowAt w.heap.size [l] [] (w.alloc (.cells (fpA l) 47)) := ⟨(fun x hx => by rw [List.mem_singleton.1 hx]; exact hl), by
    rw [heap_alloc_new]
    simp [rowA, flatL_one]⟩
  exact h.fps

theorem own_snoc {B : Nat} {ls : List (List UInt8)} {l : List UInt8} {v : Value} {w : World} (h : All32 ls) (hl : l.length = 32) (ho : w.ownsRow B 47 32 v (ls.length + [l].length) (flatL ls ++ flatL [l])) : OwnFps B (ls ++ [l]) v w := by
  refine ⟨(fun x hx => by
    rcases List.mem_append.1 hx with e | e
    · exact h x e
    · rw [List.mem_singleton.1 e]; exact hl), ?_⟩
  rw [List.length_append, flatL_append]
  exact ho

end Go.Proofs.Ytaajadmaamjebaa
namespace Go.Proofs.Ytaajadmaamjebaa
open Go.RowKit

theorem take_keep (ls : List (List UInt8)) (q : List UInt8 → Bool) (j : Nat) (hj : j < ls.length) : (ls.take (j + 1)).filter q = if q ls[j] then (ls.take j).filter q ++ [ls[j]] else (ls.take j).filter q := by
  rw [List.take_succ_eq_append_getElem hj, List.filter_append]
  cases h : q ls[j] <;> simp [h]

theorem all32_filter {ls : List (List UInt8)} (h : All32 ls) (q : List UInt8 → Bool) : All32 (ls.filter q) := fun l hl => h l (List.mem_filter.1 hl).1

/-- The state of a loop that keeps some. -/
def KeepIn (B k : Nat) (q : List UInt8 → Bool) (ls : List (List UInt8)) (v : Value) (w wr : World) : Prop := OwnFps B ((ls.take k).filter q) v wr ∧ Below B w wr

theorem keep_len (q : List UInt8 → Bool) (ls : List (List UInt8)) (k : Nat) : ((ls.take k).filter q).length ≤ ls.length :=
  Nat.le_trans (List.length_filter_le _ _) (by rw [List.length_take]; omega)

end Go.Proofs.Ytaajadmaamjebaa
namespace Go.Proofs.Ytaajadmaamjebaa
open Go.RowKit

theorem ltB_drop (l m : List UInt8) (i : Nat) (h1 : i < l.length) (h2 : i < m.length) : ltB (l.drop i) (m.drop i) = if l[i] = m[i] then ltB (l.drop (i + 1)) (m.drop (i + 1)) else decide ((l[i]).toNat < (m[i]).toNat) := by
  rw [List.drop_eq_getElem_cons h1, List.drop_eq_getElem_cons h2, ltB]

/-- Two fingerprints in blocks of their own, and all else as it was. -/
def TwoFp (w : World) (l m : List UInt8) (wr : World) : Prop :=
  wr.heap[w.heap.size]? = some (.cells (fpA l) 47 (0, 0)) ∧ wr.heap[w.heap.size + 1]? = some (.cells (fpA m) 47 (0, 0)) ∧ Below w.heap.size w wr

theorem two_cell {wr : World} {l : List UInt8} {g : Nat} (h : wr.heap[g]? = some (.cells (fpA l) 47 (0, 0))) (i : Nat) (hi : i < l.length) : wr.cell? ⟨g, i, none⟩ = some (.int .u8 ((l[i].toNat : Nat) : Int)) := fp_cell wr g _ l _ h i hi

set_option maxRecDepth 100000 in
set_option maxHeartbeats 1000000 in
/-- The document's Less. -/
theorem rless_any (l m : List UInt8) (hl : l.length = 32) (hm : m.length = 32) (w : World) :
    Calls Try.prog 32 #[.agg (fpA l), .agg (fpA m)] w fun e w' => e = .returned (.bool (ltB l m)) ∧ Below w.heap.size w w' := by
  have R0 : TwoFp w l m ((w.alloc (.cells (fpA l) 47)).alloc (.cells (fpA m) 47)) :=
    ⟨heap_alloc2_old w _ _, heap_alloc2_new w _ _, ((Below.refl _ _).alloc (Nat.le_refl _) _).alloc (by simp) _⟩
  have HL := Lib.hid hl
  have HM := Lib.hid hm
  obtain ⟨r, hr⟩ : ∃ r, r = ltB l m := ⟨_, rfl⟩
  rw [← hr]
  have HR := Lib.hid hr
  obtain ⟨L, hLL⟩ : ∃ L, L = fpA l := ⟨_, rfl⟩
  obtain ⟨M, hMM⟩ : ∃ M, M = fpA m := ⟨_, rfl⟩
  rw [← hLL, ← hMM] at R0 ⊢
  have HR0 := Lib.hid R0
  clear hr hLL hMM R0 hl hm
  go_enter Try.func32, Try.ntmps32
  go_wp2
  go_loopw [5] (fun x wr => ∃ (i : Nat), i ≤ 32 ∧ x = .int .i64 i ∧ Hid (ltB l m = ltB (l.drop i) (m.drop i)) ∧ Hid (TwoFp w l m wr)) (fun x _ => 32 - (intOf x).toNat)
  case atStart => exact ⟨0, by omega, rfl, rfl, HR0⟩
  case round =>
    clear HR0
    obtain ⟨i, hi, rfl, HD, HT⟩ := hrel
    by_cases hlt : i < 32
    · have h1 : i < l.length := by rw [HL.out]; exact hlt
      have h2 : i < m.length := by rw [HM.out]; exact hlt
      have c1 := two_cell HT.out.1 i h1
      have c2 := two_cell HT.out.2.1 i h2
      have DD := ltB_drop l m i h1 h2
      obtain ⟨x, hx⟩ : ∃ x, x = l[i] := ⟨_, rfl⟩
      obtain ⟨y, hy⟩ : ∃ y, y = m[i] := ⟨_, rfl⟩
      rw [← hx, ← hy] at DD
      rw [← hx] at c1
      rw [← hy] at c2
      clear hx hy
      by_cases hxy : x = y
      · rw [if_pos hxy] at DD
        have HDD := Lib.hid DD
        subst hxy
        obtain ⟨q, hq⟩ : ∃ q : Nat, q = x.toNat := ⟨_, rfl⟩
        rw [← hq] at c1 c2
        clear DD hq
        go_wp2_with fail
        go_quiet (fail)
        go_wp2
        go_roundw
        case rel => exact ⟨i + 1, by omega, by go_num, HD.out.trans HDD.out, ⟨HT.out.1, HT.out.2.1, below_drewN HT.out.2.2 nq⟩⟩
        case measure => simp [intOf]; omega
      · rw [if_neg hxy] at DD
        have HDD := Lib.hid DD
        have hne : x.toNat ≠ y.toNat := fun e => hxy (UInt8.toNat_inj.1 e)
        obtain ⟨q, hq⟩ : ∃ q : Nat, q = x.toNat := ⟨_, rfl⟩
        obtain ⟨s, hs⟩ : ∃ s : Nat, s = y.toNat := ⟨_, rfl⟩
        rw [← hq] at c1 hne HDD
        rw [← hs] at c2 hne HDD
        have b1 : ((q : Int) == (s : Int)) = false := by rw [beq_eq_false_iff_ne]; omega
        have b2 : decide ((q : Int) < (s : Int)) = decide (q < s) := by simp
        clear DD hq hs hxy
        go_wp2_with fail
        go_quiet (fail)
        go_wp2_with fail
        go_quiet (fail)
        go_wp2
        go_ret
        refine ⟨?_, below_drewN (below_drewN HT.out.2.2 _) _⟩
        rw [HR.out, HD.out, HDD.out, ← b2]
        rfl
    · obtain rfl : i = 32 := by omega
      go_wp2
      go_ret
      refine ⟨?_, HT.out.2.2⟩
      rw [HR.out, HD.out, List.drop_eq_nil_of_le (by rw [HL.out]; exact Nat.le_refl _)]
      rfl

/-- A slice cut in two. -/
theorem own_cuts {B : Nat} {ls : List (List UInt8)} {p : Option Addr} {c : Nat} {w : World} (h : OwnFps B ls (.slice p ls.length c) w) (k : Nat) (hk : k ≤ ls.length) :
    ∃ v1 v2, (∀ w', (Instr.sliceAt 34 (.slice p ls.length c) none (some (.int .i64 k)) none).run Try.prog w' = .ok v1 w') ∧ FpsAt 32 (ls.take k) v1 w ∧
      (∀ w', (Instr.sliceAt 34 (.slice p ls.length c) (some (.int .i64 k)) none none).run Try.prog w' = .ok v2 w') ∧ FpsAt 32 (ls.drop k) v2 w := by
  have h32 := h.1
  rcases h.parts with ⟨e, rfl⟩ | ⟨g, cap, rest, e, hB, hr, hc, hm, hsz⟩
  · simp only [Value.slice.injEq] at e
    obtain ⟨rfl, _, rfl⟩ := e
    obtain rfl : k = 0 := by simpa using hk
    refine ⟨.slice none 0 0, .slice none 0 0, fun w' => ?_, ⟨(fun l hl => by simp at hl), none, 0, rfl, Or.inl rfl⟩, fun w' => ?_, ⟨(fun l hl => by simp at hl), none, 0, rfl, Or.inl rfl⟩⟩
    · simp [Instr.sliceAt, Instr.slice, run_underlying Try.underlying34, Instr.sliceBounds, Instr.sliceBound, asIntOf]
    · simp [Instr.sliceAt, Instr.slice, run_underlying Try.underlying34, Instr.sliceBounds, Instr.sliceBound, asIntOf]
  · simp only [Value.slice.injEq] at e
    obtain ⟨rfl, _, rfl⟩ := e
    have hT : RowAt g (ls.take k) (flatL (ls.drop k) ++ rest) w := ⟨all32_take h32 k, by rw [← rowA_take]; exact hr.2⟩
    have f1 : FpsAt 32 (ls.take k) (.slice (some ⟨g, 0, none⟩) k c) w := by
      have := hT.fps (cap := c)
      rwa [List.length_take, Nat.min_eq_left hk] at this
    by_cases h0 : c = 0
    · subst h0
      have hl0 : ls.length = 0 := by omega
      have hk0 : k = 0 := by omega
      subst hk0
      have hls := List.length_eq_zero_iff.1 hl0
      subst hls
      refine ⟨.slice (some ⟨g, 0, none⟩) 0 0, .slice (some ⟨g, 0, none⟩) 0 0, fun w' => ?_, f1, fun w' => ?_, ⟨(fun l hl => by simp at hl), _, 0, rfl, Or.inl rfl⟩⟩
      · simp [Instr.sliceAt, Instr.slice, run_underlying Try.underlying34, Instr.sliceBounds, Instr.sliceBound, asIntOf]
      · simp [Instr.sliceAt, Instr.slice, run_underlying Try.underlying34, Instr.sliceBounds, Instr.sliceBound, asIntOf]
    · have C1 := fun w' => cut_hi g 0 ls.length c k (by omega) (by omega) w'
      by_cases hkc : k < c
      · have C2 := fun w' => cut_lo g 0 ls.length c k hk hkc w'
        refine ⟨_, _, C1, f1, C2, all32_drop h32 k, some ⟨g, 0 + k * 32, none⟩, c - k, by rw [List.length_drop], Or.inr ⟨g, 0 + k * 32, rfl, fun i hi j hj => ?_⟩⟩
        rw [List.length_drop] at hi
        have hki : k + i < ls.length := by omega
        rw [show 0 + k * 32 + (i * 32 + j) = (k + i) * 32 + j by omega, cell_of_row _ _ _ _ _ _ hr.2, rowA_cell ls rest h32 (k + i) j hki hj, fpA_get _ _ (by rw [h32 _ (List.getElem_mem hki)]; exact hj), List.getElem_drop]
      · have hkl : k = ls.length := by omega
        have hcl : c = ls.length := by omega
        subst hkl
        have hd : ls.drop ls.length = [] := List.drop_length
        refine ⟨_, .slice (some ⟨g, 0, none⟩) 0 0, C1, f1, fun w' => ?_, by rw [hd]; exact ⟨(fun l hl => by simp at hl), _, 0, rfl, Or.inl rfl⟩⟩
        subst hcl
        simp [Instr.sliceAt, Instr.slice, run_underlying Try.underlying34, Instr.sliceBounds, Instr.sliceBound, asIntOf]

end Go.Proofs.Ytaajadmaamjebaa
namespace Go.Proofs.Ytaajadmaamjebaa
open Go.RowKit

theorem set_take (ls : List (List UInt8)) (i : Nat) (h : i < ls.length) : setL (ls.take (i + 1)) = add1 (setL (ls.take i)) ls[i] := by
  unfold setL
  rw [List.take_succ_eq_append_getElem h, List.foldl_append]
  rfl

theorem while_len (S : List (List UInt8)) (p : List UInt8 → Bool) : ∀ (k : Nat), (∀ a ∈ S.take k, p a = true) → k ≤ S.length → (∀ h : k < S.length, p S[k] = false) → (S.takeWhile p).length = k := by
  induction S with
  | nil => intro k _ hk _; simp at hk; simp [hk]
  | cons a S ih =>
    intro k h1 hk h2
    cases k with
    | zero =>
      have := h2 (by simp)
      simp only [List.getElem_cons_zero] at this
      rw [List.takeWhile_cons_of_neg (by rw [this]; decide)]
      rfl
    | succ k =>
      have ha : p a = true := h1 a (by simp)
      rw [List.takeWhile_cons_of_pos ha, List.length_cons, ih k (fun b hb => h1 b (by simp [hb])) (by simpa using hk) (fun h => by
        have := h2 (by simpa using h)
        simpa using this)]

theorem ins_at (S : List (List UInt8)) (x : List UInt8) (k : Nat) (h1 : ∀ a ∈ S.take k, ltB a x = true) (hk : k ≤ S.length) (h2 : ∀ h : k < S.length, ltB S[k] x = false) : ins x S = S.take k ++ [x] ++ S.drop k := by
  rw [ins_split, while_len S (fun a => ltB a x) k h1 hk h2]
  simp

theorem all32_set32 {ls : List (List UInt8)} (h : All32 ls) : All32 (setL ls) := fun l hl => h l ((setL_mem ls l).1 hl)

/-- The state of the loop. -/
def SetIn (B i : Nat) (ls : List (List UInt8)) (v : Value) (w wr : World) : Prop := OwnFps B (setL (ls.take i)) v wr ∧ Below B w wr

set_option maxRecDepth 100000 in
set_option maxHeartbeats 4000000 in
/-- The document's Set. -/
theorem rset_n (p : Option Addr) (c n : Nat) (ls : List (List UInt8)) (hn : n = ls.length) (hs : n ≤ 1000000) (w : World) (h : FpsAt 32 ls (.slice p n c) w) :
    Calls Try.prog 13 #[.slice p n c] w fun e w' => ∃ v', e = .returned v' ∧ OwnFps w.heap.size (setL ls) v' w' ∧ Below w.heap.size w w' := by
  obtain ⟨ti, hi, hi1, hi2, tz, hz, hzs⟩ := info_fp
  have HF : Hid (FpsAt 32 ls (.slice p ls.length c) w) := by rw [← hn]; exact h
  have HN := Lib.hid hn
  clear hn h
  go_enter Try.func13, Try.ntmps13
  go_wp2
  go_loopw [3, 4] (fun u x wr => ∃ (i : Nat) (v : Value), i ≤ n ∧ x = .int .i64 i ∧ v = u ∧ Hid (SetIn w.heap.size i ls v w wr)) (fun _ x _ => n - (intOf x).toNat)
  case atStart => exact ⟨0, _, by omega, rfl, rfl, ⟨OwnFps.nil _ _, Below.refl _ _⟩⟩
  case round =>
    obtain ⟨i, v, hin, rfl, rfl, HI⟩ := hrel
    by_cases hlt : i < n
    · have hil : i < ls.length := by rw [← HN.out]; exact hlt
      have hltz : (i : Int) < (n : Int) := by omega
      have bz : decide ((i : Int) < (n : Int)) = true := by simpa using hltz
      obtain ⟨b2, o2, cs, t, fr, hp, hg, E2⟩ := HF.out.elem hil
      subst hp
      have HGW := Lib.hid hg
      have g2 : wr.heap[b2]? = some (.cells cs t fr) := by rw [HI.out.2.block _ (Array.getElem?_eq_some_iff.1 hg).1]; exact hg
      have IX2 := fun w' => idx_at b2 o2 n c i hlt w'
      have hx32 := HF.out.1 _ (List.getElem_mem hil)
      have hS := setL_le 32 (ls.take i) (all32_take HF.out.1 i)
      have hS2 : (setL (ls.take i)).length ≤ i := by rw [List.length_take] at hS; omega
      have hS32 : All32 (setL (ls.take i)) := HI.out.1.1
      obtain ⟨pv, cv, hv, -⟩ := HI.out.1.fps.2
      subst hv
      have C := rhas_any ls[i] hx32 _ (setL (ls.take i)) (by omega) wr HI.out.1.fps
      have ST := Lib.hid (set_take ls i hil)
      have RL := fun (l : List UInt8) (hl : l.length = 32) W => rless_any l ls[i] hl hx32 W
      have HONE := Lib.hid (fun (W : World) => fps_one W ls[i] hx32 1)
      have HXS : Hid ((fpA ls[i]).size = 32) := by rw [fpA_size]; exact hx32
      have HX32 := Lib.hid hx32
      obtain ⟨xl, hxl⟩ : ∃ xl, xl = ls[i] := ⟨_, rfl⟩
      rw [← hxl] at E2 C ST RL HONE HXS HX32
      obtain ⟨X, hX⟩ : ∃ X, X = fpA xl := ⟨_, rfl⟩
      rw [← hX] at E2 C RL HONE HXS
      have HI' := Lib.hid HI.out
      unfold SetIn at HI'
      obtain ⟨S, hSS⟩ : ∃ S, S = setL (ls.take i) := ⟨_, rfl⟩
      rw [← hSS] at HI' C ST hS2 hS32 ⊢
      obtain ⟨m, hm⟩ : ∃ m, m = S.length := ⟨_, rfl⟩
      rw [← hm] at hS2 C ⊢
      have HI2 : Hid (OwnFps w.heap.size S (.slice pv m cv) wr ∧ Below w.heap.size w wr) := by rw [hm]; exact HI'.out
      have HMM := Lib.hid hm
      have HRL := Lib.hid RL
      obtain ⟨r, hr⟩ : ∃ r, r = S.contains xl := ⟨_, rfl⟩
      rw [← hr] at C
      have HRR := Lib.hid hr
      have H32 := Lib.hid hS32
      clear hg hS hSS hX hxl hm hr hx32 HI HI' RL hS32
      cases r with
      | true =>
        go_wp2_with (first
          | (with_reducible refine wpList_load_sub rfl _ _ rfl b2 (o2 + i * 32) 32 rfl t cs fr _ g2 Try.underlying47 rfl infoFp E2.1 X E2.2 ?_)
          | (go_at_call 31; refine C.mono ?_; rintro e w2 ⟨rfl, hb⟩))
        go_roundw
        case rel => exact ⟨i + 1, _, by omega, by go_num, rfl, by
          refine ⟨?_, Below.then' HI2.out.2 hb HI2.out.2.size⟩
          rw [ST.out]
          have hmem : xl ∈ S := List.contains_iff_mem.1 HRR.out.symm
          unfold add1
          rw [if_pos hmem]
          exact HI2.out.1.later hb⟩
        case measure => simp [intOf]; omega
      | false =>
        have hnm : ¬ xl ∈ S := fun hmem => by
          have := List.contains_iff_mem.2 hmem
          rw [← HRR.out] at this; cases this
        have hadd : Hid (setL (ls.take (i + 1)) = ins xl S) := by
          have := ST.out
          unfold add1 at this
          rw [if_neg hnm] at this
          exact this
        clear hnm
        go_wp2_with (first
          | (with_reducible refine wpList_load_sub rfl _ _ rfl b2 (o2 + i * 32) 32 rfl t cs fr _ g2 Try.underlying47 rfl infoFp E2.1 X E2.2 ?_)
          | (go_at_call 31; refine C.mono ?_; rintro e w2 ⟨rfl, hb⟩))
        have HO2 := Lib.hid (HI2.out.1.later hb)
        have HB2 := Lib.hid (Below.then' HI2.out.2 hb HI2.out.2.size)
        clear C g2 hb HI2
        go_loopw [5] (fun y wq => ∃ (k : Nat), k ≤ m ∧ y = .int .i64 k ∧ Hid (∀ a ∈ S.take k, ltB a xl = true) ∧ Hid (Kept w2 wq)) (fun y _ => m - (intOf y).toNat)
        case atStart => exact ⟨0, by omega, rfl, (fun a ha => by simp at ha), Kept.refl w2⟩
        case round =>
          obtain ⟨k, hkm, rfl, HA, HK⟩ := hrel
          by_cases hk : k < m
          · have hkS : k < S.length := by rw [← HMM.out]; exact hk
            have hkz : (k : Int) < (m : Int) := by omega
            have bk : decide ((k : Int) < (m : Int)) = true := by simpa using hkz
            have hfp : FpsAt 32 S (.slice pv S.length cv) w2 := by
              have := HO2.out.fps
              rw [HMM.out] at this
              exact this
            obtain ⟨b1, o1, cs1, t1, fr1, hp1, hg1, E1⟩ := hfp.elem hkS
            subst hp1
            have HG1 : Hid (wr.heap[b1]? = some (.cells cs1 t1 fr1)) := HK.out.row hg1
            have HG2 : Hid (wr.heap[b2]? = some (.cells cs t fr)) := HK.out.row (by rw [HB2.out.block _ (Array.getElem?_eq_some_iff.1 HGW.out).1]; exact HGW.out)
            have IX1 := fun w' => idx_at b1 o1 m cv k hk w'
            have CM := fun W => HRL.out S[k] (H32.out _ (List.getElem_mem hkS)) W
            obtain ⟨Y, hY⟩ : ∃ Y, Y = fpA S[k] := ⟨_, rfl⟩
            obtain ⟨q, hq⟩ : ∃ q, q = ltB S[k] xl := ⟨_, rfl⟩
            rw [← hY] at E1 CM
            rw [← hq] at CM
            have HQ := Lib.hid hq
            clear hY hq hg1 hfp
            go_wp2_with fail
            refine wp_region_kept (by kernel_rfl) (by kernel_rfl) ?_
            refine wpQuiet_pure (v := ?_) (by kernel_rfl) ?_ (fun K hK => ?_)
            case refine_2 => intro W _; go_simp; try with_reducible rfl
            go_simp
            refine hK _ ?_; clear hK K
            refine wpQuiet_pure (v := ?_) (by kernel_rfl) ?_ (fun K hK => ?_)
            case refine_2 => intro W _; go_simp; try with_reducible rfl
            go_simp
            refine hK _ ?_; clear hK K
            refine wpQuiet_pure (v := ?_) (by kernel_rfl) ?_ (fun K hK => ?_)
            case refine_2 => intro W _; go_simp; try with_reducible rfl
            go_simp
            refine hK _ ?_; clear hK K
            refine wpQuiet_pure (by kernel_rfl) (.bool true) (fun W _ => by go_simp) (fun K hK => ?_)
            go_simp
            refine hK _ ?_; clear hK K
            refine wpQuiet_pure (v := ?_) (by kernel_rfl) ?_ (fun K hK => ?_)
            case refine_2 => intro W _; go_simp; try with_reducible rfl
            go_simp
            refine hK _ ?_; clear hK K
            refine wpQuiet_pure (v := ?_) (by kernel_rfl) ?_ (fun K hK => ?_)
            case refine_2 => intro W _; go_simp; try with_reducible rfl
            go_simp
            refine hK _ ?_; clear hK K
            refine wpQuiet_pure (v := ?_) (by kernel_rfl) ?_ (fun K hK => ?_)
            case refine_2 => intro W _; go_simp; try with_reducible rfl
            go_simp
            refine hK _ ?_; clear hK K
            refine wpQuiet_pure (v := ?_) (by kernel_rfl) ?_ (fun K hK => ?_)
            case refine_2 => intro W _; go_simp; try with_reducible rfl
            go_simp
            refine hK _ ?_; clear hK K
            refine wpQuiet_load_sub (by kernel_rfl) _ _ rfl b1 (o1 + k * 32) 32 rfl t1 cs1 fr1 _ (fun _ h => h.row HG1.out) Try.underlying47 rfl infoFp _ E1 (fun K hK => ?_)
            go_simp
            refine hK _ ?_; clear hK K
            refine wpQuiet_pure (v := ?_) (by kernel_rfl) ?_ (fun K hK => ?_)
            case refine_2 => intro W _; go_simp; try with_reducible rfl
            go_simp
            refine hK _ ?_; clear hK K
            refine wpQuiet_pure (v := ?_) (by kernel_rfl) ?_ (fun K hK => ?_)
            case refine_2 => intro W _; go_simp; try with_reducible rfl
            go_simp
            refine hK _ ?_; clear hK K
            refine wpQuiet_pure (v := ?_) (by kernel_rfl) ?_ (fun K hK => ?_)
            case refine_2 => intro W _; go_simp; try with_reducible rfl
            go_simp
            refine hK _ ?_; clear hK K
            refine wpQuiet_load_sub (by kernel_rfl) _ _ rfl b2 (o2 + i * 32) 32 rfl t cs fr _ (fun _ h => h.row HG2.out) Try.underlying47 rfl infoFp _ E2 (fun K hK => ?_)
            go_simp
            refine hK _ ?_; clear hK K
            refine wpQuiet_call (by kernel_rfl) _ _ _ (fun W => by go_simp) (fun W h => Calls.kept_of h (CM W)) (fun K hK => ?_)
            go_simp
            refine hK _ ?_; clear hK K
            refine wpQuiet_pure (v := ?_) (by kernel_rfl) ?_ (fun K hK => ?_)
            case refine_2 => intro W _; go_simp; try with_reducible rfl
            go_simp
            refine hK _ ?_; clear hK K
            refine wpQuiet_nil ?_
            intro w3 hk3
            cases q with
            | true =>
              go_wp2
              go_roundw
              case rel => exact ⟨k + 1, by omega, by go_num, (fun a ha => by
                rw [List.take_succ_eq_append_getElem hkS] at ha
                rcases List.mem_append.1 ha with e | e
                · exact HA.out a e
                · rw [List.mem_singleton.1 e]; exact HQ.out.symm), HK.out.then hk3⟩
              case measure => simp [intOf]; omega
            | false =>
              have HEND : Hid (∀ h : k < S.length, ltB S[k] xl = false) := fun _ => HQ.out.symm
              clear CM IX1 E1 HG1 HG2
              have hins : Hid (setL (ls.take (i + 1)) = S.take k ++ [xl] ++ S.drop k) := hadd.out.trans (ins_at S xl k HA.out (by rw [← HMM.out]; exact hkm) HEND.out)
              have K3 : Kept w2 w3 := HK.out.then hk3
              have KB3 : Below w.heap.size w w3 := Below.then' HB2.out K3 HB2.out.size
              have hO3 : OwnFps w.heap.size S (.slice (some ⟨b1, o1, none⟩) S.length cv) w3 := by
                have := HO2.out.later K3
                rw [HMM.out] at this
                exact this
              obtain ⟨v1, v2, CT1, F1, CT2, F2⟩ := own_cuts hO3 k (by rw [← HMM.out]; exact hkm)
              rw [← HMM.out] at CT1 CT2
              have HF1 := Lib.hid F1
              have HF2 := Lib.hid F2
              have HK3 := Lib.hid KB3
              have hlt1 : (S.take k).length = k := by rw [List.length_take, ← HMM.out]; exact Nat.min_eq_left hkm
              have hlt2 : (S.drop k).length = m - k := by rw [List.length_drop, ← HMM.out]
              have HL1 := Lib.hid hlt1
              have HL2 := Lib.hid hlt2
              clear F1 F2 hO3 K3 KB3 hlt1 hlt2 HK hk3
              go_wp2_with (at_builtin; refine wpList_append_fps rfl _ _ 34 rfl w3.heap.size 47 ti tz 32 Try.underlying34 hi hz hi1 hi2 hzs _ _ _ rfl (World.ownsRow_made w3 #[] 0 (Nat.le_refl _) (Nat.zero_le _) (by simp)) _ (S.take k) rfl ?qc1 ?qc2 ?qc3 ?qc4 ?_)
              case qc1 => exact HF1.out.later ((Below.refl _ w3).alloc (Nat.le_refl _) _)
              case qc2 => rw [HL1.out]; unfold maxLen; omega
              case qc3 => rw [HL1.out]; omega
              case qc4 => simp
              intro v3 w4 hown1 hgrow1
              have K4 : Below w3.heap.size w3 w4 := ((Below.refl _ w3).alloc (Nat.le_refl _) _).grown hgrow1 (by simp) (by intro kk hkk; simp [Value.ownBlock] at hkk; omega)
              have own1 : w4.ownsRow w3.heap.size 47 32 v3 (S.take k).length (flatL (S.take k)) := by simpa using hown1
              have l1 := own1.lt
              have g4 : w4.heap[b2]? = some (.cells cs t fr) := by
                have h1 := HK3.out.size
                rw [K4.block _ (Nat.lt_of_lt_of_le (Array.getElem?_eq_some_iff.1 HGW.out).1 h1), HK3.out.block _ (Array.getElem?_eq_some_iff.1 HGW.out).1]
                exact HGW.out
              have HW1 := Lib.hid own1
              clear hown1 hgrow1 own1
              go_wp2_with (first
                | (with_reducible refine wpList_load_sub rfl _ _ rfl b2 (o2 + i * 32) 32 rfl t cs fr _ g4 Try.underlying47 rfl infoFp E2.1 X E2.2 ?_)
                | (with_reducible refine wpList_build1 rfl _ rfl X rfl HXS.out ?_)
                | (at_builtin; refine wpList_append_fps rfl _ _ 34 rfl w3.heap.size 47 ti tz 32 Try.underlying34 hi hz hi1 hi2 hzs _ _ _ rfl (HW1.out.alloc _) _ [xl] rfl (HONE.out _) ?qd2 ?qd3 ?qd4 ?_))
              case qd2 => rw [HL1.out, List.length_singleton]; unfold maxLen; omega
              case qd3 => rw [HL1.out, List.length_singleton]; omega
              case qd4 => simp only [World.size_alloc]; have := K4.size; omega
              intro v4 w5 hown2 hgrow2
              have K5 : Below w3.heap.size w3 w5 := (K4.alloc K4.size _).grown hgrow2 (by simp only [World.size_alloc]; have := K4.size; omega) (fun kk hkk => (l1 kk hkk).1)
              have own2 : w5.ownsRow w3.heap.size 47 32 v4 (S.take k ++ [xl]).length (flatL (S.take k ++ [xl])) := by
                rw [flatL_append, List.length_append, List.length_take, List.length_singleton]
                exact hown2
              have l2 := own2.lt
              have HW2 := Lib.hid own2
              clear hown2 hgrow2 own2 g4 K4 HW1 l1
              go_wp2_with (at_builtin; refine wpList_append_fps rfl _ _ 34 rfl w3.heap.size 47 ti tz 32 Try.underlying34 hi hz hi1 hi2 hzs _ _ _ rfl HW2.out _ (S.drop k) rfl ?qe1 ?qe2 ?qe3 ?qe4 ?_)
              case qe1 => exact HF2.out.later K5
              case qe2 => rw [List.length_append, HL1.out, HL2.out, List.length_singleton]; unfold maxLen; omega
              case qe3 => rw [List.length_append, HL1.out, HL2.out, List.length_singleton]; omega
              case qe4 => exact K5.size
              intro v5 w6 hown3 hgrow3
              have K6 : Below w3.heap.size w3 w6 := K5.grown hgrow3 K5.size (fun kk hkk => (l2 kk hkk).1)
              have HW3 := Lib.hid hown3
              clear hown3 hgrow3
              go_wp2
              go_roundw
              case rel => exact ⟨i + 1, _, by omega, by go_num, rfl, by
                refine ⟨?_, HK3.out.trans (K6.mono HK3.out.size)⟩
                have hO : OwnFps w3.heap.size (setL (ls.take (i + 1))) v5 w6 := by
                  refine ⟨all32_set32 (all32_take HF.out.1 _), ?_⟩
                  rw [hins.out, flatL_append, List.length_append, List.length_append, List.length_take, List.length_singleton, List.length_drop]
                  exact HW3.out
                exact hO.base HK3.out.size⟩
              case measure => simp [intOf]; omega
          · have hkz : ¬ (k : Int) < (m : Int) := by omega
            have bk : decide ((k : Int) < (m : Int)) = false := by simpa using hkz
            have HEND : Hid (∀ h : k < S.length, ltB S[k] xl = false) := fun h => by have := HMM.out; omega
            go_wp2_with fail
            refine wp_region_kept (by kernel_rfl) (by kernel_rfl) ?_
            refine wpQuiet_pure (v := ?_) (by kernel_rfl) ?_ (fun K hK => ?_)
            case refine_2 => intro W _; go_simp; try with_reducible rfl
            go_simp
            refine hK _ ?_; clear hK K
            refine wpQuiet_pure (v := ?_) (by kernel_rfl) ?_ (fun K hK => ?_)
            case refine_2 => intro W _; go_simp; try with_reducible rfl
            go_simp
            refine hK _ ?_; clear hK K
            refine wpQuiet_pure (v := ?_) (by kernel_rfl) ?_ (fun K hK => ?_)
            case refine_2 => intro W _; go_simp; try with_reducible rfl
            go_simp
            refine hK _ ?_; clear hK K
            refine wpQuiet_pure (by kernel_rfl) (.bool false) (fun W _ => by go_simp) (fun K hK => ?_)
            go_simp
            refine hK _ ?_; clear hK K
            refine wpQuiet_pure (v := ?_) (by kernel_rfl) ?_ (fun K hK => ?_)
            case refine_2 => intro W _; go_simp; try with_reducible rfl
            go_simp
            refine hK _ ?_; clear hK K
            go_big_quiet_skip
            go_big_quiet_skip
            go_big_quiet_skip
            go_big_quiet_skip
            go_big_quiet_skip
            go_big_quiet_skip
            go_big_quiet_skip
            go_big_quiet_skip
            go_big_quiet_skip
            refine wpQuiet_pure (v := ?_) (by kernel_rfl) ?_ (fun K hK => ?_)
            case refine_2 => intro W _; go_simp; try with_reducible rfl
            go_simp
            refine hK _ ?_; clear hK K
            refine wpQuiet_nil ?_
            intro w3 hk3
            have hins : Hid (setL (ls.take (i + 1)) = S.take k ++ [xl] ++ S.drop k) := hadd.out.trans (ins_at S xl k HA.out (by rw [← HMM.out]; exact hkm) HEND.out)
            have K3 : Kept w2 w3 := HK.out.then hk3
            have KB3 : Below w.heap.size w w3 := Below.then' HB2.out K3 HB2.out.size
            have hO3 : OwnFps w.heap.size S (.slice pv S.length cv) w3 := by
              have := HO2.out.later K3
              rw [HMM.out] at this
              exact this
            obtain ⟨v1, v2, CT1, F1, CT2, F2⟩ := own_cuts hO3 k (by rw [← HMM.out]; exact hkm)
            rw [← HMM.out] at CT1 CT2
            have HF1 := Lib.hid F1
            have HF2 := Lib.hid F2
            have HK3 := Lib.hid KB3
            have hlt1 : (S.take k).length = k := by rw [List.length_take, ← HMM.out]; exact Nat.min_eq_left hkm
            have hlt2 : (S.drop k).length = m - k := by rw [List.length_drop, ← HMM.out]
            have HL1 := Lib.hid hlt1
            have HL2 := Lib.hid hlt2
            clear F1 F2 hO3 K3 KB3 hlt1 hlt2 HK hk3
            go_wp2_with (at_builtin; refine wpList_append_fps rfl _ _ 34 rfl w3.heap.size 47 ti tz 32 Try.underlying34 hi hz hi1 hi2 hzs _ _ _ rfl (World.ownsRow_made w3 #[] 0 (Nat.le_refl _) (Nat.zero_le _) (by simp)) _ (S.take k) rfl ?qc1 ?qc2 ?qc3 ?qc4 ?_)
            case qc1 => exact HF1.out.later ((Below.refl _ w3).alloc (Nat.le_refl _) _)
            case qc2 => rw [HL1.out]; unfold maxLen; omega
            case qc3 => rw [HL1.out]; omega
            case qc4 => simp
            intro v3 w4 hown1 hgrow1
            have K4 : Below w3.heap.size w3 w4 := ((Below.refl _ w3).alloc (Nat.le_refl _) _).grown hgrow1 (by simp) (by intro kk hkk; simp [Value.ownBlock] at hkk; omega)
            have own1 : w4.ownsRow w3.heap.size 47 32 v3 (S.take k).length (flatL (S.take k)) := by simpa using hown1
            have l1 := own1.lt
            have g4 : w4.heap[b2]? = some (.cells cs t fr) := by
              have h1 := HK3.out.size
              rw [K4.block _ (Nat.lt_of_lt_of_le (Array.getElem?_eq_some_iff.1 HGW.out).1 h1), HK3.out.block _ (Array.getElem?_eq_some_iff.1 HGW.out).1]
              exact HGW.out
            have HW1 := Lib.hid own1
            clear hown1 hgrow1 own1
            go_wp2_with (first
              | (with_reducible refine wpList_load_sub rfl _ _ rfl b2 (o2 + i * 32) 32 rfl t cs fr _ g4 Try.underlying47 rfl infoFp E2.1 X E2.2 ?_)
              | (with_reducible refine wpList_build1 rfl _ rfl X rfl HXS.out ?_)
              | (at_builtin; refine wpList_append_fps rfl _ _ 34 rfl w3.heap.size 47 ti tz 32 Try.underlying34 hi hz hi1 hi2 hzs _ _ _ rfl (HW1.out.alloc _) _ [xl] rfl (HONE.out _) ?qd2 ?qd3 ?qd4 ?_))
            case qd2 => rw [HL1.out, List.length_singleton]; unfold maxLen; omega
            case qd3 => rw [HL1.out, List.length_singleton]; omega
            case qd4 => simp only [World.size_alloc]; have := K4.size; omega
            intro v4 w5 hown2 hgrow2
            have K5 : Below w3.heap.size w3 w5 := (K4.alloc K4.size _).grown hgrow2 (by simp only [World.size_alloc]; have := K4.size; omega) (fun kk hkk => (l1 kk hkk).1)
            have own2 : w5.ownsRow w3.heap.size 47 32 v4 (S.take k ++ [xl]).length (flatL (S.take k ++ [xl])) := by
              rw [flatL_append, List.length_append, List.length_take, List.length_singleton]
              exact hown2
            have l2 := own2.lt
            have HW2 := Lib.hid own2
            clear hown2 hgrow2 own2 g4 K4 HW1 l1
            go_wp2_with (at_builtin; refine wpList_append_fps rfl _ _ 34 rfl w3.heap.size 47 ti tz 32 Try.underlying34 hi hz hi1 hi2 hzs _ _ _ rfl HW2.out _ (S.drop k) rfl ?qe1 ?qe2 ?qe3 ?qe4 ?_)
            case qe1 => exact HF2.out.later K5
            case qe2 => rw [List.length_append, HL1.out, HL2.out, List.length_singleton]; unfold maxLen; omega
            case qe3 => rw [List.length_append, HL1.out, HL2.out, List.length_singleton]; omega
            case qe4 => exact K5.size
            intro v5 w6 hown3 hgrow3
            have K6 : Below w3.heap.size w3 w6 := K5.grown hgrow3 K5.size (fun kk hkk => (l2 kk hkk).1)
            have HW3 := Lib.hid hown3
            clear hown3 hgrow3
            go_wp2
            go_roundw
            case rel => exact ⟨i + 1, _, by omega, by go_num, rfl, by
              refine ⟨?_, HK3.out.trans (K6.mono HK3.out.size)⟩
              have hO : OwnFps w3.heap.size (setL (ls.take (i + 1))) v5 w6 := by
                refine ⟨all32_set32 (all32_take HF.out.1 _), ?_⟩
                rw [hins.out, flatL_append, List.length_append, List.length_append, List.length_take, List.length_singleton, List.length_drop]
                exact HW3.out
              exact hO.base HK3.out.size⟩
            case measure => simp [intOf]; omega
    · obtain rfl : i = n := by omega
      have bz : decide ((i : Int) < (i : Int)) = false := by simp
      go_wp2
      go_ret
      have hI := HI.out
      unfold SetIn at hI
      rw [List.take_of_length_le (by rw [← HN.out]; exact Nat.le_refl _)] at hI
      exact ⟨_, rfl, hI.1, hI.2⟩

end Go.Proofs.Ytaajadmaamjebaa
namespace Go.Proofs.Ytaajadmaamjebaa
open Go.RowKit

theorem rset_any (v : Value) (ls : List (List UInt8)) (hs : ls.length ≤ 1000000) (w : World) (h : FpsAt 32 ls v w) :
    Calls Try.prog 13 #[v] w fun e w' => ∃ v', e = .returned v' ∧ OwnFps w.heap.size (setL ls) v' w' ∧ Below w.heap.size w w' := by
  obtain ⟨p, c, rfl, _⟩ := h.2
  exact rset_n p c ls.length ls rfl hs w h

end Go.Proofs.Ytaajadmaamjebaa
