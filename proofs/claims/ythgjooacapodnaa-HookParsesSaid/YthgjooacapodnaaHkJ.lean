/- The document's Less, Set: the walks. -/
import Derived.Test.YthgjooacapodnaaHkG
namespace Go.Proofs.Ythgjooacapodnaa
open Go.RowKit

theorem ltB_drop (l m : List UInt8) (i : Nat) (h1 : i < l.length) (h2 : i < m.length) : ltB (l.drop i) (m.drop i) = if l[i] = m[i] then ltB (l.drop (i + 1)) (m.drop (i + 1)) else decide ((l[i]).toNat < (m[i]).toNat) := by
  rw [List.drop_eq_getElem_cons h1, List.drop_eq_getElem_cons h2, ltB]

/-- Two fingerprints in blocks of their own, and all else as it was. -/
def TwoFp (w : World) (l m : List UInt8) (wr : World) : Prop :=
  wr.heap[w.heap.size]? = some (.cells (fpA l) 23 (0, 0)) ∧ wr.heap[w.heap.size + 1]? = some (.cells (fpA m) 23 (0, 0)) ∧ Below w.heap.size w wr

theorem two_cell {wr : World} {l : List UInt8} {g : Nat} (h : wr.heap[g]? = some (.cells (fpA l) 23 (0, 0))) (i : Nat) (hi : i < l.length) : wr.cell? ⟨g, i, none⟩ = some (.int .u8 ((l[i].toNat : Nat) : Int)) := fp_cell wr g _ l _ h i hi

set_option maxRecDepth 100000 in
set_option maxHeartbeats 1000000 in
/-- The document's Less. -/
theorem rless_any (l m : List UInt8) (hl : l.length = 32) (hm : m.length = 32) (w : World) :
    Calls Try.prog 19 #[.agg (fpA l), .agg (fpA m)] w fun e w' => e = .returned (.bool (ltB l m)) ∧ Below w.heap.size w w' := by
  have R0 : TwoFp w l m ((w.alloc (.cells (fpA l) 23)).alloc (.cells (fpA m) 23)) :=
    ⟨heap_alloc2_old w _ _, heap_alloc2_new w _ _, ((Below.refl _ _).alloc (Nat.le_refl _) _).alloc (by simp) _⟩
  have HL := Lib.hid hl
  have HM := Lib.hid hm
  obtain ⟨r, hr⟩ : ∃ r, r = ltB l m := ⟨_, rfl⟩
  rw [← hr]
  have HR := Lib.hid hr
  obtain ⟨L, hLL⟩ : ∃ L, L = fpA l := ⟨_, rfl⟩
  obtain ⟨M, hMM⟩ : ∃ M, M = fpA m := ⟨_, rfl⟩
  rw [← hLL, ← hMM] at R0 ⊢
  have HR0 := Lib.hid R0
  clear hr hLL hMM R0 hl hm
  go_enter Try.func19, Try.ntmps19
  go_wp2
  go_loopw [5] (fun x wr => ∃ (i : Nat), i ≤ 32 ∧ x = .int .i64 i ∧ Hid (ltB l m = ltB (l.drop i) (m.drop i)) ∧ Hid (TwoFp w l m wr)) (fun x _ => 32 - (intOf x).toNat)
  case atStart => exact ⟨0, by omega, rfl, rfl, HR0⟩
  case round =>
    clear HR0
    obtain ⟨i, hi, rfl, HD, HT⟩ := hrel
    by_cases hlt : i < 32
    · have h1 : i < l.length := by rw [HL.out]; exact hlt
      have h2 : i < m.length := by rw [HM.out]; exact hlt
      have c1 := two_cell HT.out.1 i h1
      have c2 := two_cell HT.out.2.1 i h2
      have DD := ltB_drop l m i h1 h2
      obtain ⟨x, hx⟩ : ∃ x, x = l[i] := ⟨_, rfl⟩
      obtain ⟨y, hy⟩ : ∃ y, y = m[i] := ⟨_, rfl⟩
      rw [← hx, ← hy] at DD
      rw [← hx] at c1
      rw [← hy] at c2
      clear hx hy
      by_cases hxy : x = y
      · rw [if_pos hxy] at DD
        have HDD := Lib.hid DD
        subst hxy
        obtain ⟨q, hq⟩ : ∃ q : Nat, q = x.toNat := ⟨_, rfl⟩
        rw [← hq] at c1 c2
        clear DD hq
        go_wp2_with fail
        go_quiet (fail)
        go_wp2
        go_roundw
        case rel => exact ⟨i + 1, by omega, by go_num, HD.out.trans HDD.out, ⟨HT.out.1, HT.out.2.1, below_drewN HT.out.2.2 nq⟩⟩
        case measure => simp [intOf]; omega
      · rw [if_neg hxy] at DD
        have HDD := Lib.hid DD
        have hne : x.toNat ≠ y.toNat := fun e => hxy (UInt8.toNat_inj.1 e)
        obtain ⟨q, hq⟩ : ∃ q : Nat, q = x.toNat := ⟨_, rfl⟩
        obtain ⟨s, hs⟩ : ∃ s : Nat, s = y.toNat := ⟨_, rfl⟩
        rw [← hq] at c1 hne HDD
        rw [← hs] at c2 hne HDD
        have b1 : ((q : Int) == (s : Int)) = false := by rw [beq_eq_false_iff_ne]; omega
        have b2 : decide ((q : Int) < (s : Int)) = decide (q < s) := by simp
        clear DD hq hs hxy
        go_wp2_with fail
        go_quiet (fail)
        go_wp2_with fail
        go_quiet (fail)
        go_wp2
        go_ret
        refine ⟨?_, below_drewN (below_drewN HT.out.2.2 _) _⟩
        rw [HR.out, HD.out, HDD.out, ← b2]
        rfl
    · obtain rfl : i = 32 := by omega
      go_wp2
      go_ret
      refine ⟨?_, HT.out.2.2⟩
      rw [HR.out, HD.out, List.drop_eq_nil_of_le (by rw [HL.out]; exact Nat.le_refl _)]
      rfl

/-- A slice cut in two. -/
theorem own_cuts {B : Nat} {ls : List (List UInt8)} {p : Option Addr} {c : Nat} {w : World} (h : OwnFps B ls (.slice p ls.length c) w) (k : Nat) (hk : k ≤ ls.length) :
    ∃ v1 v2, (∀ w', (Instr.sliceAt 37 (.slice p ls.length c) none (some (.int .i64 k)) none).run Try.prog w' = .ok v1 w') ∧ FpsAt 32 (ls.take k) v1 w ∧
      (∀ w', (Instr.sliceAt 37 (.slice p ls.length c) (some (.int .i64 k)) none none).run Try.prog w' = .ok v2 w') ∧ FpsAt 32 (ls.drop k) v2 w := by
  have h32 := h.1
  rcases h.parts with ⟨e, rfl⟩ | ⟨g, cap, rest, e, hB, hr, hc, hm, hsz⟩
  · simp only [Value.slice.injEq] at e
    obtain ⟨rfl, _, rfl⟩ := e
    obtain rfl : k = 0 := by simpa using hk
    refine ⟨.slice none 0 0, .slice none 0 0, fun w' => ?_, ⟨(fun l hl => by simp at hl), none, 0, rfl, Or.inl rfl⟩, fun w' => ?_, ⟨(fun l hl => by simp at hl), none, 0, rfl, Or.inl rfl⟩⟩
    · simp [Instr.sliceAt, Instr.slice, run_underlying Try.underlying37, Instr.sliceBounds, Instr.sliceBound, asIntOf]
    · simp [Instr.sliceAt, Instr.slice, run_underlying Try.underlying37, Instr.sliceBounds, Instr.sliceBound, asIntOf]
  · simp only [Value.slice.injEq] at e
    obtain ⟨rfl, _, rfl⟩ := e
    have hT : RowAt g (ls.take k) (flatL (ls.drop k) ++ rest) w := ⟨all32_take h32 k, by rw [← rowA_take]; exact hr.2⟩
    have f1 : FpsAt 32 (ls.take k) (.slice (some ⟨g, 0, none⟩) k c) w := by
      have := hT.fps (cap := c)
      rwa [List.length_take, Nat.min_eq_left hk] at this
    by_cases h0 : c = 0
    · subst h0
      have hl0 : ls.length = 0 := by omega
      have hk0 : k = 0 := by omega
      subst hk0
      have hls := List.length_eq_zero_iff.1 hl0
      subst hls
      refine ⟨.slice (some ⟨g, 0, none⟩) 0 0, .slice (some ⟨g, 0, none⟩) 0 0, fun w' => ?_, f1, fun w' => ?_, ⟨(fun l hl => by simp at hl), _, 0, rfl, Or.inl rfl⟩⟩
      · simp [Instr.sliceAt, Instr.slice, run_underlying Try.underlying37, Instr.sliceBounds, Instr.sliceBound, asIntOf]
      · simp [Instr.sliceAt, Instr.slice, run_underlying Try.underlying37, Instr.sliceBounds, Instr.sliceBound, asIntOf]
    · have C1 := fun w' => cut_hi g 0 ls.length c k (by omega) (by omega) w'
      by_cases hkc : k < c
      · have C2 := fun w' => cut_lo g 0 ls.length c k hk hkc w'
        refine ⟨_, _, C1, f1, C2, all32_drop h32 k, some ⟨g, 0 + k * 32, none⟩, c - k, by rw [List.length_drop], Or.inr ⟨g, 0 + k * 32, rfl, fun i hi j hj => ?_⟩⟩
        rw [List.length_drop] at hi
        have hki : k + i < ls.length := by omega
        rw [show 0 + k * 32 + (i * 32 + j) = (k + i) * 32 + j by omega, cell_of_row _ _ _ _ _ _ hr.2, rowA_cell ls rest h32 (k + i) j hki hj, fpA_get _ _ (by rw [h32 _ (List.getElem_mem hki)]; exact hj), List.getElem_drop]
      · have hkl : k = ls.length := by omega
        have hcl : c = ls.length := by omega
        subst hkl
        have hd : ls.drop ls.length = [] := List.drop_length
        refine ⟨_, .slice (some ⟨g, 0, none⟩) 0 0, C1, f1, fun w' => ?_, by rw [hd]; exact ⟨(fun l hl => by simp at hl), _, 0, rfl, Or.inl rfl⟩⟩
        subst hcl
        simp [Instr.sliceAt, Instr.slice, run_underlying Try.underlying37, Instr.sliceBounds, Instr.sliceBound, asIntOf, sizeFp]

end Go.Proofs.Ythgjooacapodnaa
