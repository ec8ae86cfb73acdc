/- The walks of a Scale: New, Write, Sum, Len; of Of. -/
import Derived.Test.YtmobkjdncfdokaaDoorTurnZ
import Derived.RegionTactic
import Derived.BigRegion
import Derived.Scope
import Derived.WalkMore
import Derived.ScopeJumps
import Derived.Deep.WholeRow
namespace Go.Proofs.YtmobkjdncfdokaaDoor
open Go.RowKit
open Ieee (Datum Format signed double)

/-- A Scale that holds the text l. -/
def scaleA (l : List UInt8) : Array Value := #[.complex .f64 (flt (wRe 0 l)) (flt (wIm 0 l)), .int .i64 l.length]

def IsScale (g : Nat) (l : List UInt8) (w : World) : Prop := w.heap[g]? = some (.cells (scaleA l) 89 (0, 0))

/-- One byte times a power of i. -/
theorem mul_byte (b : UInt8) {x y k : Nat} (h : NumZ x y (pr k, pi k)) :
    ∃ re im, cMulBits (flt b.toNat) 0 x y = some (re, im) ∧ Num re ((b.toNat : Int) * pr k) ∧ Num im ((b.toNat : Int) * pi k) := by
  obtain ⟨hx, hy⟩ := h
  have hb : ((b.toNat : Int)).natAbs ≤ 2 ^ 53 := by have := b.toNat_lt; omega
  have hB := num_flt (b.toNat : Int) hb
  have a1 := mul_abs b (pr k) (pr_abs k)
  have a2 := mul_abs b (pi k) (pi_abs k)
  have lt64 : ∀ {x y r : Nat}, double.mul x y = some r → r < 2 ^ 64 := fun h => double.mul_lt h
  have hx : Num x (pr k) := hx
  have hy : Num y (pi k) := hy
  obtain ⟨ac, e1, v1⟩ := mul_val hB.2.1 hx.2.1 (by omega)
  obtain ⟨bd, e2, v2⟩ := mul_val num_zero.2.1 hy.2.1 (by simp)
  obtain ⟨ad, e3, v3⟩ := mul_val hB.2.1 hy.2.1 (by omega)
  obtain ⟨bc, e4, v4⟩ := mul_val num_zero.2.1 hx.2.1 (by simp)
  rw [Int.zero_mul] at v2 v4
  obtain ⟨re, e5, v5⟩ := sub_val v1 v2 (by omega)
  obtain ⟨im, e6, _, v6⟩ := add_val v3 v4
  have v6' := v6 (by omega)
  rw [Int.sub_zero] at v5
  rw [Int.add_zero] at v6'
  refine ⟨re, im, ?_, ⟨double.sub_lt e5, v5, by omega⟩, ⟨double.add_lt e6, v6', by omega⟩⟩
  have f1 : floatBits .mul .f64 (flt b.toNat) x = some ac := e1
  have f2 : floatBits .mul .f64 0 y = some bd := e2
  have f3 : floatBits .mul .f64 (flt b.toNat) y = some ad := e3
  have f4 : floatBits .mul .f64 0 x = some bc := e4
  have f5 : floatBits .sub .f64 ac bd = some re := e5
  have f6 : floatBits .add .f64 ad bc = some im := e6
  unfold cMulBits
  rw [f1, f2]
  simp only [Option.bind_some]
  rw [f5, f3, f4]
  simp only [Option.bind_some]
  rw [f6]
  rfl

/-- A scope through which the run comes back to one label, a measure falling. -/
theorem wp_scope_loop {P : Program} {a : Act} {w : World} {Q : Exit → Act → World → Prop} {c rest : Code} (l : Nat) (J : Act → World → Prop) (μ : Act → World → Nat) (hf : findLabel c l = some (Code.skip.seq rest))
    (enter : ∀ Q', (∀ a w, J a w → rest.wp P Q' a w) → c.wp P Q' a w)
    (pass : ∀ a w, J a w → rest.wp P (Exit.jump l (fun a' w' => J a' w' ∧ μ a' w' < μ a w) Q) a w) : (Code.scope c).wp P Q a w := by
  refine wp_scope_jumps l J μ hf (enter _ fun a w h => wp_mono (pass a w h) ?_) (fun a w h => wp_seq (wp_skip (pass a w h)))
  intro e a w hq
  cases e with
  | goto l' => exact ⟨hq.1, hq.2.1⟩
  | _ => exact hq

/-- The frame at the label: so many bytes are done. -/
def WriteAt (B g : Nat) (l : List UInt8) (s : ByteArray) (w0 : World) (a : Act) (w : World) : Prop :=
  ∃ (i X Y : Nat) (u6 u7 u8 u9 u10 u11 u12 u13 u14 u15 u16 u17 u18 u19 u20 u21 u22 u23 u24 u25 u26 u27 u28 u29 u30 u31 u32 u33 u34 : Value), a = { tmps := (.pointer (some ⟨g, 0, none⟩) :: .string s :: undef :: undef :: .complex .f64 X Y :: .int .i64 i :: u6 :: u7 :: u8 :: u9 :: u10 :: u11 :: u12 :: u13 :: u14 :: u15 :: u16 :: u17 :: u18 :: u19 :: u20 :: u21 :: u22 :: u23 :: u24 :: u25 :: u26 :: u27 :: u28 :: u29 :: u30 :: u31 :: u32 :: u33 :: u34 :: undef :: undef :: undef :: undef :: undef :: undef :: undef :: undef :: undef :: []).toArray, defers := [] } ∧ i ≤ s.size ∧ NumZ X Y (pr (l.length + i), pi (l.length + i)) ∧
    w.heap[g]? = some (.cells #[.complex .f64 (flt (wRe 0 (l ++ s.data.toList.take i))) (flt (wIm 0 (l ++ s.data.toList.take i))), .int .i64 l.length] 89 (0, 0)) ∧ Below B w0 w

theorem numZ_one (n : Nat) : NumZ (flt (rot (turns (n : Int)) (1, 0)).1) (flt (rot (turns (n : Int)) (1, 0)).2) (pr n, pi n) := by
  rw [turns_nat, rot_one]
  have a1 := pr_abs n
  have a2 := pi_abs n
  exact ⟨num_flt _ (by omega), num_flt _ (by omega)⟩

set_option maxHeartbeats 2000000 in
theorem write_any (B g : Nat) (l : List UInt8) (s : ByteArray) (hl : l.length + s.size ≤ 1000000000000) (w : World) (hH : IsScale g l w) (hB : B ≤ g) :
    Calls Tryd.prog 37 #[.pointer (some ⟨g, 0, none⟩), .string s] w fun e w' => e = .returned (.tuple #[]) ∧ IsScale g (l ++ s.data.toList) w' ∧ Below B w w' := by
  go_enter Tryd.func37, Tryd.ntmps37
  go_wp2
  refine wp_scope_loop 0 (WriteAt B g l s w) (fun a' _ => s.size - (intOf (a'.tmps.getD 5 undef)).toNat) rfl ?_ ?_
  · intro Q' hq
    have T := fun w => turn_yes (z := (1, 0)) ⟨num_one, num_zero⟩ (l.length : Int) w
    have hz := numZ_one l.length
    have HZ := Lib.hid hz
    have HQ := Lib.hid hq
    clear hq hz
    have c1 : w.cell? ⟨g, 1, none⟩ = some (.int .i64 l.length) := (cell_of_row w g 1 _ _ _ hH).trans rfl
    go_wp2_with fail
    refine (T _).mono ?_
    rintro e w' ⟨rfl, rfl⟩
    go_wp2
    go_step3
    rename_i K hK
    refine hK _ _ (HQ.out _ _ ⟨0, _, _, _, _, _, _, _, _, _, _, _, _, _, _, _, _, _, _, _, _, _, _, _, _, _, _, _, _, _, _, _, rfl, Nat.zero_le _, HZ.out, ?_, Below.refl _ _⟩)
    simpa [IsScale, scaleA] using hH
  · rintro a' w' ⟨i, X, Y, u6, u7, u8, u9, u10, u11, u12, u13, u14, u15, u16, u17, u18, u19, u20, u21, u22, u23, u24, u25, u26, u27, u28, u29, u30, u31, u32, u33, u34, rfl, hi, hZ, hg, hb⟩
    have hD := data_len s
    by_cases hlt : i < s.size
    · have hti := List.take_succ_eq_append_getElem (l := s.data.toList) (i := i) (by omega)
      obtain ⟨c, hc⟩ : ∃ c : UInt8, c = s.data.toList[i]'(by omega) := ⟨_, rfl⟩
      rw [← hc] at hti
      have hcs : s[i].toNat = c.toNat := by rw [hc]; rfl
      obtain ⟨re, im, hmul, hre, him⟩ := mul_byte c hZ
      have bA := wRe_abs 0 (l ++ s.data.toList.take i)
      have bB := wIm_abs 0 (l ++ s.data.toList.take i)
      have hlen : (l ++ s.data.toList.take i).length = l.length + i := by rw [List.length_append, List.length_take, hD, Nat.min_eq_left hi]
      have eA : wRe 0 (l ++ s.data.toList.take i) + (c.toNat : Int) * pr (l.length + i) = wRe 0 (l ++ s.data.toList.take (i + 1)) := by
        rw [hti, ← List.append_assoc, wRe_append 0 (l ++ s.data.toList.take i) [c], hlen, Nat.zero_add]; simp [wRe]
      have eB : wIm 0 (l ++ s.data.toList.take i) + (c.toNat : Int) * pi (l.length + i) = wIm 0 (l ++ s.data.toList.take (i + 1)) := by
        rw [hti, ← List.append_assoc, wIm_append 0 (l ++ s.data.toList.take i) [c], hlen, Nat.zero_add]; simp [wIm]
      rw [hlen] at bA bB
      have hA := flt_add (a := wRe 0 (l ++ s.data.toList.take i)) (by omega) hre
      have hB' := flt_add (a := wIm 0 (l ++ s.data.toList.take i)) (by omega) him
      rw [eA] at hA
      rw [eB] at hB'
      obtain ⟨A, hAe⟩ : ∃ A, A = flt (wRe 0 (l ++ s.data.toList.take i)) := ⟨_, rfl⟩
      obtain ⟨C, hCe⟩ : ∃ C, C = flt (wIm 0 (l ++ s.data.toList.take i)) := ⟨_, rfl⟩
      obtain ⟨A', hA'e⟩ : ∃ A, A = flt (wRe 0 (l ++ s.data.toList.take (i + 1))) := ⟨_, rfl⟩
      obtain ⟨C', hC'e⟩ : ∃ C, C = flt (wIm 0 (l ++ s.data.toList.take (i + 1))) := ⟨_, rfl⟩
      rw [← hAe] at hg hA
      rw [← hCe] at hg hB'
      rw [← hA'e] at hA
      rw [← hC'e] at hB'
      have HA' := Lib.hid hA'e
      have HC' := Lib.hid hC'e
      have hsum : cSumBits .add .f64 A C re im = some (A', C') := by unfold cSumBits; rw [hA, hB']; rfl
      have opA := fun t w => run_complex_sum (P := Tryd.prog) w .add (Or.inl rfl) t .f64 _ _ _ _ _ _ hsum
      have opM := fun t w => run_complex_mul (P := Tryd.prog) w t _ _ _ _ _ _ hmul
      rw [show flt (c.toNat : Int) = floatOfInt .f64 (s[i].toNat : Int) by rw [hcs]; rfl] at opM
      have hNX : NumZ (Op.negFloat .f64 Y) X (pr (l.length + (i + 1)), pi (l.length + (i + 1))) := by
        have := hZ.turned
        rw [← Nat.add_assoc, pr_next, pi_next]
        exact this
      have HN := Lib.hid hNX
      have c0 : w'.cell? ⟨g, 0, none⟩ = some (.complex .f64 A C) := (cell_of_row w' g 0 _ _ _ hg).trans rfl
      have f0 : w'.frozen? ⟨g, 0, none⟩ = false := frozen_of_row _ _ _ _ _ hg
      have hg2 : (w'.setCell ⟨g, 0, none⟩ (.complex .f64 A' C')).heap[g]? = some (.cells #[.complex .f64 A' C', .int .i64 l.length] 89 (0, 0)) := by
        have := heap_setCell_same w' g 0 _ _ (.complex .f64 A' C') hg
        simpa using this
      have hb2 : Below B w (w'.setCell ⟨g, 0, none⟩ (.complex .f64 A' C')).drew := (hb.setCell hB _).drew
      have HG := Lib.hid hg2
      have HB := Lib.hid hb2
      have hst := run_store Tryd.prog w'.drew ⟨g, 0, none⟩ (.complex .f64 A' C') .plain rfl
      rw [show w'.drew.cell? ⟨g, 0, none⟩ = _ from c0, show w'.drew.frozen? ⟨g, 0, none⟩ = _ from f0] at hst
      simp only [Bool.false_eq_true, if_false] at hst
      have hii : (i : Int) < s.size := by omega
      clear hsum hmul hA hB' hAe hCe hA'e hC'e eA eB bA bB hre him hZ hNX hti hc hcs hg2 hb2 hg hH hlen hD
      go_wp2
      go_region
      go_wp2_with fail
      refine (timesI_any _ _ _).mono ?_
      rintro e w2 ⟨rfl, rfl⟩
      go_wp2
      go_step3
      refine ⟨rfl, ⟨i + 1, _, _, _, _, _, _, _, _, _, _, _, _, _, _, _, _, _, _, _, _, _, _, _, _, _, _, _, _, _, _, _, rfl, by omega, HN.out, ?_, HB.out⟩, ?_⟩
      · rw [← HA'.out, ← HC'.out]; exact HG.out
      · simp [intOf]; omega
    · obtain rfl : i = s.size := by omega
      have hT : s.data.toList.take s.size = s.data.toList := List.take_of_length_le (by omega)
      rw [hT] at hg
      have c1 : w'.cell? ⟨g, 1, none⟩ = some (.int .i64 l.length) := (cell_of_row w' g 1 _ _ _ hg).trans rfl
      have f1 : w'.frozen? ⟨g, 1, none⟩ = false := frozen_of_row _ _ _ _ _ hg
      have hg2 : (w'.setCell ⟨g, 1, none⟩ (.int .i64 (l.length + s.size : Int))).heap[g]? = some (.cells (scaleA (l ++ s.data.toList)) 89 (0, 0)) := by
        have := heap_setCell_same w' g 1 _ _ (.int .i64 (l.length + s.size : Int)) hg
        simp only [scaleA, List.length_append, hD]
        simpa using this
      have hb2 : Below B w (w'.setCell ⟨g, 1, none⟩ (.int .i64 (l.length + s.size : Int))) := hb.setCell hB _
      clear hg hT hH hD
      go_wp2
      simp only [Exit.jump]
      go_end0
      exact ⟨rfl, hg2, hb2⟩

theorem new_any (w : World) :
    Calls Tryd.prog 36 #[] w fun e w' => ∃ g, e = .returned (.pointer (some ⟨g, 0, none⟩)) ∧ w.heap.size ≤ g ∧ IsScale g [] w' ∧ Below w.heap.size w w' := by
  go_enter Tryd.func36, Tryd.ntmps36
  go_wp2
  go_ret
  refine ⟨w.heap.size, rfl, Nat.le_refl _, ?_, ?_⟩
  · have e : scaleA [] = #[.complex .f64 0 0, .int .i64 0] := rfl
    rw [IsScale, e]
    exact heap_alloc_last w _
  · exact (Below.refl _ _).alloc (Nat.le_refl _) _

theorem sum_any (g : Nat) (l : List UInt8) (w : World) (hH : IsScale g l w) :
    Calls Tryd.prog 38 #[.pointer (some ⟨g, 0, none⟩)] w fun e w' => e = .returned (.complex .f64 (flt (wRe 0 l)) (flt (wIm 0 l))) ∧ w = w' := by
  have c0 : w.cell? ⟨g, 0, none⟩ = some (.complex .f64 (flt (wRe 0 l)) (flt (wIm 0 l))) := (cell_of_row w g 0 _ _ _ hH).trans rfl
  clear hH
  go_enter Tryd.func38, Tryd.ntmps38
  go_wp2
  go_ret
  exact ⟨rfl, rfl⟩

theorem write_no (s : ByteArray) (w : World) :
    Calls Tryd.prog 37 #[.pointer none, .string s] w fun e w' => e = .returned (.tuple #[]) ∧ w = w' := by
  go_enter Tryd.func37, Tryd.ntmps37
  go_wp2
  go_step3
  go_wp2
  rw [Exit.noGoto_ret]
  refine bodyPost_ret (results_none rfl _ _ _) rfl ?_
  exact ⟨rfl, rfl⟩

theorem sum_no (w : World) :
    Calls Tryd.prog 38 #[.pointer none] w fun e w' => e = .returned (.complex .f64 0 0) ∧ w = w' := by
  go_enter Tryd.func38, Tryd.ntmps38
  go_wp2
  go_ret
  exact ⟨rfl, rfl⟩

/-- The weight of a text, as a complex number. -/
def wOf (l : List UInt8) : Value := .complex .f64 (flt (wRe 0 l)) (flt (wIm 0 l))

theorem of_any (s : ByteArray) (hs : s.size ≤ 1000000000000) (w : World) :
    Calls Tryd.prog 21 #[.string s] w fun e w' => e = .returned (wOf s.data.toList) ∧ Below w.heap.size w w' := by
  go_enter Tryd.func21, Tryd.ntmps21
  go_wp2_with fail
  refine (new_any _).mono ?_
  rintro e w1 ⟨g, rfl, hg, hH, hb⟩
  have W := write_any w.heap.size g [] s (by simpa using hs) w1 hH hg
  rw [List.nil_append] at W
  clear hH
  go_wp2_with fail
  refine W.mono ?_
  rintro e w2 ⟨rfl, hH2, hb2⟩
  have hb3 := hb.trans hb2
  clear W hb hb2
  go_wp2_with fail
  refine (sum_any g s.data.toList w2 hH2).mono ?_
  rintro e w' ⟨rfl, rfl⟩
  go_wp2
  go_ret
  exact ⟨rfl, hb3⟩

end Go.Proofs.YtmobkjdncfdokaaDoor
