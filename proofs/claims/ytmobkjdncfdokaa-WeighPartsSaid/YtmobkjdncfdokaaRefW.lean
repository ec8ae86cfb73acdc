/- The walks of the document's weights: Of, Turn, Join, Whole, May; of num and parts. -/
import Derived.Test.YtmobkjdncfdokaaScale
namespace Go.Proofs.Ytmobkjdncfdokaa
open Go.RowKit
open Ieee (Datum Format signed double)

/-- A weight as the document's own struct. -/
def wW (a b : Int) : Value := .agg #[.int .i64 a, .int .i64 b]

theorem infoW : (Try.prog.info? 28).map (·.size) = some 2 := by kernel_rfl

theorem num_any (a b : Int) (w : World) :
    Calls Try.prog 10 #[wW a b] w fun e w' => e = .returned (.complex .f64 (flt a) (flt b)) ∧ Below w.heap.size w w' := by
  unfold wW
  go_enter Try.func10, Try.ntmps10
  go_wp2
  go_ret
  refine ⟨rfl, ?_⟩
  exact (Below.refl _ _).alloc (Nat.le_refl _) _

/-- The four sums, as the loop holds them. -/
def sumsA (a b c d : Int) : Array Value := #[.int .i64 a, .int .i64 b, .int .i64 c, .int .i64 d]

def SumsAt (w : World) (l : List UInt8) (i : Nat) (wr : World) : Prop :=
  ∃ a b c d : Int, wr.heap[w.heap.size + 1]? = some (.cells (sumsA a b c d) 59 (0, 0)) ∧ wr.heap[w.heap.size]? = some (.cells #[.int .i64 0, .int .i64 0] 28 (0, 0)) ∧
    Below w.heap.size w wr ∧ a - c = wRe 0 (l.take i) ∧ b - d = wIm 0 (l.take i) ∧ (0 ≤ a ∧ a ≤ 255 * i) ∧ (0 ≤ b ∧ b ≤ 255 * i) ∧ (0 ≤ c ∧ c ≤ 255 * i) ∧ (0 ≤ d ∧ d ≤ 255 * i)

set_option maxHeartbeats 2000000 in
theorem rof_any (s : ByteArray) (hs : s.size ≤ 1000000000000) (w : World) :
    Calls Try.prog 11 #[.string s] w fun e w' => e = .returned (wW (wRe 0 s.data.toList) (wIm 0 s.data.toList)) ∧ Below w.heap.size w w' := by
  have hD := data_len s
  have HD := Lib.hid hD
  clear hD
  go_enter Try.func11, Try.ntmps11
  go_wp2
  go_loopw [4] (fun x wr => ∃ (i : Nat), i ≤ s.size ∧ x = .int .i64 i ∧ SumsAt w s.data.toList i wr) (fun x _ => s.size - (intOf x).toNat)
  case atStart =>
    refine ⟨0, Nat.zero_le _, rfl, 0, 0, 0, 0, ?_, ?_, ?_, by simp [wRe], by simp [wIm], by omega, by omega, by omega, by omega⟩
    · exact heap_alloc2_new w _ _
    · exact heap_alloc2_old w _ _
    · exact ((Below.refl _ _).alloc (Nat.le_refl _) _).alloc (by simp) _
  case round =>
    obtain ⟨i, hi, rfl, a, b, c, d, hg, h0, hb, e1, e2, ba, bb, bc, bd⟩ := hrel
    by_cases hlt : i < s.size
    · have t1 := wRe_take s.data.toList i (by rw [HD.out]; exact hlt)
      have t2 := wIm_take s.data.toList i (by rw [HD.out]; exact hlt)
      have hcs : s[i].toNat = (s.data.toList[i]'(by rw [HD.out]; exact hlt)).toNat := rfl
      rw [← hcs] at t1 t2
      obtain ⟨q, hq⟩ : ∃ q : Nat, s[i].toNat = q := ⟨_, rfl⟩
      have hq2 : q < 256 := by rw [← hq]; exact s[i].toNat_lt
      rw [hq] at t1 t2
      have f0 := frozen_of_row wr (w.heap.size + 1) (i % 4) _ _ hg
      have c0 : wr.cell? ⟨w.heap.size + 1, 0, none⟩ = some (.int .i64 a) := (cell_of_row _ _ 0 _ _ _ hg).trans rfl
      have c1 : wr.cell? ⟨w.heap.size + 1, 1, none⟩ = some (.int .i64 b) := (cell_of_row _ _ 1 _ _ _ hg).trans rfl
      have c2 : wr.cell? ⟨w.heap.size + 1, 2, none⟩ = some (.int .i64 c) := (cell_of_row _ _ 2 _ _ _ hg).trans rfl
      have c3 : wr.cell? ⟨w.heap.size + 1, 3, none⟩ = some (.int .i64 d) := (cell_of_row _ _ 3 _ _ _ hg).trans rfl
      have hm : i % 4 = 0 ∨ i % 4 = 1 ∨ i % 4 = 2 ∨ i % 4 = 3 := by omega
      have hlt' : (i : Int) < s.size := by omega
      rcases hm with hm | hm | hm | hm
      · have hmi : (i : Int) % 4 = 0 := by omega
        rw [hm] at f0
        have p1 : pr i = 1 := by rw [pr_mod, hm]; rfl
        have p2 : pi i = 0 := by rw [pi_mod, hm]; rfl
        rw [p1] at t1
        rw [p2] at t2
        have hg2 : (wr.setCell ⟨w.heap.size + 1, 0, none⟩ (.int .i64 (a + q))).heap[w.heap.size + 1]? = some (.cells (sumsA (a + q) (b) (c) (d)) 59 (0, 0)) := by
          have := heap_setCell_same wr (w.heap.size + 1) 0 _ _ (.int .i64 (a + q)) hg
          simpa [sumsA] using this
        have h02 : (wr.setCell ⟨w.heap.size + 1, 0, none⟩ (.int .i64 (a + q))).heap[w.heap.size]? = some (.cells #[.int .i64 0, .int .i64 0] 28 (0, 0)) := by
          rw [heap_setCell_other _ _ _ _ (by show ¬ w.heap.size = w.heap.size + 1; omega)]; exact h0
        have hS : SumsAt w s.data.toList (i + 1) (wr.setCell ⟨w.heap.size + 1, 0, none⟩ (.int .i64 (a + q))).drew :=
          ⟨a + q, b, c, d, hg2, h02, (hb.setCell (by show w.heap.size ≤ w.heap.size + 1; omega) _).drew, by rw [t1]; omega, by rw [t2]; omega, by omega, by omega, by omega, by omega⟩
        have HS := Lib.hid hS
        clear hS hg2 h02 t1 t2 p1 p2 e1 e2 h0 hb hg hm
        go_wp2
        go_region
        go_wp2
        go_roundw
        case rel =>
          have hq' : (s.data[i]'hlt).toNat = q := hq
          rw [hq', IntWalk.wrap64_in (q : Int) (by omega), IntWalk.wrap64_in _ (by omega)]
          exact ⟨i + 1, by omega, by go_num, HS.out⟩
        case measure => simp [intOf]; omega
      · have hmi : (i : Int) % 4 = 1 := by omega
        rw [hm] at f0
        have p1 : pr i = 0 := by rw [pr_mod, hm]; rfl
        have p2 : pi i = 1 := by rw [pi_mod, hm]; rfl
        rw [p1] at t1
        rw [p2] at t2
        have hg2 : (wr.setCell ⟨w.heap.size + 1, 1, none⟩ (.int .i64 (b + q))).heap[w.heap.size + 1]? = some (.cells (sumsA (a) (b + q) (c) (d)) 59 (0, 0)) := by
          have := heap_setCell_same wr (w.heap.size + 1) 1 _ _ (.int .i64 (b + q)) hg
          simpa [sumsA] using this
        have h02 : (wr.setCell ⟨w.heap.size + 1, 1, none⟩ (.int .i64 (b + q))).heap[w.heap.size]? = some (.cells #[.int .i64 0, .int .i64 0] 28 (0, 0)) := by
          rw [heap_setCell_other _ _ _ _ (by show ¬ w.heap.size = w.heap.size + 1; omega)]; exact h0
        have hS : SumsAt w s.data.toList (i + 1) (wr.setCell ⟨w.heap.size + 1, 1, none⟩ (.int .i64 (b + q))).drew :=
          ⟨a, b + q, c, d, hg2, h02, (hb.setCell (by show w.heap.size ≤ w.heap.size + 1; omega) _).drew, by rw [t1]; omega, by rw [t2]; omega, by omega, by omega, by omega, by omega⟩
        have HS := Lib.hid hS
        clear hS hg2 h02 t1 t2 p1 p2 e1 e2 h0 hb hg hm
        go_wp2
        go_region
        go_wp2
        go_roundw
        case rel =>
          have hq' : (s.data[i]'hlt).toNat = q := hq
          rw [hq', IntWalk.wrap64_in (q : Int) (by omega), IntWalk.wrap64_in _ (by omega)]
          exact ⟨i + 1, by omega, by go_num, HS.out⟩
        case measure => simp [intOf]; omega
      · have hmi : (i : Int) % 4 = 2 := by omega
        rw [hm] at f0
        have p1 : pr i = -1 := by rw [pr_mod, hm]; rfl
        have p2 : pi i = 0 := by rw [pi_mod, hm]; rfl
        rw [p1] at t1
        rw [p2] at t2
        have hg2 : (wr.setCell ⟨w.heap.size + 1, 2, none⟩ (.int .i64 (c + q))).heap[w.heap.size + 1]? = some (.cells (sumsA (a) (b) (c + q) (d)) 59 (0, 0)) := by
          have := heap_setCell_same wr (w.heap.size + 1) 2 _ _ (.int .i64 (c + q)) hg
          simpa [sumsA] using this
        have h02 : (wr.setCell ⟨w.heap.size + 1, 2, none⟩ (.int .i64 (c + q))).heap[w.heap.size]? = some (.cells #[.int .i64 0, .int .i64 0] 28 (0, 0)) := by
          rw [heap_setCell_other _ _ _ _ (by show ¬ w.heap.size = w.heap.size + 1; omega)]; exact h0
        have hS : SumsAt w s.data.toList (i + 1) (wr.setCell ⟨w.heap.size + 1, 2, none⟩ (.int .i64 (c + q))).drew :=
          ⟨a, b, c + q, d, hg2, h02, (hb.setCell (by show w.heap.size ≤ w.heap.size + 1; omega) _).drew, by rw [t1]; omega, by rw [t2]; omega, by omega, by omega, by omega, by omega⟩
        have HS := Lib.hid hS
        clear hS hg2 h02 t1 t2 p1 p2 e1 e2 h0 hb hg hm
        go_wp2
        go_region
        go_wp2
        go_roundw
        case rel =>
          have hq' : (s.data[i]'hlt).toNat = q := hq
          rw [hq', IntWalk.wrap64_in (q : Int) (by omega), IntWalk.wrap64_in _ (by omega)]
          exact ⟨i + 1, by omega, by go_num, HS.out⟩
        case measure => simp [intOf]; omega
      · have hmi : (i : Int) % 4 = 3 := by omega
        rw [hm] at f0
        have p1 : pr i = 0 := by rw [pr_mod, hm]; rfl
        have p2 : pi i = -1 := by rw [pi_mod, hm]; rfl
        rw [p1] at t1
        rw [p2] at t2
        have hg2 : (wr.setCell ⟨w.heap.size + 1, 3, none⟩ (.int .i64 (d + q))).heap[w.heap.size + 1]? = some (.cells (sumsA (a) (b) (c) (d + q)) 59 (0, 0)) := by
          have := heap_setCell_same wr (w.heap.size + 1) 3 _ _ (.int .i64 (d + q)) hg
          simpa [sumsA] using this
        have h02 : (wr.setCell ⟨w.heap.size + 1, 3, none⟩ (.int .i64 (d + q))).heap[w.heap.size]? = some (.cells #[.int .i64 0, .int .i64 0] 28 (0, 0)) := by
          rw [heap_setCell_other _ _ _ _ (by show ¬ w.heap.size = w.heap.size + 1; omega)]; exact h0
        have hS : SumsAt w s.data.toList (i + 1) (wr.setCell ⟨w.heap.size + 1, 3, none⟩ (.int .i64 (d + q))).drew :=
          ⟨a, b, c, d + q, hg2, h02, (hb.setCell (by show w.heap.size ≤ w.heap.size + 1; omega) _).drew, by rw [t1]; omega, by rw [t2]; omega, by omega, by omega, by omega, by omega⟩
        have HS := Lib.hid hS
        clear hS hg2 h02 t1 t2 p1 p2 e1 e2 h0 hb hg hm
        go_wp2
        go_region
        go_wp2
        go_roundw
        case rel =>
          have hq' : (s.data[i]'hlt).toNat = q := hq
          rw [hq', IntWalk.wrap64_in (q : Int) (by omega), IntWalk.wrap64_in _ (by omega)]
          exact ⟨i + 1, by omega, by go_num, HS.out⟩
        case measure => simp [intOf]; omega
    · obtain rfl : i = s.size := by omega
      have hT : s.data.toList.take s.size = s.data.toList := List.take_of_length_le (by rw [HD.out]; omega)
      rw [hT] at e1 e2
      have c0 : wr.cell? ⟨w.heap.size + 1, 0, none⟩ = some (.int .i64 a) := (cell_of_row _ _ 0 _ _ _ hg).trans rfl
      have c1 : wr.cell? ⟨w.heap.size + 1, 1, none⟩ = some (.int .i64 b) := (cell_of_row _ _ 1 _ _ _ hg).trans rfl
      have c2 : wr.cell? ⟨w.heap.size + 1, 2, none⟩ = some (.int .i64 c) := (cell_of_row _ _ 2 _ _ _ hg).trans rfl
      have c3 : wr.cell? ⟨w.heap.size + 1, 3, none⟩ = some (.int .i64 d) := (cell_of_row _ _ 3 _ _ _ hg).trans rfl
      have r0 : wr.cell? ⟨w.heap.size, 0, none⟩ = some (.int .i64 0) := (cell_of_row _ _ 0 _ _ _ h0).trans rfl
      have r1 : wr.cell? ⟨w.heap.size, 1, none⟩ = some (.int .i64 0) := (cell_of_row _ _ 1 _ _ _ h0).trans rfl
      have fr := frozen_of_row wr (w.heap.size) 0 _ _ h0
      have fr1 := frozen_of_row wr (w.heap.size) 1 _ _ h0
      have HE1 := Lib.hid e1
      have HE2 := Lib.hid e2
      clear e1 e2 hT hlt
      have z1 := heap_setCell_same wr w.heap.size 0 _ _ (.int .i64 (a - c)) h0
      have z2 := heap_setCell_same _ w.heap.size 1 _ _ (.int .i64 (b - d)) z1
      have z3 : ((wr.setCell ⟨w.heap.size, 0, none⟩ (.int .i64 (a - c))).setCell ⟨w.heap.size, 1, none⟩ (.int .i64 (b - d))).heap[w.heap.size]? = some (.cells #[.int .i64 (a - c), .int .i64 (b - d)] 28 (0, 0)) := by simpa using z2
      have HZ := Lib.hid z3
      have hb1 : Below w.heap.size w (wr.setCell ⟨w.heap.size, 0, none⟩ (.int .i64 (a - c))) := hb.setCell (Nat.le_refl _) _
      have hb2 : Below w.heap.size w ((wr.setCell ⟨w.heap.size, 0, none⟩ (.int .i64 (a - c))).setCell ⟨w.heap.size, 1, none⟩ (.int .i64 (b - d))) := hb1.setCell (Nat.le_refl _) _
      have HB := Lib.hid hb2
      clear hb1 hb2
      clear z1 z2 z3 hb
      go_wp2
      refine bodyPost_ret (results_cell_row Try.results11 _ _ w.heap.size 28 #[.int .i64 (a - c), .int .i64 (b - d)] (0, 0) _ rfl HZ.out Try.underlying28 rfl infoW) rfl ⟨?_, HB.out⟩
      rw [HE1.out, HE2.out]
      rfl

end Go.Proofs.Ytmobkjdncfdokaa
