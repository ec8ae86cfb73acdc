/- The document's weights as two whole numbers: its Of, Turn and Join; of no program's weigh. -/
import Derived.Test.YtijdbmapdmhknaaDoorGA
import Derived.Test.YtijdbmapdmhknaaDoorRows
import Derived.Test.YtijdbmapdmhknaaDoorGC
import Derived.OwnWalk
import Derived.Deep.WholeRow
namespace Go.Proofs.YtijdbmapdmhknaaDoor
open Go.RowKit

/-- A weight as the document's own struct. -/
def wWQ (a b : Int) : Value := .agg #[.int .i64 a, .int .i64 b]
theorem infoWQ : (Tryd.prog.info? 87).map (·.size) = some 2 := by kernel_rfl
theorem infoWz : (Tryd.prog.info? 87).map (fun i => (i.zero, i.size)) = some (some (.agg #[.int .i64 0, .int .i64 0]), 2) := by kernel_rfl
def turnsQ (n : Int) : Nat := (n % 4).toNat
theorem turnsQ_lt (n : Int) : turnsQ n ≤ 3 := by unfold turnsQ; omega
theorem turnsQ_nat (n : Nat) (z : Int × Int) : rot (turnsQ (n : Int)) z = rot n z := by
  have : turnsQ (n : Int) = n % 4 := by unfold turnsQ; omega
  rw [this, rot_mod]
theorem rot_numQ {z : Int × Int} (k : Nat) (h : z.1.natAbs ≤ 2 ^ 53 ∧ z.2.natAbs ≤ 2 ^ 53) : (rot k z).1.natAbs ≤ 2 ^ 53 ∧ (rot k z).2.natAbs ≤ 2 ^ 53 := by
  have := rot_abs 9007199254740992 k z ⟨by omega, by omega⟩
  omega
/-- The sum of a weight and another one turned. -/
def joinZQ (a : Int × Int) (n : Int) (b : Int × Int) : Int × Int := (a.1 + (rot (turnsQ n) b).1, a.2 + (rot (turnsQ n) b).2)

/-- The four sums, as the loop holds them. -/
def sumsAQ (a b c d : Int) : Array Value := #[.int .i64 a, .int .i64 b, .int .i64 c, .int .i64 d]

def SumsAtQ (w : World) (l : List UInt8) (i : Nat) (wr : World) : Prop :=
  ∃ a b c d : Int, wr.heap[w.heap.size + 1]? = some (.cells (sumsAQ a b c d) 104 (0, 0)) ∧ wr.heap[w.heap.size]? = some (.cells #[.int .i64 0, .int .i64 0] 87 (0, 0)) ∧
    Below w.heap.size w wr ∧ a - c = wRe 0 (l.take i) ∧ b - d = wIm 0 (l.take i) ∧ (0 ≤ a ∧ a ≤ 255 * i) ∧ (0 ≤ b ∧ b ≤ 255 * i) ∧ (0 ≤ c ∧ c ≤ 255 * i) ∧ (0 ≤ d ∧ d ≤ 255 * i)

set_option maxHeartbeats 2000000 in
theorem rofW_any (s : ByteArray) (hs : s.size ≤ 1000000000000) (w : World) :
    Calls Tryd.prog 49 #[.string s] w fun e w' => e = .returned (wWQ (wRe 0 s.data.toList) (wIm 0 s.data.toList)) ∧ Below w.heap.size w w' := by
  have hD := data_len s
  have HD := Lib.hid hD
  clear hD
  go_enter Tryd.func49, Tryd.ntmps49
  go_wp2
  go_loopw [4] (fun x wr => ∃ (i : Nat), i ≤ s.size ∧ x = .int .i64 i ∧ SumsAtQ w s.data.toList i wr) (fun x _ => s.size - (intOf x).toNat)
  case atStart =>
    refine ⟨0, Nat.zero_le _, rfl, 0, 0, 0, 0, ?_, ?_, ?_, by simp [wRe], by simp [wIm], by omega, by omega, by omega, by omega⟩
    · exact heap_alloc2_new w _ _
    · exact heap_alloc2_old w _ _
    · exact ((Below.refl _ _).alloc (Nat.le_refl _) _).alloc (by simp) _
  case round =>
    obtain ⟨i, hi, rfl, a, b, c, d, hg, h0, hb, e1, e2, ba, bb, bc, bd⟩ := hrel
    by_cases hlt : i < s.size
    · have t1 := wRe_take s.data.toList i (by rw [HD.out]; exact hlt)
      have t2 := wIm_take s.data.toList i (by rw [HD.out]; exact hlt)
      have hcs : s[i].toNat = (s.data.toList[i]'(by rw [HD.out]; exact hlt)).toNat := rfl
      rw [← hcs] at t1 t2
      obtain ⟨q, hq⟩ : ∃ q : Nat, s[i].toNat = q := ⟨_, rfl⟩
      have hq2 : q < 256 := by rw [← hq]; exact s[i].toNat_lt
      rw [hq] at t1 t2
      have f0 := frozen_of_row wr (w.heap.size + 1) (i % 4) _ _ hg
      have c0 : wr.cell? ⟨w.heap.size + 1, 0, none⟩ = some (.int .i64 a) := (cell_of_row _ _ 0 _ _ _ hg).trans rfl
      have c1 : wr.cell? ⟨w.heap.size + 1, 1, none⟩ = some (.int .i64 b) := (cell_of_row _ _ 1 _ _ _ hg).trans rfl
      have c2 : wr.cell? ⟨w.heap.size + 1, 2, none⟩ = some (.int .i64 c) := (cell_of_row _ _ 2 _ _ _ hg).trans rfl
      have c3 : wr.cell? ⟨w.heap.size + 1, 3, none⟩ = some (.int .i64 d) := (cell_of_row _ _ 3 _ _ _ hg).trans rfl
      have hm : i % 4 = 0 ∨ i % 4 = 1 ∨ i % 4 = 2 ∨ i % 4 = 3 := by omega
      have hlt' : (i : Int) < s.size := by omega
      rcases hm with hm | hm | hm | hm
      · have hmi : (i : Int) % 4 = 0 := by omega
        rw [hm] at f0
        have p1 : pr i = 1 := by rw [pr_mod, hm]; rfl
        have p2 : pi i = 0 := by rw [pi_mod, hm]; rfl
        rw [p1] at t1
        rw [p2] at t2
        have hg2 : (wr.setCell ⟨w.heap.size + 1, 0, none⟩ (.int .i64 (a + q))).heap[w.heap.size + 1]? = some (.cells (sumsAQ (a + q) (b) (c) (d)) 104 (0, 0)) := by
          have := heap_setCell_same wr (w.heap.size + 1) 0 _ _ (.int .i64 (a + q)) hg
          simpa [sumsAQ] using this
        have h02 : (wr.setCell ⟨w.heap.size + 1, 0, none⟩ (.int .i64 (a + q))).heap[w.heap.size]? = some (.cells #[.int .i64 0, .int .i64 0] 87 (0, 0)) := by
          rw [heap_setCell_other _ _ _ _ (by show ¬ w.heap.size = w.heap.size + 1; omega)]; exact h0
        have hS : SumsAtQ w s.data.toList (i + 1) (wr.setCell ⟨w.heap.size + 1, 0, none⟩ (.int .i64 (a + q))).drew :=
          ⟨a + q, b, c, d, hg2, h02, (hb.setCell (by show w.heap.size ≤ w.heap.size + 1; omega) _).drew, by rw [t1]; omega, by rw [t2]; omega, by omega, by omega, by omega, by omega⟩
        have HS := Lib.hid hS
        clear hS hg2 h02 t1 t2 p1 p2 e1 e2 h0 hb hg hm
        go_wp2
        go_region
        go_wp2
        go_roundw
        case rel =>
          have hq' : (s.data[i]'hlt).toNat = q := hq
          rw [hq', IntWalk.wrap64_in (q : Int) (by omega), IntWalk.wrap64_in _ (by omega)]
          exact ⟨i + 1, by omega, by go_num, HS.out⟩
        case measure => simp [intOf]; omega
      · have hmi : (i : Int) % 4 = 1 := by omega
        rw [hm] at f0
        have p1 : pr i = 0 := by rw [pr_mod, hm]; rfl
        have p2 : pi i = 1 := by rw [pi_mod, hm]; rfl
        rw [p1] at t1
        rw [p2] at t2
        have hg2 : (wr.setCell ⟨w.heap.size + 1, 1, none⟩ (.int .i64 (b + q))).heap[w.heap.size + 1]? = some (.cells (sumsAQ (a) (b + q) (c) (d)) 104 (0, 0)) := by
          have := heap_setCell_same wr (w.heap.size + 1) 1 _ _ (.int .i64 (b + q)) hg
          simpa [sumsAQ] using this
        have h02 : (wr.setCell ⟨w.heap.size + 1, 1, none⟩ (.int .i64 (b + q))).heap[w.heap.size]? = some (.cells #[.int .i64 0, .int .i64 0] 87 (0, 0)) := by
          rw [heap_setCell_other _ _ _ _ (by show ¬ w.heap.size = w.heap.size + 1; omega)]; exact h0
        have hS : SumsAtQ w s.data.toList (i + 1) (wr.setCell ⟨w.heap.size + 1, 1, none⟩ (.int .i64 (b + q))).drew :=
          ⟨a, b + q, c, d, hg2, h02, (hb.setCell (by show w.heap.size ≤ w.heap.size + 1; omega) _).drew, by rw [t1]; omega, by rw [t2]; omega, by omega, by omega, by omega, by omega⟩
        have HS := Lib.hid hS
        clear hS hg2 h02 t1 t2 p1 p2 e1 e2 h0 hb hg hm
        go_wp2
        go_region
        go_wp2
        go_roundw
        case rel =>
          have hq' : (s.data[i]'hlt).toNat = q := hq
          rw [hq', IntWalk.wrap64_in (q : Int) (by omega), IntWalk.wrap64_in _ (by omega)]
          exact ⟨i + 1, by omega, by go_num, HS.out⟩
        case measure => simp [intOf]; omega
      · have hmi : (i : Int) % 4 = 2 := by omega
        rw [hm] at f0
        have p1 : pr i = -1 := by rw [pr_mod, hm]; rfl
        have p2 : pi i = 0 := by rw [pi_mod, hm]; rfl
        rw [p1] at t1
        rw [p2] at t2
        have hg2 : (wr.setCell ⟨w.heap.size + 1, 2, none⟩ (.int .i64 (c + q))).heap[w.heap.size + 1]? = some (.cells (sumsAQ (a) (b) (c + q) (d)) 104 (0, 0)) := by
          have := heap_setCell_same wr (w.heap.size + 1) 2 _ _ (.int .i64 (c + q)) hg
          simpa [sumsAQ] using this
        have h02 : (wr.setCell ⟨w.heap.size + 1, 2, none⟩ (.int .i64 (c + q))).heap[w.heap.size]? = some (.cells #[.int .i64 0, .int .i64 0] 87 (0, 0)) := by
          rw [heap_setCell_other _ _ _ _ (by show ¬ w.heap.size = w.heap.size + 1; omega)]; exact h0
        have hS : SumsAtQ w s.data.toList (i + 1) (wr.setCell ⟨w.heap.size + 1, 2, none⟩ (.int .i64 (c + q))).drew :=
          ⟨a, b, c + q, d, hg2, h02, (hb.setCell (by show w.heap.size ≤ w.heap.size + 1; omega) _).drew, by rw [t1]; omega, by rw [t2]; omega, by omega, by omega, by omega, by omega⟩
        have HS := Lib.hid hS
        clear hS hg2 h02 t1 t2 p1 p2 e1 e2 h0 hb hg hm
        go_wp2
        go_region
        go_wp2
        go_roundw
        case rel =>
          have hq' : (s.data[i]'hlt).toNat = q := hq
          rw [hq', IntWalk.wrap64_in (q : Int) (by omega), IntWalk.wrap64_in _ (by omega)]
          exact ⟨i + 1, by omega, by go_num, HS.out⟩
        case measure => simp [intOf]; omega
      · have hmi : (i : Int) % 4 = 3 := by omega
        rw [hm] at f0
        have p1 : pr i = 0 := by rw [pr_mod, hm]; rfl
        have p2 : pi i = -1 := by rw [pi_mod, hm]; rfl
        rw [p1] at t1
        rw [p2] at t2
        have hg2 : (wr.setCell ⟨w.heap.size + 1, 3, none⟩ (.int .i64 (d + q))).heap[w.heap.size + 1]? = some (.cells (sumsAQ (a) (b) (c) (d + q)) 104 (0, 0)) := by
          have := heap_setCell_same wr (w.heap.size + 1) 3 _ _ (.int .i64 (d + q)) hg
          simpa [sumsAQ] using this
        have h02 : (wr.setCell ⟨w.heap.size + 1, 3, none⟩ (.int .i64 (d + q))).heap[w.heap.size]? = some (.cells #[.int .i64 0, .int .i64 0] 87 (0, 0)) := by
          rw [heap_setCell_other _ _ _ _ (by show ¬ w.heap.size = w.heap.size + 1; omega)]; exact h0
        have hS : SumsAtQ w s.data.toList (i + 1) (wr.setCell ⟨w.heap.size + 1, 3, none⟩ (.int .i64 (d + q))).drew :=
          ⟨a, b, c, d + q, hg2, h02, (hb.setCell (by show w.heap.size ≤ w.heap.size + 1; omega) _).drew, by rw [t1]; omega, by rw [t2]; omega, by omega, by omega, by omega, by omega⟩
        have HS := Lib.hid hS
        clear hS hg2 h02 t1 t2 p1 p2 e1 e2 h0 hb hg hm
        go_wp2
        go_region
        go_wp2
        go_roundw
        case rel =>
          have hq' : (s.data[i]'hlt).toNat = q := hq
          rw [hq', IntWalk.wrap64_in (q : Int) (by omega), IntWalk.wrap64_in _ (by omega)]
          exact ⟨i + 1, by omega, by go_num, HS.out⟩
        case measure => simp [intOf]; omega
    · obtain rfl : i = s.size := by omega
      have hT : s.data.toList.take s.size = s.data.toList := List.take_of_length_le (by rw [HD.out]; omega)
      rw [hT] at e1 e2
      have c0 : wr.cell? ⟨w.heap.size + 1, 0, none⟩ = some (.int .i64 a) := (cell_of_row _ _ 0 _ _ _ hg).trans rfl
      have c1 : wr.cell? ⟨w.heap.size + 1, 1, none⟩ = some (.int .i64 b) := (cell_of_row _ _ 1 _ _ _ hg).trans rfl
      have c2 : wr.cell? ⟨w.heap.size + 1, 2, none⟩ = some (.int .i64 c) := (cell_of_row _ _ 2 _ _ _ hg).trans rfl
      have c3 : wr.cell? ⟨w.heap.size + 1, 3, none⟩ = some (.int .i64 d) := (cell_of_row _ _ 3 _ _ _ hg).trans rfl
      have r0 : wr.cell? ⟨w.heap.size, 0, none⟩ = some (.int .i64 0) := (cell_of_row _ _ 0 _ _ _ h0).trans rfl
      have r1 : wr.cell? ⟨w.heap.size, 1, none⟩ = some (.int .i64 0) := (cell_of_row _ _ 1 _ _ _ h0).trans rfl
      have fr := frozen_of_row wr (w.heap.size) 0 _ _ h0
      have fr1 := frozen_of_row wr (w.heap.size) 1 _ _ h0
      have HE1 := Lib.hid e1
      have HE2 := Lib.hid e2
      clear e1 e2 hT hlt
      have z1 := heap_setCell_same wr w.heap.size 0 _ _ (.int .i64 (a - c)) h0
      have z2 := heap_setCell_same _ w.heap.size 1 _ _ (.int .i64 (b - d)) z1
      have z3 : ((wr.setCell ⟨w.heap.size, 0, none⟩ (.int .i64 (a - c))).setCell ⟨w.heap.size, 1, none⟩ (.int .i64 (b - d))).heap[w.heap.size]? = some (.cells #[.int .i64 (a - c), .int .i64 (b - d)] 87 (0, 0)) := by simpa using z2
      have HZ := Lib.hid z3
      have hb1 : Below w.heap.size w (wr.setCell ⟨w.heap.size, 0, none⟩ (.int .i64 (a - c))) := hb.setCell (Nat.le_refl _) _
      have hb2 : Below w.heap.size w ((wr.setCell ⟨w.heap.size, 0, none⟩ (.int .i64 (a - c))).setCell ⟨w.heap.size, 1, none⟩ (.int .i64 (b - d))) := hb1.setCell (Nat.le_refl _) _
      have HB := Lib.hid hb2
      clear hb1 hb2
      clear z1 z2 z3 hb
      go_wp2
      refine bodyPost_ret (results_cell_row Tryd.results49 _ _ w.heap.size 87 #[.int .i64 (a - c), .int .i64 (b - d)] (0, 0) _ rfl HZ.out Tryd.underlying87 rfl infoWQ) rfl ⟨?_, HB.out⟩
      rw [HE1.out, HE2.out]
      rfl

/-- Where Turn is at work: the weight's own block, the result's. -/
def TurnAt (w : World) (z : Int × Int) (wr : World) : Prop :=
  wr.heap[w.heap.size]? = some (.cells #[.int .i64 z.1, .int .i64 z.2] 87 (0, 0)) ∧ wr.heap[w.heap.size + 1]? = some (.cells #[.int .i64 0, .int .i64 0] 87 (0, 0)) ∧ Below w.heap.size w wr

theorem tmod_cases (n : Int) : (0 ≤ n.tmod 4 ∧ n.tmod 4 = (turnsQ n : Int)) ∨ (n.tmod 4 < 0 ∧ n.tmod 4 + 4 = (turnsQ n : Int)) := by
  unfold turnsQ
  rcases Int.lt_or_le n 0 with c | c
  · obtain ⟨m, rfl⟩ : ∃ m : Nat, n = -(m : Int) := ⟨n.natAbs, by omega⟩
    rw [Int.neg_tmod]
    have : ((m : Int).tmod 4) = ((m % 4 : Nat) : Int) := rfl
    rw [this]
    omega
  · obtain ⟨m, rfl⟩ := Int.eq_ofNat_of_zero_le c
    have : ((m : Int).tmod 4) = ((m % 4 : Nat) : Int) := rfl
    rw [this]
    omega

set_option maxHeartbeats 2000000 in
theorem rturn_any (a b : Int) (ha : a.natAbs ≤ 2 ^ 53) (hb : b.natAbs ≤ 2 ^ 53) (n : Int) (w : World) :
    Calls Tryd.prog 70 #[wWQ a b, .int .i64 n] w fun e w' => e = .returned (wWQ (rot (turnsQ n) (a, b)).1 (rot (turnsQ n) (a, b)).2) ∧ Below w.heap.size w w' := by
  unfold wWQ
  have hab := fun k => rot_numQ (z := (a, b)) k ⟨ha, hb⟩
  have hm3 := turnsQ_lt n
  have hc := tmod_cases n
  obtain ⟨m, hm⟩ : ∃ m, m = turnsQ n := ⟨_, rfl⟩
  rw [← hm] at hc hm3 ⊢
  obtain ⟨q, hq⟩ : ∃ q, n.tmod 4 = q := ⟨_, rfl⟩
  rw [hq] at hc
  have HAB := Lib.hid hab
  clear hm hab ha hb
  have main : ∀ (q : Int), n.tmod 4 = q → (0 ≤ q ∧ q = (m : Int)) ∨ (q < 0 ∧ q + 4 = (m : Int)) →
      Calls Tryd.prog 70 #[.agg #[.int .i64 a, .int .i64 b], .int .i64 n] w fun e w' => e = .returned (.agg #[.int .i64 (rot m (a, b)).1, .int .i64 (rot m (a, b)).2]) ∧ Below w.heap.size w w' := by
    clear hq hc q
    intro q hq hc
    rcases hc with ⟨c1, rfl⟩ | ⟨c1, c2⟩
    all_goals
      go_enter Tryd.func70, Tryd.ntmps70
      go_wp2
      go_loopw [1] (fun x wr => ∃ (k : Nat), k ≤ m ∧ x = .int .i64 ((m : Int) - k) ∧ TurnAt w (rot k (a, b)) wr) (fun x _ => (intOf x).toNat)
      case atStart =>
        refine ⟨0, Nat.zero_le _, by simp, ?_, ?_, ?_⟩
        · exact heap_alloc2_old w _ _
        · exact heap_alloc2_new w _ _
        · exact ((Below.refl _ _).alloc (Nat.le_refl _) _).alloc (by simp) _
      case round =>
        obtain ⟨k, hk, rfl, hg, h0, hbl⟩ := hrel
        have hz := HAB.out k
        have hsu := rot_succ k (a, b)
        obtain ⟨z, hz'⟩ : ∃ z, z = rot k (a, b) := ⟨_, rfl⟩
        rw [← hz'] at hg hz hsu
        have HZ := Lib.hid hz'
        have HSU := Lib.hid hsu
        clear hz' hsu
        obtain ⟨u, v⟩ := z
        simp only at hg hz
        have c0 : wr.cell? ⟨w.heap.size, 0, none⟩ = some (.int .i64 u) := (cell_of_row _ _ 0 _ _ _ hg).trans rfl
        have d0 : wr.cell? ⟨w.heap.size, 1, none⟩ = some (.int .i64 v) := (cell_of_row _ _ 1 _ _ _ hg).trans rfl
        have f0 := frozen_of_row wr w.heap.size 0 _ _ hg
        have f1 := frozen_of_row wr w.heap.size 1 _ _ hg
        have hz1 : -9007199254740992 ≤ u ∧ u ≤ 9007199254740992 := by omega
        have hz2 : -9007199254740992 ≤ v ∧ v ≤ 9007199254740992 := by omega
        by_cases hlt : k < m
        · have hpos : (0 : Int) < (m : Int) - k := by omega
          have z1 := heap_setCell_same wr w.heap.size 0 _ _ (.int .i64 (-v)) hg
          have z2 := heap_setCell_same _ w.heap.size 1 _ _ (.int .i64 u) z1
          have z3 : ((wr.setCell ⟨w.heap.size, 0, none⟩ (.int .i64 (-v))).setCell ⟨w.heap.size, 1, none⟩ (.int .i64 u)).heap[w.heap.size]? = some (.cells #[.int .i64 (-v), .int .i64 u] 87 (0, 0)) := by simpa using z2
          have z4 : ((wr.setCell ⟨w.heap.size, 0, none⟩ (.int .i64 (-v))).setCell ⟨w.heap.size, 1, none⟩ (.int .i64 u)).heap[w.heap.size + 1]? = some (.cells #[.int .i64 0, .int .i64 0] 87 (0, 0)) := by
            rw [heap_setCell_other _ _ _ _ (by show ¬ w.heap.size + 1 = w.heap.size; omega), heap_setCell_other _ _ _ _ (by show ¬ w.heap.size + 1 = w.heap.size; omega)]
            exact h0
          have b1 : Below w.heap.size w (wr.setCell ⟨w.heap.size, 0, none⟩ (.int .i64 (-v))) := hbl.setCell (Nat.le_refl _) _
          have b2 : Below w.heap.size w ((wr.setCell ⟨w.heap.size, 0, none⟩ (.int .i64 (-v))).setCell ⟨w.heap.size, 1, none⟩ (.int .i64 u)) := b1.setCell (Nat.le_refl _) _
          have HN : Hid (TurnAt w (rot (k + 1) (a, b)) ((wr.setCell ⟨w.heap.size, 0, none⟩ (.int .i64 (-v))).setCell ⟨w.heap.size, 1, none⟩ (.int .i64 u))) := by
            rw [HSU.out]
            exact ⟨z3, z4, b2⟩
          clear z1 z2 z3 z4 b1 b2 hg h0 hbl hz
          go_wp2
          go_roundw
          case rel => exact ⟨k + 1, by omega, by congr 1; omega, HN.out⟩
          case measure => simp [intOf]; omega
        · obtain rfl : k = m := by omega
          have e0 : wr.cell? ⟨w.heap.size + 1, 0, none⟩ = some (.int .i64 0) := (cell_of_row _ _ 0 _ _ _ h0).trans rfl
          have e1 : wr.cell? ⟨w.heap.size + 1, 1, none⟩ = some (.int .i64 0) := (cell_of_row _ _ 1 _ _ _ h0).trans rfl
          have g0 := frozen_of_row wr (w.heap.size + 1) 0 _ _ h0
          have g1 := frozen_of_row wr (w.heap.size + 1) 1 _ _ h0
          have z1 := heap_setCell_same wr (w.heap.size + 1) 0 _ _ (.int .i64 u) h0
          have z2 := heap_setCell_same _ (w.heap.size + 1) 1 _ _ (.int .i64 v) z1
          have z3 : ((wr.setCell ⟨w.heap.size + 1, 0, none⟩ (.int .i64 u)).setCell ⟨w.heap.size + 1, 1, none⟩ (.int .i64 v)).heap[w.heap.size + 1]? = some (.cells #[.int .i64 u, .int .i64 v] 87 (0, 0)) := by simpa using z2
          have b1 : Below w.heap.size w (wr.setCell ⟨w.heap.size + 1, 0, none⟩ (.int .i64 u)) := hbl.setCell (by show w.heap.size ≤ w.heap.size + 1; omega) _
          have b2 : Below w.heap.size w ((wr.setCell ⟨w.heap.size + 1, 0, none⟩ (.int .i64 u)).setCell ⟨w.heap.size + 1, 1, none⟩ (.int .i64 v)) := b1.setCell (by show w.heap.size ≤ w.heap.size + 1; omega) _
          have HG := Lib.hid z3
          have HB := Lib.hid b2
          have HG0 := Lib.hid hg
          have hk0 : ¬ ((0 : Int) < (k : Int) - k) := by omega
          clear z1 z2 z3 b1 b2 h0 hbl hlt hz hg
          go_wp2
          refine bodyPost_ret (results_cell_row Tryd.results70 _ _ (w.heap.size + 1) 87 #[.int .i64 u, .int .i64 v] (0, 0) _ rfl HG.out Tryd.underlying87 rfl infoWQ) rfl ⟨?_, HB.out⟩
          rw [← HZ.out]
  exact main q hq hc

set_option maxHeartbeats 1000000 in
theorem rjoinW_any (a b : Int × Int) (ha : a.1.natAbs ≤ 2 ^ 53 ∧ a.2.natAbs ≤ 2 ^ 53) (hb : b.1.natAbs ≤ 2 ^ 53 ∧ b.2.natAbs ≤ 2 ^ 53) (n : Int) (w : World) :
    Calls Tryd.prog 51 #[wWQ a.1 a.2, .int .i64 n, wWQ b.1 b.2] w fun e w' => e = .returned (wWQ (joinZQ a n b).1 (joinZQ a n b).2) ∧ Below w.heap.size w w' := by
  have T := rturn_any b.1 b.2 hb.1 hb.2 n
  have hr := rot_numQ (turnsQ n) hb
  unfold joinZQ
  obtain ⟨t, ht⟩ : ∃ t, t = rot (turnsQ n) b := ⟨_, rfl⟩
  have e : (b.1, b.2) = b := rfl
  rw [e, ← ht] at T
  rw [← ht] at hr ⊢
  unfold wWQ at T ⊢
  obtain ⟨a1, a2⟩ := a
  obtain ⟨b1, b2⟩ := b
  obtain ⟨t1, t2⟩ := t
  simp only at T hr ha hb ⊢
  clear e ht
  go_enter Tryd.func51, Tryd.ntmps51
  go_wp2_with fail
  refine (T _).mono ?_
  obtain ⟨W3, hW3⟩ : ∃ W3, W3 = (((w.alloc (.cells #[.int .i64 a1, .int .i64 a2] 87)).alloc (.cells #[.int .i64 b1, .int .i64 b2] 87)).alloc (.cells #[.int .i64 0, .int .i64 0] 87)) := ⟨_, rfl⟩
  have s3 : W3.heap.size = w.heap.size + 3 := by rw [hW3]; simp
  have g0 : W3.heap[w.heap.size]? = some (.cells #[.int .i64 a1, .int .i64 a2] 87 (0, 0)) := by
    rw [hW3]
    exact (Below.heap_alloc _ _ _ (by simp; omega)).trans (heap_alloc2_old w _ _)
  have g2 : W3.heap[w.heap.size + 1 + 1]? = some (.cells #[.int .i64 0, .int .i64 0] 87 (0, 0)) := by
    rw [hW3]
    have := heap_alloc2_new (w.alloc (.cells #[.int .i64 a1, .int .i64 a2] 87)) (.cells #[.int .i64 b1, .int .i64 b2] 87) (.cells #[.int .i64 0, .int .i64 0] 87)
    simpa using this
  have K3 : Below w.heap.size w W3 := by
    rw [hW3]
    exact (((Below.refl _ _).alloc (Nat.le_refl _) _).alloc (by simp) _).alloc (by simp; omega) _
  rw [← hW3]
  clear hW3 T
  rintro e w5 ⟨rfl, hb5⟩
  have K5 := Below.then' K3 hb5 K3.size
  have g0' := (hb5.block _ (by omega)).trans g0
  have g2' := (hb5.block _ (by omega)).trans g2
  have s5 := hb5.size
  clear g0 g2 K3 hb5
  obtain ⟨Z, hZ⟩ : ∃ Z, Z = w5.alloc (.cells #[.int .i64 t1, .int .i64 t2] 87) := ⟨_, rfl⟩
  have z0 : Z.heap[w.heap.size]? = some (.cells #[.int .i64 a1, .int .i64 a2] 87 (0, 0)) := by
    rw [hZ]; exact (Below.heap_alloc _ _ _ (by omega)).trans g0'
  have z2 : Z.heap[w.heap.size + 1 + 1]? = some (.cells #[.int .i64 0, .int .i64 0] 87 (0, 0)) := by
    rw [hZ]; exact (Below.heap_alloc _ _ _ (by omega)).trans g2'
  have z5 : Z.heap[w5.heap.size]? = some (.cells #[.int .i64 t1, .int .i64 t2] 87 (0, 0)) := by
    rw [hZ]; exact heap_alloc_last w5 _
  have KZ : Below w.heap.size w Z := by rw [hZ]; exact K5.alloc K5.size _
  have c0 : Z.cell? ⟨w.heap.size, 0, none⟩ = some (.int .i64 a1) := (cell_of_row _ _ 0 _ _ _ z0).trans rfl
  have c1 : Z.cell? ⟨w.heap.size, 1, none⟩ = some (.int .i64 a2) := (cell_of_row _ _ 1 _ _ _ z0).trans rfl
  have c2 : Z.cell? ⟨w5.heap.size, 0, none⟩ = some (.int .i64 t1) := (cell_of_row _ _ 0 _ _ _ z5).trans rfl
  have c3 : Z.cell? ⟨w5.heap.size, 1, none⟩ = some (.int .i64 t2) := (cell_of_row _ _ 1 _ _ _ z5).trans rfl
  have c4 : Z.cell? ⟨w.heap.size + 1 + 1, 0, none⟩ = some (.int .i64 0) := (cell_of_row _ _ 0 _ _ _ z2).trans rfl
  have c5 : Z.cell? ⟨w.heap.size + 1 + 1, 1, none⟩ = some (.int .i64 0) := (cell_of_row _ _ 1 _ _ _ z2).trans rfl
  have f4 := frozen_of_row Z (w.heap.size + 1 + 1) 0 _ _ z2
  have f5 := frozen_of_row Z (w.heap.size + 1 + 1) 1 _ _ z2
  have y1 := heap_setCell_same Z (w.heap.size + 1 + 1) 0 _ _ (.int .i64 (a1 + t1)) z2
  have y2 := heap_setCell_same _ (w.heap.size + 1 + 1) 1 _ _ (.int .i64 (a2 + t2)) y1
  have y3 : ((Z.setCell ⟨w.heap.size + 1 + 1, 0, none⟩ (.int .i64 (a1 + t1))).setCell ⟨w.heap.size + 1 + 1, 1, none⟩ (.int .i64 (a2 + t2))).heap[w.heap.size + 1 + 1]? = some (.cells #[.int .i64 (a1 + t1), .int .i64 (a2 + t2)] 87 (0, 0)) := by simpa using y2
  have q1 : Below w.heap.size w (Z.setCell ⟨w.heap.size + 1 + 1, 0, none⟩ (.int .i64 (a1 + t1))) := KZ.setCell (by show w.heap.size ≤ w.heap.size + 1 + 1; omega) _
  have q2 : Below w.heap.size w ((Z.setCell ⟨w.heap.size + 1 + 1, 0, none⟩ (.int .i64 (a1 + t1))).setCell ⟨w.heap.size + 1 + 1, 1, none⟩ (.int .i64 (a2 + t2))) := q1.setCell (by show w.heap.size ≤ w.heap.size + 1 + 1; omega) _
  have HY := Lib.hid y3
  have HB := Lib.hid q2
  have bb : -9007199254740992 ≤ a1 ∧ a1 ≤ 9007199254740992 := by omega
  have bb2 : -9007199254740992 ≤ a2 ∧ a2 ≤ 9007199254740992 := by omega
  have bb3 : -9007199254740992 ≤ t1 ∧ t1 ≤ 9007199254740992 := by omega
  have bb4 : -9007199254740992 ≤ t2 ∧ t2 ≤ 9007199254740992 := by omega
  clear y1 y2 y3 q1 q2 z0 z2 z5 KZ g0' g2' K5 s5 s3 hr ha hb
  subst hZ
  go_wp2
  refine bodyPost_ret (results_cell_row Tryd.results51 _ _ (w.heap.size + 1 + 1) 87 #[.int .i64 (a1 + t1), .int .i64 (a2 + t2)] (0, 0) _ rfl HY.out Tryd.underlying87 rfl infoWQ) rfl ⟨rfl, HB.out⟩

end Go.Proofs.YtijdbmapdmhknaaDoor
