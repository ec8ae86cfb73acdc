/- The walks of parts, and of the document's Turn, Join, May; of Make, Parts. -/
import Derived.Test.YtmobkjdncfdokaaRefW3
namespace Go.Proofs.Ytmobkjdncfdokaa
open Go.RowKit
open Ieee (Datum Format signed double)

theorem results_cell_tmp_row {P : Program} {fn : Func} {p u : Tmp} {ty : TypeId} (h : fn.results = #[.cell p ty, .tmp u]) (tmps : Array Value) (w : World) (g : Nat) (t : TypeId) (cs : Array Value) (fr : Nat × Nat) (d : TypeDesc)
    (hp : tmps.getD p undef = .pointer (some ⟨g, 0, none⟩)) (hg : w.heap[g]? = some (.cells cs t fr))
    (hu : P.underlying ty = some d) (hd : (match d with | .struct _ | .array _ _ => true | _ => false) = true) (hi : (P.info? ty).map (·.size) = some cs.size) :
    (results fn tmps).run P w = .ok (.tuple #[.agg cs, tmps.getD u undef]) w := by
  rw [results_cell_tmp h, hp]
  simp [asAddr, run_loadVar_row w g t ty cs fr d hg hu hd hi, Result.andThen]

theorem parts_yes {x y : Nat} {a b : Int} (hx : Num x a) (hy : Num y b) (w : World) :
    Calls Try.prog 15 #[.complex .f64 x y] w fun e w' => e = .returned (.tuple #[wW a b, .bool true]) ∧ Below w.heap.size w w' := by
  have W1 := whole_yes hx
  have W2 := whole_yes hy
  clear hx hy
  go_enter Try.func15, Try.ntmps15
  go_wp2_with fail
  refine (W1 _).mono ?_
  rintro e w' ⟨rfl, rfl⟩
  go_wp2_with fail
  refine (W2 _).mono ?_
  rintro e w' ⟨rfl, rfl⟩
  go_wp2
  refine bodyPost_ret (results_cell_tmp_row Try.results15 _ _ w.heap.size 28 #[.int .i64 a, .int .i64 b] (0, 0) _ rfl (heap_alloc_last w _) Try.underlying28 rfl infoW) rfl ⟨rfl, ?_⟩
  exact (Below.refl _ _).alloc (Nat.le_refl _) _

theorem parts_no {x y : Nat} (hx : x < 2 ^ 64) (hy : y < 2 ^ 64) (h : ¬ IsZ x y) (w : World) :
    Calls Try.prog 15 #[.complex .f64 x y] w fun e w' => e = .returned (.tuple #[wW 0 0, .bool false]) ∧ Below w.heap.size w w' := by
  have done : ∀ (r s : Int) (p q : Bool), (p = false ∨ q = false) → (∀ w, Calls Try.prog 28 #[.float .f64 x] w fun e w' => e = .returned (.tuple #[.int .i64 r, .bool p]) ∧ w = w') →
      (∀ w, Calls Try.prog 28 #[.float .f64 y] w fun e w' => e = .returned (.tuple #[.int .i64 s, .bool q]) ∧ w = w') →
      Calls Try.prog 15 #[.complex .f64 x y] w fun e w' => e = .returned (.tuple #[wW 0 0, .bool false]) ∧ Below w.heap.size w w' := by
    intro r s p q hpq W1 W2
    clear h hx hy
    cases p <;> cases q
    case true.true => simp at hpq
    all_goals
      clear hpq
      go_enter Try.func15, Try.ntmps15
      go_wp2_with fail
      refine (W1 _).mono ?_
      rintro e w' ⟨rfl, rfl⟩
      go_wp2_with fail
      refine (W2 _).mono ?_
      rintro e w' ⟨rfl, rfl⟩
      go_wp2
      refine bodyPost_ret (results_cell_tmp_row Try.results15 _ _ w.heap.size 28 #[.int .i64 0, .int .i64 0] (0, 0) _ rfl (heap_alloc_last w _) Try.underlying28 rfl infoW) rfl ⟨rfl, ?_⟩
      exact (Below.refl _ _).alloc (Nat.le_refl _) _
  by_cases ca : ∃ a, Num x a
  · have cb : ¬ ∃ b, Num y b := fun cb => h ⟨ca, cb⟩
    obtain ⟨a, ha⟩ := ca
    exact done a 0 true false (Or.inr rfl) (whole_yes ha) (whole_no hy cb)
  · by_cases cb : ∃ b, Num y b
    · obtain ⟨b, hb⟩ := cb
      exact done 0 b false true (Or.inl rfl) (whole_no hx ca) (whole_yes hb)
    · exact done 0 0 false false (Or.inl rfl) (whole_no hx ca) (whole_no hy cb)

/-! ### The document's Turn and Join. -/
/-- Where Turn is at work: the weight's own block, the result's. -/
def TurnAt (w : World) (z : Int × Int) (wr : World) : Prop :=
  wr.heap[w.heap.size]? = some (.cells #[.int .i64 z.1, .int .i64 z.2] 28 (0, 0)) ∧ wr.heap[w.heap.size + 1]? = some (.cells #[.int .i64 0, .int .i64 0] 28 (0, 0)) ∧ Below w.heap.size w wr

theorem tmod_cases (n : Int) : (0 ≤ n.tmod 4 ∧ n.tmod 4 = (turns n : Int)) ∨ (n.tmod 4 < 0 ∧ n.tmod 4 + 4 = (turns n : Int)) := by
  unfold turns
  rcases Int.lt_or_le n 0 with c | c
  · obtain ⟨m, rfl⟩ : ∃ m : Nat, n = -(m : Int) := ⟨n.natAbs, by omega⟩
    rw [Int.neg_tmod]
    have : ((m : Int).tmod 4) = ((m % 4 : Nat) : Int) := rfl
    rw [this]
    omega
  · obtain ⟨m, rfl⟩ := Int.eq_ofNat_of_zero_le c
    have : ((m : Int).tmod 4) = ((m % 4 : Nat) : Int) := rfl
    rw [this]
    omega

set_option maxHeartbeats 2000000 in
theorem rturn_any (a b : Int) (ha : a.natAbs ≤ 2 ^ 53) (hb : b.natAbs ≤ 2 ^ 53) (n : Int) (w : World) :
    Calls Try.prog 17 #[wW a b, .int .i64 n] w fun e w' => e = .returned (wW (rot (turns n) (a, b)).1 (rot (turns n) (a, b)).2) ∧ Below w.heap.size w w' := by
  unfold wW
  have hab := fun k => rot_num (z := (a, b)) k ⟨ha, hb⟩
  have hm3 := turns_lt n
  have hc := tmod_cases n
  obtain ⟨m, hm⟩ : ∃ m, m = turns n := ⟨_, rfl⟩
  rw [← hm] at hc hm3 ⊢
  obtain ⟨q, hq⟩ : ∃ q, n.tmod 4 = q := ⟨_, rfl⟩
  rw [hq] at hc
  have HAB := Lib.hid hab
  clear hm hab ha hb
  have main : ∀ (q : Int), n.tmod 4 = q → (0 ≤ q ∧ q = (m : Int)) ∨ (q < 0 ∧ q + 4 = (m : Int)) →
      Calls Try.prog 17 #[.agg #[.int .i64 a, .int .i64 b], .int .i64 n] w fun e w' => e = .returned (.agg #[.int .i64 (rot m (a, b)).1, .int .i64 (rot m (a, b)).2]) ∧ Below w.heap.size w w' := by
    clear hq hc q
    intro q hq hc
    rcases hc with ⟨c1, rfl⟩ | ⟨c1, c2⟩
    all_goals
      go_enter Try.func17, Try.ntmps17
      go_wp2
      go_loopw [1] (fun x wr => ∃ (k : Nat), k ≤ m ∧ x = .int .i64 ((m : Int) - k) ∧ TurnAt w (rot k (a, b)) wr) (fun x _ => (intOf x).toNat)
      case atStart =>
        refine ⟨0, Nat.zero_le _, by simp, ?_, ?_, ?_⟩
        · exact heap_alloc2_old w _ _
        · exact heap_alloc2_new w _ _
        · exact ((Below.refl _ _).alloc (Nat.le_refl _) _).alloc (by simp) _
      case round =>
        obtain ⟨k, hk, rfl, hg, h0, hbl⟩ := hrel
        have hz := HAB.out k
        have hsu := rot_succ k (a, b)
        obtain ⟨z, hz'⟩ : ∃ z, z = rot k (a, b) := ⟨_, rfl⟩
        rw [← hz'] at hg hz hsu
        have HZ := Lib.hid hz'
        have HSU := Lib.hid hsu
        clear hz' hsu
        obtain ⟨u, v⟩ := z
        simp only at hg hz
        have c0 : wr.cell? ⟨w.heap.size, 0, none⟩ = some (.int .i64 u) := (cell_of_row _ _ 0 _ _ _ hg).trans rfl
        have d0 : wr.cell? ⟨w.heap.size, 1, none⟩ = some (.int .i64 v) := (cell_of_row _ _ 1 _ _ _ hg).trans rfl
        have f0 := frozen_of_row wr w.heap.size 0 _ _ hg
        have f1 := frozen_of_row wr w.heap.size 1 _ _ hg
        have hz1 : -9007199254740992 ≤ u ∧ u ≤ 9007199254740992 := by omega
        have hz2 : -9007199254740992 ≤ v ∧ v ≤ 9007199254740992 := by omega
        by_cases hlt : k < m
        · have hpos : (0 : Int) < (m : Int) - k := by omega
          have z1 := heap_setCell_same wr w.heap.size 0 _ _ (.int .i64 (-v)) hg
          have z2 := heap_setCell_same _ w.heap.size 1 _ _ (.int .i64 u) z1
          have z3 : ((wr.setCell ⟨w.heap.size, 0, none⟩ (.int .i64 (-v))).setCell ⟨w.heap.size, 1, none⟩ (.int .i64 u)).heap[w.heap.size]? = some (.cells #[.int .i64 (-v), .int .i64 u] 28 (0, 0)) := by simpa using z2
          have z4 : ((wr.setCell ⟨w.heap.size, 0, none⟩ (.int .i64 (-v))).setCell ⟨w.heap.size, 1, none⟩ (.int .i64 u)).heap[w.heap.size + 1]? = some (.cells #[.int .i64 0, .int .i64 0] 28 (0, 0)) := by
            rw [heap_setCell_other _ _ _ _ (by show ¬ w.heap.size + 1 = w.heap.size; omega), heap_setCell_other _ _ _ _ (by show ¬ w.heap.size + 1 = w.heap.size; omega)]
            exact h0
          have b1 : Below w.heap.size w (wr.setCell ⟨w.heap.size, 0, none⟩ (.int .i64 (-v))) := hbl.setCell (Nat.le_refl _) _
          have b2 : Below w.heap.size w ((wr.setCell ⟨w.heap.size, 0, none⟩ (.int .i64 (-v))).setCell ⟨w.heap.size, 1, none⟩ (.int .i64 u)) := b1.setCell (Nat.le_refl _) _
          have HN : Hid (TurnAt w (rot (k + 1) (a, b)) ((wr.setCell ⟨w.heap.size, 0, none⟩ (.int .i64 (-v))).setCell ⟨w.heap.size, 1, none⟩ (.int .i64 u))) := by
            rw [HSU.out]
            exact ⟨z3, z4, b2⟩
          clear z1 z2 z3 z4 b1 b2 hg h0 hbl hz
          go_wp2
          go_roundw
          case rel => exact ⟨k + 1, by omega, by congr 1; omega, HN.out⟩
          case measure => simp [intOf]; omega
        · obtain rfl : k = m := by omega
          have e0 : wr.cell? ⟨w.heap.size + 1, 0, none⟩ = some (.int .i64 0) := (cell_of_row _ _ 0 _ _ _ h0).trans rfl
          have e1 : wr.cell? ⟨w.heap.size + 1, 1, none⟩ = some (.int .i64 0) := (cell_of_row _ _ 1 _ _ _ h0).trans rfl
          have g0 := frozen_of_row wr (w.heap.size + 1) 0 _ _ h0
          have g1 := frozen_of_row wr (w.heap.size + 1) 1 _ _ h0
          have z1 := heap_setCell_same wr (w.heap.size + 1) 0 _ _ (.int .i64 u) h0
          have z2 := heap_setCell_same _ (w.heap.size + 1) 1 _ _ (.int .i64 v) z1
          have z3 : ((wr.setCell ⟨w.heap.size + 1, 0, none⟩ (.int .i64 u)).setCell ⟨w.heap.size + 1, 1, none⟩ (.int .i64 v)).heap[w.heap.size + 1]? = some (.cells #[.int .i64 u, .int .i64 v] 28 (0, 0)) := by simpa using z2
          have b1 : Below w.heap.size w (wr.setCell ⟨w.heap.size + 1, 0, none⟩ (.int .i64 u)) := hbl.setCell (by show w.heap.size ≤ w.heap.size + 1; omega) _
          have b2 : Below w.heap.size w ((wr.setCell ⟨w.heap.size + 1, 0, none⟩ (.int .i64 u)).setCell ⟨w.heap.size + 1, 1, none⟩ (.int .i64 v)) := b1.setCell (by show w.heap.size ≤ w.heap.size + 1; omega) _
          have HG := Lib.hid z3
          have HB := Lib.hid b2
          have HG0 := Lib.hid hg
          have hk0 : ¬ ((0 : Int) < (k : Int) - k) := by omega
          clear z1 z2 z3 b1 b2 h0 hbl hlt hz hg
          go_wp2
          refine bodyPost_ret (results_cell_row Try.results17 _ _ (w.heap.size + 1) 28 #[.int .i64 u, .int .i64 v] (0, 0) _ rfl HG.out Try.underlying28 rfl infoW) rfl ⟨?_, HB.out⟩
          rw [← HZ.out]
  exact main q hq hc

end Go.Proofs.Ytmobkjdncfdokaa
