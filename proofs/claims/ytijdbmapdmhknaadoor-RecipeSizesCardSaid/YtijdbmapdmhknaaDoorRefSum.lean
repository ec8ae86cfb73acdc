/- The walk of the document's sum, by long division. -/
import Derived.Test.YtijdbmapdmhknaaDoorGC
import Derived.Laws.Rows
import Derived.Laws.Append
import Derived.Deep.WholeRow
import Derived.Deep.QuietTactic
import Derived.BigQuiet
import Derived.Lib.AppendZeros
import Derived.RegionTactic
namespace Go.Proofs.YtijdbmapdmhknaaDoor
open Go.RowKit

/-- append of so many zeros to a slice that is full: a new row. -/
theorem run_append_zeros_full {P : Program} (w : World) (t tn ty e : TypeId) (i : TypeInfo) (z : Value) (k kn : IntKind) (ht : P.underlying t = some (.slice e)) (htn : P.underlying tn = some (.int kn)) (hi : P.info? e = some i) (hz : i.zero = some z)
    (g n m : Nat) (cs : Array Value) (hg : w.heap[g]? = some (.cells cs e (0, 0))) (hcs : cs.size = n) (hs : i.size = 1) (hb : i.bytes = 1) (h0 : 0 < m) (hn : n + m ≤ 100000000) :
    (Builtin.append_ #[t, tn] ty #[.slice (some ⟨g, 0, none⟩) n n, .int k m]).run P w =
      .ok (.slice (some ⟨w.heap.size, 0, none⟩) (n + m) (Go.grownCap w (n + m) n e)) (w.drew.alloc (.cells (cs ++ Builtin.zeroCells z.cells m ++ Builtin.zeroCells z.cells (Go.grownCap w (n + m) n e - (n + m))) e)) := by
  have hm : m ≠ 0 := by omega
  have hw : IntKind.i64.wrap (m : Int) = m := by rw [IntKind.wrap_i64]; omega
  have h63' : ¬ (9223372036854775807 < (n : Int) + (m : Int)) := by omega
  have hle := nextslicecap_le (need := n + m) (old := n) (by omega)
  have h48' : ¬ (281474976710656 < Builtin.nextslicecap (n + m) n) := by omega
  have h48i : ¬ (281474976710656 < (m : Int)) := by omega
  have hneg : ¬ ((m : Int) < 0) := by omega
  have hroom : ¬ (n + m ≤ n) := by omega
  have hfc := run_firstCells_some (P := P) w.drew 1 n ⟨g, 0, none⟩ n n cs.toList (by simp [hcs]) (fun j v hv => by
    have hadd : (⟨g, 0, none⟩ : Addr).add j = ⟨g, j, none⟩ := by unfold Addr.add; split <;> simp_all
    have hg' : w.drew.heap[g]? = some (.cells cs e (0, 0)) := hg
    rw [hadd, cell_of_row _ _ j cs e (0, 0) hg']
    simpa using hv)
  simp [Builtin.append_, run_underlying ht, run_underlying htn, sizeOf, typeInfo, zeroValue, hi, hz, asInt, asIntOf, hw, hm, hneg, hs, hb, h63', h48', h48i, Question.forced, newRow, Go.grownCap, hfc]
  exact fun h => absurd h hroom

theorem zeroCells_bool (m : Nat) : Builtin.zeroCells (Value.bool false).cells m = boolA (List.replicate m false) := by
  apply Array.ext_getElem?
  intro i
  by_cases h : i < m
  · rw [boolA_get _ _ (by simpa using h)]
    simp [Builtin.zeroCells, Value.cells, h, Nat.mod_one]
  · rw [Array.getElem?_eq_none (by simp [Builtin.zeroCells, Value.cells]; omega), Array.getElem?_eq_none (by rw [boolA_size]; simp; omega)]

theorem boolA_append (L K : List Bool) : boolA L ++ boolA K = boolA (L ++ K) := by simp [boolA]

theorem append_bits (w : World) (ty : TypeId) (g n m : Nat) (L : List Bool) (hg : w.heap[g]? = some (.cells (boolA L) 4 (0, 0))) (hL : L.length = n) (h0 : 0 < m) (hn : n + m ≤ 100000000) :
    ∃ c, (Builtin.append_ #[110, 3] ty #[.slice (some ⟨g, 0, none⟩) n n, .int .i64 m]).run Tryd.prog w =
      .ok (.slice (some ⟨w.heap.size, 0, none⟩) (n + m) c) (w.drew.alloc (.cells (boolA (L ++ List.replicate (m + (c - (n + m))) false)) 4)) := by
  obtain ⟨i, hi, hz, hs, hb⟩ : ∃ i : TypeInfo, Tryd.prog.info? 4 = some i ∧ i.zero = some (.bool false) ∧ i.size = 1 ∧ i.bytes = 1 := by
    have h := info4
    cases hq : Tryd.prog.info? 4 with
    | none => rw [hq] at h; cases h
    | some i =>
      rw [hq] at h
      simp only [Option.map_some, Option.some.injEq, Prod.mk.injEq] at h
      exact ⟨i, rfl, h.1, h.2.1, h.2.2⟩
  refine ⟨Go.grownCap w (n + m) n 4, ?_⟩
  rw [run_append_zeros_full (P := Tryd.prog) w 110 3 ty 4 i (.bool false) .i64 .i64 Tryd.underlying110 Tryd.underlying3 hi hz g n m (boolA L) hg (by rw [boolA_size, hL]) hs hb h0 hn]
  rw [zeroCells_bool, zeroCells_bool, boolA_append, boolA_append, List.append_assoc, List.replicate_append_replicate]

theorem polyL_len : polyL.length = 33 := by simp [polyL]

theorem polyL_get (j : Nat) (h : j < 33) : polyL.getD j false = (4374732215 : Nat).testBit (32 - j) := by
  simp [polyL, List.getD, h]

set_option maxHeartbeats 800000 in
theorem poly_any (w : World) :
    Calls Tryd.prog 77 #[] w fun e w' => e = .returned (.slice (some ⟨w.heap.size, 0, none⟩) 33 33) ∧ w' = w.alloc (.cells (boolA polyL) 4) := by
  have hmk := fun w' => run_make_row' (P := Tryd.prog) 110 4 (.bool false) 1 Tryd.underlying110 info4 rfl .i64 .i64 33 (by omega) (by omega) w'
  have hmk' : ∀ w', (Instr.makeSlice 110 (.int .i64 33) (.int .i64 33)).run Tryd.prog w' = .ok (.slice (some ⟨w'.heap.size, 0, none⟩) 33 33) (w'.alloc (.cells (madeCells #[.bool false] 33) 4)) := hmk
  have hsz : (madeCells #[Value.bool false] 33).size = 33 := size_madeCells _ _
  obtain ⟨Z, hZ⟩ : ∃ Z, Z = madeCells #[Value.bool false] 33 := ⟨_, rfl⟩
  rw [← hZ] at hsz
  simp only [← hZ] at hmk'
  clear hmk hZ
  go_enter Tryd.func77, Tryd.ntmps77
  go_wp2
  go_loopw [1, 3] (fun y x wr => ∃ (m q : Nat) (D : Array Value), m ≤ 33 ∧ x = .int .i64 (32 - (m : Int)) ∧ y = .int .u64 q ∧ q = 4374732215 / 2 ^ m ∧ D.size = 33 ∧ (∀ j (h : j < 33), 33 ≤ j + m → D[j]? = some (.bool (polyL.getD j false))) ∧ wr = w.alloc (.cells D 4)) (fun _ x _ => (intOf x + 1).toNat)
  case atStart => exact ⟨0, 4374732215, _, Nat.zero_le _, rfl, rfl, by simp, hsz, fun j h h2 => by omega, rfl⟩
  case round =>
    obtain ⟨m, q, D, hm, rfl, rfl, hq, hD, hds, rfl⟩ := hrel
    have hql : q ≤ 4374732215 := by rw [hq]; exact Nat.div_le_self _ _
    have HQ := Lib.hid hq
    have HD := Lib.hid hds
    clear hq hds
    by_cases hlt : m < 33
    · obtain ⟨v, hv⟩ : ∃ v, D[32 - m]? = some v := ⟨_, Array.getElem?_eq_getElem (by omega)⟩
      have e5 : ((32 : Int) - m).toNat = 32 - m := by omega
      have hge : (m : Int) ≤ 32 := by omega
      go_wp2
      go_roundw
      case rel =>
        refine ⟨m + 1, q / 2, _, by omega, by congr 1; omega, rfl, ?_, by simpa using hD, ?_, rfl⟩
        · rw [HQ.out, Nat.div_div_eq_div_mul, Nat.pow_succ]
        · intro j hj hjm
          rw [Array.getElem?_setIfInBounds]
          by_cases e : 32 - m = j
          · subst e
            rw [if_pos rfl, if_pos (by omega), polyL_get _ hj, show 32 - (32 - m) = m by omega, testBit_mod, ← HQ.out, int_odd]
          · rw [if_neg e]; exact HD.out j hj (by omega)
      case measure => simp [intOf]; omega
    · obtain rfl : m = 33 := by omega
      have hb := boolA_of polyL D (by rw [polyL_len]; exact hD) (fun j hj => HD.out j (by rw [polyL_len] at hj; exact hj) (by omega))
      subst hb
      clear HD hD
      go_wp2
      go_ret
      exact ⟨rfl, rfl⟩

/-- Where the division is at work: the row of bits, the polynomial's row, and all else as it was. -/
def DivAt (B : Nat) (D : List Bool) (w wr : World) : Prop :=
  wr.heap[B + 1]? = some (.cells (boolA D) 4 (0, 0)) ∧ wr.heap[B + 1 + 1]? = some (.cells (boolA polyL) 4 (0, 0)) ∧ Below B w wr

theorem DivAt.cell {B : Nat} {D : List Bool} {w wr : World} (h : DivAt B D w wr) (i : Nat) (hi : i < D.length) : wr.cell? ⟨B + 1, i, none⟩ = some (.bool (D.getD i false)) := by
  rw [cell_of_row _ _ i _ _ _ h.1, boolA_get _ _ hi]
  simp [List.getD, hi]

theorem DivAt.poly {B : Nat} {D : List Bool} {w wr : World} (h : DivAt B D w wr) (i : Nat) (hi : i < 33) : wr.cell? ⟨B + 1 + 1, i, none⟩ = some (.bool (polyL.getD i false)) := by
  rw [cell_of_row _ _ i _ _ _ h.2.1, boolA_get _ _ (by rw [polyL_len]; exact hi)]
  simp [List.getD, polyL_len, hi]

theorem DivAt.froz {B : Nat} {D : List Bool} {w wr : World} (h : DivAt B D w wr) (i : Nat) : wr.frozen? ⟨B + 1, i, none⟩ = false := frozen_of_row _ _ _ _ _ h.1

theorem DivAt.set {B : Nat} {D : List Bool} {w wr : World} (h : DivAt B D w wr) (i : Nat) (b : Bool) : DivAt B (D.set i b) w (wr.setCell ⟨B + 1, i, none⟩ (.bool b)) := by
  refine ⟨?_, ?_, h.2.2.setCell (by show B ≤ B + 1; omega) _⟩
  · rw [← boolA_set]; exact heap_setCell_same _ _ _ _ _ _ h.1
  · rw [heap_setCell_other _ _ _ _ (by show ¬ B + 1 + 1 = B + 1; omega)]; exact h.2.1

theorem DivAt.drew {B : Nat} {D : List Bool} {w wr : World} (h : DivAt B D w wr) : DivAt B D w wr.drew := ⟨h.1, h.2.1, h.2.2.drew⟩

theorem getD_set (D : List Bool) (i j : Nat) (b : Bool) (hi : i < D.length) : (D.set i b).getD j false = if i = j then b else D.getD j false := by
  rw [List.getD_eq_getElem?_getD, List.getElem?_set]
  by_cases h : i = j
  · rw [if_pos h, if_pos h, if_pos (by omega)]; rfl
  · rw [if_neg h, if_neg h, List.getD_eq_getElem?_getD]

set_option maxHeartbeats 1000000 in
theorem rsum_any (s : ByteArray) (hs : s.size ≤ 100000) (w : World) :
    Calls Tryd.prog 62 #[.string s] w fun e w' => e = .returned (.int .u32 (moreN 0 s.data.toList)) ∧ Below w.heap.size w w' := by
  have hz := data_len s
  have hbl := bits_len s.data.toList
  rw [hz] at hbl
  obtain ⟨L, hL⟩ : ∃ L : List Bool, L = bitsB s.data.toList := ⟨_, rfl⟩
  have hm : moreN 0 s.data.toList = top32 - reg top32 (bitsB s.data.toList) := rfl
  have BA := bits_any s (by omega)
  rw [← hL] at BA hbl hm
  have HM := Lib.hid hm
  obtain ⟨c, AP⟩ := append_bits (w.alloc (.cells (boolA L) 4)) 110 w.heap.size (8 * s.size) 32 L (heap_alloc_last w _) hbl (by omega) (by omega)
  have HB := Lib.hid hbl
  clear hm hL hbl hz
  go_enter Tryd.func62, Tryd.ntmps62
  go_wp2_with (first
    | (go_at_call 76; refine (BA _).mono ?_; rintro e w' ⟨rfl, rfl⟩)
    | (at_builtin; refine Lib.wpList_append_run _ rfl _ _ _ _ rfl _ _ rfl rfl _ _ AP ?_)
    | (go_at_call 77; refine (poly_any _).mono ?_; rintro e w' ⟨rfl, rfl⟩))
  obtain ⟨E, hE⟩ : ∃ E : List Bool, E = L ++ List.replicate (32 + (c - (8 * s.size + 32))) false := ⟨_, rfl⟩
  have hEl : 8 * s.size + 32 ≤ E.length := by rw [hE, List.length_append, HB.out, List.length_replicate]; omega
  have hEt : ∀ a, a ≤ 8 * s.size → E.take a = L.take a := fun a ha => by rw [hE, List.take_append_of_le_length (by rw [HB.out]; exact ha)]
  have hEz : ∀ j, 8 * s.size ≤ j → E.getD j false = false := fun j hj => by
    rw [hE, List.getD_eq_getElem?_getD, List.getElem?_append_right (by rw [HB.out]; exact hj), List.getElem?_replicate]
    split <;> rfl
  have HT := Lib.hid hEt
  have HZ := Lib.hid hEz
  rw [← hE]
  have S0 : DivAt w.heap.size E w (((w.alloc (.cells (boolA L) 4)).alloc (.cells (boolA E) 4)).alloc (.cells (boolA polyL) 4)).drew := by
    refine ⟨?_, ?_, ?_⟩
    · exact (Below.heap_alloc _ _ _ (by simp)).trans (heap_alloc2_new w _ _)
    · have := heap_alloc2_new (w.alloc (.cells (boolA L) 4)) (.cells (boolA E) 4) (.cells (boolA polyL) 4)
      have h3 : (((w.alloc (.cells (boolA L) 4)).alloc (.cells (boolA E) 4)).alloc (.cells (boolA polyL) 4)).heap[w.heap.size + 1 + 1]? = some (.cells (boolA polyL) 4) := by simpa using this
      exact h3
    · exact (((((Below.refl _ _).alloc (Nat.le_refl _) _).alloc (by simp) _).alloc (by simp; omega) _)).drew
  clear hE hEt hEz AP BA
  go_loopw [5] (fun x wr => ∃ (i : Nat) (D : List Bool), i ≤ 32 ∧ x = .int .i64 i ∧ D.length = E.length ∧ (∀ j, D.getD j false = if j < i then !E.getD j false else E.getD j false) ∧ DivAt w.heap.size D w wr) (fun x _ => 32 - (intOf x).toNat)
  case atStart => exact ⟨0, E, Nat.zero_le _, rfl, rfl, fun j => by simp, S0⟩
  case round =>
    clear S0
    obtain ⟨i, D, hi, rfl, hD, hds, S⟩ := hrel
    have HD := Lib.hid hD
    have HDS := Lib.hid hds
    by_cases hlt : i < 32
    · have c1 := S.cell i (by omega)
      have f1 := S.froz i
      have hbi : D.getD i false = E.getD i false := by rw [hds, if_neg (by omega)]
      rw [hbi] at c1
      obtain ⟨b, hb⟩ : ∃ b, b = E.getD i false := ⟨_, rfl⟩
      rw [← hb] at c1
      have hS := S.set i (!b)
      have HX := Lib.hid hb
      clear hD hds hbi hb
      go_wp2
      go_roundw
      case rel =>
        refine ⟨i + 1, D.set i (!b), by omega, by go_num, by rw [List.length_set]; exact HD.out, ?_, hS⟩
        intro j
        rw [getD_set _ _ _ _ (by rw [HD.out]; omega)]
        by_cases e : i = j
        · subst e
          rw [if_pos rfl, if_pos (by omega), HX.out]
        · rw [if_neg e, HDS.out]
          by_cases h2 : j < i
          · rw [if_pos h2, if_pos (by omega)]
          · rw [if_neg h2, if_neg (by omega)]
      case measure => simp [intOf]; omega
    · obtain rfl : i = 32 := by omega
      have V := divides_start E D hD hds
      clear hD hds HDS
      have HV := Lib.hid V
      clear V
      go_wp2
      go_loopw [6] (fun x wr => ∃ (a : Nat) (D : List Bool), a ≤ 8 * s.size ∧ x = .int .i64 a ∧ Divides E (reg top32 (L.take a)) a D ∧ DivAt w.heap.size D w wr) (fun x _ => 8 * s.size - (intOf x).toNat)
      case atStart => exact ⟨0, D, Nat.zero_le _, rfl, HV.out, S⟩
      case round =>
        clear S HV HD
        clear D
        obtain ⟨a, D, ha, rfl, hV, S⟩ := hrel
        have HV := Lib.hid hV
        have hDl := hV.1
        have HDl := Lib.hid hDl
        clear hV
        by_cases hlt : a < 8 * s.size
        · have ca := S.cell a (by omega)
          have hnx := reg_take_bit top32 L a (by rw [HB.out]; exact hlt)
          have hEa : L[a]'(by rw [HB.out]; exact hlt) = E.getD a false := by
            have h1 := HT.out (a + 1) (by omega)
            have h2 : (E.take (a + 1))[a]? = (L.take (a + 1))[a]? := by rw [h1]
            rw [List.getElem?_take, List.getElem?_take, if_pos (by omega), if_pos (by omega), List.getElem?_eq_getElem (show a < L.length by rw [HB.out]; exact hlt)] at h2
            rw [List.getD_eq_getElem?_getD, h2]
            rfl
          rw [hEa] at hnx
          have HN := Lib.hid hnx
          have e32 : decide ((a : Int) < (8 * (s.size : Int))) = true := by simp; omega
          obtain ⟨d, hd⟩ : ∃ d, d = D.getD a false := ⟨_, rfl⟩
          rw [← hd] at ca
          have HDa := Lib.hid hd
          clear hDl hnx hEa hd
          cases d with
          | false =>
            go_wp2
            go_roundw
            case rel =>
              refine ⟨a + 1, D, by omega, by go_num, ?_, S⟩
              rw [HN.out]
              refine divides_next E D _ a HV.out D rfl fun j => ?_
              rw [← HDa.out]
              simp
            case measure => simp [intOf]; omega
          | true =>
            go_wp2
            go_loopw [7] (fun x wr => ∃ (k : Nat) (D' : List Bool), k ≤ 33 ∧ x = .int .i64 k ∧ D'.length = D.length ∧ (∀ j, D'.getD j false = if a ≤ j ∧ j < a + k then (D.getD j false ^^ polyL.getD (j - a) false) else D.getD j false) ∧ DivAt w.heap.size D' w wr) (fun x _ => 33 - (intOf x).toNat)
            case atStart => exact ⟨0, D, Nat.zero_le _, rfl, rfl, fun j => by rw [if_neg (by omega)], S⟩
            case round =>
              clear S
              obtain ⟨k, D', hk, rfl, hD', hds, S⟩ := hrel
              have HD' := Lib.hid hD'
              have HDS := Lib.hid hds
              by_cases hlk : k < 33
              · have c1 := S.cell (a + k) (by rw [hD', HDl.out]; omega)
                have c2 := S.poly k hlk
                have f1 := S.froz (a + k)
                obtain ⟨x, hx⟩ : ∃ x, x = D'.getD (a + k) false := ⟨_, rfl⟩
                obtain ⟨y, hy⟩ : ∃ y, y = polyL.getD k false := ⟨_, rfl⟩
                rw [← hx] at c1
                rw [← hy] at c2
                have HX := Lib.hid hx
                have HY := Lib.hid hy
                have hS := (S.set (a + k) (x != y)).drew
                have e5 : ((a : Int) + k).toNat = a + k := by omega
                have i1 : (0 : Int) ≤ (a : Int) + k := by omega
                have i2 : (a : Int) + k < 8 * s.size + 32 := by omega
                have b1 : decide ((k : Int) < 33) = true := by simp; omega
                clear hD' hds hx hy
                go_wp2
                go_region
                go_wp2
                go_roundw
                case rel =>
                  refine ⟨k + 1, D'.set (a + k) (x != y), by omega, by go_num, by rw [List.length_set]; exact HD'.out, ?_, hS⟩
                  intro j
                  rw [getD_set _ _ _ _ (by rw [HD'.out, HDl.out]; omega)]
                  by_cases e : a + k = j
                  · subst e
                    rw [if_pos rfl, if_pos (by omega), Nat.add_sub_cancel_left, ← HY.out]
                    have h2 := HDS.out (a + k)
                    rw [if_neg (by omega)] at h2
                    rw [← h2, ← HX.out]
                  · rw [if_neg e, HDS.out]
                    by_cases h2 : a ≤ j ∧ j < a + k
                    · rw [if_pos h2, if_pos (by omega)]
                    · rw [if_neg h2, if_neg (by omega)]
                case measure => simp [intOf]; omega
              · obtain rfl : k = 33 := by omega
                clear hD' hds
                go_wp2
                go_roundw
                case rel =>
                  refine ⟨a + 1, D', by omega, by go_num, ?_, S⟩
                  rw [HN.out]
                  refine divides_next E D _ a HV.out D' HD'.out fun j => ?_
                  rw [← HDa.out, HDS.out]
                  simp
                case measure => simp [intOf]; omega
        · have hge : 8 * s.size ≤ a := by omega
          have e32 : decide ((a : Int) < (8 * (s.size : Int))) = false := by simp; omega
          obtain ⟨r, hr⟩ : ∃ r, r = reg top32 (L.take a) := ⟨_, rfl⟩
          have hrl : r ≤ top32 := by rw [hr]; exact reg_le (Nat.le_refl _)
          have hres : top32 - r = moreN 0 s.data.toList := by
            rw [HM.out, hr, List.take_of_length_le (by rw [HB.out]; omega)]
          have hbits : ∀ j, D.getD (a + j) false = r.testBit j := fun j => by
            rw [HV.out.2 (a + j) (by omega), HZ.out (a + j) (by omega), Bool.false_xor, Nat.add_sub_cancel_left, hr]
          have HR := Lib.hid hres
          have HBT := Lib.hid hbits
          have HRL := Lib.hid hrl
          clear hDl hr hrl hres hbits hlt
          go_wp2
          go_loop [8, 9] (fun y x => ∃ (m q : Nat), m ≤ 32 ∧ x = .int .i64 (31 - (m : Int)) ∧ y = .int .u32 q ∧ q = (top32 - r) >>> (32 - m)) (fun _ x => (intOf x + 1).toNat)
          case atStart => exact ⟨0, 0, Nat.zero_le _, rfl, rfl, by rw [Nat.shiftRight_eq_div_pow]; exact (Nat.div_eq_of_lt (by have e : top32 = 4294967295 := rfl; omega)).symm⟩
          case round =>
            obtain ⟨m, q, hm, rfl, rfl, hq⟩ := hrel
            have HQ := Lib.hid hq
            by_cases hlm : m < 32
            · have c1 := S.cell (a + (31 - m)) (by rw [HDl.out]; omega)
              rw [HBT.out] at c1
              have hql : q ≤ 2147483647 := by
                have e : top32 = 4294967295 := rfl
                rw [hq, show 32 - m = 1 + (31 - m) by omega, Nat.shiftRight_add]
                refine Nat.le_trans (Nat.shiftRight_le _ _) ?_
                rw [Nat.shiftRight_eq_div_pow]
                omega
              have hts := tail_step r (31 - m)
              rw [show 31 - m + 1 = 32 - m by omega, ← hq, top_sub_bit r (31 - m) HRL.out (by omega)] at hts
              obtain ⟨b, hb⟩ : ∃ b, b = r.testBit (31 - m) := ⟨_, rfl⟩
              rw [← hb] at c1 hts
              have HTS := Lib.hid hts
              have e5 : ((a : Int) + (31 - (m : Int))).toNat = a + (31 - m) := by omega
              have i1 : (0 : Int) ≤ (a : Int) + (31 - (m : Int)) := by omega
              have i2 : (a : Int) + (31 - (m : Int)) < 8 * s.size + 32 := by omega
              have hmi : (m : Int) ≤ 31 := by omega
              clear hq hb hts
              cases b with
              | false =>
                go_wp2
                go_round
                case rel => exact ⟨m + 1, q * 2 + 1, by omega, by congr 1; omega, rfl, by rw [show 32 - (m + 1) = 31 - m by omega, HTS.out]; simp; omega⟩
                case measure => simp [intOf]; omega
              | true =>
                go_wp2
                go_round
                case rel => exact ⟨m + 1, q * 2, by omega, by congr 1; omega, rfl, by rw [show 32 - (m + 1) = 31 - m by omega, HTS.out]; simp; omega⟩
                case measure => simp [intOf]; omega
            · obtain rfl : m = 32 := by omega
              have hq' : q = moreN 0 s.data.toList := by rw [hq, ← HR.out]; rfl
              have HQ' := Lib.hid hq'
              clear hq hq'
              go_wp2
              go_ret
              exact ⟨by rw [← HQ'.out]; rfl, S.2.2⟩

end Go.Proofs.YtijdbmapdmhknaaDoor
