/- Plain facts on texts as lists of bits, of no program. The walks of the sum: Sum, More, step. The walks of the document's sums: Bits, Step, More, Join. The walk of the document's sum, by long division. -/
import Derived.Test.YteompckehokdoaaGreatDoorGA
import Derived.Test.YteompckehokdoaaGreatDoorRows
import Derived.WalkKit
import Derived.WalkSpells
import Derived.WalkLawsBesides
import Derived.Deep.OwnRows
import Derived.Lib.Hide
import Derived.Laws.Rows
import Derived.Laws.Append
import Derived.Deep.WholeRow
import Derived.Deep.QuietTactic
import Derived.BigQuiet
import Derived.Lib.AppendZeros
import Derived.RegionTactic
namespace Go.Proofs.YteompckehokdoaaGreatDoor
open Go.RowKit

/-- The cells of a list of bits. -/
def boolA (L : List Bool) : Array Value := (L.map Value.bool).toArray

theorem boolA_size (L : List Bool) : (boolA L).size = L.length := by simp [boolA]

theorem boolA_get (L : List Bool) (i : Nat) (h : i < L.length) : (boolA L)[i]? = some (.bool L[i]) := by simp [boolA, h]

theorem boolA_of (L : List Bool) (C : Array Value) (hC : C.size = L.length) (h : ∀ i, i < L.length → C[i]? = some (.bool (L.getD i false))) : C = boolA L := by
  apply Array.ext_getElem?
  intro i
  by_cases hi : i < L.length
  · rw [h i hi, boolA_get L i hi]
    simp [List.getD, hi]
  · rw [Array.getElem?_eq_none (by omega), Array.getElem?_eq_none (by rw [boolA_size]; omega)]

theorem boolA_set (L : List Bool) (i : Nat) (b : Bool) : (boolA L).setIfInBounds i (.bool b) = boolA (L.set i b) := by
  apply Array.ext_getElem?
  intro j
  rw [Array.getElem?_setIfInBounds]
  by_cases h : i = j
  · subst h
    by_cases hi : i < L.length
    · rw [if_pos rfl, boolA_size, if_pos hi, boolA_get _ _ (by simpa using hi)]
      simp
    · rw [if_pos rfl, boolA_size, if_neg hi, Array.getElem?_eq_none (by rw [boolA_size, List.length_set]; omega)]
  · rw [if_neg h]
    simp [boolA, h]

theorem byteBits_get (c : UInt8) (k : Nat) (h : k < 8) : (byteBits c).getD k false = c.toNat.testBit k := by
  simp [byteBits, List.getD, h]

theorem byteBits_len (c : UInt8) : (byteBits c).length = 8 := by simp [byteBits]

theorem bits_at : ∀ (l : List UInt8) (i k : Nat) (h : i < l.length), k < 8 → (bitsB l).getD (8 * i + k) false = l[i].toNat.testBit k
  | c :: l, 0, k, _, hk => by
    rw [show bitsB (c :: l) = byteBits c ++ bitsB l by simp [bitsB], Nat.mul_zero, Nat.zero_add, List.getD_eq_getElem?_getD,
      List.getElem?_append_left (by rw [byteBits_len]; exact hk), ← List.getD_eq_getElem?_getD, byteBits_get c k hk]
    rfl
  | c :: l, i + 1, k, h, hk => by
    rw [show bitsB (c :: l) = byteBits c ++ bitsB l by simp [bitsB], List.getD_eq_getElem?_getD,
      List.getElem?_append_right (by rw [byteBits_len]; omega), byteBits_len, show 8 * (i + 1) + k - 8 = 8 * i + k by omega, ← List.getD_eq_getElem?_getD,
      bits_at l i k (by simpa using h) hk]
    rfl

theorem testBit_mod (x k : Nat) : x.testBit k = (x / 2 ^ k % 2 == 1) := by
  rw [Nat.testBit_eq_decide_div_mod_eq]
  rfl

theorem reg_take_bit (r : Nat) (L : List Bool) (k : Nat) (h : k < L.length) : reg r (L.take (k + 1)) = stp (reg r (L.take k) ^^^ L[k].toNat) := by
  rw [List.take_succ_eq_append_getElem h, reg_append]
  rfl

/-! ### Long division -/
/-- The polynomial's bits, the highest first. -/
def polyL : List Bool := (List.range 33).map fun k => (4374732215 : Nat).testBit (32 - k)

/-- What a row holds while a text's bits E are divided: ahead of 'at' whatever it holds; from there on the text's bits, on which the register lies. -/
def Divides (E : List Bool) (r a : Nat) (L : List Bool) : Prop := L.length = E.length ∧ ∀ j, a ≤ j → L.getD j false = (E.getD j false ^^ r.testBit (j - a))

theorem divides_next (E L : List Bool) (r a : Nat) (h : Divides E r a L) (L' : List Bool) (hL : L'.length = L.length)
    (hk : ∀ j, L'.getD j false = if a ≤ j ∧ j < a + 33 then (L.getD j false ^^ (L.getD a false && polyL.getD (j - a) false)) else L.getD j false) :
    Divides E (stp (r ^^^ (E.getD a false).toNat)) (a + 1) L' := by
  obtain ⟨h1, h2⟩ := h
  refine ⟨by omega, fun j hj => ?_⟩
  have ha : L.getD a false = (E.getD a false ^^ r.testBit 0) := by simpa using h2 a (Nat.le_refl _)
  obtain ⟨i, rfl⟩ : ∃ i, j = a + 1 + i := ⟨j - (a + 1), by omega⟩
  have e1 : a + 1 + i - (a + 1) = i := by omega
  have e2 : a + 1 + i - a = i + 1 := by omega
  rw [hk, e1, e2, h2 _ (by omega), e2]
  have hs : (stp (r ^^^ (E.getD a false).toNat)).testBit i = (r.testBit (i + 1) ^^ (L.getD a false && pol.testBit i)) := by
    have hb : (r ^^^ (E.getD a false).toNat).testBit 0 = L.getD a false := by
      rw [Nat.testBit_xor, ha, Bool.xor_comm]
      congr 1
      cases E.getD a false <;> rfl
    have hb1 : (r ^^^ (E.getD a false).toNat).testBit (i + 1) = r.testBit (i + 1) := by
      rw [Nat.testBit_xor]
      have : ((E.getD a false).toNat).testBit (i + 1) = false := by cases E.getD a false <;> simp [Nat.testBit_succ]
      rw [this, Bool.xor_false]
    unfold stp
    rw [Nat.testBit_xor, hb, Nat.testBit_shiftRight, Nat.add_comm 1 i, hb1]
    congr 1
    cases L.getD a false <;> simp
  rw [hs]
  by_cases hi : i < 32
  · rw [if_pos (by omega)]
    have hp : polyL.getD (i + 1) false = pol.testBit i := by
      have : ∀ i : Fin 32, polyL.getD (i.val + 1) false = pol.testBit i.val := by decide +kernel
      exact this ⟨i, hi⟩
    rw [hp, Bool.xor_assoc]
  · rw [if_neg (by omega)]
    have hp : pol.testBit i = false := Nat.testBit_lt_two_pow (Nat.lt_of_lt_of_le (by decide : pol < 2 ^ 32) (Nat.pow_le_pow_right (by omega) (by omega)))
    rw [hp, Bool.and_false, Bool.xor_false]

theorem divides_start (E L : List Bool) (hL : L.length = E.length) (hk : ∀ j, L.getD j false = if j < 32 then !E.getD j false else E.getD j false) : Divides E top32 0 L := by
  refine ⟨hL, fun j _ => ?_⟩
  rw [hk, Nat.sub_zero]
  by_cases h : j < 32
  · have : top32.testBit j = true := by
      have e : top32 = 2 ^ 32 - 1 := rfl
      rw [e, Nat.testBit_two_pow_sub_one]
      simpa using h
    rw [if_pos h, this, Bool.xor_true]
  · have : top32.testBit j = false := Nat.testBit_lt_two_pow (Nat.lt_of_lt_of_le (by decide : top32 < 2 ^ 32) (Nat.pow_le_pow_right (by omega) (by omega)))
    rw [if_neg h, this, Bool.xor_false]

/-- What stands behind so many rounds of the last loop. -/
theorem tail_step (r k : Nat) : (top32 - r) >>> k = 2 * ((top32 - r) >>> (k + 1)) + ((top32 - r).testBit k).toNat := by
  rw [Nat.shiftRight_eq_div_pow, Nat.shiftRight_eq_div_pow, Nat.pow_succ, ← Nat.div_div_eq_div_mul, Nat.testBit_eq_decide_div_mod_eq]
  have := Nat.mod_two_eq_zero_or_one ((top32 - r) / 2 ^ k)
  rcases this with h | h
  · rw [h]; simp; omega
  · rw [h]; simp; omega

theorem top_sub_bit (r k : Nat) (hr : r ≤ top32) (hk : k < 32) : (top32 - r).testBit k = !r.testBit k := by
  rw [top_xor hr, Nat.testBit_xor]
  have : top32.testBit k = true := by
    have e : top32 = 2 ^ 32 - 1 := rfl
    rw [e, Nat.testBit_two_pow_sub_one]
    simpa using hk
  rw [this, Bool.true_xor]

end Go.Proofs.YteompckehokdoaaGreatDoor
namespace Go.Proofs.YteompckehokdoaaGreatDoor
open Go.RowKit

/-- The table lies where the program lays it. -/
def TabAt (w : World) : Prop := ∀ i, i < 16 → w.cell? ⟨0, i, none⟩ = some (.int .u32 (T16.getD i 0 : Nat))

theorem TabAt.later {w w' : World} (h : TabAt w) (hb : Below w.heap.size w w') : TabAt w' := fun i hi => (hb.cell (World.block_lt_of_cell? _ _ (h i hi))).trans (h i hi)

set_option maxHeartbeats 400000 in
theorem more_any (n : Nat) (hn : n ≤ 4294967295) (s : ByteArray) (hs : s.size ≤ maxLen) (w : World) (hT : TabAt w) :
    Calls Tryz.prog 76 #[.int .u32 n, .string s] w fun e w' => e = .returned (.int .u32 (moreN n s.data.toList)) ∧ w = w' := by
  unfold maxLen at hs
  have hz := data_len s
  have en := not32 hn
  go_enter Tryz.func76, Tryz.ntmps76
  go_wp2
  go_loop [5, 11] (fun x i => ∃ (k : Nat), k ≤ s.size ∧ i = .int .i64 k ∧ x = .int .u32 (reg (4294967295 - n) (bitsB (s.data.toList.take k)) : Nat)) (fun _ i => s.size - (intOf i).toNat)
  case atStart => exact ⟨0, Nat.zero_le _, rfl, rfl⟩
  case round =>
    obtain ⟨k, hk, rfl, rfl⟩ := hrel
    have hr : reg (4294967295 - n) (bitsB (s.data.toList.take k)) ≤ 4294967295 := reg_le' (by omega)
    by_cases hlt : k < s.size
    · have hnx := reg_take (4294967295 - n) s.data.toList k (by omega)
      obtain ⟨r, hr'⟩ : ∃ r : Nat, r = reg (4294967295 - n) (bitsB (s.data.toList.take k)) := ⟨_, rfl⟩
      rw [← hr'] at hr hnx ⊢
      obtain ⟨c, hc⟩ : ∃ c : Nat, c = s[k].toNat := ⟨_, rfl⟩
      have hcl : c < 256 := by rw [hc]; exact s[k].toNat_lt
      have e0 : (s[k].toNat : Int) % 4294967296 = (c : Int) := by omega
      have hc2 : (s.data.toList[k]'(by omega)).toNat = c := hc.symm
      rw [hc2] at hnx
      have e1 := x32 (a := r) (b := c) hr (by omega)
      have hy := xor_le (a := r) (b := c) hr (by omega)
      have hf := four (r ^^^ c)
      obtain ⟨y, hy'⟩ : ∃ y : Nat, y = r ^^^ c := ⟨_, rfl⟩
      rw [← hy'] at e1 hy hf hnx
      have e2 := a32_15 hy
      have i2 : y % 16 < 16 := by omega
      have c2 := hT (y % 16) i2
      have t2 := T16_le ⟨y % 16, i2⟩
      simp only at t2
      obtain ⟨t, ht⟩ : ∃ t : Nat, t = T16.getD (y % 16) 0 := ⟨_, rfl⟩
      rw [← ht] at c2 hf t2
      have e3 : bits .xor .u32 ((y : Int) / 16) (t : Int) = ((y / 16 ^^^ t : Nat) : Int) := x32 (a := y / 16) (b := t) (by omega) t2
      rw [hf] at e3
      have hz1 := stps_le 4 hy
      have hg := four (stps 4 y)
      obtain ⟨z, hz'⟩ : ∃ z : Nat, z = stps 4 y := ⟨_, rfl⟩
      rw [← hz'] at e3 hz1 hg hnx
      have e4 := a32_15 hz1
      have i4 : z % 16 < 16 := by omega
      have c4 := hT (z % 16) i4
      have t4 := T16_le ⟨z % 16, i4⟩
      simp only at t4
      obtain ⟨u, hu⟩ : ∃ u : Nat, u = T16.getD (z % 16) 0 := ⟨_, rfl⟩
      rw [← hu] at c4 hg t4
      have e5 : bits .xor .u32 ((z : Int) / 16) (u : Int) = ((z / 16 ^^^ u : Nat) : Int) := x32 (a := z / 16) (b := u) (by omega) t4
      rw [hg] at e5
      have HN := Lib.hid hnx
      clear hc hc2 hy' ht hf hz' hg hu hnx hT hr' hz
      go_wp2
      go_round
      case rel => exact ⟨k + 1, by omega, by go_num, by rw [HN.out]⟩
      case measure => simp [intOf]; omega
    · obtain rfl : k = s.size := by omega
      have ef := not32 hr
      have hm : 4294967295 - reg (4294967295 - n) (bitsB (s.data.toList.take s.size)) = moreN n s.data.toList := by
        unfold moreN top32
        rw [List.take_of_length_le (by omega)]
      rw [hm] at ef
      have HM := Lib.hid hm
      clear hm hz
      go_wp2
      go_ret
      exact ⟨rfl, rfl⟩

theorem sum_any (s : ByteArray) (hs : s.size ≤ maxLen) (w : World) (hT : TabAt w) :
    Calls Tryz.prog 51 #[.string s] w fun e w' => e = .returned (.int .u32 (moreN 0 s.data.toList)) ∧ w = w' := by
  have C := more_any 0 (by omega) s hs
  go_enter Tryz.func51, Tryz.ntmps51
  go_wp2_with (go_at_call 76; refine (C _ hT).mono ?_; rintro e w' ⟨rfl, rfl⟩)
  go_ret
  exact ⟨rfl, rfl⟩

end Go.Proofs.YteompckehokdoaaGreatDoor
namespace Go.Proofs.YteompckehokdoaaGreatDoor
open Go.RowKit

theorem info4 : (Tryz.prog.info? 4).map (fun i => (i.zero, i.size, i.bytes)) = some (some (.bool false), 1, 1) := by kernel_rfl

theorem int_odd (y : Nat) : ((y : Int) % 2 == 1) = (y % 2 == 1) := by
  rcases Nat.mod_two_eq_zero_or_one y with h | h
  · have : (y : Int) % 2 = 0 := by omega
    rw [this, h]; rfl
  · have : (y : Int) % 2 = 1 := by omega
    rw [this, h]; rfl

end Go.Proofs.YteompckehokdoaaGreatDoor
namespace Go.Proofs.YteompckehokdoaaGreatDoor
open Go.RowKit

/-- append of so many zeros to a slice that is full: a new row. -/
theorem run_append_zeros_full {P : Program} (w : World) (t tn ty e : TypeId) (i : TypeInfo) (z : Value) (k kn : IntKind) (ht : P.underlying t = some (.slice e)) (htn : P.underlying tn = some (.int kn)) (hi : P.info? e = some i) (hz : i.zero = some z)
    (g n m : Nat) (cs : Array Value) (hg : w.heap[g]? = some (.cells cs e (0, 0))) (hcs : cs.size = n) (hs : i.size = 1) (hb : i.bytes = 1) (h0 : 0 < m) (hn : n + m ≤ 100000000) :
    (Builtin.append_ #[t, tn] ty #[.slice (some ⟨g, 0, none⟩) n n, .int k m]).run P w =
      .ok (.slice (some ⟨w.heap.size, 0, none⟩) (n + m) (Go.grownCap w (n + m) n e)) (w.drew.alloc (.cells (cs ++ Builtin.zeroCells z.cells m ++ Builtin.zeroCells z.cells (Go.grownCap w (n + m) n e - (n + m))) e)) := by
  have hm : m ≠ 0 := by omega
  have hw : IntKind.i64.wrap (m : Int) = m := by rw [IntKind.wrap_i64]; omega
  have h63' : ¬ (9223372036854775807 < (n : Int) + (m : Int)) := by omega
  have hle := nextslicecap_le (need := n + m) (old := n) (by omega)
  have h48' : ¬ (281474976710656 < Builtin.nextslicecap (n + m) n) := by omega
  have h48i : ¬ (281474976710656 < (m : Int)) := by omega
  have hneg : ¬ ((m : Int) < 0) := by omega
  have hroom : ¬ (n + m ≤ n) := by omega
  have hfc := run_firstCells_some (P := P) w.drew 1 n ⟨g, 0, none⟩ n n cs.toList (by simp [hcs]) (fun j v hv => by
    have hadd : (⟨g, 0, none⟩ : Addr).add j = ⟨g, j, none⟩ := by unfold Addr.add; split <;> simp_all
    have hg' : w.drew.heap[g]? = some (.cells cs e (0, 0)) := hg
    rw [hadd, cell_of_row _ _ j cs e (0, 0) hg']
    simpa using hv)
  simp [Builtin.append_, run_underlying ht, run_underlying htn, sizeOf, typeInfo, zeroValue, hi, hz, asInt, asIntOf, hw, hm, hneg, hs, hb, h63', h48', h48i, Question.forced, newRow, Go.grownCap, hfc]
  exact fun h => absurd h hroom

theorem zeroCells_bool (m : Nat) : Builtin.zeroCells (Value.bool false).cells m = boolA (List.replicate m false) := by
  apply Array.ext_getElem?
  intro i
  by_cases h : i < m
  · rw [boolA_get _ _ (by simpa using h)]
    simp [Builtin.zeroCells, Value.cells, h, Nat.mod_one]
  · rw [Array.getElem?_eq_none (by simp [Builtin.zeroCells, Value.cells]; omega), Array.getElem?_eq_none (by rw [boolA_size]; simp; omega)]

theorem boolA_append (L K : List Bool) : boolA L ++ boolA K = boolA (L ++ K) := by simp [boolA]

theorem polyL_len : polyL.length = 33 := by simp [polyL]

theorem polyL_get (j : Nat) (h : j < 33) : polyL.getD j false = (4374732215 : Nat).testBit (32 - j) := by
  simp [polyL, List.getD, h]

/-- Where the division is at work: the row of bits, the polynomial's row, and all else as it was. -/
def DivAt (B : Nat) (D : List Bool) (w wr : World) : Prop :=
  wr.heap[B + 1]? = some (.cells (boolA D) 4 (0, 0)) ∧ wr.heap[B + 1 + 1]? = some (.cells (boolA polyL) 4 (0, 0)) ∧ Below B w wr

theorem DivAt.cell {B : Nat} {D : List Bool} {w wr : World} (h : DivAt B D w wr) (i : Nat) (hi : i < D.length) : wr.cell? ⟨B + 1, i, none⟩ = some (.bool (D.getD i false)) := by
  rw [cell_of_row _ _ i _ _ _ h.1, boolA_get _ _ hi]
  simp [List.getD, hi]

theorem DivAt.poly {B : Nat} {D : List Bool} {w wr : World} (h : DivAt B D w wr) (i : Nat) (hi : i < 33) : wr.cell? ⟨B + 1 + 1, i, none⟩ = some (.bool (polyL.getD i false)) := by
  rw [cell_of_row _ _ i _ _ _ h.2.1, boolA_get _ _ (by rw [polyL_len]; exact hi)]
  simp [List.getD, polyL_len, hi]

theorem DivAt.froz {B : Nat} {D : List Bool} {w wr : World} (h : DivAt B D w wr) (i : Nat) : wr.frozen? ⟨B + 1, i, none⟩ = false := frozen_of_row _ _ _ _ _ h.1

theorem DivAt.set {B : Nat} {D : List Bool} {w wr : World} (h : DivAt B D w wr) (i : Nat) (b : Bool) : DivAt B (D.set i b) w (wr.setCell ⟨B + 1, i, none⟩ (.bool b)) := by
  refine ⟨?_, ?_, h.2.2.setCell (by show B ≤ B + 1; omega) _⟩
  · rw [← boolA_set]; exact heap_setCell_same _ _ _ _ _ _ h.1
  · rw [heap_setCell_other _ _ _ _ (by show ¬ B + 1 + 1 = B + 1; omega)]; exact h.2.1

theorem DivAt.drew {B : Nat} {D : List Bool} {w wr : World} (h : DivAt B D w wr) : DivAt B D w wr.drew := ⟨h.1, h.2.1, h.2.2.drew⟩

theorem getD_set (D : List Bool) (i j : Nat) (b : Bool) (hi : i < D.length) : (D.set i b).getD j false = if i = j then b else D.getD j false := by
  rw [List.getD_eq_getElem?_getD, List.getElem?_set]
  by_cases h : i = j
  · rw [if_pos h, if_pos h, if_pos (by omega)]; rfl
  · rw [if_neg h, if_neg h, List.getD_eq_getElem?_getD]

end Go.Proofs.YteompckehokdoaaGreatDoor
