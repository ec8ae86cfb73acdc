/- Plain facts on texts as lists of bits, of no program. The walks of the sum: Sum, More, step. The walks of the document's sums: Bits, Step, More, Join. -/
import Derived.Test.YtijdbmapdmhknaaDoorGA
import Derived.Test.YtijdbmapdmhknaaDoorRows
import Derived.WalkKit
import Derived.WalkSpells
import Derived.WalkLawsBesides
import Derived.Deep.OwnRows
import Derived.Lib.Hide
namespace Go.Proofs.YtijdbmapdmhknaaDoor
open Go.RowKit

/-- The cells of a list of bits. -/
def boolA (L : List Bool) : Array Value := (L.map Value.bool).toArray

theorem boolA_size (L : List Bool) : (boolA L).size = L.length := by simp [boolA]

theorem boolA_get (L : List Bool) (i : Nat) (h : i < L.length) : (boolA L)[i]? = some (.bool L[i]) := by simp [boolA, h]

theorem boolA_of (L : List Bool) (C : Array Value) (hC : C.size = L.length) (h : ∀ i, i < L.length → C[i]? = some (.bool (L.getD i false))) : C = boolA L := by
  apply Array.ext_getElem?
  intro i
  by_cases hi : i < L.length
  · rw [h i hi, boolA_get L i hi]
    simp [List.getD, hi]
  · rw [Array.getElem?_eq_none (by omega), Array.getElem?_eq_none (by rw [boolA_size]; omega)]

theorem boolA_set (L : List Bool) (i : Nat) (b : Bool) : (boolA L).setIfInBounds i (.bool b) = boolA (L.set i b) := by
  apply Array.ext_getElem?
  intro j
  rw [Array.getElem?_setIfInBounds]
  by_cases h : i = j
  · subst h
    by_cases hi : i < L.length
    · rw [if_pos rfl, boolA_size, if_pos hi, boolA_get _ _ (by simpa using hi)]
      simp
    · rw [if_pos rfl, boolA_size, if_neg hi, Array.getElem?_eq_none (by rw [boolA_size, List.length_set]; omega)]
  · rw [if_neg h]
    simp [boolA, h]

theorem byteBits_get (c : UInt8) (k : Nat) (h : k < 8) : (byteBits c).getD k false = c.toNat.testBit k := by
  simp [byteBits, List.getD, h]

theorem byteBits_len (c : UInt8) : (byteBits c).length = 8 := by simp [byteBits]

theorem bits_at : ∀ (l : List UInt8) (i k : Nat) (h : i < l.length), k < 8 → (bitsB l).getD (8 * i + k) false = l[i].toNat.testBit k
  | c :: l, 0, k, _, hk => by
    rw [show bitsB (c :: l) = byteBits c ++ bitsB l by simp [bitsB], Nat.mul_zero, Nat.zero_add, List.getD_eq_getElem?_getD,
      List.getElem?_append_left (by rw [byteBits_len]; exact hk), ← List.getD_eq_getElem?_getD, byteBits_get c k hk]
    rfl
  | c :: l, i + 1, k, h, hk => by
    rw [show bitsB (c :: l) = byteBits c ++ bitsB l by simp [bitsB], List.getD_eq_getElem?_getD,
      List.getElem?_append_right (by rw [byteBits_len]; omega), byteBits_len, show 8 * (i + 1) + k - 8 = 8 * i + k by omega, ← List.getD_eq_getElem?_getD,
      bits_at l i k (by simpa using h) hk]
    rfl

theorem testBit_mod (x k : Nat) : x.testBit k = (x / 2 ^ k % 2 == 1) := by
  rw [Nat.testBit_eq_decide_div_mod_eq]
  rfl

theorem reg_take_bit (r : Nat) (L : List Bool) (k : Nat) (h : k < L.length) : reg r (L.take (k + 1)) = stp (reg r (L.take k) ^^^ L[k].toNat) := by
  rw [List.take_succ_eq_append_getElem h, reg_append]
  rfl

/-! ### Long division -/
/-- The polynomial's bits, the highest first. -/
def polyL : List Bool := (List.range 33).map fun k => (4374732215 : Nat).testBit (32 - k)

/-- What a row holds while a text's bits E are divided: ahead of 'at' whatever it holds; from there on the text's bits, on which the register lies. -/
def Divides (E : List Bool) (r a : Nat) (L : List Bool) : Prop := L.length = E.length ∧ ∀ j, a ≤ j → L.getD j false = (E.getD j false ^^ r.testBit (j - a))

theorem divides_next (E L : List Bool) (r a : Nat) (h : Divides E r a L) (L' : List Bool) (hL : L'.length = L.length)
    (hk : ∀ j, L'.getD j false = if a ≤ j ∧ j < a + 33 then (L.getD j false ^^ (L.getD a false && polyL.getD (j - a) false)) else L.getD j false) :
    Divides E (stp (r ^^^ (E.getD a false).toNat)) (a + 1) L' := by
  obtain ⟨h1, h2⟩ := h
  refine ⟨by omega, fun j hj => ?_⟩
  have ha : L.getD a false = (E.getD a false ^^ r.testBit 0) := by simpa using h2 a (Nat.le_refl _)
  obtain ⟨i, rfl⟩ : ∃ i, j = a + 1 + i := ⟨j - (a + 1), by omega⟩
  have e1 : a + 1 + i - (a + 1) = i := by omega
  have e2 : a + 1 + i - a = i + 1 := by omega
  rw [hk, e1, e2, h2 _ (by omega), e2]
  have hs : (stp (r ^^^ (E.getD a false).toNat)).testBit i = (r.testBit (i + 1) ^^ (L.getD a false && pol.testBit i)) := by
    have hb : (r ^^^ (E.getD a false).toNat).testBit 0 = L.getD a false := by
      rw [Nat.testBit_xor, ha, Bool.xor_comm]
      congr 1
      cases E.getD a false <;> rfl
    have hb1 : (r ^^^ (E.getD a false).toNat).testBit (i + 1) = r.testBit (i + 1) := by
      rw [Nat.testBit_xor]
      have : ((E.getD a false).toNat).testBit (i + 1) = false := by cases E.getD a false <;> simp [Nat.testBit_succ]
      rw [this, Bool.xor_false]
    unfold stp
    rw [Nat.testBit_xor, hb, Nat.testBit_shiftRight, Nat.add_comm 1 i, hb1]
    congr 1
    cases L.getD a false <;> simp
  rw [hs]
  by_cases hi : i < 32
  · rw [if_pos (by omega)]
    have hp : polyL.getD (i + 1) false = pol.testBit i := by
      have : ∀ i : Fin 32, polyL.getD (i.val + 1) false = pol.testBit i.val := by decide +kernel
      exact this ⟨i, hi⟩
    rw [hp, Bool.xor_assoc]
  · rw [if_neg (by omega)]
    have hp : pol.testBit i = false := Nat.testBit_lt_two_pow (Nat.lt_of_lt_of_le (by decide : pol < 2 ^ 32) (Nat.pow_le_pow_right (by omega) (by omega)))
    rw [hp, Bool.and_false, Bool.xor_false]

theorem divides_start (E L : List Bool) (hL : L.length = E.length) (hk : ∀ j, L.getD j false = if j < 32 then !E.getD j false else E.getD j false) : Divides E top32 0 L := by
  refine ⟨hL, fun j _ => ?_⟩
  rw [hk, Nat.sub_zero]
  by_cases h : j < 32
  · have : top32.testBit j = true := by
      have e : top32 = 2 ^ 32 - 1 := rfl
      rw [e, Nat.testBit_two_pow_sub_one]
      simpa using h
    rw [if_pos h, this, Bool.xor_true]
  · have : top32.testBit j = false := Nat.testBit_lt_two_pow (Nat.lt_of_lt_of_le (by decide : top32 < 2 ^ 32) (Nat.pow_le_pow_right (by omega) (by omega)))
    rw [if_neg h, this, Bool.xor_false]

/-- What stands behind so many rounds of the last loop. -/
theorem tail_step (r k : Nat) : (top32 - r) >>> k = 2 * ((top32 - r) >>> (k + 1)) + ((top32 - r).testBit k).toNat := by
  rw [Nat.shiftRight_eq_div_pow, Nat.shiftRight_eq_div_pow, Nat.pow_succ, ← Nat.div_div_eq_div_mul, Nat.testBit_eq_decide_div_mod_eq]
  have := Nat.mod_two_eq_zero_or_one ((top32 - r) / 2 ^ k)
  rcases this with h | h
  · rw [h]; simp; omega
  · rw [h]; simp; omega

theorem top_sub_bit (r k : Nat) (hr : r ≤ top32) (hk : k < 32) : (top32 - r).testBit k = !r.testBit k := by
  rw [top_xor hr, Nat.testBit_xor]
  have : top32.testBit k = true := by
    have e : top32 = 2 ^ 32 - 1 := rfl
    rw [e, Nat.testBit_two_pow_sub_one]
    simpa using hk
  rw [this, Bool.true_xor]

end Go.Proofs.YtijdbmapdmhknaaDoor
namespace Go.Proofs.YtijdbmapdmhknaaDoor
open Go.RowKit

/-- The table lies where the program lays it. -/
def TabAt (w : World) : Prop := ∀ i, i < 16 → w.cell? ⟨0, i, none⟩ = some (.int .u32 (T16.getD i 0 : Nat))

theorem TabAt.later {w w' : World} (h : TabAt w) (hb : Below w.heap.size w w') : TabAt w' := fun i hi => (hb.cell (World.block_lt_of_cell? _ _ (h i hi))).trans (h i hi)

set_option maxHeartbeats 400000 in
theorem more_any (n : Nat) (hn : n ≤ 4294967295) (s : ByteArray) (hs : s.size ≤ maxLen) (w : World) (hT : TabAt w) :
    Calls Tryd.prog 72 #[.int .u32 n, .string s] w fun e w' => e = .returned (.int .u32 (moreN n s.data.toList)) ∧ w = w' := by
  unfold maxLen at hs
  have hz := data_len s
  have en := not32 hn
  go_enter Tryd.func72, Tryd.ntmps72
  go_wp2
  go_loop [5, 11] (fun x i => ∃ (k : Nat), k ≤ s.size ∧ i = .int .i64 k ∧ x = .int .u32 (reg (4294967295 - n) (bitsB (s.data.toList.take k)) : Nat)) (fun _ i => s.size - (intOf i).toNat)
  case atStart => exact ⟨0, Nat.zero_le _, rfl, rfl⟩
  case round =>
    obtain ⟨k, hk, rfl, rfl⟩ := hrel
    have hr : reg (4294967295 - n) (bitsB (s.data.toList.take k)) ≤ 4294967295 := reg_le' (by omega)
    by_cases hlt : k < s.size
    · have hnx := reg_take (4294967295 - n) s.data.toList k (by omega)
      obtain ⟨r, hr'⟩ : ∃ r : Nat, r = reg (4294967295 - n) (bitsB (s.data.toList.take k)) := ⟨_, rfl⟩
      rw [← hr'] at hr hnx ⊢
      obtain ⟨c, hc⟩ : ∃ c : Nat, c = s[k].toNat := ⟨_, rfl⟩
      have hcl : c < 256 := by rw [hc]; exact s[k].toNat_lt
      have e0 : (s[k].toNat : Int) % 4294967296 = (c : Int) := by omega
      have hc2 : (s.data.toList[k]'(by omega)).toNat = c := hc.symm
      rw [hc2] at hnx
      have e1 := x32 (a := r) (b := c) hr (by omega)
      have hy := xor_le (a := r) (b := c) hr (by omega)
      have hf := four (r ^^^ c)
      obtain ⟨y, hy'⟩ : ∃ y : Nat, y = r ^^^ c := ⟨_, rfl⟩
      rw [← hy'] at e1 hy hf hnx
      have e2 := a32_15 hy
      have i2 : y % 16 < 16 := by omega
      have c2 := hT (y % 16) i2
      have t2 := T16_le ⟨y % 16, i2⟩
      simp only at t2
      obtain ⟨t, ht⟩ : ∃ t : Nat, t = T16.getD (y % 16) 0 := ⟨_, rfl⟩
      rw [← ht] at c2 hf t2
      have e3 : bits .xor .u32 ((y : Int) / 16) (t : Int) = ((y / 16 ^^^ t : Nat) : Int) := x32 (a := y / 16) (b := t) (by omega) t2
      rw [hf] at e3
      have hz1 := stps_le 4 hy
      have hg := four (stps 4 y)
      obtain ⟨z, hz'⟩ : ∃ z : Nat, z = stps 4 y := ⟨_, rfl⟩
      rw [← hz'] at e3 hz1 hg hnx
      have e4 := a32_15 hz1
      have i4 : z % 16 < 16 := by omega
      have c4 := hT (z % 16) i4
      have t4 := T16_le ⟨z % 16, i4⟩
      simp only at t4
      obtain ⟨u, hu⟩ : ∃ u : Nat, u = T16.getD (z % 16) 0 := ⟨_, rfl⟩
      rw [← hu] at c4 hg t4
      have e5 : bits .xor .u32 ((z : Int) / 16) (u : Int) = ((z / 16 ^^^ u : Nat) : Int) := x32 (a := z / 16) (b := u) (by omega) t4
      rw [hg] at e5
      have HN := Lib.hid hnx
      clear hc hc2 hy' ht hf hz' hg hu hnx hT hr' hz
      go_wp2
      go_round
      case rel => exact ⟨k + 1, by omega, by go_num, by rw [HN.out]⟩
      case measure => simp [intOf]; omega
    · obtain rfl : k = s.size := by omega
      have ef := not32 hr
      have hm : 4294967295 - reg (4294967295 - n) (bitsB (s.data.toList.take s.size)) = moreN n s.data.toList := by
        unfold moreN top32
        rw [List.take_of_length_le (by omega)]
      rw [hm] at ef
      have HM := Lib.hid hm
      clear hm hz
      go_wp2
      go_ret
      exact ⟨rfl, rfl⟩

theorem sum_any (s : ByteArray) (hs : s.size ≤ maxLen) (w : World) (hT : TabAt w) :
    Calls Tryd.prog 55 #[.string s] w fun e w' => e = .returned (.int .u32 (moreN 0 s.data.toList)) ∧ w = w' := by
  have C := more_any 0 (by omega) s hs
  go_enter Tryd.func55, Tryd.ntmps55
  go_wp2_with (go_at_call 72; refine (C _ hT).mono ?_; rintro e w' ⟨rfl, rfl⟩)
  go_ret
  exact ⟨rfl, rfl⟩

end Go.Proofs.YtijdbmapdmhknaaDoor
namespace Go.Proofs.YtijdbmapdmhknaaDoor
open Go.RowKit

theorem info4 : (Tryd.prog.info? 4).map (fun i => (i.zero, i.size, i.bytes)) = some (some (.bool false), 1, 1) := by kernel_rfl

theorem int_odd (y : Nat) : ((y : Int) % 2 == 1) = (y % 2 == 1) := by
  rcases Nat.mod_two_eq_zero_or_one y with h | h
  · have : (y : Int) % 2 = 0 := by omega
    rw [this, h]; rfl
  · have : (y : Int) % 2 = 1 := by omega
    rw [this, h]; rfl

set_option maxHeartbeats 800000 in
theorem bits_any (s : ByteArray) (hs : s.size ≤ 1000000) (w : World) :
    Calls Tryd.prog 76 #[.string s] w fun e w' => e = .returned (.slice (some ⟨w.heap.size, 0, none⟩) (8 * s.size) (8 * s.size)) ∧ w' = w.alloc (.cells (boolA (bitsB s.data.toList)) 4) := by
  have hmk := fun w' => run_make_row' (P := Tryd.prog) 110 4 (.bool false) 1 Tryd.underlying110 info4 rfl .i64 .i64 (8 * s.size) (by omega) (by omega) w'
  have e8 : ((8 * s.size : Nat) : Int) = 8 * (s.size : Int) := by omega
  simp only [e8] at hmk
  clear e8
  have hz := data_len s
  have HZ := Lib.hid hz
  have hbl := bits_len s.data.toList
  rw [hz] at hbl
  have HB := Lib.hid hbl
  clear hz hbl
  go_enter Tryd.func76, Tryd.ntmps76
  go_wp2
  go_loopw [4] (fun x wr => ∃ (i : Nat) (C : Array Value), i ≤ s.size ∧ x = .int .i64 i ∧ C.size = 8 * s.size ∧ (∀ j (h : j < 8 * i), C[j]? = some (.bool ((bitsB s.data.toList).getD j false))) ∧ wr = w.alloc (.cells C 4)) (fun x _ => s.size - (intOf x).toNat)
  case atStart => exact ⟨0, _, Nat.zero_le _, rfl, size_madeCells _ _, fun j h => by omega, rfl⟩
  case round =>
    obtain ⟨i, C, hi, rfl, hC, hcs, rfl⟩ := hrel
    by_cases hlt : i < s.size
    · have HC := Lib.hid hcs
      have hzz := HZ.out
      obtain ⟨c, hc⟩ : ∃ c : Nat, c = s[i].toNat := ⟨_, rfl⟩
      have hcl : c < 256 := by rw [hc]; exact s[i].toNat_lt
      have hat : ∀ k, k < 8 → (bitsB s.data.toList).getD (8 * i + k) false = c.testBit k := fun k hk => by
        rw [bits_at s.data.toList i k (by omega) hk, hc]; rfl
      have HAT := Lib.hid hat
      have b1 : decide ((i : Int) < s.size) = true := by simp; omega
      have hcc : s[i].toNat = c := hc.symm
      clear hcs hat hzz hc
      go_wp2
      go_loopw [5, 6] (fun b k wr => ∃ (m y : Nat) (D : Array Value), m ≤ 8 ∧ k = .int .i64 m ∧ b = .int .u8 y ∧ y = c / 2 ^ m ∧ D.size = 8 * s.size ∧ (∀ j (h : j < 8 * i + m), D[j]? = some (.bool ((bitsB s.data.toList).getD j false))) ∧ wr = w.alloc (.cells D 4)) (fun _ x _ => 8 - (intOf x).toNat)
      case atStart => exact ⟨0, c, _, Nat.zero_le _, rfl, rfl, by simp, hC, fun j h => HC.out j (by omega), rfl⟩
      case round =>
        obtain ⟨m, y, D, hm, rfl, rfl, hy, hD, hds, rfl⟩ := hrel
        have HY := Lib.hid hy
        have HD := Lib.hid hds
        have hyl : y < 256 := by rw [hy]; exact Nat.lt_of_le_of_lt (Nat.div_le_self _ _) hcl
        by_cases hlm : m < 8
        · have e5 : ((8 : Int) * i + m).toNat = 8 * i + m := by omega
          have hb := HAT.out m hlm
          have HBB := Lib.hid hb
          obtain ⟨v, hv⟩ : ∃ v, D[8 * i + m]? = some v := ⟨_, Array.getElem?_eq_getElem (by omega)⟩
          clear hb hy hds
          go_wp2
          go_roundw
          case rel =>
            refine ⟨m + 1, y / 2, _, by omega, by go_num, rfl, ?_, by simpa using hD, ?_, rfl⟩
            · rw [HY.out, Nat.div_div_eq_div_mul, Nat.pow_succ]
            · intro j hj
              rw [Array.getElem?_setIfInBounds]
              by_cases e : 8 * i + m = j
              · subst e
                rw [if_pos rfl, if_pos (by omega), HBB.out, testBit_mod, ← HY.out, int_odd]
              · rw [if_neg e]; exact HD.out j (by omega)
          case measure => simp [intOf]; omega
        · obtain rfl : m = 8 := by omega
          clear hy hds
          go_wp2
          go_roundw
          case rel => exact ⟨i + 1, D, by omega, by go_num, hD, fun j hj => HD.out j (by omega), rfl⟩
          case measure => simp [intOf]; omega
    · obtain rfl : i = s.size := by omega
      have hb := boolA_of (bitsB s.data.toList) C (by rw [HB.out]; exact hC) (fun j hj => hcs j (by rw [← HB.out]; exact hj))
      subst hb
      clear hcs hC
      go_wp2
      go_ret
      exact ⟨rfl, rfl⟩

end Go.Proofs.YtijdbmapdmhknaaDoor
