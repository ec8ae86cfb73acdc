/- The walk of Turn. -/
import Derived.Test.YtonhoahklmafgaaDoorTurnR
import Derived.RegionTactic
import Derived.BigRegion
namespace Go.Proofs.YtonhoahklmafgaaDoor
open Go.RowKit

theorem cell_frozen_row (w : World) (g i : Nat) (cs : Array Value) (t : TypeId) (m : Nat) (h : w.heap[g]? = some (.cells cs t (m, m + 1))) (hi : i < m) : w.frozen? ⟨g, i, none⟩ = false := by
  simp [World.frozen?, h]
  omega

theorem setCell_row (w : World) (g i : Nat) (cs : Array Value) (t : TypeId) (fr : Nat × Nat) (v : Value) (h : w.heap[g]? = some (.cells cs t fr)) : (w.setCell ⟨g, i, none⟩ v).heap[g]? = some (.cells (cs.setIfInBounds i v) t fr) := by
  simp [World.setCell, Array.getElem?_modify, h]

/-- A row of bytes of the call's own, as '[]byte(s)' lays it. -/
def ByteRow (w wr : World) (n : Nat) (bs : List UInt8) : Prop :=
  ∃ (cs : Array Value) (m : Nat), wr.heap[w.heap.size]? = some (.cells cs 5 (m, m + 1)) ∧ n ≤ m ∧ bs.length = n ∧ (∀ i, i < n → cs[i]? = some (.int .u8 ((bs.getD i 0).toNat : Int))) ∧ Below w.heap.size w wr

theorem ByteRow.cell {w wr : World} {n : Nat} {bs : List UInt8} (h : ByteRow w wr n bs) (i : Nat) (hi : i < n) : wr.cell? ⟨w.heap.size, i, none⟩ = some (.int .u8 ((bs.getD i 0).toNat : Int)) := by
  obtain ⟨cs, m, h1, _, _, h4, _⟩ := h
  rw [cell_of_row _ _ i _ _ _ h1]
  exact h4 i hi

theorem ByteRow.froz {w wr : World} {n : Nat} {bs : List UInt8} (h : ByteRow w wr n bs) (i : Nat) (hi : i < n) : wr.frozen? ⟨w.heap.size, i, none⟩ = false := by
  obtain ⟨cs, m, h1, h2, _, _, _⟩ := h
  exact cell_frozen_row _ _ _ _ _ _ h1 (by omega)

theorem ByteRow.set {w wr : World} {n : Nat} {bs : List UInt8} (h : ByteRow w wr n bs) (i : Nat) (hi : i < n) (c : UInt8) : ByteRow w (wr.setCell ⟨w.heap.size, i, none⟩ (.int .u8 (c.toNat : Int))) n (bs.set i c) := by
  obtain ⟨cs, m, h1, h2, h3, h4, h5⟩ := h
  refine ⟨_, m, setCell_row _ _ _ _ _ _ _ h1, h2, by rw [List.length_set]; exact h3, ?_, h5.setCell (Nat.le_refl _) _⟩
  intro j hj
  rw [Array.getElem?_setIfInBounds, List.getD_eq_getElem?_getD, List.getElem?_set]
  have hcs : i < cs.size := (Array.getElem?_eq_some_iff.1 (h4 i hi)).1
  by_cases e : i = j
  · subst e
    rw [if_pos rfl, if_pos hcs, if_pos rfl, if_pos (by omega)]
    rfl
  · rw [if_neg e, if_neg e, h4 j hj, List.getD_eq_getElem?_getD]

theorem ByteRow.drew {w wr : World} {n : Nat} {bs : List UInt8} (h : ByteRow w wr n bs) : ByteRow w wr.drew n bs := by
  obtain ⟨cs, m, h1, h2, h3, h4, h5⟩ := h
  exact ⟨cs, m, h1, h2, h3, h4, h5.drew⟩

theorem bytes_row (s : ByteArray) (w : World) : ∃ c w', (convert 9 54 (.string s)).run Tryd.prog w = .ok (.slice (some ⟨w.heap.size, 0, none⟩) s.size c) w' ∧ ByteRow w w' s.size s.data.toList := by
  refine ⟨_, _, run_bytes_of_string w 9 54 5 s Tryd.underlying9 Tryd.underlying54 Tryd.underlying5, ?_⟩
  refine ⟨_, _, heap_alloc_last w.drew _, ?_, data_len s, ?_, ?_⟩
  · simp [bytesRow]
  · intro i hi
    rw [bytesRow_at s _ i hi]
    have hl : i < s.data.toList.length := by rw [data_len]; exact hi
    rw [List.getD_eq_getElem?_getD, List.getElem?_eq_getElem hl]
    rfl
  · exact (Below.refl _ _).drew.alloc (Nat.le_refl _) _

/-- A bit of a text turned. -/
theorem bits_set (bs : List UInt8) (j : Nat) (h : j < 8 * bs.length) :
    bitsB (bs.set (j / 8) (UInt8.ofNat ((bs.getD (j / 8) 0).toNat ^^^ 2 ^ (j % 8)))) = (bitsB bs).set j (!(bitsB bs).getD j false) := by
  have hj8 : j / 8 < bs.length := by omega
  apply List.ext_getElem
  · rw [bits_len, List.length_set, List.length_set, bits_len]
  · intro i h1 h2
    have hi : i < 8 * bs.length := by rw [List.length_set, bits_len] at h2; exact h2
    have hi8 : i / 8 < bs.length := by omega
    have ei : i = 8 * (i / 8) + i % 8 := by omega
    have hm : i % 8 < 8 := Nat.mod_lt _ (by omega)
    have g1 := bits_at (bs.set (j / 8) (UInt8.ofNat ((bs.getD (j / 8) 0).toNat ^^^ 2 ^ (j % 8)))) (i / 8) (i % 8) (by rw [List.length_set]; exact hi8) hm
    have g2 := bits_at bs (i / 8) (i % 8) hi8 hm
    rw [← ei] at g1 g2
    rw [List.getD_eq_getElem?_getD, List.getElem?_eq_getElem h1] at g1
    have h3 : i < (bitsB bs).length := by rw [bits_len]; exact hi
    rw [List.getD_eq_getElem?_getD, List.getElem?_eq_getElem h3] at g2
    simp only [Option.getD_some] at g1 g2
    rw [g1, List.getElem_set, List.getElem_set]
    have hx : bs.getD (j / 8) 0 = bs[j / 8] := by simp [List.getD, hj8]
    have hlt : bs[j / 8].toNat ^^^ 2 ^ (j % 8) < 256 := by
      have a1 := (bs[j / 8]).toNat_lt
      exact Nat.xor_lt_two_pow (n := 8) (by omega) (Nat.pow_lt_pow_right (by omega) (Nat.mod_lt _ (by omega)))
    by_cases e : j = i
    · subst e
      rw [if_pos rfl, if_pos rfl, hx, UInt8.toNat_ofNat', Nat.mod_eq_of_lt (by omega), Nat.testBit_xor, Nat.testBit_two_pow_self, Bool.xor_true]
      rw [List.getD_eq_getElem?_getD, List.getElem?_eq_getElem h3]
      simp only [Option.getD_some]
      rw [g2]
    · rw [if_neg e, g2]
      by_cases e8 : j / 8 = i / 8
      · have hne : ¬ j % 8 = i % 8 := by omega
        rw [if_pos e8, hx, UInt8.toNat_ofNat', Nat.mod_eq_of_lt (by omega), Nat.testBit_xor, Nat.testBit_two_pow]
        have : decide (j % 8 = i % 8) = false := by simpa using hne
        rw [this, Bool.xor_false]
        congr 2
        simp only [e8]
      · rw [if_neg e8]

set_option maxHeartbeats 1000000 in
theorem turn_any (s : ByteArray) (hs : s.size ≤ 100000) (a : Int) (ha : -9223372036854775808 ≤ a ∧ a ≤ 9223372036854775807) (b : Nat) (hb : b ≤ 4294967295) (w : World) :
    Calls Tryd.prog 23 #[.string s, .int .i64 a, .int .u32 b] w fun e w' => e = .returned (.string (str (turnL s a b))) ∧ Below w.heap.size w w' := by
  obtain ⟨cap, w1, hconv, hrow⟩ := bytes_row s w
  obtain ⟨ha1, ha2⟩ := ha
  have HR := Lib.hid hrow
  obtain ⟨L, hL⟩ : ∃ L : List Bool, L = bitsB s.data.toList := ⟨_, rfl⟩
  have hbl := bits_len s.data.toList
  rw [data_len, ← hL] at hbl
  have HBL := Lib.hid hbl
  have HL := Lib.hid hL
  clear hrow hL hbl
  go_enter Tryd.func23, Tryd.ntmps23
  go_wp2
  go_loopw [12] (fun x wr => ∃ (i : Nat) (bs : List UInt8), i ≤ 32 ∧ x = .int .i64 i ∧ bitsB bs = flips L a b i ∧ ByteRow w wr s.size bs) (fun x _ => 32 - (intOf x).toNat)
  case atStart => exact ⟨0, s.data.toList, Nat.zero_le _, rfl, by rw [flips_zero, HL.out], HR.out⟩
  case round =>
    obtain ⟨i, bs, hi, rfl, hbits, hrow⟩ := hrel
    have HB := Lib.hid hbits
    have HW := Lib.hid hrow
    clear hbits hrow
    by_cases hlt : i < 32
    · have hbk : b / 2 ^ i ≤ 4294967295 := Nat.le_trans (Nat.div_le_self _ _) hb
      have e1 := a32_1 hbk
      have ec : ((b / 2 ^ i : Nat) : Int) = (b : Int) / 2 ^ i := by simp
      rw [ec] at e1
      have b32 : decide ((i : Int) < 32) = true := by simp; omega
      have hbit := testBit_mod b i
      have HBIT := Lib.hid hbit
      clear ec hbit
      rcases Nat.mod_two_eq_zero_or_one (b / 2 ^ i) with h | h
      · rw [h] at e1
        have e3 : bits .and .u32 ((b : Int) / 2 ^ i) 1 = 0 := e1
        have hoff := flips_succ_off L a b i (by rw [HBIT.out, h]; rfl)
        have HOFF := Lib.hid hoff
        clear e1 h hoff
        go_wp2
        go_roundw
        case rel => exact ⟨i + 1, bs, by omega, by go_num, by rw [HOFF.out]; exact HB.out, HW.out⟩
        case measure => simp [intOf]; omega
      · rw [h] at e1
        have e3 : bits .and .u32 ((b : Int) / 2 ^ i) 1 = 1 := e1
        clear e1
        by_cases hin : 0 ≤ a + i ∧ a + i < 8 * s.size
        · obtain ⟨j, hj⟩ := Int.eq_ofNat_of_zero_le hin.1
          have hjl : j < 8 * s.size := by omega
          have hjc := HW.out.cell (j / 8) (by omega)
          have hjf := HW.out.froz (j / 8) (by omega)
          obtain ⟨c, hc⟩ : ∃ c : UInt8, c = bs.getD (j / 8) 0 := ⟨_, rfl⟩
          rw [← hc] at hjc
          have hcl := c.toNat_lt
          obtain ⟨p, hp⟩ : ∃ p : Nat, p = 2 ^ (j % 8) := ⟨_, rfl⟩
          have hpl : p < 256 := by rw [hp]; exact Nat.lt_of_lt_of_le (Nat.pow_lt_pow_right (by omega) (Nat.mod_lt _ (by omega))) (by decide : 2 ^ 8 ≤ 256)
          have e4 := u8_xor_nat c.toNat p (by omega) (by omega)
          have hxl : c.toNat ^^^ p < 256 := Nat.xor_lt_two_pow (n := 8) (by omega) (by omega)
          have e6 : ((j : Int) / 8).toNat = j / 8 := by omega
          have e7 : ((j : Int) % 8).toNat = j % 8 := by omega
          have hpi : (2 : Int) ^ (j % 8) = (p : Int) := by rw [hp]; simp
          obtain ⟨x, hx⟩ : ∃ x : UInt8, x = UInt8.ofNat (c.toNat ^^^ p) := ⟨_, rfl⟩
          have hx2 : c.toNat ^^^ p = x.toNat := by rw [hx, UInt8.toNat_ofNat', Nat.mod_eq_of_lt (by omega)]
          rw [hx2] at e4
          have hset := (HW.out.set (j / 8) (by omega) x).drew
          have hbs : bitsB (bs.set (j / 8) x) = flips L a b (i + 1) := by
            obtain ⟨cs, mm, _, _, hl, _, _⟩ := HW.out
            have h1 := bits_set bs j (by rw [hl]; exact hjl)
            rw [← hc, ← hp, ← hx] at h1
            rw [h1, flips_succ_in L a b i j hj (by rw [HBL.out]; exact hjl), HBIT.out, h]
            have h2 : ∀ (A B : List Bool) (e : A = B) (hB : j < B.length), A.set j (!A.getD j false) = B.set j (B[j] ^^ (1 == 1)) := by
              intro A B e hB
              subst e
              simp [List.getD, hB]
            exact h2 _ _ HB.out _
          have HBS := Lib.hid hbs
          have HSET := Lib.hid hset
          have d1 : ((j : Int) / 8) < s.size := by omega
          have d0 : (0 : Int) ≤ (j : Int) / 8 := by omega
          have d3 : (0 : Int) ≤ (j : Int) % 8 := by omega
          have d4 : (j : Int) % 8 < 8 := by omega
          clear h hin hc hp hx hx2 hbs hset
          go_wp2
          go_region
          go_wp2
          go_roundw
          case rel => exact ⟨i + 1, bs.set (j / 8) x, by omega, by go_num, HBS.out, HSET.out⟩
          case measure => simp [intOf]; omega
        · have hoff := flips_succ_out L a b i (by rw [HBL.out]; omega)
          have HOFF := Lib.hid hoff
          clear hoff h
          obtain ⟨z, hz⟩ : ∃ z : Int, wrap64 (a + (i : Int)) = z := ⟨_, rfl⟩
          have hzz : z < 0 ∨ 8 * (s.size : Int) ≤ z := by
            rw [← hz]
            unfold wrap64
            omega
          have hzl : z ≤ 9223372036854775807 := by
            rw [← hz]
            unfold wrap64
            omega
          clear hin
          rcases hzz with hz0 | hz0
          · go_wp2
            go_roundw
            case rel => exact ⟨i + 1, bs, by omega, by go_num, by rw [HOFF.out]; exact HB.out, HW.out⟩
            case measure => simp [intOf]; omega
          · obtain ⟨j, rfl⟩ := Int.eq_ofNat_of_zero_le (show 0 ≤ z by omega)
            have hj : ¬ ((j : Int) / 8 < s.size) := by omega
            go_wp2
            go_roundw
            case rel => exact ⟨i + 1, bs, by omega, by go_num, by rw [HOFF.out]; exact HB.out, HW.out⟩
            case measure => simp [intOf]; omega
    · obtain rfl : i = 32 := by omega
      have hbe : bs = turnL s a b := bits_inj _ _ (by rw [turnL_bits, HB.out, HL.out])
      have hcv := conv_bytes (P := Tryd.prog) wr 54 9 5 w.heap.size s.size cap bs (by obtain ⟨_, _, _, _, h, _, _⟩ := HW.out; exact h) Tryd.underlying54 Tryd.underlying5 Tryd.underlying9 (fun k hk => by
        have hl : bs.length = s.size := by obtain ⟨_, _, _, _, h, _, _⟩ := HW.out; exact h
        rw [HW.out.cell k (by omega)]
        simp [List.getD, hk])
      have hbb : Below w.heap.size w wr := by obtain ⟨_, _, _, _, _, _, h⟩ := HW.out; exact h
      have HBE := Lib.hid hbe
      clear hbe
      go_wp2
      go_ret
      exact ⟨by rw [← HBE.out]; rfl, hbb⟩

end Go.Proofs.YtonhoahklmafgaaDoor
