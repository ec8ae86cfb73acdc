/- Plain facts on the sum, of no program: steps, registers, bits. -/
import Derived.Test.YtdmbebafpamgfaaDoorPlain
namespace Go.Proofs.YtdmbebafpamgfaaDoor
open Go.RowKit


def pol : Nat := 3988292384
def stp (x : Nat) : Nat := (x >>> 1) ^^^ (bif x.testBit 0 then pol else 0)
def stps : Nat → Nat → Nat
  | 0, x => x
  | k + 1, x => stps k (stp x)
def eat (x : Nat) (b : Bool) : Nat := stp (x ^^^ b.toNat)
def reg (x : Nat) (l : List Bool) : Nat := l.foldl eat x
def byteBits (c : UInt8) : List Bool := (List.range 8).map fun k => c.toNat.testBit k
def bitsB (l : List UInt8) : List Bool := l.flatMap byteBits
def top32 : Nat := 4294967295
/-- What comes of a sum by a text behind it. -/
def moreN (sum : Nat) (l : List UInt8) : Nat := top32 - reg (top32 - sum) (bitsB l)

theorem stp_xor (x y : Nat) : stp (x ^^^ y) = stp x ^^^ stp y := by
  unfold stp
  rw [Nat.testBit_xor, Nat.shiftRight_xor_distrib]
  cases x.testBit 0 <;> cases y.testBit 0 <;> simp
  · ac_rfl
  · ac_rfl
  · rw [show (x >>> 1 ^^^ pol ^^^ (y >>> 1 ^^^ pol)) = (x >>> 1 ^^^ y >>> 1) ^^^ (pol ^^^ pol) by ac_rfl]
    simp

theorem stp_lt {x : Nat} (h : x < 2 ^ 32) : stp x < 2 ^ 32 := by
  unfold stp
  apply Nat.xor_lt_two_pow
  · rw [Nat.shiftRight_eq_div_pow]; omega
  · cases x.testBit 0 <;> simp [pol]

theorem stps_lt : ∀ (k : Nat) {x : Nat}, x < 2 ^ 32 → stps k x < 2 ^ 32
  | 0, _, h => h
  | k + 1, _, h => stps_lt k (stp_lt h)

theorem stp_zero : stp 0 = 0 := by decide

theorem stps_zero : ∀ k, stps k 0 = 0
  | 0 => rfl
  | k + 1 => by simp [stps, stp_zero, stps_zero k]

theorem stps_xor : ∀ (k x y : Nat), stps k (x ^^^ y) = stps k x ^^^ stps k y
  | 0, _, _ => rfl
  | k + 1, x, y => by simp only [stps, stp_xor, stps_xor k]

theorem stps_add : ∀ (k m x : Nat), stps (k + m) x = stps m (stps k x)
  | 0, m, x => by simp [stps]
  | k + 1, m, x => by rw [Nat.add_right_comm]; exact stps_add k m (stp x)

theorem stps_succ (k x : Nat) : stps (k + 1) x = stp (stps k x) := stps_add k 1 x

theorem stp_ne {x : Nat} (h : x < 2 ^ 32) (hx : x ≠ 0) : stp x ≠ 0 := by
  intro e
  unfold stp at e
  cases hb : x.testBit 0 with
  | false =>
    rw [hb] at e
    simp only [cond_false, Nat.xor_zero, Nat.shiftRight_eq_div_pow, Nat.pow_one] at e
    rw [Nat.testBit_zero] at hb
    have : x % 2 = 0 := by
      have := Nat.mod_two_eq_zero_or_one x
      simp at hb; omega
    omega
  | true =>
    rw [hb] at e
    simp only [cond_true] at e
    have e2 : x >>> 1 = pol := by
      have := congrArg (· ^^^ pol) e
      simpa [Nat.xor_assoc] using this
    rw [Nat.shiftRight_eq_div_pow] at e2
    unfold pol at e2
    omega

theorem stps_ne : ∀ (k : Nat) {x : Nat}, x < 2 ^ 32 → x ≠ 0 → stps k x ≠ 0
  | 0, _, _, h => h
  | k + 1, _, h, hx => stps_ne k (stp_lt h) (stp_ne h hx)

/-- The number of some bits, the least first. -/
def ofBits : List Bool → Nat
  | [] => 0
  | b :: l => b.toNat + 2 * ofBits l

theorem stp_twice (n : Nat) : stp (2 * n) = n := by
  unfold stp
  have : (2 * n).testBit 0 = false := by simp
  rw [this, Nat.shiftRight_eq_div_pow]
  simp

theorem ofBits_cons_xor (x : Nat) (b : Bool) (l : List Bool) : x ^^^ ofBits (b :: l) = (x ^^^ b.toNat) ^^^ (2 * ofBits l) := by
  have e : ofBits (b :: l) = b.toNat ^^^ (2 * ofBits l) := by
    apply Nat.eq_of_testBit_eq
    intro i
    rw [Nat.testBit_xor]
    cases i with
    | zero => cases b <;> simp [ofBits, Nat.testBit_zero] <;> omega
    | succ i =>
      rw [Nat.testBit_succ, Nat.testBit_succ, Nat.testBit_succ]
      have h1 : ofBits (b :: l) / 2 = ofBits l := by cases b <;> simp [ofBits] <;> omega
      have h2 : b.toNat / 2 = 0 := by cases b <;> rfl
      rw [h1, h2]
      simp
  rw [e, Nat.xor_assoc]

theorem reg_stps : ∀ (l : List Bool) (x : Nat), reg x l = stps l.length (x ^^^ ofBits l)
  | [], x => by simp [reg, stps, ofBits]
  | b :: l, x => by
    have ih := reg_stps l (eat x b)
    rw [List.length_cons, stps, ofBits_cons_xor, stp_xor, stp_twice]
    exact ih

theorem reg_append (x : Nat) (l m : List Bool) : reg x (l ++ m) = reg (reg x l) m := List.foldl_append

theorem reg_cons (x : Nat) (b : Bool) (m : List Bool) : reg x (b :: m) = reg (eat x b) m := rfl

theorem eat_lt {x : Nat} (b : Bool) (h : x < 2 ^ 32) : eat x b < 2 ^ 32 := stp_lt (Nat.xor_lt_two_pow h (by cases b <;> simp))

theorem reg_lt : ∀ (l : List Bool) {x : Nat}, x < 2 ^ 32 → reg x l < 2 ^ 32
  | [], _, h => h
  | b :: l, _, h => reg_lt l (eat_lt b h)

theorem reg_le {l : List Bool} {x : Nat} (h : x ≤ top32) : reg x l ≤ top32 := by
  have := reg_lt l (x := x) (by unfold top32 at h; omega)
  have e : top32 = 4294967295 := rfl
  omega

theorem eat_xor (x y : Nat) (a b : Bool) : eat (x ^^^ y) (a ^^ b) = eat x a ^^^ eat y b := by
  unfold eat
  rw [← stp_xor]
  congr 1
  have : (a ^^ b).toNat = a.toNat ^^^ b.toNat := by cases a <;> cases b <;> rfl
  rw [this]
  ac_rfl

theorem reg_xor : ∀ (l m : List Bool) (x y : Nat), l.length = m.length → reg (x ^^^ y) (List.zipWith (· ^^ ·) l m) = reg x l ^^^ reg y m
  | [], [], _, _, _ => rfl
  | a :: l, b :: m, x, y, h => by
    rw [List.zipWith_cons_cons, reg_cons, reg_cons, reg_cons, eat_xor]
    exact reg_xor l m _ _ (by simpa using h)

theorem bits_len : ∀ l : List UInt8, (bitsB l).length = 8 * l.length
  | [] => rfl
  | c :: l => by
    have := bits_len l
    simp only [bitsB, List.flatMap_cons, List.length_append] at *
    simp only [byteBits, List.length_map, List.length_range, List.length_cons, this]
    omega

theorem bits_append (a b : List UInt8) : bitsB (a ++ b) = bitsB a ++ bitsB b := by simp [bitsB]

theorem more_lt (sum : Nat) (l : List UInt8) : moreN sum l ≤ top32 := Nat.sub_le _ _

theorem top_xor {x : Nat} (h : x ≤ top32) : top32 - x = top32 ^^^ x := by
  have e : top32 = 2 ^ 32 - 1 := rfl
  rw [e]
  rw [e] at h
  apply Nat.eq_of_testBit_eq
  intro i
  rw [Nat.testBit_xor, Nat.testBit_two_pow_sub_one, show 2 ^ 32 - 1 - x = 2 ^ 32 - (x + 1) by omega, Nat.testBit_two_pow_sub_succ (by omega)]
  by_cases hi : i < 32
  · simp [hi]
  · have : x.testBit i = false := Nat.testBit_lt_two_pow (Nat.lt_of_lt_of_le (by omega : x < 2 ^ 32) (Nat.pow_le_pow_right (by omega) (by omega)))
    simp [hi, this]

theorem more_more (sum : Nat) (a b : List UInt8) : moreN (moreN sum a) b = moreN sum (a ++ b) := by
  unfold moreN
  have hr : reg (top32 - sum) (bitsB a) < 2 ^ 32 := reg_lt _ (by unfold top32; omega)
  rw [show top32 - (top32 - reg (top32 - sum) (bitsB a)) = reg (top32 - sum) (bitsB a) by unfold top32 at *; omega, bits_append, reg_append]

/-- The joining of two sums. -/
theorem more_join (a b : List UInt8) : stps (8 * b.length) (moreN 0 a) ^^^ moreN 0 b = moreN 0 (a ++ b) := by
  rw [← more_more 0 a b]
  have ha := more_lt 0 a
  generalize moreN 0 a = x at *
  unfold moreN
  have h1 : reg (top32 - x) (bitsB b) ≤ top32 := reg_le (Nat.sub_le _ _)
  have h2 : reg (top32 - 0) (bitsB b) ≤ top32 := reg_le (Nat.sub_le _ _)
  rw [top_xor h1, top_xor h2, top_xor ha]
  have e : reg (top32 ^^^ x) (bitsB b) = reg top32 (bitsB b) ^^^ stps (8 * b.length) x := by
    rw [reg_stps, reg_stps, bits_len, ← stps_xor]
    congr 1
    ac_rfl
  rw [e, Nat.sub_zero]
  ac_rfl

/-- Turned bits: those from 'at' on for which 'bits' has a bit, so many of them. -/
def flips (L : List Bool) (at' : Int) (bits : Nat) (i : Nat) : List Bool :=
  L.mapIdx fun j b => b ^^ (decide (at' ≤ (j : Int) ∧ (j : Int) < at' + i) && bits.testBit ((j : Int) - at').toNat)

theorem flips_len (L : List Bool) (a : Int) (b i : Nat) : (flips L a b i).length = L.length := by simp [flips]

theorem flips_get (L : List Bool) (a : Int) (b i j : Nat) (h : j < L.length) : (flips L a b i)[j]'(by rw [flips_len]; exact h) = (L[j] ^^ (decide (a ≤ (j : Int) ∧ (j : Int) < a + i) && b.testBit ((j : Int) - a).toNat)) := by
  simp [flips]

theorem flips_zero (L : List Bool) (a : Int) (b : Nat) : flips L a b 0 = L := by
  apply List.ext_getElem (flips_len _ _ _ _)
  intro j h1 h2
  rw [flips_get _ _ _ _ _ h2]
  have : decide (a ≤ (j : Int) ∧ (j : Int) < a + (0 : Nat)) = false := by simp
  rw [this]
  simp

/-- One moreN bit. -/
theorem flips_succ_in (L : List Bool) (a : Int) (b i k : Nat) (hk : a + i = k) (hl : k < L.length) :
    flips L a b (i + 1) = (flips L a b i).set k ((flips L a b i)[k]'(by rw [flips_len]; exact hl) ^^ b.testBit i) := by
  apply List.ext_getElem (by simp [flips_len])
  intro j h1 h2
  have hj : j < L.length := by simpa [flips_len] using h1
  rw [flips_get _ _ _ _ _ hj, List.getElem_set]
  by_cases e : k = j
  · subst e
    rw [if_pos rfl, flips_get _ _ _ _ _ hl]
    have h3 : decide (a ≤ (k : Int) ∧ (k : Int) < a + (i + 1 : Nat)) = true := by simp; omega
    have h4 : decide (a ≤ (k : Int) ∧ (k : Int) < a + i) = false := by simp; omega
    have h5 : ((k : Int) - a).toNat = i := by omega
    rw [h3, h4, h5]
    simp
  · rw [if_neg e, flips_get _ _ _ _ _ hj]
    have : decide (a ≤ (j : Int) ∧ (j : Int) < a + (i + 1 : Nat)) = decide (a ≤ (j : Int) ∧ (j : Int) < a + i) := by
      rw [decide_eq_decide]; omega
    rw [this]

theorem flips_succ_out (L : List Bool) (a : Int) (b i : Nat) (hk : a + i < 0 ∨ (L.length : Int) ≤ a + i) : flips L a b (i + 1) = flips L a b i := by
  apply List.ext_getElem (by simp [flips_len])
  intro j h1 h2
  have hj : j < L.length := by simpa [flips_len] using h1
  rw [flips_get _ _ _ _ _ hj, flips_get _ _ _ _ _ hj]
  have : decide (a ≤ (j : Int) ∧ (j : Int) < a + (i + 1 : Nat)) = decide (a ≤ (j : Int) ∧ (j : Int) < a + i) := by
    rw [decide_eq_decide]; omega
  rw [this]

theorem flips_succ_off (L : List Bool) (a : Int) (b i : Nat) (hb : b.testBit i = false) : flips L a b (i + 1) = flips L a b i := by
  by_cases h : a + i < 0 ∨ (L.length : Int) ≤ a + i
  · exact flips_succ_out L a b i h
  · obtain ⟨k, hk⟩ := Int.eq_ofNat_of_zero_le (show 0 ≤ a + i by omega)
    rw [flips_succ_in L a b i k hk (by omega), hb]
    simp

theorem flips_twice (L : List Bool) (a : Int) (b i : Nat) : flips (flips L a b i) a b i = L := by
  apply List.ext_getElem (by simp [flips_len])
  intro j h1 h2
  rw [flips_get _ _ _ _ _ (by rw [flips_len]; exact h2), flips_get _ _ _ _ _ h2, Bool.xor_assoc, Bool.xor_self, Bool.xor_false]

/-- The difference of a text and itself turned. -/
theorem flips_diff (L : List Bool) (a b : Nat) (ha : a ≤ L.length) (hb : b < 2 ^ 32) :
    List.zipWith (· ^^ ·) L (flips L a b 32) = List.replicate a false ++ (List.range (L.length - a)).map b.testBit := by
  apply List.ext_getElem
  · simp [flips_len]; omega
  · intro j h1 h2
    have hj : j < L.length := by simp [flips_len] at h1; exact h1
    rw [List.getElem_zipWith, flips_get _ _ _ _ _ hj]
    by_cases hja : j < a
    · rw [List.getElem_append_left (by simpa using hja)]
      have : decide ((a : Int) ≤ (j : Int) ∧ (j : Int) < a + (32 : Nat)) = false := by simp; omega
      rw [this]
      simp
    · rw [List.getElem_append_right (by simpa using hja)]
      simp only [List.getElem_map, List.getElem_range, List.length_replicate]
      have e : ((j : Int) - a).toNat = j - a := by omega
      rw [e]
      by_cases h32 : j - a < 32
      · have : decide ((a : Int) ≤ (j : Int) ∧ (j : Int) < a + (32 : Nat)) = true := by simp; omega
        rw [this]
        simp
      · have h3 : decide ((a : Int) ≤ (j : Int) ∧ (j : Int) < a + (32 : Nat)) = false := by simp; omega
        have h4 : b.testBit (j - a) = false := Nat.testBit_lt_two_pow (Nat.lt_of_lt_of_le hb (Nat.pow_le_pow_right (by omega) (by omega)))
        rw [h3, h4]
        simp

theorem ofBits_testBit : ∀ (l : List Bool) (i : Nat), (ofBits l).testBit i = l.getD i false
  | [], i => by simp [ofBits]
  | b :: l, 0 => by cases b <;> simp [ofBits, Nat.testBit_zero] <;> omega
  | b :: l, i + 1 => by
    rw [Nat.testBit_succ]
    have h1 : ofBits (b :: l) / 2 = ofBits l := by cases b <;> simp [ofBits] <;> omega
    rw [h1, ofBits_testBit l i]
    simp

theorem ofBits_range (b m : Nat) : ofBits ((List.range m).map b.testBit) = b % 2 ^ m := by
  apply Nat.eq_of_testBit_eq
  intro i
  rw [ofBits_testBit, Nat.testBit_mod_two_pow]
  by_cases h : i < m
  · simp [List.getD, h]
  · simp [List.getD, h]

theorem ofBits_lt : ∀ l : List Bool, ofBits l < 2 ^ l.length
  | [] => by simp [ofBits]
  | b :: l => by
    have := ofBits_lt l
    cases b <;> simp only [ofBits, List.length_cons, Nat.pow_succ, Bool.toNat_false, Bool.toNat_true] <;> omega

theorem reg_zeros (a : Nat) : reg 0 (List.replicate a false) = 0 := by
  rw [reg_stps]
  have : ofBits (List.replicate a false) = 0 := by
    induction a with
    | zero => rfl
    | succ a ih => simp [List.replicate_succ, ofBits, ih]
  rw [this]
  exact stps_zero _

theorem map_xor_self (L K : List Bool) (h : L.length = K.length) (hz : ∀ j (h1 : j < (List.zipWith (· ^^ ·) L K).length), (List.zipWith (· ^^ ·) L K)[j] = false) : L = K := by
  apply List.ext_getElem h
  intro j h1 h2
  have := hz j (by simp; omega)
  rw [List.getElem_zipWith] at this
  simpa using this

/-- A change within 32 bits changes the register. -/
theorem burst (L : List Bool) (a b x : Nat) (ha : a ≤ L.length) (hb : b < 2 ^ 32) (h : reg x L = reg x (flips L a b 32)) : flips L a b 32 = L := by
  have hx := reg_xor L (flips L a b 32) x x (flips_len _ _ _ _).symm
  rw [h, Nat.xor_self, Nat.xor_self, flips_diff L a b ha hb, reg_append, reg_zeros, reg_stps, Nat.zero_xor, ofBits_range] at hx
  have hz : b % 2 ^ (L.length - a) = 0 := by
    refine Classical.byContradiction fun hn => ?_
    exact stps_ne _ (Nat.lt_of_le_of_lt (Nat.mod_le _ _) hb) hn hx
  refine (map_xor_self L _ (flips_len _ _ _ _).symm ?_).symm
  intro j h1
  have e := flips_diff L a b ha hb
  have e2 : ∀ (l m : List Bool) (h : l = m) (j : Nat) (hj : j < l.length), l[j] = m[j]'(h ▸ hj) := by
    intro l m h j hj; subst h; rfl
  rw [e2 _ _ e j h1]
  by_cases hja : j < a
  · rw [List.getElem_append_left (by simpa using hja)]; simp
  · rw [List.getElem_append_right (by simpa using hja)]
    simp only [List.getElem_map, List.getElem_range, List.length_replicate]
    have hj : j < L.length := by simp [flips_len] at h1; exact h1
    have := Nat.testBit_mod_two_pow b (L.length - a) (j - a)
    rw [hz] at this
    simp at this
    exact this (by omega)


/-- What four steps make of four bits. -/
def T16 : List Nat := [0, 498536548, 997073096, 651767980, 1994146192, 1802195444, 1303535960, 1342533948, 3988292384, 4027552580, 3604390888, 3412177804, 2607071920, 2262029012, 2685067896, 3183342108]

theorem T16_steps : ∀ m : Fin 16, stps 4 m.val = T16.getD m.val 0 := by decide +kernel

theorem T16_le : ∀ m : Fin 16, T16.getD m.val 0 ≤ 4294967295 := by decide +kernel

theorem four (x : Nat) : x / 16 ^^^ T16.getD (x % 16) 0 = stps 4 x := by
  have hm : x % 16 < 16 := by omega
  have e : x = (16 * (x / 16)) ^^^ (x % 16) := by
    have h := Nat.two_pow_add_eq_or_of_lt (i := 4) (by simpa using hm) (x / 16)
    have h2 : 2 ^ 4 * (x / 16) ||| x % 16 = (16 * (x / 16)) ^^^ (x % 16) := by
      apply Nat.eq_of_testBit_eq
      intro i
      rw [Nat.testBit_or, Nat.testBit_xor]
      have e4 : (16 * (x / 16)).testBit i = (decide (4 ≤ i) && (x / 16).testBit (i - 4)) := Nat.testBit_two_pow_mul (i := 4) (j := i) (a := x / 16)
      have e6 : (x % 16).testBit i = (decide (i < 4) && x.testBit i) := Nat.testBit_mod_two_pow x 4 i
      rw [e4, e6]
      by_cases h4 : i < 4
      · have : decide (4 ≤ i) = false := by simp; omega
        simp [this]
      · have : decide (i < 4) = false := by simp; omega
        simp [this]
    omega
  have e2 : stps 4 (16 * (x / 16)) = x / 16 := by
    rw [show 16 * (x / 16) = 2 * (2 * (2 * (2 * (x / 16)))) by omega]
    simp only [stps, stp_twice]
  conv => rhs; rw [e]
  rw [stps_xor, e2, T16_steps ⟨x % 16, hm⟩]

theorem ofBits_byte (c : UInt8) : ofBits (byteBits c) = c.toNat := by
  unfold byteBits
  rw [ofBits_range]
  exact Nat.mod_eq_of_lt c.toNat_lt

theorem reg_byte (r : Nat) (c : UInt8) : reg r (byteBits c) = stps 4 (stps 4 (r ^^^ c.toNat)) := by
  rw [reg_stps, ofBits_byte, ← stps_add]
  rfl

theorem bits_snoc (l : List UInt8) (c : UInt8) : bitsB (l ++ [c]) = bitsB l ++ byteBits c := by simp [bitsB]

theorem reg_take (r : Nat) (l : List UInt8) (k : Nat) (h : k < l.length) : reg r (bitsB (l.take (k + 1))) = stps 4 (stps 4 (reg r (bitsB (l.take k)) ^^^ l[k].toNat)) := by
  rw [List.take_succ_eq_append_getElem h, bits_snoc, reg_append, reg_byte]

theorem xor_le {a b : Nat} (ha : a ≤ 4294967295) (hb : b ≤ 4294967295) : a ^^^ b ≤ 4294967295 := by
  have := Nat.xor_lt_two_pow (x := a) (y := b) (n := 32) (by omega) (by omega)
  omega

theorem x32 {a b : Nat} (ha : a ≤ 4294967295) (hb : b ≤ 4294967295) : bits .xor .u32 (a : Int) (b : Int) = ((a ^^^ b : Nat) : Int) := u32_xor_nat a b (by omega) (by omega)

theorem a32_15 {a : Nat} (ha : a ≤ 4294967295) : bits .and .u32 (a : Int) 15 = ((a % 16 : Nat) : Int) := by
  rw [show (15 : Int) = ((15 : Nat) : Int) from rfl, u32_and_nat a 15 (by omega) (by omega), nat_mask4]

theorem a32_1 {a : Nat} (ha : a ≤ 4294967295) : bits .and .u32 (a : Int) 1 = ((a % 2 : Nat) : Int) := by
  rw [show (1 : Int) = ((1 : Nat) : Int) from rfl, u32_and_nat a 1 (by omega) (by omega), nat_mask1]

theorem not32 {a : Nat} (ha : a ≤ 4294967295) : bits .xor .u32 IntKind.u32.max (a : Int) = ((4294967295 - a : Nat) : Int) := by
  rw [show IntKind.u32.max = ((4294967295 : Nat) : Int) by decide, x32 (by omega) ha]
  congr 1
  exact (top_xor (x := a) ha).symm

theorem stp_even {x : Nat} (h : x % 2 = 0) : stp x = x / 2 := by
  unfold stp
  rw [Nat.testBit_zero, Nat.shiftRight_eq_div_pow]
  simp [h]

theorem stp_odd {x : Nat} (h : x % 2 = 1) : stp x = x / 2 ^^^ 3988292384 := by
  unfold stp
  rw [Nat.testBit_zero, Nat.shiftRight_eq_div_pow]
  simp [h, pol]

theorem stp_le {x : Nat} (h : x ≤ 4294967295) : stp x ≤ 4294967295 := by have := stp_lt (x := x) (by omega); omega
theorem stps_le (k : Nat) {x : Nat} (h : x ≤ 4294967295) : stps k x ≤ 4294967295 := by have := stps_lt k (x := x) (by omega); omega
theorem reg_le' {l : List Bool} {x : Nat} (h : x ≤ 4294967295) : reg x l ≤ 4294967295 := reg_le h

/-- What some steps make of each bit of a number. -/
def zarr (m : Nat) : Array Value := (Array.range 32).map fun i => .int .u32 (stps m (2 ^ i) : Nat)

theorem zarr_size (m : Nat) : (zarr m).size = 32 := by simp [zarr]

theorem zarr_get (m i : Nat) (h : i < 32) : (zarr m)[i]? = some (.int .u32 (stps m (2 ^ i) : Nat)) := by
  simp [zarr, h]

theorem zarr_of (m : Nat) (C : Array Value) (hC : C.size = 32) (h : ∀ i, i < 32 → C[i]? = some (.int .u32 (stps m (2 ^ i) : Nat))) : C = zarr m := by
  apply Array.ext_getElem?
  intro i
  by_cases hi : i < 32
  · rw [h i hi, zarr_get m i hi]
  · rw [Array.getElem?_eq_none (by omega), Array.getElem?_eq_none (by rw [zarr_size]; omega)]

theorem pow_le {i : Nat} (h : i < 32) : 2 ^ i ≤ 4294967295 := by
  have := Nat.pow_lt_pow_right (a := 2) (by omega) h
  omega

/-- One more bit of a number. -/
theorem mod_bit (n k : Nat) : n % 2 ^ (k + 1) = n % 2 ^ k ^^^ (if n / 2 ^ k % 2 = 1 then 2 ^ k else 0) := by
  apply Nat.eq_of_testBit_eq
  intro i
  have hb : n.testBit k = decide (n / 2 ^ k % 2 = 1) := by
    rw [Nat.testBit_eq_decide_div_mod_eq]
  rw [Nat.testBit_xor, Nat.testBit_mod_two_pow, Nat.testBit_mod_two_pow]
  by_cases e : i = k
  · subst e
    by_cases h : n / 2 ^ i % 2 = 1
    · simp [h, hb]
    · simp [h, hb]
  · have h1 : decide (i < k + 1) = decide (i < k) := by rw [decide_eq_decide]; omega
    have h2 : (if n / 2 ^ k % 2 = 1 then 2 ^ k else 0).testBit i = false := by
      split
      · rw [Nat.testBit_two_pow]; simp; omega
      · simp
    rw [h1, h2]
    simp

theorem stps_bit_on (m n k : Nat) (h : n / 2 ^ k % 2 = 1) : stps m (n % 2 ^ k) ^^^ stps m (2 ^ k) = stps m (n % 2 ^ (k + 1)) := by
  rw [mod_bit, if_pos h, stps_xor]

theorem stps_bit_off (n k : Nat) (h : n / 2 ^ k % 2 ≠ 1) : n % 2 ^ (k + 1) = n % 2 ^ k := by
  rw [mod_bit, if_neg h, Nat.xor_zero]

end Go.Proofs.YtdmbebafpamgfaaDoor
