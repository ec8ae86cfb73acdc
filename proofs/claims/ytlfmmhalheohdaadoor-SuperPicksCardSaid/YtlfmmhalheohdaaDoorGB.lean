/- What was read, laid again, gives the very bytes; what was laid is read again. Plain facts on the sum, of no program: steps, registers, bits. The document's numbers as bytes, texts filled (for any seat: names of their own). Superblocks as the document says them: the mathematics of stage 11, of no program. Lists of runs that stand while other blocks change. The document's over, Same. -/
import Derived.Test.YtlfmmhalheohdaaDoorGA
import Derived.Test.YtlfmmhalheohdaaDoorRows
import Derived.WalkKit
import Derived.WalkSpells
import Derived.WalkLawsBesides
import Derived.Deep.OwnRows
import Derived.RegionTactic
import Derived.BigRegion
import Derived.Deep.DrawnRows
import Derived.Deep.RegionLaw
import Derived.Deep.QuietTactic
import Derived.BigQuiet
import Derived.Lib.Hide
import Derived.Laws.StructEq
import Derived.Deep.LoopGhost
import Derived.Deep.CutBlock
namespace Go.Proofs.YtlfmmhalheohdaaDoor
open Go.RowKit

theorem leB_ofLE : ∀ l : List UInt8, leB l.length (ofLE l) = l
  | [] => rfl
  | b :: l => by
    have h := leB_ofLE l
    have hb := b.toNat_lt
    have e1 : (b.toNat + 256 * ofLE l) / 256 = ofLE l := by omega
    have e2 : UInt8.ofNat (b.toNat + 256 * ofLE l) = b := by
      apply UInt8.toNat_inj.1
      rw [UInt8.toNat_ofNat']
      omega
    simp only [List.length_cons, ofLE, leB, e1, e2, h]

theorem ofLE_leB : ∀ k n, n < 256 ^ k → ofLE (leB k n) = n
  | 0, n, h => by simp at h; simp [ofLE, leB, h]
  | k + 1, n, h => by
    have ih := ofLE_leB k (n / 256) (by rw [Nat.pow_succ] at h; omega)
    simp only [leB, ofLE, ih, UInt8.toNat_ofNat']
    omega

/-- A reading without an error. -/
theorem takeR_ok {s : RdSt} {n : Int} {x l : List UInt8} (h : takeR s n = (x, (l, 0))) : s.2 = 0 ∧ 0 ≤ n ∧ s.1 = x ++ l ∧ x.length = n.toNat := by
  unfold takeR at h
  split at h
  · rename_i h0
    simp only [Prod.mk.injEq] at h
    exact absurd (by rw [h.2]) h0
  · rename_i h0
    split at h
    · simp at h
    · split at h
      · simp at h
      · simp only [Prod.mk.injEq, and_true] at h
        obtain ⟨rfl, rfl⟩ := h
        refine ⟨by simpa using h0, by omega, (List.take_append_drop _ _).symm, ?_⟩
        rw [List.length_take]
        omega

theorem numR_ok {s : RdSt} {k n : Nat} {l : List UInt8} (h : numR s k = (n, (l, 0))) : s.2 = 0 ∧ s.1 = leB k n ++ l := by
  unfold numR at h
  simp only [Prod.mk.injEq] at h
  obtain ⟨h1, h2⟩ := h
  obtain ⟨a, b, c, d⟩ := takeR_ok (s := s) (n := k) (x := (takeR s k).1) (l := l) (by rw [← h2])
  refine ⟨a, ?_⟩
  rw [c, ← h1]
  congr 1
  have := leB_ofLE (takeR s k).1
  rw [d] at this
  simpa using this.symm

theorem lenR_ok {s : RdSt} {m n : Nat} {l : List UInt8} (h : lenR s m = (n, (l, 0))) : s.2 = 0 ∧ s.1 = leB 4 n ++ l ∧ n ≤ m := by
  unfold lenR at h
  split at h
  · simp at h
  · rename_i hm
    obtain ⟨a, b⟩ := numR_ok h
    rw [h] at hm
    exact ⟨a, b, by simpa using hm⟩

theorem textR_ok {s : RdSt} {x l : List UInt8} (h : textR s = (x, (l, 0))) : s.2 = 0 ∧ s.1 = textB (str x) ++ l := by
  unfold textR at h
  obtain ⟨a, b, c, d⟩ := takeR_ok h
  have hl : lenR s 65536 = ((lenR s 65536).1, ((lenR s 65536).2.1, 0)) := by rw [← a]
  obtain ⟨a', b', _⟩ := lenR_ok hl
  refine ⟨a', ?_⟩
  rw [b', c]
  simp only [textB, str_size, str_list, d, Int.toNat_natCast, List.append_assoc]

theorem textsR_ok : ∀ (k : Nat) (s : RdSt) (acc out : List (List UInt8)) (l : List UInt8), textsR k s acc = (out, (l, 0)) →
    s.2 = 0 ∧ ∃ ts : List (List UInt8), out = acc ++ ts ∧ ts.length = k ∧ s.1 = textsB (ts.map str) ++ l
  | 0, s, acc, out, l, h => by
    simp only [textsR, Prod.mk.injEq] at h
    obtain ⟨rfl, rfl⟩ := h
    exact ⟨rfl, [], by simp, rfl, by simp [textsB]⟩
  | k + 1, s, acc, out, l, h => by
    unfold textsR at h
    split at h
    · rename_i h0
      obtain ⟨_, ts, h1, h2, h3⟩ := textsR_ok k _ _ _ _ h
      have ht : textR s = ((textR s).1, ((textR s).2.1, 0)) := by rw [← h0]
      obtain ⟨a, b⟩ := textR_ok ht
      refine ⟨a, (textR s).1 :: ts, by rw [h1]; simp, by simp [h2], ?_⟩
      rw [b, h3]
      simp [textsB]
    · rename_i h0
      simp only [Prod.mk.injEq] at h
      exact absurd (by rw [h.2]) h0

theorem listR_ok {s : RdSt} {ts : List (List UInt8)} {l : List UInt8} (h : listR s = (ts, (l, 0))) : s.2 = 0 ∧ s.1 = listB (ts.map str) ++ l := by
  unfold listR at h
  obtain ⟨a, ts', h1, h2, h3⟩ := textsR_ok _ _ _ _ _ h
  have hl : lenR s 65536 = ((lenR s 65536).1, ((lenR s 65536).2.1, 0)) := by rw [← a]
  obtain ⟨a', b', _⟩ := lenR_ok hl
  refine ⟨a', ?_⟩
  rw [b', h3]
  simp only [List.nil_append] at h1
  subst h1
  simp [listB, h2]

/-! ### What was laid is read again. -/
theorem takeR_app (x l : List UInt8) (n : Nat) (h : x.length = n) : takeR (x ++ l, 0) n = (x, (l, 0)) := by
  subst h
  unfold takeR
  rw [if_neg (by simp), if_neg (by omega), if_neg (by simp; omega)]
  simp

theorem leB_mod : ∀ k n, leB k (n % 256 ^ k) = leB k n
  | 0, _ => rfl
  | k + 1, n => by
    have ih := leB_mod k (n / 256)
    have e1 : n % 256 ^ (k + 1) / 256 = n / 256 % 256 ^ k := by
      rw [Nat.pow_succ, Nat.mul_comm, Nat.mod_mul_right_div_self]
    have e2 : UInt8.ofNat (n % 256 ^ (k + 1)) = UInt8.ofNat n := by
      apply UInt8.toNat_inj.1
      rw [UInt8.toNat_ofNat', UInt8.toNat_ofNat', Nat.pow_succ, Nat.mul_comm]
      exact Nat.mod_mul_right_mod _ _ _
    simp only [leB, e1, e2, ih]

theorem numR_app (n k : Nat) (l : List UInt8) : numR (leB k n ++ l, 0) k = (n % 256 ^ k, (l, 0)) := by
  unfold numR
  rw [takeR_app _ _ _ (leB_len k n)]
  simp only
  rw [← leB_mod, ofLE_leB]
  exact Nat.mod_lt _ (Nat.pow_pos (by omega))

theorem lenR_app (n m : Nat) (l : List UInt8) (h : n ≤ m) (hm : n < 256 ^ 4) : lenR (leB 4 n ++ l, 0) m = (n, (l, 0)) := by
  unfold lenR
  rw [numR_app, Nat.mod_eq_of_lt hm, if_neg (by simpa using h)]

theorem textR_app (s : ByteArray) (l : List UInt8) (h : s.size ≤ 65536) : textR (textB s ++ l, 0) = (s.data.toList, (l, 0)) := by
  unfold textR textB
  rw [List.append_assoc, lenR_app _ _ _ h (by omega)]
  exact takeR_app _ _ _ (data_len s)

theorem textsR_app : ∀ (ss : List ByteArray) (acc : List (List UInt8)) (l : List UInt8), (∀ s ∈ ss, s.size ≤ 65536) →
    textsR ss.length (textsB ss ++ l, 0) acc = (acc ++ ss.map (·.data.toList), (l, 0))
  | [], acc, l, _ => by simp [textsR, textsB]
  | s :: ss, acc, l, h => by
    have e : textsB (s :: ss) ++ l = textB s ++ (textsB ss ++ l) := by simp [textsB]
    have ih := textsR_app ss (acc ++ [s.data.toList]) l (fun t ht => h t (List.mem_cons_of_mem _ ht))
    rw [List.length_cons, e]
    unfold textsR
    rw [textR_app s _ (h s List.mem_cons_self)]
    simp only
    rw [if_pos trivial, ih]
    simp

theorem listR_app (ss : List ByteArray) (l : List UInt8) (hn : ss.length ≤ 65536) (h : ∀ s ∈ ss, s.size ≤ 65536) : listR (listB ss ++ l, 0) = (ss.map (·.data.toList), (l, 0)) := by
  unfold listR listB
  rw [List.append_assoc, lenR_app _ _ _ hn (by omega)]
  simpa using textsR_app ss [] l h

theorem str_map (ss : List ByteArray) : (ss.map (·.data.toList)).map str = ss := by
  rw [List.map_map]
  conv => rhs; rw [← List.map_id ss]
  apply List.map_congr_left
  intro s _
  exact str_data s

theorem listB_light (ss : List ByteArray) (hn : ss.length ≤ 40) (h : ∀ s ∈ ss, s.size ≤ 500) : (listB ss).length ≤ 20164 := by
  have texts : ∀ ss : List ByteArray, (∀ s ∈ ss, s.size ≤ 500) → (textsB ss).length ≤ 504 * ss.length := by
    intro ss
    induction ss with
    | nil => simp [textsB]
    | cons s ss ih =>
      intro h
      have e : textsB (s :: ss) = textB s ++ textsB ss := by simp [textsB]
      have h1 := ih (fun t ht => h t (List.mem_cons_of_mem _ ht))
      have h2 := h s List.mem_cons_self
      rw [e, List.length_append, textB_len, List.length_cons]
      omega
  have := texts ss h
  simp only [listB, List.length_append, leB_len]
  omega

end Go.Proofs.YtlfmmhalheohdaaDoor
namespace Go.Proofs.YtlfmmhalheohdaaDoor
open Go.RowKit


def pol : Nat := 3988292384
def stp (x : Nat) : Nat := (x >>> 1) ^^^ (bif x.testBit 0 then pol else 0)
def stps : Nat → Nat → Nat
  | 0, x => x
  | k + 1, x => stps k (stp x)
def eat (x : Nat) (b : Bool) : Nat := stp (x ^^^ b.toNat)
def reg (x : Nat) (l : List Bool) : Nat := l.foldl eat x
def byteBits (c : UInt8) : List Bool := (List.range 8).map fun k => c.toNat.testBit k
def bitsB (l : List UInt8) : List Bool := l.flatMap byteBits
def top32 : Nat := 4294967295
/-- What comes of a sum by a text behind it. -/
def moreN (sum : Nat) (l : List UInt8) : Nat := top32 - reg (top32 - sum) (bitsB l)

theorem stp_xor (x y : Nat) : stp (x ^^^ y) = stp x ^^^ stp y := by
  unfold stp
  rw [Nat.testBit_xor, Nat.shiftRight_xor_distrib]
  cases x.testBit 0 <;> cases y.testBit 0 <;> simp
  · ac_rfl
  · ac_rfl
  · rw [show (x >>> 1 ^^^ pol ^^^ (y >>> 1 ^^^ pol)) = (x >>> 1 ^^^ y >>> 1) ^^^ (pol ^^^ pol) by ac_rfl]
    simp

theorem stp_lt {x : Nat} (h : x < 2 ^ 32) : stp x < 2 ^ 32 := by
  unfold stp
  apply Nat.xor_lt_two_pow
  · rw [Nat.shiftRight_eq_div_pow]; omega
  · cases x.testBit 0 <;> simp [pol]

theorem stps_lt : ∀ (k : Nat) {x : Nat}, x < 2 ^ 32 → stps k x < 2 ^ 32
  | 0, _, h => h
  | k + 1, _, h => stps_lt k (stp_lt h)

theorem stp_zero : stp 0 = 0 := by decide

theorem stps_zero : ∀ k, stps k 0 = 0
  | 0 => rfl
  | k + 1 => by simp [stps, stp_zero, stps_zero k]

theorem stps_xor : ∀ (k x y : Nat), stps k (x ^^^ y) = stps k x ^^^ stps k y
  | 0, _, _ => rfl
  | k + 1, x, y => by simp only [stps, stp_xor, stps_xor k]

theorem stps_add : ∀ (k m x : Nat), stps (k + m) x = stps m (stps k x)
  | 0, m, x => by simp [stps]
  | k + 1, m, x => by rw [Nat.add_right_comm]; exact stps_add k m (stp x)

theorem stps_succ (k x : Nat) : stps (k + 1) x = stp (stps k x) := stps_add k 1 x

theorem stp_ne {x : Nat} (h : x < 2 ^ 32) (hx : x ≠ 0) : stp x ≠ 0 := by
  intro e
  unfold stp at e
  cases hb : x.testBit 0 with
  | false =>
    rw [hb] at e
    simp only [cond_false, Nat.xor_zero, Nat.shiftRight_eq_div_pow, Nat.pow_one] at e
    rw [Nat.testBit_zero] at hb
    have : x % 2 = 0 := by
      have := Nat.mod_two_eq_zero_or_one x
      simp at hb; omega
    omega
  | true =>
    rw [hb] at e
    simp only [cond_true] at e
    have e2 : x >>> 1 = pol := by
      have := congrArg (· ^^^ pol) e
      simpa [Nat.xor_assoc] using this
    rw [Nat.shiftRight_eq_div_pow] at e2
    unfold pol at e2
    omega

theorem stps_ne : ∀ (k : Nat) {x : Nat}, x < 2 ^ 32 → x ≠ 0 → stps k x ≠ 0
  | 0, _, _, h => h
  | k + 1, _, h, hx => stps_ne k (stp_lt h) (stp_ne h hx)

/-- The number of some bits, the least first. -/
def ofBits : List Bool → Nat
  | [] => 0
  | b :: l => b.toNat + 2 * ofBits l

theorem stp_twice (n : Nat) : stp (2 * n) = n := by
  unfold stp
  have : (2 * n).testBit 0 = false := by simp
  rw [this, Nat.shiftRight_eq_div_pow]
  simp

theorem ofBits_cons_xor (x : Nat) (b : Bool) (l : List Bool) : x ^^^ ofBits (b :: l) = (x ^^^ b.toNat) ^^^ (2 * ofBits l) := by
  have e : ofBits (b :: l) = b.toNat ^^^ (2 * ofBits l) := by
    apply Nat.eq_of_testBit_eq
    intro i
    rw [Nat.testBit_xor]
    cases i with
    | zero => cases b <;> simp [ofBits, Nat.testBit_zero] <;> omega
    | succ i =>
      rw [Nat.testBit_succ, Nat.testBit_succ, Nat.testBit_succ]
      have h1 : ofBits (b :: l) / 2 = ofBits l := by cases b <;> simp [ofBits] <;> omega
      have h2 : b.toNat / 2 = 0 := by cases b <;> rfl
      rw [h1, h2]
      simp
  rw [e, Nat.xor_assoc]

theorem reg_stps : ∀ (l : List Bool) (x : Nat), reg x l = stps l.length (x ^^^ ofBits l)
  | [], x => by simp [reg, stps, ofBits]
  | b :: l, x => by
    have ih := reg_stps l (eat x b)
    rw [List.length_cons, stps, ofBits_cons_xor, stp_xor, stp_twice]
    exact ih

theorem reg_append (x : Nat) (l m : List Bool) : reg x (l ++ m) = reg (reg x l) m := List.foldl_append

theorem reg_cons (x : Nat) (b : Bool) (m : List Bool) : reg x (b :: m) = reg (eat x b) m := rfl

theorem eat_lt {x : Nat} (b : Bool) (h : x < 2 ^ 32) : eat x b < 2 ^ 32 := stp_lt (Nat.xor_lt_two_pow h (by cases b <;> simp))

theorem reg_lt : ∀ (l : List Bool) {x : Nat}, x < 2 ^ 32 → reg x l < 2 ^ 32
  | [], _, h => h
  | b :: l, _, h => reg_lt l (eat_lt b h)

theorem reg_le {l : List Bool} {x : Nat} (h : x ≤ top32) : reg x l ≤ top32 := by
  have := reg_lt l (x := x) (by unfold top32 at h; omega)
  have e : top32 = 4294967295 := rfl
  omega

theorem eat_xor (x y : Nat) (a b : Bool) : eat (x ^^^ y) (a ^^ b) = eat x a ^^^ eat y b := by
  unfold eat
  rw [← stp_xor]
  congr 1
  have : (a ^^ b).toNat = a.toNat ^^^ b.toNat := by cases a <;> cases b <;> rfl
  rw [this]
  ac_rfl

theorem reg_xor : ∀ (l m : List Bool) (x y : Nat), l.length = m.length → reg (x ^^^ y) (List.zipWith (· ^^ ·) l m) = reg x l ^^^ reg y m
  | [], [], _, _, _ => rfl
  | a :: l, b :: m, x, y, h => by
    rw [List.zipWith_cons_cons, reg_cons, reg_cons, reg_cons, eat_xor]
    exact reg_xor l m _ _ (by simpa using h)

theorem bits_len : ∀ l : List UInt8, (bitsB l).length = 8 * l.length
  | [] => rfl
  | c :: l => by
    have := bits_len l
    simp only [bitsB, List.flatMap_cons, List.length_append] at *
    simp only [byteBits, List.length_map, List.length_range, List.length_cons, this]
    omega

theorem bits_append (a b : List UInt8) : bitsB (a ++ b) = bitsB a ++ bitsB b := by simp [bitsB]

theorem more_lt (sum : Nat) (l : List UInt8) : moreN sum l ≤ top32 := Nat.sub_le _ _

theorem top_xor {x : Nat} (h : x ≤ top32) : top32 - x = top32 ^^^ x := by
  have e : top32 = 2 ^ 32 - 1 := rfl
  rw [e]
  rw [e] at h
  apply Nat.eq_of_testBit_eq
  intro i
  rw [Nat.testBit_xor, Nat.testBit_two_pow_sub_one, show 2 ^ 32 - 1 - x = 2 ^ 32 - (x + 1) by omega, Nat.testBit_two_pow_sub_succ (by omega)]
  by_cases hi : i < 32
  · simp [hi]
  · have : x.testBit i = false := Nat.testBit_lt_two_pow (Nat.lt_of_lt_of_le (by omega : x < 2 ^ 32) (Nat.pow_le_pow_right (by omega) (by omega)))
    simp [hi, this]

theorem more_more (sum : Nat) (a b : List UInt8) : moreN (moreN sum a) b = moreN sum (a ++ b) := by
  unfold moreN
  have hr : reg (top32 - sum) (bitsB a) < 2 ^ 32 := reg_lt _ (by unfold top32; omega)
  rw [show top32 - (top32 - reg (top32 - sum) (bitsB a)) = reg (top32 - sum) (bitsB a) by unfold top32 at *; omega, bits_append, reg_append]

/-- The joining of two sums. -/
theorem more_join (a b : List UInt8) : stps (8 * b.length) (moreN 0 a) ^^^ moreN 0 b = moreN 0 (a ++ b) := by
  rw [← more_more 0 a b]
  have ha := more_lt 0 a
  generalize moreN 0 a = x at *
  unfold moreN
  have h1 : reg (top32 - x) (bitsB b) ≤ top32 := reg_le (Nat.sub_le _ _)
  have h2 : reg (top32 - 0) (bitsB b) ≤ top32 := reg_le (Nat.sub_le _ _)
  rw [top_xor h1, top_xor h2, top_xor ha]
  have e : reg (top32 ^^^ x) (bitsB b) = reg top32 (bitsB b) ^^^ stps (8 * b.length) x := by
    rw [reg_stps, reg_stps, bits_len, ← stps_xor]
    congr 1
    ac_rfl
  rw [e, Nat.sub_zero]
  ac_rfl

/-- Turned bits: those from 'at' on for which 'bits' has a bit, so many of them. -/
def flips (L : List Bool) (at' : Int) (bits : Nat) (i : Nat) : List Bool :=
  L.mapIdx fun j b => b ^^ (decide (at' ≤ (j : Int) ∧ (j : Int) < at' + i) && bits.testBit ((j : Int) - at').toNat)

theorem flips_len (L : List Bool) (a : Int) (b i : Nat) : (flips L a b i).length = L.length := by simp [flips]

theorem flips_get (L : List Bool) (a : Int) (b i j : Nat) (h : j < L.length) : (flips L a b i)[j]'(by rw [flips_len]; exact h) = (L[j] ^^ (decide (a ≤ (j : Int) ∧ (j : Int) < a + i) && b.testBit ((j : Int) - a).toNat)) := by
  simp [flips]

theorem flips_zero (L : List Bool) (a : Int) (b : Nat) : flips L a b 0 = L := by
  apply List.ext_getElem (flips_len _ _ _ _)
  intro j h1 h2
  rw [flips_get _ _ _ _ _ h2]
  have : decide (a ≤ (j : Int) ∧ (j : Int) < a + (0 : Nat)) = false := by simp
  rw [this]
  simp

/-- One moreN bit. -/
theorem flips_succ_in (L : List Bool) (a : Int) (b i k : Nat) (hk : a + i = k) (hl : k < L.length) :
    flips L a b (i + 1) = (flips L a b i).set k ((flips L a b i)[k]'(by rw [flips_len]; exact hl) ^^ b.testBit i) := by
  apply List.ext_getElem (by simp [flips_len])
  intro j h1 h2
  have hj : j < L.length := by simpa [flips_len] using h1
  rw [flips_get _ _ _ _ _ hj, List.getElem_set]
  by_cases e : k = j
  · subst e
    rw [if_pos rfl, flips_get _ _ _ _ _ hl]
    have h3 : decide (a ≤ (k : Int) ∧ (k : Int) < a + (i + 1 : Nat)) = true := by simp; omega
    have h4 : decide (a ≤ (k : Int) ∧ (k : Int) < a + i) = false := by simp; omega
    have h5 : ((k : Int) - a).toNat = i := by omega
    rw [h3, h4, h5]
    simp
  · rw [if_neg e, flips_get _ _ _ _ _ hj]
    have : decide (a ≤ (j : Int) ∧ (j : Int) < a + (i + 1 : Nat)) = decide (a ≤ (j : Int) ∧ (j : Int) < a + i) := by
      rw [decide_eq_decide]; omega
    rw [this]

theorem flips_succ_out (L : List Bool) (a : Int) (b i : Nat) (hk : a + i < 0 ∨ (L.length : Int) ≤ a + i) : flips L a b (i + 1) = flips L a b i := by
  apply List.ext_getElem (by simp [flips_len])
  intro j h1 h2
  have hj : j < L.length := by simpa [flips_len] using h1
  rw [flips_get _ _ _ _ _ hj, flips_get _ _ _ _ _ hj]
  have : decide (a ≤ (j : Int) ∧ (j : Int) < a + (i + 1 : Nat)) = decide (a ≤ (j : Int) ∧ (j : Int) < a + i) := by
    rw [decide_eq_decide]; omega
  rw [this]

theorem flips_succ_off (L : List Bool) (a : Int) (b i : Nat) (hb : b.testBit i = false) : flips L a b (i + 1) = flips L a b i := by
  by_cases h : a + i < 0 ∨ (L.length : Int) ≤ a + i
  · exact flips_succ_out L a b i h
  · obtain ⟨k, hk⟩ := Int.eq_ofNat_of_zero_le (show 0 ≤ a + i by omega)
    rw [flips_succ_in L a b i k hk (by omega), hb]
    simp

theorem flips_twice (L : List Bool) (a : Int) (b i : Nat) : flips (flips L a b i) a b i = L := by
  apply List.ext_getElem (by simp [flips_len])
  intro j h1 h2
  rw [flips_get _ _ _ _ _ (by rw [flips_len]; exact h2), flips_get _ _ _ _ _ h2, Bool.xor_assoc, Bool.xor_self, Bool.xor_false]

/-- The difference of a text and itself turned. -/
theorem flips_diff (L : List Bool) (a b : Nat) (ha : a ≤ L.length) (hb : b < 2 ^ 32) :
    List.zipWith (· ^^ ·) L (flips L a b 32) = List.replicate a false ++ (List.range (L.length - a)).map b.testBit := by
  apply List.ext_getElem
  · simp [flips_len]; omega
  · intro j h1 h2
    have hj : j < L.length := by simp [flips_len] at h1; exact h1
    rw [List.getElem_zipWith, flips_get _ _ _ _ _ hj]
    by_cases hja : j < a
    · rw [List.getElem_append_left (by simpa using hja)]
      have : decide ((a : Int) ≤ (j : Int) ∧ (j : Int) < a + (32 : Nat)) = false := by simp; omega
      rw [this]
      simp
    · rw [List.getElem_append_right (by simpa using hja)]
      simp only [List.getElem_map, List.getElem_range, List.length_replicate]
      have e : ((j : Int) - a).toNat = j - a := by omega
      rw [e]
      by_cases h32 : j - a < 32
      · have : decide ((a : Int) ≤ (j : Int) ∧ (j : Int) < a + (32 : Nat)) = true := by simp; omega
        rw [this]
        simp
      · have h3 : decide ((a : Int) ≤ (j : Int) ∧ (j : Int) < a + (32 : Nat)) = false := by simp; omega
        have h4 : b.testBit (j - a) = false := Nat.testBit_lt_two_pow (Nat.lt_of_lt_of_le hb (Nat.pow_le_pow_right (by omega) (by omega)))
        rw [h3, h4]
        simp

theorem ofBits_testBit : ∀ (l : List Bool) (i : Nat), (ofBits l).testBit i = l.getD i false
  | [], i => by simp [ofBits]
  | b :: l, 0 => by cases b <;> simp [ofBits, Nat.testBit_zero] <;> omega
  | b :: l, i + 1 => by
    rw [Nat.testBit_succ]
    have h1 : ofBits (b :: l) / 2 = ofBits l := by cases b <;> simp [ofBits] <;> omega
    rw [h1, ofBits_testBit l i]
    simp

theorem ofBits_range (b m : Nat) : ofBits ((List.range m).map b.testBit) = b % 2 ^ m := by
  apply Nat.eq_of_testBit_eq
  intro i
  rw [ofBits_testBit, Nat.testBit_mod_two_pow]
  by_cases h : i < m
  · simp [List.getD, h]
  · simp [List.getD, h]

theorem ofBits_lt : ∀ l : List Bool, ofBits l < 2 ^ l.length
  | [] => by simp [ofBits]
  | b :: l => by
    have := ofBits_lt l
    cases b <;> simp only [ofBits, List.length_cons, Nat.pow_succ, Bool.toNat_false, Bool.toNat_true] <;> omega

theorem reg_zeros (a : Nat) : reg 0 (List.replicate a false) = 0 := by
  rw [reg_stps]
  have : ofBits (List.replicate a false) = 0 := by
    induction a with
    | zero => rfl
    | succ a ih => simp [List.replicate_succ, ofBits, ih]
  rw [this]
  exact stps_zero _

theorem map_xor_self (L K : List Bool) (h : L.length = K.length) (hz : ∀ j (h1 : j < (List.zipWith (· ^^ ·) L K).length), (List.zipWith (· ^^ ·) L K)[j] = false) : L = K := by
  apply List.ext_getElem h
  intro j h1 h2
  have := hz j (by simp; omega)
  rw [List.getElem_zipWith] at this
  simpa using this

/-- A change within 32 bits changes the register. -/
theorem burst (L : List Bool) (a b x : Nat) (ha : a ≤ L.length) (hb : b < 2 ^ 32) (h : reg x L = reg x (flips L a b 32)) : flips L a b 32 = L := by
  have hx := reg_xor L (flips L a b 32) x x (flips_len _ _ _ _).symm
  rw [h, Nat.xor_self, Nat.xor_self, flips_diff L a b ha hb, reg_append, reg_zeros, reg_stps, Nat.zero_xor, ofBits_range] at hx
  have hz : b % 2 ^ (L.length - a) = 0 := by
    refine Classical.byContradiction fun hn => ?_
    exact stps_ne _ (Nat.lt_of_le_of_lt (Nat.mod_le _ _) hb) hn hx
  refine (map_xor_self L _ (flips_len _ _ _ _).symm ?_).symm
  intro j h1
  have e := flips_diff L a b ha hb
  have e2 : ∀ (l m : List Bool) (h : l = m) (j : Nat) (hj : j < l.length), l[j] = m[j]'(h ▸ hj) := by
    intro l m h j hj; subst h; rfl
  rw [e2 _ _ e j h1]
  by_cases hja : j < a
  · rw [List.getElem_append_left (by simpa using hja)]; simp
  · rw [List.getElem_append_right (by simpa using hja)]
    simp only [List.getElem_map, List.getElem_range, List.length_replicate]
    have hj : j < L.length := by simp [flips_len] at h1; exact h1
    have := Nat.testBit_mod_two_pow b (L.length - a) (j - a)
    rw [hz] at this
    simp at this
    exact this (by omega)


/-- What four steps make of four bits. -/
def T16 : List Nat := [0, 498536548, 997073096, 651767980, 1994146192, 1802195444, 1303535960, 1342533948, 3988292384, 4027552580, 3604390888, 3412177804, 2607071920, 2262029012, 2685067896, 3183342108]

theorem T16_steps : ∀ m : Fin 16, stps 4 m.val = T16.getD m.val 0 := by decide +kernel

theorem T16_le : ∀ m : Fin 16, T16.getD m.val 0 ≤ 4294967295 := by decide +kernel

theorem four (x : Nat) : x / 16 ^^^ T16.getD (x % 16) 0 = stps 4 x := by
  have hm : x % 16 < 16 := by omega
  have e : x = (16 * (x / 16)) ^^^ (x % 16) := by
    have h := Nat.two_pow_add_eq_or_of_lt (i := 4) (by simpa using hm) (x / 16)
    have h2 : 2 ^ 4 * (x / 16) ||| x % 16 = (16 * (x / 16)) ^^^ (x % 16) := by
      apply Nat.eq_of_testBit_eq
      intro i
      rw [Nat.testBit_or, Nat.testBit_xor]
      have e4 : (16 * (x / 16)).testBit i = (decide (4 ≤ i) && (x / 16).testBit (i - 4)) := Nat.testBit_two_pow_mul (i := 4) (j := i) (a := x / 16)
      have e6 : (x % 16).testBit i = (decide (i < 4) && x.testBit i) := Nat.testBit_mod_two_pow x 4 i
      rw [e4, e6]
      by_cases h4 : i < 4
      · have : decide (4 ≤ i) = false := by simp; omega
        simp [this]
      · have : decide (i < 4) = false := by simp; omega
        simp [this]
    omega
  have e2 : stps 4 (16 * (x / 16)) = x / 16 := by
    rw [show 16 * (x / 16) = 2 * (2 * (2 * (2 * (x / 16)))) by omega]
    simp only [stps, stp_twice]
  conv => rhs; rw [e]
  rw [stps_xor, e2, T16_steps ⟨x % 16, hm⟩]

theorem ofBits_byte (c : UInt8) : ofBits (byteBits c) = c.toNat := by
  unfold byteBits
  rw [ofBits_range]
  exact Nat.mod_eq_of_lt c.toNat_lt

theorem reg_byte (r : Nat) (c : UInt8) : reg r (byteBits c) = stps 4 (stps 4 (r ^^^ c.toNat)) := by
  rw [reg_stps, ofBits_byte, ← stps_add]
  rfl

theorem bits_snoc (l : List UInt8) (c : UInt8) : bitsB (l ++ [c]) = bitsB l ++ byteBits c := by simp [bitsB]

theorem reg_take (r : Nat) (l : List UInt8) (k : Nat) (h : k < l.length) : reg r (bitsB (l.take (k + 1))) = stps 4 (stps 4 (reg r (bitsB (l.take k)) ^^^ l[k].toNat)) := by
  rw [List.take_succ_eq_append_getElem h, bits_snoc, reg_append, reg_byte]

theorem xor_le {a b : Nat} (ha : a ≤ 4294967295) (hb : b ≤ 4294967295) : a ^^^ b ≤ 4294967295 := by
  have := Nat.xor_lt_two_pow (x := a) (y := b) (n := 32) (by omega) (by omega)
  omega

theorem x32 {a b : Nat} (ha : a ≤ 4294967295) (hb : b ≤ 4294967295) : bits .xor .u32 (a : Int) (b : Int) = ((a ^^^ b : Nat) : Int) := u32_xor_nat a b (by omega) (by omega)

theorem a32_15 {a : Nat} (ha : a ≤ 4294967295) : bits .and .u32 (a : Int) 15 = ((a % 16 : Nat) : Int) := by
  rw [show (15 : Int) = ((15 : Nat) : Int) from rfl, u32_and_nat a 15 (by omega) (by omega), nat_mask4]

theorem a32_1 {a : Nat} (ha : a ≤ 4294967295) : bits .and .u32 (a : Int) 1 = ((a % 2 : Nat) : Int) := by
  rw [show (1 : Int) = ((1 : Nat) : Int) from rfl, u32_and_nat a 1 (by omega) (by omega), nat_mask1]

theorem not32 {a : Nat} (ha : a ≤ 4294967295) : bits .xor .u32 IntKind.u32.max (a : Int) = ((4294967295 - a : Nat) : Int) := by
  rw [show IntKind.u32.max = ((4294967295 : Nat) : Int) by decide, x32 (by omega) ha]
  congr 1
  exact (top_xor (x := a) ha).symm

theorem stp_even {x : Nat} (h : x % 2 = 0) : stp x = x / 2 := by
  unfold stp
  rw [Nat.testBit_zero, Nat.shiftRight_eq_div_pow]
  simp [h]

theorem stp_odd {x : Nat} (h : x % 2 = 1) : stp x = x / 2 ^^^ 3988292384 := by
  unfold stp
  rw [Nat.testBit_zero, Nat.shiftRight_eq_div_pow]
  simp [h, pol]

theorem stp_le {x : Nat} (h : x ≤ 4294967295) : stp x ≤ 4294967295 := by have := stp_lt (x := x) (by omega); omega
theorem stps_le (k : Nat) {x : Nat} (h : x ≤ 4294967295) : stps k x ≤ 4294967295 := by have := stps_lt k (x := x) (by omega); omega
theorem reg_le' {l : List Bool} {x : Nat} (h : x ≤ 4294967295) : reg x l ≤ 4294967295 := reg_le h

/-- What some steps make of each bit of a number. -/
def zarr (m : Nat) : Array Value := (Array.range 32).map fun i => .int .u32 (stps m (2 ^ i) : Nat)

theorem zarr_size (m : Nat) : (zarr m).size = 32 := by simp [zarr]

theorem zarr_get (m i : Nat) (h : i < 32) : (zarr m)[i]? = some (.int .u32 (stps m (2 ^ i) : Nat)) := by
  simp [zarr, h]

theorem zarr_of (m : Nat) (C : Array Value) (hC : C.size = 32) (h : ∀ i, i < 32 → C[i]? = some (.int .u32 (stps m (2 ^ i) : Nat))) : C = zarr m := by
  apply Array.ext_getElem?
  intro i
  by_cases hi : i < 32
  · rw [h i hi, zarr_get m i hi]
  · rw [Array.getElem?_eq_none (by omega), Array.getElem?_eq_none (by rw [zarr_size]; omega)]

theorem pow_le {i : Nat} (h : i < 32) : 2 ^ i ≤ 4294967295 := by
  have := Nat.pow_lt_pow_right (a := 2) (by omega) h
  omega

/-- One more bit of a number. -/
theorem mod_bit (n k : Nat) : n % 2 ^ (k + 1) = n % 2 ^ k ^^^ (if n / 2 ^ k % 2 = 1 then 2 ^ k else 0) := by
  apply Nat.eq_of_testBit_eq
  intro i
  have hb : n.testBit k = decide (n / 2 ^ k % 2 = 1) := by
    rw [Nat.testBit_eq_decide_div_mod_eq]
  rw [Nat.testBit_xor, Nat.testBit_mod_two_pow, Nat.testBit_mod_two_pow]
  by_cases e : i = k
  · subst e
    by_cases h : n / 2 ^ i % 2 = 1
    · simp [h, hb]
    · simp [h, hb]
  · have h1 : decide (i < k + 1) = decide (i < k) := by rw [decide_eq_decide]; omega
    have h2 : (if n / 2 ^ k % 2 = 1 then 2 ^ k else 0).testBit i = false := by
      split
      · rw [Nat.testBit_two_pow]; simp; omega
      · simp
    rw [h1, h2]
    simp

theorem stps_bit_on (m n k : Nat) (h : n / 2 ^ k % 2 = 1) : stps m (n % 2 ^ k) ^^^ stps m (2 ^ k) = stps m (n % 2 ^ (k + 1)) := by
  rw [mod_bit, if_pos h, stps_xor]

theorem stps_bit_off (n k : Nat) (h : n / 2 ^ k % 2 ≠ 1) : n % 2 ^ (k + 1) = n % 2 ^ k := by
  rw [mod_bit, if_neg h, Nat.xor_zero]

end Go.Proofs.YtlfmmhalheohdaaDoor
namespace Go.Proofs.YtlfmmhalheohdaaDoor
open Go.RowKit

theorem rp_conv_one {n : Nat} (w' : World) (b c : Nat) (h : w'.cell? ⟨b, 0, none⟩ = some (.int .u8 ((n : Int) % 256))) :
    (convert 50 9 (.slice (some ⟨b, 0, none⟩) 1 c)).run Tryd.prog w' = .ok (.string (str [UInt8.ofNat n])) w' :=
  conv_bytes w' 50 9 5 b 1 c [UInt8.ofNat n] rfl Tryd.underlying50 Tryd.underlying5 Tryd.underlying9 (fun j hj => by
    obtain rfl : j = 0 := by simpa using hj
    rw [h]; simp)

theorem rp_after_new {w wx : World} {v : Value} {t : TypeId} (hb : Below ((w.alloc (.cells #[v] t)).drew).heap.size ((w.alloc (.cells #[v] t)).drew) wx) : wx.cell? ⟨w.heap.size, 0, none⟩ = some v :=
  cell_later hb (World.cell?_alloc_mark w #[v] t _ 0)

set_option maxHeartbeats 1000000 in
theorem rpnum_any : ∀ (k : Nat) (n : Nat), k ≤ 8 → n < 2 ^ 64 → ∀ (w : World),
    Calls Tryd.prog 37 #[.int .u64 n, .int .i64 k] w fun e w' => e = .returned (.string (str (leB k n))) ∧ Below w.heap.size w w'
  | 0, n, _, _, w => by
    go_enter Tryd.func37, Tryd.ntmps37
    go_wp2
    go_ret
    exact ⟨rfl, Below.refl _ _⟩
  | k + 1, n, hk, hn, w => by
    have ih := rpnum_any k (n / 256) (by omega) (by omega)
    have e1 : IntKind.u8.wrap ((n : Int).tmod 256) = (n : Int) % 256 := by
      rw [Int.tmod_eq_emod_of_nonneg (by omega)]
      exact IntWalk.u8_in _ (by omega)
    have e2 : IntKind.u64.wrap ((n : Int) / 256) = ((n / 256 : Nat) : Int) := by
      have : (((n / 256 : Nat)) : Int) = (n : Int) / 256 := by omega
      rw [this]
      exact IntWalk.u64_in _ (by omega)
    have z1 : (str [UInt8.ofNat n]).size = 1 := str_size _
    have z2 : (str (leB k (n / 256))).size = k := by rw [str_size, leB_len]
    have e3 : IntKind.i64.wrap (k : Int) = k := IntWalk.i64_in _ (by omega)
    have hk0 : ¬ ((k : Int) + 1 ≤ 0) := by omega
    have hcv := @rp_conv_one n
    go_enter Tryd.func37, Tryd.ntmps37
    go_wp2
    go_region_with (go_at_call 37; refine (ih _).mono ?_; rintro e w' ⟨rfl, hb⟩; try have hcc := rp_after_new hb)
    all_goals go_wp2
    all_goals
      go_ret
      refine ⟨by rw [str_append]; rfl, ?_⟩
      first
        | exact Below.then' (((Below.refl _ _).alloc (Nat.le_refl _) _).drew) hb (le_drew_alloc _ _)
        | exact (Below.then' ((Below.refl _ _).drew) hb (Nat.le_refl _)).alloc hb.size _

theorem rp_info : (Tryd.prog.info? 5).map (fun i => (i.zero, i.size, i.bytes)) = some (some (.int .u8 0), 1, 1) := by kernel_rfl
/-- A text filled with zero bytes up to a length. -/
def rpFill (s : ByteArray) (n : Int) : ByteArray := s ++ str (List.replicate (n - s.size).toNat 0)

theorem rpFill_same (s : ByteArray) (n : Int) (h : n ≤ s.size) : rpFill s n = s := by
  have : (n - s.size).toNat = 0 := by omega
  unfold rpFill
  rw [this]
  apply ByteArray.ext
  simp [str, ByteArray.data_append]

set_option maxHeartbeats 400000 in
theorem rpfill0_any (s : ByteArray) (n : Int) (hn : n ≤ 5000) (w : World) :
    Calls Tryd.prog 38 #[.string s, .int .i64 n] w fun e w' => e = .returned (.string (rpFill s n)) ∧ Below w.heap.size w w' := by
  by_cases h : n ≤ s.size
  · have e := rpFill_same s n h
    go_enter Tryd.func38, Tryd.ntmps38
    go_wp2
    go_ret
    exact ⟨by first | rfl | (rw [e]; rfl), Below.refl _ _⟩
  · obtain ⟨k, hk⟩ : ∃ k : Nat, n = s.size + k := ⟨(n - s.size).toNat, by omega⟩
    subst hk
    have e : rpFill s (s.size + k) = s ++ str (List.replicate k 0) := by
      unfold rpFill; congr 3; omega
    have hz : (str (List.replicate k 0)).size = k := by simp [str_size]
    have es : (s.size : Int) + (k : Int) - (s.size : Int) = k := by omega
    have hmk := fun w' => run_make_row' (P := Tryd.prog) 50 5 (.int .u8 0) 1 Tryd.underlying50 rp_info rfl .i64 .i64 k (by omega) (by omega) w'
    have hcv := conv_bytes (P := Tryd.prog) (w.alloc (.cells (madeCells #[.int .u8 0] k) 5)) 50 9 5 w.heap.size k k (List.replicate k 0) (by simp) Tryd.underlying50 Tryd.underlying5 Tryd.underlying9 (fun j hj => by
        have hj' : j < k := by simpa using hj
        rw [World.cell?_alloc_mark]
        simp [madeCells, hj', Nat.mod_one])
    go_enter Tryd.func38, Tryd.ntmps38
    go_wp2
    go_ret
    exact ⟨rfl, (Below.refl _ _).alloc (Nat.le_refl _) _⟩

/-- Bytes filled with zeros up to a length. -/
def fillL (l : List UInt8) (n : Nat) : List UInt8 := l ++ List.replicate (n - l.length) 0
theorem rpfill_any (l : List UInt8) (n : Nat) (hn : n ≤ 5000) (w : World) :
    Calls Tryd.prog 38 #[.string (str l), .int .i64 n] w fun e w' => e = .returned (.string (str (fillL l n))) ∧ Below w.heap.size w w' := by
  have e : rpFill (str l) n = str (fillL l n) := by
    unfold rpFill fillL
    rw [str_append, str_size, show ((n : Int) - (l.length : Int)).toNat = n - l.length by omega]
  rw [← e]
  exact rpfill0_any (str l) n (by omega) w

end Go.Proofs.YtlfmmhalheohdaaDoor
namespace Go.Proofs.YtlfmmhalheohdaaDoor

/-- A superblock: its number, the disk's sectors, those of the journal, how many of its bytes count, the base's bytes and runs. -/
structure Sb where
  seq : Nat
  sec : Int
  jou : Int
  use : Int
  siz : Int
  runs : List (Int × Int)

theorem Sb.ext_iff' (a b : Sb) : a = b ↔ a.seq = b.seq ∧ a.sec = b.sec ∧ a.jou = b.jou ∧ a.use = b.use ∧ a.siz = b.siz ∧ a.runs = b.runs := by
  cases a; cases b; simp
instance : DecidableEq Sb := fun a b => decidable_of_iff _ (Sb.ext_iff' a b).symm
def Sb.zero : Sb := ⟨0, 0, 0, 0, 0, []⟩
/-- Numbers of the machine. -/
structure Sb.wf (s : Sb) : Prop where
  seq : s.seq < 2 ^ 64
  sec : -9223372036854775808 ≤ s.sec ∧ s.sec ≤ 9223372036854775807
  jou : -9223372036854775808 ≤ s.jou ∧ s.jou ≤ 9223372036854775807
  use : -9223372036854775808 ≤ s.use ∧ s.use ≤ 9223372036854775807
  siz : -9223372036854775808 ≤ s.siz ∧ s.siz ≤ 9223372036854775807
theorem Sb.zero_wf : Sb.zero.wf := ⟨by decide, by decide, by decide, by decide, by decide⟩

def needN (n : Int) : Int := if n < 1 then 0 else (n - 1) / 128 + 1
structure maySP (s : Sb) : Prop where
  seq : 1 ≤ s.seq
  sec : 4 ≤ s.sec ∧ s.sec ≤ 8192
  jou : 1 ≤ s.jou ∧ s.jou ≤ s.sec - 2
  use : 0 ≤ s.use ∧ s.use ≤ s.jou * 128
  siz : 0 ≤ s.siz ∧ s.siz ≤ 1048576
  len : s.runs.length ≤ 16
  runs : validL (2 + s.jou) s.sec s.runs
  sum : sumR s.runs = needN s.siz
theorem maySP_iff (s : Sb) : maySP s ↔ (1 ≤ s.seq ∧ (4 ≤ s.sec ∧ s.sec ≤ 8192) ∧ (1 ≤ s.jou ∧ s.jou ≤ s.sec - 2) ∧ (0 ≤ s.use ∧ s.use ≤ s.jou * 128) ∧ (0 ≤ s.siz ∧ s.siz ≤ 1048576) ∧ s.runs.length ≤ 16 ∧ validL (2 + s.jou) s.sec s.runs ∧ sumR s.runs = needN s.siz) :=
  ⟨fun h => ⟨h.seq, h.sec, h.jou, h.use, h.siz, h.len, h.runs, h.sum⟩, fun ⟨a, b, c, d, e, f, g, h⟩ => ⟨a, b, c, d, e, f, g, h⟩⟩
instance (s : Sb) : Decidable (maySP s) := decidable_of_iff _ (maySP_iff s).symm
def mayS (s : Sb) : Bool := decide (maySP s)

/-- Its sector. -/
def magicB : List UInt8 := [83, 72, 69, 65, 70, 48, 48, 49]
def runB (r : Int × Int) : List UInt8 := leB 2 r.1.toNat ++ leB 2 r.2.toNat
def runsB (l : List (Int × Int)) : List UInt8 := l.flatMap runB
def headS (s : Sb) : List UInt8 := magicB ++ (leB 8 s.seq ++ (leB 4 s.sec.toNat ++ (leB 4 s.jou.toNat ++ (leB 4 s.use.toNat ++ (leB 4 s.siz.toNat ++ (leB 4 s.runs.length ++ runsB s.runs))))))
def bodyS (s : Sb) : List UInt8 := fillL (headS s) 124
def putS (s : Sb) : List UInt8 := bodyS s ++ leB 4 (moreN 0 (bodyS s))

theorem runB_len (r : Int × Int) : (runB r).length = 4 := by unfold runB; rw [List.length_append, leB_len, leB_len]
theorem runsB_len : ∀ (l : List (Int × Int)), (runsB l).length = 4 * l.length
  | [] => rfl
  | r :: l => by
    show (runB r ++ runsB l).length = 4 * (l.length + 1)
    rw [List.length_append, runB_len, runsB_len l]; omega
theorem headS_len (s : Sb) : (headS s).length = 36 + 4 * s.runs.length := by
  unfold headS
  simp only [List.length_append, leB_len, runsB_len]
  show 8 + _ = _
  omega
theorem bodyS_len (s : Sb) (h : s.runs.length ≤ 16) : (bodyS s).length = 124 := by
  unfold bodyS fillL
  rw [List.length_append, headS_len, List.length_replicate]; omega
theorem putS_len (s : Sb) (h : s.runs.length ≤ 16) : (putS s).length = 128 := by
  unfold putS
  rw [List.length_append, bodyS_len s h, leB_len]

/-- The superblock that a sector's bytes say. -/
def fieldN (t : List UInt8) (i k : Nat) : Nat := ofLE ((t.drop i).take k)
def getRun (t : List UInt8) (i : Nat) : Int × Int := ((fieldN t (36 + 4 * i) 2 : Nat), (fieldN t (38 + 4 * i) 2 : Nat))
def getR (t : List UInt8) : Sb := ⟨fieldN t 8 8, (fieldN t 16 4 : Nat), (fieldN t 20 4 : Nat), (fieldN t 24 4 : Nat), (fieldN t 28 4 : Nat), (List.range (min (fieldN t 32 2) 16)).map (getRun t)⟩
def getS (t : List UInt8) : Option Sb := if t.length = 128 ∧ maySP (getR t) ∧ putS (getR t) = t then some (getR t) else none
def getD (t : List UInt8) : Sb := (getS t).getD Sb.zero
def getE (t : List UInt8) : Int := if (getS t).isSome then 0 else 110

theorem fieldN_lt (t : List UInt8) (i k : Nat) : fieldN t i k < 256 ^ k := by
  unfold fieldN
  refine Nat.lt_of_lt_of_le (ofLE_lt _) (Nat.pow_le_pow_right (by omega) ?_)
  rw [List.length_take]; omega
theorem field_at (A R : List UInt8) (i k n : Nat) (h : A.length = i) : fieldN (A ++ (leB k n ++ R)) i k = n % 256 ^ k := by
  unfold fieldN
  rw [List.drop_left' h, List.take_left' (leB_len _ _), ← leB_mod]
  exact ofLE_leB _ _ (Nat.mod_lt _ (Nat.pow_pos (by omega)))
theorem getR_wf (t : List UInt8) : (getR t).wf := by
  have h8 := fieldN_lt t 8 8
  have h1 := fieldN_lt t 16 4
  have h2 := fieldN_lt t 20 4
  have h3 := fieldN_lt t 24 4
  have h4 := fieldN_lt t 28 4
  refine ⟨?_, ?_, ?_, ?_, ?_⟩ <;> (unfold getR; simp only; omega)
theorem getR_wfR (t : List UInt8) : wfR (getR t).runs := by
  intro r hr
  obtain ⟨i, _, rfl⟩ := List.mem_map.1 hr
  have h1 := fieldN_lt t (36 + 4 * i) 2
  have h2 := fieldN_lt t (38 + 4 * i) 2
  unfold getRun
  simp only
  omega
theorem getR_len (t : List UInt8) : (getR t).runs.length ≤ 16 := by
  unfold getR
  simp only [List.length_map, List.length_range]
  omega

/-- Of one that may be, its sector says it. -/
theorem getR_putS {s : Sb} (h : maySP s) (hw : s.wf) : getR (putS s) = s := by
  obtain ⟨T, hT⟩ : ∃ T, T = List.replicate (124 - (headS s).length) 0 ++ leB 4 (moreN 0 (bodyS s)) := ⟨_, rfl⟩
  have hp : putS s = headS s ++ T := by
    rw [hT]
    unfold putS bodyS fillL
    rw [List.append_assoc]
  have hseq := hw.seq
  have hsec := h.sec
  have hjou := h.jou
  have huse := h.use
  have hsiz := h.siz
  have hlen := h.len
  have e8 : magicB.length = 8 := rfl
  have f0 : fieldN (putS s) 8 8 = s.seq := by
    rw [hp, show headS s ++ T = magicB ++ (leB 8 s.seq ++ ((leB 4 s.sec.toNat ++ (leB 4 s.jou.toNat ++ (leB 4 s.use.toNat ++ (leB 4 s.siz.toNat ++ (leB 4 s.runs.length ++ runsB s.runs))))) ++ T)) by unfold headS; simp only [List.append_assoc], field_at _ _ _ _ _ e8]
    omega
  have f1 : fieldN (putS s) 16 4 = s.sec.toNat := by
    rw [hp, show headS s ++ T = (magicB ++ leB 8 s.seq) ++ (leB 4 s.sec.toNat ++ ((leB 4 s.jou.toNat ++ (leB 4 s.use.toNat ++ (leB 4 s.siz.toNat ++ (leB 4 s.runs.length ++ runsB s.runs)))) ++ T)) by unfold headS; simp only [List.append_assoc], field_at _ _ _ _ _ (by simp only [List.length_append, leB_len, e8])]
    omega
  have f2 : fieldN (putS s) 20 4 = s.jou.toNat := by
    rw [hp, show headS s ++ T = (magicB ++ (leB 8 s.seq ++ leB 4 s.sec.toNat)) ++ (leB 4 s.jou.toNat ++ ((leB 4 s.use.toNat ++ (leB 4 s.siz.toNat ++ (leB 4 s.runs.length ++ runsB s.runs))) ++ T)) by unfold headS; simp only [List.append_assoc], field_at _ _ _ _ _ (by simp only [List.length_append, leB_len, e8])]
    omega
  have f3 : fieldN (putS s) 24 4 = s.use.toNat := by
    rw [hp, show headS s ++ T = (magicB ++ (leB 8 s.seq ++ (leB 4 s.sec.toNat ++ leB 4 s.jou.toNat))) ++ (leB 4 s.use.toNat ++ ((leB 4 s.siz.toNat ++ (leB 4 s.runs.length ++ runsB s.runs)) ++ T)) by unfold headS; simp only [List.append_assoc], field_at _ _ _ _ _ (by simp only [List.length_append, leB_len, e8])]
    omega
  have f4 : fieldN (putS s) 28 4 = s.siz.toNat := by
    rw [hp, show headS s ++ T = (magicB ++ (leB 8 s.seq ++ (leB 4 s.sec.toNat ++ (leB 4 s.jou.toNat ++ leB 4 s.use.toNat)))) ++ (leB 4 s.siz.toNat ++ ((leB 4 s.runs.length ++ runsB s.runs) ++ T)) by unfold headS; simp only [List.append_assoc], field_at _ _ _ _ _ (by simp only [List.length_append, leB_len, e8])]
    omega
  have f5 : fieldN (putS s) 32 2 = s.runs.length := by
    have e4 : leB 4 s.runs.length = leB 2 s.runs.length ++ leB 2 0 := by
      show [_, _, _, _] = [_, _] ++ [_, _]
      simp only [List.cons_append, List.nil_append, List.cons.injEq, and_true, true_and]
      have : s.runs.length / 256 / 256 = 0 := by omega
      rw [this]
      exact ⟨rfl, rfl⟩
    rw [hp, show headS s ++ T = (magicB ++ (leB 8 s.seq ++ (leB 4 s.sec.toNat ++ (leB 4 s.jou.toNat ++ (leB 4 s.use.toNat ++ leB 4 s.siz.toNat))))) ++ (leB 2 s.runs.length ++ (leB 2 0 ++ (runsB s.runs ++ T))) by unfold headS; rw [e4]; simp only [List.append_assoc], field_at _ _ _ _ _ (by simp only [List.length_append, leB_len, e8])]
    omega
  have fr : ∀ i (hi : i < s.runs.length), getRun (putS s) i = s.runs[i] := by
    intro i hi
    have hv := (h.runs i hi).1
    have hd : s.runs.getD i (0, 0) = s.runs[i] := by rw [List.getD_eq_getElem?_getD, List.getElem?_eq_getElem hi]; rfl
    rw [hd] at hv
    unfold fitR at hv
    have hsp : runsB s.runs = runsB (s.runs.take i) ++ (leB 2 s.runs[i].1.toNat ++ (leB 2 s.runs[i].2.toNat ++ runsB (s.runs.drop (i + 1)))) := by
      have := List.take_append_drop i s.runs
      rw [List.drop_eq_getElem_cons hi] at this
      conv => lhs; rw [← this]
      unfold runsB
      rw [List.flatMap_append, List.flatMap_cons]
      unfold runB
      simp only [List.append_assoc]
    have hl : (runsB (s.runs.take i)).length = 4 * i := by rw [runsB_len, List.length_take]; omega
    have g1 : fieldN (putS s) (36 + 4 * i) 2 = s.runs[i].1.toNat := by
      rw [hp, show headS s ++ T = (magicB ++ (leB 8 s.seq ++ (leB 4 s.sec.toNat ++ (leB 4 s.jou.toNat ++ (leB 4 s.use.toNat ++ (leB 4 s.siz.toNat ++ (leB 4 s.runs.length ++ runsB (s.runs.take i)))))))) ++ (leB 2 s.runs[i].1.toNat ++ ((leB 2 s.runs[i].2.toNat ++ runsB (s.runs.drop (i + 1))) ++ T)) by unfold headS; rw [hsp]; simp only [List.append_assoc], field_at _ _ _ _ _ (by simp only [List.length_append, leB_len, e8, hl]; omega)]
      omega
    have g2 : fieldN (putS s) (38 + 4 * i) 2 = s.runs[i].2.toNat := by
      rw [hp, show headS s ++ T = (magicB ++ (leB 8 s.seq ++ (leB 4 s.sec.toNat ++ (leB 4 s.jou.toNat ++ (leB 4 s.use.toNat ++ (leB 4 s.siz.toNat ++ (leB 4 s.runs.length ++ (runsB (s.runs.take i) ++ leB 2 s.runs[i].1.toNat)))))))) ++ (leB 2 s.runs[i].2.toNat ++ (runsB (s.runs.drop (i + 1)) ++ T)) by unfold headS; rw [hsp]; simp only [List.append_assoc], field_at _ _ _ _ _ (by simp only [List.length_append, leB_len, e8, hl]; omega)]
      omega
    unfold getRun
    rw [g1, g2]
    exact Prod.ext (by show ((s.runs[i].1.toNat : Nat) : Int) = _; omega) (by show ((s.runs[i].2.toNat : Nat) : Int) = _; omega)
  refine (Sb.ext_iff' _ _).2 ⟨f0, by show ((fieldN (putS s) 16 4 : Nat) : Int) = _; omega, by show ((fieldN (putS s) 20 4 : Nat) : Int) = _; omega, by show ((fieldN (putS s) 24 4 : Nat) : Int) = _; omega, by show ((fieldN (putS s) 28 4 : Nat) : Int) = _; omega, ?_⟩
  show (List.range (min (fieldN (putS s) 32 2) 16)).map (getRun (putS s)) = s.runs
  rw [f5, show min s.runs.length 16 = s.runs.length by omega]
  refine List.ext_getElem (by simp) fun i h1 h2 => ?_
  rw [List.getElem_map, List.getElem_range]
  exact fr i h2

theorem getS_putS {s : Sb} (h : maySP s) (hw : s.wf) : getS (putS s) = some s := by
  unfold getS
  rw [getR_putS h hw, if_pos ⟨putS_len s h.len, h, rfl⟩]
theorem getS_some {t : List UInt8} {s : Sb} (h : getS t = some s) : t.length = 128 ∧ maySP s ∧ s.wf ∧ wfR s.runs ∧ putS s = t := by
  unfold getS at h
  split at h
  · next hc =>
    have e := Option.some.inj h
    subst e
    exact ⟨hc.1, hc.2.1, getR_wf t, getR_wfR t, hc.2.2⟩
  · cases h
theorem getD_wf (t : List UInt8) : (getD t).wf ∧ wfR (getD t).runs ∧ (getD t).runs.length ≤ 16 := by
  unfold getD
  cases e : getS t with
  | none => exact ⟨Sb.zero_wf, wfR_nil, Nat.zero_le _⟩
  | some s => have h := getS_some e; exact ⟨h.2.2.1, h.2.2.2.1, h.2.1.len⟩

/-- Which of two sectors counts. -/
def pickS (a b : List UInt8) : Option Sb :=
  if (getS b).isSome ∧ (getD b).seq % 2 = 1 ∧ ¬ (((getS a).isSome ∧ (getD a).seq % 2 = 0) ∧ (getD b).seq < (getD a).seq) then getS b
  else if (getS a).isSome ∧ (getD a).seq % 2 = 0 then getS a else none
def pickD (a b : List UInt8) : Sb := (pickS a b).getD Sb.zero
def pickE (a b : List UInt8) : Int := if (pickS a b).isSome then 0 else 110
theorem pickS_or (a b : List UInt8) : pickS a b = none ∨ (pickS a b = getS a ∧ (getS a).isSome) ∨ (pickS a b = getS b ∧ (getS b).isSome) := by
  unfold pickS
  split
  · next h => exact Or.inr (Or.inr ⟨rfl, h.1⟩)
  · split
    · next h => exact Or.inr (Or.inl ⟨rfl, h.1⟩)
    · exact Or.inl rfl
theorem pickD_wf (a b : List UInt8) : (pickD a b).wf ∧ wfR (pickD a b).runs ∧ (pickD a b).runs.length ≤ 16 := by
  unfold pickD
  rcases pickS_or a b with h | ⟨h, _⟩ | ⟨h, _⟩
  · rw [h]; exact ⟨Sb.zero_wf, wfR_nil, Nat.zero_le _⟩
  · rw [h]; exact getD_wf a
  · rw [h]; exact getD_wf b

def nextS (s : Sb) : Sb := { s with seq := (s.seq + 1) % 2 ^ 64 }
theorem nextS_wf {s : Sb} (h : s.wf) : (nextS s).wf := ⟨Nat.mod_lt _ (by decide), h.sec, h.jou, h.use, h.siz⟩

/-- The next one counts. -/
theorem pick_newer {x y : Sb} (hx : maySP x) (wx : x.wf) (hy : maySP y) (wy : y.wf) (h : y.seq = x.seq + 1) :
    pickS (if x.seq % 2 = 1 then putS y else putS x) (if x.seq % 2 = 1 then putS x else putS y) = some y := by
  have gx := getS_putS hx wx
  have gy := getS_putS hy wy
  by_cases hp : x.seq % 2 = 1
  · rw [if_pos hp, if_pos hp]
    unfold pickS getD
    rw [gx, gy]
    simp only [Option.isSome_some, Option.getD_some, true_and]
    rw [if_neg (by omega), if_pos (by omega)]
  · rw [if_neg hp, if_neg hp]
    unfold pickS getD
    rw [gx, gy]
    simp only [Option.isSome_some, Option.getD_some, true_and]
    rw [if_pos (by omega)]
/-- Where the other sector is no superblock's, the one counts. -/
theorem pick_alone {x : Sb} {t : List UInt8} (hx : maySP x) (wx : x.wf) (ht : getS t = none) :
    pickS (if x.seq % 2 = 1 then t else putS x) (if x.seq % 2 = 1 then putS x else t) = some x := by
  have gx := getS_putS hx wx
  by_cases hp : x.seq % 2 = 1
  · rw [if_pos hp, if_pos hp]
    unfold pickS getD
    rw [gx, ht]
    simp only [Option.isSome_some, Option.getD_some, true_and, Option.isSome_none]
    rw [if_pos (by refine ⟨hp, by simp⟩)]
  · rw [if_neg hp, if_neg hp]
    unfold pickS getD
    rw [gx, ht]
    simp only [Option.isSome_some, Option.getD_some, true_and, Option.isSome_none]
    rw [if_neg (by simp), if_pos (by omega)]

end Go.Proofs.YtlfmmhalheohdaaDoor
namespace Go.Proofs.YtlfmmhalheohdaaDoor
open Go.RowKit

def I64 (n : Int) : Prop := -9223372036854775808 ≤ n ∧ n ≤ 9223372036854775807
theorem wf_I64 {i : Int} (h : (Lit.int .i64 i).wf = true) : I64 i := by
  unfold I64
  simpa [Lit.wf, IntKind.min, IntKind.max, IntKind.signed, IntKind.bits] using h

/-- Runs that a call made. -/
def OwnRuns (B : Nat) (l : List (Int × Int)) (v : Value) (w : World) : Prop := w.ownsRow B 48 2 v l.length (runC l)
theorem OwnRuns.at_ {B : Nat} {l : List (Int × Int)} {v : Value} {w : World} (h : OwnRuns B l v w) (hw : wfR l) : RunsAt l v w := RunsAt.own h hw
theorem OwnRuns.base {B C : Nat} {l : List (Int × Int)} {v : Value} {w : World} (h : OwnRuns B l v w) (hC : C ≤ B) : OwnRuns C l v w := own_base h hC

/-- A slice that lies in none of some blocks. -/
def Apart (v : Value) (Bs : Nat → Prop) : Prop := ∀ a n c, v = .slice (some a) n c → n ≠ 0 → ¬ Bs a.block
/-- A slice that lies in new memory. -/
def NewAt (v : Value) (w : World) : Prop := ∀ a n c, v = .slice (some a) n c → n ≠ 0 → w.heap.size ≤ a.block
/-- A list that lies in none of some blocks. -/
structure LiveAt (l : List (Int × Int)) (v : Value) (Bs : Nat → Prop) (w : World) : Prop where
  at_ : RunsAt l v w
  apart : Apart v Bs

theorem RunsAt.block {l : List (Int × Int)} {w : World} {a : Addr} {n c : Nat} (h : RunsAt l (.slice (some a) n c) w) (hn : n ≠ 0) : a.block < w.heap.size := by
  obtain ⟨p, c', he, -, hc⟩ := h.out
  simp only [Value.slice.injEq] at he
  obtain ⟨rfl, rfl, -⟩ := he
  rcases hc with h0 | ⟨b, off, hp, hc⟩
  · exact absurd h0 hn
  · have hp2 := Option.some.inj hp
    rw [hp2]
    have := World.block_lt_of_cell? _ _ (hc 0 (by omega)).1
    exact this

theorem LiveAt.later {l : List (Int × Int)} {v : Value} {Bs : Nat → Prop} {w w' : World} (h : LiveAt l v Bs w) (k : Kept w w') : LiveAt l v Bs w' := ⟨h.at_.later k, h.apart⟩
theorem RunsAt.but {l : List (Int × Int)} {v : Value} {Bs : Nat → Prop} {w w' : World} (h : RunsAt l v w) (ha : Apart v Bs) (hb : ButBy Bs w w') : RunsAt l v w' := by
  refine ⟨h.wf, h.cap, ?_⟩
  obtain ⟨h1, h2, p, c, rfl, hc⟩ := h.at_
  refine ⟨h1, h2, p, c, rfl, ?_⟩
  rcases hc with h0 | ⟨b, off, rfl, hc⟩
  · exact Or.inl h0
  · by_cases hl : l.length = 0
    · exact Or.inl hl
    · refine Or.inr ⟨b, off, rfl, fun j x hx => ?_⟩
      have hcx := hc j x hx
      have hlt := World.block_lt_of_cell? _ _ hcx
      rw [World.cell?_of_block (a := ⟨b, off + j, none⟩) (hb.block b hlt (ha _ _ _ rfl hl))]
      exact hcx
/-- Behind a call that changes a map. -/
theorem LiveAt.turn {l : List (Int × Int)} {v : Value} {Bs Bs' : Nat → Prop} {w w' : World} (h : LiveAt l v Bs w) (hs : ∀ k, Bs' k → Bs k ∨ w.heap.size ≤ k) (hb : ButBy Bs w w') : LiveAt l v Bs' w' :=
  ⟨h.at_.but h.apart hb, fun a n c e hn hk => by
    subst e
    rcases hs _ hk with x | x
    · exact h.apart _ _ _ rfl hn x
    · have := h.at_.block hn; omega⟩
theorem LiveAt.old {l : List (Int × Int)} {v : Value} {Bs : Nat → Prop} {w : World} (h : RunsAt l v w) (hB : ∀ k, Bs k → w.heap.size ≤ k) : LiveAt l v Bs w :=
  ⟨h, fun a n c e hn hk => by subst e; have := h.block hn; have := hB _ hk; omega⟩
theorem LiveAt.own {l : List (Int × Int)} {v : Value} {Bs : Nat → Prop} {B : Nat} {w : World} (h : OwnRuns B l v w) (hw : wfR l) (hB : ∀ k, Bs k → k < B) : LiveAt l v Bs w :=
  ⟨h.at_ hw, fun a n c e hn hk => by
    subst e
    have := (World.ownsRow.lt h a.block rfl).1
    have := hB _ hk
    omega⟩

end Go.Proofs.YtlfmmhalheohdaaDoor
namespace Go.Proofs.YtlfmmhalheohdaaDoor
open Go.RowKit

theorem neq_run (a n b m : Int) (w : World) : (binOp .neq 48 (.agg #[.int .i64 a, .int .i64 n]) (.agg #[.int .i64 b, .int .i64 m])).run Tryd.prog w = .ok (.bool (!(decide (a = b) && decide (n = m)))) w := by
  have h := run_equalIn_struct (P := Tryd.prog) w 9999 48 #[.int .i64 a, .int .i64 n] #[.int .i64 b, .int .i64 m] (by kernel_rfl) (by kernel_rfl)
  have hq : (Op.equalIn 10000 48 (.agg #[.int .i64 a, .int .i64 n]) (.agg #[.int .i64 b, .int .i64 m])).run Tryd.prog w = .ok (decide (a = b) && decide (n = m)) w := by
    rw [h]
    by_cases h1 : a = b
    · by_cases h2 : n = m
      · subst h1 h2
        go_simp
      · subst h1
        go_simp
    · go_simp
  rw [run_neq_struct, hq]
  rfl

end Go.Proofs.YtlfmmhalheohdaaDoor
