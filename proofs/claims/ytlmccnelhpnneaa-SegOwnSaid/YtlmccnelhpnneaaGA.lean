/- Plain facts on bytes, of no program: a number's bytes, the least first, and what follows of them. Lists that are cut into segments: the mathematics of stage 8, of no program. Fingerprints (arrays of bytes) as arguments, and slices of them; of no program. Two fingerprints against each other; of no program. Fingerprints, their order, sets of them: the mathematics of stage 7, of no program. Fingerprints as texts, as numbers: the mathematics of stage 7, of no program. -/
import Derived.Lib.Strings
import Derived.Below
import Derived.Laws.AppendOwn
import Derived.Laws.IdiomStrings
import Derived.Lib.Builder
import Derived.Lib.UnsafeStr
import Derived.Lib.AppendStr
import Derived.Laws.BitsAllLaws
import Derived.IntWalk
import Derived.OpenShut
import Derived.ChangeSlices
import Derived.ChangeKeysEq
import Derived.LaidEqlPtr
namespace Go.Proofs.Ytlmccnelhpnneaa
open Go.RowKit

/-- The bytes of a number, so many, the least first. -/
def leB : Nat → Nat → List UInt8
  | 0, _ => []
  | k + 1, n => UInt8.ofNat n :: leB k (n / 256)

theorem leB_len : ∀ k n, (leB k n).length = k
  | 0, _ => rfl
  | k + 1, n => by simp [leB, leB_len k]

theorem leB_get : ∀ k n i (h : i < (leB k n).length), (leB k n)[i] = UInt8.ofNat (n / 256 ^ i)
  | 0, _, i, h => by simp [leB] at h
  | k + 1, n, 0, h => by simp [leB]
  | k + 1, n, i + 1, h => by
    simp only [leB, List.getElem_cons_succ]
    rw [leB_get k (n / 256) i]
    rw [Nat.div_div_eq_div_mul, Nat.pow_succ, Nat.mul_comm]

/-- A text of a list of bytes. -/
def str (l : List UInt8) : ByteArray := ⟨l.toArray⟩

theorem str_size (l : List UInt8) : (str l).size = l.length := by simp [str, ByteArray.size]

theorem str_list (l : List UInt8) : (str l).data.toList = l := rfl

theorem str_append (a b : List UInt8) : str a ++ str b = str (a ++ b) := by
  apply ByteArray.ext
  simp [str, ByteArray.data_append]

theorem str_data (s : ByteArray) : str s.data.toList = s := by
  obtain ⟨⟨l⟩⟩ := s
  rfl

theorem byte_div (n i : Nat) : (((n : Int) / 2 ^ (8 * i)) % 256 : Int) = ((UInt8.ofNat (n / 256 ^ i)).toNat : Int) := by
  have e : (2 : Int) ^ (8 * i) = ((256 ^ i : Nat) : Int) := by
    rw [Int.natCast_pow, show ((256 : Nat) : Int) = 2 ^ 8 from rfl, ← Int.pow_mul]
  rw [e, UInt8.toNat_ofNat']
  omega

/-- Behind a call: what was kept up to the call, and what the call kept. -/
theorem Below.then' {B : Nat} {a w w' : World} (h : Below B a w) (hb : Below w.heap.size w w') (hB : B ≤ w.heap.size) : Below B a w' := h.trans (hb.mono hB)

theorem le_drew_alloc (w : World) (o : Obj) : w.heap.size ≤ (w.alloc o).drew.heap.size := by
  show w.heap.size ≤ (w.heap.push o).size
  simp

/-- 'string(b)' of a row of the call's own. -/
theorem conv_bytes {P : Program} (w : World) (src dst e : TypeId) (b n cap : Nat) (l : List UInt8) (hl : l.length = n) (hs : P.underlying src = some (.slice e)) (he : P.underlying e = some (.int .u8)) (hd : P.underlying dst = some .string)
    (hc : ∀ j (hj : j < l.length), w.cell? ⟨b, j, none⟩ = some (.int .u8 (l[j].toNat : Int))) :
    (convert src dst (.slice (some ⟨b, 0, none⟩) n cap)).run P w = .ok (.string (str l)) w := by
  subst hl
  exact run_convert_bytes_back w src dst e ⟨b, 0, none⟩ cap l hs he hd (fun j hj => by
    have e : (⟨b, 0, none⟩ : Addr).add j = ⟨b, j, none⟩ := by unfold Addr.add; split <;> simp_all
    rw [e]; exact hc j hj)

/-- The bytes of a text, of some texts, of a list of texts. -/
def textB (s : ByteArray) : List UInt8 := leB 4 s.size ++ s.data.toList
def textsB (ss : List ByteArray) : List UInt8 := (ss.map textB).flatten
def listB (ss : List ByteArray) : List UInt8 := leB 4 ss.length ++ textsB ss

theorem data_len (s : ByteArray) : s.data.toList.length = s.size := (Lib.size_eq s).symm

theorem textB_len (s : ByteArray) : (textB s).length = 4 + s.size := by simp [textB, leB_len]

theorem textsB_snoc (ss : List ByteArray) (k : Nat) (h : k < ss.length) : textsB (ss.take (k + 1)) = textsB (ss.take k) ++ textB ss[k] := by
  unfold textsB
  rw [List.take_succ_eq_append_getElem h]
  simp only [List.map_append, List.flatten_append, List.map_cons, List.map_nil, List.flatten_cons, List.flatten_nil, List.append_nil]

theorem textsB_take_le (ss : List ByteArray) (k : Nat) : (textsB (ss.take k)).length ≤ (textsB ss).length := by
  conv => rhs; rw [← List.take_append_drop k ss]
  unfold textsB
  simp only [List.map_append, List.flatten_append, List.length_append]
  omega

theorem size_le_texts (ss : List ByteArray) (k : Nat) (h : k < ss.length) : 4 + (ss[k]).size + (textsB (ss.take k)).length ≤ (textsB ss).length := by
  have h1 := textsB_take_le ss (k + 1)
  rw [textsB_snoc ss k h, List.length_append, textB_len] at h1
  omega

theorem texts_ge : ∀ ss : List ByteArray, 4 * ss.length ≤ (textsB ss).length
  | [] => by simp
  | s :: ss => by
    have h := texts_ge ss
    have e : textsB (s :: ss) = textB s ++ textsB ss := by simp [textsB]
    rw [e, List.length_append, textB_len, List.length_cons]
    omega

theorem str_text (s : ByteArray) : str (leB 4 s.size) ++ s = str (textB s) := by
  have h : str (leB 4 s.size) ++ str s.data.toList = str (textB s) := str_append _ _
  rwa [str_data] at h

theorem strCells_str (l : List UInt8) : Lib.strCells (str l) = Lib.byteCells l := rfl

/-- The value v is a slice of the texts ss in the world w. -/
def StrAt (ss : List ByteArray) (v : Value) (w : World) : Prop :=
  ∃ p c, v = .slice p ss.length c ∧ (ss = [] ∨ ∃ b off, p = some ⟨b, off, none⟩ ∧ ∀ i (h : i < ss.length), w.cell? ⟨b, off + i, none⟩ = some (.string ss[i]))

theorem StrAt.later {ss : List ByteArray} {v : Value} {w w' : World} (h : StrAt ss v w) (hb : Below w.heap.size w w') : StrAt ss v w' := by
  obtain ⟨p, c, rfl, h⟩ := h
  refine ⟨p, c, rfl, ?_⟩
  rcases h with h | ⟨b, off, hp, hc⟩
  · exact Or.inl h
  · exact Or.inr ⟨b, off, hp, fun i hi => (hb.cell (World.block_lt_of_cell? _ _ (hc i hi))).trans (hc i hi)⟩

theorem addr_cell {w : World} {a : Addr} {v : Value} (h : w.cell? (a.add 0) = some v) : a = ⟨a.block, a.off, none⟩ := by
  obtain ⟨b, o, sp⟩ := a
  cases sp with
  | none => rfl
  | some x =>
    exfalso
    have e : (⟨b, o, some x⟩ : Addr).add 0 = ⟨b, o, some x⟩ := by simp [Addr.add]
    rw [e] at h
    unfold World.cell? at h
    split at h <;> simp at h

theorem addr_add (b o i : Nat) : (⟨b, o, none⟩ : Addr).add i = ⟨b, o + i, none⟩ := by unfold Addr.add; split <;> simp_all

theorem strAt_open {w : World} {a : Addr} {len cap : Nat} {ss : List ByteArray} (hl : len ≤ ss.length) (hc : ∀ i, i < ss.length → w.cell? (a.add i) = some (.string (ss.getD i ByteArray.empty))) :
    StrAt (ss.take len) (.slice (some a) len cap) w := by
  refine ⟨some a, cap, by rw [List.length_take, Nat.min_eq_left hl], ?_⟩
  by_cases h0 : len = 0
  · left; rw [h0]; simp
  · right
    have ha := addr_cell (hc 0 (by omega))
    refine ⟨a.block, a.off, by rw [← ha], fun i hi => ?_⟩
    rw [List.length_take] at hi
    have h := hc i (by omega)
    rw [ha] at h
    rw [addr_add] at h
    rw [h, List.getElem_take]
    simp [List.getD, List.getElem?_eq_getElem (show i < ss.length by omega)]

/-- The value v is a slice of the numbers zs in the world w. -/
def IntAt (k : IntKind) (zs : List Int) (v : Value) (w : World) : Prop :=
  ∃ p c, v = .slice p zs.length c ∧ (zs = [] ∨ ∃ b off, p = some ⟨b, off, none⟩ ∧ ∀ i (h : i < zs.length), w.cell? ⟨b, off + i, none⟩ = some (.int k zs[i]))

theorem intAt_open {k : IntKind} {w : World} {a : Addr} {len cap : Nat} {ss : List Int} (hl : len ≤ ss.length) (hc : ∀ i, i < ss.length → w.cell? (a.add i) = some (.int k (ss.getD i 0))) :
    IntAt k (ss.take len) (.slice (some a) len cap) w := by
  refine ⟨some a, cap, by rw [List.length_take, Nat.min_eq_left hl], ?_⟩
  by_cases h0 : len = 0
  · left; rw [h0]; simp
  · right
    have ha := addr_cell (hc 0 (by omega))
    refine ⟨a.block, a.off, by rw [← ha], fun i hi => ?_⟩
    rw [List.length_take] at hi
    have h := hc i (by omega)
    rw [ha] at h
    rw [addr_add] at h
    rw [h, List.getElem_take]
    simp [List.getD, List.getElem?_eq_getElem (show i < ss.length by omega)]

/-- What a law's walk comes to: true, and nothing that was there has turned. -/
def LawPost (w : World) (e : Ending) (w' : World) : Prop := e = .returned (.bool true) ∧ Below w.heap.size w w'

/-- A builder is one still behind a call that kept what there was. -/
theorem builder_later {T e : TypeId} {B b : Nat} {bs : List Value} {w w' : World} (h : Lib.IsBuilder T e B b bs w) (hb : Below w.heap.size w w') : Lib.IsBuilder T e B b bs w' := by
  have one : ∀ p, Lib.BuilderAt T e B b p bs w → Lib.BuilderAt T e B b p bs w' := by
    intro p h
    have hlt := h.lt
    obtain ⟨hB, v, hbk, hown, hne⟩ := h
    refine ⟨hB, v, (hb.block b hlt).trans hbk, hown.kept (row := none) ⟨hb.os, hb.tape, hb.output, hb.size, fun k hk _ => hb.block k hk⟩ ?_, hne⟩
    cases hv : v.ownBlock <;> simp
  rcases h with h | h
  · exact Or.inl (one _ h)
  · exact Or.inr (one _ h)

/-! ### What a reader of bytes answers: a state is what is left, and an error's number. -/
abbrev RdSt := List UInt8 × Int

def takeR (s : RdSt) (n : Int) : List UInt8 × RdSt :=
  if s.2 ≠ 0 then ([], s)
  else if n < 0 then ([], ([], 1))
  else if (s.1.length : Int) < n then ([], ([], 10))
  else (s.1.take n.toNat, (s.1.drop n.toNat, 0))

/-- The number of some bytes, the least first. -/
def ofLE : List UInt8 → Nat
  | [] => 0
  | b :: l => b.toNat + 256 * ofLE l

def numR (s : RdSt) (k : Nat) : Nat × RdSt := (ofLE (takeR s k).1, (takeR s k).2)

def lenR (s : RdSt) (most : Nat) : Nat × RdSt := if most < (numR s 4).1 then (0, ([], 2)) else numR s 4

def textR (s : RdSt) : List UInt8 × RdSt := takeR (lenR s 65536).2 (lenR s 65536).1

def textsR : Nat → RdSt → List (List UInt8) → List (List UInt8) × RdSt
  | 0, s, acc => (acc, s)
  | k + 1, s, acc => if (textR s).2.2 = 0 then textsR k (textR s).2 (acc ++ [(textR s).1]) else ([], (textR s).2)

def listR (s : RdSt) : List (List UInt8) × RdSt := textsR (lenR s 65536).1 (lenR s 65536).2 []

theorem ofLE_lt : ∀ l : List UInt8, ofLE l < 256 ^ l.length
  | [] => by simp [ofLE]
  | b :: l => by
    have h := ofLE_lt l
    have hb := b.toNat_lt
    simp only [ofLE, List.length_cons, Nat.pow_succ]
    omega

theorem ofLE_snoc : ∀ (l : List UInt8) (b : UInt8), ofLE (l ++ [b]) = ofLE l + b.toNat * 256 ^ l.length
  | [], b => by simp [ofLE]
  | c :: l, b => by
    have h := ofLE_snoc l b
    simp only [List.cons_append, ofLE, h, List.length_cons, Nat.pow_succ]
    rw [Nat.mul_add, Nat.mul_comm (256 ^ l.length) 256, ← Nat.mul_assoc, ← Nat.mul_assoc, Nat.mul_comm 256 b.toNat]
    omega

theorem ofLE_take (l : List UInt8) (i : Nat) (h : i < l.length) : ofLE (l.take (i + 1)) = ofLE (l.take i) + l[i].toNat * 256 ^ i := by
  rw [List.take_succ_eq_append_getElem h, ofLE_snoc]
  rw [List.length_take, Nat.min_eq_left (by omega)]

theorem or_step (A B i : Nat) (hA : A < 256 ^ i) (hB : B < 256) (hi : i ≤ 7) :
    bits .or .u64 (A : Int) (IntKind.u64.wrap (IntKind.u64.wrap (B : Int) * 2 ^ (8 * i))) = ((A + B * 256 ^ i : Nat) : Int) := by
  have e256 : (256 : Nat) ^ i = 2 ^ (8 * i) := by rw [show (256 : Nat) = 2 ^ 8 from rfl, ← Nat.pow_mul]
  have hp : 256 ^ i ≤ 256 ^ 7 := Nat.pow_le_pow_right (by omega) hi
  have hB2 : B * 256 ^ i ≤ 255 * 256 ^ 7 := Nat.mul_le_mul (by omega) hp
  have w1 : IntKind.u64.wrap (B : Int) = B := IntWalk.u64_in _ (by omega)
  have e2 : (B : Int) * 2 ^ (8 * i) = ((B * 256 ^ i : Nat) : Int) := by rw [e256]; simp
  rw [w1, e2, IntWalk.u64_in _ (by omega), u64_or_nat _ _ (by omega) (by omega)]
  congr 1
  rw [e256] at hA ⊢
  have h := Nat.two_pow_add_eq_or_of_lt hA B
  rw [Nat.or_comm, Nat.mul_comm B, ← h, Nat.add_comm]

theorem str_take (l : List UInt8) (n : Nat) : (str l).extract 0 n = str (l.take n) := by
  have h := Lib.extract_eq (str l) 0 n
  rw [h, str_list]
  simp [str]

theorem str_drop (l : List UInt8) (n : Nat) : (str l).extract n l.length = str (l.drop n) := by
  have h := Lib.extract_eq (str l) n l.length
  rw [h, str_list]
  unfold str
  congr 2
  exact List.take_of_length_le (by simp)

theorem grown_set (w : World) (b i : Nat) (v : Value) : w.grownBy (w.setCell ⟨b, i, none⟩ v) (some b) :=
  ⟨rfl, rfl, rfl, by simp [World.setCell], fun k _ hk => Below.heap_setCell _ _ _ _ (fun e => hk (by simp [e]))⟩

theorem below_touch {B b : Nat} {a w w' : World} (h : Below B a w) (hg : w.grownBy w' (some b)) (hB : B ≤ w.heap.size) (hb : B ≤ b) : Below B a w' :=
  h.grown hg hB (fun k hk => by cases hk; exact hb)

theorem grown_refl (w : World) (r : Option Nat) : w.grownBy w r := ⟨rfl, rfl, rfl, Nat.le_refl _, fun _ _ _ => rfl⟩

theorem grown_trans {a b c : World} {r : Option Nat} (h : a.grownBy b r) (k : b.grownBy c r) : a.grownBy c r :=
  ⟨k.os.trans h.os, k.tape.trans h.tape, k.output.trans h.output, Nat.le_trans h.size k.size, fun i hi hr => (k.block i (Nat.lt_of_lt_of_le hi h.size) hr).trans (h.block i hi hr)⟩

theorem grown_below {w w' : World} (h : Below w.heap.size w w') (r : Option Nat) : w.grownBy w' r :=
  ⟨h.os, h.tape, h.output, h.size, fun k hk _ => h.block k hk⟩

end Go.Proofs.Ytlmccnelhpnneaa
namespace Go.Proofs.Ytlmccnelhpnneaa

/-! ### The first number from n on, k of them, that has a property; 0 where none has. -/
def upTo (p : Nat → Bool) : Nat → Nat → Nat
  | _, 0 => 0
  | n, k + 1 => if p n then n else upTo p (n + 1) k

theorem upTo_in (p : Nat → Bool) : ∀ k n, upTo p n k = 0 ∨ (n ≤ upTo p n k ∧ upTo p n k < n + k ∧ p (upTo p n k) = true)
  | 0, _ => Or.inl rfl
  | k + 1, n => by
    unfold upTo
    by_cases h : p n = true
    · rw [if_pos h]; exact Or.inr ⟨Nat.le_refl _, by omega, h⟩
    · rw [if_neg h]
      rcases upTo_in p k (n + 1) with e | ⟨h1, h2, h3⟩
      · exact Or.inl e
      · exact Or.inr ⟨by omega, by omega, h3⟩

theorem upTo_zero (p : Nat → Bool) : ∀ k n, 0 < n → (upTo p n k = 0 ↔ ∀ i, n ≤ i → i < n + k → p i = false)
  | 0, n, _ => ⟨fun _ i h1 h2 => by omega, fun _ => rfl⟩
  | k + 1, n, h0 => by
    unfold upTo
    by_cases h : p n = true
    · rw [if_pos h]
      constructor
      · intro e; omega
      · intro e; rw [e n (Nat.le_refl _) (by omega)] at h; cases h
    · rw [if_neg h, upTo_zero p k (n + 1) (by omega)]
      constructor
      · intro e i h1 h2
        by_cases hi : i = n
        · rw [hi]; simpa using h
        · exact e i (by omega) (by omega)
      · intro e i h1 h2
        exact e i (by omega) (by omega)

theorem upTo_congr (p q : Nat → Bool) : ∀ k n, (∀ i, n ≤ i → i < n + k → p i = q i) → upTo p n k = upTo q n k
  | 0, _, _ => rfl
  | k + 1, n, h => by
    unfold upTo
    rw [h n (Nat.le_refl _) (by omega), upTo_congr p q k (n + 1) (fun i h1 h2 => h i (by omega) (by omega))]

theorem upTo_more (p : Nat → Bool) (m : Nat) : ∀ k n, upTo p n k ≠ 0 → upTo p n (k + m) = upTo p n k
  | 0, _, h => absurd rfl h
  | k + 1, n, h => by
    have e : k + 1 + m = (k + m) + 1 := by omega
    rw [e]
    unfold upTo at h ⊢
    by_cases hp : p n = true
    · rw [if_pos hp, if_pos hp]
    · rw [if_neg hp] at h ⊢
      rw [if_neg hp]
      exact upTo_more p m k (n + 1) h

/-- One more: what ends there, if nothing ended before. -/
theorem upTo_last (p : Nat → Bool) : ∀ k n, upTo p n k = 0 → 0 < n → upTo p n (k + 1) = if p (n + k) then n + k else 0
  | 0, n, _, _ => by simp [upTo]
  | k + 1, n, h, h0 => by
    have hp : ¬ p n = true := by
      intro hp
      unfold upTo at h
      rw [if_pos hp] at h
      omega
    rw [show upTo p n (k + 1 + 1) = upTo p (n + 1) (k + 1) by rw [upTo, if_neg hp]]
    unfold upTo at h
    rw [if_neg hp] at h
    rw [upTo_last p k (n + 1) h (by omega), show n + 1 + k = n + (k + 1) by omega]

/-- Found at j: nothing before, and there it is. -/
theorem upTo_find (p : Nat → Bool) (j : Nat) : ∀ k n, n ≤ j → j < n + k → 0 < n → (∀ i, n ≤ i → i < j → p i = false) → p j = true → upTo p n k = j
  | 0, n, h1, h2, _, _, _ => by omega
  | k + 1, n, h1, h2, h0, hno, hj => by
    unfold upTo
    by_cases hn : n = j
    · rw [hn, if_pos hj]
    · rw [hno n (Nat.le_refl _) (by omega)]
      exact upTo_find p j k (n + 1) (by omega) (by omega) (by omega) (fun i x y => hno i (by omega) y) hj

/-! ### The first segment. -/
section
variable {α : Type}

/-- Does a segment of n end there: at the most, or behind a mark? -/
def endsAt (p : α → Bool) (mx : Nat) (l : List α) (n : Nat) : Bool := n == mx || (l[n - 1]?.map p).getD false

/-- The first segment's length; 0 where more is needed. -/
def segN (p : α → Bool) (mn mx : Nat) (l : List α) : Nat := upTo (endsAt p mx l) mn (l.length + 1 - mn)

variable (p : α → Bool) (mn mx : Nat)

theorem segN_nil (h1 : 1 ≤ mn) : segN p mn mx [] = 0 := by
  unfold segN
  rw [show ([] : List α).length + 1 - mn = 0 by simp; omega]
  rfl

theorem segN_le (l : List α) (_h1 : 1 ≤ mn) : segN p mn mx l ≤ l.length := by
  unfold segN
  rcases upTo_in (endsAt p mx l) (l.length + 1 - mn) mn with e | ⟨_, e, _⟩ <;> omega

/-- No end before the place n. -/
theorem segN_zero (h1 : 1 ≤ mn) (l : List α) : segN p mn mx l = 0 ↔ ∀ i, mn ≤ i → i ≤ l.length → endsAt p mx l i = false := by
  unfold segN
  rw [upTo_zero _ _ _ (by omega)]
  constructor
  · intro h i h2 h3; exact h i h2 (by omega)
  · intro h i h2 h3; exact h i h2 (by omega)

theorem segN_in (h1 : 1 ≤ mn) (h2 : mn ≤ mx) (l : List α) : segN p mn mx l = 0 ∨ (mn ≤ segN p mn mx l ∧ segN p mn mx l ≤ mx ∧ segN p mn mx l ≤ l.length) := by
  unfold segN
  rcases upTo_in (endsAt p mx l) (l.length + 1 - mn) mn with e | ⟨e1, e2, _⟩
  · exact Or.inl e
  · right
    refine ⟨e1, ?_, by omega⟩
    by_cases hx : mx < mn + (l.length + 1 - mn)
    · -- the place mx is among those looked at
      have hm := upTo_more (endsAt p mx l) (l.length + 1 - mn - (mx + 1 - mn)) (mx + 1 - mn) mn
      have hz : upTo (endsAt p mx l) mn (mx + 1 - mn) ≠ 0 := by
        intro hz
        have := (upTo_zero _ _ _ (by omega)).1 hz mx h2 (by omega)
        simp [endsAt] at this
      have hm := hm hz
      rw [show mx + 1 - mn + (l.length + 1 - mn - (mx + 1 - mn)) = l.length + 1 - mn by omega] at hm
      rw [hm]
      rcases upTo_in (endsAt p mx l) (mx + 1 - mn) mn with e | ⟨_, e3, _⟩ <;> omega
    · omega

/-- What ended stays, whatever comes behind. -/
theorem segN_more (l m : List α) (h1 : 1 ≤ mn) (h : segN p mn mx l ≠ 0) : segN p mn mx (l ++ m) = segN p mn mx l := by
  have hle : mn ≤ l.length := by
    by_cases hc : mn ≤ l.length
    · exact hc
    · exfalso; apply h
      unfold segN
      rw [show l.length + 1 - mn = 0 by omega]; rfl
  have e : segN p mn mx l = upTo (endsAt p mx (l ++ m)) mn (l.length + 1 - mn) := by
    unfold segN
    apply upTo_congr
    intro i h2 h3
    unfold endsAt
    rw [List.getElem?_append_left (by omega)]
  rw [e] at h ⊢
  unfold segN
  rw [List.length_append, show l.length + m.length + 1 - mn = l.length + 1 - mn + m.length by omega]
  exact upTo_more _ _ _ _ h

/-- Nothing ended: then less than the most is there. -/
theorem segN_short (h1 : 1 ≤ mn) (h2 : mn ≤ mx) (l : List α) (h : segN p mn mx l = 0) : l.length < mx := by
  by_cases hc : l.length < mx
  · exact hc
  · exfalso
    have := (segN_zero p mn mx h1 l).1 h mx h2 (by omega)
    simp [endsAt] at this

/-- One more. -/
theorem segN_snoc (h1 : 1 ≤ mn) (l : List α) (x : α) (h : segN p mn mx l = 0) : segN p mn mx (l ++ [x]) = if mn ≤ l.length + 1 ∧ (l.length + 1 = mx ∨ p x = true) then l.length + 1 else 0 := by
  by_cases hm : mn ≤ l.length + 1
  · have e : upTo (endsAt p mx (l ++ [x])) mn (l.length + 1 - mn) = 0 := by
      rw [← h]
      unfold segN
      apply upTo_congr
      intro i h2 h3
      unfold endsAt
      rw [List.getElem?_append_left (by omega)]
    unfold segN
    rw [List.length_append, List.length_singleton, show l.length + 1 + 1 - mn = l.length + 1 - mn + 1 by omega, upTo_last _ _ _ e (by omega), show mn + (l.length + 1 - mn) = l.length + 1 by omega]
    have ev : endsAt p mx (l ++ [x]) (l.length + 1) = (decide (l.length + 1 = mx) || p x) := by
      unfold endsAt
      rw [show l.length + 1 - 1 = l.length by omega, List.getElem?_append_right (Nat.le_refl _)]
      simp
      rfl
    rw [ev]
    by_cases hx : l.length + 1 = mx
    · simp [hx]; omega
    · cases hp : p x <;> simp [hx, hm]
  · rw [if_neg (by omega)]
    unfold segN
    rw [show (l ++ [x]).length + 1 - mn = 0 by simp; omega]
    rfl
end

/-! ### All segments. -/
section
variable {α : Type} (f : List α → Nat)

/-- How much is cut off a list: the first segment, or all. -/
def offN (l : List α) : Nat := if f l = 0 then l.length else min (f l) l.length

def segs (l : List α) : List (List α) :=
  if _h : 0 < offN f l then l.take (offN f l) :: segs (l.drop (offN f l)) else []
termination_by l.length
decreasing_by
  have : offN f l ≤ l.length := by unfold offN; split <;> omega
  rw [List.length_drop]; omega

variable {f}

theorem offN_le (l : List α) : offN f l ≤ l.length := by unfold offN; split <;> omega
theorem offN_pos {l : List α} (h : l ≠ []) : 0 < offN f l := by
  have := List.length_pos_iff.2 h
  unfold offN
  split <;> omega
theorem segs_nil : segs f [] = [] := by
  have h : offN f ([] : List α) ≤ 0 := offN_le []
  rw [segs, dif_neg (by omega)]
theorem segs_cons {l : List α} (h : l ≠ []) : segs f l = l.take (offN f l) :: segs f (l.drop (offN f l)) := by
  rw [segs, dif_pos (offN_pos h)]

theorem segs_ind (P : List α → Prop) (h0 : P []) (h1 : ∀ l, l ≠ [] → P (l.drop (offN f l)) → P l) : ∀ n l, l.length ≤ n → P l := by
  intro n
  induction n with
  | zero => intro l hl; rw [List.length_eq_zero_iff.1 (Nat.le_zero.1 hl)]; exact h0
  | succ n ih =>
    intro l hl
    by_cases h : l = []
    · rw [h]; exact h0
    · refine h1 l h (ih _ ?_)
      have := offN_pos (f := f) h
      rw [List.length_drop]; omega

/-- Put together they are the list. -/
theorem segs_join (l : List α) : (segs f l).flatten = l := by
  refine segs_ind (f := f) (fun l => (segs f l).flatten = l) (by rw [segs_nil]; rfl) ?_ _ l (Nat.le_refl _)
  intro l h ih
  show (segs f l).flatten = l
  rw [segs_cons h, List.flatten_cons, ih, List.take_append_drop]

theorem segs_pos (l : List α) : ∀ s ∈ segs f l, 0 < s.length := by
  refine segs_ind (f := f) (fun l => ∀ s ∈ segs f l, 0 < s.length) (by rw [segs_nil]; simp) ?_ _ l (Nat.le_refl _)
  intro l h ih s hs
  rw [segs_cons h] at hs
  rcases List.mem_cons.1 hs with rfl | hs
  · have := offN_pos (f := f) h
    have := offN_le (f := f) l
    rw [List.length_take]; omega
  · exact ih s hs

theorem segs_len (l : List α) : (segs f l).length ≤ l.length := by
  refine segs_ind (f := f) (fun l => (segs f l).length ≤ l.length) (by rw [segs_nil]; simp) ?_ _ l (Nat.le_refl _)
  intro l h ih
  have := offN_pos (f := f) h
  have h2 := offN_le (f := f) l
  rw [List.length_drop] at ih
  show (segs f l).length ≤ l.length
  rw [segs_cons h, List.length_cons]
  omega

/-- Each segment is of its lengths: the last from 1, the others from the least on, none over the most. -/
theorem segs_sizes (mn mx : Nat) (h1 : 1 ≤ mn) (hf : ∀ l, f l = 0 ∧ l.length ≤ mx ∨ (mn ≤ f l ∧ f l ≤ mx ∧ f l ≤ l.length)) (l : List α) :
    ∀ i (h : i < (segs f l).length), (segs f l)[i].length ≤ mx ∧ (i + 1 < (segs f l).length → mn ≤ (segs f l)[i].length) := by
  refine segs_ind (f := f) (fun l => ∀ i (h : i < (segs f l).length), (segs f l)[i].length ≤ mx ∧ (i + 1 < (segs f l).length → mn ≤ (segs f l)[i].length)) ?_ ?_ _ l (Nat.le_refl _)
  · intro i h; rw [segs_nil] at h; simp at h
  · intro l hl ih i h
    have hoff := offN_le (f := f) l
    have e := segs_cons (f := f) hl
    generalize segs f l = S at h e ⊢
    subst e
    cases i with
    | zero =>
      simp only [List.getElem_cons_zero, List.length_take, List.length_cons]
      rcases hf l with ⟨h0, h3⟩ | ⟨h3, h4, h5⟩
      · have ho : offN f l = l.length := by unfold offN; rw [if_pos h0]
        refine ⟨by omega, fun hh => ?_⟩
        rw [ho, List.drop_length, segs_nil] at hh
        simp at hh
      · have ho : offN f l = f l := by unfold offN; rw [if_neg (by omega)]; omega
        exact ⟨by omega, fun _ => by omega⟩
    | succ i =>
      simp only [List.getElem_cons_succ, List.length_cons]
      simp only [List.length_cons] at h
      have := ih i (by omega)
      exact ⟨this.1, fun hh => this.2 (by omega)⟩

variable (f) in
/-- The same, by a count: to be reckoned. -/
def segsN : Nat → List α → List (List α)
  | 0, _ => []
  | k + 1, l => if 0 < offN f l then l.take (offN f l) :: segsN k (l.drop (offN f l)) else []

theorem segsN_eq : ∀ k (l : List α), l.length ≤ k → segsN f k l = segs f l
  | 0, l, h => by rw [List.length_eq_zero_iff.1 (Nat.le_zero.1 h), segs_nil]; rfl
  | k + 1, l, h => by
    unfold segsN
    by_cases hl : l = []
    · subst hl
      have h0 : offN f ([] : List α) ≤ 0 := offN_le []
      rw [if_neg (by omega), segs_nil]
    · have hp := offN_pos (f := f) hl
      rw [if_pos hp, segs_cons hl, segsN_eq k _ (by rw [List.length_drop]; omega)]
end

end Go.Proofs.Ytlmccnelhpnneaa
namespace Go.Proofs.Ytlmccnelhpnneaa
open Go.ChangeShapes Go.WideShapes Go.RowKit

/-- The array of these bytes, as a value. -/
def fpA (l : List UInt8) : Array Value := (l.map fun c : UInt8 => Value.int .u8 (c.toNat : Int)).toArray

theorem fpA_size (l : List UInt8) : (fpA l).size = l.length := by simp [fpA]

theorem fpA_get (l : List UInt8) (i : Nat) (h : i < l.length) : (fpA l)[i]? = some (.int .u8 ((l.getD i 0).toNat : Int)) := by
  simp [fpA, List.getD, h]

theorem fpA_one (l : List UInt8) : (fpA l).all (·.oneCell') = true := by
  rw [Array.all_eq_true]
  intro i hi
  simp [fpA, Value.oneCell']

theorem fpA_inj {l m : List UInt8} (h : fpA l = fpA m) : l = m := by
  have := congrArg Array.toList h
  simp only [fpA] at this
  refine List.map_inj_right ?_ |>.1 this
  intro a b hab
  simp only [Value.int.injEq, true_and] at hab
  exact UInt8.toNat_inj.1 (by omega)

/-- The byte in a value that is one. -/
def byteOf : Value → UInt8
  | .int _ k => UInt8.ofNat k.toNat
  | _ => 0

section
variable {H : Type} {enc : TypeId × Value → H} {P : Program} {w : World} {base : Nat} {spare : Nat → Bool} {held : Bool}

theorem trod_fp {T E n fuel : Nat} {cs : List Value} {x : DataW H × List MemPlace} (hT : P.underlying T = some (.array n E)) (hE : P.underlying E = some (.int .u8)) (hc : P.cellsOf E = 1) (hC : P.cellsOf T = n)
    (h : DataW.trod enc P w base spare held fuel T cs = some x) : ∃ l : List UInt8, l.length = n ∧ cs = (fpA l).toList := by
  obtain ⟨xs, m, _, _, hl, hn, hel⟩ := DataW.trod_array hT h
  rw [hC] at hl
  rw [hc] at hel
  refine ⟨cs.map byteOf, by simpa using hl, ?_⟩
  apply List.ext_getElem
  · simp [fpA]
  · intro i h1 h2
    have hi : i < n := by omega
    have h := hel i hi
    rw [List.getElem?_eq_getElem (by omega)] at h
    obtain ⟨k, e1, _, e3⟩ := DataW.trod_int hE h
    have hk := bounds_u8 e3
    have hci : cs[i] = .int .u8 k := by
      rw [Nat.mul_one] at e1
      have := congrArg (fun l => l[0]?) e1
      simpa [List.getElem?_take, List.getElem?_drop, h1] using this
    obtain ⟨j, rfl⟩ := Int.eq_ofNat_of_zero_le hk.1
    simp only [fpA, List.getElem_map, hci, byteOf, Value.int.injEq, true_and]
    have : j % 256 = j := Nat.mod_eq_of_lt (by omega)
    simp [this]

/-- A fingerprint that came in by value. -/
theorem open_fp {T E n : Nat} {r : Reach} {b0 : Nat} {v : Value} {d : DataW H} {p : List MemPlace} (hT : P.underlying T = some (.array n E)) (hE : P.underlying E = some (.int .u8)) (hc : P.cellsOf E = 1) (hC : P.cellsOf T = n)
    (hv : Value.okWide P w r b0 T v) (h : DataW.Trod enc P w base spare held T v d p) : ∃ l : List UInt8, l.length = n ∧ v = .agg (fpA l) := by
  obtain ⟨cs, rfl, _⟩ : ∃ cs, v = .agg cs ∧ cs.size = P.cellsOf T := by
    unfold Value.okWide at hv
    rw [hT] at hv
    obtain ⟨cs, e, s, _⟩ := hv
    exact ⟨cs, e, s⟩
  obtain ⟨fuel, hf⟩ := h
  obtain ⟨l, hl, e⟩ := trod_fp hT hE hc hC hf
  exact ⟨l, hl, congrArg Value.agg (Array.toList_inj.1 (by simpa [Value.cells] using e))⟩

/-- The value v is a slice of these arrays of n bytes in the world w. -/
def FpsAt (n : Nat) (ls : List (List UInt8)) (v : Value) (w : World) : Prop :=
  (∀ l ∈ ls, l.length = n) ∧ ∃ p c, v = .slice p ls.length c ∧
    (ls = [] ∨ ∃ b off, p = some ⟨b, off, none⟩ ∧ ∀ i (h : i < ls.length), ∀ j, j < n → w.cell? ⟨b, off + (i * n + j), none⟩ = some (.int .u8 ((ls[i].getD j 0).toNat : Int)))

theorem FpsAt.later {n : Nat} {ls : List (List UInt8)} {v : Value} {w w' : World} (h : FpsAt n ls v w) (hb : Below w.heap.size w w') : FpsAt n ls v w' := by
  obtain ⟨hn, p, c, rfl, h⟩ := h
  refine ⟨hn, p, c, rfl, ?_⟩
  rcases h with h | ⟨b, off, hp, hc⟩
  · exact Or.inl h
  · exact Or.inr ⟨b, off, hp, fun i hi j hj => (hb.cell (World.block_lt_of_cell? _ _ (hc i hi j hj))).trans (hc i hi j hj)⟩

theorem add_plain (b o n : Nat) : (⟨b, o, none⟩ : Addr).add n = ⟨b, o + n, none⟩ := by
  unfold Addr.add
  split <;> simp_all

/-- Where such an array lies: a part of a row. -/
theorem row_of_cells {w : World} {b o n : Nat} {l : List UInt8} (hl : l.length = n) (h0 : 0 < n) (h : ∀ j, j < n → w.cell? ⟨b, o + j, none⟩ = some (.int .u8 ((l.getD j 0).toNat : Int))) :
    ∃ cs t fr, w.heap[b]? = some (.cells cs t fr) ∧ o + n ≤ cs.size ∧ cs.extract o (o + n) = fpA l := by
  have hz := h 0 h0
  unfold World.cell? at hz
  split at hz
  · rename_i cs t fr hb
    have each : ∀ j, j < n → cs[o + j]? = some (.int .u8 ((l.getD j 0).toNat : Int)) := by
      intro j hj
      have := h j hj
      unfold World.cell? at this
      simpa [hb] using this
    have hsz : o + n ≤ cs.size := by
      have := (Array.getElem?_eq_some_iff.1 (each (n - 1) (by omega))).1
      omega
    refine ⟨cs, t, fr, hb, hsz, ?_⟩
    apply Array.ext_getElem?
    intro j
    by_cases hj : j < n
    · rw [fpA_get l j (by omega), Array.getElem?_extract, if_pos (by omega), each j hj]
    · rw [Array.getElem?_eq_none (by rw [Array.size_extract]; omega), Array.getElem?_eq_none (by rw [fpA_size]; omega)]
  · simp_all

/-- A slice of fingerprints that came in. -/
theorem open_fps {S T E n fuel : Nat} {cs : List Value} {x : DataW H × List MemPlace} (hS : P.underlying S = some (.slice T)) (hT : P.underlying T = some (.array n E)) (hE : P.underlying E = some (.int .u8)) (hc : P.cellsOf E = 1)
    (hC : P.cellsOf T = n) (h0 : 0 < n) (h : DataW.trod enc P w base spare held fuel S cs = some x) :
    ∃ (v : Value) (ls : List (List UInt8)), cs = [v] ∧ FpsAt n ls v w ∧ ls.length ≤ maxLen := by
  rcases DataW.trod_slice hS h with ⟨rfl, _⟩ | ⟨a, len, cap, elems, rest, m, _, rfl, _, hb, hl, hm, hlen, hel, _, _⟩
  · exact ⟨_, [], rfl, ⟨by simp, none, 0, rfl, Or.inl rfl⟩, by simp⟩
  have each : ∀ i, i < len → ∃ l : List UInt8, l.length = n ∧ ∀ j, j < n → w.cell? ((a.add (i * n)).add j) = some (.int .u8 ((l.getD j 0).toNat : Int)) := by
    intro i hi
    have := hel i hi
    rw [hC, List.getElem?_eq_getElem (by omega), Option.bind_eq_some_iff] at this
    obtain ⟨cs', hcs, hy⟩ := this
    obtain ⟨l, hln, rfl⟩ := trod_fp hT hE hc hC hy
    refine ⟨l, hln, fun j hj => ?_⟩
    unfold World.cells? at hcs
    split at hcs
    · have := mapM_some_get hcs j j (by simp [hj])
      rw [this, Array.getElem?_toList, fpA_get l j (by omega)]
    · simp at hcs
  have all : ∃ ls : List (List UInt8), ls.length = len ∧ (∀ l ∈ ls, l.length = n) ∧ ∀ i (h : i < ls.length), ∀ j, j < n → w.cell? ((a.add (i * n)).add j) = some (.int .u8 ((ls[i].getD j 0).toNat : Int)) := by
    refine ⟨(List.range len).map fun i => if h : i < len then (each i h).choose else [], by simp, ?_, ?_⟩
    · intro l hl
      obtain ⟨i, hi, rfl⟩ := List.mem_map.1 hl
      have hi' : i < len := by simpa using hi
      rw [dif_pos hi']
      exact (each i hi').choose_spec.1
    · intro i hi j hj
      have hi' : i < len := by simpa using hi
      simp only [List.getElem_map, List.getElem_range]
      rw [dif_pos hi']
      exact (each i hi').choose_spec.2 j hj
  obtain ⟨ls, hls, hall, hcell⟩ := all
  refine ⟨_, ls, rfl, ⟨hall, some a, cap, by rw [hls], ?_⟩, by omega⟩
  by_cases hz : len = 0
  · exact Or.inl (List.length_eq_zero_iff.1 (by omega))
  · right
    have ha0 := hcell 0 (by omega) 0 h0
    rw [Nat.zero_mul] at ha0
    have hs : a = ⟨a.block, a.off, none⟩ := by
      have := addr_cell ha0
      obtain ⟨b, o, sp⟩ := a
      cases sp with
      | none => rfl
      | some x => simp [Addr.add] at this
    refine ⟨a.block, a.off, by rw [← hs], fun i hi j hj => ?_⟩
    have h := hcell i hi j hj
    rw [hs, add_plain, add_plain, Nat.add_assoc] at h
    exact h

end

end Go.Proofs.Ytlmccnelhpnneaa
namespace Go.Proofs.Ytlmccnelhpnneaa
open Go.RowKit

theorem run_items_eq {P : Program} (d : Nat) (e : TypeId) (l m : List UInt8) (he : P.underlying e = some (.int .u8)) :
    ∀ (js : List Nat) (w : World), (∀ j ∈ js, j < l.length ∧ j < m.length) → (Op.eqItems (d + 1) e 1 (fpA l) (fpA m) js).run P w = .ok (js.all fun j => l.getD j 0 == m.getD j 0) w
  | [], w, _ => by simp [Op.eqItems]
  | j :: js, w, h => by
    obtain ⟨h1, h2⟩ := h j (by simp)
    have ih := run_items_eq d e l m he js w (fun i hi => h i (by simp [hi]))
    have hp : (part e (fpA l) (j * 1)).run P w = .ok (.int .u8 ((l.getD j 0).toNat : Int)) w := by
      simp only [part, isAgg, run_underlying he, Sem.run_bind, Result.andThen_ok, Nat.mul_one]
      simp [fpA_get l j h1]
    have hq : (part e (fpA m) (j * 1)).run P w = .ok (.int .u8 ((m.getD j 0).toNat : Int)) w := by
      simp only [part, isAgg, run_underlying he, Sem.run_bind, Result.andThen_ok, Nat.mul_one]
      simp [fpA_get m j h2]
    simp only [Op.eqItems, Sem.run_bind, hp, hq, Result.andThen_ok]
    rw [run_equalIn_int w d e .u8 .u8 _ _ he]
    by_cases hab : l.getD j 0 = m.getD j 0
    · have : (((l.getD j 0).toNat : Int) == ((m.getD j 0).toNat : Int)) = true := by rw [hab]; simp
      rw [this]
      simp only [List.all_cons, hab, BEq.rfl, Bool.true_and]
      simpa using ih
    · have : (((l.getD j 0).toNat : Int) == ((m.getD j 0).toNat : Int)) = false := by
        rw [beq_eq_false_iff_ne]
        intro hn
        exact hab (UInt8.toNat_inj.1 (by omega))
      rw [this]
      have h3 : (l.getD j 0 == m.getD j 0) = false := beq_eq_false_iff_ne.2 hab
      simp only [List.all_cons, h3, Bool.false_and]
      simp

theorem all_range_eq {n : Nat} {l m : List UInt8} (hl : l.length = n) (hm : m.length = n) : ((List.range n).all fun j => l.getD j 0 == m.getD j 0) = (l == m) := by
  rw [Bool.eq_iff_iff, List.all_eq_true, beq_iff_eq]
  constructor
  · intro h
    apply List.ext_getElem (by omega)
    intro i h1 h2
    have := h i (by simp; omega)
    simpa [List.getD, h1, h2] using this
  · rintro rfl j _
    simp

/-- Two arrays of n bytes are equal where their bytes are. -/
theorem run_eq_fp {P : Program} (t e : TypeId) (n : Nat) (l m : List UInt8) (hl : l.length = n) (hm : m.length = n) (ht : P.underlying t = some (.array n e)) (hi : (P.info? e).isSome = true) (hc : P.cellsOf e = 1)
    (he : P.underlying e = some (.int .u8)) (w : World) : (Op.equalIn 10000 t (.agg (fpA l)) (.agg (fpA m))).run P w = .ok (l == m) w := by
  obtain ⟨i, hi⟩ := Option.isSome_iff_exists.1 hi
  rw [show (10000 : Nat) = 9998 + 1 + 1 from rfl, run_equalIn_array w (9998 + 1) (fpA l) (fpA m) ht hi, hc]
  rw [run_items_eq 9998 e l m he _ w (fun j hj => by have := List.mem_range.1 hj; omega), all_range_eq hl hm]

end Go.Proofs.Ytlmccnelhpnneaa
namespace Go.Proofs.Ytlmccnelhpnneaa

/-- Less, byte by byte. -/
def ltB : List UInt8 → List UInt8 → Bool
  | a :: l, b :: m => if a = b then ltB l m else decide (a.toNat < b.toNat)
  | _, _ => false

theorem ltB_irrefl : ∀ l : List UInt8, ltB l l = false
  | [] => rfl
  | a :: l => by simp [ltB, ltB_irrefl l]

theorem ltB_trans : ∀ l m k : List UInt8, ltB l m = true → ltB m k = true → ltB l k = true
  | [], _, _, h, _ => by simp [ltB] at h
  | _ :: _, [], _, h, _ => by simp [ltB] at h
  | _ :: _, _ :: _, [], _, h => by simp [ltB] at h
  | a :: l, b :: m, c :: k, h1, h2 => by
    simp only [ltB] at h1 h2 ⊢
    by_cases ab : a = b
    · subst ab
      rw [if_pos rfl] at h1
      by_cases ac : a = c
      · subst ac
        rw [if_pos rfl] at h2 ⊢
        exact ltB_trans l m k h1 h2
      · rw [if_neg ac] at h2 ⊢
        exact h2
    · rw [if_neg ab] at h1
      have h1' := of_decide_eq_true h1
      by_cases bc : b = c
      · subst bc
        rw [if_neg ab]
        exact h1
      · rw [if_neg bc] at h2
        have h2' := of_decide_eq_true h2
        have ac : ¬ a = c := fun e => by rw [e] at h1'; omega
        rw [if_neg ac]
        exact decide_eq_true (by omega)

theorem ltB_total : ∀ l m : List UInt8, l.length = m.length → ltB l m = false → l ≠ m → ltB m l = true
  | [], [], _, _, h => absurd rfl h
  | [], _ :: _, h, _, _ => by simp at h
  | _ :: _, [], h, _, _ => by simp at h
  | a :: l, b :: m, hl, h1, h2 => by
    simp only [ltB] at h1 ⊢
    by_cases ab : a = b
    · subst ab
      rw [if_pos rfl] at h1 ⊢
      exact ltB_total l m (by simpa using hl) h1 (fun e => h2 (by rw [e]))
    · rw [if_neg ab] at h1
      rw [if_neg (fun e => ab e.symm)]
      have h1' := of_decide_eq_false h1
      have hne : a.toNat ≠ b.toNat := fun e => ab (UInt8.toNat_inj.1 e)
      exact decide_eq_true (by omega)

theorem ltB_asymm (l m : List UInt8) (h : ltB l m = true) : ltB m l = false := by
  cases h2 : ltB m l with
  | false => rfl
  | true =>
    have := ltB_trans l m l h h2
    rw [ltB_irrefl] at this
    cases this

/-- In increasing order. -/
abbrev Incr (l : List (List UInt8)) : Prop := l.Pairwise fun a b => ltB a b = true

/-- Two lists in increasing order with the same elements are one. -/
theorem incr_unique : ∀ l m : List (List UInt8), Incr l → Incr m → (∀ x, x ∈ l ↔ x ∈ m) → l = m
  | [], [], _, _, _ => rfl
  | [], b :: m, _, _, h => by have := (h b).2 (List.mem_cons_self ..); cases this
  | a :: l, [], _, _, h => by have := (h a).1 (List.mem_cons_self ..); cases this
  | a :: l, b :: m, hl, hm, h => by
    rw [Incr, List.pairwise_cons] at hl hm
    have hab : a = b := by
      rcases List.mem_cons.1 ((h a).1 (List.mem_cons_self ..)) with e | e
      · exact e
      · rcases List.mem_cons.1 ((h b).2 (List.mem_cons_self ..)) with e2 | e2
        · exact e2.symm
        · have h1 := hm.1 a e
          have h2 := hl.1 b e2
          rw [ltB_asymm _ _ h1] at h2
          cases h2
    subst hab
    congr 1
    refine incr_unique l m hl.2 hm.2 (fun x => ⟨fun hx => ?_, fun hx => ?_⟩)
    · rcases List.mem_cons.1 ((h x).1 (List.mem_cons_of_mem _ hx)) with e | e
      · subst e
        have := hl.1 x hx
        rw [ltB_irrefl] at this
        cases this
      · exact e
    · rcases List.mem_cons.1 ((h x).2 (List.mem_cons_of_mem _ hx)) with e | e
      · subst e
        have := hm.1 x hx
        rw [ltB_irrefl] at this
        cases this
      · exact e

/-- Put in its place. -/
def ins (x : List UInt8) : List (List UInt8) → List (List UInt8)
  | [] => [x]
  | a :: l => if ltB a x then a :: ins x l else x :: a :: l

theorem ins_mem (x : List UInt8) : ∀ l y, y ∈ ins x l ↔ y = x ∨ y ∈ l
  | [], y => by simp [ins]
  | a :: l, y => by
    unfold ins
    split
    · rw [List.mem_cons, ins_mem x l y, List.mem_cons]
      constructor
      · rintro (h | h | h)
        · exact Or.inr (Or.inl h)
        · exact Or.inl h
        · exact Or.inr (Or.inr h)
      · rintro (h | h | h)
        · exact Or.inr (Or.inl h)
        · exact Or.inl h
        · exact Or.inr (Or.inr h)
    · rw [List.mem_cons]

theorem ins_incr (n : Nat) (x : List UInt8) (hx : x.length = n) : ∀ l, (∀ y ∈ l, y.length = n) → Incr l → x ∉ l → Incr (ins x l)
  | [], _, _, _ => by simp [ins, Incr]
  | a :: l, hn, h, hne => by
    unfold ins
    rw [Incr, List.pairwise_cons] at h
    split
    · rename_i hax
      rw [Incr, List.pairwise_cons]
      refine ⟨fun y hy => ?_, ins_incr n x hx l (fun y hy => hn y (List.mem_cons_of_mem _ hy)) h.2 (fun e => hne (List.mem_cons_of_mem _ e))⟩
      rcases (ins_mem x l y).1 hy with e | e
      · rw [e]; exact hax
      · exact h.1 y e
    · rename_i hax
      have hax' : ltB a x = false := by simpa using hax
      have hxa : ltB x a = true := ltB_total a x ((hn a (List.mem_cons_self ..)).trans hx.symm) hax' (fun e => hne (by rw [e]; exact List.mem_cons_self ..))
      rw [Incr, List.pairwise_cons]
      refine ⟨fun y hy => ?_, List.pairwise_cons.2 h⟩
      rcases List.mem_cons.1 hy with e | e
      · rw [e]; exact hxa
      · exact ltB_trans _ _ _ hxa (h.1 y e)

/-- One more into a set. -/
def add1 (out : List (List UInt8)) (x : List UInt8) : List (List UInt8) := if x ∈ out then out else ins x out
/-- A list as a set. -/
def setL (l : List (List UInt8)) : List (List UInt8) := l.foldl add1 []

theorem add1_mem (out : List (List UInt8)) (x y : List UInt8) : y ∈ add1 out x ↔ y = x ∨ y ∈ out := by
  unfold add1
  split
  · rename_i h
    constructor
    · exact Or.inr
    · rintro (e | e)
      · rw [e]; exact h
      · exact e
  · exact ins_mem x out y

theorem fold_mem : ∀ (l out : List (List UInt8)) (y : List UInt8), y ∈ l.foldl add1 out ↔ y ∈ out ∨ y ∈ l
  | [], out, y => by simp
  | x :: l, out, y => by
    rw [List.foldl_cons, fold_mem l, add1_mem, List.mem_cons]
    constructor
    · rintro ((h | h) | h)
      · exact Or.inr (Or.inl h)
      · exact Or.inl h
      · exact Or.inr (Or.inr h)
    · rintro (h | h | h)
      · exact Or.inl (Or.inr h)
      · exact Or.inl (Or.inl h)
      · exact Or.inr h

theorem setL_mem (l : List (List UInt8)) (y : List UInt8) : y ∈ setL l ↔ y ∈ l := by
  unfold setL
  rw [fold_mem]
  simp

theorem fold_incr (n : Nat) : ∀ (l out : List (List UInt8)), (∀ y ∈ l, y.length = n) → (∀ y ∈ out, y.length = n) → Incr out → Incr (l.foldl add1 out)
  | [], _, _, _, h => h
  | x :: l, out, hl, ho, h => by
    rw [List.foldl_cons]
    have hx := hl x (List.mem_cons_self ..)
    refine fold_incr n l _ (fun y hy => hl y (List.mem_cons_of_mem _ hy)) (fun y hy => ?_) ?_
    · rcases (add1_mem out x y).1 hy with e | e
      · rw [e]; exact hx
      · exact ho y e
    · unfold add1
      split
      · exact h
      · rename_i hne
        exact ins_incr n x hx out ho h hne

theorem setL_incr (n : Nat) (l : List (List UInt8)) (hl : ∀ y ∈ l, y.length = n) : Incr (setL l) := fold_incr n l [] hl (fun y hy => by cases hy) (by simp [Incr])

/-- What has the elements of a list, in order, is the list as a set. -/
theorem setL_unique (n : Nat) (l m : List (List UInt8)) (hl : ∀ y ∈ l, y.length = n) (hm : Incr m) (h : ∀ y, y ∈ m ↔ y ∈ l) : m = setL l :=
  incr_unique _ _ hm (setL_incr n l hl) (fun x => (h x).trans (setL_mem l x).symm)

/-- Set after set is set. -/
theorem setL_setL (n : Nat) (l : List (List UInt8)) (hl : ∀ y ∈ l, y.length = n) : setL (setL l) = setL l :=
  (setL_unique n (setL l) (setL l) (fun y hy => hl y ((setL_mem l y).1 hy)) (setL_incr n l hl) (fun _ => Iff.rfl)).symm

theorem setL_filter (n : Nat) (l : List (List UInt8)) (p : List UInt8 → Bool) (hl : ∀ y ∈ l, y.length = n) : setL (l.filter p) = (setL l).filter p := by
  refine (setL_unique n _ _ (fun y hy => hl y (List.mem_filter.1 hy).1) ((setL_incr n l hl).filter p) (fun y => ?_)).symm
  rw [List.mem_filter, List.mem_filter, setL_mem]

/-- Those of a that b has not. -/
def minusL (a b : List (List UInt8)) : List (List UInt8) := setL (a.filter fun x => !b.contains x)
/-- How many both have. -/
def commonN (a b : List (List UInt8)) : Nat := (setL a).length - (minusL a b).length

theorem filter_not_length {α : Type} (p : α → Bool) : ∀ l : List α, (l.filter p).length + (l.filter fun x => !p x).length = l.length
  | [] => rfl
  | a :: l => by
    have := filter_not_length p l
    simp only [List.filter_cons]
    cases p a <;> simp <;> omega

theorem common_both (n : Nat) (a b : List (List UInt8)) (ha : ∀ y ∈ a, y.length = n) : commonN a b = ((setL a).filter fun x => b.contains x).length ∧ commonN a b + (minusL a b).length = (setL a).length := by
  have h1 : minusL a b = (setL a).filter fun x => !b.contains x := setL_filter n a _ ha
  have h2 := filter_not_length (fun x => b.contains x) (setL a)
  unfold commonN
  rw [h1]
  omega

theorem common_comm (n : Nat) (a b : List (List UInt8)) (ha : ∀ y ∈ a, y.length = n) (hb : ∀ y ∈ b, y.length = n) : commonN a b = commonN b a := by
  rw [(common_both n a b ha).1, (common_both n b a hb).1]
  congr 1
  refine incr_unique _ _ ((setL_incr n a ha).filter _) ((setL_incr n b hb).filter _) (fun x => ?_)
  rw [List.mem_filter, List.mem_filter, setL_mem, setL_mem, List.contains_iff_mem, List.contains_iff_mem]
  exact And.comm

/-- The bits of a byte, the greatest first. -/
def bits8 (b : UInt8) : List Bool := [128, 64, 32, 16, 8, 4, 2, 1].map fun k => b.toNat / k % 2 == 1
def bitsB (l : List UInt8) : List Bool := l.flatMap bits8
/-- How many first bits are 0. -/
def zerosB (l : List UInt8) : Nat := ((bitsB l).takeWhile (!·)).length

theorem bits8_len (b : UInt8) : (bits8 b).length = 8 := rfl
theorem bitsB_len (l : List UInt8) : (bitsB l).length = 8 * l.length := by
  induction l with
  | nil => rfl
  | cons b l ih => simp only [bitsB, List.flatMap_cons, List.length_append, bits8_len] at ih ⊢; rw [List.length_cons]; omega
theorem zerosB_le (l : List UInt8) : zerosB l ≤ 8 * l.length := by
  rw [← bitsB_len]
  exact (List.takeWhile_sublist _).length_le

/-- Is it a hook for so many bits? -/
def hookB (l : List UInt8) (bits : Int) : Bool := decide (min bits 256 ≤ (zerosB l : Int))

end Go.Proofs.Ytlmccnelhpnneaa
namespace Go.Proofs.Ytlmccnelhpnneaa

/-- A hexadecimal digit, and its worth. -/
def hexD (n : Nat) : UInt8 := if n < 10 then UInt8.ofNat (48 + n) else UInt8.ofNat (87 + n)
def valD (c : UInt8) : Option Nat := if 48 ≤ c.toNat ∧ c.toNat ≤ 57 then some (c.toNat - 48) else if 97 ≤ c.toNat ∧ c.toNat ≤ 102 then some (c.toNat - 87) else none

theorem hexD_nat (n : Nat) (h : n < 16) : (hexD n).toNat = if n < 10 then 48 + n else 87 + n := by
  unfold hexD
  split <;> (rw [UInt8.toNat_ofNat']; omega)

theorem valD_hexD (n : Nat) (h : n < 16) : valD (hexD n) = some n := by
  unfold valD
  rw [hexD_nat n h]
  by_cases h10 : n < 10
  · rw [if_pos h10, if_pos (by omega)]
    simp
  · rw [if_neg h10, if_neg (by omega), if_pos (by omega)]
    simp

theorem valD_lt (c : UInt8) (n : Nat) (h : valD c = some n) : n < 16 := by
  unfold valD at h
  split at h
  · injection h; omega
  · split at h
    · injection h; omega
    · cases h

theorem hexD_valD (c : UInt8) (n : Nat) (h : valD c = some n) : hexD n = c := by
  have hn := valD_lt c n h
  apply UInt8.toNat_inj.1
  rw [hexD_nat n hn]
  unfold valD at h
  split at h
  · injection h; split <;> omega
  · split at h
    · injection h; split <;> omega
    · cases h

/-- The text of some bytes. -/
def hexL (l : List UInt8) : List UInt8 := l.flatMap fun b => [hexD (b.toNat / 16), hexD (b.toNat % 16)]

theorem hexL_len (l : List UInt8) : (hexL l).length = 2 * l.length := by
  induction l with
  | nil => rfl
  | cons b l ih => simp only [hexL, List.flatMap_cons, List.length_append, List.length_cons, List.length_nil] at ih ⊢; omega

/-- The bytes of a text, where it is one of bytes. -/
def unhex : List UInt8 → Option (List UInt8)
  | [] => some []
  | [_] => none
  | a :: b :: l => match valD a, valD b, unhex l with
    | some x, some y, some r => some (UInt8.ofNat (x * 16 + y) :: r)
    | _, _, _ => none

theorem unhex_hexL : ∀ l : List UInt8, unhex (hexL l) = some l
  | [] => rfl
  | b :: l => by
    have hb := b.toNat_lt
    have e : hexL (b :: l) = hexD (b.toNat / 16) :: hexD (b.toNat % 16) :: hexL l := rfl
    rw [e, unhex, valD_hexD _ (by omega), valD_hexD _ (by omega), unhex_hexL l]
    simp only
    congr 2
    apply UInt8.toNat_inj.1
    rw [UInt8.toNat_ofNat']
    omega

theorem hexL_unhex : ∀ (l r : List UInt8), unhex l = some r → hexL r = l
  | [], r, h => by simp only [unhex, Option.some.injEq] at h; rw [← h]; rfl
  | [_], _, h => by simp [unhex] at h
  | a :: b :: l, r, h => by
    unfold unhex at h
    split at h
    · rename_i x y q hx hy hq
      injection h with h
      have h1 := valD_lt a x hx
      have h2 := valD_lt b y hy
      rw [← h]
      have e : hexL (UInt8.ofNat (x * 16 + y) :: q) = hexD ((UInt8.ofNat (x * 16 + y)).toNat / 16) :: hexD ((UInt8.ofNat (x * 16 + y)).toNat % 16) :: hexL q := rfl
      rw [e, UInt8.toNat_ofNat', show (x * 16 + y) % 2 ^ 8 / 16 = x by omega, show (x * 16 + y) % 2 ^ 8 % 16 = y by omega, hexD_valD a x hx, hexD_valD b y hy, hexL_unhex l q hq]
    · cases h

/-- A text of so many digits alone is one of bytes. -/
theorem unhex_some : ∀ (n : Nat) (l : List UInt8), l.length = 2 * n → (∀ c ∈ l, (valD c).isSome = true) → ∃ r, unhex l = some r ∧ r.length = n
  | 0, l, hl, _ => by
    have := List.eq_nil_of_length_eq_zero (show l.length = 0 by omega)
    subst this
    exact ⟨[], rfl, rfl⟩
  | n + 1, l, hl, h => by
    match l, hl with
    | a :: b :: l, hl =>
      obtain ⟨x, hx⟩ := Option.isSome_iff_exists.1 (h a (by simp))
      obtain ⟨y, hy⟩ := Option.isSome_iff_exists.1 (h b (by simp))
      obtain ⟨r, hr, hrl⟩ := unhex_some n l (by simp only [List.length_cons] at hl; omega) (fun c hc => h c (by simp [hc]))
      exact ⟨_, by rw [unhex, hx, hy, hr], by simp [hrl]⟩

theorem unhex_digits : ∀ (l r : List UInt8), unhex l = some r → ∀ c ∈ l, (valD c).isSome = true
  | [], _, _, c, hc => by cases hc
  | [_], _, h, _, _ => by simp [unhex] at h
  | a :: b :: l, r, h, c, hc => by
    unfold unhex at h
    split at h
    · rename_i x y q hx hy hq
      rcases List.mem_cons.1 hc with e | hc
      · rw [e, hx]; rfl
      · rcases List.mem_cons.1 hc with e | hc
        · rw [e, hy]; rfl
        · exact unhex_digits l q hq c hc
    · cases h

theorem unhex_len (l r : List UInt8) (h : unhex l = some r) : l.length = 2 * r.length := by rw [← hexL_unhex l r h, hexL_len]

/-- Where an element goes. -/
theorem ins_split (x : List UInt8) : ∀ l, ins x l = l.take (l.takeWhile fun a => ltB a x).length ++ x :: l.drop (l.takeWhile fun a => ltB a x).length
  | [] => rfl
  | a :: l => by
    unfold ins
    by_cases h : ltB a x = true
    · rw [if_pos h, List.takeWhile_cons_of_pos (p := fun a => ltB a x) h, ins_split x l]
      simp
    · rw [if_neg h, List.takeWhile_cons_of_neg (p := fun a => ltB a x) h]
      simp

end Go.Proofs.Ytlmccnelhpnneaa
