/- Plain facts on bytes, of no program: a number's bytes, the least first, and what follows of them. Runs of sectors as the document says them: the mathematics of stage 10, of no program. Plain lists of runs: one list for each set of sectors; joined, sorted, put together. Mathematics of stage 10, of no program. What was read, laid again, gives the very bytes; what was laid is read again. Plain facts on the sum, of no program: steps, registers, bits. The document's numbers as bytes, texts filled (for any seat: names of their own). Superblocks as the document says them: the mathematics of stage 11, of no program. Records, transactions and their bytes, as the document says them: the mathematics of stage 13, of no program. -/
import Derived.Lib.Strings
import Derived.Below
import Derived.Laws.AppendOwn
import Derived.Laws.IdiomStrings
import Derived.Lib.Builder
import Derived.Lib.UnsafeStr
import Derived.Lib.AppendStr
import Derived.Laws.BitsAllLaws
import Derived.IntWalk
import Derived.Test.YtoigembmbajopaaDoorRows
import Derived.WalkKit
import Derived.WalkSpells
import Derived.WalkLawsBesides
import Derived.Deep.OwnRows
import Derived.RegionTactic
import Derived.BigRegion
import Derived.Deep.DrawnRows
import Derived.Deep.RegionLaw
import Derived.Deep.QuietTactic
import Derived.BigQuiet
import Derived.Lib.Hide
namespace Go.Proofs.YtoigembmbajopaaDoor
open Go.RowKit

/-- The bytes of a number, so many, the least first. -/
def leB : Nat → Nat → List UInt8
  | 0, _ => []
  | k + 1, n => UInt8.ofNat n :: leB k (n / 256)

theorem leB_len : ∀ k n, (leB k n).length = k
  | 0, _ => rfl
  | k + 1, n => by simp [leB, leB_len k]

theorem leB_get : ∀ k n i (h : i < (leB k n).length), (leB k n)[i] = UInt8.ofNat (n / 256 ^ i)
  | 0, _, i, h => by simp [leB] at h
  | k + 1, n, 0, h => by simp [leB]
  | k + 1, n, i + 1, h => by
    simp only [leB, List.getElem_cons_succ]
    rw [leB_get k (n / 256) i]
    rw [Nat.div_div_eq_div_mul, Nat.pow_succ, Nat.mul_comm]

/-- A text of a list of bytes. -/
def str (l : List UInt8) : ByteArray := ⟨l.toArray⟩

theorem str_size (l : List UInt8) : (str l).size = l.length := by simp [str, ByteArray.size]

theorem str_list (l : List UInt8) : (str l).data.toList = l := rfl

theorem str_append (a b : List UInt8) : str a ++ str b = str (a ++ b) := by
  apply ByteArray.ext
  simp [str, ByteArray.data_append]

theorem str_data (s : ByteArray) : str s.data.toList = s := by
  obtain ⟨⟨l⟩⟩ := s
  rfl

theorem byte_div (n i : Nat) : (((n : Int) / 2 ^ (8 * i)) % 256 : Int) = ((UInt8.ofNat (n / 256 ^ i)).toNat : Int) := by
  have e : (2 : Int) ^ (8 * i) = ((256 ^ i : Nat) : Int) := by
    rw [Int.natCast_pow, show ((256 : Nat) : Int) = 2 ^ 8 from rfl, ← Int.pow_mul]
  rw [e, UInt8.toNat_ofNat']
  omega

/-- Behind a call: what was kept up to the call, and what the call kept. -/
theorem Below.then' {B : Nat} {a w w' : World} (h : Below B a w) (hb : Below w.heap.size w w') (hB : B ≤ w.heap.size) : Below B a w' := h.trans (hb.mono hB)

theorem le_drew_alloc (w : World) (o : Obj) : w.heap.size ≤ (w.alloc o).drew.heap.size := by
  show w.heap.size ≤ (w.heap.push o).size
  simp

/-- 'string(b)' of a row of the call's own. -/
theorem conv_bytes {P : Program} (w : World) (src dst e : TypeId) (b n cap : Nat) (l : List UInt8) (hl : l.length = n) (hs : P.underlying src = some (.slice e)) (he : P.underlying e = some (.int .u8)) (hd : P.underlying dst = some .string)
    (hc : ∀ j (hj : j < l.length), w.cell? ⟨b, j, none⟩ = some (.int .u8 (l[j].toNat : Int))) :
    (convert src dst (.slice (some ⟨b, 0, none⟩) n cap)).run P w = .ok (.string (str l)) w := by
  subst hl
  exact run_convert_bytes_back w src dst e ⟨b, 0, none⟩ cap l hs he hd (fun j hj => by
    have e : (⟨b, 0, none⟩ : Addr).add j = ⟨b, j, none⟩ := by unfold Addr.add; split <;> simp_all
    rw [e]; exact hc j hj)

/-- The bytes of a text, of some texts, of a list of texts. -/
def textB (s : ByteArray) : List UInt8 := leB 4 s.size ++ s.data.toList
def textsB (ss : List ByteArray) : List UInt8 := (ss.map textB).flatten
def listB (ss : List ByteArray) : List UInt8 := leB 4 ss.length ++ textsB ss

theorem data_len (s : ByteArray) : s.data.toList.length = s.size := (Lib.size_eq s).symm

theorem textB_len (s : ByteArray) : (textB s).length = 4 + s.size := by simp [textB, leB_len]

theorem textsB_snoc (ss : List ByteArray) (k : Nat) (h : k < ss.length) : textsB (ss.take (k + 1)) = textsB (ss.take k) ++ textB ss[k] := by
  unfold textsB
  rw [List.take_succ_eq_append_getElem h]
  simp only [List.map_append, List.flatten_append, List.map_cons, List.map_nil, List.flatten_cons, List.flatten_nil, List.append_nil]

theorem textsB_take_le (ss : List ByteArray) (k : Nat) : (textsB (ss.take k)).length ≤ (textsB ss).length := by
  conv => rhs; rw [← List.take_append_drop k ss]
  unfold textsB
  simp only [List.map_append, List.flatten_append, List.length_append]
  omega

theorem size_le_texts (ss : List ByteArray) (k : Nat) (h : k < ss.length) : 4 + (ss[k]).size + (textsB (ss.take k)).length ≤ (textsB ss).length := by
  have h1 := textsB_take_le ss (k + 1)
  rw [textsB_snoc ss k h, List.length_append, textB_len] at h1
  omega

theorem texts_ge : ∀ ss : List ByteArray, 4 * ss.length ≤ (textsB ss).length
  | [] => by simp
  | s :: ss => by
    have h := texts_ge ss
    have e : textsB (s :: ss) = textB s ++ textsB ss := by simp [textsB]
    rw [e, List.length_append, textB_len, List.length_cons]
    omega

theorem str_text (s : ByteArray) : str (leB 4 s.size) ++ s = str (textB s) := by
  have h : str (leB 4 s.size) ++ str s.data.toList = str (textB s) := str_append _ _
  rwa [str_data] at h

theorem strCells_str (l : List UInt8) : Lib.strCells (str l) = Lib.byteCells l := rfl

/-- The value v is a slice of the texts ss in the world w. -/
def StrAt (ss : List ByteArray) (v : Value) (w : World) : Prop :=
  ∃ p c, v = .slice p ss.length c ∧ (ss = [] ∨ ∃ b off, p = some ⟨b, off, none⟩ ∧ ∀ i (h : i < ss.length), w.cell? ⟨b, off + i, none⟩ = some (.string ss[i]))

theorem StrAt.later {ss : List ByteArray} {v : Value} {w w' : World} (h : StrAt ss v w) (hb : Below w.heap.size w w') : StrAt ss v w' := by
  obtain ⟨p, c, rfl, h⟩ := h
  refine ⟨p, c, rfl, ?_⟩
  rcases h with h | ⟨b, off, hp, hc⟩
  · exact Or.inl h
  · exact Or.inr ⟨b, off, hp, fun i hi => (hb.cell (World.block_lt_of_cell? _ _ (hc i hi))).trans (hc i hi)⟩

theorem addr_cell {w : World} {a : Addr} {v : Value} (h : w.cell? (a.add 0) = some v) : a = ⟨a.block, a.off, none⟩ := by
  obtain ⟨b, o, sp⟩ := a
  cases sp with
  | none => rfl
  | some x =>
    exfalso
    have e : (⟨b, o, some x⟩ : Addr).add 0 = ⟨b, o, some x⟩ := by simp [Addr.add]
    rw [e] at h
    unfold World.cell? at h
    split at h <;> simp at h

theorem addr_add (b o i : Nat) : (⟨b, o, none⟩ : Addr).add i = ⟨b, o + i, none⟩ := by unfold Addr.add; split <;> simp_all

theorem strAt_open {w : World} {a : Addr} {len cap : Nat} {ss : List ByteArray} (hl : len ≤ ss.length) (hc : ∀ i, i < ss.length → w.cell? (a.add i) = some (.string (ss.getD i ByteArray.empty))) :
    StrAt (ss.take len) (.slice (some a) len cap) w := by
  refine ⟨some a, cap, by rw [List.length_take, Nat.min_eq_left hl], ?_⟩
  by_cases h0 : len = 0
  · left; rw [h0]; simp
  · right
    have ha := addr_cell (hc 0 (by omega))
    refine ⟨a.block, a.off, by rw [← ha], fun i hi => ?_⟩
    rw [List.length_take] at hi
    have h := hc i (by omega)
    rw [ha] at h
    rw [addr_add] at h
    rw [h, List.getElem_take]
    simp [List.getD, List.getElem?_eq_getElem (show i < ss.length by omega)]

/-- The value v is a slice of the numbers zs in the world w. -/
def IntAt (k : IntKind) (zs : List Int) (v : Value) (w : World) : Prop :=
  ∃ p c, v = .slice p zs.length c ∧ (zs = [] ∨ ∃ b off, p = some ⟨b, off, none⟩ ∧ ∀ i (h : i < zs.length), w.cell? ⟨b, off + i, none⟩ = some (.int k zs[i]))

theorem intAt_open {k : IntKind} {w : World} {a : Addr} {len cap : Nat} {ss : List Int} (hl : len ≤ ss.length) (hc : ∀ i, i < ss.length → w.cell? (a.add i) = some (.int k (ss.getD i 0))) :
    IntAt k (ss.take len) (.slice (some a) len cap) w := by
  refine ⟨some a, cap, by rw [List.length_take, Nat.min_eq_left hl], ?_⟩
  by_cases h0 : len = 0
  · left; rw [h0]; simp
  · right
    have ha := addr_cell (hc 0 (by omega))
    refine ⟨a.block, a.off, by rw [← ha], fun i hi => ?_⟩
    rw [List.length_take] at hi
    have h := hc i (by omega)
    rw [ha] at h
    rw [addr_add] at h
    rw [h, List.getElem_take]
    simp [List.getD, List.getElem?_eq_getElem (show i < ss.length by omega)]

/-- What a law's walk comes to: true, and nothing that was there has turned. -/
def LawPost (w : World) (e : Ending) (w' : World) : Prop := e = .returned (.bool true) ∧ Below w.heap.size w w'

/-- A builder is one still behind a call that kept what there was. -/
theorem builder_later {T e : TypeId} {B b : Nat} {bs : List Value} {w w' : World} (h : Lib.IsBuilder T e B b bs w) (hb : Below w.heap.size w w') : Lib.IsBuilder T e B b bs w' := by
  have one : ∀ p, Lib.BuilderAt T e B b p bs w → Lib.BuilderAt T e B b p bs w' := by
    intro p h
    have hlt := h.lt
    obtain ⟨hB, v, hbk, hown, hne⟩ := h
    refine ⟨hB, v, (hb.block b hlt).trans hbk, hown.kept (row := none) ⟨hb.os, hb.tape, hb.output, hb.size, fun k hk _ => hb.block k hk⟩ ?_, hne⟩
    cases hv : v.ownBlock <;> simp
  rcases h with h | h
  · exact Or.inl (one _ h)
  · exact Or.inr (one _ h)

/-! ### What a reader of bytes answers: a state is what is left, and an error's number. -/
abbrev RdSt := List UInt8 × Int

def takeR (s : RdSt) (n : Int) : List UInt8 × RdSt :=
  if s.2 ≠ 0 then ([], s)
  else if n < 0 then ([], ([], 1))
  else if (s.1.length : Int) < n then ([], ([], 10))
  else (s.1.take n.toNat, (s.1.drop n.toNat, 0))

/-- The number of some bytes, the least first. -/
def ofLE : List UInt8 → Nat
  | [] => 0
  | b :: l => b.toNat + 256 * ofLE l

def numR (s : RdSt) (k : Nat) : Nat × RdSt := (ofLE (takeR s k).1, (takeR s k).2)

def lenR (s : RdSt) (most : Nat) : Nat × RdSt := if most < (numR s 4).1 then (0, ([], 2)) else numR s 4

def textR (s : RdSt) : List UInt8 × RdSt := takeR (lenR s 65536).2 (lenR s 65536).1

def textsR : Nat → RdSt → List (List UInt8) → List (List UInt8) × RdSt
  | 0, s, acc => (acc, s)
  | k + 1, s, acc => if (textR s).2.2 = 0 then textsR k (textR s).2 (acc ++ [(textR s).1]) else ([], (textR s).2)

def listR (s : RdSt) : List (List UInt8) × RdSt := textsR (lenR s 65536).1 (lenR s 65536).2 []

theorem ofLE_lt : ∀ l : List UInt8, ofLE l < 256 ^ l.length
  | [] => by simp [ofLE]
  | b :: l => by
    have h := ofLE_lt l
    have hb := b.toNat_lt
    simp only [ofLE, List.length_cons, Nat.pow_succ]
    omega

theorem ofLE_snoc : ∀ (l : List UInt8) (b : UInt8), ofLE (l ++ [b]) = ofLE l + b.toNat * 256 ^ l.length
  | [], b => by simp [ofLE]
  | c :: l, b => by
    have h := ofLE_snoc l b
    simp only [List.cons_append, ofLE, h, List.length_cons, Nat.pow_succ]
    rw [Nat.mul_add, Nat.mul_comm (256 ^ l.length) 256, ← Nat.mul_assoc, ← Nat.mul_assoc, Nat.mul_comm 256 b.toNat]
    omega

theorem ofLE_take (l : List UInt8) (i : Nat) (h : i < l.length) : ofLE (l.take (i + 1)) = ofLE (l.take i) + l[i].toNat * 256 ^ i := by
  rw [List.take_succ_eq_append_getElem h, ofLE_snoc]
  rw [List.length_take, Nat.min_eq_left (by omega)]

theorem or_step (A B i : Nat) (hA : A < 256 ^ i) (hB : B < 256) (hi : i ≤ 7) :
    bits .or .u64 (A : Int) (IntKind.u64.wrap (IntKind.u64.wrap (B : Int) * 2 ^ (8 * i))) = ((A + B * 256 ^ i : Nat) : Int) := by
  have e256 : (256 : Nat) ^ i = 2 ^ (8 * i) := by rw [show (256 : Nat) = 2 ^ 8 from rfl, ← Nat.pow_mul]
  have hp : 256 ^ i ≤ 256 ^ 7 := Nat.pow_le_pow_right (by omega) hi
  have hB2 : B * 256 ^ i ≤ 255 * 256 ^ 7 := Nat.mul_le_mul (by omega) hp
  have w1 : IntKind.u64.wrap (B : Int) = B := IntWalk.u64_in _ (by omega)
  have e2 : (B : Int) * 2 ^ (8 * i) = ((B * 256 ^ i : Nat) : Int) := by rw [e256]; simp
  rw [w1, e2, IntWalk.u64_in _ (by omega), u64_or_nat _ _ (by omega) (by omega)]
  congr 1
  rw [e256] at hA ⊢
  have h := Nat.two_pow_add_eq_or_of_lt hA B
  rw [Nat.or_comm, Nat.mul_comm B, ← h, Nat.add_comm]

theorem str_take (l : List UInt8) (n : Nat) : (str l).extract 0 n = str (l.take n) := by
  have h := Lib.extract_eq (str l) 0 n
  rw [h, str_list]
  simp [str]

theorem str_drop (l : List UInt8) (n : Nat) : (str l).extract n l.length = str (l.drop n) := by
  have h := Lib.extract_eq (str l) n l.length
  rw [h, str_list]
  unfold str
  congr 2
  exact List.take_of_length_le (by simp)

theorem grown_set (w : World) (b i : Nat) (v : Value) : w.grownBy (w.setCell ⟨b, i, none⟩ v) (some b) :=
  ⟨rfl, rfl, rfl, by simp [World.setCell], fun k _ hk => Below.heap_setCell _ _ _ _ (fun e => hk (by simp [e]))⟩

theorem below_touch {B b : Nat} {a w w' : World} (h : Below B a w) (hg : w.grownBy w' (some b)) (hB : B ≤ w.heap.size) (hb : B ≤ b) : Below B a w' :=
  h.grown hg hB (fun k hk => by cases hk; exact hb)

theorem grown_refl (w : World) (r : Option Nat) : w.grownBy w r := ⟨rfl, rfl, rfl, Nat.le_refl _, fun _ _ _ => rfl⟩

theorem grown_trans {a b c : World} {r : Option Nat} (h : a.grownBy b r) (k : b.grownBy c r) : a.grownBy c r :=
  ⟨k.os.trans h.os, k.tape.trans h.tape, k.output.trans h.output, Nat.le_trans h.size k.size, fun i hi hr => (k.block i (Nat.lt_of_lt_of_le hi h.size) hr).trans (h.block i hi hr)⟩

theorem grown_below {w w' : World} (h : Below w.heap.size w w') (r : Option Nat) : w.grownBy w' r :=
  ⟨h.os, h.tape, h.output, h.size, fun k hk _ => h.block k hk⟩

end Go.Proofs.YtoigembmbajopaaDoor
namespace Go.Proofs.YtoigembmbajopaaDoor

/-- Is a sector in a run; in a list? A run is where it begins, and how many sectors it has. -/
def inR (r : Int × Int) (k : Nat) : Bool := decide (r.1 ≤ (k : Int) ∧ (k : Int) < r.1 + r.2)
def hasR (l : List (Int × Int)) (k : Nat) : Bool := l.any fun r => inR r k

theorem hasR_nil (k : Nat) : hasR [] k = false := rfl
theorem hasR_append (a b : List (Int × Int)) (k : Nat) : hasR (a ++ b) k = (hasR a k || hasR b k) := by unfold hasR; rw [List.any_append]
theorem hasR_one (r : Int × Int) (k : Nat) : hasR [r] k = inR r k := by unfold hasR; simp
theorem hasR_take (l : List (Int × Int)) (i : Nat) (h : i < l.length) (k : Nat) : hasR (l.take (i + 1)) k = (hasR (l.take i) k || inR l[i] k) := by
  rw [List.take_succ_eq_append_getElem h, hasR_append, hasR_one]

/-- How many of the first n. -/
def cntF (f : Nat → Bool) : Nat → Nat
  | 0 => 0
  | n + 1 => cntF f n + (if f n = true then 1 else 0)

theorem cntF_congr {f g : Nat → Bool} : ∀ (n : Nat), (∀ k, k < n → f k = g k) → cntF f n = cntF g n
  | 0, _ => rfl
  | n + 1, h => by unfold cntF; rw [cntF_congr n (fun k hk => h k (by omega)), h n (by omega)]
theorem cntF_le (f : Nat → Bool) : ∀ n, cntF f n ≤ n
  | 0 => Nat.le_refl _
  | n + 1 => by unfold cntF; have := cntF_le f n; split <;> omega
theorem cntF_split (f g : Nat → Bool) : ∀ n, cntF (fun k => f k && !g k) n + cntF (fun k => f k && g k) n = cntF f n
  | 0 => rfl
  | n + 1 => by
    unfold cntF
    have := cntF_split f g n
    cases f n <;> cases g n <;> simp <;> omega
theorem cntF_zero {f : Nat → Bool} : ∀ {n : Nat}, cntF f n = 0 → ∀ k, k < n → f k = false
  | 0, _, k, hk => by omega
  | n + 1, h, k, hk => by
    unfold cntF at h
    have h2 : cntF f n = 0 := by omega
    by_cases e : k = n
    · subst e
      cases hf : f k with
      | false => rfl
      | true => rw [hf] at h; simp at h
    · exact cntF_zero h2 k (by omega)
theorem cntF_none {f : Nat → Bool} {n : Nat} (h : ∀ k, k < n → f k = false) : cntF f n = 0 := by
  rw [cntF_congr (g := fun _ => false) n h]
  induction n with
  | zero => rfl
  | succ n ih => unfold cntF; rw [ih (fun k hk => h k (by omega))]; rfl
theorem cntF_mono (f : Nat → Bool) {m n : Nat} (h : m ≤ n) : cntF f m ≤ cntF f n := by
  induction n with
  | zero => have : m = 0 := by omega
            subst this; exact Nat.le_refl _
  | succ n ih =>
    by_cases e : m = n + 1
    · subst e; exact Nat.le_refl _
    · have := ih (by omega)
      show _ ≤ cntF f n + _
      omega

/-- The lowest n. -/
def lowF (f : Nat → Bool) (n : Nat) (k : Nat) : Bool := f k && decide (cntF f k < n)
theorem lowF_cnt (f : Nat → Bool) (n : Nat) : ∀ m, cntF (lowF f n) m = min (cntF f m) n
  | 0 => by simp [cntF]
  | m + 1 => by
    unfold cntF
    rw [lowF_cnt f n m]
    unfold lowF
    cases f m <;> simp
    by_cases h : cntF f m < n
    · rw [if_pos h]; omega
    · rw [if_neg h]; omega
theorem lowF_sub (f : Nat → Bool) (n k : Nat) (h : lowF f n k = true) : f k = true := by
  unfold lowF at h
  simp only [Bool.and_eq_true] at h
  exact h.1
theorem lowF_congr {f g : Nat → Bool} (n N : Nat) (h : ∀ k, k < N → f k = g k) (k : Nat) (hk : k < N) : lowF f n k = lowF g n k := by
  unfold lowF
  rw [h k hk, cntF_congr k (fun j hj => h j (by omega))]

/-- One sector more in the last run. -/
def bump (l : List (Int × Int)) : List (Int × Int) := l.set (l.length - 1) ((l.getD (l.length - 1) (0, 0)).1, (l.getD (l.length - 1) (0, 0)).2 + 1)
theorem bump_snoc (pre : List (Int × Int)) (r : Int × Int) : bump (pre ++ [r]) = pre ++ [(r.1, r.2 + 1)] := by
  unfold bump
  rw [List.length_append]
  show (pre ++ [r]).set pre.length (((pre ++ [r]).getD pre.length (0, 0)).1, _) = _
  have e : (pre ++ [r]).getD pre.length (0, 0) = r := by rw [List.getD_eq_getElem?_getD, List.getElem?_append_right (Nat.le_refl _), Nat.sub_self]; rfl
  show (pre ++ [r]).set pre.length (((pre ++ [r]).getD pre.length (0, 0)).1, ((pre ++ [r]).getD pre.length (0, 0)).2 + 1) = _
  rw [e, List.set_append_right _ _ (Nat.le_refl _), Nat.sub_self]
  rfl
theorem bump_len (l : List (Int × Int)) : (bump l).length = l.length := by unfold bump; rw [List.length_set]

/-- The runs of the first n sectors. -/
def runsF (f : Nat → Bool) : Nat → List (Int × Int)
  | 0 => []
  | n + 1 => if f n = true then (if 0 < n ∧ f (n - 1) = true then bump (runsF f n) else runsF f n ++ [((n : Int), 1)]) else runsF f n

theorem runsF_congr {f g : Nat → Bool} : ∀ (n : Nat), (∀ k, k < n → f k = g k) → runsF f n = runsF g n
  | 0, _ => rfl
  | n + 1, h => by
    unfold runsF
    rw [runsF_congr n (fun k hk => h k (by omega)), h n (by omega)]
    by_cases h0 : 0 < n
    · rw [h (n - 1) (by omega)]
    · have e1 : ¬ (0 < n ∧ f (n - 1) = true) := fun x => h0 x.1
      have e2 : ¬ (0 < n ∧ g (n - 1) = true) := fun x => h0 x.1
      rw [if_neg e1, if_neg e2]
theorem runsF_len (f : Nat → Bool) : ∀ n, (runsF f n).length ≤ n
  | 0 => Nat.le_refl _
  | n + 1 => by
    unfold runsF
    have := runsF_len f n
    split
    · split
      · rw [bump_len]; omega
      · rw [List.length_append]; show _ + 1 ≤ _; omega
    · omega

/-- What holds of such runs. -/
structure RunsOk (f : Nat → Bool) (n : Nat) (l : List (Int × Int)) : Prop where
  nat : ∀ r ∈ l, 0 ≤ r.1 ∧ 1 ≤ r.2 ∧ r.1 + r.2 ≤ (n : Int)
  gap : l.Pairwise fun r s => r.1 + r.2 < s.1
  has : ∀ k, hasR l k = (decide (k < n) && f k)
  last : 0 < n → f (n - 1) = true → ∃ pre r, l = pre ++ [r] ∧ r.1 + r.2 = (n : Int)

theorem hasR_mem {l : List (Int × Int)} {r : Int × Int} (h : r ∈ l) (k : Nat) (hk : inR r k = true) : hasR l k = true := by
  unfold hasR
  exact List.any_eq_true.2 ⟨r, h, hk⟩

theorem RunsOk.mem {f : Nat → Bool} {n : Nat} {l : List (Int × Int)} (h : RunsOk f n l) {r : Int × Int} (hr : r ∈ l) (k : Nat) (h1 : r.1 ≤ (k : Int)) (h2 : (k : Int) < r.1 + r.2) : k < n ∧ f k = true := by
  have h3 := h.has k
  rw [hasR_mem hr k (by unfold inR; exact decide_eq_true ⟨h1, h2⟩)] at h3
  have h4 := h3.symm
  simp only [Bool.and_eq_true, decide_eq_true_eq] at h4
  exact h4

theorem runsF_ok (f : Nat → Bool) : ∀ n, RunsOk f n (runsF f n)
  | 0 => ⟨fun r hr => (by cases hr), List.Pairwise.nil, fun k => (by simp [runsF, hasR]), fun h => (by omega)⟩
  | n + 1 => by
    have ih := runsF_ok f n
    unfold runsF
    by_cases hf : f n = true
    · rw [if_pos hf]
      by_cases h0 : 0 < n ∧ f (n - 1) = true
      · rw [if_pos h0]
        obtain ⟨pre, r, hl, he⟩ := ih.last h0.1 h0.2
        rw [hl, bump_snoc]
        rw [hl] at ih
        have hr := ih.nat r (by simp)
        refine ⟨fun s hs => ?_, ?_, fun k => ?_, fun _ _ => ⟨pre, _, rfl, by show r.1 + (r.2 + 1) = _; omega⟩⟩
        · rcases List.mem_append.1 hs with e | e
          · have := ih.nat s (List.mem_append.2 (Or.inl e)); omega
          · rw [List.mem_singleton.1 e]; show 0 ≤ r.1 ∧ 1 ≤ r.2 + 1 ∧ r.1 + (r.2 + 1) ≤ _; omega
        · have hg := List.pairwise_append.1 ih.gap
          refine List.pairwise_append.2 ⟨hg.1, List.pairwise_singleton _ _, fun a ha b hb => ?_⟩
          rw [List.mem_singleton.1 hb]
          exact hg.2.2 a ha r (by simp)
        · have h1 := ih.has k
          rw [hasR_append, hasR_one] at h1 ⊢
          have e : inR (r.1, r.2 + 1) k = (inR r k || decide (k = n)) := by
            unfold inR
            rw [Bool.eq_iff_iff]
            simp only [decide_eq_true_eq, Bool.or_eq_true]
            omega
          rw [e, ← Bool.or_assoc, h1]
          by_cases hk : k = n
          · subst hk; simp [hf]
          · have e2 : decide (k < n + 1) = decide (k < n) := decide_eq_decide.2 (by omega)
            rw [e2]; simp [hk]
      · rw [if_neg h0]
        have hlast : ∀ r ∈ runsF f n, r.1 + r.2 < (n : Int) := fun r hr => by
          have h1 := ih.nat r hr
          refine Decidable.byContradiction fun hn => h0 ?_
          have h2 : r.1 + r.2 = n := by omega
          have h3 := ih.mem hr (n - 1) (by omega) (by omega)
          exact ⟨by omega, h3.2⟩
        refine ⟨fun s hs => ?_, ?_, fun k => ?_, fun _ _ => ⟨runsF f n, ((n : Int), 1), rfl, by show (n : Int) + 1 = _; omega⟩⟩
        · rcases List.mem_append.1 hs with e | e
          · have := ih.nat s e; omega
          · rw [List.mem_singleton.1 e]; show 0 ≤ (n : Int) ∧ (1 : Int) ≤ 1 ∧ (n : Int) + 1 ≤ _; omega
        · refine List.pairwise_append.2 ⟨ih.gap, List.pairwise_singleton _ _, fun a ha b hb => ?_⟩
          rw [List.mem_singleton.1 hb]
          exact hlast a ha
        · rw [hasR_append, hasR_one, ih.has k]
          have e : inR ((n : Int), 1) k = decide (k = n) := by unfold inR; exact decide_eq_decide.2 (by show (n : Int) ≤ k ∧ (k : Int) < n + 1 ↔ _; omega)
          rw [e]
          by_cases hk : k = n
          · subst hk; simp [hf]
          · have e2 : decide (k < n + 1) = decide (k < n) := decide_eq_decide.2 (by omega)
            rw [e2]; simp [hk]
    · rw [if_neg hf]
      have hff : f n = false := by simpa using hf
      refine ⟨fun s hs => ?_, ih.gap, fun k => ?_, fun _ h => ?_⟩
      · have := ih.nat s hs; omega
      · rw [ih.has k]
        by_cases hk : k = n
        · subst hk; simp [hff]
        · have e2 : decide (k < n + 1) = decide (k < n) := decide_eq_decide.2 (by omega)
          rw [e2]
      · rw [show n + 1 - 1 = n by omega] at h
        exact absurd h hf

/-- The number of sectors that there may be. -/
abbrev mxS : Nat := 8192
def runsA (f : Nat → Bool) : List (Int × Int) := runsF f mxS
def cntA (f : Nat → Bool) : Nat := cntF f mxS
theorem runsA_has (f : Nat → Bool) (k : Nat) (hk : k < mxS) : hasR (runsA f) k = f k := by
  rw [runsA, (runsF_ok f mxS).has k]; simp [hk]
theorem runsA_congr {f g : Nat → Bool} (h : ∀ k, k < mxS → f k = g k) : runsA f = runsA g := runsF_congr mxS h
theorem cntA_congr {f g : Nat → Bool} (h : ∀ k, k < mxS → f k = g k) : cntA f = cntA g := cntF_congr mxS h
theorem runsA_again (f : Nat → Bool) : runsA (hasR (runsA f)) = runsA f := runsA_congr (fun k hk => runsA_has f k hk)
theorem cntA_again (f : Nat → Bool) : cntA (hasR (runsA f)) = cntA f := cntA_congr (fun k hk => runsA_has f k hk)
theorem runsA_none {f : Nat → Bool} (h : ∀ k, k < mxS → f k = false) : runsA f = [] := by
  rw [runsA_congr (g := fun _ => false) h]
  unfold runsA
  generalize mxS = n
  induction n with
  | zero => rfl
  | succ n ih => unfold runsF; rw [ih]; rfl
theorem runsA_len (f : Nat → Bool) : (runsA f).length ≤ 8192 := runsF_len f mxS
theorem cntA_le (f : Nat → Bool) : cntA f ≤ 8192 := cntF_le f mxS

/-- Lists that are valid. -/
def overR (a b : Int × Int) : Prop := a.1 ≤ b.1 ∧ b.1 < a.1 + a.2
instance (a b : Int × Int) : Decidable (overR a b) := by unfold overR; infer_instance
def fitR (fr to : Int) (r : Int × Int) : Prop := fr ≤ r.1 ∧ 1 ≤ r.2 ∧ r.1 + r.2 ≤ to
instance (fr to : Int) (r : Int × Int) : Decidable (fitR fr to r) := by unfold fitR; infer_instance
/-- The first i of them are. -/
def validK (fr to : Int) (l : List (Int × Int)) (i : Nat) : Prop := ∀ j, j < i → fitR fr to (l.getD j (0, 0)) ∧ ∀ k, k < j → ¬ overR (l.getD j (0, 0)) (l.getD k (0, 0)) ∧ ¬ overR (l.getD k (0, 0)) (l.getD j (0, 0))
def validL (fr to : Int) (l : List (Int × Int)) : Prop := validK fr to l l.length
instance (fr to : Int) (l : List (Int × Int)) (i : Nat) : Decidable (validK fr to l i) := by unfold validK; infer_instance
instance (fr to : Int) (l : List (Int × Int)) : Decidable (validL fr to l) := by unfold validL; infer_instance

theorem validK_mono {fr to : Int} {l : List (Int × Int)} {i j : Nat} (h : validK fr to l j) (hi : i ≤ j) : validK fr to l i := fun k hk => h k (by omega)
theorem validK_succ {fr to : Int} {l : List (Int × Int)} {i : Nat} (h : validK fr to l i) (h1 : fitR fr to (l.getD i (0, 0))) (h2 : ∀ k, k < i → ¬ overR (l.getD i (0, 0)) (l.getD k (0, 0)) ∧ ¬ overR (l.getD k (0, 0)) (l.getD i (0, 0))) : validK fr to l (i + 1) := fun j hj => by
  by_cases e : j = i
  · subst e; exact ⟨h1, h2⟩
  · exact h j (by omega)

theorem RunsOk.valid {f : Nat → Bool} {n : Nat} {l : List (Int × Int)} (h : RunsOk f n l) (fr to : Int) (hin : ∀ k, k < n → f k = true → fr ≤ (k : Int) ∧ (k : Int) < to) : validL fr to l := by
  intro j hj
  have hm : l[j] ∈ l := List.getElem_mem hj
  have hjd : l.getD j (0, 0) = l[j] := by rw [List.getD_eq_getElem?_getD, List.getElem?_eq_getElem hj]; rfl
  rw [hjd]
  have hn := h.nat _ hm
  refine ⟨?_, fun k hk => ?_⟩
  · have h1 := h.mem hm l[j].1.toNat (by omega) (by omega)
    have h2 := h.mem hm (l[j].1 + l[j].2 - 1).toNat (by omega) (by omega)
    have h3 := hin _ h1.1 h1.2
    have h4 := hin _ h2.1 h2.2
    unfold fitR
    omega
  · have hkl : k < l.length := by omega
    have hkd : l.getD k (0, 0) = l[k] := by rw [List.getD_eq_getElem?_getD, List.getElem?_eq_getElem hkl]; rfl
    rw [hkd]
    have hg := List.pairwise_iff_getElem.1 h.gap k j hkl hj hk
    have hnk := h.nat _ (List.getElem_mem hkl)
    unfold overR
    omega

theorem runsA_valid (f : Nat → Bool) (fr to : Int) (hin : ∀ k, k < mxS → f k = true → fr ≤ (k : Int) ∧ (k : Int) < to) : validL fr to (runsA f) := (runsF_ok f mxS).valid fr to hin

/-- Ints of the machine. -/
def wfR (l : List (Int × Int)) : Prop := ∀ r ∈ l, (-9223372036854775808 ≤ r.1 ∧ r.1 ≤ 9223372036854775807) ∧ (-9223372036854775808 ≤ r.2 ∧ r.2 ≤ 9223372036854775807)
theorem runsA_wf (f : Nat → Bool) : wfR (runsA f) := fun r hr => by
  have h := (runsF_ok f mxS).nat r hr
  have e : ((mxS : Nat) : Int) = 8192 := rfl
  rw [e] at h
  omega
theorem wfR_append {a b : List (Int × Int)} (ha : wfR a) (hb : wfR b) : wfR (a ++ b) := fun r hr => (List.mem_append.1 hr).elim (ha r) (hb r)
theorem wfR_take {a : List (Int × Int)} (ha : wfR a) (n : Nat) : wfR (a.take n) := fun r hr => ha r (List.mem_of_mem_take hr)
theorem wfR_nil : wfR [] := fun r hr => (by cases hr)

end Go.Proofs.YtoigembmbajopaaDoor
namespace Go.Proofs.YtoigembmbajopaaDoor

/-- A plain list. -/
structure PlainL (l : List (Int × Int)) : Prop where
  nat : ∀ r ∈ l, 0 ≤ r.1 ∧ 1 ≤ r.2 ∧ r.1 + r.2 ≤ 8192
  gap : l.Pairwise fun r s => r.1 + r.2 < s.1

theorem runsA_plain (f : Nat → Bool) : PlainL (runsA f) := ⟨fun r hr => (runsF_ok f mxS).nat r hr, (runsF_ok f mxS).gap⟩
theorem PlainL.tail {r : Int × Int} {l : List (Int × Int)} (h : PlainL (r :: l)) : PlainL l := ⟨fun s hs => h.nat s (List.mem_cons_of_mem _ hs), (List.pairwise_cons.1 h.gap).2⟩
theorem hasR_cons (r : Int × Int) (l : List (Int × Int)) (k : Nat) : hasR (r :: l) k = (inR r k || hasR l k) := rfl
theorem hasR_out {l : List (Int × Int)} {k : Nat} (h : ∀ r ∈ l, ¬ (r.1 ≤ (k : Int) ∧ (k : Int) < r.1 + r.2)) : hasR l k = false := by
  cases e : hasR l k with
  | false => rfl
  | true =>
    unfold hasR at e
    obtain ⟨r, hr, hk⟩ := List.any_eq_true.1 e
    exact absurd (of_decide_eq_true hk) (h r hr)
theorem inR_iff (r : Int × Int) (k : Nat) : inR r k = true ↔ (r.1 ≤ (k : Int) ∧ (k : Int) < r.1 + r.2) := by unfold inR; exact decide_eq_true_iff
theorem hasR_iff (l : List (Int × Int)) (k : Nat) : hasR l k = true ↔ ∃ r ∈ l, r.1 ≤ (k : Int) ∧ (k : Int) < r.1 + r.2 := by
  unfold hasR
  rw [List.any_eq_true]
  exact ⟨fun ⟨r, hr, h⟩ => ⟨r, hr, (inR_iff _ _).1 h⟩, fun ⟨r, hr, h⟩ => ⟨r, hr, (inR_iff _ _).2 h⟩⟩
theorem hasR_perm {l m : List (Int × Int)} (h : l.Perm m) (k : Nat) : hasR l k = hasR m k := by
  cases e : hasR m k with
  | true => obtain ⟨r, hr, hk⟩ := (hasR_iff _ _).1 e; exact (hasR_iff _ _).2 ⟨r, h.mem_iff.2 hr, hk⟩
  | false =>
    refine hasR_out fun r hr hk => ?_
    rw [(hasR_iff m k).2 ⟨r, h.mem_iff.1 hr, hk⟩] at e
    cases e

/-- Below its first run a plain list has nothing. -/
theorem PlainL.head_le {r : Int × Int} {l : List (Int × Int)} (h : PlainL (r :: l)) {k : Nat} (hk : hasR (r :: l) k = true) : r.1 ≤ (k : Int) := by
  obtain ⟨s, hs, h1, h2⟩ := (hasR_iff _ _).1 hk
  rcases List.mem_cons.1 hs with rfl | hs
  · exact h1
  · have := (List.pairwise_cons.1 h.gap).1 s hs
    have := h.nat r (List.mem_cons_self ..)
    omega
/-- Behind its first run there is a gap. -/
theorem PlainL.head_gap {r : Int × Int} {l : List (Int × Int)} (h : PlainL (r :: l)) {k : Nat} (hk : hasR l k = true) : r.1 + r.2 < (k : Int) := by
  obtain ⟨s, hs, h1, h2⟩ := (hasR_iff _ _).1 hk
  have := (List.pairwise_cons.1 h.gap).1 s hs
  omega

theorem plain_uniq : ∀ (l m : List (Int × Int)), PlainL l → PlainL m → (∀ k : Nat, k < 8192 → hasR l k = hasR m k) → l = m
  | [], [], _, _, _ => rfl
  | [], s :: m, _, hm, h => by
    have hs := hm.nat s (List.mem_cons_self ..)
    have e := h s.1.toNat (by omega)
    rw [hasR_nil, (hasR_iff _ _).2 ⟨s, List.mem_cons_self .., by omega, by omega⟩] at e
    cases e
  | r :: l, [], hl, _, h => by
    have hs := hl.nat r (List.mem_cons_self ..)
    have e := h r.1.toNat (by omega)
    rw [hasR_nil, (hasR_iff _ _).2 ⟨r, List.mem_cons_self .., by omega, by omega⟩] at e
    cases e
  | r :: l, s :: m, hl, hm, h => by
    have nr := hl.nat r (List.mem_cons_self ..)
    have ns := hm.nat s (List.mem_cons_self ..)
    have e1 : s.1 ≤ r.1 := by
      have := hm.head_le (k := r.1.toNat) (by rw [← h _ (by omega)]; exact (hasR_iff _ _).2 ⟨r, List.mem_cons_self .., by omega, by omega⟩)
      omega
    have e2 : r.1 ≤ s.1 := by
      have := hl.head_le (k := s.1.toNat) (by rw [h _ (by omega)]; exact (hasR_iff _ _).2 ⟨s, List.mem_cons_self .., by omega, by omega⟩)
      omega
    have e3 : ¬ r.1 + r.2 < s.1 + s.2 := by
      intro hlt
      have hk : hasR (s :: m) (r.1 + r.2).toNat = true := (hasR_iff _ _).2 ⟨s, List.mem_cons_self .., by omega, by omega⟩
      rw [← h _ (by omega), hasR_cons, Bool.or_eq_true] at hk
      rcases hk with hk | hk
      · have := (inR_iff _ _).1 hk; omega
      · have := hl.head_gap hk; omega
    have e4 : ¬ s.1 + s.2 < r.1 + r.2 := by
      intro hlt
      have hk : hasR (r :: l) (s.1 + s.2).toNat = true := (hasR_iff _ _).2 ⟨r, List.mem_cons_self .., by omega, by omega⟩
      rw [h _ (by omega), hasR_cons, Bool.or_eq_true] at hk
      rcases hk with hk | hk
      · have := (inR_iff _ _).1 hk; omega
      · have := hm.head_gap hk; omega
    have er : r = s := Prod.ext (by omega) (by omega)
    subst er
    congr 1
    refine plain_uniq l m hl.tail hm.tail fun k hk => ?_
    have e := h k hk
    rw [hasR_cons, hasR_cons] at e
    cases hi : inR r k with
    | false => rw [hi] at e; simpa using e
    | true =>
      have hi' := (inR_iff _ _).1 hi
      have a1 : hasR l k = false := by
        cases hx : hasR l k with
        | false => rfl
        | true => have := hl.head_gap hx; omega
      have a2 : hasR m k = false := by
        cases hx : hasR m k with
        | false => rfl
        | true => have := hm.head_gap hx; omega
      rw [a1, a2]

/-- A plain list of a set's sectors is that set's. -/
theorem plain_runsA {l : List (Int × Int)} {f : Nat → Bool} (h : PlainL l) (hf : ∀ k : Nat, k < 8192 → hasR l k = f k) : l = runsA f :=
  plain_uniq l _ h (runsA_plain f) fun k hk => by rw [hf k hk, runsA_has f k hk]
theorem runsA_self {l : List (Int × Int)} (h : PlainL l) : runsA (hasR l) = l := (plain_runsA h fun _ _ => rfl).symm

/-- How many sectors a plain list has. -/
def sumR (l : List (Int × Int)) : Int := (l.map fun r => r.2).sum
theorem sumR_cons (r : Int × Int) (l : List (Int × Int)) : sumR (r :: l) = r.2 + sumR l := by unfold sumR; rw [List.map_cons, List.sum_cons]
theorem sumR_append (l m : List (Int × Int)) : sumR (l ++ m) = sumR l + sumR m := by unfold sumR; rw [List.map_append, List.sum_append]
theorem cntF_run (a b : Nat) : ∀ n, cntF (fun k => decide (a ≤ k ∧ k < b)) n = min n b - min n a
  | 0 => by simp [cntF]
  | n + 1 => by
    unfold cntF
    rw [cntF_run a b n]
    by_cases h : a ≤ n ∧ n < b
    · rw [if_pos (decide_eq_true h)]; omega
    · rw [if_neg (by simpa using h)]; omega
theorem cntF_or (f g : Nat → Bool) : ∀ n, (∀ k, k < n → ¬ (f k = true ∧ g k = true)) → cntF (fun k => f k || g k) n = cntF f n + cntF g n
  | 0, _ => rfl
  | n + 1, h => by
    unfold cntF
    rw [cntF_or f g n (fun k hk => h k (by omega))]
    have := h n (by omega)
    cases hf : f n <;> cases hg : g n <;> simp_all <;> omega
theorem PlainL.count : ∀ {l : List (Int × Int)}, PlainL l → (cntA (hasR l) : Int) = sumR l
  | [], _ => by
    have : cntA (hasR []) = 0 := cntF_none fun _ _ => rfl
    rw [this]; rfl
  | r :: l, h => by
    have nr := h.nat r (List.mem_cons_self ..)
    have e : cntA (hasR (r :: l)) = cntA (fun k => inR r k || hasR l k) := rfl
    have e2 : cntA (fun k => inR r k || hasR l k) = cntA (inR r) + cntA (hasR l) := cntF_or _ _ _ fun k _ hk => by
      have h1 := (inR_iff _ _).1 hk.1
      have h2 := h.head_gap hk.2
      omega
    have e3 : cntA (inR r) = r.2.toNat := by
      have : cntA (inR r) = cntA (fun k => decide (r.1.toNat ≤ k ∧ k < (r.1 + r.2).toNat)) := cntA_congr fun k _ => by
        unfold inR; exact decide_eq_decide.2 (by omega)
      rw [this]
      unfold cntA
      rw [cntF_run]
      show min 8192 _ - min 8192 _ = _
      omega
    rw [e, e2, e3, sumR_cons, ← h.tail.count]
    omega

/-- One more run behind, that touches the last one or lies apart. -/
theorem PlainL.snoc {l : List (Int × Int)} (h : PlainL l) {r : Int × Int} (hr : 0 ≤ r.1 ∧ 1 ≤ r.2 ∧ r.1 + r.2 ≤ 8192) (hg : ∀ s ∈ l, s.1 + s.2 < r.1) : PlainL (l ++ [r]) :=
  ⟨fun s hs => (List.mem_append.1 hs).elim (h.nat s) (fun e => by rw [List.mem_singleton.1 e]; exact hr), List.pairwise_append.2 ⟨h.gap, List.pairwise_singleton _ _, fun a ha b hb => by rw [List.mem_singleton.1 hb]; exact hg a ha⟩⟩
theorem PlainL.init {l : List (Int × Int)} {r : Int × Int} (h : PlainL (l ++ [r])) : PlainL l ∧ (0 ≤ r.1 ∧ 1 ≤ r.2 ∧ r.1 + r.2 ≤ 8192) ∧ ∀ s ∈ l, s.1 + s.2 < r.1 :=
  ⟨⟨fun s hs => h.nat s (List.mem_append_left _ hs), (List.pairwise_append.1 h.gap).1⟩, h.nat r (List.mem_append_right _ (List.mem_singleton_self _)), fun s hs => (List.pairwise_append.1 h.gap).2.2 s hs r (List.mem_singleton_self _)⟩
/-- The last run grows. -/
theorem PlainL.grow {l : List (Int × Int)} {a n m : Int} (h : PlainL (l ++ [(a, n)])) (hm : n ≤ m) (hm2 : a + m ≤ 8192) : PlainL (l ++ [(a, m)]) := by
  obtain ⟨h1, h2, h3⟩ := h.init
  exact h1.snoc ⟨h2.1, Int.le_trans h2.2.1 hm, hm2⟩ h3
theorem hasR_grow (l : List (Int × Int)) (a n b m : Int) (k : Nat) (h1 : a ≤ b) (h2 : b ≤ a + n) : hasR (l ++ [(a, max (a + n) (b + m) - a)]) k = (hasR (l ++ [(a, n)]) k || inR (b, m) k) := by
  rw [hasR_append, hasR_append, hasR_one, hasR_one, Bool.or_assoc]
  congr 1
  rw [Bool.eq_iff_iff, Bool.or_eq_true, inR_iff, inR_iff, inR_iff]
  simp only
  omega

end Go.Proofs.YtoigembmbajopaaDoor
namespace Go.Proofs.YtoigembmbajopaaDoor
open Go.RowKit

theorem leB_ofLE : ∀ l : List UInt8, leB l.length (ofLE l) = l
  | [] => rfl
  | b :: l => by
    have h := leB_ofLE l
    have hb := b.toNat_lt
    have e1 : (b.toNat + 256 * ofLE l) / 256 = ofLE l := by omega
    have e2 : UInt8.ofNat (b.toNat + 256 * ofLE l) = b := by
      apply UInt8.toNat_inj.1
      rw [UInt8.toNat_ofNat']
      omega
    simp only [List.length_cons, ofLE, leB, e1, e2, h]

theorem ofLE_leB : ∀ k n, n < 256 ^ k → ofLE (leB k n) = n
  | 0, n, h => by simp at h; simp [ofLE, leB, h]
  | k + 1, n, h => by
    have ih := ofLE_leB k (n / 256) (by rw [Nat.pow_succ] at h; omega)
    simp only [leB, ofLE, ih, UInt8.toNat_ofNat']
    omega

/-- A reading without an error. -/
theorem takeR_ok {s : RdSt} {n : Int} {x l : List UInt8} (h : takeR s n = (x, (l, 0))) : s.2 = 0 ∧ 0 ≤ n ∧ s.1 = x ++ l ∧ x.length = n.toNat := by
  unfold takeR at h
  split at h
  · rename_i h0
    simp only [Prod.mk.injEq] at h
    exact absurd (by rw [h.2]) h0
  · rename_i h0
    split at h
    · simp at h
    · split at h
      · simp at h
      · simp only [Prod.mk.injEq, and_true] at h
        obtain ⟨rfl, rfl⟩ := h
        refine ⟨by simpa using h0, by omega, (List.take_append_drop _ _).symm, ?_⟩
        rw [List.length_take]
        omega

theorem numR_ok {s : RdSt} {k n : Nat} {l : List UInt8} (h : numR s k = (n, (l, 0))) : s.2 = 0 ∧ s.1 = leB k n ++ l := by
  unfold numR at h
  simp only [Prod.mk.injEq] at h
  obtain ⟨h1, h2⟩ := h
  obtain ⟨a, b, c, d⟩ := takeR_ok (s := s) (n := k) (x := (takeR s k).1) (l := l) (by rw [← h2])
  refine ⟨a, ?_⟩
  rw [c, ← h1]
  congr 1
  have := leB_ofLE (takeR s k).1
  rw [d] at this
  simpa using this.symm

theorem lenR_ok {s : RdSt} {m n : Nat} {l : List UInt8} (h : lenR s m = (n, (l, 0))) : s.2 = 0 ∧ s.1 = leB 4 n ++ l ∧ n ≤ m := by
  unfold lenR at h
  split at h
  · simp at h
  · rename_i hm
    obtain ⟨a, b⟩ := numR_ok h
    rw [h] at hm
    exact ⟨a, b, by simpa using hm⟩

theorem textR_ok {s : RdSt} {x l : List UInt8} (h : textR s = (x, (l, 0))) : s.2 = 0 ∧ s.1 = textB (str x) ++ l := by
  unfold textR at h
  obtain ⟨a, b, c, d⟩ := takeR_ok h
  have hl : lenR s 65536 = ((lenR s 65536).1, ((lenR s 65536).2.1, 0)) := by rw [← a]
  obtain ⟨a', b', _⟩ := lenR_ok hl
  refine ⟨a', ?_⟩
  rw [b', c]
  simp only [textB, str_size, str_list, d, Int.toNat_natCast, List.append_assoc]

theorem textsR_ok : ∀ (k : Nat) (s : RdSt) (acc out : List (List UInt8)) (l : List UInt8), textsR k s acc = (out, (l, 0)) →
    s.2 = 0 ∧ ∃ ts : List (List UInt8), out = acc ++ ts ∧ ts.length = k ∧ s.1 = textsB (ts.map str) ++ l
  | 0, s, acc, out, l, h => by
    simp only [textsR, Prod.mk.injEq] at h
    obtain ⟨rfl, rfl⟩ := h
    exact ⟨rfl, [], by simp, rfl, by simp [textsB]⟩
  | k + 1, s, acc, out, l, h => by
    unfold textsR at h
    split at h
    · rename_i h0
      obtain ⟨_, ts, h1, h2, h3⟩ := textsR_ok k _ _ _ _ h
      have ht : textR s = ((textR s).1, ((textR s).2.1, 0)) := by rw [← h0]
      obtain ⟨a, b⟩ := textR_ok ht
      refine ⟨a, (textR s).1 :: ts, by rw [h1]; simp, by simp [h2], ?_⟩
      rw [b, h3]
      simp [textsB]
    · rename_i h0
      simp only [Prod.mk.injEq] at h
      exact absurd (by rw [h.2]) h0

theorem listR_ok {s : RdSt} {ts : List (List UInt8)} {l : List UInt8} (h : listR s = (ts, (l, 0))) : s.2 = 0 ∧ s.1 = listB (ts.map str) ++ l := by
  unfold listR at h
  obtain ⟨a, ts', h1, h2, h3⟩ := textsR_ok _ _ _ _ _ h
  have hl : lenR s 65536 = ((lenR s 65536).1, ((lenR s 65536).2.1, 0)) := by rw [← a]
  obtain ⟨a', b', _⟩ := lenR_ok hl
  refine ⟨a', ?_⟩
  rw [b', h3]
  simp only [List.nil_append] at h1
  subst h1
  simp [listB, h2]

/-! ### What was laid is read again. -/
theorem takeR_app (x l : List UInt8) (n : Nat) (h : x.length = n) : takeR (x ++ l, 0) n = (x, (l, 0)) := by
  subst h
  unfold takeR
  rw [if_neg (by simp), if_neg (by omega), if_neg (by simp; omega)]
  simp

theorem leB_mod : ∀ k n, leB k (n % 256 ^ k) = leB k n
  | 0, _ => rfl
  | k + 1, n => by
    have ih := leB_mod k (n / 256)
    have e1 : n % 256 ^ (k + 1) / 256 = n / 256 % 256 ^ k := by
      rw [Nat.pow_succ, Nat.mul_comm, Nat.mod_mul_right_div_self]
    have e2 : UInt8.ofNat (n % 256 ^ (k + 1)) = UInt8.ofNat n := by
      apply UInt8.toNat_inj.1
      rw [UInt8.toNat_ofNat', UInt8.toNat_ofNat', Nat.pow_succ, Nat.mul_comm]
      exact Nat.mod_mul_right_mod _ _ _
    simp only [leB, e1, e2, ih]

theorem numR_app (n k : Nat) (l : List UInt8) : numR (leB k n ++ l, 0) k = (n % 256 ^ k, (l, 0)) := by
  unfold numR
  rw [takeR_app _ _ _ (leB_len k n)]
  simp only
  rw [← leB_mod, ofLE_leB]
  exact Nat.mod_lt _ (Nat.pow_pos (by omega))

theorem lenR_app (n m : Nat) (l : List UInt8) (h : n ≤ m) (hm : n < 256 ^ 4) : lenR (leB 4 n ++ l, 0) m = (n, (l, 0)) := by
  unfold lenR
  rw [numR_app, Nat.mod_eq_of_lt hm, if_neg (by simpa using h)]

theorem textR_app (s : ByteArray) (l : List UInt8) (h : s.size ≤ 65536) : textR (textB s ++ l, 0) = (s.data.toList, (l, 0)) := by
  unfold textR textB
  rw [List.append_assoc, lenR_app _ _ _ h (by omega)]
  exact takeR_app _ _ _ (data_len s)

theorem textsR_app : ∀ (ss : List ByteArray) (acc : List (List UInt8)) (l : List UInt8), (∀ s ∈ ss, s.size ≤ 65536) →
    textsR ss.length (textsB ss ++ l, 0) acc = (acc ++ ss.map (·.data.toList), (l, 0))
  | [], acc, l, _ => by simp [textsR, textsB]
  | s :: ss, acc, l, h => by
    have e : textsB (s :: ss) ++ l = textB s ++ (textsB ss ++ l) := by simp [textsB]
    have ih := textsR_app ss (acc ++ [s.data.toList]) l (fun t ht => h t (List.mem_cons_of_mem _ ht))
    rw [List.length_cons, e]
    unfold textsR
    rw [textR_app s _ (h s List.mem_cons_self)]
    simp only
    rw [if_pos trivial, ih]
    simp

theorem listR_app (ss : List ByteArray) (l : List UInt8) (hn : ss.length ≤ 65536) (h : ∀ s ∈ ss, s.size ≤ 65536) : listR (listB ss ++ l, 0) = (ss.map (·.data.toList), (l, 0)) := by
  unfold listR listB
  rw [List.append_assoc, lenR_app _ _ _ hn (by omega)]
  simpa using textsR_app ss [] l h

theorem str_map (ss : List ByteArray) : (ss.map (·.data.toList)).map str = ss := by
  rw [List.map_map]
  conv => rhs; rw [← List.map_id ss]
  apply List.map_congr_left
  intro s _
  exact str_data s

theorem listB_light (ss : List ByteArray) (hn : ss.length ≤ 40) (h : ∀ s ∈ ss, s.size ≤ 500) : (listB ss).length ≤ 20164 := by
  have texts : ∀ ss : List ByteArray, (∀ s ∈ ss, s.size ≤ 500) → (textsB ss).length ≤ 504 * ss.length := by
    intro ss
    induction ss with
    | nil => simp [textsB]
    | cons s ss ih =>
      intro h
      have e : textsB (s :: ss) = textB s ++ textsB ss := by simp [textsB]
      have h1 := ih (fun t ht => h t (List.mem_cons_of_mem _ ht))
      have h2 := h s List.mem_cons_self
      rw [e, List.length_append, textB_len, List.length_cons]
      omega
  have := texts ss h
  simp only [listB, List.length_append, leB_len]
  omega

end Go.Proofs.YtoigembmbajopaaDoor
namespace Go.Proofs.YtoigembmbajopaaDoor
open Go.RowKit


def pol : Nat := 3988292384
def stp (x : Nat) : Nat := (x >>> 1) ^^^ (bif x.testBit 0 then pol else 0)
def stps : Nat → Nat → Nat
  | 0, x => x
  | k + 1, x => stps k (stp x)
def eat (x : Nat) (b : Bool) : Nat := stp (x ^^^ b.toNat)
def reg (x : Nat) (l : List Bool) : Nat := l.foldl eat x
def byteBits (c : UInt8) : List Bool := (List.range 8).map fun k => c.toNat.testBit k
def bitsB (l : List UInt8) : List Bool := l.flatMap byteBits
def top32 : Nat := 4294967295
/-- What comes of a sum by a text behind it. -/
def moreN (sum : Nat) (l : List UInt8) : Nat := top32 - reg (top32 - sum) (bitsB l)

theorem stp_xor (x y : Nat) : stp (x ^^^ y) = stp x ^^^ stp y := by
  unfold stp
  rw [Nat.testBit_xor, Nat.shiftRight_xor_distrib]
  cases x.testBit 0 <;> cases y.testBit 0 <;> simp
  · ac_rfl
  · ac_rfl
  · rw [show (x >>> 1 ^^^ pol ^^^ (y >>> 1 ^^^ pol)) = (x >>> 1 ^^^ y >>> 1) ^^^ (pol ^^^ pol) by ac_rfl]
    simp

theorem stp_lt {x : Nat} (h : x < 2 ^ 32) : stp x < 2 ^ 32 := by
  unfold stp
  apply Nat.xor_lt_two_pow
  · rw [Nat.shiftRight_eq_div_pow]; omega
  · cases x.testBit 0 <;> simp [pol]

theorem stps_lt : ∀ (k : Nat) {x : Nat}, x < 2 ^ 32 → stps k x < 2 ^ 32
  | 0, _, h => h
  | k + 1, _, h => stps_lt k (stp_lt h)

theorem stp_zero : stp 0 = 0 := by decide

theorem stps_zero : ∀ k, stps k 0 = 0
  | 0 => rfl
  | k + 1 => by simp [stps, stp_zero, stps_zero k]

theorem stps_xor : ∀ (k x y : Nat), stps k (x ^^^ y) = stps k x ^^^ stps k y
  | 0, _, _ => rfl
  | k + 1, x, y => by simp only [stps, stp_xor, stps_xor k]

theorem stps_add : ∀ (k m x : Nat), stps (k + m) x = stps m (stps k x)
  | 0, m, x => by simp [stps]
  | k + 1, m, x => by rw [Nat.add_right_comm]; exact stps_add k m (stp x)

theorem stps_succ (k x : Nat) : stps (k + 1) x = stp (stps k x) := stps_add k 1 x

theorem stp_ne {x : Nat} (h : x < 2 ^ 32) (hx : x ≠ 0) : stp x ≠ 0 := by
  intro e
  unfold stp at e
  cases hb : x.testBit 0 with
  | false =>
    rw [hb] at e
    simp only [cond_false, Nat.xor_zero, Nat.shiftRight_eq_div_pow, Nat.pow_one] at e
    rw [Nat.testBit_zero] at hb
    have : x % 2 = 0 := by
      have := Nat.mod_two_eq_zero_or_one x
      simp at hb; omega
    omega
  | true =>
    rw [hb] at e
    simp only [cond_true] at e
    have e2 : x >>> 1 = pol := by
      have := congrArg (· ^^^ pol) e
      simpa [Nat.xor_assoc] using this
    rw [Nat.shiftRight_eq_div_pow] at e2
    unfold pol at e2
    omega

theorem stps_ne : ∀ (k : Nat) {x : Nat}, x < 2 ^ 32 → x ≠ 0 → stps k x ≠ 0
  | 0, _, _, h => h
  | k + 1, _, h, hx => stps_ne k (stp_lt h) (stp_ne h hx)

/-- The number of some bits, the least first. -/
def ofBits : List Bool → Nat
  | [] => 0
  | b :: l => b.toNat + 2 * ofBits l

theorem stp_twice (n : Nat) : stp (2 * n) = n := by
  unfold stp
  have : (2 * n).testBit 0 = false := by simp
  rw [this, Nat.shiftRight_eq_div_pow]
  simp

theorem ofBits_cons_xor (x : Nat) (b : Bool) (l : List Bool) : x ^^^ ofBits (b :: l) = (x ^^^ b.toNat) ^^^ (2 * ofBits l) := by
  have e : ofBits (b :: l) = b.toNat ^^^ (2 * ofBits l) := by
    apply Nat.eq_of_testBit_eq
    intro i
    rw [Nat.testBit_xor]
    cases i with
    | zero => cases b <;> simp [ofBits, Nat.testBit_zero] <;> omega
    | succ i =>
      rw [Nat.testBit_succ, Nat.testBit_succ, Nat.testBit_succ]
      have h1 : ofBits (b :: l) / 2 = ofBits l := by cases b <;> simp [ofBits] <;> omega
      have h2 : b.toNat / 2 = 0 := by cases b <;> rfl
      rw [h1, h2]
      simp
  rw [e, Nat.xor_assoc]

theorem reg_stps : ∀ (l : List Bool) (x : Nat), reg x l = stps l.length (x ^^^ ofBits l)
  | [], x => by simp [reg, stps, ofBits]
  | b :: l, x => by
    have ih := reg_stps l (eat x b)
    rw [List.length_cons, stps, ofBits_cons_xor, stp_xor, stp_twice]
    exact ih

theorem reg_append (x : Nat) (l m : List Bool) : reg x (l ++ m) = reg (reg x l) m := List.foldl_append

theorem reg_cons (x : Nat) (b : Bool) (m : List Bool) : reg x (b :: m) = reg (eat x b) m := rfl

theorem eat_lt {x : Nat} (b : Bool) (h : x < 2 ^ 32) : eat x b < 2 ^ 32 := stp_lt (Nat.xor_lt_two_pow h (by cases b <;> simp))

theorem reg_lt : ∀ (l : List Bool) {x : Nat}, x < 2 ^ 32 → reg x l < 2 ^ 32
  | [], _, h => h
  | b :: l, _, h => reg_lt l (eat_lt b h)

theorem reg_le {l : List Bool} {x : Nat} (h : x ≤ top32) : reg x l ≤ top32 := by
  have := reg_lt l (x := x) (by unfold top32 at h; omega)
  have e : top32 = 4294967295 := rfl
  omega

theorem eat_xor (x y : Nat) (a b : Bool) : eat (x ^^^ y) (a ^^ b) = eat x a ^^^ eat y b := by
  unfold eat
  rw [← stp_xor]
  congr 1
  have : (a ^^ b).toNat = a.toNat ^^^ b.toNat := by cases a <;> cases b <;> rfl
  rw [this]
  ac_rfl

theorem reg_xor : ∀ (l m : List Bool) (x y : Nat), l.length = m.length → reg (x ^^^ y) (List.zipWith (· ^^ ·) l m) = reg x l ^^^ reg y m
  | [], [], _, _, _ => rfl
  | a :: l, b :: m, x, y, h => by
    rw [List.zipWith_cons_cons, reg_cons, reg_cons, reg_cons, eat_xor]
    exact reg_xor l m _ _ (by simpa using h)

theorem bits_len : ∀ l : List UInt8, (bitsB l).length = 8 * l.length
  | [] => rfl
  | c :: l => by
    have := bits_len l
    simp only [bitsB, List.flatMap_cons, List.length_append] at *
    simp only [byteBits, List.length_map, List.length_range, List.length_cons, this]
    omega

theorem bits_append (a b : List UInt8) : bitsB (a ++ b) = bitsB a ++ bitsB b := by simp [bitsB]

theorem more_lt (sum : Nat) (l : List UInt8) : moreN sum l ≤ top32 := Nat.sub_le _ _

theorem top_xor {x : Nat} (h : x ≤ top32) : top32 - x = top32 ^^^ x := by
  have e : top32 = 2 ^ 32 - 1 := rfl
  rw [e]
  rw [e] at h
  apply Nat.eq_of_testBit_eq
  intro i
  rw [Nat.testBit_xor, Nat.testBit_two_pow_sub_one, show 2 ^ 32 - 1 - x = 2 ^ 32 - (x + 1) by omega, Nat.testBit_two_pow_sub_succ (by omega)]
  by_cases hi : i < 32
  · simp [hi]
  · have : x.testBit i = false := Nat.testBit_lt_two_pow (Nat.lt_of_lt_of_le (by omega : x < 2 ^ 32) (Nat.pow_le_pow_right (by omega) (by omega)))
    simp [hi, this]

theorem more_more (sum : Nat) (a b : List UInt8) : moreN (moreN sum a) b = moreN sum (a ++ b) := by
  unfold moreN
  have hr : reg (top32 - sum) (bitsB a) < 2 ^ 32 := reg_lt _ (by unfold top32; omega)
  rw [show top32 - (top32 - reg (top32 - sum) (bitsB a)) = reg (top32 - sum) (bitsB a) by unfold top32 at *; omega, bits_append, reg_append]

/-- The joining of two sums. -/
theorem more_join (a b : List UInt8) : stps (8 * b.length) (moreN 0 a) ^^^ moreN 0 b = moreN 0 (a ++ b) := by
  rw [← more_more 0 a b]
  have ha := more_lt 0 a
  generalize moreN 0 a = x at *
  unfold moreN
  have h1 : reg (top32 - x) (bitsB b) ≤ top32 := reg_le (Nat.sub_le _ _)
  have h2 : reg (top32 - 0) (bitsB b) ≤ top32 := reg_le (Nat.sub_le _ _)
  rw [top_xor h1, top_xor h2, top_xor ha]
  have e : reg (top32 ^^^ x) (bitsB b) = reg top32 (bitsB b) ^^^ stps (8 * b.length) x := by
    rw [reg_stps, reg_stps, bits_len, ← stps_xor]
    congr 1
    ac_rfl
  rw [e, Nat.sub_zero]
  ac_rfl

/-- Turned bits: those from 'at' on for which 'bits' has a bit, so many of them. -/
def flips (L : List Bool) (at' : Int) (bits : Nat) (i : Nat) : List Bool :=
  L.mapIdx fun j b => b ^^ (decide (at' ≤ (j : Int) ∧ (j : Int) < at' + i) && bits.testBit ((j : Int) - at').toNat)

theorem flips_len (L : List Bool) (a : Int) (b i : Nat) : (flips L a b i).length = L.length := by simp [flips]

theorem flips_get (L : List Bool) (a : Int) (b i j : Nat) (h : j < L.length) : (flips L a b i)[j]'(by rw [flips_len]; exact h) = (L[j] ^^ (decide (a ≤ (j : Int) ∧ (j : Int) < a + i) && b.testBit ((j : Int) - a).toNat)) := by
  simp [flips]

theorem flips_zero (L : List Bool) (a : Int) (b : Nat) : flips L a b 0 = L := by
  apply List.ext_getElem (flips_len _ _ _ _)
  intro j h1 h2
  rw [flips_get _ _ _ _ _ h2]
  have : decide (a ≤ (j : Int) ∧ (j : Int) < a + (0 : Nat)) = false := by simp
  rw [this]
  simp

/-- One moreN bit. -/
theorem flips_succ_in (L : List Bool) (a : Int) (b i k : Nat) (hk : a + i = k) (hl : k < L.length) :
    flips L a b (i + 1) = (flips L a b i).set k ((flips L a b i)[k]'(by rw [flips_len]; exact hl) ^^ b.testBit i) := by
  apply List.ext_getElem (by simp [flips_len])
  intro j h1 h2
  have hj : j < L.length := by simpa [flips_len] using h1
  rw [flips_get _ _ _ _ _ hj, List.getElem_set]
  by_cases e : k = j
  · subst e
    rw [if_pos rfl, flips_get _ _ _ _ _ hl]
    have h3 : decide (a ≤ (k : Int) ∧ (k : Int) < a + (i + 1 : Nat)) = true := by simp; omega
    have h4 : decide (a ≤ (k : Int) ∧ (k : Int) < a + i) = false := by simp; omega
    have h5 : ((k : Int) - a).toNat = i := by omega
    rw [h3, h4, h5]
    simp
  · rw [if_neg e, flips_get _ _ _ _ _ hj]
    have : decide (a ≤ (j : Int) ∧ (j : Int) < a + (i + 1 : Nat)) = decide (a ≤ (j : Int) ∧ (j : Int) < a + i) := by
      rw [decide_eq_decide]; omega
    rw [this]

theorem flips_succ_out (L : List Bool) (a : Int) (b i : Nat) (hk : a + i < 0 ∨ (L.length : Int) ≤ a + i) : flips L a b (i + 1) = flips L a b i := by
  apply List.ext_getElem (by simp [flips_len])
  intro j h1 h2
  have hj : j < L.length := by simpa [flips_len] using h1
  rw [flips_get _ _ _ _ _ hj, flips_get _ _ _ _ _ hj]
  have : decide (a ≤ (j : Int) ∧ (j : Int) < a + (i + 1 : Nat)) = decide (a ≤ (j : Int) ∧ (j : Int) < a + i) := by
    rw [decide_eq_decide]; omega
  rw [this]

theorem flips_succ_off (L : List Bool) (a : Int) (b i : Nat) (hb : b.testBit i = false) : flips L a b (i + 1) = flips L a b i := by
  by_cases h : a + i < 0 ∨ (L.length : Int) ≤ a + i
  · exact flips_succ_out L a b i h
  · obtain ⟨k, hk⟩ := Int.eq_ofNat_of_zero_le (show 0 ≤ a + i by omega)
    rw [flips_succ_in L a b i k hk (by omega), hb]
    simp

theorem flips_twice (L : List Bool) (a : Int) (b i : Nat) : flips (flips L a b i) a b i = L := by
  apply List.ext_getElem (by simp [flips_len])
  intro j h1 h2
  rw [flips_get _ _ _ _ _ (by rw [flips_len]; exact h2), flips_get _ _ _ _ _ h2, Bool.xor_assoc, Bool.xor_self, Bool.xor_false]

/-- The difference of a text and itself turned. -/
theorem flips_diff (L : List Bool) (a b : Nat) (ha : a ≤ L.length) (hb : b < 2 ^ 32) :
    List.zipWith (· ^^ ·) L (flips L a b 32) = List.replicate a false ++ (List.range (L.length - a)).map b.testBit := by
  apply List.ext_getElem
  · simp [flips_len]; omega
  · intro j h1 h2
    have hj : j < L.length := by simp [flips_len] at h1; exact h1
    rw [List.getElem_zipWith, flips_get _ _ _ _ _ hj]
    by_cases hja : j < a
    · rw [List.getElem_append_left (by simpa using hja)]
      have : decide ((a : Int) ≤ (j : Int) ∧ (j : Int) < a + (32 : Nat)) = false := by simp; omega
      rw [this]
      simp
    · rw [List.getElem_append_right (by simpa using hja)]
      simp only [List.getElem_map, List.getElem_range, List.length_replicate]
      have e : ((j : Int) - a).toNat = j - a := by omega
      rw [e]
      by_cases h32 : j - a < 32
      · have : decide ((a : Int) ≤ (j : Int) ∧ (j : Int) < a + (32 : Nat)) = true := by simp; omega
        rw [this]
        simp
      · have h3 : decide ((a : Int) ≤ (j : Int) ∧ (j : Int) < a + (32 : Nat)) = false := by simp; omega
        have h4 : b.testBit (j - a) = false := Nat.testBit_lt_two_pow (Nat.lt_of_lt_of_le hb (Nat.pow_le_pow_right (by omega) (by omega)))
        rw [h3, h4]
        simp

theorem ofBits_testBit : ∀ (l : List Bool) (i : Nat), (ofBits l).testBit i = l.getD i false
  | [], i => by simp [ofBits]
  | b :: l, 0 => by cases b <;> simp [ofBits, Nat.testBit_zero] <;> omega
  | b :: l, i + 1 => by
    rw [Nat.testBit_succ]
    have h1 : ofBits (b :: l) / 2 = ofBits l := by cases b <;> simp [ofBits] <;> omega
    rw [h1, ofBits_testBit l i]
    simp

theorem ofBits_range (b m : Nat) : ofBits ((List.range m).map b.testBit) = b % 2 ^ m := by
  apply Nat.eq_of_testBit_eq
  intro i
  rw [ofBits_testBit, Nat.testBit_mod_two_pow]
  by_cases h : i < m
  · simp [List.getD, h]
  · simp [List.getD, h]

theorem ofBits_lt : ∀ l : List Bool, ofBits l < 2 ^ l.length
  | [] => by simp [ofBits]
  | b :: l => by
    have := ofBits_lt l
    cases b <;> simp only [ofBits, List.length_cons, Nat.pow_succ, Bool.toNat_false, Bool.toNat_true] <;> omega

theorem reg_zeros (a : Nat) : reg 0 (List.replicate a false) = 0 := by
  rw [reg_stps]
  have : ofBits (List.replicate a false) = 0 := by
    induction a with
    | zero => rfl
    | succ a ih => simp [List.replicate_succ, ofBits, ih]
  rw [this]
  exact stps_zero _

theorem map_xor_self (L K : List Bool) (h : L.length = K.length) (hz : ∀ j (h1 : j < (List.zipWith (· ^^ ·) L K).length), (List.zipWith (· ^^ ·) L K)[j] = false) : L = K := by
  apply List.ext_getElem h
  intro j h1 h2
  have := hz j (by simp; omega)
  rw [List.getElem_zipWith] at this
  simpa using this

/-- A change within 32 bits changes the register. -/
theorem burst (L : List Bool) (a b x : Nat) (ha : a ≤ L.length) (hb : b < 2 ^ 32) (h : reg x L = reg x (flips L a b 32)) : flips L a b 32 = L := by
  have hx := reg_xor L (flips L a b 32) x x (flips_len _ _ _ _).symm
  rw [h, Nat.xor_self, Nat.xor_self, flips_diff L a b ha hb, reg_append, reg_zeros, reg_stps, Nat.zero_xor, ofBits_range] at hx
  have hz : b % 2 ^ (L.length - a) = 0 := by
    refine Classical.byContradiction fun hn => ?_
    exact stps_ne _ (Nat.lt_of_le_of_lt (Nat.mod_le _ _) hb) hn hx
  refine (map_xor_self L _ (flips_len _ _ _ _).symm ?_).symm
  intro j h1
  have e := flips_diff L a b ha hb
  have e2 : ∀ (l m : List Bool) (h : l = m) (j : Nat) (hj : j < l.length), l[j] = m[j]'(h ▸ hj) := by
    intro l m h j hj; subst h; rfl
  rw [e2 _ _ e j h1]
  by_cases hja : j < a
  · rw [List.getElem_append_left (by simpa using hja)]; simp
  · rw [List.getElem_append_right (by simpa using hja)]
    simp only [List.getElem_map, List.getElem_range, List.length_replicate]
    have hj : j < L.length := by simp [flips_len] at h1; exact h1
    have := Nat.testBit_mod_two_pow b (L.length - a) (j - a)
    rw [hz] at this
    simp at this
    exact this (by omega)


/-- What four steps make of four bits. -/
def T16 : List Nat := [0, 498536548, 997073096, 651767980, 1994146192, 1802195444, 1303535960, 1342533948, 3988292384, 4027552580, 3604390888, 3412177804, 2607071920, 2262029012, 2685067896, 3183342108]

theorem T16_steps : ∀ m : Fin 16, stps 4 m.val = T16.getD m.val 0 := by decide +kernel

theorem T16_le : ∀ m : Fin 16, T16.getD m.val 0 ≤ 4294967295 := by decide +kernel

theorem four (x : Nat) : x / 16 ^^^ T16.getD (x % 16) 0 = stps 4 x := by
  have hm : x % 16 < 16 := by omega
  have e : x = (16 * (x / 16)) ^^^ (x % 16) := by
    have h := Nat.two_pow_add_eq_or_of_lt (i := 4) (by simpa using hm) (x / 16)
    have h2 : 2 ^ 4 * (x / 16) ||| x % 16 = (16 * (x / 16)) ^^^ (x % 16) := by
      apply Nat.eq_of_testBit_eq
      intro i
      rw [Nat.testBit_or, Nat.testBit_xor]
      have e4 : (16 * (x / 16)).testBit i = (decide (4 ≤ i) && (x / 16).testBit (i - 4)) := Nat.testBit_two_pow_mul (i := 4) (j := i) (a := x / 16)
      have e6 : (x % 16).testBit i = (decide (i < 4) && x.testBit i) := Nat.testBit_mod_two_pow x 4 i
      rw [e4, e6]
      by_cases h4 : i < 4
      · have : decide (4 ≤ i) = false := by simp; omega
        simp [this]
      · have : decide (i < 4) = false := by simp; omega
        simp [this]
    omega
  have e2 : stps 4 (16 * (x / 16)) = x / 16 := by
    rw [show 16 * (x / 16) = 2 * (2 * (2 * (2 * (x / 16)))) by omega]
    simp only [stps, stp_twice]
  conv => rhs; rw [e]
  rw [stps_xor, e2, T16_steps ⟨x % 16, hm⟩]

theorem ofBits_byte (c : UInt8) : ofBits (byteBits c) = c.toNat := by
  unfold byteBits
  rw [ofBits_range]
  exact Nat.mod_eq_of_lt c.toNat_lt

theorem reg_byte (r : Nat) (c : UInt8) : reg r (byteBits c) = stps 4 (stps 4 (r ^^^ c.toNat)) := by
  rw [reg_stps, ofBits_byte, ← stps_add]
  rfl

theorem bits_snoc (l : List UInt8) (c : UInt8) : bitsB (l ++ [c]) = bitsB l ++ byteBits c := by simp [bitsB]

theorem reg_take (r : Nat) (l : List UInt8) (k : Nat) (h : k < l.length) : reg r (bitsB (l.take (k + 1))) = stps 4 (stps 4 (reg r (bitsB (l.take k)) ^^^ l[k].toNat)) := by
  rw [List.take_succ_eq_append_getElem h, bits_snoc, reg_append, reg_byte]

theorem xor_le {a b : Nat} (ha : a ≤ 4294967295) (hb : b ≤ 4294967295) : a ^^^ b ≤ 4294967295 := by
  have := Nat.xor_lt_two_pow (x := a) (y := b) (n := 32) (by omega) (by omega)
  omega

theorem x32 {a b : Nat} (ha : a ≤ 4294967295) (hb : b ≤ 4294967295) : bits .xor .u32 (a : Int) (b : Int) = ((a ^^^ b : Nat) : Int) := u32_xor_nat a b (by omega) (by omega)

theorem a32_15 {a : Nat} (ha : a ≤ 4294967295) : bits .and .u32 (a : Int) 15 = ((a % 16 : Nat) : Int) := by
  rw [show (15 : Int) = ((15 : Nat) : Int) from rfl, u32_and_nat a 15 (by omega) (by omega), nat_mask4]

theorem a32_1 {a : Nat} (ha : a ≤ 4294967295) : bits .and .u32 (a : Int) 1 = ((a % 2 : Nat) : Int) := by
  rw [show (1 : Int) = ((1 : Nat) : Int) from rfl, u32_and_nat a 1 (by omega) (by omega), nat_mask1]

theorem not32 {a : Nat} (ha : a ≤ 4294967295) : bits .xor .u32 IntKind.u32.max (a : Int) = ((4294967295 - a : Nat) : Int) := by
  rw [show IntKind.u32.max = ((4294967295 : Nat) : Int) by decide, x32 (by omega) ha]
  congr 1
  exact (top_xor (x := a) ha).symm

theorem stp_even {x : Nat} (h : x % 2 = 0) : stp x = x / 2 := by
  unfold stp
  rw [Nat.testBit_zero, Nat.shiftRight_eq_div_pow]
  simp [h]

theorem stp_odd {x : Nat} (h : x % 2 = 1) : stp x = x / 2 ^^^ 3988292384 := by
  unfold stp
  rw [Nat.testBit_zero, Nat.shiftRight_eq_div_pow]
  simp [h, pol]

theorem stp_le {x : Nat} (h : x ≤ 4294967295) : stp x ≤ 4294967295 := by have := stp_lt (x := x) (by omega); omega
theorem stps_le (k : Nat) {x : Nat} (h : x ≤ 4294967295) : stps k x ≤ 4294967295 := by have := stps_lt k (x := x) (by omega); omega
theorem reg_le' {l : List Bool} {x : Nat} (h : x ≤ 4294967295) : reg x l ≤ 4294967295 := reg_le h

/-- What some steps make of each bit of a number. -/
def zarr (m : Nat) : Array Value := (Array.range 32).map fun i => .int .u32 (stps m (2 ^ i) : Nat)

theorem zarr_size (m : Nat) : (zarr m).size = 32 := by simp [zarr]

theorem zarr_get (m i : Nat) (h : i < 32) : (zarr m)[i]? = some (.int .u32 (stps m (2 ^ i) : Nat)) := by
  simp [zarr, h]

theorem zarr_of (m : Nat) (C : Array Value) (hC : C.size = 32) (h : ∀ i, i < 32 → C[i]? = some (.int .u32 (stps m (2 ^ i) : Nat))) : C = zarr m := by
  apply Array.ext_getElem?
  intro i
  by_cases hi : i < 32
  · rw [h i hi, zarr_get m i hi]
  · rw [Array.getElem?_eq_none (by omega), Array.getElem?_eq_none (by rw [zarr_size]; omega)]

theorem pow_le {i : Nat} (h : i < 32) : 2 ^ i ≤ 4294967295 := by
  have := Nat.pow_lt_pow_right (a := 2) (by omega) h
  omega

/-- One more bit of a number. -/
theorem mod_bit (n k : Nat) : n % 2 ^ (k + 1) = n % 2 ^ k ^^^ (if n / 2 ^ k % 2 = 1 then 2 ^ k else 0) := by
  apply Nat.eq_of_testBit_eq
  intro i
  have hb : n.testBit k = decide (n / 2 ^ k % 2 = 1) := by
    rw [Nat.testBit_eq_decide_div_mod_eq]
  rw [Nat.testBit_xor, Nat.testBit_mod_two_pow, Nat.testBit_mod_two_pow]
  by_cases e : i = k
  · subst e
    by_cases h : n / 2 ^ i % 2 = 1
    · simp [h, hb]
    · simp [h, hb]
  · have h1 : decide (i < k + 1) = decide (i < k) := by rw [decide_eq_decide]; omega
    have h2 : (if n / 2 ^ k % 2 = 1 then 2 ^ k else 0).testBit i = false := by
      split
      · rw [Nat.testBit_two_pow]; simp; omega
      · simp
    rw [h1, h2]
    simp

theorem stps_bit_on (m n k : Nat) (h : n / 2 ^ k % 2 = 1) : stps m (n % 2 ^ k) ^^^ stps m (2 ^ k) = stps m (n % 2 ^ (k + 1)) := by
  rw [mod_bit, if_pos h, stps_xor]

theorem stps_bit_off (n k : Nat) (h : n / 2 ^ k % 2 ≠ 1) : n % 2 ^ (k + 1) = n % 2 ^ k := by
  rw [mod_bit, if_neg h, Nat.xor_zero]

end Go.Proofs.YtoigembmbajopaaDoor
namespace Go.Proofs.YtoigembmbajopaaDoor
open Go.RowKit

theorem rp_conv_one {n : Nat} (w' : World) (b c : Nat) (h : w'.cell? ⟨b, 0, none⟩ = some (.int .u8 ((n : Int) % 256))) :
    (convert 46 9 (.slice (some ⟨b, 0, none⟩) 1 c)).run Tryd.prog w' = .ok (.string (str [UInt8.ofNat n])) w' :=
  conv_bytes w' 46 9 5 b 1 c [UInt8.ofNat n] rfl Tryd.underlying46 Tryd.underlying5 Tryd.underlying9 (fun j hj => by
    obtain rfl : j = 0 := by simpa using hj
    rw [h]; simp)

theorem rp_after_new {w wx : World} {v : Value} {t : TypeId} (hb : Below ((w.alloc (.cells #[v] t)).drew).heap.size ((w.alloc (.cells #[v] t)).drew) wx) : wx.cell? ⟨w.heap.size, 0, none⟩ = some v :=
  cell_later hb (World.cell?_alloc_mark w #[v] t _ 0)

set_option maxHeartbeats 1000000 in
theorem rpnum_any : ∀ (k : Nat) (n : Nat), k ≤ 8 → n < 2 ^ 64 → ∀ (w : World),
    Calls Tryd.prog 56 #[.int .u64 n, .int .i64 k] w fun e w' => e = .returned (.string (str (leB k n))) ∧ Below w.heap.size w w'
  | 0, n, _, _, w => by
    go_enter Tryd.func56, Tryd.ntmps56
    go_wp2
    go_ret
    exact ⟨rfl, Below.refl _ _⟩
  | k + 1, n, hk, hn, w => by
    have ih := rpnum_any k (n / 256) (by omega) (by omega)
    have e1 : IntKind.u8.wrap ((n : Int).tmod 256) = (n : Int) % 256 := by
      rw [Int.tmod_eq_emod_of_nonneg (by omega)]
      exact IntWalk.u8_in _ (by omega)
    have e2 : IntKind.u64.wrap ((n : Int) / 256) = ((n / 256 : Nat) : Int) := by
      have : (((n / 256 : Nat)) : Int) = (n : Int) / 256 := by omega
      rw [this]
      exact IntWalk.u64_in _ (by omega)
    have z1 : (str [UInt8.ofNat n]).size = 1 := str_size _
    have z2 : (str (leB k (n / 256))).size = k := by rw [str_size, leB_len]
    have e3 : IntKind.i64.wrap (k : Int) = k := IntWalk.i64_in _ (by omega)
    have hk0 : ¬ ((k : Int) + 1 ≤ 0) := by omega
    have hcv := @rp_conv_one n
    go_enter Tryd.func56, Tryd.ntmps56
    go_wp2
    go_region_with (go_at_call 56; refine (ih _).mono ?_; rintro e w' ⟨rfl, hb⟩; try have hcc := rp_after_new hb)
    all_goals go_wp2
    all_goals
      go_ret
      refine ⟨by rw [str_append]; rfl, ?_⟩
      first
        | exact Below.then' (((Below.refl _ _).alloc (Nat.le_refl _) _).drew) hb (le_drew_alloc _ _)
        | exact (Below.then' ((Below.refl _ _).drew) hb (Nat.le_refl _)).alloc hb.size _

theorem rp_info : (Tryd.prog.info? 5).map (fun i => (i.zero, i.size, i.bytes)) = some (some (.int .u8 0), 1, 1) := by kernel_rfl
/-- A text filled with zero bytes up to a length. -/
def rpFill (s : ByteArray) (n : Int) : ByteArray := s ++ str (List.replicate (n - s.size).toNat 0)

theorem rpFill_same (s : ByteArray) (n : Int) (h : n ≤ s.size) : rpFill s n = s := by
  have : (n - s.size).toNat = 0 := by omega
  unfold rpFill
  rw [this]
  apply ByteArray.ext
  simp [str, ByteArray.data_append]

set_option maxHeartbeats 400000 in
theorem rpfill0_any (s : ByteArray) (n : Int) (hn : n ≤ 5000) (w : World) :
    Calls Tryd.prog 73 #[.string s, .int .i64 n] w fun e w' => e = .returned (.string (rpFill s n)) ∧ Below w.heap.size w w' := by
  by_cases h : n ≤ s.size
  · have e := rpFill_same s n h
    go_enter Tryd.func73, Tryd.ntmps73
    go_wp2
    go_ret
    exact ⟨by first | rfl | (rw [e]; rfl), Below.refl _ _⟩
  · obtain ⟨k, hk⟩ : ∃ k : Nat, n = s.size + k := ⟨(n - s.size).toNat, by omega⟩
    subst hk
    have e : rpFill s (s.size + k) = s ++ str (List.replicate k 0) := by
      unfold rpFill; congr 3; omega
    have hz : (str (List.replicate k 0)).size = k := by simp [str_size]
    have es : (s.size : Int) + (k : Int) - (s.size : Int) = k := by omega
    have hmk := fun w' => run_make_row' (P := Tryd.prog) 46 5 (.int .u8 0) 1 Tryd.underlying46 rp_info rfl .i64 .i64 k (by omega) (by omega) w'
    have hcv := conv_bytes (P := Tryd.prog) (w.alloc (.cells (madeCells #[.int .u8 0] k) 5)) 46 9 5 w.heap.size k k (List.replicate k 0) (by simp) Tryd.underlying46 Tryd.underlying5 Tryd.underlying9 (fun j hj => by
        have hj' : j < k := by simpa using hj
        rw [World.cell?_alloc_mark]
        simp [madeCells, hj', Nat.mod_one])
    go_enter Tryd.func73, Tryd.ntmps73
    go_wp2
    go_ret
    exact ⟨rfl, (Below.refl _ _).alloc (Nat.le_refl _) _⟩

/-- Bytes filled with zeros up to a length. -/
def fillL (l : List UInt8) (n : Nat) : List UInt8 := l ++ List.replicate (n - l.length) 0
theorem rpfill_any (l : List UInt8) (n : Nat) (hn : n ≤ 5000) (w : World) :
    Calls Tryd.prog 73 #[.string (str l), .int .i64 n] w fun e w' => e = .returned (.string (str (fillL l n))) ∧ Below w.heap.size w w' := by
  have e : rpFill (str l) n = str (fillL l n) := by
    unfold rpFill fillL
    rw [str_append, str_size, show ((n : Int) - (l.length : Int)).toNat = n - l.length by omega]
  rw [← e]
  exact rpfill0_any (str l) n (by omega) w

end Go.Proofs.YtoigembmbajopaaDoor
namespace Go.Proofs.YtoigembmbajopaaDoor

/-- A superblock: its number, the disk's sectors, those of the journal, how many of its bytes count, the base's bytes and runs. -/
structure Sb where
  seq : Nat
  sec : Int
  jou : Int
  use : Int
  siz : Int
  runs : List (Int × Int)

theorem Sb.ext_iff' (a b : Sb) : a = b ↔ a.seq = b.seq ∧ a.sec = b.sec ∧ a.jou = b.jou ∧ a.use = b.use ∧ a.siz = b.siz ∧ a.runs = b.runs := by
  cases a; cases b; simp
instance : DecidableEq Sb := fun a b => decidable_of_iff _ (Sb.ext_iff' a b).symm
def Sb.zero : Sb := ⟨0, 0, 0, 0, 0, []⟩
/-- Numbers of the machine. -/
structure Sb.wf (s : Sb) : Prop where
  seq : s.seq < 2 ^ 64
  sec : -9223372036854775808 ≤ s.sec ∧ s.sec ≤ 9223372036854775807
  jou : -9223372036854775808 ≤ s.jou ∧ s.jou ≤ 9223372036854775807
  use : -9223372036854775808 ≤ s.use ∧ s.use ≤ 9223372036854775807
  siz : -9223372036854775808 ≤ s.siz ∧ s.siz ≤ 9223372036854775807
theorem Sb.zero_wf : Sb.zero.wf := ⟨by decide, by decide, by decide, by decide, by decide⟩

def needN (n : Int) : Int := if n < 1 then 0 else (n - 1) / 128 + 1
structure maySP (s : Sb) : Prop where
  seq : 1 ≤ s.seq
  sec : 4 ≤ s.sec ∧ s.sec ≤ 8192
  jou : 1 ≤ s.jou ∧ s.jou ≤ s.sec - 2
  use : 0 ≤ s.use ∧ s.use ≤ s.jou * 128
  siz : 0 ≤ s.siz ∧ s.siz ≤ 1048576
  len : s.runs.length ≤ 16
  runs : validL (2 + s.jou) s.sec s.runs
  sum : sumR s.runs = needN s.siz
theorem maySP_iff (s : Sb) : maySP s ↔ (1 ≤ s.seq ∧ (4 ≤ s.sec ∧ s.sec ≤ 8192) ∧ (1 ≤ s.jou ∧ s.jou ≤ s.sec - 2) ∧ (0 ≤ s.use ∧ s.use ≤ s.jou * 128) ∧ (0 ≤ s.siz ∧ s.siz ≤ 1048576) ∧ s.runs.length ≤ 16 ∧ validL (2 + s.jou) s.sec s.runs ∧ sumR s.runs = needN s.siz) :=
  ⟨fun h => ⟨h.seq, h.sec, h.jou, h.use, h.siz, h.len, h.runs, h.sum⟩, fun ⟨a, b, c, d, e, f, g, h⟩ => ⟨a, b, c, d, e, f, g, h⟩⟩
instance (s : Sb) : Decidable (maySP s) := decidable_of_iff _ (maySP_iff s).symm
def mayS (s : Sb) : Bool := decide (maySP s)

/-- Its sector. -/
def magicB : List UInt8 := [83, 72, 69, 65, 70, 48, 48, 49]
def runB (r : Int × Int) : List UInt8 := leB 2 r.1.toNat ++ leB 2 r.2.toNat
def runsB (l : List (Int × Int)) : List UInt8 := l.flatMap runB
def headS (s : Sb) : List UInt8 := magicB ++ (leB 8 s.seq ++ (leB 4 s.sec.toNat ++ (leB 4 s.jou.toNat ++ (leB 4 s.use.toNat ++ (leB 4 s.siz.toNat ++ (leB 4 s.runs.length ++ runsB s.runs))))))
def bodyS (s : Sb) : List UInt8 := fillL (headS s) 124
def putS (s : Sb) : List UInt8 := bodyS s ++ leB 4 (moreN 0 (bodyS s))

theorem runB_len (r : Int × Int) : (runB r).length = 4 := by unfold runB; rw [List.length_append, leB_len, leB_len]
theorem runsB_len : ∀ (l : List (Int × Int)), (runsB l).length = 4 * l.length
  | [] => rfl
  | r :: l => by
    show (runB r ++ runsB l).length = 4 * (l.length + 1)
    rw [List.length_append, runB_len, runsB_len l]; omega
theorem headS_len (s : Sb) : (headS s).length = 36 + 4 * s.runs.length := by
  unfold headS
  simp only [List.length_append, leB_len, runsB_len]
  show 8 + _ = _
  omega
theorem bodyS_len (s : Sb) (h : s.runs.length ≤ 16) : (bodyS s).length = 124 := by
  unfold bodyS fillL
  rw [List.length_append, headS_len, List.length_replicate]; omega
theorem putS_len (s : Sb) (h : s.runs.length ≤ 16) : (putS s).length = 128 := by
  unfold putS
  rw [List.length_append, bodyS_len s h, leB_len]

/-- The superblock that a sector's bytes say. -/
def fieldN (t : List UInt8) (i k : Nat) : Nat := ofLE ((t.drop i).take k)
def getRun (t : List UInt8) (i : Nat) : Int × Int := ((fieldN t (36 + 4 * i) 2 : Nat), (fieldN t (38 + 4 * i) 2 : Nat))
def getR (t : List UInt8) : Sb := ⟨fieldN t 8 8, (fieldN t 16 4 : Nat), (fieldN t 20 4 : Nat), (fieldN t 24 4 : Nat), (fieldN t 28 4 : Nat), (List.range (min (fieldN t 32 2) 16)).map (getRun t)⟩
def getS (t : List UInt8) : Option Sb := if t.length = 128 ∧ maySP (getR t) ∧ putS (getR t) = t then some (getR t) else none
def getD (t : List UInt8) : Sb := (getS t).getD Sb.zero
def getE (t : List UInt8) : Int := if (getS t).isSome then 0 else 110

theorem fieldN_lt (t : List UInt8) (i k : Nat) : fieldN t i k < 256 ^ k := by
  unfold fieldN
  refine Nat.lt_of_lt_of_le (ofLE_lt _) (Nat.pow_le_pow_right (by omega) ?_)
  rw [List.length_take]; omega
theorem field_at (A R : List UInt8) (i k n : Nat) (h : A.length = i) : fieldN (A ++ (leB k n ++ R)) i k = n % 256 ^ k := by
  unfold fieldN
  rw [List.drop_left' h, List.take_left' (leB_len _ _), ← leB_mod]
  exact ofLE_leB _ _ (Nat.mod_lt _ (Nat.pow_pos (by omega)))
theorem getR_wf (t : List UInt8) : (getR t).wf := by
  have h8 := fieldN_lt t 8 8
  have h1 := fieldN_lt t 16 4
  have h2 := fieldN_lt t 20 4
  have h3 := fieldN_lt t 24 4
  have h4 := fieldN_lt t 28 4
  refine ⟨?_, ?_, ?_, ?_, ?_⟩ <;> (unfold getR; simp only; omega)
theorem getR_wfR (t : List UInt8) : wfR (getR t).runs := by
  intro r hr
  obtain ⟨i, _, rfl⟩ := List.mem_map.1 hr
  have h1 := fieldN_lt t (36 + 4 * i) 2
  have h2 := fieldN_lt t (38 + 4 * i) 2
  unfold getRun
  simp only
  omega
theorem getR_len (t : List UInt8) : (getR t).runs.length ≤ 16 := by
  unfold getR
  simp only [List.length_map, List.length_range]
  omega

/-- Of one that may be, its sector says it. -/
theorem getR_putS {s : Sb} (h : maySP s) (hw : s.wf) : getR (putS s) = s := by
  obtain ⟨T, hT⟩ : ∃ T, T = List.replicate (124 - (headS s).length) 0 ++ leB 4 (moreN 0 (bodyS s)) := ⟨_, rfl⟩
  have hp : putS s = headS s ++ T := by
    rw [hT]
    unfold putS bodyS fillL
    rw [List.append_assoc]
  have hseq := hw.seq
  have hsec := h.sec
  have hjou := h.jou
  have huse := h.use
  have hsiz := h.siz
  have hlen := h.len
  have e8 : magicB.length = 8 := rfl
  have f0 : fieldN (putS s) 8 8 = s.seq := by
    rw [hp, show headS s ++ T = magicB ++ (leB 8 s.seq ++ ((leB 4 s.sec.toNat ++ (leB 4 s.jou.toNat ++ (leB 4 s.use.toNat ++ (leB 4 s.siz.toNat ++ (leB 4 s.runs.length ++ runsB s.runs))))) ++ T)) by unfold headS; simp only [List.append_assoc], field_at _ _ _ _ _ e8]
    omega
  have f1 : fieldN (putS s) 16 4 = s.sec.toNat := by
    rw [hp, show headS s ++ T = (magicB ++ leB 8 s.seq) ++ (leB 4 s.sec.toNat ++ ((leB 4 s.jou.toNat ++ (leB 4 s.use.toNat ++ (leB 4 s.siz.toNat ++ (leB 4 s.runs.length ++ runsB s.runs)))) ++ T)) by unfold headS; simp only [List.append_assoc], field_at _ _ _ _ _ (by simp only [List.length_append, leB_len, e8])]
    omega
  have f2 : fieldN (putS s) 20 4 = s.jou.toNat := by
    rw [hp, show headS s ++ T = (magicB ++ (leB 8 s.seq ++ leB 4 s.sec.toNat)) ++ (leB 4 s.jou.toNat ++ ((leB 4 s.use.toNat ++ (leB 4 s.siz.toNat ++ (leB 4 s.runs.length ++ runsB s.runs))) ++ T)) by unfold headS; simp only [List.append_assoc], field_at _ _ _ _ _ (by simp only [List.length_append, leB_len, e8])]
    omega
  have f3 : fieldN (putS s) 24 4 = s.use.toNat := by
    rw [hp, show headS s ++ T = (magicB ++ (leB 8 s.seq ++ (leB 4 s.sec.toNat ++ leB 4 s.jou.toNat))) ++ (leB 4 s.use.toNat ++ ((leB 4 s.siz.toNat ++ (leB 4 s.runs.length ++ runsB s.runs)) ++ T)) by unfold headS; simp only [List.append_assoc], field_at _ _ _ _ _ (by simp only [List.length_append, leB_len, e8])]
    omega
  have f4 : fieldN (putS s) 28 4 = s.siz.toNat := by
    rw [hp, show headS s ++ T = (magicB ++ (leB 8 s.seq ++ (leB 4 s.sec.toNat ++ (leB 4 s.jou.toNat ++ leB 4 s.use.toNat)))) ++ (leB 4 s.siz.toNat ++ ((leB 4 s.runs.length ++ runsB s.runs) ++ T)) by unfold headS; simp only [List.append_assoc], field_at _ _ _ _ _ (by simp only [List.length_append, leB_len, e8])]
    omega
  have f5 : fieldN (putS s) 32 2 = s.runs.length := by
    have e4 : leB 4 s.runs.length = leB 2 s.runs.length ++ leB 2 0 := by
      show [_, _, _, _] = [_, _] ++ [_, _]
      simp only [List.cons_append, List.nil_append, List.cons.injEq, and_true, true_and]
      have : s.runs.length / 256 / 256 = 0 := by omega
      rw [this]
      exact ⟨rfl, rfl⟩
    rw [hp, show headS s ++ T = (magicB ++ (leB 8 s.seq ++ (leB 4 s.sec.toNat ++ (leB 4 s.jou.toNat ++ (leB 4 s.use.toNat ++ leB 4 s.siz.toNat))))) ++ (leB 2 s.runs.length ++ (leB 2 0 ++ (runsB s.runs ++ T))) by unfold headS; rw [e4]; simp only [List.append_assoc], field_at _ _ _ _ _ (by simp only [List.length_append, leB_len, e8])]
    omega
  have fr : ∀ i (hi : i < s.runs.length), getRun (putS s) i = s.runs[i] := by
    intro i hi
    have hv := (h.runs i hi).1
    have hd : s.runs.getD i (0, 0) = s.runs[i] := by rw [List.getD_eq_getElem?_getD, List.getElem?_eq_getElem hi]; rfl
    rw [hd] at hv
    unfold fitR at hv
    have hsp : runsB s.runs = runsB (s.runs.take i) ++ (leB 2 s.runs[i].1.toNat ++ (leB 2 s.runs[i].2.toNat ++ runsB (s.runs.drop (i + 1)))) := by
      have := List.take_append_drop i s.runs
      rw [List.drop_eq_getElem_cons hi] at this
      conv => lhs; rw [← this]
      unfold runsB
      rw [List.flatMap_append, List.flatMap_cons]
      unfold runB
      simp only [List.append_assoc]
    have hl : (runsB (s.runs.take i)).length = 4 * i := by rw [runsB_len, List.length_take]; omega
    have g1 : fieldN (putS s) (36 + 4 * i) 2 = s.runs[i].1.toNat := by
      rw [hp, show headS s ++ T = (magicB ++ (leB 8 s.seq ++ (leB 4 s.sec.toNat ++ (leB 4 s.jou.toNat ++ (leB 4 s.use.toNat ++ (leB 4 s.siz.toNat ++ (leB 4 s.runs.length ++ runsB (s.runs.take i)))))))) ++ (leB 2 s.runs[i].1.toNat ++ ((leB 2 s.runs[i].2.toNat ++ runsB (s.runs.drop (i + 1))) ++ T)) by unfold headS; rw [hsp]; simp only [List.append_assoc], field_at _ _ _ _ _ (by simp only [List.length_append, leB_len, e8, hl]; omega)]
      omega
    have g2 : fieldN (putS s) (38 + 4 * i) 2 = s.runs[i].2.toNat := by
      rw [hp, show headS s ++ T = (magicB ++ (leB 8 s.seq ++ (leB 4 s.sec.toNat ++ (leB 4 s.jou.toNat ++ (leB 4 s.use.toNat ++ (leB 4 s.siz.toNat ++ (leB 4 s.runs.length ++ (runsB (s.runs.take i) ++ leB 2 s.runs[i].1.toNat)))))))) ++ (leB 2 s.runs[i].2.toNat ++ (runsB (s.runs.drop (i + 1)) ++ T)) by unfold headS; rw [hsp]; simp only [List.append_assoc], field_at _ _ _ _ _ (by simp only [List.length_append, leB_len, e8, hl]; omega)]
      omega
    unfold getRun
    rw [g1, g2]
    exact Prod.ext (by show ((s.runs[i].1.toNat : Nat) : Int) = _; omega) (by show ((s.runs[i].2.toNat : Nat) : Int) = _; omega)
  refine (Sb.ext_iff' _ _).2 ⟨f0, by show ((fieldN (putS s) 16 4 : Nat) : Int) = _; omega, by show ((fieldN (putS s) 20 4 : Nat) : Int) = _; omega, by show ((fieldN (putS s) 24 4 : Nat) : Int) = _; omega, by show ((fieldN (putS s) 28 4 : Nat) : Int) = _; omega, ?_⟩
  show (List.range (min (fieldN (putS s) 32 2) 16)).map (getRun (putS s)) = s.runs
  rw [f5, show min s.runs.length 16 = s.runs.length by omega]
  refine List.ext_getElem (by simp) fun i h1 h2 => ?_
  rw [List.getElem_map, List.getElem_range]
  exact fr i h2

theorem getS_putS {s : Sb} (h : maySP s) (hw : s.wf) : getS (putS s) = some s := by
  unfold getS
  rw [getR_putS h hw, if_pos ⟨putS_len s h.len, h, rfl⟩]
theorem getS_some {t : List UInt8} {s : Sb} (h : getS t = some s) : t.length = 128 ∧ maySP s ∧ s.wf ∧ wfR s.runs ∧ putS s = t := by
  unfold getS at h
  split at h
  · next hc =>
    have e := Option.some.inj h
    subst e
    exact ⟨hc.1, hc.2.1, getR_wf t, getR_wfR t, hc.2.2⟩
  · cases h
theorem getD_wf (t : List UInt8) : (getD t).wf ∧ wfR (getD t).runs ∧ (getD t).runs.length ≤ 16 := by
  unfold getD
  cases e : getS t with
  | none => exact ⟨Sb.zero_wf, wfR_nil, Nat.zero_le _⟩
  | some s => have h := getS_some e; exact ⟨h.2.2.1, h.2.2.2.1, h.2.1.len⟩

/-- Which of two sectors counts. -/
def pickS (a b : List UInt8) : Option Sb :=
  if (getS b).isSome ∧ (getD b).seq % 2 = 1 ∧ ¬ (((getS a).isSome ∧ (getD a).seq % 2 = 0) ∧ (getD b).seq < (getD a).seq) then getS b
  else if (getS a).isSome ∧ (getD a).seq % 2 = 0 then getS a else none
def pickD (a b : List UInt8) : Sb := (pickS a b).getD Sb.zero
def pickE (a b : List UInt8) : Int := if (pickS a b).isSome then 0 else 110
theorem pickS_or (a b : List UInt8) : pickS a b = none ∨ (pickS a b = getS a ∧ (getS a).isSome) ∨ (pickS a b = getS b ∧ (getS b).isSome) := by
  unfold pickS
  split
  · next h => exact Or.inr (Or.inr ⟨rfl, h.1⟩)
  · split
    · next h => exact Or.inr (Or.inl ⟨rfl, h.1⟩)
    · exact Or.inl rfl
theorem pickD_wf (a b : List UInt8) : (pickD a b).wf ∧ wfR (pickD a b).runs ∧ (pickD a b).runs.length ≤ 16 := by
  unfold pickD
  rcases pickS_or a b with h | ⟨h, _⟩ | ⟨h, _⟩
  · rw [h]; exact ⟨Sb.zero_wf, wfR_nil, Nat.zero_le _⟩
  · rw [h]; exact getD_wf a
  · rw [h]; exact getD_wf b

def nextS (s : Sb) : Sb := { s with seq := (s.seq + 1) % 2 ^ 64 }
theorem nextS_wf {s : Sb} (h : s.wf) : (nextS s).wf := ⟨Nat.mod_lt _ (by decide), h.sec, h.jou, h.use, h.siz⟩

/-- The next one counts. -/
theorem pick_newer {x y : Sb} (hx : maySP x) (wx : x.wf) (hy : maySP y) (wy : y.wf) (h : y.seq = x.seq + 1) :
    pickS (if x.seq % 2 = 1 then putS y else putS x) (if x.seq % 2 = 1 then putS x else putS y) = some y := by
  have gx := getS_putS hx wx
  have gy := getS_putS hy wy
  by_cases hp : x.seq % 2 = 1
  · rw [if_pos hp, if_pos hp]
    unfold pickS getD
    rw [gx, gy]
    simp only [Option.isSome_some, Option.getD_some, true_and]
    rw [if_neg (by omega), if_pos (by omega)]
  · rw [if_neg hp, if_neg hp]
    unfold pickS getD
    rw [gx, gy]
    simp only [Option.isSome_some, Option.getD_some, true_and]
    rw [if_pos (by omega)]
/-- Where the other sector is no superblock's, the one counts. -/
theorem pick_alone {x : Sb} {t : List UInt8} (hx : maySP x) (wx : x.wf) (ht : getS t = none) :
    pickS (if x.seq % 2 = 1 then t else putS x) (if x.seq % 2 = 1 then putS x else t) = some x := by
  have gx := getS_putS hx wx
  by_cases hp : x.seq % 2 = 1
  · rw [if_pos hp, if_pos hp]
    unfold pickS getD
    rw [gx, ht]
    simp only [Option.isSome_some, Option.getD_some, true_and, Option.isSome_none]
    rw [if_pos (by refine ⟨hp, by simp⟩)]
  · rw [if_neg hp, if_neg hp]
    unfold pickS getD
    rw [gx, ht]
    simp only [Option.isSome_some, Option.getD_some, true_and, Option.isSome_none]
    rw [if_neg (by simp), if_pos (by omega)]

end Go.Proofs.YtoigembmbajopaaDoor
namespace Go.Proofs.YtoigembmbajopaaDoor

/-- A record. -/
structure Rc where
  kind : Int
  id : Nat
  name : List UInt8
  size : Int
  runs : List (Int × Int)
theorem Rc.ext_iff' (a b : Rc) : a = b ↔ a.kind = b.kind ∧ a.id = b.id ∧ a.name = b.name ∧ a.size = b.size ∧ a.runs = b.runs := by
  cases a; cases b; simp
instance : DecidableEq Rc := fun a b => decidable_of_iff _ (Rc.ext_iff' a b).symm

def idK (k : Int) : Bool := k == 1 || (k == 2 || (k == 4 || k == 5))
def nameK (k : Int) : Bool := k == 3 || k == 6
def blobK (k : Int) : Bool := k == 1 || (k == 2 || k == 3)
/-- Which records may be. -/
def mayR (r : Rc) : Prop := (idK r.kind = true ∨ nameK r.kind = true) ∧ (idK r.kind = true ↔ 1 ≤ r.id) ∧ r.id ≤ 4294967294 ∧ (nameK r.kind = true ↔ 1 ≤ r.name.length) ∧ r.name.length ≤ 48 ∧
  ((blobK r.kind = true ∧ (0 ≤ r.size ∧ r.size ≤ 1048576) ∧ r.runs.length ≤ 16 ∧ validL 0 8192 r.runs ∧ sumR r.runs = needN r.size) ∨ (blobK r.kind = false ∧ r.size = 0 ∧ r.runs.length = 0))
instance (r : Rc) : Decidable (mayR r) := by unfold mayR; infer_instance

theorem idK_iff (k : Int) : idK k = true ↔ k = 1 ∨ k = 2 ∨ k = 4 ∨ k = 5 := by unfold idK; simp
theorem nameK_iff (k : Int) : nameK k = true ↔ k = 3 ∨ k = 6 := by unfold nameK; simp
theorem blobK_iff (k : Int) : blobK k = true ↔ k = 1 ∨ k = 2 ∨ k = 3 := by unfold blobK; simp
theorem mayR_kind {r : Rc} (h : mayR r) : 1 ≤ r.kind ∧ r.kind ≤ 6 := by
  rcases h.1 with h | h
  · rw [idK_iff] at h; omega
  · rw [nameK_iff] at h; omega
theorem id_or_name {k : Int} (h : idK k = true) : nameK k = false := by
  rw [idK_iff] at h
  cases e : nameK k with
  | false => rfl
  | true => rw [nameK_iff] at e; omega

/-! ### The bytes -/
def recB (r : Rc) : List UInt8 := leB 1 r.kind.toNat ++ ((if idK r.kind = true then leB 4 r.id else textB (str r.name)) ++ (if blobK r.kind = true then leB 4 r.size.toNat ++ (leB 2 r.runs.length ++ runsB r.runs) else []))
def txP (l : List Rc) : List UInt8 := leB 2 l.length ++ l.flatMap recB
def txB (l : List Rc) : List UInt8 := leB 4 (txP l).length ++ (leB 4 (moreN 0 (txP l)) ++ txP l)
def txsB (L : List (List Rc)) : List UInt8 := L.flatMap txB
def okTx (l : List Rc) : Prop := (1 ≤ l.length ∧ l.length ≤ 8192) ∧ ∀ r ∈ l, mayR r
/-- These are the bytes of those transactions. -/
def JRd (t : List UInt8) (L : List (List Rc)) : Prop := t = txsB L ∧ ∀ l ∈ L, okTx l

theorem moreN_lt (l : List UInt8) : moreN 0 l < 256 ^ 4 := Nat.lt_of_le_of_lt (Nat.sub_le _ _) (by decide)
theorem recB_len {r : Rc} (h : mayR r) : (recB r).length ≤ 200 := by
  unfold recB
  have h1 := h.2.2.2.2.1
  rw [List.length_append, List.length_append, leB_len]
  have e1 : (if idK r.kind = true then leB 4 r.id else textB (str r.name)).length ≤ 52 := by
    split
    · rw [leB_len]; omega
    · rw [textB_len, str_size]; omega
  have e2 : (if blobK r.kind = true then leB 4 r.size.toNat ++ (leB 2 r.runs.length ++ runsB r.runs) else []).length ≤ 70 := by
    split
    · rename_i hb
      rcases h.2.2.2.2.2 with hc | hc
      · rw [List.length_append, List.length_append, leB_len, leB_len, runsB_len]
        have := hc.2.2.1
        omega
      · rw [hc.1] at hb; cases hb
    · simp
  omega
theorem recsB_len : ∀ (l : List Rc), (∀ r ∈ l, mayR r) → (l.flatMap recB).length ≤ 200 * l.length
  | [], _ => Nat.le_refl _
  | r :: l, h => by
    have h1 := recB_len (h r (List.mem_cons_self ..))
    have h2 := recsB_len l (fun s hs => h s (List.mem_cons_of_mem _ hs))
    rw [List.flatMap_cons, List.length_append, List.length_cons]
    omega
theorem txP_len {l : List Rc} (h : okTx l) : (txP l).length ≤ 1638402 := by
  unfold txP
  rw [List.length_append, leB_len]
  have := recsB_len l h.2
  have := h.1.2
  omega

/-! ### Read by a reader -/
def runsR : Nat → RdSt → List (Int × Int) → List (Int × Int) × RdSt
  | 0, s, acc => (acc, s)
  | k + 1, s, acc => if s.2 ≠ 0 then (acc, s) else runsR k (numR (numR s 2).2 2).2 (acc ++ [(((numR s 2).1 : Int), ((numR (numR s 2).2 2).1 : Int))])
def oneI (s : RdSt) : Nat × RdSt := if idK ((numR s 1).1 : Nat) = true then numR (numR s 1).2 4 else (0, (numR s 1).2)
def oneN (s : RdSt) : List UInt8 × RdSt := if nameK ((numR s 1).1 : Nat) = true then textR (oneI s).2 else ([], (oneI s).2)
def oneB (k : Int) (s : RdSt) : (Int × List (Int × Int)) × RdSt := if blobK k = true then (((numR s 4).1, (runsR (numR (numR s 4).2 2).1 (numR (numR s 4).2 2).2 []).1), (runsR (numR (numR s 4).2 2).1 (numR (numR s 4).2 2).2 []).2) else ((0, []), s)
def oneR (s : RdSt) : Rc × RdSt := (⟨(numR s 1).1, (oneI s).1, (oneN s).1, (oneB (numR s 1).1 (oneN s).2).1.1, (oneB (numR s 1).1 (oneN s).2).1.2⟩, (oneB (numR s 1).1 (oneN s).2).2)
def recsR : Nat → RdSt → List Rc → Option (List Rc × RdSt)
  | 0, s, acc => some (acc, s)
  | k + 1, s, acc => if s.2 ≠ 0 then some (acc, s) else if mayR (oneR s).1 then recsR k (oneR s).2 (acc ++ [(oneR s).1]) else none
def shutR (s : RdSt) : Int := if s.2 = 0 ∧ s.1 ≠ [] then 7 else s.2
def recordsR (t : List UInt8) : Option (List Rc) :=
  match recsR (numR (t, 0) 2).1 (numR (t, 0) 2).2 [] with
  | none => none
  | some (l, s) => if shutR s = 0 ∧ 1 ≤ (numR (t, 0) 2).1 ∧ (numR (t, 0) 2).1 ≤ 8192 then some l else none

theorem runsR_app : ∀ (l : List (Int × Int)) (acc : List (Int × Int)) (R : List UInt8), (∀ r ∈ l, (0 ≤ r.1 ∧ r.1 < 65536) ∧ 0 ≤ r.2 ∧ r.2 < 65536) → runsR l.length (runsB l ++ R, 0) acc = (acc ++ l, (R, 0))
  | [], acc, R, _ => by simp [runsR, runsB]
  | r :: l, acc, R, h => by
    have hr := h r (List.mem_cons_self ..)
    have e : runsB (r :: l) ++ R = leB 2 r.1.toNat ++ (leB 2 r.2.toNat ++ (runsB l ++ R)) := by
      unfold runsB
      rw [List.flatMap_cons]
      unfold runB
      simp only [List.append_assoc]
    show (if (0 : Int) ≠ 0 then _ else _) = _
    rw [if_neg (by decide), e, numR_app, numR_app]
    have e1 : ((r.1.toNat % 256 ^ 2 : Nat) : Int) = r.1 := by omega
    have e2 : ((r.2.toNat % 256 ^ 2 : Nat) : Int) = r.2 := by omega
    simp only
    rw [e1, e2, runsR_app l _ R (fun s hs => h s (List.mem_cons_of_mem _ hs)), List.append_assoc]
    rfl
theorem runsR_ok : ∀ (k : Nat) (s : RdSt) (acc out : List (Int × Int)) (R : List UInt8), runsR k s acc = (out, (R, 0)) → s.2 = 0 ∧ ∃ l, out = acc ++ l ∧ l.length = k ∧ s.1 = runsB l ++ R
  | 0, s, acc, out, R, h => by
    have h1 := Prod.mk.inj h
    rw [h1.2]
    exact ⟨rfl, [], by rw [List.append_nil]; exact h1.1.symm, rfl, rfl⟩
  | k + 1, s, acc, out, R, h => by
    unfold runsR at h
    by_cases he : s.2 ≠ 0
    · rw [if_pos he] at h
      have := (Prod.mk.inj h).2
      rw [this] at he
      exact absurd rfl he
    · rw [if_neg he] at h
      obtain ⟨e1, l, e2, e3, e4⟩ := runsR_ok k _ _ _ _ h
      obtain ⟨a, sa⟩ : ∃ a, a = numR s 2 := ⟨_, rfl⟩
      obtain ⟨b, sb⟩ : ∃ b, b = numR (numR s 2).2 2 := ⟨_, rfl⟩
      rw [← sb] at e1 e4
      have hb : numR (numR s 2).2 2 = (b.1, (b.2.1, 0)) := by rw [← sb, ← e1]
      obtain ⟨f1, f2⟩ := numR_ok hb
      have ha : numR s 2 = (a.1, (a.2.1, 0)) := by rw [← sa] at f1 ⊢; rw [← f1]
      obtain ⟨g1, g2⟩ := numR_ok ha
      refine ⟨g1, ((a.1 : Int), (b.1 : Int)) :: l, ?_, by rw [List.length_cons, e3], ?_⟩
      · rw [e2, ← sb, ← sa, List.append_assoc]; rfl
      · rw [← sa] at f2
        rw [g2, f2, e4]
        unfold runsB
        rw [List.flatMap_cons]
        unfold runB
        simp only [Int.toNat_natCast, List.append_assoc]

theorem valid_small {l : List (Int × Int)} (h : validL 0 8192 l) : ∀ r ∈ l, (0 ≤ r.1 ∧ r.1 < 65536) ∧ 0 ≤ r.2 ∧ r.2 < 65536 := by
  intro r hr
  obtain ⟨i, hi, rfl⟩ := List.mem_iff_getElem.1 hr
  have hv := (h i hi).1
  have hd : l.getD i (0, 0) = l[i] := by rw [List.getD_eq_getElem?_getD, List.getElem?_eq_getElem hi]; rfl
  rw [hd] at hv
  unfold fitR at hv
  omega
theorem oneR_app {r : Rc} (h : mayR r) (R : List UInt8) : oneR (recB r ++ R, 0) = (r, (R, 0)) := by
  have hk := mayR_kind h
  obtain ⟨B, hB⟩ : ∃ B, B = (if blobK r.kind = true then leB 4 r.size.toNat ++ (leB 2 r.runs.length ++ runsB r.runs) else []) := ⟨_, rfl⟩
  obtain ⟨A, hA⟩ : ∃ A, A = (if idK r.kind = true then leB 4 r.id else textB (str r.name)) := ⟨_, rfl⟩
  have e : recB r ++ R = leB 1 r.kind.toNat ++ (A ++ (B ++ R)) := by rw [hA, hB]; unfold recB; simp only [List.append_assoc]
  have n1 : numR (recB r ++ R, 0) 1 = (r.kind.toNat, (A ++ (B ++ R), 0)) := by
    rw [e, numR_app]
    have : r.kind.toNat % 256 ^ 1 = r.kind.toNat := by omega
    rw [this]
  have ek : ((r.kind.toNat : Nat) : Int) = r.kind := by omega
  have hI : oneI (recB r ++ R, 0) = (r.id, (if idK r.kind = true then B ++ R else A ++ (B ++ R), 0)) := by
    unfold oneI
    rw [n1]
    simp only [ek]
    cases hi : idK r.kind with
    | true =>
      rw [if_pos rfl, if_pos rfl, hA, if_pos hi, numR_app]
      have : r.id % 256 ^ 4 = r.id := by have := h.2.2.1; omega
      rw [this]
    | false =>
      rw [if_neg (by decide), if_neg (by decide)]
      have : r.id = 0 := by
        have := h.2.1
        rw [hi] at this
        simp at this
        omega
      rw [this]
  have hN : oneN (recB r ++ R, 0) = (r.name, (B ++ R, 0)) := by
    unfold oneN
    rw [n1, hI]
    simp only [ek]
    cases hn : nameK r.kind with
    | true =>
      have hi : idK r.kind = false := by
        cases hi : idK r.kind with
        | false => rfl
        | true => rw [id_or_name hi] at hn; cases hn
      rw [if_pos rfl, hi, if_neg (by decide), hA, hi, if_neg (by decide), textR_app _ _ (by rw [str_size]; have := h.2.2.2.2.1; omega), str_list]
    | false =>
      have hi : idK r.kind = true := by
        rcases h.1 with x | x
        · exact x
        · rw [hn] at x; cases x
      rw [if_neg (by decide), if_pos hi]
      have : r.name = [] := by
        have := h.2.2.2.1
        rw [hn] at this
        simp at this
        exact this
      rw [this]
  have hO : oneB r.kind (B ++ R, 0) = ((r.size, r.runs), (R, 0)) := by
    unfold oneB
    rcases h.2.2.2.2.2 with hc | hc
    · rw [if_pos hc.1, hB, if_pos hc.1, List.append_assoc, List.append_assoc, numR_app]
      simp only
      rw [numR_app]
      have e1 : r.runs.length % 256 ^ 2 = r.runs.length := by have := hc.2.2.1; omega
      have e2 : ((r.size.toNat % 256 ^ 4 : Nat) : Int) = r.size := by have := hc.2.1; omega
      simp only
      rw [e1, e2, runsR_app r.runs [] R (valid_small hc.2.2.2.1)]
      rfl
    · rw [if_neg (by rw [hc.1]; decide), hB, if_neg (by rw [hc.1]; decide)]
      rw [hc.2.1, List.eq_nil_of_length_eq_zero hc.2.2]
      rfl
  unfold oneR
  rw [n1, hN]
  simp only [ek]
  rw [hO, hI]
theorem oneR_ok {s : RdSt} {x : Rc} {R : List UInt8} (h : oneR s = (x, (R, 0))) (hx : mayR x) : s.2 = 0 ∧ s.1 = recB x ++ R := by
  unfold oneR at h
  obtain ⟨h1, h2⟩ := Prod.mk.inj h
  obtain ⟨k, hk⟩ : ∃ k, k = numR s 1 := ⟨_, rfl⟩
  have kx : x.kind = (k.1 : Nat) := by rw [← h1, hk]
  have ix : x.id = (oneI s).1 := by rw [← h1]
  have nx : x.name = (oneN s).1 := by rw [← h1]
  have zx : x.size = (oneB (k.1 : Nat) (oneN s).2).1.1 := by rw [← h1, hk]
  have rx : x.runs = (oneB (k.1 : Nat) (oneN s).2).1.2 := by rw [← h1, hk]
  rw [← hk] at h2
  rw [← kx] at zx rx h2
  -- what is behind the name
  have hB : (oneN s).2.2 = 0 ∧ (oneN s).2.1 = (if blobK x.kind = true then leB 4 x.size.toNat ++ (leB 2 x.runs.length ++ runsB x.runs) else []) ++ R := by
    unfold oneB at h2 zx rx
    cases hb : blobK x.kind with
    | false =>
      rw [hb, if_neg (by decide)] at h2
      rw [if_neg (by decide), h2]
      exact ⟨rfl, rfl⟩
    | true =>
      rw [hb, if_pos rfl] at h2 zx rx
      rw [if_pos rfl]
      obtain ⟨a, ha⟩ : ∃ a, a = numR (oneN s).2 4 := ⟨_, rfl⟩
      obtain ⟨b, hb2⟩ : ∃ b, b = numR a.2 2 := ⟨_, rfl⟩
      rw [← ha, ← hb2] at h2 rx
      rw [← ha] at zx
      have hr : runsR b.1 b.2 [] = (x.runs, (R, 0)) := Prod.ext rx.symm h2
      obtain ⟨e1, l, e2, e3, e4⟩ := runsR_ok _ _ _ _ _ hr
      rw [List.nil_append] at e2
      have hbb : numR a.2 2 = (b.1, (b.2.1, 0)) := by rw [← hb2, ← e1]
      obtain ⟨f1, f2⟩ := numR_ok hbb
      have haa : numR (oneN s).2 4 = (a.1, (a.2.1, 0)) := by rw [← ha, ← f1]
      obtain ⟨g1, g2⟩ := numR_ok haa
      refine ⟨g1, ?_⟩
      rw [g2, f2, e4, zx, Int.toNat_natCast, e2, e3]
      simp only [List.append_assoc]
  have hN : (oneI s).2.2 = 0 ∧ (oneI s).2.1 = (if nameK x.kind = true then textB (str x.name) else []) ++ (oneN s).2.1 := by
    unfold oneN at hB nx ⊢
    rw [← hk, ← kx] at hB nx ⊢
    cases hn : nameK x.kind with
    | false =>
      rw [hn, if_neg (by decide)] at hB
      rw [if_neg (by decide), if_neg (by decide)]
      exact ⟨hB.1, rfl⟩
    | true =>
      rw [hn, if_pos rfl] at hB nx
      rw [if_pos rfl, if_pos rfl]
      have ht : textR (oneI s).2 = (x.name, ((textR (oneI s).2).2.1, 0)) := Prod.ext nx.symm (Prod.ext rfl hB.1)
      exact textR_ok ht
  have hI : k.2.2 = 0 ∧ k.2.1 = (if idK x.kind = true then leB 4 x.id else []) ++ (oneI s).2.1 := by
    unfold oneI at hN ix ⊢
    rw [← hk, ← kx] at hN ix ⊢
    cases hi : idK x.kind with
    | false =>
      rw [hi, if_neg (by decide)] at hN
      rw [if_neg (by decide), if_neg (by decide)]
      exact ⟨hN.1, rfl⟩
    | true =>
      rw [hi, if_pos rfl] at hN ix
      rw [if_pos rfl, if_pos rfl]
      have ht : numR k.2 4 = (x.id, ((numR k.2 4).2.1, 0)) := Prod.ext ix.symm (Prod.ext rfl hN.1)
      exact numR_ok ht
  have hK : numR s 1 = (k.1, (k.2.1, 0)) := by rw [← hk, ← hI.1]
  obtain ⟨g1, g2⟩ := numR_ok hK
  refine ⟨g1, ?_⟩
  rw [g2, hI.2, hN.2, hB.2]
  unfold recB
  rw [kx, Int.toNat_natCast, ← kx]
  cases hi : idK x.kind with
  | true =>
    rw [id_or_name hi, if_pos rfl, if_pos rfl, if_neg (by decide), List.nil_append]
    simp only [List.append_assoc]
  | false =>
    have hn : nameK x.kind = true := by
      rcases hx.1 with y | y
      · rw [hi] at y; cases y
      · exact y
    rw [hn]
    simp

theorem recsR_app : ∀ (l : List Rc) (acc : List Rc) (R : List UInt8), (∀ r ∈ l, mayR r) → recsR l.length (l.flatMap recB ++ R, 0) acc = some (acc ++ l, (R, 0))
  | [], acc, R, _ => by simp [recsR]
  | r :: l, acc, R, h => by
    show (if (0 : Int) ≠ 0 then _ else _) = _
    rw [if_neg (by decide), List.flatMap_cons, List.append_assoc, oneR_app (h r (List.mem_cons_self ..))]
    simp only
    rw [if_pos (h r (List.mem_cons_self ..)), recsR_app l _ R (fun s hs => h s (List.mem_cons_of_mem _ hs)), List.append_assoc]
    rfl
theorem recsR_ok : ∀ (k : Nat) (s : RdSt) (acc out : List Rc) (R : List UInt8), recsR k s acc = some (out, (R, 0)) → s.2 = 0 ∧ ∃ l, out = acc ++ l ∧ l.length = k ∧ s.1 = l.flatMap recB ++ R ∧ ∀ r ∈ l, mayR r
  | 0, s, acc, out, R, h => by
    have h1 := Prod.mk.inj (Option.some.inj h)
    rw [h1.2]
    exact ⟨rfl, [], by rw [List.append_nil]; exact h1.1.symm, rfl, rfl, fun r hr => by cases hr⟩
  | k + 1, s, acc, out, R, h => by
    unfold recsR at h
    by_cases he : s.2 ≠ 0
    · rw [if_pos he] at h
      have := (Prod.mk.inj (Option.some.inj h)).2
      rw [this] at he
      exact absurd rfl he
    · rw [if_neg he] at h
      by_cases hm : mayR (oneR s).1
      · rw [if_pos hm] at h
        obtain ⟨e1, l, e2, e3, e4, e5⟩ := recsR_ok k _ _ _ _ h
        obtain ⟨o, ho⟩ : ∃ o, o = oneR s := ⟨_, rfl⟩
        rw [← ho] at e1 e2 e4 hm
        have hoo : oneR s = (o.1, (o.2.1, 0)) := by rw [← ho, ← e1]
        obtain ⟨f1, f2⟩ := oneR_ok hoo hm
        refine ⟨f1, o.1 :: l, by rw [e2, List.append_assoc]; rfl, by rw [List.length_cons, e3], by rw [f2, e4, List.flatMap_cons, List.append_assoc], fun r hr => ?_⟩
        rcases List.mem_cons.1 hr with rfl | hr
        · exact hm
        · exact e5 r hr
      · rw [if_neg hm] at h; cases h
theorem recordsR_iff (t : List UInt8) (l : List Rc) : recordsR t = some l ↔ t = txP l ∧ okTx l := by
  constructor
  · intro h
    unfold recordsR at h
    cases hc : recsR (numR (t, 0) 2).1 (numR (t, 0) 2).2 [] with
    | none => rw [hc] at h; cases h
    | some p =>
      obtain ⟨m, s⟩ := p
      rw [hc] at h
      simp only at h
      by_cases hs : shutR s = 0 ∧ 1 ≤ (numR (t, 0) 2).1 ∧ (numR (t, 0) 2).1 ≤ 8192
      · rw [if_pos hs] at h
        obtain rfl := Option.some.inj h
        have hs0 : s = ([], 0) := by
          have := hs.1
          unfold shutR at this
          split at this
          · cases this
          · next hn =>
            have h2 : s.1 = [] := Classical.byContradiction fun y => hn ⟨this, y⟩
            exact Prod.ext h2 this
        rw [hs0] at hc
        obtain ⟨e1, l, e2, e3, e4, e5⟩ := recsR_ok _ _ _ _ _ hc
        rw [List.nil_append] at e2
        subst e2
        have hn : numR (t, 0) 2 = ((numR (t, 0) 2).1, ((numR (t, 0) 2).2.1, 0)) := Prod.ext rfl (Prod.ext rfl e1)
        obtain ⟨_, f2⟩ := numR_ok hn
        refine ⟨?_, ⟨by rw [e3]; exact hs.2, e5⟩⟩
        have f2' : t = leB 2 (numR (t, 0) 2).1 ++ (numR (t, 0) 2).2.1 := f2
        rw [e4, ← e3, List.append_nil] at f2'
        exact f2'
      · rw [if_neg hs] at h; cases h
  · rintro ⟨rfl, hl⟩
    unfold recordsR
    have h8 := hl.1
    have e1 : numR (txP l, 0) 2 = (l.length, (l.flatMap recB, 0)) := by
      unfold txP
      rw [numR_app]
      have : l.length % 256 ^ 2 = l.length := by omega
      rw [this]
    have e2 := recsR_app l [] [] hl.2
    rw [List.append_nil] at e2
    rw [e1]
    simp only
    rw [e2]
    simp only [List.nil_append]
    rw [if_pos ⟨rfl, h8⟩]

/-- Transactions, one behind another, of a text of so many bytes. -/
def readG (n : Nat) : Nat → List UInt8 → List (List Rc) → Option (List (List Rc))
  | 0, _, _ => none
  | f + 1, t, acc =>
    if t.length = 0 then some acc
    else if n < (numR (t, 0) 4).1 then none
    else match recordsR (takeR (numR (numR (t, 0) 4).2 4).2 ((numR (t, 0) 4).1 : Nat)).1 with
      | none => none
      | some l => if (takeR (numR (numR (t, 0) 4).2 4).2 ((numR (t, 0) 4).1 : Nat)).2.2 ≠ 0 ∨ (numR (numR (t, 0) 4).2 4).1 ≠ moreN 0 (takeR (numR (numR (t, 0) 4).2 4).2 ((numR (t, 0) 4).1 : Nat)).1 then none
        else readG n f (takeR (numR (numR (t, 0) 4).2 4).2 ((numR (t, 0) 4).1 : Nat)).2.1 (acc ++ [l])
theorem txB_len (l : List Rc) : (txB l).length = 8 + (txP l).length := by
  unfold txB
  rw [List.length_append, List.length_append, leB_len, leB_len]; omega
theorem readG_app (n : Nat) : ∀ (L : List (List Rc)) (f : Nat) (acc : List (List Rc)), (∀ l ∈ L, okTx l) → (txsB L).length ≤ n → L.length < f → readG n f (txsB L) acc = some (acc ++ L)
  | [], f, acc, _, _, hf => by
    obtain ⟨f, rfl⟩ : ∃ g, f = g + 1 := ⟨f - 1, by simp at hf; omega⟩
    unfold readG
    rw [if_pos (show (txsB []).length = 0 from rfl), List.append_nil]
  | l :: L, f, acc, h, hn, hf => by
    obtain ⟨f, rfl⟩ : ∃ g, f = g + 1 := ⟨f - 1, by simp at hf; omega⟩
    have hl := h l (List.mem_cons_self ..)
    have hp := txP_len hl
    have e : txsB (l :: L) = leB 4 (txP l).length ++ (leB 4 (moreN 0 (txP l)) ++ (txP l ++ txsB L)) := by
      unfold txsB
      rw [List.flatMap_cons]
      unfold txB
      simp only [List.append_assoc]
    have e1 : (txP l).length % 256 ^ 4 = (txP l).length := by omega
    have e2 : moreN 0 (txP l) % 256 ^ 4 = moreN 0 (txP l) := Nat.mod_eq_of_lt (moreN_lt _)
    have n1 : numR (txsB (l :: L), 0) 4 = ((txP l).length, (leB 4 (moreN 0 (txP l)) ++ (txP l ++ txsB L), 0)) := by rw [e, numR_app, e1]
    have n2 : numR (leB 4 (moreN 0 (txP l)) ++ (txP l ++ txsB L), 0) 4 = (moreN 0 (txP l), (txP l ++ txsB L, 0)) := by rw [numR_app, e2]
    have n3 : takeR (txP l ++ txsB L, 0) ((txP l).length : Nat) = (txP l, (txsB L, 0)) := takeR_app _ _ _ rfl
    have hz : ¬ (txsB (l :: L)).length = 0 := by rw [e, List.length_append, leB_len]; omega
    have hb : ¬ n < (txP l).length := by
      rw [e] at hn
      simp only [List.length_append, leB_len] at hn
      omega
    have hrec : recordsR (txP l) = some l := (recordsR_iff _ _).2 ⟨rfl, hl⟩
    unfold readG
    rw [if_neg hz, n1]
    simp only
    rw [if_neg hb, n2]
    simp only
    rw [n3]
    simp only
    rw [hrec]
    simp only
    rw [if_neg (by simp), readG_app n L f _ (fun m hm => h m (List.mem_cons_of_mem _ hm)) (by rw [e] at hn; simp only [List.length_append] at hn; omega) (by simp at hf; omega), List.append_assoc]
    rfl
theorem readG_ok (n : Nat) : ∀ (f : Nat) (t : List UInt8) (acc out : List (List Rc)), readG n f t acc = some out → ∃ L, out = acc ++ L ∧ JRd t L
  | 0, _, _, _, h => by cases h
  | f + 1, t, acc, out, h => by
    unfold readG at h
    by_cases hz : t.length = 0
    · rw [if_pos hz] at h
      exact ⟨[], by rw [List.append_nil]; exact (Option.some.inj h).symm, List.eq_nil_of_length_eq_zero hz, fun l hl => by cases hl⟩
    · rw [if_neg hz] at h
      obtain ⟨a, ha⟩ : ∃ a, a = numR (t, 0) 4 := ⟨_, rfl⟩
      obtain ⟨b, hb⟩ : ∃ b, b = numR a.2 4 := ⟨_, rfl⟩
      obtain ⟨x, hx⟩ : ∃ x, x = takeR b.2 (a.1 : Nat) := ⟨_, rfl⟩
      rw [← ha, ← hb, ← hx] at h
      by_cases hn : n < a.1
      · rw [if_pos hn] at h; cases h
      · rw [if_neg hn] at h
        cases hr : recordsR x.1 with
        | none => rw [hr] at h; cases h
        | some l =>
          rw [hr] at h
          simp only at h
          by_cases hc : x.2.2 ≠ 0 ∨ b.1 ≠ moreN 0 x.1
          · rw [if_pos hc] at h; cases h
          · rw [if_neg hc] at h
            have hx0 : x.2.2 = 0 := Classical.byContradiction fun y => hc (Or.inl y)
            have hbm : b.1 = moreN 0 x.1 := Classical.byContradiction fun y => hc (Or.inr y)
            obtain ⟨L, e1, e2, e3⟩ := readG_ok n f _ _ _ h
            have hxx : takeR b.2 (a.1 : Nat) = (x.1, (x.2.1, 0)) := by rw [← hx, ← hx0]
            obtain ⟨g1, _, g2, g3⟩ := takeR_ok hxx
            have hbb : numR a.2 4 = (b.1, (b.2.1, 0)) := by rw [← hb, ← g1]
            obtain ⟨k1, k2⟩ := numR_ok hbb
            have haa : numR (t, 0) 4 = (a.1, (a.2.1, 0)) := by rw [← ha, ← k1]
            obtain ⟨_, m2⟩ := numR_ok haa
            obtain ⟨p1, p2⟩ := (recordsR_iff _ _).1 hr
            refine ⟨l :: L, by rw [e1, List.append_assoc]; rfl, ?_, fun m hm => ?_⟩
            · have m2' : t = leB 4 a.1 ++ a.2.1 := m2
              have hal : a.1 = (txP l).length := by rw [Int.toNat_natCast] at g3; rw [← g3, p1]
              rw [m2', k2, g2, e2, hbm, p1, hal]
              unfold txsB
              rw [List.flatMap_cons]
              unfold txB
              simp only [List.append_assoc]
            · rcases List.mem_cons.1 hm with rfl | hm
              · exact p2
              · exact e3 m hm
theorem txsB_ge : ∀ (L : List (List Rc)), 8 * L.length ≤ (txsB L).length
  | [] => Nat.le_refl _
  | l :: L => by
    have h1 := txsB_ge L
    have e : txsB (l :: L) = txB l ++ txsB L := by unfold txsB; rw [List.flatMap_cons]
    rw [e, List.length_append, txB_len, List.length_cons]
    omega
theorem readG_iff (t : List UInt8) (L : List (List Rc)) : readG t.length (t.length + 1) t [] = some L ↔ JRd t L := by
  constructor
  · intro h
    obtain ⟨M, e1, e2⟩ := readG_ok _ _ _ _ _ h
    rw [List.nil_append] at e1
    rw [e1]; exact e2
  · rintro ⟨e, h⟩
    have := readG_app (txsB L).length L ((txsB L).length + 1) [] h (Nat.le_refl _) (by have := txsB_ge L; omega)
    rw [e]
    exact this
/-- A text is of one row of transactions at most. -/
theorem JRd.one {t : List UInt8} {L M : List (List Rc)} (h : JRd t L) (k : JRd t M) : L = M :=
  Option.some.inj (((readG_iff t L).2 h).symm.trans ((readG_iff t M).2 k))
theorem JRd.tx {l : List Rc} (h : okTx l) : JRd (txB l) [l] := ⟨by unfold txsB; simp, fun m hm => by rw [List.mem_singleton.1 hm]; exact h⟩
theorem JRd.append {s t : List UInt8} {L M : List (List Rc)} (h : JRd s L) (k : JRd t M) : JRd (s ++ t) (L ++ M) := by
  obtain ⟨rfl, h⟩ := h
  obtain ⟨rfl, k⟩ := k
  refine ⟨by unfold txsB; rw [List.flatMap_append], fun l hl => ?_⟩
  rcases List.mem_append.1 hl with x | x
  · exact h l x
  · exact k l x

end Go.Proofs.YtoigembmbajopaaDoor
