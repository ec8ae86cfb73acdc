/- Plain facts on bytes, of no program: a number's bytes, the least first, and what follows of them. -/
import Derived.Lib.Strings
import Derived.Below
import Derived.Laws.AppendOwn
import Derived.Laws.IdiomStrings
import Derived.Lib.Builder
import Derived.Lib.UnsafeStr
import Derived.Lib.AppendStr
import Derived.Laws.BitsAllLaws
import Derived.IntWalk
namespace Go.Proofs.Ytaajadmaamjebaa
open Go.RowKit

/-- The bytes of a number, so many, the least first. -/
def leB : Nat → Nat → List UInt8
  | 0, _ => []
  | k + 1, n => UInt8.ofNat n :: leB k (n / 256)

theorem leB_len : ∀ k n, (leB k n).length = k
  | 0, _ => rfl
  | k + 1, n => by simp [leB, leB_len k]

theorem leB_get : ∀ k n i (h : i < (leB k n).length), (leB k n)[i] = UInt8.ofNat (n / 256 ^ i)
  | 0, _, i, h => by simp [leB] at h
  | k + 1, n, 0, h => by simp [leB]
  | k + 1, n, i + 1, h => by
    simp only [leB, List.getElem_cons_succ]
    rw [leB_get k (n / 256) i]
    rw [Nat.div_div_eq_div_mul, Nat.pow_succ, Nat.mul_comm]

/-- A text of a list of bytes. -/
def str (l : List UInt8) : ByteArray := ⟨l.toArray⟩

theorem str_size (l : List UInt8) : (str l).size = l.length := by simp [str, ByteArray.size]

theorem str_list (l : List UInt8) : (str l).data.toList = l := rfl

theorem str_append (a b : List UInt8) : str a ++ str b = str (a ++ b) := by
  apply ByteArray.ext
  simp [str, ByteArray.data_append]

theorem str_data (s : ByteArray) : str s.data.toList = s := by
  obtain ⟨⟨l⟩⟩ := s
  rfl

theorem byte_div (n i : Nat) : (((n : Int) / 2 ^ (8 * i)) % 256 : Int) = ((UInt8.ofNat (n / 256 ^ i)).toNat : Int) := by
  have e : (2 : Int) ^ (8 * i) = ((256 ^ i : Nat) : Int) := by
    rw [Int.natCast_pow, show ((256 : Nat) : Int) = 2 ^ 8 from rfl, ← Int.pow_mul]
  rw [e, UInt8.toNat_ofNat']
  omega

/-- Behind a call: what was kept up to the call, and what the call kept. -/
theorem Below.then' {B : Nat} {a w w' : World} (h : Below B a w) (hb : Below w.heap.size w w') (hB : B ≤ w.heap.size) : Below B a w' := h.trans (hb.mono hB)

theorem le_drew_alloc (w : World) (o : Obj) : w.heap.size ≤ (w.alloc o).drew.heap.size := by
  show w.heap.size ≤ (w.heap.push o).size
  simp

/-- 'string(b)' of a row of the call's own. -/
theorem conv_bytes {P : Program} (w : World) (src dst e : TypeId) (b n cap : Nat) (l : List UInt8) (hl : l.length = n) (hs : P.underlying src = some (.slice e)) (he : P.underlying e = some (.int .u8)) (hd : P.underlying dst = some .string)
    (hc : ∀ j (hj : j < l.length), w.cell? ⟨b, j, none⟩ = some (.int .u8 (l[j].toNat : Int))) :
    (convert src dst (.slice (some ⟨b, 0, none⟩) n cap)).run P w = .ok (.string (str l)) w := by
  subst hl
  exact run_convert_bytes_back w src dst e ⟨b, 0, none⟩ cap l hs he hd (fun j hj => by
    have e : (⟨b, 0, none⟩ : Addr).add j = ⟨b, j, none⟩ := by unfold Addr.add; split <;> simp_all
    rw [e]; exact hc j hj)

/-- The bytes of a text, of some texts, of a list of texts. -/
def textB (s : ByteArray) : List UInt8 := leB 4 s.size ++ s.data.toList
def textsB (ss : List ByteArray) : List UInt8 := (ss.map textB).flatten
def listB (ss : List ByteArray) : List UInt8 := leB 4 ss.length ++ textsB ss

theorem data_len (s : ByteArray) : s.data.toList.length = s.size := (Lib.size_eq s).symm

theorem textB_len (s : ByteArray) : (textB s).length = 4 + s.size := by simp [textB, leB_len]

theorem textsB_snoc (ss : List ByteArray) (k : Nat) (h : k < ss.length) : textsB (ss.take (k + 1)) = textsB (ss.take k) ++ textB ss[k] := by
  unfold textsB
  rw [List.take_succ_eq_append_getElem h]
  simp only [List.map_append, List.flatten_append, List.map_cons, List.map_nil, List.flatten_cons, List.flatten_nil, List.append_nil]

theorem textsB_take_le (ss : List ByteArray) (k : Nat) : (textsB (ss.take k)).length ≤ (textsB ss).length := by
  conv => rhs; rw [← List.take_append_drop k ss]
  unfold textsB
  simp only [List.map_append, List.flatten_append, List.length_append]
  omega

theorem size_le_texts (ss : List ByteArray) (k : Nat) (h : k < ss.length) : 4 + (ss[k]).size + (textsB (ss.take k)).length ≤ (textsB ss).length := by
  have h1 := textsB_take_le ss (k + 1)
  rw [textsB_snoc ss k h, List.length_append, textB_len] at h1
  omega

theorem texts_ge : ∀ ss : List ByteArray, 4 * ss.length ≤ (textsB ss).length
  | [] => by simp
  | s :: ss => by
    have h := texts_ge ss
    have e : textsB (s :: ss) = textB s ++ textsB ss := by simp [textsB]
    rw [e, List.length_append, textB_len, List.length_cons]
    omega

theorem str_text (s : ByteArray) : str (leB 4 s.size) ++ s = str (textB s) := by
  have h : str (leB 4 s.size) ++ str s.data.toList = str (textB s) := str_append _ _
  rwa [str_data] at h

theorem strCells_str (l : List UInt8) : Lib.strCells (str l) = Lib.byteCells l := rfl

/-- The value v is a slice of the texts ss in the world w. -/
def StrAt (ss : List ByteArray) (v : Value) (w : World) : Prop :=
  ∃ p c, v = .slice p ss.length c ∧ (ss = [] ∨ ∃ b off, p = some ⟨b, off, none⟩ ∧ ∀ i (h : i < ss.length), w.cell? ⟨b, off + i, none⟩ = some (.string ss[i]))

theorem StrAt.later {ss : List ByteArray} {v : Value} {w w' : World} (h : StrAt ss v w) (hb : Below w.heap.size w w') : StrAt ss v w' := by
  obtain ⟨p, c, rfl, h⟩ := h
  refine ⟨p, c, rfl, ?_⟩
  rcases h with h | ⟨b, off, hp, hc⟩
  · exact Or.inl h
  · exact Or.inr ⟨b, off, hp, fun i hi => (hb.cell (World.block_lt_of_cell? _ _ (hc i hi))).trans (hc i hi)⟩

theorem addr_cell {w : World} {a : Addr} {v : Value} (h : w.cell? (a.add 0) = some v) : a = ⟨a.block, a.off, none⟩ := by
  obtain ⟨b, o, sp⟩ := a
  cases sp with
  | none => rfl
  | some x =>
    exfalso
    have e : (⟨b, o, some x⟩ : Addr).add 0 = ⟨b, o, some x⟩ := by simp [Addr.add]
    rw [e] at h
    unfold World.cell? at h
    split at h <;> simp at h

theorem addr_add (b o i : Nat) : (⟨b, o, none⟩ : Addr).add i = ⟨b, o + i, none⟩ := by unfold Addr.add; split <;> simp_all

theorem strAt_open {w : World} {a : Addr} {len cap : Nat} {ss : List ByteArray} (hl : len ≤ ss.length) (hc : ∀ i, i < ss.length → w.cell? (a.add i) = some (.string (ss.getD i ByteArray.empty))) :
    StrAt (ss.take len) (.slice (some a) len cap) w := by
  refine ⟨some a, cap, by rw [List.length_take, Nat.min_eq_left hl], ?_⟩
  by_cases h0 : len = 0
  · left; rw [h0]; simp
  · right
    have ha := addr_cell (hc 0 (by omega))
    refine ⟨a.block, a.off, by rw [← ha], fun i hi => ?_⟩
    rw [List.length_take] at hi
    have h := hc i (by omega)
    rw [ha] at h
    rw [addr_add] at h
    rw [h, List.getElem_take]
    simp [List.getD, List.getElem?_eq_getElem (show i < ss.length by omega)]

/-- The value v is a slice of the numbers zs in the world w. -/
def IntAt (k : IntKind) (zs : List Int) (v : Value) (w : World) : Prop :=
  ∃ p c, v = .slice p zs.length c ∧ (zs = [] ∨ ∃ b off, p = some ⟨b, off, none⟩ ∧ ∀ i (h : i < zs.length), w.cell? ⟨b, off + i, none⟩ = some (.int k zs[i]))

theorem intAt_open {k : IntKind} {w : World} {a : Addr} {len cap : Nat} {ss : List Int} (hl : len ≤ ss.length) (hc : ∀ i, i < ss.length → w.cell? (a.add i) = some (.int k (ss.getD i 0))) :
    IntAt k (ss.take len) (.slice (some a) len cap) w := by
  refine ⟨some a, cap, by rw [List.length_take, Nat.min_eq_left hl], ?_⟩
  by_cases h0 : len = 0
  · left; rw [h0]; simp
  · right
    have ha := addr_cell (hc 0 (by omega))
    refine ⟨a.block, a.off, by rw [← ha], fun i hi => ?_⟩
    rw [List.length_take] at hi
    have h := hc i (by omega)
    rw [ha] at h
    rw [addr_add] at h
    rw [h, List.getElem_take]
    simp [List.getD, List.getElem?_eq_getElem (show i < ss.length by omega)]

/-- What a law's walk comes to: true, and nothing that was there has turned. -/
def LawPost (w : World) (e : Ending) (w' : World) : Prop := e = .returned (.bool true) ∧ Below w.heap.size w w'

/-- A builder is one still behind a call that kept what there was. -/
theorem builder_later {T e : TypeId} {B b : Nat} {bs : List Value} {w w' : World} (h : Lib.IsBuilder T e B b bs w) (hb : Below w.heap.size w w') : Lib.IsBuilder T e B b bs w' := by
  have one : ∀ p, Lib.BuilderAt T e B b p bs w → Lib.BuilderAt T e B b p bs w' := by
    intro p h
    have hlt := h.lt
    obtain ⟨hB, v, hbk, hown, hne⟩ := h
    refine ⟨hB, v, (hb.block b hlt).trans hbk, hown.kept (row := none) ⟨hb.os, hb.tape, hb.output, hb.size, fun k hk _ => hb.block k hk⟩ ?_, hne⟩
    cases hv : v.ownBlock <;> simp
  rcases h with h | h
  · exact Or.inl (one _ h)
  · exact Or.inr (one _ h)

/-! ### What a reader of bytes answers: a state is what is left, and an error's number. -/
abbrev RdSt := List UInt8 × Int

def takeR (s : RdSt) (n : Int) : List UInt8 × RdSt :=
  if s.2 ≠ 0 then ([], s)
  else if n < 0 then ([], ([], 1))
  else if (s.1.length : Int) < n then ([], ([], 10))
  else (s.1.take n.toNat, (s.1.drop n.toNat, 0))

/-- The number of some bytes, the least first. -/
def ofLE : List UInt8 → Nat
  | [] => 0
  | b :: l => b.toNat + 256 * ofLE l

def numR (s : RdSt) (k : Nat) : Nat × RdSt := (ofLE (takeR s k).1, (takeR s k).2)

def lenR (s : RdSt) (most : Nat) : Nat × RdSt := if most < (numR s 4).1 then (0, ([], 2)) else numR s 4

def textR (s : RdSt) : List UInt8 × RdSt := takeR (lenR s 65536).2 (lenR s 65536).1

def textsR : Nat → RdSt → List (List UInt8) → List (List UInt8) × RdSt
  | 0, s, acc => (acc, s)
  | k + 1, s, acc => if (textR s).2.2 = 0 then textsR k (textR s).2 (acc ++ [(textR s).1]) else ([], (textR s).2)

def listR (s : RdSt) : List (List UInt8) × RdSt := textsR (lenR s 65536).1 (lenR s 65536).2 []

theorem ofLE_lt : ∀ l : List UInt8, ofLE l < 256 ^ l.length
  | [] => by simp [ofLE]
  | b :: l => by
    have h := ofLE_lt l
    have hb := b.toNat_lt
    simp only [ofLE, List.length_cons, Nat.pow_succ]
    omega

theorem ofLE_snoc : ∀ (l : List UInt8) (b : UInt8), ofLE (l ++ [b]) = ofLE l + b.toNat * 256 ^ l.length
  | [], b => by simp [ofLE]
  | c :: l, b => by
    have h := ofLE_snoc l b
    simp only [List.cons_append, ofLE, h, List.length_cons, Nat.pow_succ]
    rw [Nat.mul_add, Nat.mul_comm (256 ^ l.length) 256, ← Nat.mul_assoc, ← Nat.mul_assoc, Nat.mul_comm 256 b.toNat]
    omega

theorem ofLE_take (l : List UInt8) (i : Nat) (h : i < l.length) : ofLE (l.take (i + 1)) = ofLE (l.take i) + l[i].toNat * 256 ^ i := by
  rw [List.take_succ_eq_append_getElem h, ofLE_snoc]
  rw [List.length_take, Nat.min_eq_left (by omega)]

theorem or_step (A B i : Nat) (hA : A < 256 ^ i) (hB : B < 256) (hi : i ≤ 7) :
    bits .or .u64 (A : Int) (IntKind.u64.wrap (IntKind.u64.wrap (B : Int) * 2 ^ (8 * i))) = ((A + B * 256 ^ i : Nat) : Int) := by
  have e256 : (256 : Nat) ^ i = 2 ^ (8 * i) := by rw [show (256 : Nat) = 2 ^ 8 from rfl, ← Nat.pow_mul]
  have hp : 256 ^ i ≤ 256 ^ 7 := Nat.pow_le_pow_right (by omega) hi
  have hB2 : B * 256 ^ i ≤ 255 * 256 ^ 7 := Nat.mul_le_mul (by omega) hp
  have w1 : IntKind.u64.wrap (B : Int) = B := IntWalk.u64_in _ (by omega)
  have e2 : (B : Int) * 2 ^ (8 * i) = ((B * 256 ^ i : Nat) : Int) := by rw [e256]; simp
  rw [w1, e2, IntWalk.u64_in _ (by omega), u64_or_nat _ _ (by omega) (by omega)]
  congr 1
  rw [e256] at hA ⊢
  have h := Nat.two_pow_add_eq_or_of_lt hA B
  rw [Nat.or_comm, Nat.mul_comm B, ← h, Nat.add_comm]

theorem str_take (l : List UInt8) (n : Nat) : (str l).extract 0 n = str (l.take n) := by
  have h := Lib.extract_eq (str l) 0 n
  rw [h, str_list]
  simp [str]

theorem str_drop (l : List UInt8) (n : Nat) : (str l).extract n l.length = str (l.drop n) := by
  have h := Lib.extract_eq (str l) n l.length
  rw [h, str_list]
  unfold str
  congr 2
  exact List.take_of_length_le (by simp)

theorem grown_set (w : World) (b i : Nat) (v : Value) : w.grownBy (w.setCell ⟨b, i, none⟩ v) (some b) :=
  ⟨rfl, rfl, rfl, by simp [World.setCell], fun k _ hk => Below.heap_setCell _ _ _ _ (fun e => hk (by simp [e]))⟩

theorem below_touch {B b : Nat} {a w w' : World} (h : Below B a w) (hg : w.grownBy w' (some b)) (hB : B ≤ w.heap.size) (hb : B ≤ b) : Below B a w' :=
  h.grown hg hB (fun k hk => by cases hk; exact hb)

theorem grown_refl (w : World) (r : Option Nat) : w.grownBy w r := ⟨rfl, rfl, rfl, Nat.le_refl _, fun _ _ _ => rfl⟩

theorem grown_trans {a b c : World} {r : Option Nat} (h : a.grownBy b r) (k : b.grownBy c r) : a.grownBy c r :=
  ⟨k.os.trans h.os, k.tape.trans h.tape, k.output.trans h.output, Nat.le_trans h.size k.size, fun i hi hr => (k.block i (Nat.lt_of_lt_of_le hi h.size) hr).trans (h.block i hi hr)⟩

theorem grown_below {w w' : World} (h : Below w.heap.size w w') (r : Option Nat) : w.grownBy w' r :=
  ⟨h.os, h.tape, h.output, h.size, fun k hk _ => h.block k hk⟩

end Go.Proofs.Ytaajadmaamjebaa
