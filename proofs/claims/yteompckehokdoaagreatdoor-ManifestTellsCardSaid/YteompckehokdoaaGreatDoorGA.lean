/- Plain facts on bytes, of no program: a number's bytes, the least first, and what follows of them. What was read, laid again, gives the very bytes; what was laid is read again. Plain facts on the sum, of no program: steps, registers, bits. The document's numbers as bytes, texts filled (for any seat: names of their own). Manifests as the document says them: their bytes, what is read of them, places, moves; the mathematics of stage 15, of no program. -/
import Derived.Lib.Strings
import Derived.Below
import Derived.Laws.AppendOwn
import Derived.Laws.IdiomStrings
import Derived.Lib.Builder
import Derived.Lib.UnsafeStr
import Derived.Lib.AppendStr
import Derived.Laws.BitsAllLaws
import Derived.IntWalk
import Derived.Test.YteompckehokdoaaGreatDoorRows
import Derived.WalkKit
import Derived.WalkSpells
import Derived.WalkLawsBesides
import Derived.Deep.OwnRows
import Derived.RegionTactic
import Derived.BigRegion
import Derived.Deep.DrawnRows
import Derived.Deep.RegionLaw
import Derived.Deep.QuietTactic
import Derived.BigQuiet
import Derived.Lib.Hide
namespace Go.Proofs.YteompckehokdoaaGreatDoor
open Go.RowKit

/-- The bytes of a number, so many, the least first. -/
def leB : Nat → Nat → List UInt8
  | 0, _ => []
  | k + 1, n => UInt8.ofNat n :: leB k (n / 256)

theorem leB_len : ∀ k n, (leB k n).length = k
  | 0, _ => rfl
  | k + 1, n => by simp [leB, leB_len k]

theorem leB_get : ∀ k n i (h : i < (leB k n).length), (leB k n)[i] = UInt8.ofNat (n / 256 ^ i)
  | 0, _, i, h => by simp [leB] at h
  | k + 1, n, 0, h => by simp [leB]
  | k + 1, n, i + 1, h => by
    simp only [leB, List.getElem_cons_succ]
    rw [leB_get k (n / 256) i]
    rw [Nat.div_div_eq_div_mul, Nat.pow_succ, Nat.mul_comm]

/-- A text of a list of bytes. -/
def str (l : List UInt8) : ByteArray := ⟨l.toArray⟩

theorem str_size (l : List UInt8) : (str l).size = l.length := by simp [str, ByteArray.size]

theorem str_list (l : List UInt8) : (str l).data.toList = l := rfl

theorem str_append (a b : List UInt8) : str a ++ str b = str (a ++ b) := by
  apply ByteArray.ext
  simp [str, ByteArray.data_append]

theorem str_data (s : ByteArray) : str s.data.toList = s := by
  obtain ⟨⟨l⟩⟩ := s
  rfl

theorem byte_div (n i : Nat) : (((n : Int) / 2 ^ (8 * i)) % 256 : Int) = ((UInt8.ofNat (n / 256 ^ i)).toNat : Int) := by
  have e : (2 : Int) ^ (8 * i) = ((256 ^ i : Nat) : Int) := by
    rw [Int.natCast_pow, show ((256 : Nat) : Int) = 2 ^ 8 from rfl, ← Int.pow_mul]
  rw [e, UInt8.toNat_ofNat']
  omega

/-- Behind a call: what was kept up to the call, and what the call kept. -/
theorem Below.then' {B : Nat} {a w w' : World} (h : Below B a w) (hb : Below w.heap.size w w') (hB : B ≤ w.heap.size) : Below B a w' := h.trans (hb.mono hB)

theorem le_drew_alloc (w : World) (o : Obj) : w.heap.size ≤ (w.alloc o).drew.heap.size := by
  show w.heap.size ≤ (w.heap.push o).size
  simp

/-- 'string(b)' of a row of the call's own. -/
theorem conv_bytes {P : Program} (w : World) (src dst e : TypeId) (b n cap : Nat) (l : List UInt8) (hl : l.length = n) (hs : P.underlying src = some (.slice e)) (he : P.underlying e = some (.int .u8)) (hd : P.underlying dst = some .string)
    (hc : ∀ j (hj : j < l.length), w.cell? ⟨b, j, none⟩ = some (.int .u8 (l[j].toNat : Int))) :
    (convert src dst (.slice (some ⟨b, 0, none⟩) n cap)).run P w = .ok (.string (str l)) w := by
  subst hl
  exact run_convert_bytes_back w src dst e ⟨b, 0, none⟩ cap l hs he hd (fun j hj => by
    have e : (⟨b, 0, none⟩ : Addr).add j = ⟨b, j, none⟩ := by unfold Addr.add; split <;> simp_all
    rw [e]; exact hc j hj)

/-- The bytes of a text, of some texts, of a list of texts. -/
def textB (s : ByteArray) : List UInt8 := leB 4 s.size ++ s.data.toList
def textsB (ss : List ByteArray) : List UInt8 := (ss.map textB).flatten
def listB (ss : List ByteArray) : List UInt8 := leB 4 ss.length ++ textsB ss

theorem data_len (s : ByteArray) : s.data.toList.length = s.size := (Lib.size_eq s).symm

theorem textB_len (s : ByteArray) : (textB s).length = 4 + s.size := by simp [textB, leB_len]

theorem textsB_snoc (ss : List ByteArray) (k : Nat) (h : k < ss.length) : textsB (ss.take (k + 1)) = textsB (ss.take k) ++ textB ss[k] := by
  unfold textsB
  rw [List.take_succ_eq_append_getElem h]
  simp only [List.map_append, List.flatten_append, List.map_cons, List.map_nil, List.flatten_cons, List.flatten_nil, List.append_nil]

theorem textsB_take_le (ss : List ByteArray) (k : Nat) : (textsB (ss.take k)).length ≤ (textsB ss).length := by
  conv => rhs; rw [← List.take_append_drop k ss]
  unfold textsB
  simp only [List.map_append, List.flatten_append, List.length_append]
  omega

theorem size_le_texts (ss : List ByteArray) (k : Nat) (h : k < ss.length) : 4 + (ss[k]).size + (textsB (ss.take k)).length ≤ (textsB ss).length := by
  have h1 := textsB_take_le ss (k + 1)
  rw [textsB_snoc ss k h, List.length_append, textB_len] at h1
  omega

theorem texts_ge : ∀ ss : List ByteArray, 4 * ss.length ≤ (textsB ss).length
  | [] => by simp
  | s :: ss => by
    have h := texts_ge ss
    have e : textsB (s :: ss) = textB s ++ textsB ss := by simp [textsB]
    rw [e, List.length_append, textB_len, List.length_cons]
    omega

theorem str_text (s : ByteArray) : str (leB 4 s.size) ++ s = str (textB s) := by
  have h : str (leB 4 s.size) ++ str s.data.toList = str (textB s) := str_append _ _
  rwa [str_data] at h

theorem strCells_str (l : List UInt8) : Lib.strCells (str l) = Lib.byteCells l := rfl

/-- The value v is a slice of the texts ss in the world w. -/
def StrAt (ss : List ByteArray) (v : Value) (w : World) : Prop :=
  ∃ p c, v = .slice p ss.length c ∧ (ss = [] ∨ ∃ b off, p = some ⟨b, off, none⟩ ∧ ∀ i (h : i < ss.length), w.cell? ⟨b, off + i, none⟩ = some (.string ss[i]))

theorem StrAt.later {ss : List ByteArray} {v : Value} {w w' : World} (h : StrAt ss v w) (hb : Below w.heap.size w w') : StrAt ss v w' := by
  obtain ⟨p, c, rfl, h⟩ := h
  refine ⟨p, c, rfl, ?_⟩
  rcases h with h | ⟨b, off, hp, hc⟩
  · exact Or.inl h
  · exact Or.inr ⟨b, off, hp, fun i hi => (hb.cell (World.block_lt_of_cell? _ _ (hc i hi))).trans (hc i hi)⟩

theorem addr_cell {w : World} {a : Addr} {v : Value} (h : w.cell? (a.add 0) = some v) : a = ⟨a.block, a.off, none⟩ := by
  obtain ⟨b, o, sp⟩ := a
  cases sp with
  | none => rfl
  | some x =>
    exfalso
    have e : (⟨b, o, some x⟩ : Addr).add 0 = ⟨b, o, some x⟩ := by simp [Addr.add]
    rw [e] at h
    unfold World.cell? at h
    split at h <;> simp at h

theorem addr_add (b o i : Nat) : (⟨b, o, none⟩ : Addr).add i = ⟨b, o + i, none⟩ := by unfold Addr.add; split <;> simp_all

theorem strAt_open {w : World} {a : Addr} {len cap : Nat} {ss : List ByteArray} (hl : len ≤ ss.length) (hc : ∀ i, i < ss.length → w.cell? (a.add i) = some (.string (ss.getD i ByteArray.empty))) :
    StrAt (ss.take len) (.slice (some a) len cap) w := by
  refine ⟨some a, cap, by rw [List.length_take, Nat.min_eq_left hl], ?_⟩
  by_cases h0 : len = 0
  · left; rw [h0]; simp
  · right
    have ha := addr_cell (hc 0 (by omega))
    refine ⟨a.block, a.off, by rw [← ha], fun i hi => ?_⟩
    rw [List.length_take] at hi
    have h := hc i (by omega)
    rw [ha] at h
    rw [addr_add] at h
    rw [h, List.getElem_take]
    simp [List.getD, List.getElem?_eq_getElem (show i < ss.length by omega)]

/-- The value v is a slice of the numbers zs in the world w. -/
def IntAt (k : IntKind) (zs : List Int) (v : Value) (w : World) : Prop :=
  ∃ p c, v = .slice p zs.length c ∧ (zs = [] ∨ ∃ b off, p = some ⟨b, off, none⟩ ∧ ∀ i (h : i < zs.length), w.cell? ⟨b, off + i, none⟩ = some (.int k zs[i]))

theorem intAt_open {k : IntKind} {w : World} {a : Addr} {len cap : Nat} {ss : List Int} (hl : len ≤ ss.length) (hc : ∀ i, i < ss.length → w.cell? (a.add i) = some (.int k (ss.getD i 0))) :
    IntAt k (ss.take len) (.slice (some a) len cap) w := by
  refine ⟨some a, cap, by rw [List.length_take, Nat.min_eq_left hl], ?_⟩
  by_cases h0 : len = 0
  · left; rw [h0]; simp
  · right
    have ha := addr_cell (hc 0 (by omega))
    refine ⟨a.block, a.off, by rw [← ha], fun i hi => ?_⟩
    rw [List.length_take] at hi
    have h := hc i (by omega)
    rw [ha] at h
    rw [addr_add] at h
    rw [h, List.getElem_take]
    simp [List.getD, List.getElem?_eq_getElem (show i < ss.length by omega)]

/-- What a law's walk comes to: true, and nothing that was there has turned. -/
def LawPost (w : World) (e : Ending) (w' : World) : Prop := e = .returned (.bool true) ∧ Below w.heap.size w w'

/-- A builder is one still behind a call that kept what there was. -/
theorem builder_later {T e : TypeId} {B b : Nat} {bs : List Value} {w w' : World} (h : Lib.IsBuilder T e B b bs w) (hb : Below w.heap.size w w') : Lib.IsBuilder T e B b bs w' := by
  have one : ∀ p, Lib.BuilderAt T e B b p bs w → Lib.BuilderAt T e B b p bs w' := by
    intro p h
    have hlt := h.lt
    obtain ⟨hB, v, hbk, hown, hne⟩ := h
    refine ⟨hB, v, (hb.block b hlt).trans hbk, hown.kept (row := none) ⟨hb.os, hb.tape, hb.output, hb.size, fun k hk _ => hb.block k hk⟩ ?_, hne⟩
    cases hv : v.ownBlock <;> simp
  rcases h with h | h
  · exact Or.inl (one _ h)
  · exact Or.inr (one _ h)

/-! ### What a reader of bytes answers: a state is what is left, and an error's number. -/
abbrev RdSt := List UInt8 × Int

def takeR (s : RdSt) (n : Int) : List UInt8 × RdSt :=
  if s.2 ≠ 0 then ([], s)
  else if n < 0 then ([], ([], 1))
  else if (s.1.length : Int) < n then ([], ([], 10))
  else (s.1.take n.toNat, (s.1.drop n.toNat, 0))

/-- The number of some bytes, the least first. -/
def ofLE : List UInt8 → Nat
  | [] => 0
  | b :: l => b.toNat + 256 * ofLE l

def numR (s : RdSt) (k : Nat) : Nat × RdSt := (ofLE (takeR s k).1, (takeR s k).2)

def lenR (s : RdSt) (most : Nat) : Nat × RdSt := if most < (numR s 4).1 then (0, ([], 2)) else numR s 4

def textR (s : RdSt) : List UInt8 × RdSt := takeR (lenR s 65536).2 (lenR s 65536).1

def textsR : Nat → RdSt → List (List UInt8) → List (List UInt8) × RdSt
  | 0, s, acc => (acc, s)
  | k + 1, s, acc => if (textR s).2.2 = 0 then textsR k (textR s).2 (acc ++ [(textR s).1]) else ([], (textR s).2)

def listR (s : RdSt) : List (List UInt8) × RdSt := textsR (lenR s 65536).1 (lenR s 65536).2 []

theorem ofLE_lt : ∀ l : List UInt8, ofLE l < 256 ^ l.length
  | [] => by simp [ofLE]
  | b :: l => by
    have h := ofLE_lt l
    have hb := b.toNat_lt
    simp only [ofLE, List.length_cons, Nat.pow_succ]
    omega

theorem ofLE_snoc : ∀ (l : List UInt8) (b : UInt8), ofLE (l ++ [b]) = ofLE l + b.toNat * 256 ^ l.length
  | [], b => by simp [ofLE]
  | c :: l, b => by
    have h := ofLE_snoc l b
    simp only [List.cons_append, ofLE, h, List.length_cons, Nat.pow_succ]
    rw [Nat.mul_add, Nat.mul_comm (256 ^ l.length) 256, ← Nat.mul_assoc, ← Nat.mul_assoc, Nat.mul_comm 256 b.toNat]
    omega

theorem ofLE_take (l : List UInt8) (i : Nat) (h : i < l.length) : ofLE (l.take (i + 1)) = ofLE (l.take i) + l[i].toNat * 256 ^ i := by
  rw [List.take_succ_eq_append_getElem h, ofLE_snoc]
  rw [List.length_take, Nat.min_eq_left (by omega)]

theorem or_step (A B i : Nat) (hA : A < 256 ^ i) (hB : B < 256) (hi : i ≤ 7) :
    bits .or .u64 (A : Int) (IntKind.u64.wrap (IntKind.u64.wrap (B : Int) * 2 ^ (8 * i))) = ((A + B * 256 ^ i : Nat) : Int) := by
  have e256 : (256 : Nat) ^ i = 2 ^ (8 * i) := by rw [show (256 : Nat) = 2 ^ 8 from rfl, ← Nat.pow_mul]
  have hp : 256 ^ i ≤ 256 ^ 7 := Nat.pow_le_pow_right (by omega) hi
  have hB2 : B * 256 ^ i ≤ 255 * 256 ^ 7 := Nat.mul_le_mul (by omega) hp
  have w1 : IntKind.u64.wrap (B : Int) = B := IntWalk.u64_in _ (by omega)
  have e2 : (B : Int) * 2 ^ (8 * i) = ((B * 256 ^ i : Nat) : Int) := by rw [e256]; simp
  rw [w1, e2, IntWalk.u64_in _ (by omega), u64_or_nat _ _ (by omega) (by omega)]
  congr 1
  rw [e256] at hA ⊢
  have h := Nat.two_pow_add_eq_or_of_lt hA B
  rw [Nat.or_comm, Nat.mul_comm B, ← h, Nat.add_comm]

theorem str_take (l : List UInt8) (n : Nat) : (str l).extract 0 n = str (l.take n) := by
  have h := Lib.extract_eq (str l) 0 n
  rw [h, str_list]
  simp [str]

theorem str_drop (l : List UInt8) (n : Nat) : (str l).extract n l.length = str (l.drop n) := by
  have h := Lib.extract_eq (str l) n l.length
  rw [h, str_list]
  unfold str
  congr 2
  exact List.take_of_length_le (by simp)

theorem grown_set (w : World) (b i : Nat) (v : Value) : w.grownBy (w.setCell ⟨b, i, none⟩ v) (some b) :=
  ⟨rfl, rfl, rfl, by simp [World.setCell], fun k _ hk => Below.heap_setCell _ _ _ _ (fun e => hk (by simp [e]))⟩

theorem below_touch {B b : Nat} {a w w' : World} (h : Below B a w) (hg : w.grownBy w' (some b)) (hB : B ≤ w.heap.size) (hb : B ≤ b) : Below B a w' :=
  h.grown hg hB (fun k hk => by cases hk; exact hb)

theorem grown_refl (w : World) (r : Option Nat) : w.grownBy w r := ⟨rfl, rfl, rfl, Nat.le_refl _, fun _ _ _ => rfl⟩

theorem grown_trans {a b c : World} {r : Option Nat} (h : a.grownBy b r) (k : b.grownBy c r) : a.grownBy c r :=
  ⟨k.os.trans h.os, k.tape.trans h.tape, k.output.trans h.output, Nat.le_trans h.size k.size, fun i hi hr => (k.block i (Nat.lt_of_lt_of_le hi h.size) hr).trans (h.block i hi hr)⟩

theorem grown_below {w w' : World} (h : Below w.heap.size w w') (r : Option Nat) : w.grownBy w' r :=
  ⟨h.os, h.tape, h.output, h.size, fun k hk _ => h.block k hk⟩

end Go.Proofs.YteompckehokdoaaGreatDoor
namespace Go.Proofs.YteompckehokdoaaGreatDoor
open Go.RowKit

theorem leB_ofLE : ∀ l : List UInt8, leB l.length (ofLE l) = l
  | [] => rfl
  | b :: l => by
    have h := leB_ofLE l
    have hb := b.toNat_lt
    have e1 : (b.toNat + 256 * ofLE l) / 256 = ofLE l := by omega
    have e2 : UInt8.ofNat (b.toNat + 256 * ofLE l) = b := by
      apply UInt8.toNat_inj.1
      rw [UInt8.toNat_ofNat']
      omega
    simp only [List.length_cons, ofLE, leB, e1, e2, h]

theorem ofLE_leB : ∀ k n, n < 256 ^ k → ofLE (leB k n) = n
  | 0, n, h => by simp at h; simp [ofLE, leB, h]
  | k + 1, n, h => by
    have ih := ofLE_leB k (n / 256) (by rw [Nat.pow_succ] at h; omega)
    simp only [leB, ofLE, ih, UInt8.toNat_ofNat']
    omega

/-- A reading without an error. -/
theorem takeR_ok {s : RdSt} {n : Int} {x l : List UInt8} (h : takeR s n = (x, (l, 0))) : s.2 = 0 ∧ 0 ≤ n ∧ s.1 = x ++ l ∧ x.length = n.toNat := by
  unfold takeR at h
  split at h
  · rename_i h0
    simp only [Prod.mk.injEq] at h
    exact absurd (by rw [h.2]) h0
  · rename_i h0
    split at h
    · simp at h
    · split at h
      · simp at h
      · simp only [Prod.mk.injEq, and_true] at h
        obtain ⟨rfl, rfl⟩ := h
        refine ⟨by simpa using h0, by omega, (List.take_append_drop _ _).symm, ?_⟩
        rw [List.length_take]
        omega

theorem numR_ok {s : RdSt} {k n : Nat} {l : List UInt8} (h : numR s k = (n, (l, 0))) : s.2 = 0 ∧ s.1 = leB k n ++ l := by
  unfold numR at h
  simp only [Prod.mk.injEq] at h
  obtain ⟨h1, h2⟩ := h
  obtain ⟨a, b, c, d⟩ := takeR_ok (s := s) (n := k) (x := (takeR s k).1) (l := l) (by rw [← h2])
  refine ⟨a, ?_⟩
  rw [c, ← h1]
  congr 1
  have := leB_ofLE (takeR s k).1
  rw [d] at this
  simpa using this.symm

theorem lenR_ok {s : RdSt} {m n : Nat} {l : List UInt8} (h : lenR s m = (n, (l, 0))) : s.2 = 0 ∧ s.1 = leB 4 n ++ l ∧ n ≤ m := by
  unfold lenR at h
  split at h
  · simp at h
  · rename_i hm
    obtain ⟨a, b⟩ := numR_ok h
    rw [h] at hm
    exact ⟨a, b, by simpa using hm⟩

theorem textR_ok {s : RdSt} {x l : List UInt8} (h : textR s = (x, (l, 0))) : s.2 = 0 ∧ s.1 = textB (str x) ++ l := by
  unfold textR at h
  obtain ⟨a, b, c, d⟩ := takeR_ok h
  have hl : lenR s 65536 = ((lenR s 65536).1, ((lenR s 65536).2.1, 0)) := by rw [← a]
  obtain ⟨a', b', _⟩ := lenR_ok hl
  refine ⟨a', ?_⟩
  rw [b', c]
  simp only [textB, str_size, str_list, d, Int.toNat_natCast, List.append_assoc]

theorem textsR_ok : ∀ (k : Nat) (s : RdSt) (acc out : List (List UInt8)) (l : List UInt8), textsR k s acc = (out, (l, 0)) →
    s.2 = 0 ∧ ∃ ts : List (List UInt8), out = acc ++ ts ∧ ts.length = k ∧ s.1 = textsB (ts.map str) ++ l
  | 0, s, acc, out, l, h => by
    simp only [textsR, Prod.mk.injEq] at h
    obtain ⟨rfl, rfl⟩ := h
    exact ⟨rfl, [], by simp, rfl, by simp [textsB]⟩
  | k + 1, s, acc, out, l, h => by
    unfold textsR at h
    split at h
    · rename_i h0
      obtain ⟨_, ts, h1, h2, h3⟩ := textsR_ok k _ _ _ _ h
      have ht : textR s = ((textR s).1, ((textR s).2.1, 0)) := by rw [← h0]
      obtain ⟨a, b⟩ := textR_ok ht
      refine ⟨a, (textR s).1 :: ts, by rw [h1]; simp, by simp [h2], ?_⟩
      rw [b, h3]
      simp [textsB]
    · rename_i h0
      simp only [Prod.mk.injEq] at h
      exact absurd (by rw [h.2]) h0

theorem listR_ok {s : RdSt} {ts : List (List UInt8)} {l : List UInt8} (h : listR s = (ts, (l, 0))) : s.2 = 0 ∧ s.1 = listB (ts.map str) ++ l := by
  unfold listR at h
  obtain ⟨a, ts', h1, h2, h3⟩ := textsR_ok _ _ _ _ _ h
  have hl : lenR s 65536 = ((lenR s 65536).1, ((lenR s 65536).2.1, 0)) := by rw [← a]
  obtain ⟨a', b', _⟩ := lenR_ok hl
  refine ⟨a', ?_⟩
  rw [b', h3]
  simp only [List.nil_append] at h1
  subst h1
  simp [listB, h2]

/-! ### What was laid is read again. -/
theorem takeR_app (x l : List UInt8) (n : Nat) (h : x.length = n) : takeR (x ++ l, 0) n = (x, (l, 0)) := by
  subst h
  unfold takeR
  rw [if_neg (by simp), if_neg (by omega), if_neg (by simp; omega)]
  simp

theorem leB_mod : ∀ k n, leB k (n % 256 ^ k) = leB k n
  | 0, _ => rfl
  | k + 1, n => by
    have ih := leB_mod k (n / 256)
    have e1 : n % 256 ^ (k + 1) / 256 = n / 256 % 256 ^ k := by
      rw [Nat.pow_succ, Nat.mul_comm, Nat.mod_mul_right_div_self]
    have e2 : UInt8.ofNat (n % 256 ^ (k + 1)) = UInt8.ofNat n := by
      apply UInt8.toNat_inj.1
      rw [UInt8.toNat_ofNat', UInt8.toNat_ofNat', Nat.pow_succ, Nat.mul_comm]
      exact Nat.mod_mul_right_mod _ _ _
    simp only [leB, e1, e2, ih]

theorem numR_app (n k : Nat) (l : List UInt8) : numR (leB k n ++ l, 0) k = (n % 256 ^ k, (l, 0)) := by
  unfold numR
  rw [takeR_app _ _ _ (leB_len k n)]
  simp only
  rw [← leB_mod, ofLE_leB]
  exact Nat.mod_lt _ (Nat.pow_pos (by omega))

theorem lenR_app (n m : Nat) (l : List UInt8) (h : n ≤ m) (hm : n < 256 ^ 4) : lenR (leB 4 n ++ l, 0) m = (n, (l, 0)) := by
  unfold lenR
  rw [numR_app, Nat.mod_eq_of_lt hm, if_neg (by simpa using h)]

theorem textR_app (s : ByteArray) (l : List UInt8) (h : s.size ≤ 65536) : textR (textB s ++ l, 0) = (s.data.toList, (l, 0)) := by
  unfold textR textB
  rw [List.append_assoc, lenR_app _ _ _ h (by omega)]
  exact takeR_app _ _ _ (data_len s)

theorem textsR_app : ∀ (ss : List ByteArray) (acc : List (List UInt8)) (l : List UInt8), (∀ s ∈ ss, s.size ≤ 65536) →
    textsR ss.length (textsB ss ++ l, 0) acc = (acc ++ ss.map (·.data.toList), (l, 0))
  | [], acc, l, _ => by simp [textsR, textsB]
  | s :: ss, acc, l, h => by
    have e : textsB (s :: ss) ++ l = textB s ++ (textsB ss ++ l) := by simp [textsB]
    have ih := textsR_app ss (acc ++ [s.data.toList]) l (fun t ht => h t (List.mem_cons_of_mem _ ht))
    rw [List.length_cons, e]
    unfold textsR
    rw [textR_app s _ (h s List.mem_cons_self)]
    simp only
    rw [if_pos trivial, ih]
    simp

theorem listR_app (ss : List ByteArray) (l : List UInt8) (hn : ss.length ≤ 65536) (h : ∀ s ∈ ss, s.size ≤ 65536) : listR (listB ss ++ l, 0) = (ss.map (·.data.toList), (l, 0)) := by
  unfold listR listB
  rw [List.append_assoc, lenR_app _ _ _ hn (by omega)]
  simpa using textsR_app ss [] l h

theorem str_map (ss : List ByteArray) : (ss.map (·.data.toList)).map str = ss := by
  rw [List.map_map]
  conv => rhs; rw [← List.map_id ss]
  apply List.map_congr_left
  intro s _
  exact str_data s

theorem listB_light (ss : List ByteArray) (hn : ss.length ≤ 40) (h : ∀ s ∈ ss, s.size ≤ 500) : (listB ss).length ≤ 20164 := by
  have texts : ∀ ss : List ByteArray, (∀ s ∈ ss, s.size ≤ 500) → (textsB ss).length ≤ 504 * ss.length := by
    intro ss
    induction ss with
    | nil => simp [textsB]
    | cons s ss ih =>
      intro h
      have e : textsB (s :: ss) = textB s ++ textsB ss := by simp [textsB]
      have h1 := ih (fun t ht => h t (List.mem_cons_of_mem _ ht))
      have h2 := h s List.mem_cons_self
      rw [e, List.length_append, textB_len, List.length_cons]
      omega
  have := texts ss h
  simp only [listB, List.length_append, leB_len]
  omega

end Go.Proofs.YteompckehokdoaaGreatDoor
namespace Go.Proofs.YteompckehokdoaaGreatDoor
open Go.RowKit


def pol : Nat := 3988292384
def stp (x : Nat) : Nat := (x >>> 1) ^^^ (bif x.testBit 0 then pol else 0)
def stps : Nat → Nat → Nat
  | 0, x => x
  | k + 1, x => stps k (stp x)
def eat (x : Nat) (b : Bool) : Nat := stp (x ^^^ b.toNat)
def reg (x : Nat) (l : List Bool) : Nat := l.foldl eat x
def byteBits (c : UInt8) : List Bool := (List.range 8).map fun k => c.toNat.testBit k
def bitsB (l : List UInt8) : List Bool := l.flatMap byteBits
def top32 : Nat := 4294967295
/-- What comes of a sum by a text behind it. -/
def moreN (sum : Nat) (l : List UInt8) : Nat := top32 - reg (top32 - sum) (bitsB l)

theorem stp_xor (x y : Nat) : stp (x ^^^ y) = stp x ^^^ stp y := by
  unfold stp
  rw [Nat.testBit_xor, Nat.shiftRight_xor_distrib]
  cases x.testBit 0 <;> cases y.testBit 0 <;> simp
  · ac_rfl
  · ac_rfl
  · rw [show (x >>> 1 ^^^ pol ^^^ (y >>> 1 ^^^ pol)) = (x >>> 1 ^^^ y >>> 1) ^^^ (pol ^^^ pol) by ac_rfl]
    simp

theorem stp_lt {x : Nat} (h : x < 2 ^ 32) : stp x < 2 ^ 32 := by
  unfold stp
  apply Nat.xor_lt_two_pow
  · rw [Nat.shiftRight_eq_div_pow]; omega
  · cases x.testBit 0 <;> simp [pol]

theorem stps_lt : ∀ (k : Nat) {x : Nat}, x < 2 ^ 32 → stps k x < 2 ^ 32
  | 0, _, h => h
  | k + 1, _, h => stps_lt k (stp_lt h)

theorem stp_zero : stp 0 = 0 := by decide

theorem stps_zero : ∀ k, stps k 0 = 0
  | 0 => rfl
  | k + 1 => by simp [stps, stp_zero, stps_zero k]

theorem stps_xor : ∀ (k x y : Nat), stps k (x ^^^ y) = stps k x ^^^ stps k y
  | 0, _, _ => rfl
  | k + 1, x, y => by simp only [stps, stp_xor, stps_xor k]

theorem stps_add : ∀ (k m x : Nat), stps (k + m) x = stps m (stps k x)
  | 0, m, x => by simp [stps]
  | k + 1, m, x => by rw [Nat.add_right_comm]; exact stps_add k m (stp x)

theorem stps_succ (k x : Nat) : stps (k + 1) x = stp (stps k x) := stps_add k 1 x

theorem stp_ne {x : Nat} (h : x < 2 ^ 32) (hx : x ≠ 0) : stp x ≠ 0 := by
  intro e
  unfold stp at e
  cases hb : x.testBit 0 with
  | false =>
    rw [hb] at e
    simp only [cond_false, Nat.xor_zero, Nat.shiftRight_eq_div_pow, Nat.pow_one] at e
    rw [Nat.testBit_zero] at hb
    have : x % 2 = 0 := by
      have := Nat.mod_two_eq_zero_or_one x
      simp at hb; omega
    omega
  | true =>
    rw [hb] at e
    simp only [cond_true] at e
    have e2 : x >>> 1 = pol := by
      have := congrArg (· ^^^ pol) e
      simpa [Nat.xor_assoc] using this
    rw [Nat.shiftRight_eq_div_pow] at e2
    unfold pol at e2
    omega

theorem stps_ne : ∀ (k : Nat) {x : Nat}, x < 2 ^ 32 → x ≠ 0 → stps k x ≠ 0
  | 0, _, _, h => h
  | k + 1, _, h, hx => stps_ne k (stp_lt h) (stp_ne h hx)

/-- The number of some bits, the least first. -/
def ofBits : List Bool → Nat
  | [] => 0
  | b :: l => b.toNat + 2 * ofBits l

theorem stp_twice (n : Nat) : stp (2 * n) = n := by
  unfold stp
  have : (2 * n).testBit 0 = false := by simp
  rw [this, Nat.shiftRight_eq_div_pow]
  simp

theorem ofBits_cons_xor (x : Nat) (b : Bool) (l : List Bool) : x ^^^ ofBits (b :: l) = (x ^^^ b.toNat) ^^^ (2 * ofBits l) := by
  have e : ofBits (b :: l) = b.toNat ^^^ (2 * ofBits l) := by
    apply Nat.eq_of_testBit_eq
    intro i
    rw [Nat.testBit_xor]
    cases i with
    | zero => cases b <;> simp [ofBits, Nat.testBit_zero] <;> omega
    | succ i =>
      rw [Nat.testBit_succ, Nat.testBit_succ, Nat.testBit_succ]
      have h1 : ofBits (b :: l) / 2 = ofBits l := by cases b <;> simp [ofBits] <;> omega
      have h2 : b.toNat / 2 = 0 := by cases b <;> rfl
      rw [h1, h2]
      simp
  rw [e, Nat.xor_assoc]

theorem reg_stps : ∀ (l : List Bool) (x : Nat), reg x l = stps l.length (x ^^^ ofBits l)
  | [], x => by simp [reg, stps, ofBits]
  | b :: l, x => by
    have ih := reg_stps l (eat x b)
    rw [List.length_cons, stps, ofBits_cons_xor, stp_xor, stp_twice]
    exact ih

theorem reg_append (x : Nat) (l m : List Bool) : reg x (l ++ m) = reg (reg x l) m := List.foldl_append

theorem reg_cons (x : Nat) (b : Bool) (m : List Bool) : reg x (b :: m) = reg (eat x b) m := rfl

theorem eat_lt {x : Nat} (b : Bool) (h : x < 2 ^ 32) : eat x b < 2 ^ 32 := stp_lt (Nat.xor_lt_two_pow h (by cases b <;> simp))

theorem reg_lt : ∀ (l : List Bool) {x : Nat}, x < 2 ^ 32 → reg x l < 2 ^ 32
  | [], _, h => h
  | b :: l, _, h => reg_lt l (eat_lt b h)

theorem reg_le {l : List Bool} {x : Nat} (h : x ≤ top32) : reg x l ≤ top32 := by
  have := reg_lt l (x := x) (by unfold top32 at h; omega)
  have e : top32 = 4294967295 := rfl
  omega

theorem eat_xor (x y : Nat) (a b : Bool) : eat (x ^^^ y) (a ^^ b) = eat x a ^^^ eat y b := by
  unfold eat
  rw [← stp_xor]
  congr 1
  have : (a ^^ b).toNat = a.toNat ^^^ b.toNat := by cases a <;> cases b <;> rfl
  rw [this]
  ac_rfl

theorem reg_xor : ∀ (l m : List Bool) (x y : Nat), l.length = m.length → reg (x ^^^ y) (List.zipWith (· ^^ ·) l m) = reg x l ^^^ reg y m
  | [], [], _, _, _ => rfl
  | a :: l, b :: m, x, y, h => by
    rw [List.zipWith_cons_cons, reg_cons, reg_cons, reg_cons, eat_xor]
    exact reg_xor l m _ _ (by simpa using h)

theorem bits_len : ∀ l : List UInt8, (bitsB l).length = 8 * l.length
  | [] => rfl
  | c :: l => by
    have := bits_len l
    simp only [bitsB, List.flatMap_cons, List.length_append] at *
    simp only [byteBits, List.length_map, List.length_range, List.length_cons, this]
    omega

theorem bits_append (a b : List UInt8) : bitsB (a ++ b) = bitsB a ++ bitsB b := by simp [bitsB]

theorem more_lt (sum : Nat) (l : List UInt8) : moreN sum l ≤ top32 := Nat.sub_le _ _

theorem top_xor {x : Nat} (h : x ≤ top32) : top32 - x = top32 ^^^ x := by
  have e : top32 = 2 ^ 32 - 1 := rfl
  rw [e]
  rw [e] at h
  apply Nat.eq_of_testBit_eq
  intro i
  rw [Nat.testBit_xor, Nat.testBit_two_pow_sub_one, show 2 ^ 32 - 1 - x = 2 ^ 32 - (x + 1) by omega, Nat.testBit_two_pow_sub_succ (by omega)]
  by_cases hi : i < 32
  · simp [hi]
  · have : x.testBit i = false := Nat.testBit_lt_two_pow (Nat.lt_of_lt_of_le (by omega : x < 2 ^ 32) (Nat.pow_le_pow_right (by omega) (by omega)))
    simp [hi, this]

theorem more_more (sum : Nat) (a b : List UInt8) : moreN (moreN sum a) b = moreN sum (a ++ b) := by
  unfold moreN
  have hr : reg (top32 - sum) (bitsB a) < 2 ^ 32 := reg_lt _ (by unfold top32; omega)
  rw [show top32 - (top32 - reg (top32 - sum) (bitsB a)) = reg (top32 - sum) (bitsB a) by unfold top32 at *; omega, bits_append, reg_append]

/-- The joining of two sums. -/
theorem more_join (a b : List UInt8) : stps (8 * b.length) (moreN 0 a) ^^^ moreN 0 b = moreN 0 (a ++ b) := by
  rw [← more_more 0 a b]
  have ha := more_lt 0 a
  generalize moreN 0 a = x at *
  unfold moreN
  have h1 : reg (top32 - x) (bitsB b) ≤ top32 := reg_le (Nat.sub_le _ _)
  have h2 : reg (top32 - 0) (bitsB b) ≤ top32 := reg_le (Nat.sub_le _ _)
  rw [top_xor h1, top_xor h2, top_xor ha]
  have e : reg (top32 ^^^ x) (bitsB b) = reg top32 (bitsB b) ^^^ stps (8 * b.length) x := by
    rw [reg_stps, reg_stps, bits_len, ← stps_xor]
    congr 1
    ac_rfl
  rw [e, Nat.sub_zero]
  ac_rfl

/-- Turned bits: those from 'at' on for which 'bits' has a bit, so many of them. -/
def flips (L : List Bool) (at' : Int) (bits : Nat) (i : Nat) : List Bool :=
  L.mapIdx fun j b => b ^^ (decide (at' ≤ (j : Int) ∧ (j : Int) < at' + i) && bits.testBit ((j : Int) - at').toNat)

theorem flips_len (L : List Bool) (a : Int) (b i : Nat) : (flips L a b i).length = L.length := by simp [flips]

theorem flips_get (L : List Bool) (a : Int) (b i j : Nat) (h : j < L.length) : (flips L a b i)[j]'(by rw [flips_len]; exact h) = (L[j] ^^ (decide (a ≤ (j : Int) ∧ (j : Int) < a + i) && b.testBit ((j : Int) - a).toNat)) := by
  simp [flips]

theorem flips_zero (L : List Bool) (a : Int) (b : Nat) : flips L a b 0 = L := by
  apply List.ext_getElem (flips_len _ _ _ _)
  intro j h1 h2
  rw [flips_get _ _ _ _ _ h2]
  have : decide (a ≤ (j : Int) ∧ (j : Int) < a + (0 : Nat)) = false := by simp
  rw [this]
  simp

/-- One moreN bit. -/
theorem flips_succ_in (L : List Bool) (a : Int) (b i k : Nat) (hk : a + i = k) (hl : k < L.length) :
    flips L a b (i + 1) = (flips L a b i).set k ((flips L a b i)[k]'(by rw [flips_len]; exact hl) ^^ b.testBit i) := by
  apply List.ext_getElem (by simp [flips_len])
  intro j h1 h2
  have hj : j < L.length := by simpa [flips_len] using h1
  rw [flips_get _ _ _ _ _ hj, List.getElem_set]
  by_cases e : k = j
  · subst e
    rw [if_pos rfl, flips_get _ _ _ _ _ hl]
    have h3 : decide (a ≤ (k : Int) ∧ (k : Int) < a + (i + 1 : Nat)) = true := by simp; omega
    have h4 : decide (a ≤ (k : Int) ∧ (k : Int) < a + i) = false := by simp; omega
    have h5 : ((k : Int) - a).toNat = i := by omega
    rw [h3, h4, h5]
    simp
  · rw [if_neg e, flips_get _ _ _ _ _ hj]
    have : decide (a ≤ (j : Int) ∧ (j : Int) < a + (i + 1 : Nat)) = decide (a ≤ (j : Int) ∧ (j : Int) < a + i) := by
      rw [decide_eq_decide]; omega
    rw [this]

theorem flips_succ_out (L : List Bool) (a : Int) (b i : Nat) (hk : a + i < 0 ∨ (L.length : Int) ≤ a + i) : flips L a b (i + 1) = flips L a b i := by
  apply List.ext_getElem (by simp [flips_len])
  intro j h1 h2
  have hj : j < L.length := by simpa [flips_len] using h1
  rw [flips_get _ _ _ _ _ hj, flips_get _ _ _ _ _ hj]
  have : decide (a ≤ (j : Int) ∧ (j : Int) < a + (i + 1 : Nat)) = decide (a ≤ (j : Int) ∧ (j : Int) < a + i) := by
    rw [decide_eq_decide]; omega
  rw [this]

theorem flips_succ_off (L : List Bool) (a : Int) (b i : Nat) (hb : b.testBit i = false) : flips L a b (i + 1) = flips L a b i := by
  by_cases h : a + i < 0 ∨ (L.length : Int) ≤ a + i
  · exact flips_succ_out L a b i h
  · obtain ⟨k, hk⟩ := Int.eq_ofNat_of_zero_le (show 0 ≤ a + i by omega)
    rw [flips_succ_in L a b i k hk (by omega), hb]
    simp

theorem flips_twice (L : List Bool) (a : Int) (b i : Nat) : flips (flips L a b i) a b i = L := by
  apply List.ext_getElem (by simp [flips_len])
  intro j h1 h2
  rw [flips_get _ _ _ _ _ (by rw [flips_len]; exact h2), flips_get _ _ _ _ _ h2, Bool.xor_assoc, Bool.xor_self, Bool.xor_false]

/-- The difference of a text and itself turned. -/
theorem flips_diff (L : List Bool) (a b : Nat) (ha : a ≤ L.length) (hb : b < 2 ^ 32) :
    List.zipWith (· ^^ ·) L (flips L a b 32) = List.replicate a false ++ (List.range (L.length - a)).map b.testBit := by
  apply List.ext_getElem
  · simp [flips_len]; omega
  · intro j h1 h2
    have hj : j < L.length := by simp [flips_len] at h1; exact h1
    rw [List.getElem_zipWith, flips_get _ _ _ _ _ hj]
    by_cases hja : j < a
    · rw [List.getElem_append_left (by simpa using hja)]
      have : decide ((a : Int) ≤ (j : Int) ∧ (j : Int) < a + (32 : Nat)) = false := by simp; omega
      rw [this]
      simp
    · rw [List.getElem_append_right (by simpa using hja)]
      simp only [List.getElem_map, List.getElem_range, List.length_replicate]
      have e : ((j : Int) - a).toNat = j - a := by omega
      rw [e]
      by_cases h32 : j - a < 32
      · have : decide ((a : Int) ≤ (j : Int) ∧ (j : Int) < a + (32 : Nat)) = true := by simp; omega
        rw [this]
        simp
      · have h3 : decide ((a : Int) ≤ (j : Int) ∧ (j : Int) < a + (32 : Nat)) = false := by simp; omega
        have h4 : b.testBit (j - a) = false := Nat.testBit_lt_two_pow (Nat.lt_of_lt_of_le hb (Nat.pow_le_pow_right (by omega) (by omega)))
        rw [h3, h4]
        simp

theorem ofBits_testBit : ∀ (l : List Bool) (i : Nat), (ofBits l).testBit i = l.getD i false
  | [], i => by simp [ofBits]
  | b :: l, 0 => by cases b <;> simp [ofBits, Nat.testBit_zero] <;> omega
  | b :: l, i + 1 => by
    rw [Nat.testBit_succ]
    have h1 : ofBits (b :: l) / 2 = ofBits l := by cases b <;> simp [ofBits] <;> omega
    rw [h1, ofBits_testBit l i]
    simp

theorem ofBits_range (b m : Nat) : ofBits ((List.range m).map b.testBit) = b % 2 ^ m := by
  apply Nat.eq_of_testBit_eq
  intro i
  rw [ofBits_testBit, Nat.testBit_mod_two_pow]
  by_cases h : i < m
  · simp [List.getD, h]
  · simp [List.getD, h]

theorem ofBits_lt : ∀ l : List Bool, ofBits l < 2 ^ l.length
  | [] => by simp [ofBits]
  | b :: l => by
    have := ofBits_lt l
    cases b <;> simp only [ofBits, List.length_cons, Nat.pow_succ, Bool.toNat_false, Bool.toNat_true] <;> omega

theorem reg_zeros (a : Nat) : reg 0 (List.replicate a false) = 0 := by
  rw [reg_stps]
  have : ofBits (List.replicate a false) = 0 := by
    induction a with
    | zero => rfl
    | succ a ih => simp [List.replicate_succ, ofBits, ih]
  rw [this]
  exact stps_zero _

theorem map_xor_self (L K : List Bool) (h : L.length = K.length) (hz : ∀ j (h1 : j < (List.zipWith (· ^^ ·) L K).length), (List.zipWith (· ^^ ·) L K)[j] = false) : L = K := by
  apply List.ext_getElem h
  intro j h1 h2
  have := hz j (by simp; omega)
  rw [List.getElem_zipWith] at this
  simpa using this

/-- A change within 32 bits changes the register. -/
theorem burst (L : List Bool) (a b x : Nat) (ha : a ≤ L.length) (hb : b < 2 ^ 32) (h : reg x L = reg x (flips L a b 32)) : flips L a b 32 = L := by
  have hx := reg_xor L (flips L a b 32) x x (flips_len _ _ _ _).symm
  rw [h, Nat.xor_self, Nat.xor_self, flips_diff L a b ha hb, reg_append, reg_zeros, reg_stps, Nat.zero_xor, ofBits_range] at hx
  have hz : b % 2 ^ (L.length - a) = 0 := by
    refine Classical.byContradiction fun hn => ?_
    exact stps_ne _ (Nat.lt_of_le_of_lt (Nat.mod_le _ _) hb) hn hx
  refine (map_xor_self L _ (flips_len _ _ _ _).symm ?_).symm
  intro j h1
  have e := flips_diff L a b ha hb
  have e2 : ∀ (l m : List Bool) (h : l = m) (j : Nat) (hj : j < l.length), l[j] = m[j]'(h ▸ hj) := by
    intro l m h j hj; subst h; rfl
  rw [e2 _ _ e j h1]
  by_cases hja : j < a
  · rw [List.getElem_append_left (by simpa using hja)]; simp
  · rw [List.getElem_append_right (by simpa using hja)]
    simp only [List.getElem_map, List.getElem_range, List.length_replicate]
    have hj : j < L.length := by simp [flips_len] at h1; exact h1
    have := Nat.testBit_mod_two_pow b (L.length - a) (j - a)
    rw [hz] at this
    simp at this
    exact this (by omega)


/-- What four steps make of four bits. -/
def T16 : List Nat := [0, 498536548, 997073096, 651767980, 1994146192, 1802195444, 1303535960, 1342533948, 3988292384, 4027552580, 3604390888, 3412177804, 2607071920, 2262029012, 2685067896, 3183342108]

theorem T16_steps : ∀ m : Fin 16, stps 4 m.val = T16.getD m.val 0 := by decide +kernel

theorem T16_le : ∀ m : Fin 16, T16.getD m.val 0 ≤ 4294967295 := by decide +kernel

theorem four (x : Nat) : x / 16 ^^^ T16.getD (x % 16) 0 = stps 4 x := by
  have hm : x % 16 < 16 := by omega
  have e : x = (16 * (x / 16)) ^^^ (x % 16) := by
    have h := Nat.two_pow_add_eq_or_of_lt (i := 4) (by simpa using hm) (x / 16)
    have h2 : 2 ^ 4 * (x / 16) ||| x % 16 = (16 * (x / 16)) ^^^ (x % 16) := by
      apply Nat.eq_of_testBit_eq
      intro i
      rw [Nat.testBit_or, Nat.testBit_xor]
      have e4 : (16 * (x / 16)).testBit i = (decide (4 ≤ i) && (x / 16).testBit (i - 4)) := Nat.testBit_two_pow_mul (i := 4) (j := i) (a := x / 16)
      have e6 : (x % 16).testBit i = (decide (i < 4) && x.testBit i) := Nat.testBit_mod_two_pow x 4 i
      rw [e4, e6]
      by_cases h4 : i < 4
      · have : decide (4 ≤ i) = false := by simp; omega
        simp [this]
      · have : decide (i < 4) = false := by simp; omega
        simp [this]
    omega
  have e2 : stps 4 (16 * (x / 16)) = x / 16 := by
    rw [show 16 * (x / 16) = 2 * (2 * (2 * (2 * (x / 16)))) by omega]
    simp only [stps, stp_twice]
  conv => rhs; rw [e]
  rw [stps_xor, e2, T16_steps ⟨x % 16, hm⟩]

theorem ofBits_byte (c : UInt8) : ofBits (byteBits c) = c.toNat := by
  unfold byteBits
  rw [ofBits_range]
  exact Nat.mod_eq_of_lt c.toNat_lt

theorem reg_byte (r : Nat) (c : UInt8) : reg r (byteBits c) = stps 4 (stps 4 (r ^^^ c.toNat)) := by
  rw [reg_stps, ofBits_byte, ← stps_add]
  rfl

theorem bits_snoc (l : List UInt8) (c : UInt8) : bitsB (l ++ [c]) = bitsB l ++ byteBits c := by simp [bitsB]

theorem reg_take (r : Nat) (l : List UInt8) (k : Nat) (h : k < l.length) : reg r (bitsB (l.take (k + 1))) = stps 4 (stps 4 (reg r (bitsB (l.take k)) ^^^ l[k].toNat)) := by
  rw [List.take_succ_eq_append_getElem h, bits_snoc, reg_append, reg_byte]

theorem xor_le {a b : Nat} (ha : a ≤ 4294967295) (hb : b ≤ 4294967295) : a ^^^ b ≤ 4294967295 := by
  have := Nat.xor_lt_two_pow (x := a) (y := b) (n := 32) (by omega) (by omega)
  omega

theorem x32 {a b : Nat} (ha : a ≤ 4294967295) (hb : b ≤ 4294967295) : bits .xor .u32 (a : Int) (b : Int) = ((a ^^^ b : Nat) : Int) := u32_xor_nat a b (by omega) (by omega)

theorem a32_15 {a : Nat} (ha : a ≤ 4294967295) : bits .and .u32 (a : Int) 15 = ((a % 16 : Nat) : Int) := by
  rw [show (15 : Int) = ((15 : Nat) : Int) from rfl, u32_and_nat a 15 (by omega) (by omega), nat_mask4]

theorem a32_1 {a : Nat} (ha : a ≤ 4294967295) : bits .and .u32 (a : Int) 1 = ((a % 2 : Nat) : Int) := by
  rw [show (1 : Int) = ((1 : Nat) : Int) from rfl, u32_and_nat a 1 (by omega) (by omega), nat_mask1]

theorem not32 {a : Nat} (ha : a ≤ 4294967295) : bits .xor .u32 IntKind.u32.max (a : Int) = ((4294967295 - a : Nat) : Int) := by
  rw [show IntKind.u32.max = ((4294967295 : Nat) : Int) by decide, x32 (by omega) ha]
  congr 1
  exact (top_xor (x := a) ha).symm

theorem stp_even {x : Nat} (h : x % 2 = 0) : stp x = x / 2 := by
  unfold stp
  rw [Nat.testBit_zero, Nat.shiftRight_eq_div_pow]
  simp [h]

theorem stp_odd {x : Nat} (h : x % 2 = 1) : stp x = x / 2 ^^^ 3988292384 := by
  unfold stp
  rw [Nat.testBit_zero, Nat.shiftRight_eq_div_pow]
  simp [h, pol]

theorem stp_le {x : Nat} (h : x ≤ 4294967295) : stp x ≤ 4294967295 := by have := stp_lt (x := x) (by omega); omega
theorem stps_le (k : Nat) {x : Nat} (h : x ≤ 4294967295) : stps k x ≤ 4294967295 := by have := stps_lt k (x := x) (by omega); omega
theorem reg_le' {l : List Bool} {x : Nat} (h : x ≤ 4294967295) : reg x l ≤ 4294967295 := reg_le h

/-- What some steps make of each bit of a number. -/
def zarr (m : Nat) : Array Value := (Array.range 32).map fun i => .int .u32 (stps m (2 ^ i) : Nat)

theorem zarr_size (m : Nat) : (zarr m).size = 32 := by simp [zarr]

theorem zarr_get (m i : Nat) (h : i < 32) : (zarr m)[i]? = some (.int .u32 (stps m (2 ^ i) : Nat)) := by
  simp [zarr, h]

theorem zarr_of (m : Nat) (C : Array Value) (hC : C.size = 32) (h : ∀ i, i < 32 → C[i]? = some (.int .u32 (stps m (2 ^ i) : Nat))) : C = zarr m := by
  apply Array.ext_getElem?
  intro i
  by_cases hi : i < 32
  · rw [h i hi, zarr_get m i hi]
  · rw [Array.getElem?_eq_none (by omega), Array.getElem?_eq_none (by rw [zarr_size]; omega)]

theorem pow_le {i : Nat} (h : i < 32) : 2 ^ i ≤ 4294967295 := by
  have := Nat.pow_lt_pow_right (a := 2) (by omega) h
  omega

/-- One more bit of a number. -/
theorem mod_bit (n k : Nat) : n % 2 ^ (k + 1) = n % 2 ^ k ^^^ (if n / 2 ^ k % 2 = 1 then 2 ^ k else 0) := by
  apply Nat.eq_of_testBit_eq
  intro i
  have hb : n.testBit k = decide (n / 2 ^ k % 2 = 1) := by
    rw [Nat.testBit_eq_decide_div_mod_eq]
  rw [Nat.testBit_xor, Nat.testBit_mod_two_pow, Nat.testBit_mod_two_pow]
  by_cases e : i = k
  · subst e
    by_cases h : n / 2 ^ i % 2 = 1
    · simp [h, hb]
    · simp [h, hb]
  · have h1 : decide (i < k + 1) = decide (i < k) := by rw [decide_eq_decide]; omega
    have h2 : (if n / 2 ^ k % 2 = 1 then 2 ^ k else 0).testBit i = false := by
      split
      · rw [Nat.testBit_two_pow]; simp; omega
      · simp
    rw [h1, h2]
    simp

theorem stps_bit_on (m n k : Nat) (h : n / 2 ^ k % 2 = 1) : stps m (n % 2 ^ k) ^^^ stps m (2 ^ k) = stps m (n % 2 ^ (k + 1)) := by
  rw [mod_bit, if_pos h, stps_xor]

theorem stps_bit_off (n k : Nat) (h : n / 2 ^ k % 2 ≠ 1) : n % 2 ^ (k + 1) = n % 2 ^ k := by
  rw [mod_bit, if_neg h, Nat.xor_zero]

end Go.Proofs.YteompckehokdoaaGreatDoor
namespace Go.Proofs.YteompckehokdoaaGreatDoor
open Go.RowKit

theorem rp_conv_one {n : Nat} (w' : World) (b c : Nat) (h : w'.cell? ⟨b, 0, none⟩ = some (.int .u8 ((n : Int) % 256))) :
    (convert 62 9 (.slice (some ⟨b, 0, none⟩) 1 c)).run Tryz.prog w' = .ok (.string (str [UInt8.ofNat n])) w' :=
  conv_bytes w' 62 9 5 b 1 c [UInt8.ofNat n] rfl Tryz.underlying62 Tryz.underlying5 Tryz.underlying9 (fun j hj => by
    obtain rfl : j = 0 := by simpa using hj
    rw [h]; simp)

theorem rp_after_new {w wx : World} {v : Value} {t : TypeId} (hb : Below ((w.alloc (.cells #[v] t)).drew).heap.size ((w.alloc (.cells #[v] t)).drew) wx) : wx.cell? ⟨w.heap.size, 0, none⟩ = some v :=
  cell_later hb (World.cell?_alloc_mark w #[v] t _ 0)

theorem rp_info : (Tryz.prog.info? 5).map (fun i => (i.zero, i.size, i.bytes)) = some (some (.int .u8 0), 1, 1) := by kernel_rfl
/-- A text filled with zero bytes up to a length. -/
def rpFill (s : ByteArray) (n : Int) : ByteArray := s ++ str (List.replicate (n - s.size).toNat 0)

theorem rpFill_same (s : ByteArray) (n : Int) (h : n ≤ s.size) : rpFill s n = s := by
  have : (n - s.size).toNat = 0 := by omega
  unfold rpFill
  rw [this]
  apply ByteArray.ext
  simp [str, ByteArray.data_append]

/-- Bytes filled with zeros up to a length. -/
def fillL (l : List UInt8) (n : Nat) : List UInt8 := l ++ List.replicate (n - l.length) 0
end Go.Proofs.YteompckehokdoaaGreatDoor
namespace Go.Proofs.YteompckehokdoaaGreatDoor

/-- An entry: a fingerprint, how many bytes, and where they stand. -/
structure En where
  fp : List UInt8
  len : Int
  box : Nat
  slot : Int
theorem En.ext_iff' (a b : En) : a = b ↔ a.fp = b.fp ∧ a.len = b.len ∧ a.box = b.box ∧ a.slot = b.slot := by
  cases a; cases b; simp
instance : DecidableEq En := fun a b => decidable_of_iff _ (En.ext_iff' a b).symm
/-- A manifest. -/
structure Mf where
  id : Nat
  es : List En
theorem Mf.ext_iff' (a b : Mf) : a = b ↔ a.id = b.id ∧ a.es = b.es := by
  cases a; cases b; simp
instance : DecidableEq Mf := fun a b => decidable_of_iff _ (Mf.ext_iff' a b).symm
def Mf.zero : Mf := ⟨0, []⟩

def isI (z : Int) : Prop := -9223372036854775808 ≤ z ∧ z ≤ 9223372036854775807
instance (z : Int) : Decidable (isI z) := by unfold isI; infer_instance
def wfE (e : En) : Prop := e.fp.length = 32 ∧ isI e.len ∧ e.box < 4294967296 ∧ isI e.slot
def mayE (e : En) : Prop := (1 ≤ e.len ∧ e.len ≤ 4096) ∧ (1 ≤ e.box ∧ e.box ≤ 4294967294) ∧ 0 ≤ e.slot ∧ e.slot ≤ 255
instance (e : En) : Decidable (mayE e) := by unfold mayE; infer_instance
def wfM (m : Mf) : Prop := m.id < 4294967296 ∧ ∀ e ∈ m.es, wfE e
def mayM (m : Mf) : Prop := (1 ≤ m.id ∧ m.id ≤ 4294967294) ∧ (1 ≤ m.es.length ∧ m.es.length ≤ 256) ∧ ∀ e ∈ m.es, mayE e
instance (m : Mf) : Decidable (mayM m) := by unfold mayM; infer_instance

/-! ### The bytes -/
def magicM : List UInt8 := [77, 65, 78, 73]
def entB (e : En) : List UInt8 := e.fp ++ (leB 2 e.len.toNat ++ (leB 4 e.box ++ leB 2 e.slot.toNat))
def manP (m : Mf) : List UInt8 := magicM ++ (leB 4 m.id ++ (leB 2 m.es.length ++ m.es.flatMap entB))
def manB (m : Mf) : List UInt8 := manP m ++ leB 4 (moreN 0 (manP m))
theorem entB_len {e : En} (h : e.fp.length = 32) : (entB e).length = 40 := by
  unfold entB
  simp only [List.length_append, leB_len, h]
theorem entsB_len : ∀ l : List En, (∀ e ∈ l, e.fp.length = 32) → (l.flatMap entB).length = 40 * l.length
  | [], _ => rfl
  | e :: l, h => by rw [List.flatMap_cons, List.length_append, entB_len (h e (List.mem_cons_self ..)), entsB_len l (fun x hx => h x (List.mem_cons_of_mem _ hx)), List.length_cons]; omega
theorem manP_len {m : Mf} (h : ∀ e ∈ m.es, e.fp.length = 32) : (manP m).length = 10 + 40 * m.es.length := by
  unfold manP
  simp only [List.length_append, leB_len, entsB_len _ h]
  show 4 + _ = _
  omega
theorem manB_len {m : Mf} (h : ∀ e ∈ m.es, e.fp.length = 32) : (manB m).length = 14 + 40 * m.es.length := by
  unfold manB
  rw [List.length_append, manP_len h, leB_len]; omega

/-! ### A manifest read -/
def readE (s : List UInt8) : En := ⟨s.take 32, (ofLE ((s.drop 32).take 2) : Nat), ofLE ((s.drop 34).take 4), (ofLE ((s.drop 38).take 2) : Nat)⟩
def readEs : Nat → List UInt8 → List En
  | 0, _ => []
  | k + 1, s => readE s :: readEs k (s.drop 40)
def idM (t : List UInt8) : Nat := ofLE ((t.drop 4).take 4)
def cntM (t : List UInt8) : Nat := ofLE ((t.drop 8).take 2)
def readM (t : List UInt8) : Mf := ⟨idM t, readEs (cntM t) (t.drop 10)⟩
def okM (t : List UInt8) : Prop := (1 ≤ cntM t ∧ cntM t ≤ 256) ∧ t.length = 14 + 40 * cntM t ∧ mayM (readM t) ∧ manB (readM t) = t
instance (t : List UInt8) : Decidable (okM t) := by unfold okM; infer_instance
/-- The manifest that has those bytes, if one has. -/
def getM (t : List UInt8) : Option Mf := if okM t then some (readM t) else none

theorem readEs_len : ∀ (k : Nat) (s : List UInt8), (readEs k s).length = k
  | 0, _ => rfl
  | k + 1, s => by show (readEs k _).length + 1 = _; rw [readEs_len k]
theorem ofLE_short (l : List UInt8) (k : Nat) (h : l.length ≤ k) : ofLE l < 256 ^ k := Nat.lt_of_lt_of_le (ofLE_lt l) (Nat.pow_le_pow_right (by omega) h)
theorem ofLE_take_lt (l : List UInt8) (k : Nat) : ofLE (l.take k) < 256 ^ k := ofLE_short _ k (by rw [List.length_take]; omega)
theorem readE_wf (s : List UInt8) (h : 32 ≤ s.length) : wfE (readE s) := by
  have h1 := ofLE_take_lt (s.drop 32) 2
  have h2 := ofLE_take_lt (s.drop 34) 4
  have h3 := ofLE_take_lt (s.drop 38) 2
  refine ⟨?_, ?_, by unfold readE; omega, ?_⟩
  · show (s.take 32).length = 32
    rw [List.length_take]; omega
  · unfold isI readE; simp only; omega
  · unfold isI readE; simp only; omega
theorem readEs_wf : ∀ (k : Nat) (s : List UInt8), 40 * k ≤ s.length → ∀ e ∈ readEs k s, wfE e
  | 0, _, _, _, he => by cases he
  | k + 1, s, h, e, he => by
    rcases List.mem_cons.1 he with x | x
    · rw [x]; exact readE_wf s (by omega)
    · exact readEs_wf k _ (by rw [List.length_drop]; omega) e x
theorem readE_app {e : En} (h : wfE e) (hm : mayE e) (R : List UInt8) : readE (entB e ++ R) = e := by
  obtain ⟨hf, -, hb, -⟩ := h
  obtain ⟨⟨m1, m2⟩, -, m3, m4⟩ := hm
  have e0 : entB e ++ R = e.fp ++ (leB 2 e.len.toNat ++ (leB 4 e.box ++ (leB 2 e.slot.toNat ++ R))) := by unfold entB; simp only [List.append_assoc]
  have d32 : (entB e ++ R).drop 32 = leB 2 e.len.toNat ++ (leB 4 e.box ++ (leB 2 e.slot.toNat ++ R)) := by rw [e0]; exact List.drop_left' hf
  have d34 : (entB e ++ R).drop 34 = leB 4 e.box ++ (leB 2 e.slot.toNat ++ R) := by
    rw [show 34 = 32 + 2 by rfl, ← List.drop_drop, d32]; exact List.drop_left' (leB_len _ _)
  have d38 : (entB e ++ R).drop 38 = leB 2 e.slot.toNat ++ R := by
    rw [show 38 = 34 + 4 by rfl, ← List.drop_drop, d34]; exact List.drop_left' (leB_len _ _)
  rw [En.ext_iff']
  refine ⟨?_, ?_, ?_, ?_⟩
  · show (entB e ++ R).take 32 = _
    rw [e0]; exact List.take_left' hf
  · show ((ofLE (((entB e ++ R).drop 32).take 2) : Nat) : Int) = _
    rw [d32, List.take_left' (leB_len _ _), ofLE_leB _ _ (show e.len.toNat < 256 ^ 2 by omega)]; omega
  · show ofLE (((entB e ++ R).drop 34).take 4) = _
    rw [d34, List.take_left' (leB_len _ _), ofLE_leB _ _ (show e.box < 256 ^ 4 by omega)]
  · show ((ofLE (((entB e ++ R).drop 38).take 2) : Nat) : Int) = _
    rw [d38, List.take_left' (leB_len _ _), ofLE_leB _ _ (show e.slot.toNat < 256 ^ 2 by omega)]; omega
theorem readEs_app : ∀ (l : List En) (R : List UInt8), (∀ e ∈ l, wfE e ∧ mayE e) → readEs l.length (l.flatMap entB ++ R) = l
  | [], _, _ => rfl
  | e :: l, R, h => by
    have he := h e (List.mem_cons_self ..)
    rw [List.flatMap_cons, List.append_assoc]
    show readE _ :: readEs l.length _ = _
    rw [readE_app he.1 he.2, List.drop_left' (entB_len he.1.1), readEs_app l R (fun x hx => h x (List.mem_cons_of_mem _ hx))]
theorem man_front (m : Mf) (R : List UInt8) (hn : m.es.length < 65536) (hi : m.id < 4294967296) : idM (manP m ++ R) = m.id ∧ cntM (manP m ++ R) = m.es.length ∧ (manP m ++ R).drop 10 = m.es.flatMap entB ++ R := by
  have e0 : manP m ++ R = magicM ++ (leB 4 m.id ++ (leB 2 m.es.length ++ (m.es.flatMap entB ++ R))) := by unfold manP; simp only [List.append_assoc]
  have d4 : (manP m ++ R).drop 4 = leB 4 m.id ++ (leB 2 m.es.length ++ (m.es.flatMap entB ++ R)) := by rw [e0]; exact List.drop_left' rfl
  have d8 : (manP m ++ R).drop 8 = leB 2 m.es.length ++ (m.es.flatMap entB ++ R) := by
    rw [show 8 = 4 + 4 by rfl, ← List.drop_drop, d4]; exact List.drop_left' (leB_len _ _)
  have d10 : (manP m ++ R).drop 10 = m.es.flatMap entB ++ R := by
    rw [show 10 = 8 + 2 by rfl, ← List.drop_drop, d8]; exact List.drop_left' (leB_len _ _)
  refine ⟨?_, ?_, d10⟩
  · unfold idM; rw [d4, List.take_left' (leB_len _ _), ofLE_leB _ _ (show m.id < 256 ^ 4 by omega)]
  · unfold cntM; rw [d8, List.take_left' (leB_len _ _), ofLE_leB _ _ (show m.es.length < 256 ^ 2 by omega)]
theorem readM_manB {m : Mf} (hm : mayM m) (hw : wfM m) : readM (manB m) = m ∧ cntM (manB m) = m.es.length := by
  obtain ⟨h1, h2, h3⟩ := man_front m (leB 4 (moreN 0 (manP m))) (by have := hm.2.1; omega) hw.1
  refine ⟨?_, h2⟩
  unfold readM
  show (⟨idM (manP m ++ _), readEs (cntM (manP m ++ _)) ((manP m ++ _).drop 10)⟩ : Mf) = m
  rw [h1, h2, h3, readEs_app _ _ (fun e he => ⟨hw.2 e he, hm.2.2 e he⟩)]
theorem getM_manB {m : Mf} (hm : mayM m) (hw : wfM m) : getM (manB m) = some m := by
  obtain ⟨h1, h2⟩ := readM_manB hm hw
  have ok : okM (manB m) := ⟨by rw [h2]; exact hm.2.1, by rw [h2, manB_len (fun e he => (hw.2 e he).1)], by rw [h1]; exact hm, by rw [h1]⟩
  unfold getM
  rw [if_pos ok, h1]
theorem readM_wf {t : List UInt8} (hl : t.length = 14 + 40 * cntM t) : wfM (readM t) :=
  ⟨by have := ofLE_take_lt (t.drop 4) 4; show ofLE _ < _; omega, readEs_wf _ _ (by rw [List.length_drop]; omega)⟩
theorem getM_ok {t : List UInt8} {m : Mf} (h : getM t = some m) : mayM m ∧ wfM m ∧ manB m = t := by
  unfold getM at h
  split at h
  · rename_i ok
    have e := Option.some.inj h
    obtain ⟨-, h2, h3, h4⟩ := ok
    have h5 := readM_wf h2
    rw [e] at h3 h4 h5
    exact ⟨h3, h5, h4⟩
  · cases h
theorem getM_iff (t : List UInt8) (m : Mf) : getM t = some m ↔ mayM m ∧ wfM m ∧ manB m = t :=
  ⟨getM_ok, fun ⟨a, b, c⟩ => by rw [← c]; exact getM_manB a b⟩

/-! ### Places -/
abbrev Pl := Nat × Int
def plE (e : En) : Pl := (e.box, e.slot)
def ltP (a b : Pl) : Bool := decide (a.1 < b.1) || (decide (a.1 = b.1) && decide (a.2 < b.2))
theorem ltP_iff (a b : Pl) : ltP a b = true ↔ a.1 < b.1 ∨ (a.1 = b.1 ∧ a.2 < b.2) := by unfold ltP; simp
theorem ltP_irr (a : Pl) : ltP a a = false := by rw [Bool.eq_false_iff]; intro h; rw [ltP_iff] at h; omega
theorem ltP_trans {a b c : Pl} (h : ltP a b = true) (k : ltP b c = true) : ltP a c = true := by rw [ltP_iff] at *; omega
theorem ltP_tri {a b : Pl} (h : ltP a b = false) (hne : a ≠ b) : ltP b a = true := by
  rw [ltP_iff]
  have h' : ¬ (a.1 < b.1 ∨ (a.1 = b.1 ∧ a.2 < b.2)) := fun x => by rw [(ltP_iff a b).2 x] at h; cases h
  have : ¬ (a.1 = b.1 ∧ a.2 = b.2) := fun x => hne (Prod.ext x.1 x.2)
  omega
/-- Rising places. -/
def IncP : List Pl → Prop
  | [] => True
  | a :: l => (∀ b ∈ l, ltP a b = true) ∧ IncP l
theorem incP_unique : ∀ l m : List Pl, IncP l → IncP m → (∀ x, x ∈ l ↔ x ∈ m) → l = m
  | [], [], _, _, _ => rfl
  | [], b :: m, _, _, h => by have := (h b).2 (List.mem_cons_self ..); cases this
  | a :: l, [], _, _, h => by have := (h a).1 (List.mem_cons_self ..); cases this
  | a :: l, b :: m, h1, h2, h => by
    have e : a = b := by
      rcases List.mem_cons.1 ((h a).1 (List.mem_cons_self ..)) with x | x
      · exact x
      · rcases List.mem_cons.1 ((h b).2 (List.mem_cons_self ..)) with y | y
        · exact y.symm
        · have := ltP_trans (h1.1 b y) (h2.1 a x)
          rw [ltP_irr] at this; cases this
    subst e
    rw [incP_unique l m h1.2 h2.2 (fun x => ⟨fun hx => ?_, fun hx => ?_⟩)]
    · rcases List.mem_cons.1 ((h x).1 (List.mem_cons_of_mem _ hx)) with y | y
      · have := h1.1 x hx; rw [y, ltP_irr] at this; cases this
      · exact y
    · rcases List.mem_cons.1 ((h x).2 (List.mem_cons_of_mem _ hx)) with y | y
      · have := h2.1 x hx; rw [y, ltP_irr] at this; cases this
      · exact y
/-- Where a place goes: the first k at which no lower one stands. -/
def atP (x : Pl) (S : List Pl) : Nat := (S.takeWhile fun a => ltP a x).length
def insP (x : Pl) (S : List Pl) : List Pl := S.take (atP x S) ++ [x] ++ S.drop (atP x S)
def paddP (S : List Pl) (x : Pl) : List Pl := if S[atP x S]? = some x then S else insP x S
def psetL (l : List Pl) : List Pl := l.foldl paddP []
theorem atP_le (x : Pl) (S : List Pl) : atP x S ≤ S.length := by
  unfold atP
  exact (List.takeWhile_sublist _).length_le
theorem atP_cons (x a : Pl) (S : List Pl) : atP x (a :: S) = if ltP a x = true then atP x S + 1 else 0 := by
  unfold atP
  by_cases h : ltP a x = true
  · rw [if_pos h, List.takeWhile_cons_of_pos (by simpa using h), List.length_cons]
  · rw [if_neg h, List.takeWhile_cons_of_neg (by simpa using h)]; rfl
theorem insP_cons (x a : Pl) (S : List Pl) : insP x (a :: S) = if ltP a x = true then a :: insP x S else x :: a :: S := by
  unfold insP
  rw [atP_cons]
  by_cases h : ltP a x = true
  · rw [if_pos h, if_pos h]; rfl
  · rw [if_neg h, if_neg h]; rfl
theorem paddP_cons (x a : Pl) (S : List Pl) : paddP (a :: S) x = if ltP a x = true then a :: paddP S x else if a = x then a :: S else x :: a :: S := by
  unfold paddP
  rw [insP_cons, atP_cons]
  by_cases h : ltP a x = true
  · rw [if_pos h, if_pos h, if_pos h, List.getElem?_cons_succ]
    by_cases h2 : S[atP x S]? = some x
    · rw [if_pos h2, if_pos h2]
    · rw [if_neg h2, if_neg h2]
  · rw [if_neg h, if_neg h, if_neg h, List.getElem?_cons_zero]
    by_cases h2 : a = x
    · rw [if_pos (by rw [h2]), if_pos h2]
    · rw [if_neg (fun y => h2 (Option.some.inj y)), if_neg h2]
theorem paddP_mem (x : Pl) : ∀ (S : List Pl) (y : Pl), y ∈ paddP S x ↔ y = x ∨ y ∈ S
  | [], y => by
    have : paddP [] x = [x] := rfl
    rw [this]; simp
  | a :: S, y => by
    have ih := paddP_mem x S y
    rw [paddP_cons]
    by_cases h : ltP a x = true
    · rw [if_pos h, List.mem_cons, ih, List.mem_cons]
      exact ⟨fun h => by rcases h with h | h | h <;> simp [h], fun h => by rcases h with h | h | h <;> simp [h]⟩
    · rw [if_neg h]
      by_cases h2 : a = x
      · rw [if_pos h2, List.mem_cons, h2]
        exact ⟨fun h => Or.inr h, fun h => by rcases h with h | h; exact Or.inl h; exact h⟩
      · rw [if_neg h2, List.mem_cons]
theorem paddP_inc (x : Pl) : ∀ S : List Pl, IncP S → IncP (paddP S x)
  | [], _ => by
    have : paddP [] x = [x] := rfl
    rw [this]; exact ⟨fun b hb => (by cases hb), trivial⟩
  | a :: S, hS => by
    rw [paddP_cons]
    by_cases h : ltP a x = true
    · rw [if_pos h]
      refine ⟨fun b hb => ?_, paddP_inc x S hS.2⟩
      rcases (paddP_mem x S b).1 hb with e | e
      · rw [e]; exact h
      · exact hS.1 b e
    · rw [if_neg h]
      by_cases h2 : a = x
      · rw [if_pos h2]; exact hS
      · rw [if_neg h2]
        have h3 : ltP x a = true := ltP_tri (by simpa using h) h2
        refine ⟨fun b hb => ?_, hS⟩
        rcases List.mem_cons.1 hb with e | e
        · rw [e]; exact h3
        · exact ltP_trans h3 (hS.1 b e)
theorem foldP_mem : ∀ (l S : List Pl) (y : Pl), y ∈ l.foldl paddP S ↔ y ∈ S ∨ y ∈ l
  | [], S, y => by simp
  | x :: l, S, y => by
    rw [List.foldl_cons, foldP_mem l, paddP_mem, List.mem_cons]
    exact ⟨fun h => by rcases h with (h | h) | h <;> simp [h], fun h => by rcases h with h | h | h <;> simp [h]⟩
theorem foldP_inc : ∀ (l S : List Pl), IncP S → IncP (l.foldl paddP S)
  | [], _, h => h
  | x :: l, S, h => foldP_inc l _ (paddP_inc x S h)
theorem psetL_mem (l : List Pl) (y : Pl) : y ∈ psetL l ↔ y ∈ l := by
  unfold psetL
  rw [foldP_mem]
  simp
theorem psetL_inc (l : List Pl) : IncP (psetL l) := foldP_inc l [] trivial
theorem psetL_unique (l m : List Pl) (hm : IncP m) (h : ∀ y, y ∈ m ↔ y ∈ l) : m = psetL l :=
  incP_unique m (psetL l) hm (psetL_inc l) (fun x => by rw [h x, psetL_mem])
theorem insP_len (x : Pl) (S : List Pl) : (insP x S).length = S.length + 1 := by
  unfold insP
  have := atP_le x S
  simp only [List.length_append, List.length_take, List.length_drop, List.length_cons, List.length_nil]
  omega
theorem paddP_len (S : List Pl) (x : Pl) : (paddP S x).length ≤ S.length + 1 := by
  unfold paddP
  split
  · omega
  · rw [insP_len]; exact Nat.le_refl _
theorem foldP_len : ∀ (l S : List Pl), (l.foldl paddP S).length ≤ S.length + l.length
  | [], _ => Nat.le_refl _
  | x :: l, S => by
    have h1 := foldP_len l (paddP S x)
    have h2 := paddP_len S x
    rw [List.foldl_cons, List.length_cons]
    omega
theorem psetL_len (l : List Pl) : (psetL l).length ≤ l.length := by
  have := foldP_len l []
  unfold psetL
  simpa using this
theorem incP_nodup : ∀ (l : List Pl), IncP l → ∀ i j (hi : i < l.length) (hj : j < l.length), l[i] = l[j] → i = j
  | [], _, i, _, hi, _, _ => by simp at hi
  | a :: l, h, 0, 0, _, _, _ => rfl
  | a :: l, h, 0, j + 1, _, hj, e => by
    simp only [List.getElem_cons_zero, List.getElem_cons_succ] at e
    have := h.1 _ (List.getElem_mem (by simpa using hj : j < l.length))
    rw [← e, ltP_irr] at this; cases this
  | a :: l, h, i + 1, 0, hi, _, e => by
    simp only [List.getElem_cons_zero, List.getElem_cons_succ] at e
    have := h.1 _ (List.getElem_mem (by simpa using hi : i < l.length))
    rw [e, ltP_irr] at this; cases this
  | a :: l, h, i + 1, j + 1, hi, hj, e => by
    simp only [List.getElem_cons_succ] at e
    rw [incP_nodup l h.2 i j (by simpa using hi) (by simpa using hj) e]
def placesM (m : Mf) : List Pl := psetL (m.es.map plE)

/-! ### Moves -/
abbrev Mv := Pl × Pl
/-- The first move from a place. -/
def findV (mv : List Mv) (x : Pl) : Option Mv := mv.find? fun v => decide (v.1 = x)
def turnE (mv : List Mv) (e : En) : En := match findV mv (plE e) with
  | some v => ⟨e.fp, e.len, v.2.1, v.2.2⟩
  | none => e
def hitE (mv : List Mv) (e : En) : Bool := (findV mv (plE e)).isSome
def turnM (mv : List Mv) (m : Mf) : Mf := ⟨m.id, m.es.map (turnE mv)⟩
def hitsM (mv : List Mv) (m : Mf) : Nat := (m.es.filter (hitE mv)).length
def sumM (m : Mf) : Int := (m.es.map En.len).sum

theorem findV_zip (p q : List Pl) (hp : ∀ i j (hi : i < p.length) (hj : j < p.length), p[i] = p[j] → i = j) (i : Nat) (hi : i < p.length) (hq : i < q.length) : findV (p.zip q) p[i] = some (p[i], q[i]) := by
  unfold findV
  rw [List.find?_eq_some_iff_getElem]
  refine ⟨by simp, i, by rw [List.length_zip]; omega, by rw [List.getElem_zip], fun j hj => ?_⟩
  rw [List.getElem_zip]
  simp only [Bool.not_eq_true', decide_eq_false_iff_not]
  intro e
  have := hp j i (by omega) hi e
  omega
theorem idx_of_mem {l : List Pl} {x : Pl} (h : x ∈ l) : ∃ i, ∃ hi : i < l.length, l[i] = x := by
  obtain ⟨i, hi, e⟩ := List.getElem_of_mem h
  exact ⟨i, hi, e⟩
/-- Turned to places of a box that no entry names, and back. -/
theorem turn_back (m : Mf) (box : Nat) (_ : ∀ e ∈ m.es, e.box ≠ box) :
    let p := placesM m
    let q : List Pl := (List.range p.length).map fun i : Nat => (box, (i : Int))
    turnM (q.zip p) (turnM (p.zip q) m) = m ∧ hitsM (p.zip q) m = m.es.length ∧ hitsM (q.zip p) (turnM (p.zip q) m) = m.es.length := by
  intro p q
  have hq : q.length = p.length := by simp [q]
  have hqi : ∀ i (h : i < q.length), q[i] = (box, (i : Int)) := fun i h => by simp [q]
  have np := incP_nodup p (psetL_inc _)
  have nq : ∀ i j (hi : i < q.length) (hj : j < q.length), q[i] = q[j] → i = j := fun i j hi hj e => by
    rw [hqi i hi, hqi j hj] at e
    have := congrArg Prod.snd e
    simp only at this
    omega
  have key : ∀ e ∈ m.es, hitE (p.zip q) e = true ∧ hitE (q.zip p) (turnE (p.zip q) e) = true ∧ turnE (q.zip p) (turnE (p.zip q) e) = e := fun e he => by
    have hm : plE e ∈ p := (psetL_mem _ _).2 (List.mem_map.2 ⟨e, he, rfl⟩)
    obtain ⟨i, hi, hie⟩ := idx_of_mem hm
    have f1 := findV_zip p q np i hi (by omega)
    rw [hie] at f1
    have t1 : turnE (p.zip q) e = ⟨e.fp, e.len, box, (i : Int)⟩ := by
      unfold turnE
      rw [f1]
      simp only
      rw [hqi i (by omega)]
    have f2 := findV_zip q p nq i (by omega) hi
    rw [hqi i (by omega)] at f2
    have f2' : findV (q.zip p) (plE (turnE (p.zip q) e)) = some ((box, (i : Int)), p[i]) := by rw [t1]; exact f2
    refine ⟨by unfold hitE; rw [f1]; rfl, by unfold hitE; rw [f2']; rfl, ?_⟩
    have : turnE (q.zip p) (turnE (p.zip q) e) = ⟨(turnE (p.zip q) e).fp, (turnE (p.zip q) e).len, p[i].1, p[i].2⟩ := by
      conv => lhs; unfold turnE
      rw [show findV (q.zip p) (plE (match findV (p.zip q) (plE e) with | some v => (⟨e.fp, e.len, v.2.1, v.2.2⟩ : En) | none => e)) = some ((box, (i : Int)), p[i]) from f2']
      rfl
    rw [this, t1, hie]
    rfl
  have h1 : (m.es.filter (hitE (p.zip q))) = m.es := List.filter_eq_self.2 (fun e he => (key e he).1)
  have h2 : ((m.es.map (turnE (p.zip q))).filter (hitE (q.zip p))) = m.es.map (turnE (p.zip q)) := List.filter_eq_self.2 (fun e he => by
    obtain ⟨x, hx, rfl⟩ := List.mem_map.1 he
    exact (key x hx).2.1)
  refine ⟨?_, by unfold hitsM; rw [h1], ?_⟩
  · unfold turnM
    rw [Mf.ext_iff']
    refine ⟨rfl, ?_⟩
    show (m.es.map _).map _ = _
    rw [List.map_map]
    conv => rhs; rw [← List.map_id m.es]
    exact List.map_congr_left fun e he => (key e he).2.2
  · unfold hitsM turnM
    simp only
    rw [h2, List.length_map]

end Go.Proofs.YteompckehokdoaaGreatDoor
