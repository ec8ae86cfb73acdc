/- Plain facts on bytes, of no program: a number's bytes, the least first, and what follows of them. What was read, laid again, gives the very bytes; what was laid is read again. Plain facts on the sum, of no program: steps, registers, bits. Weights as two whole numbers: bytes times powers of i. Of no program. Recipes as the document says them: their bytes, what is read of them, their weights, joined; the mathematics of stage 16, of no program. -/
import Derived.Lib.Strings
import Derived.Below
import Derived.Laws.AppendOwn
import Derived.Laws.IdiomStrings
import Derived.Lib.Builder
import Derived.Lib.UnsafeStr
import Derived.Lib.AppendStr
import Derived.Laws.BitsAllLaws
import Derived.IntWalk
namespace Go.Proofs.YtijdbmapdmhknaaDoor
open Go.RowKit

/-- The bytes of a number, so many, the least first. -/
def leB : Nat → Nat → List UInt8
  | 0, _ => []
  | k + 1, n => UInt8.ofNat n :: leB k (n / 256)

theorem leB_len : ∀ k n, (leB k n).length = k
  | 0, _ => rfl
  | k + 1, n => by simp [leB, leB_len k]

theorem leB_get : ∀ k n i (h : i < (leB k n).length), (leB k n)[i] = UInt8.ofNat (n / 256 ^ i)
  | 0, _, i, h => by simp [leB] at h
  | k + 1, n, 0, h => by simp [leB]
  | k + 1, n, i + 1, h => by
    simp only [leB, List.getElem_cons_succ]
    rw [leB_get k (n / 256) i]
    rw [Nat.div_div_eq_div_mul, Nat.pow_succ, Nat.mul_comm]

/-- A text of a list of bytes. -/
def str (l : List UInt8) : ByteArray := ⟨l.toArray⟩

theorem str_size (l : List UInt8) : (str l).size = l.length := by simp [str, ByteArray.size]

theorem str_list (l : List UInt8) : (str l).data.toList = l := rfl

theorem str_append (a b : List UInt8) : str a ++ str b = str (a ++ b) := by
  apply ByteArray.ext
  simp [str, ByteArray.data_append]

theorem str_data (s : ByteArray) : str s.data.toList = s := by
  obtain ⟨⟨l⟩⟩ := s
  rfl

theorem byte_div (n i : Nat) : (((n : Int) / 2 ^ (8 * i)) % 256 : Int) = ((UInt8.ofNat (n / 256 ^ i)).toNat : Int) := by
  have e : (2 : Int) ^ (8 * i) = ((256 ^ i : Nat) : Int) := by
    rw [Int.natCast_pow, show ((256 : Nat) : Int) = 2 ^ 8 from rfl, ← Int.pow_mul]
  rw [e, UInt8.toNat_ofNat']
  omega

/-- Behind a call: what was kept up to the call, and what the call kept. -/
theorem Below.then' {B : Nat} {a w w' : World} (h : Below B a w) (hb : Below w.heap.size w w') (hB : B ≤ w.heap.size) : Below B a w' := h.trans (hb.mono hB)

theorem le_drew_alloc (w : World) (o : Obj) : w.heap.size ≤ (w.alloc o).drew.heap.size := by
  show w.heap.size ≤ (w.heap.push o).size
  simp

/-- 'string(b)' of a row of the call's own. -/
theorem conv_bytes {P : Program} (w : World) (src dst e : TypeId) (b n cap : Nat) (l : List UInt8) (hl : l.length = n) (hs : P.underlying src = some (.slice e)) (he : P.underlying e = some (.int .u8)) (hd : P.underlying dst = some .string)
    (hc : ∀ j (hj : j < l.length), w.cell? ⟨b, j, none⟩ = some (.int .u8 (l[j].toNat : Int))) :
    (convert src dst (.slice (some ⟨b, 0, none⟩) n cap)).run P w = .ok (.string (str l)) w := by
  subst hl
  exact run_convert_bytes_back w src dst e ⟨b, 0, none⟩ cap l hs he hd (fun j hj => by
    have e : (⟨b, 0, none⟩ : Addr).add j = ⟨b, j, none⟩ := by unfold Addr.add; split <;> simp_all
    rw [e]; exact hc j hj)

/-- The bytes of a text, of some texts, of a list of texts. -/
def textB (s : ByteArray) : List UInt8 := leB 4 s.size ++ s.data.toList
def textsB (ss : List ByteArray) : List UInt8 := (ss.map textB).flatten
def listB (ss : List ByteArray) : List UInt8 := leB 4 ss.length ++ textsB ss

theorem data_len (s : ByteArray) : s.data.toList.length = s.size := (Lib.size_eq s).symm

theorem textB_len (s : ByteArray) : (textB s).length = 4 + s.size := by simp [textB, leB_len]

theorem textsB_snoc (ss : List ByteArray) (k : Nat) (h : k < ss.length) : textsB (ss.take (k + 1)) = textsB (ss.take k) ++ textB ss[k] := by
  unfold textsB
  rw [List.take_succ_eq_append_getElem h]
  simp only [List.map_append, List.flatten_append, List.map_cons, List.map_nil, List.flatten_cons, List.flatten_nil, List.append_nil]

theorem textsB_take_le (ss : List ByteArray) (k : Nat) : (textsB (ss.take k)).length ≤ (textsB ss).length := by
  conv => rhs; rw [← List.take_append_drop k ss]
  unfold textsB
  simp only [List.map_append, List.flatten_append, List.length_append]
  omega

theorem size_le_texts (ss : List ByteArray) (k : Nat) (h : k < ss.length) : 4 + (ss[k]).size + (textsB (ss.take k)).length ≤ (textsB ss).length := by
  have h1 := textsB_take_le ss (k + 1)
  rw [textsB_snoc ss k h, List.length_append, textB_len] at h1
  omega

theorem texts_ge : ∀ ss : List ByteArray, 4 * ss.length ≤ (textsB ss).length
  | [] => by simp
  | s :: ss => by
    have h := texts_ge ss
    have e : textsB (s :: ss) = textB s ++ textsB ss := by simp [textsB]
    rw [e, List.length_append, textB_len, List.length_cons]
    omega

theorem str_text (s : ByteArray) : str (leB 4 s.size) ++ s = str (textB s) := by
  have h : str (leB 4 s.size) ++ str s.data.toList = str (textB s) := str_append _ _
  rwa [str_data] at h

theorem strCells_str (l : List UInt8) : Lib.strCells (str l) = Lib.byteCells l := rfl

/-- The value v is a slice of the texts ss in the world w. -/
def StrAt (ss : List ByteArray) (v : Value) (w : World) : Prop :=
  ∃ p c, v = .slice p ss.length c ∧ (ss = [] ∨ ∃ b off, p = some ⟨b, off, none⟩ ∧ ∀ i (h : i < ss.length), w.cell? ⟨b, off + i, none⟩ = some (.string ss[i]))

theorem StrAt.later {ss : List ByteArray} {v : Value} {w w' : World} (h : StrAt ss v w) (hb : Below w.heap.size w w') : StrAt ss v w' := by
  obtain ⟨p, c, rfl, h⟩ := h
  refine ⟨p, c, rfl, ?_⟩
  rcases h with h | ⟨b, off, hp, hc⟩
  · exact Or.inl h
  · exact Or.inr ⟨b, off, hp, fun i hi => (hb.cell (World.block_lt_of_cell? _ _ (hc i hi))).trans (hc i hi)⟩

theorem addr_cell {w : World} {a : Addr} {v : Value} (h : w.cell? (a.add 0) = some v) : a = ⟨a.block, a.off, none⟩ := by
  obtain ⟨b, o, sp⟩ := a
  cases sp with
  | none => rfl
  | some x =>
    exfalso
    have e : (⟨b, o, some x⟩ : Addr).add 0 = ⟨b, o, some x⟩ := by simp [Addr.add]
    rw [e] at h
    unfold World.cell? at h
    split at h <;> simp at h

theorem addr_add (b o i : Nat) : (⟨b, o, none⟩ : Addr).add i = ⟨b, o + i, none⟩ := by unfold Addr.add; split <;> simp_all

theorem strAt_open {w : World} {a : Addr} {len cap : Nat} {ss : List ByteArray} (hl : len ≤ ss.length) (hc : ∀ i, i < ss.length → w.cell? (a.add i) = some (.string (ss.getD i ByteArray.empty))) :
    StrAt (ss.take len) (.slice (some a) len cap) w := by
  refine ⟨some a, cap, by rw [List.length_take, Nat.min_eq_left hl], ?_⟩
  by_cases h0 : len = 0
  · left; rw [h0]; simp
  · right
    have ha := addr_cell (hc 0 (by omega))
    refine ⟨a.block, a.off, by rw [← ha], fun i hi => ?_⟩
    rw [List.length_take] at hi
    have h := hc i (by omega)
    rw [ha] at h
    rw [addr_add] at h
    rw [h, List.getElem_take]
    simp [List.getD, List.getElem?_eq_getElem (show i < ss.length by omega)]

/-- The value v is a slice of the numbers zs in the world w. -/
def IntAt (k : IntKind) (zs : List Int) (v : Value) (w : World) : Prop :=
  ∃ p c, v = .slice p zs.length c ∧ (zs = [] ∨ ∃ b off, p = some ⟨b, off, none⟩ ∧ ∀ i (h : i < zs.length), w.cell? ⟨b, off + i, none⟩ = some (.int k zs[i]))

theorem intAt_open {k : IntKind} {w : World} {a : Addr} {len cap : Nat} {ss : List Int} (hl : len ≤ ss.length) (hc : ∀ i, i < ss.length → w.cell? (a.add i) = some (.int k (ss.getD i 0))) :
    IntAt k (ss.take len) (.slice (some a) len cap) w := by
  refine ⟨some a, cap, by rw [List.length_take, Nat.min_eq_left hl], ?_⟩
  by_cases h0 : len = 0
  · left; rw [h0]; simp
  · right
    have ha := addr_cell (hc 0 (by omega))
    refine ⟨a.block, a.off, by rw [← ha], fun i hi => ?_⟩
    rw [List.length_take] at hi
    have h := hc i (by omega)
    rw [ha] at h
    rw [addr_add] at h
    rw [h, List.getElem_take]
    simp [List.getD, List.getElem?_eq_getElem (show i < ss.length by omega)]

/-- What a law's walk comes to: true, and nothing that was there has turned. -/
def LawPost (w : World) (e : Ending) (w' : World) : Prop := e = .returned (.bool true) ∧ Below w.heap.size w w'

/-- A builder is one still behind a call that kept what there was. -/
theorem builder_later {T e : TypeId} {B b : Nat} {bs : List Value} {w w' : World} (h : Lib.IsBuilder T e B b bs w) (hb : Below w.heap.size w w') : Lib.IsBuilder T e B b bs w' := by
  have one : ∀ p, Lib.BuilderAt T e B b p bs w → Lib.BuilderAt T e B b p bs w' := by
    intro p h
    have hlt := h.lt
    obtain ⟨hB, v, hbk, hown, hne⟩ := h
    refine ⟨hB, v, (hb.block b hlt).trans hbk, hown.kept (row := none) ⟨hb.os, hb.tape, hb.output, hb.size, fun k hk _ => hb.block k hk⟩ ?_, hne⟩
    cases hv : v.ownBlock <;> simp
  rcases h with h | h
  · exact Or.inl (one _ h)
  · exact Or.inr (one _ h)

/-! ### What a reader of bytes answers: a state is what is left, and an error's number. -/
abbrev RdSt := List UInt8 × Int

def takeR (s : RdSt) (n : Int) : List UInt8 × RdSt :=
  if s.2 ≠ 0 then ([], s)
  else if n < 0 then ([], ([], 1))
  else if (s.1.length : Int) < n then ([], ([], 10))
  else (s.1.take n.toNat, (s.1.drop n.toNat, 0))

/-- The number of some bytes, the least first. -/
def ofLE : List UInt8 → Nat
  | [] => 0
  | b :: l => b.toNat + 256 * ofLE l

def numR (s : RdSt) (k : Nat) : Nat × RdSt := (ofLE (takeR s k).1, (takeR s k).2)

def lenR (s : RdSt) (most : Nat) : Nat × RdSt := if most < (numR s 4).1 then (0, ([], 2)) else numR s 4

def textR (s : RdSt) : List UInt8 × RdSt := takeR (lenR s 65536).2 (lenR s 65536).1

def textsR : Nat → RdSt → List (List UInt8) → List (List UInt8) × RdSt
  | 0, s, acc => (acc, s)
  | k + 1, s, acc => if (textR s).2.2 = 0 then textsR k (textR s).2 (acc ++ [(textR s).1]) else ([], (textR s).2)

def listR (s : RdSt) : List (List UInt8) × RdSt := textsR (lenR s 65536).1 (lenR s 65536).2 []

theorem ofLE_lt : ∀ l : List UInt8, ofLE l < 256 ^ l.length
  | [] => by simp [ofLE]
  | b :: l => by
    have h := ofLE_lt l
    have hb := b.toNat_lt
    simp only [ofLE, List.length_cons, Nat.pow_succ]
    omega

theorem ofLE_snoc : ∀ (l : List UInt8) (b : UInt8), ofLE (l ++ [b]) = ofLE l + b.toNat * 256 ^ l.length
  | [], b => by simp [ofLE]
  | c :: l, b => by
    have h := ofLE_snoc l b
    simp only [List.cons_append, ofLE, h, List.length_cons, Nat.pow_succ]
    rw [Nat.mul_add, Nat.mul_comm (256 ^ l.length) 256, ← Nat.mul_assoc, ← Nat.mul_assoc, Nat.mul_comm 256 b.toNat]
    omega

theorem ofLE_take (l : List UInt8) (i : Nat) (h : i < l.length) : ofLE (l.take (i + 1)) = ofLE (l.take i) + l[i].toNat * 256 ^ i := by
  rw [List.take_succ_eq_append_getElem h, ofLE_snoc]
  rw [List.length_take, Nat.min_eq_left (by omega)]

theorem or_step (A B i : Nat) (hA : A < 256 ^ i) (hB : B < 256) (hi : i ≤ 7) :
    bits .or .u64 (A : Int) (IntKind.u64.wrap (IntKind.u64.wrap (B : Int) * 2 ^ (8 * i))) = ((A + B * 256 ^ i : Nat) : Int) := by
  have e256 : (256 : Nat) ^ i = 2 ^ (8 * i) := by rw [show (256 : Nat) = 2 ^ 8 from rfl, ← Nat.pow_mul]
  have hp : 256 ^ i ≤ 256 ^ 7 := Nat.pow_le_pow_right (by omega) hi
  have hB2 : B * 256 ^ i ≤ 255 * 256 ^ 7 := Nat.mul_le_mul (by omega) hp
  have w1 : IntKind.u64.wrap (B : Int) = B := IntWalk.u64_in _ (by omega)
  have e2 : (B : Int) * 2 ^ (8 * i) = ((B * 256 ^ i : Nat) : Int) := by rw [e256]; simp
  rw [w1, e2, IntWalk.u64_in _ (by omega), u64_or_nat _ _ (by omega) (by omega)]
  congr 1
  rw [e256] at hA ⊢
  have h := Nat.two_pow_add_eq_or_of_lt hA B
  rw [Nat.or_comm, Nat.mul_comm B, ← h, Nat.add_comm]

theorem str_take (l : List UInt8) (n : Nat) : (str l).extract 0 n = str (l.take n) := by
  have h := Lib.extract_eq (str l) 0 n
  rw [h, str_list]
  simp [str]

theorem str_drop (l : List UInt8) (n : Nat) : (str l).extract n l.length = str (l.drop n) := by
  have h := Lib.extract_eq (str l) n l.length
  rw [h, str_list]
  unfold str
  congr 2
  exact List.take_of_length_le (by simp)

theorem grown_set (w : World) (b i : Nat) (v : Value) : w.grownBy (w.setCell ⟨b, i, none⟩ v) (some b) :=
  ⟨rfl, rfl, rfl, by simp [World.setCell], fun k _ hk => Below.heap_setCell _ _ _ _ (fun e => hk (by simp [e]))⟩

theorem below_touch {B b : Nat} {a w w' : World} (h : Below B a w) (hg : w.grownBy w' (some b)) (hB : B ≤ w.heap.size) (hb : B ≤ b) : Below B a w' :=
  h.grown hg hB (fun k hk => by cases hk; exact hb)

theorem grown_refl (w : World) (r : Option Nat) : w.grownBy w r := ⟨rfl, rfl, rfl, Nat.le_refl _, fun _ _ _ => rfl⟩

theorem grown_trans {a b c : World} {r : Option Nat} (h : a.grownBy b r) (k : b.grownBy c r) : a.grownBy c r :=
  ⟨k.os.trans h.os, k.tape.trans h.tape, k.output.trans h.output, Nat.le_trans h.size k.size, fun i hi hr => (k.block i (Nat.lt_of_lt_of_le hi h.size) hr).trans (h.block i hi hr)⟩

theorem grown_below {w w' : World} (h : Below w.heap.size w w') (r : Option Nat) : w.grownBy w' r :=
  ⟨h.os, h.tape, h.output, h.size, fun k hk _ => h.block k hk⟩

end Go.Proofs.YtijdbmapdmhknaaDoor
namespace Go.Proofs.YtijdbmapdmhknaaDoor
open Go.RowKit

theorem leB_ofLE : ∀ l : List UInt8, leB l.length (ofLE l) = l
  | [] => rfl
  | b :: l => by
    have h := leB_ofLE l
    have hb := b.toNat_lt
    have e1 : (b.toNat + 256 * ofLE l) / 256 = ofLE l := by omega
    have e2 : UInt8.ofNat (b.toNat + 256 * ofLE l) = b := by
      apply UInt8.toNat_inj.1
      rw [UInt8.toNat_ofNat']
      omega
    simp only [List.length_cons, ofLE, leB, e1, e2, h]

theorem ofLE_leB : ∀ k n, n < 256 ^ k → ofLE (leB k n) = n
  | 0, n, h => by simp at h; simp [ofLE, leB, h]
  | k + 1, n, h => by
    have ih := ofLE_leB k (n / 256) (by rw [Nat.pow_succ] at h; omega)
    simp only [leB, ofLE, ih, UInt8.toNat_ofNat']
    omega

/-- A reading without an error. -/
theorem takeR_ok {s : RdSt} {n : Int} {x l : List UInt8} (h : takeR s n = (x, (l, 0))) : s.2 = 0 ∧ 0 ≤ n ∧ s.1 = x ++ l ∧ x.length = n.toNat := by
  unfold takeR at h
  split at h
  · rename_i h0
    simp only [Prod.mk.injEq] at h
    exact absurd (by rw [h.2]) h0
  · rename_i h0
    split at h
    · simp at h
    · split at h
      · simp at h
      · simp only [Prod.mk.injEq, and_true] at h
        obtain ⟨rfl, rfl⟩ := h
        refine ⟨by simpa using h0, by omega, (List.take_append_drop _ _).symm, ?_⟩
        rw [List.length_take]
        omega

theorem numR_ok {s : RdSt} {k n : Nat} {l : List UInt8} (h : numR s k = (n, (l, 0))) : s.2 = 0 ∧ s.1 = leB k n ++ l := by
  unfold numR at h
  simp only [Prod.mk.injEq] at h
  obtain ⟨h1, h2⟩ := h
  obtain ⟨a, b, c, d⟩ := takeR_ok (s := s) (n := k) (x := (takeR s k).1) (l := l) (by rw [← h2])
  refine ⟨a, ?_⟩
  rw [c, ← h1]
  congr 1
  have := leB_ofLE (takeR s k).1
  rw [d] at this
  simpa using this.symm

theorem lenR_ok {s : RdSt} {m n : Nat} {l : List UInt8} (h : lenR s m = (n, (l, 0))) : s.2 = 0 ∧ s.1 = leB 4 n ++ l ∧ n ≤ m := by
  unfold lenR at h
  split at h
  · simp at h
  · rename_i hm
    obtain ⟨a, b⟩ := numR_ok h
    rw [h] at hm
    exact ⟨a, b, by simpa using hm⟩

theorem textR_ok {s : RdSt} {x l : List UInt8} (h : textR s = (x, (l, 0))) : s.2 = 0 ∧ s.1 = textB (str x) ++ l := by
  unfold textR at h
  obtain ⟨a, b, c, d⟩ := takeR_ok h
  have hl : lenR s 65536 = ((lenR s 65536).1, ((lenR s 65536).2.1, 0)) := by rw [← a]
  obtain ⟨a', b', _⟩ := lenR_ok hl
  refine ⟨a', ?_⟩
  rw [b', c]
  simp only [textB, str_size, str_list, d, Int.toNat_natCast, List.append_assoc]

theorem textsR_ok : ∀ (k : Nat) (s : RdSt) (acc out : List (List UInt8)) (l : List UInt8), textsR k s acc = (out, (l, 0)) →
    s.2 = 0 ∧ ∃ ts : List (List UInt8), out = acc ++ ts ∧ ts.length = k ∧ s.1 = textsB (ts.map str) ++ l
  | 0, s, acc, out, l, h => by
    simp only [textsR, Prod.mk.injEq] at h
    obtain ⟨rfl, rfl⟩ := h
    exact ⟨rfl, [], by simp, rfl, by simp [textsB]⟩
  | k + 1, s, acc, out, l, h => by
    unfold textsR at h
    split at h
    · rename_i h0
      obtain ⟨_, ts, h1, h2, h3⟩ := textsR_ok k _ _ _ _ h
      have ht : textR s = ((textR s).1, ((textR s).2.1, 0)) := by rw [← h0]
      obtain ⟨a, b⟩ := textR_ok ht
      refine ⟨a, (textR s).1 :: ts, by rw [h1]; simp, by simp [h2], ?_⟩
      rw [b, h3]
      simp [textsB]
    · rename_i h0
      simp only [Prod.mk.injEq] at h
      exact absurd (by rw [h.2]) h0

theorem listR_ok {s : RdSt} {ts : List (List UInt8)} {l : List UInt8} (h : listR s = (ts, (l, 0))) : s.2 = 0 ∧ s.1 = listB (ts.map str) ++ l := by
  unfold listR at h
  obtain ⟨a, ts', h1, h2, h3⟩ := textsR_ok _ _ _ _ _ h
  have hl : lenR s 65536 = ((lenR s 65536).1, ((lenR s 65536).2.1, 0)) := by rw [← a]
  obtain ⟨a', b', _⟩ := lenR_ok hl
  refine ⟨a', ?_⟩
  rw [b', h3]
  simp only [List.nil_append] at h1
  subst h1
  simp [listB, h2]

/-! ### What was laid is read again. -/
theorem takeR_app (x l : List UInt8) (n : Nat) (h : x.length = n) : takeR (x ++ l, 0) n = (x, (l, 0)) := by
  subst h
  unfold takeR
  rw [if_neg (by simp), if_neg (by omega), if_neg (by simp; omega)]
  simp

theorem leB_mod : ∀ k n, leB k (n % 256 ^ k) = leB k n
  | 0, _ => rfl
  | k + 1, n => by
    have ih := leB_mod k (n / 256)
    have e1 : n % 256 ^ (k + 1) / 256 = n / 256 % 256 ^ k := by
      rw [Nat.pow_succ, Nat.mul_comm, Nat.mod_mul_right_div_self]
    have e2 : UInt8.ofNat (n % 256 ^ (k + 1)) = UInt8.ofNat n := by
      apply UInt8.toNat_inj.1
      rw [UInt8.toNat_ofNat', UInt8.toNat_ofNat', Nat.pow_succ, Nat.mul_comm]
      exact Nat.mod_mul_right_mod _ _ _
    simp only [leB, e1, e2, ih]

theorem numR_app (n k : Nat) (l : List UInt8) : numR (leB k n ++ l, 0) k = (n % 256 ^ k, (l, 0)) := by
  unfold numR
  rw [takeR_app _ _ _ (leB_len k n)]
  simp only
  rw [← leB_mod, ofLE_leB]
  exact Nat.mod_lt _ (Nat.pow_pos (by omega))

theorem lenR_app (n m : Nat) (l : List UInt8) (h : n ≤ m) (hm : n < 256 ^ 4) : lenR (leB 4 n ++ l, 0) m = (n, (l, 0)) := by
  unfold lenR
  rw [numR_app, Nat.mod_eq_of_lt hm, if_neg (by simpa using h)]

theorem textR_app (s : ByteArray) (l : List UInt8) (h : s.size ≤ 65536) : textR (textB s ++ l, 0) = (s.data.toList, (l, 0)) := by
  unfold textR textB
  rw [List.append_assoc, lenR_app _ _ _ h (by omega)]
  exact takeR_app _ _ _ (data_len s)

theorem textsR_app : ∀ (ss : List ByteArray) (acc : List (List UInt8)) (l : List UInt8), (∀ s ∈ ss, s.size ≤ 65536) →
    textsR ss.length (textsB ss ++ l, 0) acc = (acc ++ ss.map (·.data.toList), (l, 0))
  | [], acc, l, _ => by simp [textsR, textsB]
  | s :: ss, acc, l, h => by
    have e : textsB (s :: ss) ++ l = textB s ++ (textsB ss ++ l) := by simp [textsB]
    have ih := textsR_app ss (acc ++ [s.data.toList]) l (fun t ht => h t (List.mem_cons_of_mem _ ht))
    rw [List.length_cons, e]
    unfold textsR
    rw [textR_app s _ (h s List.mem_cons_self)]
    simp only
    rw [if_pos trivial, ih]
    simp

theorem listR_app (ss : List ByteArray) (l : List UInt8) (hn : ss.length ≤ 65536) (h : ∀ s ∈ ss, s.size ≤ 65536) : listR (listB ss ++ l, 0) = (ss.map (·.data.toList), (l, 0)) := by
  unfold listR listB
  rw [List.append_assoc, lenR_app _ _ _ hn (by omega)]
  simpa using textsR_app ss [] l h

theorem str_map (ss : List ByteArray) : (ss.map (·.data.toList)).map str = ss := by
  rw [List.map_map]
  conv => rhs; rw [← List.map_id ss]
  apply List.map_congr_left
  intro s _
  exact str_data s

theorem listB_light (ss : List ByteArray) (hn : ss.length ≤ 40) (h : ∀ s ∈ ss, s.size ≤ 500) : (listB ss).length ≤ 20164 := by
  have texts : ∀ ss : List ByteArray, (∀ s ∈ ss, s.size ≤ 500) → (textsB ss).length ≤ 504 * ss.length := by
    intro ss
    induction ss with
    | nil => simp [textsB]
    | cons s ss ih =>
      intro h
      have e : textsB (s :: ss) = textB s ++ textsB ss := by simp [textsB]
      have h1 := ih (fun t ht => h t (List.mem_cons_of_mem _ ht))
      have h2 := h s List.mem_cons_self
      rw [e, List.length_append, textB_len, List.length_cons]
      omega
  have := texts ss h
  simp only [listB, List.length_append, leB_len]
  omega

end Go.Proofs.YtijdbmapdmhknaaDoor
namespace Go.Proofs.YtijdbmapdmhknaaDoor
open Go.RowKit


def pol : Nat := 3988292384
def stp (x : Nat) : Nat := (x >>> 1) ^^^ (bif x.testBit 0 then pol else 0)
def stps : Nat → Nat → Nat
  | 0, x => x
  | k + 1, x => stps k (stp x)
def eat (x : Nat) (b : Bool) : Nat := stp (x ^^^ b.toNat)
def reg (x : Nat) (l : List Bool) : Nat := l.foldl eat x
def byteBits (c : UInt8) : List Bool := (List.range 8).map fun k => c.toNat.testBit k
def bitsB (l : List UInt8) : List Bool := l.flatMap byteBits
def top32 : Nat := 4294967295
/-- What comes of a sum by a text behind it. -/
def moreN (sum : Nat) (l : List UInt8) : Nat := top32 - reg (top32 - sum) (bitsB l)

theorem stp_xor (x y : Nat) : stp (x ^^^ y) = stp x ^^^ stp y := by
  unfold stp
  rw [Nat.testBit_xor, Nat.shiftRight_xor_distrib]
  cases x.testBit 0 <;> cases y.testBit 0 <;> simp
  · ac_rfl
  · ac_rfl
  · rw [show (x >>> 1 ^^^ pol ^^^ (y >>> 1 ^^^ pol)) = (x >>> 1 ^^^ y >>> 1) ^^^ (pol ^^^ pol) by ac_rfl]
    simp

theorem stp_lt {x : Nat} (h : x < 2 ^ 32) : stp x < 2 ^ 32 := by
  unfold stp
  apply Nat.xor_lt_two_pow
  · rw [Nat.shiftRight_eq_div_pow]; omega
  · cases x.testBit 0 <;> simp [pol]

theorem stps_lt : ∀ (k : Nat) {x : Nat}, x < 2 ^ 32 → stps k x < 2 ^ 32
  | 0, _, h => h
  | k + 1, _, h => stps_lt k (stp_lt h)

theorem stp_zero : stp 0 = 0 := by decide

theorem stps_zero : ∀ k, stps k 0 = 0
  | 0 => rfl
  | k + 1 => by simp [stps, stp_zero, stps_zero k]

theorem stps_xor : ∀ (k x y : Nat), stps k (x ^^^ y) = stps k x ^^^ stps k y
  | 0, _, _ => rfl
  | k + 1, x, y => by simp only [stps, stp_xor, stps_xor k]

theorem stps_add : ∀ (k m x : Nat), stps (k + m) x = stps m (stps k x)
  | 0, m, x => by simp [stps]
  | k + 1, m, x => by rw [Nat.add_right_comm]; exact stps_add k m (stp x)

theorem stps_succ (k x : Nat) : stps (k + 1) x = stp (stps k x) := stps_add k 1 x

theorem stp_ne {x : Nat} (h : x < 2 ^ 32) (hx : x ≠ 0) : stp x ≠ 0 := by
  intro e
  unfold stp at e
  cases hb : x.testBit 0 with
  | false =>
    rw [hb] at e
    simp only [cond_false, Nat.xor_zero, Nat.shiftRight_eq_div_pow, Nat.pow_one] at e
    rw [Nat.testBit_zero] at hb
    have : x % 2 = 0 := by
      have := Nat.mod_two_eq_zero_or_one x
      simp at hb; omega
    omega
  | true =>
    rw [hb] at e
    simp only [cond_true] at e
    have e2 : x >>> 1 = pol := by
      have := congrArg (· ^^^ pol) e
      simpa [Nat.xor_assoc] using this
    rw [Nat.shiftRight_eq_div_pow] at e2
    unfold pol at e2
    omega

theorem stps_ne : ∀ (k : Nat) {x : Nat}, x < 2 ^ 32 → x ≠ 0 → stps k x ≠ 0
  | 0, _, _, h => h
  | k + 1, _, h, hx => stps_ne k (stp_lt h) (stp_ne h hx)

/-- The number of some bits, the least first. -/
def ofBits : List Bool → Nat
  | [] => 0
  | b :: l => b.toNat + 2 * ofBits l

theorem stp_twice (n : Nat) : stp (2 * n) = n := by
  unfold stp
  have : (2 * n).testBit 0 = false := by simp
  rw [this, Nat.shiftRight_eq_div_pow]
  simp

theorem ofBits_cons_xor (x : Nat) (b : Bool) (l : List Bool) : x ^^^ ofBits (b :: l) = (x ^^^ b.toNat) ^^^ (2 * ofBits l) := by
  have e : ofBits (b :: l) = b.toNat ^^^ (2 * ofBits l) := by
    apply Nat.eq_of_testBit_eq
    intro i
    rw [Nat.testBit_xor]
    cases i with
    | zero => cases b <;> simp [ofBits, Nat.testBit_zero] <;> omega
    | succ i =>
      rw [Nat.testBit_succ, Nat.testBit_succ, Nat.testBit_succ]
      have h1 : ofBits (b :: l) / 2 = ofBits l := by cases b <;> simp [ofBits] <;> omega
      have h2 : b.toNat / 2 = 0 := by cases b <;> rfl
      rw [h1, h2]
      simp
  rw [e, Nat.xor_assoc]

theorem reg_stps : ∀ (l : List Bool) (x : Nat), reg x l = stps l.length (x ^^^ ofBits l)
  | [], x => by simp [reg, stps, ofBits]
  | b :: l, x => by
    have ih := reg_stps l (eat x b)
    rw [List.length_cons, stps, ofBits_cons_xor, stp_xor, stp_twice]
    exact ih

theorem reg_append (x : Nat) (l m : List Bool) : reg x (l ++ m) = reg (reg x l) m := List.foldl_append

theorem reg_cons (x : Nat) (b : Bool) (m : List Bool) : reg x (b :: m) = reg (eat x b) m := rfl

theorem eat_lt {x : Nat} (b : Bool) (h : x < 2 ^ 32) : eat x b < 2 ^ 32 := stp_lt (Nat.xor_lt_two_pow h (by cases b <;> simp))

theorem reg_lt : ∀ (l : List Bool) {x : Nat}, x < 2 ^ 32 → reg x l < 2 ^ 32
  | [], _, h => h
  | b :: l, _, h => reg_lt l (eat_lt b h)

theorem reg_le {l : List Bool} {x : Nat} (h : x ≤ top32) : reg x l ≤ top32 := by
  have := reg_lt l (x := x) (by unfold top32 at h; omega)
  have e : top32 = 4294967295 := rfl
  omega

theorem eat_xor (x y : Nat) (a b : Bool) : eat (x ^^^ y) (a ^^ b) = eat x a ^^^ eat y b := by
  unfold eat
  rw [← stp_xor]
  congr 1
  have : (a ^^ b).toNat = a.toNat ^^^ b.toNat := by cases a <;> cases b <;> rfl
  rw [this]
  ac_rfl

theorem reg_xor : ∀ (l m : List Bool) (x y : Nat), l.length = m.length → reg (x ^^^ y) (List.zipWith (· ^^ ·) l m) = reg x l ^^^ reg y m
  | [], [], _, _, _ => rfl
  | a :: l, b :: m, x, y, h => by
    rw [List.zipWith_cons_cons, reg_cons, reg_cons, reg_cons, eat_xor]
    exact reg_xor l m _ _ (by simpa using h)

theorem bits_len : ∀ l : List UInt8, (bitsB l).length = 8 * l.length
  | [] => rfl
  | c :: l => by
    have := bits_len l
    simp only [bitsB, List.flatMap_cons, List.length_append] at *
    simp only [byteBits, List.length_map, List.length_range, List.length_cons, this]
    omega

theorem bits_append (a b : List UInt8) : bitsB (a ++ b) = bitsB a ++ bitsB b := by simp [bitsB]

theorem more_lt (sum : Nat) (l : List UInt8) : moreN sum l ≤ top32 := Nat.sub_le _ _

theorem top_xor {x : Nat} (h : x ≤ top32) : top32 - x = top32 ^^^ x := by
  have e : top32 = 2 ^ 32 - 1 := rfl
  rw [e]
  rw [e] at h
  apply Nat.eq_of_testBit_eq
  intro i
  rw [Nat.testBit_xor, Nat.testBit_two_pow_sub_one, show 2 ^ 32 - 1 - x = 2 ^ 32 - (x + 1) by omega, Nat.testBit_two_pow_sub_succ (by omega)]
  by_cases hi : i < 32
  · simp [hi]
  · have : x.testBit i = false := Nat.testBit_lt_two_pow (Nat.lt_of_lt_of_le (by omega : x < 2 ^ 32) (Nat.pow_le_pow_right (by omega) (by omega)))
    simp [hi, this]

theorem more_more (sum : Nat) (a b : List UInt8) : moreN (moreN sum a) b = moreN sum (a ++ b) := by
  unfold moreN
  have hr : reg (top32 - sum) (bitsB a) < 2 ^ 32 := reg_lt _ (by unfold top32; omega)
  rw [show top32 - (top32 - reg (top32 - sum) (bitsB a)) = reg (top32 - sum) (bitsB a) by unfold top32 at *; omega, bits_append, reg_append]

/-- The joining of two sums. -/
theorem more_join (a b : List UInt8) : stps (8 * b.length) (moreN 0 a) ^^^ moreN 0 b = moreN 0 (a ++ b) := by
  rw [← more_more 0 a b]
  have ha := more_lt 0 a
  generalize moreN 0 a = x at *
  unfold moreN
  have h1 : reg (top32 - x) (bitsB b) ≤ top32 := reg_le (Nat.sub_le _ _)
  have h2 : reg (top32 - 0) (bitsB b) ≤ top32 := reg_le (Nat.sub_le _ _)
  rw [top_xor h1, top_xor h2, top_xor ha]
  have e : reg (top32 ^^^ x) (bitsB b) = reg top32 (bitsB b) ^^^ stps (8 * b.length) x := by
    rw [reg_stps, reg_stps, bits_len, ← stps_xor]
    congr 1
    ac_rfl
  rw [e, Nat.sub_zero]
  ac_rfl

/-- Turned bits: those from 'at' on for which 'bits' has a bit, so many of them. -/
def flips (L : List Bool) (at' : Int) (bits : Nat) (i : Nat) : List Bool :=
  L.mapIdx fun j b => b ^^ (decide (at' ≤ (j : Int) ∧ (j : Int) < at' + i) && bits.testBit ((j : Int) - at').toNat)

theorem flips_len (L : List Bool) (a : Int) (b i : Nat) : (flips L a b i).length = L.length := by simp [flips]

theorem flips_get (L : List Bool) (a : Int) (b i j : Nat) (h : j < L.length) : (flips L a b i)[j]'(by rw [flips_len]; exact h) = (L[j] ^^ (decide (a ≤ (j : Int) ∧ (j : Int) < a + i) && b.testBit ((j : Int) - a).toNat)) := by
  simp [flips]

theorem flips_zero (L : List Bool) (a : Int) (b : Nat) : flips L a b 0 = L := by
  apply List.ext_getElem (flips_len _ _ _ _)
  intro j h1 h2
  rw [flips_get _ _ _ _ _ h2]
  have : decide (a ≤ (j : Int) ∧ (j : Int) < a + (0 : Nat)) = false := by simp
  rw [this]
  simp

/-- One moreN bit. -/
theorem flips_succ_in (L : List Bool) (a : Int) (b i k : Nat) (hk : a + i = k) (hl : k < L.length) :
    flips L a b (i + 1) = (flips L a b i).set k ((flips L a b i)[k]'(by rw [flips_len]; exact hl) ^^ b.testBit i) := by
  apply List.ext_getElem (by simp [flips_len])
  intro j h1 h2
  have hj : j < L.length := by simpa [flips_len] using h1
  rw [flips_get _ _ _ _ _ hj, List.getElem_set]
  by_cases e : k = j
  · subst e
    rw [if_pos rfl, flips_get _ _ _ _ _ hl]
    have h3 : decide (a ≤ (k : Int) ∧ (k : Int) < a + (i + 1 : Nat)) = true := by simp; omega
    have h4 : decide (a ≤ (k : Int) ∧ (k : Int) < a + i) = false := by simp; omega
    have h5 : ((k : Int) - a).toNat = i := by omega
    rw [h3, h4, h5]
    simp
  · rw [if_neg e, flips_get _ _ _ _ _ hj]
    have : decide (a ≤ (j : Int) ∧ (j : Int) < a + (i + 1 : Nat)) = decide (a ≤ (j : Int) ∧ (j : Int) < a + i) := by
      rw [decide_eq_decide]; omega
    rw [this]

theorem flips_succ_out (L : List Bool) (a : Int) (b i : Nat) (hk : a + i < 0 ∨ (L.length : Int) ≤ a + i) : flips L a b (i + 1) = flips L a b i := by
  apply List.ext_getElem (by simp [flips_len])
  intro j h1 h2
  have hj : j < L.length := by simpa [flips_len] using h1
  rw [flips_get _ _ _ _ _ hj, flips_get _ _ _ _ _ hj]
  have : decide (a ≤ (j : Int) ∧ (j : Int) < a + (i + 1 : Nat)) = decide (a ≤ (j : Int) ∧ (j : Int) < a + i) := by
    rw [decide_eq_decide]; omega
  rw [this]

theorem flips_succ_off (L : List Bool) (a : Int) (b i : Nat) (hb : b.testBit i = false) : flips L a b (i + 1) = flips L a b i := by
  by_cases h : a + i < 0 ∨ (L.length : Int) ≤ a + i
  · exact flips_succ_out L a b i h
  · obtain ⟨k, hk⟩ := Int.eq_ofNat_of_zero_le (show 0 ≤ a + i by omega)
    rw [flips_succ_in L a b i k hk (by omega), hb]
    simp

theorem flips_twice (L : List Bool) (a : Int) (b i : Nat) : flips (flips L a b i) a b i = L := by
  apply List.ext_getElem (by simp [flips_len])
  intro j h1 h2
  rw [flips_get _ _ _ _ _ (by rw [flips_len]; exact h2), flips_get _ _ _ _ _ h2, Bool.xor_assoc, Bool.xor_self, Bool.xor_false]

/-- The difference of a text and itself turned. -/
theorem flips_diff (L : List Bool) (a b : Nat) (ha : a ≤ L.length) (hb : b < 2 ^ 32) :
    List.zipWith (· ^^ ·) L (flips L a b 32) = List.replicate a false ++ (List.range (L.length - a)).map b.testBit := by
  apply List.ext_getElem
  · simp [flips_len]; omega
  · intro j h1 h2
    have hj : j < L.length := by simp [flips_len] at h1; exact h1
    rw [List.getElem_zipWith, flips_get _ _ _ _ _ hj]
    by_cases hja : j < a
    · rw [List.getElem_append_left (by simpa using hja)]
      have : decide ((a : Int) ≤ (j : Int) ∧ (j : Int) < a + (32 : Nat)) = false := by simp; omega
      rw [this]
      simp
    · rw [List.getElem_append_right (by simpa using hja)]
      simp only [List.getElem_map, List.getElem_range, List.length_replicate]
      have e : ((j : Int) - a).toNat = j - a := by omega
      rw [e]
      by_cases h32 : j - a < 32
      · have : decide ((a : Int) ≤ (j : Int) ∧ (j : Int) < a + (32 : Nat)) = true := by simp; omega
        rw [this]
        simp
      · have h3 : decide ((a : Int) ≤ (j : Int) ∧ (j : Int) < a + (32 : Nat)) = false := by simp; omega
        have h4 : b.testBit (j - a) = false := Nat.testBit_lt_two_pow (Nat.lt_of_lt_of_le hb (Nat.pow_le_pow_right (by omega) (by omega)))
        rw [h3, h4]
        simp

theorem ofBits_testBit : ∀ (l : List Bool) (i : Nat), (ofBits l).testBit i = l.getD i false
  | [], i => by simp [ofBits]
  | b :: l, 0 => by cases b <;> simp [ofBits, Nat.testBit_zero] <;> omega
  | b :: l, i + 1 => by
    rw [Nat.testBit_succ]
    have h1 : ofBits (b :: l) / 2 = ofBits l := by cases b <;> simp [ofBits] <;> omega
    rw [h1, ofBits_testBit l i]
    simp

theorem ofBits_range (b m : Nat) : ofBits ((List.range m).map b.testBit) = b % 2 ^ m := by
  apply Nat.eq_of_testBit_eq
  intro i
  rw [ofBits_testBit, Nat.testBit_mod_two_pow]
  by_cases h : i < m
  · simp [List.getD, h]
  · simp [List.getD, h]

theorem ofBits_lt : ∀ l : List Bool, ofBits l < 2 ^ l.length
  | [] => by simp [ofBits]
  | b :: l => by
    have := ofBits_lt l
    cases b <;> simp only [ofBits, List.length_cons, Nat.pow_succ, Bool.toNat_false, Bool.toNat_true] <;> omega

theorem reg_zeros (a : Nat) : reg 0 (List.replicate a false) = 0 := by
  rw [reg_stps]
  have : ofBits (List.replicate a false) = 0 := by
    induction a with
    | zero => rfl
    | succ a ih => simp [List.replicate_succ, ofBits, ih]
  rw [this]
  exact stps_zero _

theorem map_xor_self (L K : List Bool) (h : L.length = K.length) (hz : ∀ j (h1 : j < (List.zipWith (· ^^ ·) L K).length), (List.zipWith (· ^^ ·) L K)[j] = false) : L = K := by
  apply List.ext_getElem h
  intro j h1 h2
  have := hz j (by simp; omega)
  rw [List.getElem_zipWith] at this
  simpa using this

/-- A change within 32 bits changes the register. -/
theorem burst (L : List Bool) (a b x : Nat) (ha : a ≤ L.length) (hb : b < 2 ^ 32) (h : reg x L = reg x (flips L a b 32)) : flips L a b 32 = L := by
  have hx := reg_xor L (flips L a b 32) x x (flips_len _ _ _ _).symm
  rw [h, Nat.xor_self, Nat.xor_self, flips_diff L a b ha hb, reg_append, reg_zeros, reg_stps, Nat.zero_xor, ofBits_range] at hx
  have hz : b % 2 ^ (L.length - a) = 0 := by
    refine Classical.byContradiction fun hn => ?_
    exact stps_ne _ (Nat.lt_of_le_of_lt (Nat.mod_le _ _) hb) hn hx
  refine (map_xor_self L _ (flips_len _ _ _ _).symm ?_).symm
  intro j h1
  have e := flips_diff L a b ha hb
  have e2 : ∀ (l m : List Bool) (h : l = m) (j : Nat) (hj : j < l.length), l[j] = m[j]'(h ▸ hj) := by
    intro l m h j hj; subst h; rfl
  rw [e2 _ _ e j h1]
  by_cases hja : j < a
  · rw [List.getElem_append_left (by simpa using hja)]; simp
  · rw [List.getElem_append_right (by simpa using hja)]
    simp only [List.getElem_map, List.getElem_range, List.length_replicate]
    have hj : j < L.length := by simp [flips_len] at h1; exact h1
    have := Nat.testBit_mod_two_pow b (L.length - a) (j - a)
    rw [hz] at this
    simp at this
    exact this (by omega)


/-- What four steps make of four bits. -/
def T16 : List Nat := [0, 498536548, 997073096, 651767980, 1994146192, 1802195444, 1303535960, 1342533948, 3988292384, 4027552580, 3604390888, 3412177804, 2607071920, 2262029012, 2685067896, 3183342108]

theorem T16_steps : ∀ m : Fin 16, stps 4 m.val = T16.getD m.val 0 := by decide +kernel

theorem T16_le : ∀ m : Fin 16, T16.getD m.val 0 ≤ 4294967295 := by decide +kernel

theorem four (x : Nat) : x / 16 ^^^ T16.getD (x % 16) 0 = stps 4 x := by
  have hm : x % 16 < 16 := by omega
  have e : x = (16 * (x / 16)) ^^^ (x % 16) := by
    have h := Nat.two_pow_add_eq_or_of_lt (i := 4) (by simpa using hm) (x / 16)
    have h2 : 2 ^ 4 * (x / 16) ||| x % 16 = (16 * (x / 16)) ^^^ (x % 16) := by
      apply Nat.eq_of_testBit_eq
      intro i
      rw [Nat.testBit_or, Nat.testBit_xor]
      have e4 : (16 * (x / 16)).testBit i = (decide (4 ≤ i) && (x / 16).testBit (i - 4)) := Nat.testBit_two_pow_mul (i := 4) (j := i) (a := x / 16)
      have e6 : (x % 16).testBit i = (decide (i < 4) && x.testBit i) := Nat.testBit_mod_two_pow x 4 i
      rw [e4, e6]
      by_cases h4 : i < 4
      · have : decide (4 ≤ i) = false := by simp; omega
        simp [this]
      · have : decide (i < 4) = false := by simp; omega
        simp [this]
    omega
  have e2 : stps 4 (16 * (x / 16)) = x / 16 := by
    rw [show 16 * (x / 16) = 2 * (2 * (2 * (2 * (x / 16)))) by omega]
    simp only [stps, stp_twice]
  conv => rhs; rw [e]
  rw [stps_xor, e2, T16_steps ⟨x % 16, hm⟩]

theorem ofBits_byte (c : UInt8) : ofBits (byteBits c) = c.toNat := by
  unfold byteBits
  rw [ofBits_range]
  exact Nat.mod_eq_of_lt c.toNat_lt

theorem reg_byte (r : Nat) (c : UInt8) : reg r (byteBits c) = stps 4 (stps 4 (r ^^^ c.toNat)) := by
  rw [reg_stps, ofBits_byte, ← stps_add]
  rfl

theorem bits_snoc (l : List UInt8) (c : UInt8) : bitsB (l ++ [c]) = bitsB l ++ byteBits c := by simp [bitsB]

theorem reg_take (r : Nat) (l : List UInt8) (k : Nat) (h : k < l.length) : reg r (bitsB (l.take (k + 1))) = stps 4 (stps 4 (reg r (bitsB (l.take k)) ^^^ l[k].toNat)) := by
  rw [List.take_succ_eq_append_getElem h, bits_snoc, reg_append, reg_byte]

theorem xor_le {a b : Nat} (ha : a ≤ 4294967295) (hb : b ≤ 4294967295) : a ^^^ b ≤ 4294967295 := by
  have := Nat.xor_lt_two_pow (x := a) (y := b) (n := 32) (by omega) (by omega)
  omega

theorem x32 {a b : Nat} (ha : a ≤ 4294967295) (hb : b ≤ 4294967295) : bits .xor .u32 (a : Int) (b : Int) = ((a ^^^ b : Nat) : Int) := u32_xor_nat a b (by omega) (by omega)

theorem a32_15 {a : Nat} (ha : a ≤ 4294967295) : bits .and .u32 (a : Int) 15 = ((a % 16 : Nat) : Int) := by
  rw [show (15 : Int) = ((15 : Nat) : Int) from rfl, u32_and_nat a 15 (by omega) (by omega), nat_mask4]

theorem a32_1 {a : Nat} (ha : a ≤ 4294967295) : bits .and .u32 (a : Int) 1 = ((a % 2 : Nat) : Int) := by
  rw [show (1 : Int) = ((1 : Nat) : Int) from rfl, u32_and_nat a 1 (by omega) (by omega), nat_mask1]

theorem not32 {a : Nat} (ha : a ≤ 4294967295) : bits .xor .u32 IntKind.u32.max (a : Int) = ((4294967295 - a : Nat) : Int) := by
  rw [show IntKind.u32.max = ((4294967295 : Nat) : Int) by decide, x32 (by omega) ha]
  congr 1
  exact (top_xor (x := a) ha).symm

theorem stp_even {x : Nat} (h : x % 2 = 0) : stp x = x / 2 := by
  unfold stp
  rw [Nat.testBit_zero, Nat.shiftRight_eq_div_pow]
  simp [h]

theorem stp_odd {x : Nat} (h : x % 2 = 1) : stp x = x / 2 ^^^ 3988292384 := by
  unfold stp
  rw [Nat.testBit_zero, Nat.shiftRight_eq_div_pow]
  simp [h, pol]

theorem stp_le {x : Nat} (h : x ≤ 4294967295) : stp x ≤ 4294967295 := by have := stp_lt (x := x) (by omega); omega
theorem stps_le (k : Nat) {x : Nat} (h : x ≤ 4294967295) : stps k x ≤ 4294967295 := by have := stps_lt k (x := x) (by omega); omega
theorem reg_le' {l : List Bool} {x : Nat} (h : x ≤ 4294967295) : reg x l ≤ 4294967295 := reg_le h

/-- What some steps make of each bit of a number. -/
def zarr (m : Nat) : Array Value := (Array.range 32).map fun i => .int .u32 (stps m (2 ^ i) : Nat)

theorem zarr_size (m : Nat) : (zarr m).size = 32 := by simp [zarr]

theorem zarr_get (m i : Nat) (h : i < 32) : (zarr m)[i]? = some (.int .u32 (stps m (2 ^ i) : Nat)) := by
  simp [zarr, h]

theorem zarr_of (m : Nat) (C : Array Value) (hC : C.size = 32) (h : ∀ i, i < 32 → C[i]? = some (.int .u32 (stps m (2 ^ i) : Nat))) : C = zarr m := by
  apply Array.ext_getElem?
  intro i
  by_cases hi : i < 32
  · rw [h i hi, zarr_get m i hi]
  · rw [Array.getElem?_eq_none (by omega), Array.getElem?_eq_none (by rw [zarr_size]; omega)]

theorem pow_le {i : Nat} (h : i < 32) : 2 ^ i ≤ 4294967295 := by
  have := Nat.pow_lt_pow_right (a := 2) (by omega) h
  omega

/-- One more bit of a number. -/
theorem mod_bit (n k : Nat) : n % 2 ^ (k + 1) = n % 2 ^ k ^^^ (if n / 2 ^ k % 2 = 1 then 2 ^ k else 0) := by
  apply Nat.eq_of_testBit_eq
  intro i
  have hb : n.testBit k = decide (n / 2 ^ k % 2 = 1) := by
    rw [Nat.testBit_eq_decide_div_mod_eq]
  rw [Nat.testBit_xor, Nat.testBit_mod_two_pow, Nat.testBit_mod_two_pow]
  by_cases e : i = k
  · subst e
    by_cases h : n / 2 ^ i % 2 = 1
    · simp [h, hb]
    · simp [h, hb]
  · have h1 : decide (i < k + 1) = decide (i < k) := by rw [decide_eq_decide]; omega
    have h2 : (if n / 2 ^ k % 2 = 1 then 2 ^ k else 0).testBit i = false := by
      split
      · rw [Nat.testBit_two_pow]; simp; omega
      · simp
    rw [h1, h2]
    simp

theorem stps_bit_on (m n k : Nat) (h : n / 2 ^ k % 2 = 1) : stps m (n % 2 ^ k) ^^^ stps m (2 ^ k) = stps m (n % 2 ^ (k + 1)) := by
  rw [mod_bit, if_pos h, stps_xor]

theorem stps_bit_off (n k : Nat) (h : n / 2 ^ k % 2 ≠ 1) : n % 2 ^ (k + 1) = n % 2 ^ k := by
  rw [mod_bit, if_neg h, Nat.xor_zero]

end Go.Proofs.YtijdbmapdmhknaaDoor
namespace Go.Proofs.YtijdbmapdmhknaaDoor

/-- The parts of i to the power k. -/
def pr (k : Nat) : Int := if k % 4 = 0 then 1 else if k % 4 = 2 then -1 else 0
def pi (k : Nat) : Int := if k % 4 = 1 then 1 else if k % 4 = 3 then -1 else 0

theorem pr_next (k : Nat) : pr (k + 1) = -(pi k) := by
  unfold pr pi
  have h : k % 4 = 0 ∨ k % 4 = 1 ∨ k % 4 = 2 ∨ k % 4 = 3 := by omega
  rcases h with h | h | h | h
  · rw [show (k + 1) % 4 = 1 by omega, h]; rfl
  · rw [show (k + 1) % 4 = 2 by omega, h]; rfl
  · rw [show (k + 1) % 4 = 3 by omega, h]; rfl
  · rw [show (k + 1) % 4 = 0 by omega, h]; rfl

theorem pi_next (k : Nat) : pi (k + 1) = pr k := by
  unfold pr pi
  have h : k % 4 = 0 ∨ k % 4 = 1 ∨ k % 4 = 2 ∨ k % 4 = 3 := by omega
  rcases h with h | h | h | h
  · rw [show (k + 1) % 4 = 1 by omega, h]; rfl
  · rw [show (k + 1) % 4 = 2 by omega, h]; rfl
  · rw [show (k + 1) % 4 = 3 by omega, h]; rfl
  · rw [show (k + 1) % 4 = 0 by omega, h]; rfl

theorem pr_abs (k : Nat) : -1 ≤ pr k ∧ pr k ≤ 1 := by unfold pr; split <;> (try split) <;> omega
theorem pi_abs (k : Nat) : -1 ≤ pi k ∧ pi k ≤ 1 := by unfold pi; split <;> (try split) <;> omega
theorem pr_mod (k : Nat) : pr k = pr (k % 4) := by unfold pr; rw [Nat.mod_mod]
theorem pi_mod (k : Nat) : pi k = pi (k % 4) := by unfold pi; rw [Nat.mod_mod]

/-- The parts of the weight of bytes the first of which stands at k. -/
def wRe : Nat → List UInt8 → Int
  | _, [] => 0
  | k, b :: l => (b.toNat : Int) * pr k + wRe (k + 1) l
def wIm : Nat → List UInt8 → Int
  | _, [] => 0
  | k, b :: l => (b.toNat : Int) * pi k + wIm (k + 1) l

theorem wRe_append : ∀ (k : Nat) (a b : List UInt8), wRe k (a ++ b) = wRe k a + wRe (k + a.length) b
  | k, [], b => by simp [wRe]
  | k, x :: a, b => by
    simp only [List.cons_append, wRe, List.length_cons]
    rw [wRe_append (k + 1) a b, show k + 1 + a.length = k + (a.length + 1) by omega]
    omega
theorem wIm_append : ∀ (k : Nat) (a b : List UInt8), wIm k (a ++ b) = wIm k a + wIm (k + a.length) b
  | k, [], b => by simp [wIm]
  | k, x :: a, b => by
    simp only [List.cons_append, wIm, List.length_cons]
    rw [wIm_append (k + 1) a b, show k + 1 + a.length = k + (a.length + 1) by omega]
    omega

theorem wRe_take (l : List UInt8) (i : Nat) (h : i < l.length) : wRe 0 (l.take (i + 1)) = wRe 0 (l.take i) + (l[i].toNat : Int) * pr i := by
  rw [List.take_succ_eq_append_getElem h, wRe_append, List.length_take, Nat.min_eq_left (by omega)]
  simp [wRe]
theorem wIm_take (l : List UInt8) (i : Nat) (h : i < l.length) : wIm 0 (l.take (i + 1)) = wIm 0 (l.take i) + (l[i].toNat : Int) * pi i := by
  rw [List.take_succ_eq_append_getElem h, wIm_append, List.length_take, Nat.min_eq_left (by omega)]
  simp [wIm]

theorem mul_abs (b : UInt8) (p : Int) (h : -1 ≤ p ∧ p ≤ 1) : -255 ≤ (b.toNat : Int) * p ∧ (b.toNat : Int) * p ≤ 255 := by
  have hb := b.toNat_lt
  have h3 : p = -1 ∨ p = 0 ∨ p = 1 := by omega
  rcases h3 with rfl | rfl | rfl <;> omega

theorem wRe_abs : ∀ (k : Nat) (l : List UInt8), -(255 * (l.length : Int)) ≤ wRe k l ∧ wRe k l ≤ 255 * (l.length : Int)
  | _, [] => by simp [wRe]
  | k, b :: l => by
    have h := wRe_abs (k + 1) l
    have hm := mul_abs b (pr k) (pr_abs k)
    simp only [wRe, List.length_cons]
    omega
theorem wIm_abs : ∀ (k : Nat) (l : List UInt8), -(255 * (l.length : Int)) ≤ wIm k l ∧ wIm k l ≤ 255 * (l.length : Int)
  | _, [] => by simp [wIm]
  | k, b :: l => by
    have h := wIm_abs (k + 1) l
    have hm := mul_abs b (pi k) (pi_abs k)
    simp only [wIm, List.length_cons]
    omega

/-! ### Turned. -/
/-- A weight turned so many times. -/
def rot : Nat → Int × Int → Int × Int
  | 0, z => z
  | n + 1, z => rot n (-z.2, z.1)

theorem rot_add : ∀ (m n : Nat) (z : Int × Int), rot (m + n) z = rot n (rot m z)
  | 0, n, z => by rw [Nat.zero_add]; rfl
  | m + 1, n, z => by
    rw [show m + 1 + n = (m + n) + 1 by omega]
    exact rot_add m n _

theorem rot_four (z : Int × Int) : rot 4 z = z := by simp [rot]

theorem rot_mod (n : Nat) (z : Int × Int) : rot (n % 4) z = rot n z := by
  have h : ∀ k (z : Int × Int), rot (4 * k) z = z := by
    intro k
    induction k with
    | zero => intro z; rfl
    | succ k ih => intro z; rw [show 4 * (k + 1) = 4 + 4 * k by omega, rot_add, rot_four, ih]
  conv => rhs; rw [show n = 4 * (n / 4) + n % 4 by omega, rot_add, h]

theorem rot_succ (n : Nat) (z : Int × Int) : rot (n + 1) z = (-(rot n z).2, (rot n z).1) := by rw [rot_add]; rfl

theorem rot_abs (B : Int) : ∀ (n : Nat) (z : Int × Int), (-B ≤ z.1 ∧ z.1 ≤ B) ∧ (-B ≤ z.2 ∧ z.2 ≤ B) → (-B ≤ (rot n z).1 ∧ (rot n z).1 ≤ B) ∧ (-B ≤ (rot n z).2 ∧ (rot n z).2 ≤ B)
  | 0, _, h => h
  | n + 1, z, h => rot_abs B n (-z.2, z.1) ⟨by simp only; omega, by simp only; omega⟩

theorem rot_one (n : Nat) : rot n (1, 0) = (pr n, pi n) := by
  induction n with
  | zero => rfl
  | succ n ih => rw [rot_succ, ih, pr_next, pi_next]

theorem w_shift : ∀ (k : Nat) (l : List UInt8), wRe (k + 1) l = -(wIm k l) ∧ wIm (k + 1) l = wRe k l
  | _, [] => by simp [wRe, wIm]
  | k, b :: l => by
    have h := w_shift (k + 1) l
    simp only [wRe, wIm]
    rw [h.1, h.2, pr_next, pi_next]
    constructor
    · rw [Int.mul_neg]; omega
    · rfl

theorem w_rot (k n : Nat) (l : List UInt8) : (wRe (k + n) l, wIm (k + n) l) = rot n (wRe k l, wIm k l) := by
  induction n with
  | zero => rfl
  | succ n ih =>
    rw [rot_succ, ← ih, show k + (n + 1) = (k + n) + 1 by omega, (w_shift (k + n) l).1, (w_shift (k + n) l).2]

/-- The weight of a text, by those of its parts. -/
theorem w_join (l : List UInt8) (k : Nat) (hk : k ≤ l.length) :
    wRe 0 l = wRe 0 (l.take k) + (rot k (wRe 0 (l.drop k), wIm 0 (l.drop k))).1 ∧ wIm 0 l = wIm 0 (l.take k) + (rot k (wRe 0 (l.drop k), wIm 0 (l.drop k))).2 := by
  have e := w_rot 0 k (l.drop k)
  have hl : (l.take k).length = k := by rw [List.length_take, Nat.min_eq_left hk]
  have h1 := wRe_append 0 (l.take k) (l.drop k)
  have h2 := wIm_append 0 (l.take k) (l.drop k)
  rw [List.take_append_drop, hl] at h1 h2
  rw [← e]
  exact ⟨h1, h2⟩

/-! ### Bytes that change places. -/
theorem wRe_set : ∀ (l : List UInt8) (k i : Nat) (b : UInt8) (h : i < l.length), wRe k (l.set i b) = wRe k l + ((b.toNat : Int) - (l[i].toNat : Int)) * pr (k + i)
  | [], _, _, _, h => by simp at h
  | x :: l, k, 0, b, h => by
    simp only [List.set_cons_zero, wRe, List.getElem_cons_zero, Nat.add_zero]
    rw [Int.sub_mul]; omega
  | x :: l, k, i + 1, b, h => by
    have h' : i < l.length := by simpa using h
    simp only [List.set_cons_succ, wRe, List.getElem_cons_succ]
    rw [wRe_set l (k + 1) i b h', show k + 1 + i = k + (i + 1) by omega]
    omega
theorem wIm_set : ∀ (l : List UInt8) (k i : Nat) (b : UInt8) (h : i < l.length), wIm k (l.set i b) = wIm k l + ((b.toNat : Int) - (l[i].toNat : Int)) * pi (k + i)
  | [], _, _, _, h => by simp at h
  | x :: l, k, 0, b, h => by
    simp only [List.set_cons_zero, wIm, List.getElem_cons_zero, Nat.add_zero]
    rw [Int.sub_mul]; omega
  | x :: l, k, i + 1, b, h => by
    have h' : i < l.length := by simpa using h
    simp only [List.set_cons_succ, wIm, List.getElem_cons_succ]
    rw [wIm_set l (k + 1) i b h', show k + 1 + i = k + (i + 1) by omega]
    omega

theorem w_swap (l : List UInt8) (a b : Nat) (ha : a < l.length) (hb : b < l.length) (h : a % 4 = b % 4) :
    wRe 0 ((l.set a l[b]).set b l[a]) = wRe 0 l ∧ wIm 0 ((l.set a l[b]).set b l[a]) = wIm 0 l := by
  have hb' : b < (l.set a l[b]).length := by rw [List.length_set]; exact hb
  have e : (l.set a l[b])[b] = l[b] := by
    rw [List.getElem_set]
    split <;> rfl
  rw [wRe_set _ 0 b _ hb', wIm_set _ 0 b _ hb', wRe_set l 0 a _ ha, wIm_set l 0 a _ ha, e, Nat.zero_add, Nat.zero_add, pr_mod a, pi_mod a, pr_mod b, pi_mod b, h]
  have key : ∀ x y p : Int, (x - y) * p + (y - x) * p = 0 := fun x y p => by rw [← Int.add_mul, show x - y + (y - x) = 0 by omega, Int.zero_mul]
  constructor
  · have := key l[b].toNat l[a].toNat (pr (b % 4)); omega
  · have := key l[b].toNat l[a].toNat (pi (b % 4)); omega

end Go.Proofs.YtijdbmapdmhknaaDoor
namespace Go.Proofs.YtijdbmapdmhknaaDoor

/-- A recipe. -/
structure Rp where
  name : List UInt8
  size : Int
  re : Int
  im : Int
  mans : List Nat
theorem Rp.ext_iff' (a b : Rp) : a = b ↔ a.name = b.name ∧ a.size = b.size ∧ a.re = b.re ∧ a.im = b.im ∧ a.mans = b.mans := by
  cases a; cases b; simp
instance : DecidableEq Rp := fun a b => decidable_of_iff _ (Rp.ext_iff' a b).symm
def Rp.zero : Rp := ⟨[], 0, 0, 0, []⟩
def partQ (z : Int) : Prop := -2147483648 ≤ z ∧ z ≤ 2147483647
instance (z : Int) : Decidable (partQ z) := by unfold partQ; infer_instance
def manQ (m : Nat) : Prop := 1 ≤ m ∧ m ≤ 4294967294
instance (m : Nat) : Decidable (manQ m) := by unfold manQ; infer_instance
def mayQ (r : Rp) : Prop := (1 ≤ r.name.length ∧ r.name.length ≤ 48) ∧ (0 ≤ r.size ∧ r.size ≤ 1048576) ∧ (partQ r.re ∧ partQ r.im) ∧ r.mans.length ≤ 1024 ∧ ∀ m ∈ r.mans, manQ m
instance (r : Rp) : Decidable (mayQ r) := by unfold mayQ; infer_instance

/-! ### The bytes -/
def magicQ : List UInt8 := [82, 69, 67, 80]
/-- A number modulo 2^32. -/
def modQ (z : Int) : Nat := (z % 4294967296).toNat
def mansB (l : List Nat) : List UInt8 := l.flatMap (leB 4)
def recpP (r : Rp) : List UInt8 := magicQ ++ (leB 4 r.size.toNat ++ (leB 4 (modQ r.re) ++ (leB 4 (modQ r.im) ++ (textB (str r.name) ++ (leB 2 r.mans.length ++ mansB r.mans)))))
def recpB (r : Rp) : List UInt8 := recpP r ++ leB 4 (moreN 0 (recpP r))
theorem mansB_len : ∀ l : List Nat, (mansB l).length = 4 * l.length
  | [] => rfl
  | m :: l => by
    show (leB 4 m ++ mansB l).length = _
    rw [List.length_append, leB_len, mansB_len l, List.length_cons]; omega
theorem recpP_len (r : Rp) : (recpP r).length = 22 + r.name.length + 4 * r.mans.length := by
  unfold recpP
  simp only [List.length_append, leB_len, textB_len, mansB_len, str_size]
  show 4 + _ = _
  omega
theorem recpB_len (r : Rp) : (recpB r).length = 26 + r.name.length + 4 * r.mans.length := by
  unfold recpB
  rw [List.length_append, recpP_len, leB_len]; omega

/-! ### A recipe read -/
def sgnQ (n : Nat) : Int := if 2147483647 < n then (n : Int) - 4294967296 else n
theorem sgn_mod {z : Int} (h : partQ z) : sgnQ (modQ z) = z := by
  obtain ⟨h1, h2⟩ := h
  unfold sgnQ modQ
  split <;> omega
theorem modQ_lt (z : Int) : modQ z < 4294967296 := by unfold modQ; omega
def rqA (t : List UInt8) : RdSt := (takeR (t, 0) 4).2
def rqZ (t : List UInt8) : Nat × RdSt := numR (rqA t) 4
def rqR (t : List UInt8) : Nat × RdSt := numR (rqZ t).2 4
def rqI (t : List UInt8) : Nat × RdSt := numR (rqR t).2 4
def rqN (t : List UInt8) : List UInt8 × RdSt := textR (rqI t).2
def rqC (t : List UInt8) : Nat × RdSt := numR (rqN t).2 2
def mansR : Nat → RdSt → List Nat → List Nat × RdSt
  | 0, s, acc => (acc, s)
  | k + 1, s, acc => mansR k (numR s 4).2 (acc ++ [(numR s 4).1])
def rqM (t : List UInt8) : List Nat × RdSt := mansR (rqC t).1 (rqC t).2 []
def readQ (t : List UInt8) : Rp := ⟨(rqN t).1, ((rqZ t).1 : Int), sgnQ (rqR t).1, sgnQ (rqI t).1, (rqM t).1⟩
def okQ (t : List UInt8) : Prop := (rqM t).2.2 = 0 ∧ mayQ (readQ t) ∧ recpB (readQ t) = t
instance (t : List UInt8) : Decidable (okQ t) := by unfold okQ; infer_instance
/-- The recipe that has those bytes, if one has. -/
def getQ (t : List UInt8) : Option Rp := if okQ t then some (readQ t) else none

theorem mansR_app : ∀ (l : List Nat) (R : List UInt8) (acc : List Nat), (∀ m ∈ l, m < 4294967296) → mansR l.length (mansB l ++ R, 0) acc = (acc ++ l, (R, 0))
  | [], R, acc, _ => by simp [mansR, mansB]
  | m :: l, R, acc, h => by
    have e : mansB (m :: l) ++ R = leB 4 m ++ (mansB l ++ R) := by
      show (leB 4 m ++ mansB l) ++ R = _
      rw [List.append_assoc]
    rw [e, List.length_cons]
    show mansR l.length (numR (leB 4 m ++ _, 0) 4).2 (acc ++ [(numR (leB 4 m ++ _, 0) 4).1]) = _
    rw [numR_app, mansR_app l R _ (fun x hx => h x (List.mem_cons_of_mem _ hx)), Nat.mod_eq_of_lt (h m (List.mem_cons_self ..)), List.append_assoc]
    rfl
theorem readQ_recpB {r : Rp} (h : mayQ r) : readQ (recpB r) = r ∧ (rqM (recpB r)).2.2 = 0 := by
  obtain ⟨⟨h1, h2⟩, ⟨h3, h4⟩, ⟨h5, h6⟩, h7, h8⟩ := h
  obtain ⟨T, hT⟩ : ∃ T, T = leB 4 (moreN 0 (recpP r)) := ⟨_, rfl⟩
  have e0 : recpB r = magicQ ++ (leB 4 r.size.toNat ++ (leB 4 (modQ r.re) ++ (leB 4 (modQ r.im) ++ (textB (str r.name) ++ (leB 2 r.mans.length ++ (mansB r.mans ++ T)))))) := by
    unfold recpB
    rw [← hT]
    unfold recpP
    simp only [List.append_assoc]
  obtain ⟨t, ht⟩ : ∃ t, t = recpB r := ⟨_, rfl⟩
  rw [← ht] at e0 ⊢
  have eA : rqA t = (leB 4 r.size.toNat ++ (leB 4 (modQ r.re) ++ (leB 4 (modQ r.im) ++ (textB (str r.name) ++ (leB 2 r.mans.length ++ (mansB r.mans ++ T))))), 0) := by
    unfold rqA
    rw [e0]
    show (takeR (magicQ ++ _, 0) ((4 : Nat) : Int)).2 = _
    rw [takeR_app magicQ _ 4 rfl]
  have eZ : rqZ t = (r.size.toNat, (leB 4 (modQ r.re) ++ (leB 4 (modQ r.im) ++ (textB (str r.name) ++ (leB 2 r.mans.length ++ (mansB r.mans ++ T)))), 0)) := by
    unfold rqZ
    rw [eA, numR_app, Nat.mod_eq_of_lt (show r.size.toNat < 256 ^ 4 by omega)]
  have eR : rqR t = (modQ r.re, (leB 4 (modQ r.im) ++ (textB (str r.name) ++ (leB 2 r.mans.length ++ (mansB r.mans ++ T))), 0)) := by
    have := modQ_lt r.re
    unfold rqR
    rw [eZ, numR_app, Nat.mod_eq_of_lt (show modQ r.re < 256 ^ 4 by omega)]
  have eI : rqI t = (modQ r.im, (textB (str r.name) ++ (leB 2 r.mans.length ++ (mansB r.mans ++ T)), 0)) := by
    have := modQ_lt r.im
    unfold rqI
    rw [eR, numR_app, Nat.mod_eq_of_lt (show modQ r.im < 256 ^ 4 by omega)]
  have eN : rqN t = (r.name, (leB 2 r.mans.length ++ (mansB r.mans ++ T), 0)) := by
    unfold rqN
    rw [eI, textR_app _ _ (by rw [str_size]; omega), str_list]
  have eC : rqC t = (r.mans.length, (mansB r.mans ++ T, 0)) := by
    unfold rqC
    rw [eN, numR_app, Nat.mod_eq_of_lt (show r.mans.length < 256 ^ 2 by omega)]
  have eM : rqM t = (r.mans, (T, 0)) := by
    unfold rqM
    rw [eC, mansR_app _ _ _ (fun m hm => by have := (h8 m hm).2; omega)]
    rfl
  refine ⟨?_, by rw [eM]⟩
  rw [Rp.ext_iff']
  unfold readQ
  rw [eN, eZ, eR, eI, eM]
  exact ⟨rfl, by simp only; omega, sgn_mod h5, sgn_mod h6, rfl⟩
theorem getQ_recpB {r : Rp} (h : mayQ r) : getQ (recpB r) = some r := by
  obtain ⟨h1, h2⟩ := readQ_recpB h
  unfold getQ
  rw [if_pos ⟨h2, by rw [h1]; exact h, by rw [h1]⟩, h1]
theorem getQ_ok {t : List UInt8} {r : Rp} (h : getQ t = some r) : mayQ r ∧ recpB r = t := by
  unfold getQ at h
  split at h
  · rename_i ok
    have e := Option.some.inj h
    rw [← e]
    exact ok.2
  · cases h
theorem getQ_iff (t : List UInt8) (r : Rp) : getQ t = some r ↔ mayQ r ∧ recpB r = t :=
  ⟨getQ_ok, fun ⟨a, b⟩ => by rw [← b]; exact getQ_recpB a⟩

/-! ### Weights -/
def ofR (name s : List UInt8) (mans : List Nat) : Rp := ⟨name, (s.length : Int), wRe 0 s, wIm 0 s, mans⟩
def ofQ (name s : List UInt8) (mans : List Nat) : Option Rp := if mayQ (ofR name s mans) then some (ofR name s mans) else none
def fitsQ (r : Rp) (s : List UInt8) : Prop := mayQ r ∧ (s.length : Int) = r.size ∧ wRe 0 s = r.re ∧ wIm 0 s = r.im
instance (r : Rp) (s : List UInt8) : Decidable (fitsQ r s) := by unfold fitsQ; infer_instance
/-- One behind another. -/
def stepQ (a b : Rp) : Rp := ⟨a.name, a.size + b.size, a.re + (rot a.size.toNat (b.re, b.im)).1, a.im + (rot a.size.toNat (b.re, b.im)).2, a.mans ++ b.mans⟩
def joinL (name : List UInt8) (l : List Rp) : Rp := l.foldl stepQ ⟨name, 0, 0, 0, []⟩
def joinQ (name : List UInt8) (l : List Rp) : Option Rp := if (∀ r ∈ l, mayQ r) ∧ mayQ (joinL name l) then some (joinL name l) else none
theorem joinL_snoc (name : List UInt8) (l : List Rp) (r : Rp) : joinL name (l ++ [r]) = stepQ (joinL name l) r := by
  unfold joinL
  rw [List.foldl_append]; rfl
theorem joinL_name (name : List UInt8) (l : List Rp) : (joinL name l).name = name := by
  unfold joinL
  have : ∀ (l : List Rp) (a : Rp), (l.foldl stepQ a).name = a.name := by
    intro l
    induction l with
    | nil => intro a; rfl
    | cons x l ih => intro a; rw [List.foldl_cons, ih]; rfl
  exact this l _
theorem step_of (name part s t : List UInt8) (m n : List Nat) : stepQ (ofR name s m) (ofR part t n) = ofR name (s ++ t) (m ++ n) := by
  unfold stepQ ofR
  simp only
  rw [Int.toNat_natCast, ← w_rot 0 s.length t, Nat.zero_add, wRe_append, wIm_append, Nat.zero_add, List.length_append]
  simp
/-- The recipes of texts, joined, are the recipe of the texts, joined. -/
theorem join_of (name part : List UInt8) : ∀ (l : List (List UInt8 × List Nat)), joinL name (l.map fun x => ofR part x.1 x.2) = ofR name (l.map Prod.fst).flatten (l.map Prod.snd).flatten := by
  intro l
  have : ∀ (l : List (List UInt8 × List Nat)) (s : List UInt8) (m : List Nat), (l.map fun x => ofR part x.1 x.2).foldl stepQ (ofR name s m) = ofR name (s ++ (l.map Prod.fst).flatten) (m ++ (l.map Prod.snd).flatten) := by
    intro l
    induction l with
    | nil => intro s m; simp
    | cons x l ih =>
      intro s m
      rw [List.map_cons, List.foldl_cons, step_of, ih]
      simp
  exact this l [] []

end Go.Proofs.YtijdbmapdmhknaaDoor
