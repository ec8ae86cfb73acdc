/- Plain facts on bytes, of no program: a number's bytes, the least first, and what follows of them. Laws that every stage wants: regions that draw their order in which nothing that was is written (the class Kept); loads there and elsewhere; what stays but some blocks. Slices of any type as flat rows of cells; what is appended of them, whatever they are; where an append's row lies. Runs of sectors as the document says them: the mathematics of stage 10, of no program. Plain lists of runs: one list for each set of sectors; joined, sorted, put together. Mathematics of stage 10, of no program. Lists of runs in memory; rows of truths; the document's end, over, Same; few. -/
import Derived.Lib.Strings
import Derived.Below
import Derived.Laws.AppendOwn
import Derived.Laws.IdiomStrings
import Derived.Lib.Builder
import Derived.Lib.UnsafeStr
import Derived.Lib.AppendStr
import Derived.Laws.BitsAllLaws
import Derived.IntWalk
import Derived.Lib.Hide
import Derived.BigQuiet
import Derived.BigFrame
import Derived.Laws.Externs
import Derived.WalkKit
import Derived.WalkSpells
import Derived.WalkLawsBesides
import Derived.Deep.OwnRows
import Derived.Laws.Rows
import Derived.Deep.WholeRow
import Derived.RegionTactic
import Derived.Deep.RegionWith
import Derived.Deep.RegionHeld
import Derived.Deep.MidRow
import Derived.Deep.QuietTactic
import Derived.Laws.MakeOwn
import Derived.Test.YtlfmmhalheohdaaDoorRows
import Derived.Laws.OwnMore
namespace Go.Proofs.YtlfmmhalheohdaaDoor
open Go.RowKit

/-- The bytes of a number, so many, the least first. -/
def leB : Nat → Nat → List UInt8
  | 0, _ => []
  | k + 1, n => UInt8.ofNat n :: leB k (n / 256)

theorem leB_len : ∀ k n, (leB k n).length = k
  | 0, _ => rfl
  | k + 1, n => by simp [leB, leB_len k]

theorem leB_get : ∀ k n i (h : i < (leB k n).length), (leB k n)[i] = UInt8.ofNat (n / 256 ^ i)
  | 0, _, i, h => by simp [leB] at h
  | k + 1, n, 0, h => by simp [leB]
  | k + 1, n, i + 1, h => by
    simp only [leB, List.getElem_cons_succ]
    rw [leB_get k (n / 256) i]
    rw [Nat.div_div_eq_div_mul, Nat.pow_succ, Nat.mul_comm]

/-- A text of a list of bytes. -/
def str (l : List UInt8) : ByteArray := ⟨l.toArray⟩

theorem str_size (l : List UInt8) : (str l).size = l.length := by simp [str, ByteArray.size]

theorem str_list (l : List UInt8) : (str l).data.toList = l := rfl

theorem str_append (a b : List UInt8) : str a ++ str b = str (a ++ b) := by
  apply ByteArray.ext
  simp [str, ByteArray.data_append]

theorem str_data (s : ByteArray) : str s.data.toList = s := by
  obtain ⟨⟨l⟩⟩ := s
  rfl

theorem byte_div (n i : Nat) : (((n : Int) / 2 ^ (8 * i)) % 256 : Int) = ((UInt8.ofNat (n / 256 ^ i)).toNat : Int) := by
  have e : (2 : Int) ^ (8 * i) = ((256 ^ i : Nat) : Int) := by
    rw [Int.natCast_pow, show ((256 : Nat) : Int) = 2 ^ 8 from rfl, ← Int.pow_mul]
  rw [e, UInt8.toNat_ofNat']
  omega

/-- Behind a call: what was kept up to the call, and what the call kept. -/
theorem Below.then' {B : Nat} {a w w' : World} (h : Below B a w) (hb : Below w.heap.size w w') (hB : B ≤ w.heap.size) : Below B a w' := h.trans (hb.mono hB)

theorem le_drew_alloc (w : World) (o : Obj) : w.heap.size ≤ (w.alloc o).drew.heap.size := by
  show w.heap.size ≤ (w.heap.push o).size
  simp

/-- 'string(b)' of a row of the call's own. -/
theorem conv_bytes {P : Program} (w : World) (src dst e : TypeId) (b n cap : Nat) (l : List UInt8) (hl : l.length = n) (hs : P.underlying src = some (.slice e)) (he : P.underlying e = some (.int .u8)) (hd : P.underlying dst = some .string)
    (hc : ∀ j (hj : j < l.length), w.cell? ⟨b, j, none⟩ = some (.int .u8 (l[j].toNat : Int))) :
    (convert src dst (.slice (some ⟨b, 0, none⟩) n cap)).run P w = .ok (.string (str l)) w := by
  subst hl
  exact run_convert_bytes_back w src dst e ⟨b, 0, none⟩ cap l hs he hd (fun j hj => by
    have e : (⟨b, 0, none⟩ : Addr).add j = ⟨b, j, none⟩ := by unfold Addr.add; split <;> simp_all
    rw [e]; exact hc j hj)

/-- The bytes of a text, of some texts, of a list of texts. -/
def textB (s : ByteArray) : List UInt8 := leB 4 s.size ++ s.data.toList
def textsB (ss : List ByteArray) : List UInt8 := (ss.map textB).flatten
def listB (ss : List ByteArray) : List UInt8 := leB 4 ss.length ++ textsB ss

theorem data_len (s : ByteArray) : s.data.toList.length = s.size := (Lib.size_eq s).symm

theorem textB_len (s : ByteArray) : (textB s).length = 4 + s.size := by simp [textB, leB_len]

theorem textsB_snoc (ss : List ByteArray) (k : Nat) (h : k < ss.length) : textsB (ss.take (k + 1)) = textsB (ss.take k) ++ textB ss[k] := by
  unfold textsB
  rw [List.take_succ_eq_append_getElem h]
  simp only [List.map_append, List.flatten_append, List.map_cons, List.map_nil, List.flatten_cons, List.flatten_nil, List.append_nil]

theorem textsB_take_le (ss : List ByteArray) (k : Nat) : (textsB (ss.take k)).length ≤ (textsB ss).length := by
  conv => rhs; rw [← List.take_append_drop k ss]
  unfold textsB
  simp only [List.map_append, List.flatten_append, List.length_append]
  omega

theorem size_le_texts (ss : List ByteArray) (k : Nat) (h : k < ss.length) : 4 + (ss[k]).size + (textsB (ss.take k)).length ≤ (textsB ss).length := by
  have h1 := textsB_take_le ss (k + 1)
  rw [textsB_snoc ss k h, List.length_append, textB_len] at h1
  omega

theorem texts_ge : ∀ ss : List ByteArray, 4 * ss.length ≤ (textsB ss).length
  | [] => by simp
  | s :: ss => by
    have h := texts_ge ss
    have e : textsB (s :: ss) = textB s ++ textsB ss := by simp [textsB]
    rw [e, List.length_append, textB_len, List.length_cons]
    omega

theorem str_text (s : ByteArray) : str (leB 4 s.size) ++ s = str (textB s) := by
  have h : str (leB 4 s.size) ++ str s.data.toList = str (textB s) := str_append _ _
  rwa [str_data] at h

theorem strCells_str (l : List UInt8) : Lib.strCells (str l) = Lib.byteCells l := rfl

/-- The value v is a slice of the texts ss in the world w. -/
def StrAt (ss : List ByteArray) (v : Value) (w : World) : Prop :=
  ∃ p c, v = .slice p ss.length c ∧ (ss = [] ∨ ∃ b off, p = some ⟨b, off, none⟩ ∧ ∀ i (h : i < ss.length), w.cell? ⟨b, off + i, none⟩ = some (.string ss[i]))

theorem StrAt.later {ss : List ByteArray} {v : Value} {w w' : World} (h : StrAt ss v w) (hb : Below w.heap.size w w') : StrAt ss v w' := by
  obtain ⟨p, c, rfl, h⟩ := h
  refine ⟨p, c, rfl, ?_⟩
  rcases h with h | ⟨b, off, hp, hc⟩
  · exact Or.inl h
  · exact Or.inr ⟨b, off, hp, fun i hi => (hb.cell (World.block_lt_of_cell? _ _ (hc i hi))).trans (hc i hi)⟩

theorem addr_cell {w : World} {a : Addr} {v : Value} (h : w.cell? (a.add 0) = some v) : a = ⟨a.block, a.off, none⟩ := by
  obtain ⟨b, o, sp⟩ := a
  cases sp with
  | none => rfl
  | some x =>
    exfalso
    have e : (⟨b, o, some x⟩ : Addr).add 0 = ⟨b, o, some x⟩ := by simp [Addr.add]
    rw [e] at h
    unfold World.cell? at h
    split at h <;> simp at h

theorem addr_add (b o i : Nat) : (⟨b, o, none⟩ : Addr).add i = ⟨b, o + i, none⟩ := by unfold Addr.add; split <;> simp_all

theorem strAt_open {w : World} {a : Addr} {len cap : Nat} {ss : List ByteArray} (hl : len ≤ ss.length) (hc : ∀ i, i < ss.length → w.cell? (a.add i) = some (.string (ss.getD i ByteArray.empty))) :
    StrAt (ss.take len) (.slice (some a) len cap) w := by
  refine ⟨some a, cap, by rw [List.length_take, Nat.min_eq_left hl], ?_⟩
  by_cases h0 : len = 0
  · left; rw [h0]; simp
  · right
    have ha := addr_cell (hc 0 (by omega))
    refine ⟨a.block, a.off, by rw [← ha], fun i hi => ?_⟩
    rw [List.length_take] at hi
    have h := hc i (by omega)
    rw [ha] at h
    rw [addr_add] at h
    rw [h, List.getElem_take]
    simp [List.getD, List.getElem?_eq_getElem (show i < ss.length by omega)]

/-- The value v is a slice of the numbers zs in the world w. -/
def IntAt (k : IntKind) (zs : List Int) (v : Value) (w : World) : Prop :=
  ∃ p c, v = .slice p zs.length c ∧ (zs = [] ∨ ∃ b off, p = some ⟨b, off, none⟩ ∧ ∀ i (h : i < zs.length), w.cell? ⟨b, off + i, none⟩ = some (.int k zs[i]))

theorem intAt_open {k : IntKind} {w : World} {a : Addr} {len cap : Nat} {ss : List Int} (hl : len ≤ ss.length) (hc : ∀ i, i < ss.length → w.cell? (a.add i) = some (.int k (ss.getD i 0))) :
    IntAt k (ss.take len) (.slice (some a) len cap) w := by
  refine ⟨some a, cap, by rw [List.length_take, Nat.min_eq_left hl], ?_⟩
  by_cases h0 : len = 0
  · left; rw [h0]; simp
  · right
    have ha := addr_cell (hc 0 (by omega))
    refine ⟨a.block, a.off, by rw [← ha], fun i hi => ?_⟩
    rw [List.length_take] at hi
    have h := hc i (by omega)
    rw [ha] at h
    rw [addr_add] at h
    rw [h, List.getElem_take]
    simp [List.getD, List.getElem?_eq_getElem (show i < ss.length by omega)]

/-- What a law's walk comes to: true, and nothing that was there has turned. -/
def LawPost (w : World) (e : Ending) (w' : World) : Prop := e = .returned (.bool true) ∧ Below w.heap.size w w'

/-- A builder is one still behind a call that kept what there was. -/
theorem builder_later {T e : TypeId} {B b : Nat} {bs : List Value} {w w' : World} (h : Lib.IsBuilder T e B b bs w) (hb : Below w.heap.size w w') : Lib.IsBuilder T e B b bs w' := by
  have one : ∀ p, Lib.BuilderAt T e B b p bs w → Lib.BuilderAt T e B b p bs w' := by
    intro p h
    have hlt := h.lt
    obtain ⟨hB, v, hbk, hown, hne⟩ := h
    refine ⟨hB, v, (hb.block b hlt).trans hbk, hown.kept (row := none) ⟨hb.os, hb.tape, hb.output, hb.size, fun k hk _ => hb.block k hk⟩ ?_, hne⟩
    cases hv : v.ownBlock <;> simp
  rcases h with h | h
  · exact Or.inl (one _ h)
  · exact Or.inr (one _ h)

/-! ### What a reader of bytes answers: a state is what is left, and an error's number. -/
abbrev RdSt := List UInt8 × Int

def takeR (s : RdSt) (n : Int) : List UInt8 × RdSt :=
  if s.2 ≠ 0 then ([], s)
  else if n < 0 then ([], ([], 1))
  else if (s.1.length : Int) < n then ([], ([], 10))
  else (s.1.take n.toNat, (s.1.drop n.toNat, 0))

/-- The number of some bytes, the least first. -/
def ofLE : List UInt8 → Nat
  | [] => 0
  | b :: l => b.toNat + 256 * ofLE l

def numR (s : RdSt) (k : Nat) : Nat × RdSt := (ofLE (takeR s k).1, (takeR s k).2)

def lenR (s : RdSt) (most : Nat) : Nat × RdSt := if most < (numR s 4).1 then (0, ([], 2)) else numR s 4

def textR (s : RdSt) : List UInt8 × RdSt := takeR (lenR s 65536).2 (lenR s 65536).1

def textsR : Nat → RdSt → List (List UInt8) → List (List UInt8) × RdSt
  | 0, s, acc => (acc, s)
  | k + 1, s, acc => if (textR s).2.2 = 0 then textsR k (textR s).2 (acc ++ [(textR s).1]) else ([], (textR s).2)

def listR (s : RdSt) : List (List UInt8) × RdSt := textsR (lenR s 65536).1 (lenR s 65536).2 []

theorem ofLE_lt : ∀ l : List UInt8, ofLE l < 256 ^ l.length
  | [] => by simp [ofLE]
  | b :: l => by
    have h := ofLE_lt l
    have hb := b.toNat_lt
    simp only [ofLE, List.length_cons, Nat.pow_succ]
    omega

theorem ofLE_snoc : ∀ (l : List UInt8) (b : UInt8), ofLE (l ++ [b]) = ofLE l + b.toNat * 256 ^ l.length
  | [], b => by simp [ofLE]
  | c :: l, b => by
    have h := ofLE_snoc l b
    simp only [List.cons_append, ofLE, h, List.length_cons, Nat.pow_succ]
    rw [Nat.mul_add, Nat.mul_comm (256 ^ l.length) 256, ← Nat.mul_assoc, ← Nat.mul_assoc, Nat.mul_comm 256 b.toNat]
    omega

theorem ofLE_take (l : List UInt8) (i : Nat) (h : i < l.length) : ofLE (l.take (i + 1)) = ofLE (l.take i) + l[i].toNat * 256 ^ i := by
  rw [List.take_succ_eq_append_getElem h, ofLE_snoc]
  rw [List.length_take, Nat.min_eq_left (by omega)]

theorem or_step (A B i : Nat) (hA : A < 256 ^ i) (hB : B < 256) (hi : i ≤ 7) :
    bits .or .u64 (A : Int) (IntKind.u64.wrap (IntKind.u64.wrap (B : Int) * 2 ^ (8 * i))) = ((A + B * 256 ^ i : Nat) : Int) := by
  have e256 : (256 : Nat) ^ i = 2 ^ (8 * i) := by rw [show (256 : Nat) = 2 ^ 8 from rfl, ← Nat.pow_mul]
  have hp : 256 ^ i ≤ 256 ^ 7 := Nat.pow_le_pow_right (by omega) hi
  have hB2 : B * 256 ^ i ≤ 255 * 256 ^ 7 := Nat.mul_le_mul (by omega) hp
  have w1 : IntKind.u64.wrap (B : Int) = B := IntWalk.u64_in _ (by omega)
  have e2 : (B : Int) * 2 ^ (8 * i) = ((B * 256 ^ i : Nat) : Int) := by rw [e256]; simp
  rw [w1, e2, IntWalk.u64_in _ (by omega), u64_or_nat _ _ (by omega) (by omega)]
  congr 1
  rw [e256] at hA ⊢
  have h := Nat.two_pow_add_eq_or_of_lt hA B
  rw [Nat.or_comm, Nat.mul_comm B, ← h, Nat.add_comm]

theorem str_take (l : List UInt8) (n : Nat) : (str l).extract 0 n = str (l.take n) := by
  have h := Lib.extract_eq (str l) 0 n
  rw [h, str_list]
  simp [str]

theorem str_drop (l : List UInt8) (n : Nat) : (str l).extract n l.length = str (l.drop n) := by
  have h := Lib.extract_eq (str l) n l.length
  rw [h, str_list]
  unfold str
  congr 2
  exact List.take_of_length_le (by simp)

theorem grown_set (w : World) (b i : Nat) (v : Value) : w.grownBy (w.setCell ⟨b, i, none⟩ v) (some b) :=
  ⟨rfl, rfl, rfl, by simp [World.setCell], fun k _ hk => Below.heap_setCell _ _ _ _ (fun e => hk (by simp [e]))⟩

theorem below_touch {B b : Nat} {a w w' : World} (h : Below B a w) (hg : w.grownBy w' (some b)) (hB : B ≤ w.heap.size) (hb : B ≤ b) : Below B a w' :=
  h.grown hg hB (fun k hk => by cases hk; exact hb)

theorem grown_refl (w : World) (r : Option Nat) : w.grownBy w r := ⟨rfl, rfl, rfl, Nat.le_refl _, fun _ _ _ => rfl⟩

theorem grown_trans {a b c : World} {r : Option Nat} (h : a.grownBy b r) (k : b.grownBy c r) : a.grownBy c r :=
  ⟨k.os.trans h.os, k.tape.trans h.tape, k.output.trans h.output, Nat.le_trans h.size k.size, fun i hi hr => (k.block i (Nat.lt_of_lt_of_le hi h.size) hr).trans (h.block i hi hr)⟩

theorem grown_below {w w' : World} (h : Below w.heap.size w w') (r : Option Nat) : w.grownBy w' r :=
  ⟨h.os, h.tape, h.output, h.size, fun k hk _ => h.block k hk⟩

end Go.Proofs.YtlfmmhalheohdaaDoor
namespace Go.Proofs.YtlfmmhalheohdaaDoor
open Go.RowKit

/-- All that was stands. -/
def Kept (w w' : World) : Prop := Below w.heap.size w w'

theorem Kept.refl (w : World) : Kept w w := Below.refl _ w
theorem Kept.then {w w1 w2 : World} (h : Kept w w1) (k : Below w1.heap.size w1 w2) : Kept w w2 := Below.then' h k h.size

theorem Kept.row {w w' : World} (h : Kept w w') {b : Nat} {o : Obj} (hb : w.heap[b]? = some o) : w'.heap[b]? = some o := by
  rw [h.block b (Array.getElem?_eq_some_iff.1 hb).1]; exact hb

theorem Kept.cell {w w' : World} (h : Kept w w') {a : Addr} {v : Value} (hb : w.cell? a = some v) : w'.cell? a = some v :=
  (Below.cell h (World.block_lt_of_cell? _ _ hb)).trans hb

section
variable {P : Program} {ops : Array Oper}

theorem wp_region_kept {id : Nat} {Q : Exit → Act → World → Prop} {a : Act} {w : World} {l : List Oper} (hm : P.follows .mixedOrders = true) (hB : Region.lexB .any l.toArray = true)
    (h : wpQuiet P l.toArray (Kept w) (fun a' => ∀ w', Kept w w' → Q .normal a' w') l a) : (Code.region id l.toArray true).wp P Q a w :=
  wp_region_quiet (C := Kept w) hm hB (below_drewN (Below.refl _ w) 1) (by simpa using h)

theorem Calls.kept_of {f : FuncId} {args : Array Value} {w W : World} {v : Value} (hK : Kept w W)
    (h : Calls P f args W fun e w' => e = .returned v ∧ Below W.heap.size W w') : Calls P f args W fun e w' => e = .returned v ∧ Kept w w' :=
  h.mono fun _ _ ⟨he, hb⟩ => ⟨he, hK.then hb⟩

/-- The load of a whole row, in every world of the class. -/
theorem wpQuiet_load_row {C : World → Prop} {Q : Act → Prop} {a : Act} {o : Oper} {rest : List Oper} (hw : Region.wanted o (yielded ops a.tmps) = true) (ty : TypeId) (x : Operand) (ho : o.op = .load ty x)
    (g : Nat) (hx : a.eval x = .pointer (some ⟨g, 0, none⟩)) (t : TypeId) (cs : Array Value) (fr : Nat × Nat) (d : TypeDesc) (hg : ∀ W, C W → W.heap[g]? = some (.cells cs t fr))
    (hu : P.underlying ty = some d) (hd : (match d with | .struct _ | .array _ _ => true | _ => false) = true) (hi : (P.info? ty).map (·.size) = some cs.size)
    (h : ∀ K : Act → Prop, (∀ a, wpQuiet P ops C Q rest a → K a) → K (a.put o.dst (.agg cs))) : wpQuiet P ops C Q (o :: rest) a := by
  unfold wpQuiet
  rw [if_pos hw]
  refine ⟨.agg cs, fun W hC => ?_, h _ (fun _ x => x)⟩
  unfold Oper.quietAt execOp
  simp only [ho, hx, Instr.loadAt, Instr.sureAddr, Sem.run_bind, Sem.run_pure, Result.andThen_ok, run_loadVar_row W g t ty cs fr d (hg W hC) hu hd hi]
  exact ⟨rfl, rfl⟩

/-- A call, in every world of the class. -/
theorem wpQuiet_call {C : World → Prop} {Q : Act → Prop} {a : Act} {o : Oper} {rest : List Oper} (hw : Region.wanted o (yielded ops a.tmps) = true) (f : FuncId) (args : Array Value) (v : Value)
    (ho : ∀ W, (execOp a.eval o).run P W = .ok (.enter f args) W) (hc : ∀ W, C W → Calls P f args W fun e w' => e = .returned v ∧ C w')
    (h : ∀ K : Act → Prop, (∀ a, wpQuiet P ops C Q rest a → K a) → K (a.put o.dst v)) : wpQuiet P ops C Q (o :: rest) a := by
  unfold wpQuiet
  rw [if_pos hw]
  refine ⟨v, fun W hC => ?_, h _ (fun _ x => x)⟩
  unfold Oper.quietAt
  rw [ho W]
  exact ⟨rfl, hc W hC⟩

/-- An operation that reads no memory. -/
theorem wpQuiet_pure {C : World → Prop} {Q : Act → Prop} {a : Act} {o : Oper} {rest : List Oper} (hw : Region.wanted o (yielded ops a.tmps) = true) (v : Value)
    (ho : ∀ W, C W → (execOp a.eval o).run P W = .ok (.value v) W) (h : ∀ K : Act → Prop, (∀ a, wpQuiet P ops C Q rest a → K a) → K (a.put o.dst v)) : wpQuiet P ops C Q (o :: rest) a := by
  unfold wpQuiet
  rw [if_pos hw]
  refine ⟨v, fun W hC => ?_, h _ (fun _ x => x)⟩
  unfold Oper.quietAt
  rw [ho W hC]
  exact ⟨rfl, rfl⟩
end

theorem box_below (w : World) (o : Obj) : Below w.heap.size w (w.alloc o) := (Below.refl _ _).alloc (Nat.le_refl _) _

theorem range_of_row {w : World} {b : Nat} {C : Array Value} {T : TypeId} {f : Nat × Nat} (g : w.heap[b]? = some (.cells C T f)) : w.rangeAt b 0 C.toList := fun j v hv => by
  rw [cell_of_row _ _ _ _ _ _ g, Nat.zero_add, ← Array.getElem?_toList]; exact hv

/-- The load of a number, in every world of the class. -/
theorem wpQuiet_load_int {P : Program} {ops : Array Oper} {C : World → Prop} {Q : Act → Prop} {a : Act} {o : Oper} {rest : List Oper} (hw : Region.wanted o (yielded ops a.tmps) = true) (ty : TypeId) (x : Operand) (ho : o.op = .load ty x)
    (p : Addr) (hx : a.eval x = .pointer (some p)) (k : IntKind) (hu : P.underlying ty = some (.int k)) (v : Value) (hg : ∀ W, C W → W.cell? p = some v)
    (h : ∀ K : Act → Prop, (∀ a, wpQuiet P ops C Q rest a → K a) → K (a.put o.dst v)) : wpQuiet P ops C Q (o :: rest) a := by
  refine wpQuiet_pure hw v (fun W hC => ?_) h
  have c := hg W hC
  have u := run_underlying hu
  simp [execOp, ho, hx, Instr.loadAt, Instr.sureAddr, loadVar, isAgg, u, c]

/-- The load of a slice out of a cell, in every world of the class. -/
theorem wpQuiet_load_slice {P : Program} {ops : Array Oper} {C : World → Prop} {Q : Act → Prop} {a : Act} {o : Oper} {rest : List Oper} (hw : Region.wanted o (yielded ops a.tmps) = true) (ty : TypeId) (x : Operand) (ho : o.op = .load ty x)
    (p : Addr) (hx : a.eval x = .pointer (some p)) (e : TypeId) (hu : P.underlying ty = some (.slice e)) (v : Value) (hg : ∀ W, C W → W.cell? p = some v)
    (h : ∀ K : Act → Prop, (∀ a, wpQuiet P ops C Q rest a → K a) → K (a.put o.dst v)) : wpQuiet P ops C Q (o :: rest) a := by
  refine wpQuiet_pure hw v (fun W hC => ?_) h
  have c := hg W hC
  have u := run_underlying hu
  simp [execOp, ho, hx, Instr.loadAt, Instr.sureAddr, loadVar, isAgg, u, c]

/-- The load of one cell, in every world of the class. -/
theorem wpQuiet_load_cell {P : Program} {ops : Array Oper} {C : World → Prop} {Q : Act → Prop} {a : Act} {o : Oper} {rest : List Oper} (hw : Region.wanted o (yielded ops a.tmps) = true) (ty : TypeId) (x : Operand) (ho : o.op = .load ty x)
    (p : Addr) (hx : a.eval x = .pointer (some p)) (d : TypeDesc) (hu : P.underlying ty = some d) (hd : (match d with | .struct _ | .array _ _ => true | _ => false) = false) (v : Value) (hg : ∀ W, C W → W.cell? p = some v)
    (h : ∀ K : Act → Prop, (∀ a, wpQuiet P ops C Q rest a → K a) → K (a.put o.dst v)) : wpQuiet P ops C Q (o :: rest) a := by
  refine wpQuiet_pure hw v (fun W hC => ?_) h
  have c := hg W hC
  have u := run_underlying hu
  cases d <;> first | (simp at hd; done) | (simp [execOp, ho, hx, Instr.loadAt, Instr.sureAddr, loadVar, isAgg, u, c])

/-- The load of a whole row, behind whatever guard holds. -/
theorem wpList_load_rowS {P : Program} {ops : Array Oper} {rest : List Oper} {o : Oper} {a : Act} {w : World} {Q : Exit → Act → World → Prop} (hw : Region.wanted o (yielded ops a.tmps) = true) (ty : TypeId) (x : Operand) (ho : o.op = .load ty x)
    (g : Nat) (hx : a.eval x = .pointer (some ⟨g, 0, none⟩)) (t : TypeId) (cs : Array Value) (fr : Nat × Nat) (d : TypeDesc) (hg : w.heap[g]? = some (.cells cs t fr))
    (hu : P.underlying ty = some d) (hd : (match d with | .struct _ | .array _ _ => true | _ => false) = true) (hi : (P.info? ty).map (·.size) = some cs.size)
    (h : ∀ K : Act → World → Prop, (∀ a w, wpList P ops Q rest a w → K a w) → K (a.put o.dst (.agg cs)) w) : wpList P ops Q (o :: rest) a w :=
  BigFrame.wpList_want hw fun K hK => wp_load_row ty x ho g hx t cs fr d hg hu hd hi (h K hK)

/-- A place at which a walk stands still. -/
def Halted (p : Prop) : Prop := p

theorem wpList_halt {P : Program} {ops : Array Oper} {rest : List Oper} {o : Oper} {a : Act} {w : World} {Q : Exit → Act → World → Prop} {d : Nat} (_hd : o.dst = some d) (h : Halted (wpList P ops Q (o :: rest) a w)) : wpList P ops Q (o :: rest) a w := h

/-- A store into a new block of one cell. -/
theorem store_new {P : Program} (w : World) (v c : Value) (t : TypeId) (hv : v.oneCell' = true) :
    (store ⟨w.heap.size, 0, none⟩ v).run P (w.alloc (.cells #[c] t)) = .ok () (w.alloc (.cells #[v] t)) := by
  have hg := heap_alloc_last w (.cells #[c] t)
  rw [run_store P _ _ v _ hv, cell_of_row _ _ _ _ _ _ hg, frozen_of_row _ _ _ _ _ hg, World.setCell_alloc_new]
  simp

/-- All stays but some blocks. -/
structure ButBy (Bs : Nat → Prop) (w w' : World) : Prop where
  os : w'.os = w.os
  tape : w'.tape = w.tape
  output : w'.output = w.output
  size : w.heap.size ≤ w'.heap.size
  block : ∀ k, k < w.heap.size → ¬ Bs k → w'.heap[k]? = w.heap[k]?

theorem ButBy.below {Bs : Nat → Prop} {w w' : World} (h : Below w.heap.size w w') : ButBy Bs w w' := ⟨h.os, h.tape, h.output, h.size, fun k hk _ => h.block k hk⟩

theorem ButBy.kept {Bs : Nat → Prop} {B : Nat} {w0 w w' : World} (h : ButBy Bs w w') (hB : ∀ k, Bs k → B ≤ k) (k0 : Below B w0 w) (hs : B ≤ w.heap.size) : Below B w0 w' :=
  ⟨h.os.trans k0.os, h.tape.trans k0.tape, h.output.trans k0.output, Nat.le_trans k0.size h.size, fun k hk => (h.block k (Nat.lt_of_lt_of_le hk hs) (fun e => by have := hB k e; omega)).trans (k0.block k hk)⟩

theorem ButBy.setCell {Bs : Nat → Prop} {w w' : World} (h : ButBy Bs w w') (g i : Nat) (v : Value) (hg : Bs g) : ButBy Bs w (w'.setCell ⟨g, i, none⟩ v) :=
  ⟨h.os, h.tape, h.output, by rw [World.size_setCell]; exact h.size, fun k hk hn => by rw [heap_setCell_other _ _ _ _ (fun e => hn (by rw [e]; exact hg))]; exact h.block k hk hn⟩

theorem ButBy.then_kept {Bs : Nat → Prop} {w w1 w2 : World} (h : ButBy Bs w w1) (k : Kept w1 w2) : ButBy Bs w w2 :=
  ⟨k.os.trans h.os, k.tape.trans h.tape, k.output.trans h.output, Nat.le_trans h.size k.size, fun j hj hn => (k.block j (Nat.lt_of_lt_of_le hj h.size)).trans (h.block j hj hn)⟩

theorem but_refl (Bs : Nat → Prop) (w : World) : ButBy Bs w w := ButBy.below (Below.refl _ w)

theorem ButBy.mono {Bs Cs : Nat → Prop} {w w' : World} (h : ButBy Bs w w') (hs : ∀ k, Bs k → Cs k) : ButBy Cs w w' := ⟨h.os, h.tape, h.output, h.size, fun k hk hn => h.block k hk (fun x => hn (hs k x))⟩
theorem ButBy.trans {Bs : Nat → Prop} {w w1 w2 : World} (h : ButBy Bs w w1) (k : ButBy Bs w1 w2) : ButBy Bs w w2 :=
  ⟨k.os.trans h.os, k.tape.trans h.tape, k.output.trans h.output, Nat.le_trans h.size k.size, fun j hj hn => (k.block j (Nat.lt_of_lt_of_le hj h.size) hn).trans (h.block j hj hn)⟩


end Go.Proofs.YtlfmmhalheohdaaDoor
namespace Go.Proofs.YtlfmmhalheohdaaDoor
open Go.RowKit

/-- The value u is a slice of m elements of 'size' cells each: these cells. -/
def FlatAt (size m : Nat) (news : List Value) (u : Value) (w : World) : Prop := news.length = m * size ∧ (∀ x ∈ news, x.oneCell' = true) ∧
  ∃ p c, u = .slice p m c ∧ (m = 0 ∨ ∃ b off, p = some ⟨b, off, none⟩ ∧ ∀ j x, news[j]? = some x → w.cell? ⟨b, off + j, none⟩ = some x)

theorem FlatAt.later {size m : Nat} {news : List Value} {u : Value} {w w' : World} (h : FlatAt size m news u w) (k : Below w.heap.size w w') : FlatAt size m news u w' := by
  obtain ⟨h1, h2, p, c, rfl, hc⟩ := h
  refine ⟨h1, h2, p, c, rfl, ?_⟩
  rcases hc with h0 | ⟨b, off, hp, hc⟩
  · exact Or.inl h0
  · exact Or.inr ⟨b, off, hp, fun j x hx => (k.cell (World.block_lt_of_cell? _ _ (hc j x hx))).trans (hc j x hx)⟩

theorem FlatAt.own {w : World} {base : Nat} {e : TypeId} {size n : Nat} {v : Value} {xs : List Value} (h : w.ownsRow base e size v n xs) (h1 : ∀ x ∈ xs, x.oneCell' = true) : FlatAt size n xs v w := by
  refine ⟨h.1, h1, ?_⟩
  rcases h.2 with ⟨rfl, rfl⟩ | ⟨g, cap, cur, rfl, hb, hg, hr⟩
  · exact ⟨none, 0, rfl, Or.inl rfl⟩
  · refine ⟨_, cap, rfl, Or.inr ⟨g, 0, rfl, fun j x hx => ?_⟩⟩
    have := h.cells (g := g) rfl j x hx
    rwa [addr_add] at this

theorem FlatAt.new (w : World) (e : TypeId) (size m c : Nat) (X : Array Value) (hX : X.size = m * size) (h1 : ∀ x ∈ X.toList, x.oneCell' = true) : FlatAt size m X.toList (.slice (some ⟨w.heap.size, 0, none⟩) m c) (w.alloc (.cells X e)) :=
  ⟨by rw [Array.length_toList]; exact hX, h1, _, c, rfl, Or.inr ⟨w.heap.size, 0, rfl, fun j x hx => by
    rw [Nat.zero_add, cell_of_row _ _ _ _ _ _ (heap_alloc_new w _), ← Array.getElem?_toList]; exact hx⟩⟩

/-- Where the row of an append's result lies: where the old one lay, or in a new block. -/
theorem append_at {P : Program} (w : World) (base : Nat) (t ty e : TypeId) (i : TypeInfo) (z : Value) (size bytes : Nat) (ht : P.underlying t = some (.slice e)) (hi : P.info? e = some i) (hz : i.zero = some z)
    (hsize : i.size = size) (hby : i.bytes = bytes) (v : Value) (n : Nat) (xs : List Value) (hown : w.ownsRow base e size v n xs)
    (a : Addr) (m c : Nat) (news : List Value) (hl : news.length = m * size) (hnews : ∀ j u, news[j]? = some u → w.cell? (a.add j) = some u) (h1 : ∀ u ∈ news, u.oneCell' = true)
    (h63 : n + m ≤ maxLen) (hbytes : (n + m) * bytes ≤ 140737488355328) {v' : Value} {w' : World} (hr : (Builtin.append_ #[t, t] ty #[v, .slice (some a) m c]).run P w = .ok v' w') :
    v'.ownBlock = v.ownBlock ∨ v'.ownBlock = some w.heap.size := by
  subst hsize
  subst hby
  have hsmall : n + m ≤ 9223372036854775807 := by simp only [maxLen] at h63; omega
  rcases hown.2 with ⟨rfl, rfl⟩ | ⟨g, cap, cur, rfl, hbg, hg, hnc, hcm, hcs, htake⟩
  · by_cases hm : m = 0
    · subst hm
      have hn : news = [] := List.eq_nil_of_length_eq_zero (by simpa using hl)
      subst hn
      left
      have hq : (Builtin.append_ #[t, t] ty #[.slice none 0 0, .slice (some a) 0 c]).run P w = .ok (.slice none 0 0) w := by
        simp [Builtin.append_, run_underlying ht, sizeOf, typeInfo, hi, Builtin.lenOf, Builtin.firstCells, loadCells, loadCellsFrom]
      rw [hq] at hr
      simp only [Result.ok.injEq] at hr
      rw [← hr.1]
    · right
      have hq := run_append_nil (P := P) w t ty e i z ht hi hz a m c news hl hnews (by omega) (by omega) (by have hb := hbytes; simp only [Nat.zero_add] at hb; omega)
      rw [hq] at hr
      simp only [Result.ok.injEq] at hr
      rw [← hr.1]
      rfl
  · by_cases hroom : n + m ≤ cap
    · left
      have hfit : n * i.size + news.length ≤ cur.size := by rw [hl, hcs, ← Nat.add_mul]; exact Nat.mul_le_mul_right _ hroom
      have hq := run_append_room (P := P) w t ty e i ht hi g n cap cur hg a m c news hl hnews h1 hroom hfit
      rw [hq] at hr
      simp only [Result.ok.injEq] at hr
      rw [← hr.1]
      rfl
    · right
      have holds : ∀ j u, xs[j]? = some u → w.cell? ((⟨g, 0, none⟩ : Addr).add j) = some u := hown.cells (g := g) rfl
      have hq := run_append_grow (P := P) w t ty e i z ht hi hz ⟨g, 0, none⟩ n cap xs hown.1 holds a m c news hl hnews (by omega) (by omega) (growslice_fits (by omega) hbytes)
      rw [hq] at hr
      simp only [Result.ok.injEq] at hr
      rw [← hr.1]
      rfl

/-- 'append(l, p...)' onto an own row, whatever p is: run. -/
theorem run_append_flat {P : Program} (w : World) (base : Nat) (t ty e : TypeId) (i : TypeInfo) (z : Value) (size bytes : Nat) (ht : P.underlying t = some (.slice e)) (hi : P.info? e = some i) (hz : i.zero = some z)
    (hsize : i.size = size) (hby : i.bytes = bytes) (hzs : z.cells.size = size) (hsz : 0 < size)
    (v : Value) (n : Nat) (xs : List Value) (hown : w.ownsRow base e size v n xs) (u : Value) (m : Nat) (news : List Value) (hu : FlatAt size m news u w)
    (h63 : n + m ≤ maxLen) (hbytes : (n + m) * bytes ≤ 140737488355328) (hbase : base ≤ w.heap.size) :
    ∃ v' w', (Builtin.append_ #[t, t] ty #[v, u]).run P w = .ok v' w' ∧ w'.ownsRow base e size v' (n + m) (xs ++ news) ∧ w.grownBy w' v.ownBlock ∧ (v'.ownBlock = v.ownBlock ∨ v'.ownBlock = some w.heap.size) := by
  obtain ⟨hl, h1, p, c, rfl, hc⟩ := hu
  cases p with
  | some ad =>
    have hnews : ∀ j x, news[j]? = some x → w.cell? (ad.add j) = some x := by
      intro j x hx
      rcases hc with h0 | ⟨b, off, hp, hc⟩
      · subst h0
        have : news = [] := List.eq_nil_of_length_eq_zero (by simpa using hl)
        rw [this] at hx; simp at hx
      · simp only [Option.some.injEq] at hp
        rw [hp, addr_add]
        exact hc j x hx
    obtain ⟨v', w', hr, h2, h3, _⟩ := run_append_own w base t ty e i z size bytes ht hi hz hsize hby hzs hsz v n xs hown ad m c news hl hnews h1 h63 hbytes hbase
    exact ⟨v', w', hr, h2, h3, append_at w base t ty e i z size bytes ht hi hz hsize hby v n xs hown ad m c news hl hnews h1 h63 hbytes hr⟩
  | none =>
    rcases hc with h0 | ⟨b, off, hp, _⟩
    · subst h0
      have hn : news = [] := List.eq_nil_of_length_eq_zero (by simpa using hl)
      subst hn
      refine ⟨v, w, ?_, by simpa using hown, grown_refl w _, Or.inl rfl⟩
      rcases hown.2 with ⟨rfl, rfl⟩ | ⟨g, cap, cur, rfl, hb, hg, hnc, hcm, hcs, htake⟩
      · simp [Builtin.append_, run_underlying ht, sizeOf, typeInfo, hi, Builtin.lenOf, Builtin.firstCells]
      · simp [Builtin.append_, run_underlying ht, sizeOf, typeInfo, hi, Builtin.lenOf, Builtin.firstCells, hnc, storeCells]
    · cases hp

theorem wp_append_flat {P : Program} {o : Oper} {a : Act} {w : World} {K : Act → World → Prop} {Q : Exit → Act → World → Prop} (s x : Operand) (t : TypeId)
    (ho : o.op = .call { callee := .builtin .append, args := #[s, x], argTypes := #[t, t] })
    (base : Nat) (e : TypeId) (i : TypeInfo) (z : Value) (size bytes : Nat) (ht : P.underlying t = some (.slice e)) (hi : P.info? e = some i) (hz : i.zero = some z)
    (hsize : i.size = size) (hby : i.bytes = bytes) (hzs : z.cells.size = size) (hsz : 0 < size)
    (v : Value) (n : Nat) (xs : List Value) (hs : a.eval s = v) (hown : w.ownsRow base e size v n xs) (u : Value) (m : Nat) (news : List Value) (hx : a.eval x = u) (hu : FlatAt size m news u w)
    (h63 : n + m ≤ maxLen) (hbytes : (n + m) * bytes ≤ 140737488355328) (hbase : base ≤ w.heap.size)
    (h : ∀ v' w', w'.ownsRow base e size v' (n + m) (xs ++ news) → w.grownBy w' v.ownBlock → (v'.ownBlock = v.ownBlock ∨ v'.ownBlock = some w.heap.size) → K (a.put o.dst v') w') : o.wp P a w K Q := by
  obtain ⟨v', w', hr, h2, h3, h4⟩ := run_append_flat w base t o.type e i z size bytes ht hi hz hsize hby hzs hsz v n xs hown u m news hu h63 hbytes hbase
  unfold Oper.wp execOp
  simp only [ho, resolve, invoke, builtin, Sem.run_bind, Sem.run_pure, Result.andThen_ok, List.map_toArray, List.map_cons, List.map_nil, hs, hx]
  simp only [hr]
  exact h v' w' h2 h3 h4

theorem wpList_append_flat {P : Program} {ops : Array Oper} {rest : List Oper} {o : Oper} {a : Act} {w : World} {Q : Exit → Act → World → Prop} (hgd : o.guard = none) (s x : Operand) (t : TypeId)
    (ho : o.op = .call { callee := .builtin .append, args := #[s, x], argTypes := #[t, t] })
    (base : Nat) (e : TypeId) (i : TypeInfo) (z : Value) (size bytes : Nat) (ht : P.underlying t = some (.slice e)) (hi : P.info? e = some i) (hz : i.zero = some z)
    (hsize : i.size = size) (hby : i.bytes = bytes) (hzs : z.cells.size = size) (hsz : 0 < size)
    (v : Value) (n : Nat) (xs : List Value) (hs : a.eval s = v) (hown : w.ownsRow base e size v n xs) (u : Value) (m : Nat) (news : List Value) (hx : a.eval x = u) (hu : FlatAt size m news u w)
    (h63 : n + m ≤ maxLen) (hbytes : (n + m) * bytes ≤ 140737488355328) (hbase : base ≤ w.heap.size)
    (h : ∀ v' w', w'.ownsRow base e size v' (n + m) (xs ++ news) → w.grownBy w' v.ownBlock → (v'.ownBlock = v.ownBlock ∨ v'.ownBlock = some w.heap.size) → wpList P ops Q rest (a.put o.dst v') w') : wpList P ops Q (o :: rest) a w :=
  wpList_plain hgd fun _ hK => wp_append_flat s x t ho base e i z size bytes ht hi hz hsize hby hzs hsz v n xs hs hown u m news hx hu h63 hbytes hbase (fun v' w' h2 h3 h4 => hK _ _ (h v' w' h2 h3 h4))

/-- An own row, as a slice, cell by cell. -/
theorem own_slice {w : World} {base : Nat} {e : TypeId} {size n : Nat} {v : Value} {xs : List Value} (h : w.ownsRow base e size v n xs) :
    ∃ p c, v = .slice p n c ∧ n ≤ c ∧ (n = 0 ∨ ∃ g, p = some ⟨g, 0, none⟩ ∧ base ≤ g ∧ ∀ j x, xs[j]? = some x → w.cell? ⟨g, j, none⟩ = some x) := by
  rcases h.2 with ⟨rfl, rfl⟩ | ⟨g, cap, cur, rfl, hb, hg, hc, hr⟩
  · exact ⟨none, 0, rfl, Nat.le_refl _, Or.inl rfl⟩
  · refine ⟨_, cap, rfl, hc, Or.inr ⟨g, rfl, hb, fun j x hx => ?_⟩⟩
    have := h.cells (g := g) rfl j x hx
    rwa [addr_add, Nat.zero_add] at this

theorem own_stay {w w' : World} {base : Nat} {e : TypeId} {size n : Nat} {v : Value} {xs : List Value} (h : w.ownsRow base e size v n xs) (hk : ∀ k, v.ownBlock = some k → w'.heap[k]? = w.heap[k]?) : w'.ownsRow base e size v n xs := by
  refine ⟨h.1, ?_⟩
  rcases h.2 with hn | ⟨g, cap, cur, rfl, hb, hg, hr⟩
  · exact Or.inl hn
  · exact Or.inr ⟨g, cap, cur, rfl, hb, by rw [hk g rfl]; exact hg, hr⟩

theorem own_base {w : World} {base base' : Nat} {e : TypeId} {size n : Nat} {v : Value} {xs : List Value} (h : w.ownsRow base e size v n xs) (hB : base' ≤ base) : w.ownsRow base' e size v n xs := by
  refine ⟨h.1, ?_⟩
  rcases h.2 with hn | ⟨g, cap, cur, rfl, hb, hr⟩
  · exact Or.inl hn
  · exact Or.inr ⟨g, cap, cur, rfl, Nat.le_trans hB hb, hr⟩

/-- The block of an own row has its type. -/
theorem own_typ {w : World} {base : Nat} {e : TypeId} {size n : Nat} {v : Value} {xs : List Value} (h : w.ownsRow base e size v n xs) (k : Nat) (hk : v.ownBlock = some k) : ∃ cur, w.heap[k]? = some (.cells cur e (0, 0)) := by
  rcases h.2 with ⟨rfl, _⟩ | ⟨g, cap, cur, rfl, hb, hg, hr⟩
  · simp [Value.ownBlock] at hk
  · simp only [Value.ownBlock, Option.some.injEq] at hk
    subst hk
    exact ⟨cur, hg⟩

theorem set_other (w : World) (g i k : Nat) (x : Value) (hk : k ≠ g) : (w.setCell ⟨g, i, none⟩ x).heap[k]? = w.heap[k]? := heap_setCell_other _ _ _ _ hk

end Go.Proofs.YtlfmmhalheohdaaDoor
namespace Go.Proofs.YtlfmmhalheohdaaDoor

/-- Is a sector in a run; in a list? A run is where it begins, and how many sectors it has. -/
def inR (r : Int × Int) (k : Nat) : Bool := decide (r.1 ≤ (k : Int) ∧ (k : Int) < r.1 + r.2)
def hasR (l : List (Int × Int)) (k : Nat) : Bool := l.any fun r => inR r k

theorem hasR_nil (k : Nat) : hasR [] k = false := rfl
theorem hasR_append (a b : List (Int × Int)) (k : Nat) : hasR (a ++ b) k = (hasR a k || hasR b k) := by unfold hasR; rw [List.any_append]
theorem hasR_one (r : Int × Int) (k : Nat) : hasR [r] k = inR r k := by unfold hasR; simp
theorem hasR_take (l : List (Int × Int)) (i : Nat) (h : i < l.length) (k : Nat) : hasR (l.take (i + 1)) k = (hasR (l.take i) k || inR l[i] k) := by
  rw [List.take_succ_eq_append_getElem h, hasR_append, hasR_one]

/-- How many of the first n. -/
def cntF (f : Nat → Bool) : Nat → Nat
  | 0 => 0
  | n + 1 => cntF f n + (if f n = true then 1 else 0)

theorem cntF_congr {f g : Nat → Bool} : ∀ (n : Nat), (∀ k, k < n → f k = g k) → cntF f n = cntF g n
  | 0, _ => rfl
  | n + 1, h => by unfold cntF; rw [cntF_congr n (fun k hk => h k (by omega)), h n (by omega)]
theorem cntF_le (f : Nat → Bool) : ∀ n, cntF f n ≤ n
  | 0 => Nat.le_refl _
  | n + 1 => by unfold cntF; have := cntF_le f n; split <;> omega
theorem cntF_split (f g : Nat → Bool) : ∀ n, cntF (fun k => f k && !g k) n + cntF (fun k => f k && g k) n = cntF f n
  | 0 => rfl
  | n + 1 => by
    unfold cntF
    have := cntF_split f g n
    cases f n <;> cases g n <;> simp <;> omega
theorem cntF_zero {f : Nat → Bool} : ∀ {n : Nat}, cntF f n = 0 → ∀ k, k < n → f k = false
  | 0, _, k, hk => by omega
  | n + 1, h, k, hk => by
    unfold cntF at h
    have h2 : cntF f n = 0 := by omega
    by_cases e : k = n
    · subst e
      cases hf : f k with
      | false => rfl
      | true => rw [hf] at h; simp at h
    · exact cntF_zero h2 k (by omega)
theorem cntF_none {f : Nat → Bool} {n : Nat} (h : ∀ k, k < n → f k = false) : cntF f n = 0 := by
  rw [cntF_congr (g := fun _ => false) n h]
  induction n with
  | zero => rfl
  | succ n ih => unfold cntF; rw [ih (fun k hk => h k (by omega))]; rfl
theorem cntF_mono (f : Nat → Bool) {m n : Nat} (h : m ≤ n) : cntF f m ≤ cntF f n := by
  induction n with
  | zero => have : m = 0 := by omega
            subst this; exact Nat.le_refl _
  | succ n ih =>
    by_cases e : m = n + 1
    · subst e; exact Nat.le_refl _
    · have := ih (by omega)
      show _ ≤ cntF f n + _
      omega

/-- The lowest n. -/
def lowF (f : Nat → Bool) (n : Nat) (k : Nat) : Bool := f k && decide (cntF f k < n)
theorem lowF_cnt (f : Nat → Bool) (n : Nat) : ∀ m, cntF (lowF f n) m = min (cntF f m) n
  | 0 => by simp [cntF]
  | m + 1 => by
    unfold cntF
    rw [lowF_cnt f n m]
    unfold lowF
    cases f m <;> simp
    by_cases h : cntF f m < n
    · rw [if_pos h]; omega
    · rw [if_neg h]; omega
theorem lowF_sub (f : Nat → Bool) (n k : Nat) (h : lowF f n k = true) : f k = true := by
  unfold lowF at h
  simp only [Bool.and_eq_true] at h
  exact h.1
theorem lowF_congr {f g : Nat → Bool} (n N : Nat) (h : ∀ k, k < N → f k = g k) (k : Nat) (hk : k < N) : lowF f n k = lowF g n k := by
  unfold lowF
  rw [h k hk, cntF_congr k (fun j hj => h j (by omega))]

/-- One sector more in the last run. -/
def bump (l : List (Int × Int)) : List (Int × Int) := l.set (l.length - 1) ((l.getD (l.length - 1) (0, 0)).1, (l.getD (l.length - 1) (0, 0)).2 + 1)
theorem bump_snoc (pre : List (Int × Int)) (r : Int × Int) : bump (pre ++ [r]) = pre ++ [(r.1, r.2 + 1)] := by
  unfold bump
  rw [List.length_append]
  show (pre ++ [r]).set pre.length (((pre ++ [r]).getD pre.length (0, 0)).1, _) = _
  have e : (pre ++ [r]).getD pre.length (0, 0) = r := by rw [List.getD_eq_getElem?_getD, List.getElem?_append_right (Nat.le_refl _), Nat.sub_self]; rfl
  show (pre ++ [r]).set pre.length (((pre ++ [r]).getD pre.length (0, 0)).1, ((pre ++ [r]).getD pre.length (0, 0)).2 + 1) = _
  rw [e, List.set_append_right _ _ (Nat.le_refl _), Nat.sub_self]
  rfl
theorem bump_len (l : List (Int × Int)) : (bump l).length = l.length := by unfold bump; rw [List.length_set]

/-- The runs of the first n sectors. -/
def runsF (f : Nat → Bool) : Nat → List (Int × Int)
  | 0 => []
  | n + 1 => if f n = true then (if 0 < n ∧ f (n - 1) = true then bump (runsF f n) else runsF f n ++ [((n : Int), 1)]) else runsF f n

theorem runsF_congr {f g : Nat → Bool} : ∀ (n : Nat), (∀ k, k < n → f k = g k) → runsF f n = runsF g n
  | 0, _ => rfl
  | n + 1, h => by
    unfold runsF
    rw [runsF_congr n (fun k hk => h k (by omega)), h n (by omega)]
    by_cases h0 : 0 < n
    · rw [h (n - 1) (by omega)]
    · have e1 : ¬ (0 < n ∧ f (n - 1) = true) := fun x => h0 x.1
      have e2 : ¬ (0 < n ∧ g (n - 1) = true) := fun x => h0 x.1
      rw [if_neg e1, if_neg e2]
theorem runsF_len (f : Nat → Bool) : ∀ n, (runsF f n).length ≤ n
  | 0 => Nat.le_refl _
  | n + 1 => by
    unfold runsF
    have := runsF_len f n
    split
    · split
      · rw [bump_len]; omega
      · rw [List.length_append]; show _ + 1 ≤ _; omega
    · omega

/-- What holds of such runs. -/
structure RunsOk (f : Nat → Bool) (n : Nat) (l : List (Int × Int)) : Prop where
  nat : ∀ r ∈ l, 0 ≤ r.1 ∧ 1 ≤ r.2 ∧ r.1 + r.2 ≤ (n : Int)
  gap : l.Pairwise fun r s => r.1 + r.2 < s.1
  has : ∀ k, hasR l k = (decide (k < n) && f k)
  last : 0 < n → f (n - 1) = true → ∃ pre r, l = pre ++ [r] ∧ r.1 + r.2 = (n : Int)

theorem hasR_mem {l : List (Int × Int)} {r : Int × Int} (h : r ∈ l) (k : Nat) (hk : inR r k = true) : hasR l k = true := by
  unfold hasR
  exact List.any_eq_true.2 ⟨r, h, hk⟩

theorem RunsOk.mem {f : Nat → Bool} {n : Nat} {l : List (Int × Int)} (h : RunsOk f n l) {r : Int × Int} (hr : r ∈ l) (k : Nat) (h1 : r.1 ≤ (k : Int)) (h2 : (k : Int) < r.1 + r.2) : k < n ∧ f k = true := by
  have h3 := h.has k
  rw [hasR_mem hr k (by unfold inR; exact decide_eq_true ⟨h1, h2⟩)] at h3
  have h4 := h3.symm
  simp only [Bool.and_eq_true, decide_eq_true_eq] at h4
  exact h4

theorem runsF_ok (f : Nat → Bool) : ∀ n, RunsOk f n (runsF f n)
  | 0 => ⟨fun r hr => (by cases hr), List.Pairwise.nil, fun k => (by simp [runsF, hasR]), fun h => (by omega)⟩
  | n + 1 => by
    have ih := runsF_ok f n
    unfold runsF
    by_cases hf : f n = true
    · rw [if_pos hf]
      by_cases h0 : 0 < n ∧ f (n - 1) = true
      · rw [if_pos h0]
        obtain ⟨pre, r, hl, he⟩ := ih.last h0.1 h0.2
        rw [hl, bump_snoc]
        rw [hl] at ih
        have hr := ih.nat r (by simp)
        refine ⟨fun s hs => ?_, ?_, fun k => ?_, fun _ _ => ⟨pre, _, rfl, by show r.1 + (r.2 + 1) = _; omega⟩⟩
        · rcases List.mem_append.1 hs with e | e
          · have := ih.nat s (List.mem_append.2 (Or.inl e)); omega
          · rw [List.mem_singleton.1 e]; show 0 ≤ r.1 ∧ 1 ≤ r.2 + 1 ∧ r.1 + (r.2 + 1) ≤ _; omega
        · have hg := List.pairwise_append.1 ih.gap
          refine List.pairwise_append.2 ⟨hg.1, List.pairwise_singleton _ _, fun a ha b hb => ?_⟩
          rw [List.mem_singleton.1 hb]
          exact hg.2.2 a ha r (by simp)
        · have h1 := ih.has k
          rw [hasR_append, hasR_one] at h1 ⊢
          have e : inR (r.1, r.2 + 1) k = (inR r k || decide (k = n)) := by
            unfold inR
            rw [Bool.eq_iff_iff]
            simp only [decide_eq_true_eq, Bool.or_eq_true]
            omega
          rw [e, ← Bool.or_assoc, h1]
          by_cases hk : k = n
          · subst hk; simp [hf]
          · have e2 : decide (k < n + 1) = decide (k < n) := decide_eq_decide.2 (by omega)
            rw [e2]; simp [hk]
      · rw [if_neg h0]
        have hlast : ∀ r ∈ runsF f n, r.1 + r.2 < (n : Int) := fun r hr => by
          have h1 := ih.nat r hr
          refine Decidable.byContradiction fun hn => h0 ?_
          have h2 : r.1 + r.2 = n := by omega
          have h3 := ih.mem hr (n - 1) (by omega) (by omega)
          exact ⟨by omega, h3.2⟩
        refine ⟨fun s hs => ?_, ?_, fun k => ?_, fun _ _ => ⟨runsF f n, ((n : Int), 1), rfl, by show (n : Int) + 1 = _; omega⟩⟩
        · rcases List.mem_append.1 hs with e | e
          · have := ih.nat s e; omega
          · rw [List.mem_singleton.1 e]; show 0 ≤ (n : Int) ∧ (1 : Int) ≤ 1 ∧ (n : Int) + 1 ≤ _; omega
        · refine List.pairwise_append.2 ⟨ih.gap, List.pairwise_singleton _ _, fun a ha b hb => ?_⟩
          rw [List.mem_singleton.1 hb]
          exact hlast a ha
        · rw [hasR_append, hasR_one, ih.has k]
          have e : inR ((n : Int), 1) k = decide (k = n) := by unfold inR; exact decide_eq_decide.2 (by show (n : Int) ≤ k ∧ (k : Int) < n + 1 ↔ _; omega)
          rw [e]
          by_cases hk : k = n
          · subst hk; simp [hf]
          · have e2 : decide (k < n + 1) = decide (k < n) := decide_eq_decide.2 (by omega)
            rw [e2]; simp [hk]
    · rw [if_neg hf]
      have hff : f n = false := by simpa using hf
      refine ⟨fun s hs => ?_, ih.gap, fun k => ?_, fun _ h => ?_⟩
      · have := ih.nat s hs; omega
      · rw [ih.has k]
        by_cases hk : k = n
        · subst hk; simp [hff]
        · have e2 : decide (k < n + 1) = decide (k < n) := decide_eq_decide.2 (by omega)
          rw [e2]
      · rw [show n + 1 - 1 = n by omega] at h
        exact absurd h hf

/-- The number of sectors that there may be. -/
abbrev mxS : Nat := 8192
def runsA (f : Nat → Bool) : List (Int × Int) := runsF f mxS
def cntA (f : Nat → Bool) : Nat := cntF f mxS
theorem runsA_has (f : Nat → Bool) (k : Nat) (hk : k < mxS) : hasR (runsA f) k = f k := by
  rw [runsA, (runsF_ok f mxS).has k]; simp [hk]
theorem runsA_congr {f g : Nat → Bool} (h : ∀ k, k < mxS → f k = g k) : runsA f = runsA g := runsF_congr mxS h
theorem cntA_congr {f g : Nat → Bool} (h : ∀ k, k < mxS → f k = g k) : cntA f = cntA g := cntF_congr mxS h
theorem runsA_again (f : Nat → Bool) : runsA (hasR (runsA f)) = runsA f := runsA_congr (fun k hk => runsA_has f k hk)
theorem cntA_again (f : Nat → Bool) : cntA (hasR (runsA f)) = cntA f := cntA_congr (fun k hk => runsA_has f k hk)
theorem runsA_none {f : Nat → Bool} (h : ∀ k, k < mxS → f k = false) : runsA f = [] := by
  rw [runsA_congr (g := fun _ => false) h]
  unfold runsA
  generalize mxS = n
  induction n with
  | zero => rfl
  | succ n ih => unfold runsF; rw [ih]; rfl
theorem runsA_len (f : Nat → Bool) : (runsA f).length ≤ 8192 := runsF_len f mxS
theorem cntA_le (f : Nat → Bool) : cntA f ≤ 8192 := cntF_le f mxS

/-- Lists that are valid. -/
def overR (a b : Int × Int) : Prop := a.1 ≤ b.1 ∧ b.1 < a.1 + a.2
instance (a b : Int × Int) : Decidable (overR a b) := by unfold overR; infer_instance
def fitR (fr to : Int) (r : Int × Int) : Prop := fr ≤ r.1 ∧ 1 ≤ r.2 ∧ r.1 + r.2 ≤ to
instance (fr to : Int) (r : Int × Int) : Decidable (fitR fr to r) := by unfold fitR; infer_instance
/-- The first i of them are. -/
def validK (fr to : Int) (l : List (Int × Int)) (i : Nat) : Prop := ∀ j, j < i → fitR fr to (l.getD j (0, 0)) ∧ ∀ k, k < j → ¬ overR (l.getD j (0, 0)) (l.getD k (0, 0)) ∧ ¬ overR (l.getD k (0, 0)) (l.getD j (0, 0))
def validL (fr to : Int) (l : List (Int × Int)) : Prop := validK fr to l l.length
instance (fr to : Int) (l : List (Int × Int)) (i : Nat) : Decidable (validK fr to l i) := by unfold validK; infer_instance
instance (fr to : Int) (l : List (Int × Int)) : Decidable (validL fr to l) := by unfold validL; infer_instance

theorem validK_mono {fr to : Int} {l : List (Int × Int)} {i j : Nat} (h : validK fr to l j) (hi : i ≤ j) : validK fr to l i := fun k hk => h k (by omega)
theorem validK_succ {fr to : Int} {l : List (Int × Int)} {i : Nat} (h : validK fr to l i) (h1 : fitR fr to (l.getD i (0, 0))) (h2 : ∀ k, k < i → ¬ overR (l.getD i (0, 0)) (l.getD k (0, 0)) ∧ ¬ overR (l.getD k (0, 0)) (l.getD i (0, 0))) : validK fr to l (i + 1) := fun j hj => by
  by_cases e : j = i
  · subst e; exact ⟨h1, h2⟩
  · exact h j (by omega)

theorem RunsOk.valid {f : Nat → Bool} {n : Nat} {l : List (Int × Int)} (h : RunsOk f n l) (fr to : Int) (hin : ∀ k, k < n → f k = true → fr ≤ (k : Int) ∧ (k : Int) < to) : validL fr to l := by
  intro j hj
  have hm : l[j] ∈ l := List.getElem_mem hj
  have hjd : l.getD j (0, 0) = l[j] := by rw [List.getD_eq_getElem?_getD, List.getElem?_eq_getElem hj]; rfl
  rw [hjd]
  have hn := h.nat _ hm
  refine ⟨?_, fun k hk => ?_⟩
  · have h1 := h.mem hm l[j].1.toNat (by omega) (by omega)
    have h2 := h.mem hm (l[j].1 + l[j].2 - 1).toNat (by omega) (by omega)
    have h3 := hin _ h1.1 h1.2
    have h4 := hin _ h2.1 h2.2
    unfold fitR
    omega
  · have hkl : k < l.length := by omega
    have hkd : l.getD k (0, 0) = l[k] := by rw [List.getD_eq_getElem?_getD, List.getElem?_eq_getElem hkl]; rfl
    rw [hkd]
    have hg := List.pairwise_iff_getElem.1 h.gap k j hkl hj hk
    have hnk := h.nat _ (List.getElem_mem hkl)
    unfold overR
    omega

theorem runsA_valid (f : Nat → Bool) (fr to : Int) (hin : ∀ k, k < mxS → f k = true → fr ≤ (k : Int) ∧ (k : Int) < to) : validL fr to (runsA f) := (runsF_ok f mxS).valid fr to hin

/-- Ints of the machine. -/
def wfR (l : List (Int × Int)) : Prop := ∀ r ∈ l, (-9223372036854775808 ≤ r.1 ∧ r.1 ≤ 9223372036854775807) ∧ (-9223372036854775808 ≤ r.2 ∧ r.2 ≤ 9223372036854775807)
theorem runsA_wf (f : Nat → Bool) : wfR (runsA f) := fun r hr => by
  have h := (runsF_ok f mxS).nat r hr
  have e : ((mxS : Nat) : Int) = 8192 := rfl
  rw [e] at h
  omega
theorem wfR_append {a b : List (Int × Int)} (ha : wfR a) (hb : wfR b) : wfR (a ++ b) := fun r hr => (List.mem_append.1 hr).elim (ha r) (hb r)
theorem wfR_take {a : List (Int × Int)} (ha : wfR a) (n : Nat) : wfR (a.take n) := fun r hr => ha r (List.mem_of_mem_take hr)
theorem wfR_nil : wfR [] := fun r hr => (by cases hr)

end Go.Proofs.YtlfmmhalheohdaaDoor
namespace Go.Proofs.YtlfmmhalheohdaaDoor

/-- A plain list. -/
structure PlainL (l : List (Int × Int)) : Prop where
  nat : ∀ r ∈ l, 0 ≤ r.1 ∧ 1 ≤ r.2 ∧ r.1 + r.2 ≤ 8192
  gap : l.Pairwise fun r s => r.1 + r.2 < s.1

theorem runsA_plain (f : Nat → Bool) : PlainL (runsA f) := ⟨fun r hr => (runsF_ok f mxS).nat r hr, (runsF_ok f mxS).gap⟩
theorem PlainL.tail {r : Int × Int} {l : List (Int × Int)} (h : PlainL (r :: l)) : PlainL l := ⟨fun s hs => h.nat s (List.mem_cons_of_mem _ hs), (List.pairwise_cons.1 h.gap).2⟩
theorem hasR_cons (r : Int × Int) (l : List (Int × Int)) (k : Nat) : hasR (r :: l) k = (inR r k || hasR l k) := rfl
theorem hasR_out {l : List (Int × Int)} {k : Nat} (h : ∀ r ∈ l, ¬ (r.1 ≤ (k : Int) ∧ (k : Int) < r.1 + r.2)) : hasR l k = false := by
  cases e : hasR l k with
  | false => rfl
  | true =>
    unfold hasR at e
    obtain ⟨r, hr, hk⟩ := List.any_eq_true.1 e
    exact absurd (of_decide_eq_true hk) (h r hr)
theorem inR_iff (r : Int × Int) (k : Nat) : inR r k = true ↔ (r.1 ≤ (k : Int) ∧ (k : Int) < r.1 + r.2) := by unfold inR; exact decide_eq_true_iff
theorem hasR_iff (l : List (Int × Int)) (k : Nat) : hasR l k = true ↔ ∃ r ∈ l, r.1 ≤ (k : Int) ∧ (k : Int) < r.1 + r.2 := by
  unfold hasR
  rw [List.any_eq_true]
  exact ⟨fun ⟨r, hr, h⟩ => ⟨r, hr, (inR_iff _ _).1 h⟩, fun ⟨r, hr, h⟩ => ⟨r, hr, (inR_iff _ _).2 h⟩⟩
theorem hasR_perm {l m : List (Int × Int)} (h : l.Perm m) (k : Nat) : hasR l k = hasR m k := by
  cases e : hasR m k with
  | true => obtain ⟨r, hr, hk⟩ := (hasR_iff _ _).1 e; exact (hasR_iff _ _).2 ⟨r, h.mem_iff.2 hr, hk⟩
  | false =>
    refine hasR_out fun r hr hk => ?_
    rw [(hasR_iff m k).2 ⟨r, h.mem_iff.1 hr, hk⟩] at e
    cases e

/-- Below its first run a plain list has nothing. -/
theorem PlainL.head_le {r : Int × Int} {l : List (Int × Int)} (h : PlainL (r :: l)) {k : Nat} (hk : hasR (r :: l) k = true) : r.1 ≤ (k : Int) := by
  obtain ⟨s, hs, h1, h2⟩ := (hasR_iff _ _).1 hk
  rcases List.mem_cons.1 hs with rfl | hs
  · exact h1
  · have := (List.pairwise_cons.1 h.gap).1 s hs
    have := h.nat r (List.mem_cons_self ..)
    omega
/-- Behind its first run there is a gap. -/
theorem PlainL.head_gap {r : Int × Int} {l : List (Int × Int)} (h : PlainL (r :: l)) {k : Nat} (hk : hasR l k = true) : r.1 + r.2 < (k : Int) := by
  obtain ⟨s, hs, h1, h2⟩ := (hasR_iff _ _).1 hk
  have := (List.pairwise_cons.1 h.gap).1 s hs
  omega

theorem plain_uniq : ∀ (l m : List (Int × Int)), PlainL l → PlainL m → (∀ k : Nat, k < 8192 → hasR l k = hasR m k) → l = m
  | [], [], _, _, _ => rfl
  | [], s :: m, _, hm, h => by
    have hs := hm.nat s (List.mem_cons_self ..)
    have e := h s.1.toNat (by omega)
    rw [hasR_nil, (hasR_iff _ _).2 ⟨s, List.mem_cons_self .., by omega, by omega⟩] at e
    cases e
  | r :: l, [], hl, _, h => by
    have hs := hl.nat r (List.mem_cons_self ..)
    have e := h r.1.toNat (by omega)
    rw [hasR_nil, (hasR_iff _ _).2 ⟨r, List.mem_cons_self .., by omega, by omega⟩] at e
    cases e
  | r :: l, s :: m, hl, hm, h => by
    have nr := hl.nat r (List.mem_cons_self ..)
    have ns := hm.nat s (List.mem_cons_self ..)
    have e1 : s.1 ≤ r.1 := by
      have := hm.head_le (k := r.1.toNat) (by rw [← h _ (by omega)]; exact (hasR_iff _ _).2 ⟨r, List.mem_cons_self .., by omega, by omega⟩)
      omega
    have e2 : r.1 ≤ s.1 := by
      have := hl.head_le (k := s.1.toNat) (by rw [h _ (by omega)]; exact (hasR_iff _ _).2 ⟨s, List.mem_cons_self .., by omega, by omega⟩)
      omega
    have e3 : ¬ r.1 + r.2 < s.1 + s.2 := by
      intro hlt
      have hk : hasR (s :: m) (r.1 + r.2).toNat = true := (hasR_iff _ _).2 ⟨s, List.mem_cons_self .., by omega, by omega⟩
      rw [← h _ (by omega), hasR_cons, Bool.or_eq_true] at hk
      rcases hk with hk | hk
      · have := (inR_iff _ _).1 hk; omega
      · have := hl.head_gap hk; omega
    have e4 : ¬ s.1 + s.2 < r.1 + r.2 := by
      intro hlt
      have hk : hasR (r :: l) (s.1 + s.2).toNat = true := (hasR_iff _ _).2 ⟨r, List.mem_cons_self .., by omega, by omega⟩
      rw [h _ (by omega), hasR_cons, Bool.or_eq_true] at hk
      rcases hk with hk | hk
      · have := (inR_iff _ _).1 hk; omega
      · have := hm.head_gap hk; omega
    have er : r = s := Prod.ext (by omega) (by omega)
    subst er
    congr 1
    refine plain_uniq l m hl.tail hm.tail fun k hk => ?_
    have e := h k hk
    rw [hasR_cons, hasR_cons] at e
    cases hi : inR r k with
    | false => rw [hi] at e; simpa using e
    | true =>
      have hi' := (inR_iff _ _).1 hi
      have a1 : hasR l k = false := by
        cases hx : hasR l k with
        | false => rfl
        | true => have := hl.head_gap hx; omega
      have a2 : hasR m k = false := by
        cases hx : hasR m k with
        | false => rfl
        | true => have := hm.head_gap hx; omega
      rw [a1, a2]

/-- A plain list of a set's sectors is that set's. -/
theorem plain_runsA {l : List (Int × Int)} {f : Nat → Bool} (h : PlainL l) (hf : ∀ k : Nat, k < 8192 → hasR l k = f k) : l = runsA f :=
  plain_uniq l _ h (runsA_plain f) fun k hk => by rw [hf k hk, runsA_has f k hk]
theorem runsA_self {l : List (Int × Int)} (h : PlainL l) : runsA (hasR l) = l := (plain_runsA h fun _ _ => rfl).symm

/-- How many sectors a plain list has. -/
def sumR (l : List (Int × Int)) : Int := (l.map fun r => r.2).sum
theorem sumR_cons (r : Int × Int) (l : List (Int × Int)) : sumR (r :: l) = r.2 + sumR l := by unfold sumR; rw [List.map_cons, List.sum_cons]
theorem sumR_append (l m : List (Int × Int)) : sumR (l ++ m) = sumR l + sumR m := by unfold sumR; rw [List.map_append, List.sum_append]
theorem cntF_run (a b : Nat) : ∀ n, cntF (fun k => decide (a ≤ k ∧ k < b)) n = min n b - min n a
  | 0 => by simp [cntF]
  | n + 1 => by
    unfold cntF
    rw [cntF_run a b n]
    by_cases h : a ≤ n ∧ n < b
    · rw [if_pos (decide_eq_true h)]; omega
    · rw [if_neg (by simpa using h)]; omega
theorem cntF_or (f g : Nat → Bool) : ∀ n, (∀ k, k < n → ¬ (f k = true ∧ g k = true)) → cntF (fun k => f k || g k) n = cntF f n + cntF g n
  | 0, _ => rfl
  | n + 1, h => by
    unfold cntF
    rw [cntF_or f g n (fun k hk => h k (by omega))]
    have := h n (by omega)
    cases hf : f n <;> cases hg : g n <;> simp_all <;> omega
theorem PlainL.count : ∀ {l : List (Int × Int)}, PlainL l → (cntA (hasR l) : Int) = sumR l
  | [], _ => by
    have : cntA (hasR []) = 0 := cntF_none fun _ _ => rfl
    rw [this]; rfl
  | r :: l, h => by
    have nr := h.nat r (List.mem_cons_self ..)
    have e : cntA (hasR (r :: l)) = cntA (fun k => inR r k || hasR l k) := rfl
    have e2 : cntA (fun k => inR r k || hasR l k) = cntA (inR r) + cntA (hasR l) := cntF_or _ _ _ fun k _ hk => by
      have h1 := (inR_iff _ _).1 hk.1
      have h2 := h.head_gap hk.2
      omega
    have e3 : cntA (inR r) = r.2.toNat := by
      have : cntA (inR r) = cntA (fun k => decide (r.1.toNat ≤ k ∧ k < (r.1 + r.2).toNat)) := cntA_congr fun k _ => by
        unfold inR; exact decide_eq_decide.2 (by omega)
      rw [this]
      unfold cntA
      rw [cntF_run]
      show min 8192 _ - min 8192 _ = _
      omega
    rw [e, e2, e3, sumR_cons, ← h.tail.count]
    omega

/-- One more run behind, that touches the last one or lies apart. -/
theorem PlainL.snoc {l : List (Int × Int)} (h : PlainL l) {r : Int × Int} (hr : 0 ≤ r.1 ∧ 1 ≤ r.2 ∧ r.1 + r.2 ≤ 8192) (hg : ∀ s ∈ l, s.1 + s.2 < r.1) : PlainL (l ++ [r]) :=
  ⟨fun s hs => (List.mem_append.1 hs).elim (h.nat s) (fun e => by rw [List.mem_singleton.1 e]; exact hr), List.pairwise_append.2 ⟨h.gap, List.pairwise_singleton _ _, fun a ha b hb => by rw [List.mem_singleton.1 hb]; exact hg a ha⟩⟩
theorem PlainL.init {l : List (Int × Int)} {r : Int × Int} (h : PlainL (l ++ [r])) : PlainL l ∧ (0 ≤ r.1 ∧ 1 ≤ r.2 ∧ r.1 + r.2 ≤ 8192) ∧ ∀ s ∈ l, s.1 + s.2 < r.1 :=
  ⟨⟨fun s hs => h.nat s (List.mem_append_left _ hs), (List.pairwise_append.1 h.gap).1⟩, h.nat r (List.mem_append_right _ (List.mem_singleton_self _)), fun s hs => (List.pairwise_append.1 h.gap).2.2 s hs r (List.mem_singleton_self _)⟩
/-- The last run grows. -/
theorem PlainL.grow {l : List (Int × Int)} {a n m : Int} (h : PlainL (l ++ [(a, n)])) (hm : n ≤ m) (hm2 : a + m ≤ 8192) : PlainL (l ++ [(a, m)]) := by
  obtain ⟨h1, h2, h3⟩ := h.init
  exact h1.snoc ⟨h2.1, Int.le_trans h2.2.1 hm, hm2⟩ h3
theorem hasR_grow (l : List (Int × Int)) (a n b m : Int) (k : Nat) (h1 : a ≤ b) (h2 : b ≤ a + n) : hasR (l ++ [(a, max (a + n) (b + m) - a)]) k = (hasR (l ++ [(a, n)]) k || inR (b, m) k) := by
  rw [hasR_append, hasR_append, hasR_one, hasR_one, Bool.or_assoc]
  congr 1
  rw [Bool.eq_iff_iff, Bool.or_eq_true, inR_iff, inR_iff, inR_iff]
  simp only
  omega

end Go.Proofs.YtlfmmhalheohdaaDoor
namespace Go.Proofs.YtlfmmhalheohdaaDoor
open Go.RowKit

def runC (l : List (Int × Int)) : List Value := l.flatMap fun r => [Value.int .i64 r.1, Value.int .i64 r.2]
theorem runC_append (a b : List (Int × Int)) : runC (a ++ b) = runC a ++ runC b := List.flatMap_append
theorem runC_len : ∀ (l : List (Int × Int)), (runC l).length = l.length * 2
  | [] => rfl
  | r :: l => by
    show ([Value.int .i64 r.1, Value.int .i64 r.2] ++ runC l).length = (l.length + 1) * 2
    rw [List.length_append, runC_len l]; simp; omega
theorem runC_one (l : List (Int × Int)) : ∀ x ∈ runC l, x.oneCell' = true := fun x hx => by
  obtain ⟨r, _, hr⟩ := List.mem_flatMap.1 hx
  simp only [List.mem_cons, List.not_mem_nil, or_false] at hr
  rcases hr with rfl | rfl <;> rfl
theorem runC_get : ∀ (l : List (Int × Int)) (k : Nat) (h : k < l.length), (runC l)[k * 2]? = some (.int .i64 l[k].1) ∧ (runC l)[k * 2 + 1]? = some (.int .i64 l[k].2)
  | [], k, h => by simp at h
  | r :: l, 0, _ => ⟨rfl, rfl⟩
  | r :: l, k + 1, h => by
    have ih := runC_get l k (by simpa using h)
    have e : runC (r :: l) = [Value.int .i64 r.1, Value.int .i64 r.2] ++ runC l := rfl
    rw [e, List.getElem?_append_right (by simp; omega), List.getElem?_append_right (by simp; omega)]
    simp only [List.length_cons, List.length_nil, List.getElem_cons_succ]
    rw [show (k + 1) * 2 - (0 + 1 + 1) = k * 2 by omega, show (k + 1) * 2 + 1 - (0 + 1 + 1) = k * 2 + 1 by omega]
    exact ih
theorem runC_take (l : List (Int × Int)) (n : Nat) : runC (l.take n) = (runC l).take (n * 2) := by
  have h := runC_append (l.take n) (l.drop n)
  rw [List.take_append_drop] at h
  by_cases hn : n ≤ l.length
  · rw [h, List.take_left' (by rw [runC_len, List.length_take]; omega)]
  · rw [List.take_of_length_le (by omega), List.take_of_length_le (by rw [runC_len]; omega)]
/-- A list whose last run has one sector more. -/
theorem runC_bump (l : List (Int × Int)) (h : 0 < l.length) : runC (bump l) = (runC l).set ((l.length - 1) * 2 + 1) (.int .i64 ((l.getD (l.length - 1) (0, 0)).2 + 1)) := by
  obtain ⟨pre, r, rfl⟩ : ∃ pre r, l = pre ++ [r] := ⟨l.dropLast, l.getLast (by intro e; rw [e] at h; simp at h), (List.dropLast_concat_getLast _).symm⟩
  have e : (pre ++ [r]).getD pre.length (0, 0) = r := by rw [List.getD_eq_getElem?_getD, List.getElem?_append_right (Nat.le_refl _), Nat.sub_self]; rfl
  have e2 : (pre ++ [r]).length - 1 = pre.length := by simp
  rw [bump_snoc, runC_append, runC_append, e2, e, List.set_append_right _ _ (by rw [runC_len]; omega), runC_len, show pre.length * 2 + 1 - pre.length * 2 = 1 by omega]
  rfl

/-- A slice of runs. -/
structure RunsAt (l : List (Int × Int)) (v : Value) (w : World) : Prop where
  wf : wfR l
  cap : ∀ p n c, v = .slice p n c → n ≤ c
  at_ : FlatAt 2 l.length (runC l) v w

theorem RunsAt.later {l : List (Int × Int)} {v : Value} {w w' : World} (h : RunsAt l v w) (k : Kept w w') : RunsAt l v w' := ⟨h.wf, h.cap, h.at_.later k⟩
theorem RunsAt.nil (w : World) (c : Nat) : RunsAt [] (.slice none 0 c) w := ⟨wfR_nil, fun p n c' e => by simp only [Value.slice.injEq] at e; omega, rfl, fun x hx => (by cases hx), none, c, rfl, Or.inl rfl⟩
/-- As it lies. -/
theorem RunsAt.out {l : List (Int × Int)} {v : Value} {w : World} (h : RunsAt l v w) : ∃ p c, v = .slice p l.length c ∧ l.length ≤ c ∧
    (l.length = 0 ∨ ∃ b off, p = some ⟨b, off, none⟩ ∧ ∀ k (hk : k < l.length), w.cell? ⟨b, off + k * 2, none⟩ = some (.int .i64 l[k].1) ∧ w.cell? ⟨b, off + k * 2 + 1, none⟩ = some (.int .i64 l[k].2)) := by
  obtain ⟨hl, h1, p, c, rfl, hc⟩ := h.at_
  refine ⟨p, c, rfl, h.cap _ _ _ rfl, ?_⟩
  rcases hc with h0 | ⟨b, off, hp, hc⟩
  · exact Or.inl h0
  · refine Or.inr ⟨b, off, hp, fun k hk => ?_⟩
    have hg := runC_get l k hk
    exact ⟨hc _ _ hg.1, by rw [show off + k * 2 + 1 = off + (k * 2 + 1) by omega]; exact hc _ _ hg.2⟩
theorem RunsAt.own {w : World} {base : Nat} {e : TypeId} {v : Value} {l : List (Int × Int)} (h : w.ownsRow base e 2 v l.length (runC l)) (hw : wfR l) : RunsAt l v w := by
  refine ⟨hw, fun p n c e => ?_, FlatAt.own h (runC_one l)⟩
  rcases h.2 with ⟨rfl, _⟩ | ⟨g, cap, cur, rfl, _, _, hc, _⟩
  · simp only [Value.slice.injEq] at e; omega
  · simp only [Value.slice.injEq] at e; omega
theorem RunsAt.of_cells {l : List (Int × Int)} {w : World} (hw : wfR l) (p : Option Addr) (c : Nat) (hc : l.length ≤ c) (h : l.length = 0 ∨ ∃ b off, p = some ⟨b, off, none⟩ ∧ ∀ j x, (runC l)[j]? = some x → w.cell? ⟨b, off + j, none⟩ = some x) : RunsAt l (.slice p l.length c) w :=
  ⟨hw, fun p' n' c' e => by simp only [Value.slice.injEq] at e; omega, runC_len l, runC_one l, p, c, rfl, h⟩

/-- A slice of runs that is laid in a new block. -/
theorem RunsAt.new (w : World) (l : List (Int × Int)) (hl : wfR l) (n : Nat) (hn : l.length = n) (X : Array Value) (hX : X.toList = runC l) : RunsAt l (.slice (some ⟨w.heap.size, 0, none⟩) n n) (w.alloc (.cells X 48)) := by
  subst hn
  exact RunsAt.of_cells hl _ _ (Nat.le_refl _) (Or.inr ⟨w.heap.size, 0, rfl, fun j x hx => by
    rw [Nat.zero_add, cell_of_row _ _ _ _ _ _ (heap_alloc_new w _), ← Array.getElem?_toList, hX]; exact hx⟩)

/-- A row of so many truths. -/
def RowF (b : Nat) (f : Nat → Bool) (w : World) : Prop := ∃ cs : Array Value, w.heap[b]? = some (.cells cs 4 (0, 0)) ∧ cs.size = 8192 ∧ ∀ k, k < 8192 → cs[k]? = some (.bool (f k))

section
variable {b : Nat} {f : Nat → Bool} {w : World} (h : RowF b f w)
include h
theorem RowF.lt : b < w.heap.size := by obtain ⟨cs, hb, _⟩ := h; exact (Array.getElem?_eq_some_iff.1 hb).1
theorem RowF.stay {w' : World} (hk : w'.heap[b]? = w.heap[b]?) : RowF b f w' := by obtain ⟨cs, hb, r⟩ := h; exact ⟨cs, hk.trans hb, r⟩
theorem RowF.kept {w' : World} (k : Kept w w') : RowF b f w' := h.stay (k.block b h.lt)
theorem RowF.cell (k : Nat) (hk : k < 8192) : w.cell? ⟨b, k, none⟩ = some (.bool (f k)) := by
  obtain ⟨cs, hb, _, hc⟩ := h
  rw [cell_of_row _ _ k _ _ _ hb]; exact hc k hk
theorem RowF.froz (k : Nat) : w.frozen? ⟨b, k, none⟩ = false := by obtain ⟨cs, hb, _⟩ := h; exact frozen_of_row _ _ _ _ _ hb
theorem RowF.congr {g : Nat → Bool} (e : ∀ k, k < 8192 → f k = g k) : RowF b g w := by
  obtain ⟨cs, hb, hs, hc⟩ := h
  exact ⟨cs, hb, hs, fun k hk => by rw [← e k hk]; exact hc k hk⟩
theorem RowF.set (i : Nat) (x : Bool) : RowF b (fun k => if k = i then x else f k) (w.setCell ⟨b, i, none⟩ (.bool x)) := by
  obtain ⟨cs, hb, hs, hc⟩ := h
  refine ⟨_, heap_setCell_same _ _ _ _ _ _ hb, by simpa using hs, fun k hk => ?_⟩
  rw [Array.getElem?_setIfInBounds]
  by_cases e : k = i
  · subst e; rw [if_pos rfl, if_pos (by omega)]; show _ = some (Value.bool (if k = k then x else f k)); rw [if_pos rfl]
  · rw [if_neg (fun x => e x.symm)]; show _ = some (Value.bool (if k = i then x else f k)); rw [if_neg e]; exact hc k hk
end

/-- The sector behind a run's last one, at most 8192; 0: it has none. -/
def endI (r : Int × Int) : Int := if r.2 < 1 ∨ 8192 ≤ r.1 then 0 else if 0 ≤ r.1 ∧ 8192 - r.1 < r.2 then 8192 else min (max (r.1 + r.2) 0) 8192
theorem endI_in (r : Int × Int) (k : Nat) : (max r.1 0 ≤ (k : Int) ∧ (k : Int) < endI r) ↔ (k < 8192 ∧ inR r k = true) := by
  unfold endI inR
  simp only [decide_eq_true_eq]
  split
  · omega
  · split
    · omega
    · omega

/-- What few returns. -/
def fewV (l : List (Int × Int)) (v : Value) : Value := match v with
  | .slice p n c => if 30 < l.length then .slice p 30 c else .slice p n c
  | x => x
theorem fewV_at {l : List (Int × Int)} {v : Value} {w : World} (h : RunsAt l v w) : RunsAt (l.take 30) (fewV l v) w := by
  obtain ⟨hl, h1, p, c, rfl, hc⟩ := h.at_
  have hcap := h.cap _ _ _ rfl
  have hwf := wfR_take h.wf 30
  show RunsAt (l.take 30) (if 30 < l.length then .slice p 30 c else .slice p l.length c) w
  by_cases hb : 30 < l.length
  · rw [if_pos hb]
    have hlt : (l.take 30).length = 30 := by rw [List.length_take]; omega
    rcases hc with h0 | ⟨b, off, rfl, hcell⟩
    · omega
    have := RunsAt.of_cells (w := w) hwf (some ⟨b, off, none⟩) c (by rw [hlt]; omega) (Or.inr ⟨b, off, rfl, fun j x hx => hcell j x (by
      rw [runC_take, List.getElem?_take] at hx
      split at hx
      · exact hx
      · cases hx)⟩)
    rw [hlt] at this
    exact this
  · rw [if_neg hb, List.take_of_length_le (by omega)]
    exact h

end Go.Proofs.YtlfmmhalheohdaaDoor
