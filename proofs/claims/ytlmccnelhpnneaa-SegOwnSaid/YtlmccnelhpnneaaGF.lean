/- The rolling hash: its mathematics, of no program. The rolling hash, summed from the last byte on: its mathematics, of no program. The walks of a Roll: term, slid, Slide. The walks of a Roll: New, add, Sum, Push, Len, Reset; Slide. The walks of a Roll: add, Sum, Push; the hash of a text. The walks of a text's hash, and of the document's. The walks of the document's Slide; of same, of All, and of the document's All. The walks of All, and of the document's All. The walks of the document's All; of Places, and of the document's Places. -/
import Derived.Test.YtlmccnelhpnneaaGA
import Derived.Test.YtlmccnelhpnneaaRows
import Derived.WalkKit
import Derived.WalkSpells
import Derived.WalkLawsBesides
import Derived.Deep.OwnRows
import Derived.Lib.Hide
import Derived.BigQuiet
import Derived.Test.YtlmccnelhpnneaaGC
import Derived.Laws.Rows
import Derived.Deep.WholeRow
import Derived.RegionTactic
import Derived.Deep.RegionWith
import Derived.Laws.AppendOwn
import Derived.StillTailTactics
import Derived.Outline
namespace Go.Proofs.Ytlmccnelhpnneaa

def rP : Nat := 2147483647
def rstep (n : Nat) (b : UInt8) : Nat := (n * 257 + b.toNat + 1) % rP
def rfold (n : Nat) (l : List UInt8) : Nat := l.foldl rstep n
def last16 (l : List UInt8) : List UInt8 := l.drop (l.length - 16)
/-- The hash of a text: of its last sixteen bytes. -/
def rsum (l : List UInt8) : Nat := rfold 0 (last16 l)

theorem rstep_lt (n : Nat) (b : UInt8) : rstep n b < 2147483647 := Nat.mod_lt _ (by decide)

theorem rfold_snoc (n : Nat) (l : List UInt8) (b : UInt8) : rfold n (l ++ [b]) = rstep (rfold n l) b := by simp [rfold]

theorem rfold_lt (l : List UInt8) : ∀ {n : Nat}, n < 2147483647 → rfold n l < 2147483647 := by
  induction l with
  | nil => intro n h; exact h
  | cons b l ih => intro n _; exact ih (rstep_lt n b)

theorem rsum_lt (l : List UInt8) : rsum l < 2147483647 := rfold_lt _ (by decide)

theorem rfold_take (n : Nat) (l : List UInt8) (i : Nat) (h : i < l.length) : rfold n (l.take (i + 1)) = rstep (rfold n (l.take i)) l[i] := by
  rw [List.take_succ_eq_append_getElem h, rfold_snoc]

/-- A step of the loop over the last sixteen, by the place in the whole text. -/
theorem rfold_seg (l : List UInt8) (k i : Nat) (hk : k ≤ i) (h : i < l.length) : rfold 0 ((l.take (i + 1)).drop k) = rstep (rfold 0 ((l.take i).drop k)) l[i] := by
  rw [List.take_succ_eq_append_getElem h, List.drop_append_of_le_length (by rw [List.length_take]; omega), rfold_snoc]

theorem rstep_mod (n : Nat) (b : UInt8) : rstep (n % 2147483647) b = rstep n b := by
  unfold rstep rP
  omega

theorem rfold_mod (n : Nat) (l : List UInt8) : rfold (n % 2147483647) l % 2147483647 = rfold n l % 2147483647 := by
  cases l with
  | nil => exact Nat.mod_mod _ _
  | cons b l => show rfold (rstep (n % 2147483647) b) l % _ = rfold (rstep n b) l % _; rw [rstep_mod]

theorem rfold_add (l : List UInt8) : ∀ x y : Nat, rfold (x + y) l % 2147483647 = (x * 257 ^ l.length + rfold y l) % 2147483647 := by
  induction l with
  | nil => intro x y; simp [rfold]
  | cons b l ih =>
    intro x y
    have h1 : rfold (rstep (x + y) b) l % 2147483647 = rfold (x * 257 + (y * 257 + b.toNat + 1)) l % 2147483647 := by
      have e : rstep (x + y) b = (x * 257 + (y * 257 + b.toNat + 1)) % 2147483647 := by unfold rstep rP; omega
      rw [e, rfold_mod]
    have h2 : rfold (rstep y b) l % 2147483647 = rfold (y * 257 + b.toNat + 1) l % 2147483647 := by
      rw [← rfold_mod (y * 257 + b.toNat + 1) l]; rfl
    show rfold (rstep (x + y) b) l % 2147483647 = (x * 257 ^ (l.length + 1) + rfold (rstep y b) l) % 2147483647
    rw [h1, ih, Nat.add_mod (x * 257 ^ (l.length + 1)), h2, ← Nat.add_mod, Nat.pow_succ, Nat.mul_assoc, Nat.mul_comm 257]

/-- 257^15. -/
def rworth : Nat := 257 ^ 15 % 2147483647

def rslide (h : Nat) (o i : UInt8) : Nat := rstep ((h + 2147483647 - (o.toNat + 1) * rworth % 2147483647) % 2147483647) i

theorem rslide_lt (h : Nat) (o i : UInt8) : rslide h o i < 2147483647 := rstep_lt _ _

theorem rslide_fold (a b : UInt8) (l : List UInt8) (hl : l.length = 15) : rslide (rfold 0 (a :: l)) a b = rfold 0 (l ++ [b]) := by
  have hR := rfold_lt l (n := 0) (by decide)
  have hH := rfold_lt (a :: l) (n := 0) (by decide)
  have h1 : rfold 0 (a :: l) = ((a.toNat + 1) * 257 ^ 15 + rfold 0 l) % 2147483647 := by
    rw [← hl, ← rfold_add l (a.toNat + 1) 0, ← Nat.mod_eq_of_lt hH]
    show rfold (rstep 0 a) l % 2147483647 = _
    have e : rstep 0 a = (a.toNat + 1 + 0) % 2147483647 := by unfold rstep rP; omega
    rw [e, rfold_mod]
  have h2 : (a.toNat + 1) * rworth % 2147483647 = (a.toNat + 1) * 257 ^ 15 % 2147483647 := by
    unfold rworth; rw [Nat.mul_mod, Nat.mod_mod, ← Nat.mul_mod]
  have h3 : (rfold 0 (a :: l) + 2147483647 - (a.toNat + 1) * rworth % 2147483647) % 2147483647 = rfold 0 l := by
    rw [h2, h1]
    generalize (a.toNat + 1) * 257 ^ 15 = g
    generalize rfold 0 l = R at hR
    omega
  unfold rslide
  rw [h3, rfold_snoc]

theorem last16_short (l : List UInt8) (h : l.length ≤ 16) : last16 l = l := by
  unfold last16; rw [show l.length - 16 = 0 by omega, List.drop_zero]

theorem last16_append (a s : List UInt8) (h : 16 ≤ s.length) : last16 (a ++ s) = last16 s := by
  unfold last16
  rw [List.length_append, show a.length + s.length - 16 = a.length + (s.length - 16) by omega, List.drop_append, List.drop_eq_nil_of_le (by omega), List.nil_append, Nat.add_sub_cancel_left]

theorem last16_len (l : List UInt8) : (last16 l).length = min l.length 16 := by
  unfold last16; rw [List.length_drop]; omega

/-- Of sixteen bytes the hash moves on by one. -/
theorem rslide_rsum (a b : UInt8) (l : List UInt8) (hl : l.length = 15) : rslide (rsum (a :: l)) a b = rsum (l ++ [b]) := by
  unfold rsum
  rw [last16_short _ (by simp [hl]), last16_short _ (by simp [hl]), rslide_fold a b l hl]

theorem rsum_forgets (a b s : List UInt8) (h : 16 ≤ s.length) : rsum (a ++ s) = rsum (b ++ s) := by
  unfold rsum; rw [last16_append _ _ h, last16_append _ _ h]

/-- The hash, one byte further, where the window isn't full, and where it is. -/
theorem rsum_more (l : List UInt8) (b : UInt8) (h : l.length < 16) : rsum (l ++ [b]) = rstep (rsum l) b := by
  unfold rsum
  rw [last16_short _ (by simp; omega), last16_short _ (by omega), rfold_snoc]

theorem rsum_slid (l : List UInt8) (b : UInt8) (h : 16 ≤ l.length) : rsum (l ++ [b]) = rslide (rsum l) (l[l.length - 16]'(by omega)) b := by
  have e : last16 l = l[l.length - 16]'(by omega) :: l.drop (l.length - 15) := by
    unfold last16
    rw [List.drop_eq_getElem_cons (by omega), show l.length - 16 + 1 = l.length - 15 by omega]
  have e2 : last16 (l ++ [b]) = l.drop (l.length - 15) ++ [b] := by
    unfold last16
    rw [List.length_append, List.length_singleton, show l.length + 1 - 16 = l.length - 15 by omega, List.drop_append_of_le_length (by omega)]
  unfold rsum
  rw [e, e2, rslide_fold _ _ _ (by rw [List.length_drop]; omega)]

/-- A power of 257, one further. -/
theorem rpow_next (i : Nat) : 257 ^ i % 2147483647 * 257 % 2147483647 = 257 ^ (i + 1) % 2147483647 := by
  rw [Nat.pow_succ, Nat.mod_mul_mod]

/-- A ring of sixteen that holds the last bytes of a list, each at its place modulo 16. -/
def RingOf (l : List UInt8) (A : List UInt8) : Prop := A.length = 16 ∧ ∀ k, l.length - 16 ≤ k → ∀ h : k < l.length, A[k % 16]? = some l[k]

theorem RingOf.nil : RingOf [] (List.replicate 16 0) := ⟨by simp, fun k _ h => by simp at h⟩

theorem RingOf.push {l A : List UInt8} (h : RingOf l A) (b : UInt8) : RingOf (l ++ [b]) (A.set (l.length % 16) b) := by
  refine ⟨by rw [List.length_set]; exact h.1, fun k hk hk2 => ?_⟩
  rw [List.length_append, List.length_singleton] at hk hk2
  by_cases e : k = l.length
  · subst e
    rw [List.getElem?_set_self (by rw [h.1]; omega)]
    simp
  · have hk3 : k < l.length := by omega
    rw [List.getElem?_set_ne (by omega), List.getElem_append_left hk3]
    exact h.2 k (by omega) hk3

end Go.Proofs.Ytlmccnelhpnneaa
namespace Go.Proofs.Ytlmccnelhpnneaa

/-! ### The powers of 257, and a hash summed from the last byte on. -/
def P16 : List Nat := [0x00000001, 0x00000101, 0x00010201, 0x01030301, 0x04060403, 0x0A0A070B, 0x1411121F, 0x25233147, 0x48547891, 0x1CCD0A22, 0x69D72C5B, 0x4103882F, 0x448BB7B1, 0x5043693A, 0x13ACA3DB, 0x40507F02]

theorem P16_pow : ∀ i : Fin 16, P16.getD i.1 0 = 257 ^ i.1 % 2147483647 := by decide +kernel
theorem P16_lt : ∀ i : Fin 16, P16.getD i.1 0 < 2147483647 := by decide +kernel

/-- What a byte with i bytes behind it adds. -/
def rterm (b : UInt8) (i : Nat) : Nat := (b.toNat + 1) * P16.getD i 0

theorem rterm_le (b : UInt8) (i : Nat) (h : i < 16) : rterm b i ≤ 549755813376 := by
  have h1 := P16_lt ⟨i, h⟩
  have h2 := b.toNat_lt
  simp only at h1
  unfold rterm
  have : (b.toNat + 1) * P16.getD i 0 ≤ 256 * 2147483646 := Nat.mul_le_mul (by omega) (by omega)
  omega

/-- The last k bytes' hash, not yet modulo. -/
def bk (l : List UInt8) : Nat → Nat
  | 0 => 0
  | k + 1 => bk l k + rterm (l.getD (l.length - 1 - k) 0) k

theorem bk_le (l : List UInt8) : ∀ k, k ≤ 16 → bk l k ≤ 549755813376 * k
  | 0, _ => by simp [bk]
  | k + 1, h => by
    have h1 := bk_le l k (by omega)
    have h2 := rterm_le (l.getD (l.length - 1 - k) 0) k (by omega)
    simp only [bk]
    omega

theorem bk_cons (a : UInt8) (l : List UInt8) : ∀ k, k ≤ l.length → bk (a :: l) k = bk l k
  | 0, _ => rfl
  | k + 1, h => by
    simp only [bk]
    rw [bk_cons a l k (by omega), List.length_cons, show l.length + 1 - 1 - k = (l.length - 1 - k) + 1 by omega, List.getD_cons_succ]

theorem bk_append (p l : List UInt8) (k : Nat) (h : k ≤ l.length) : bk (p ++ l) k = bk l k := by
  induction p with
  | nil => rfl
  | cons a p ih => rw [List.cons_append, bk_cons a (p ++ l) k (by rw [List.length_append]; omega), ih]

theorem bk_fold (l : List UInt8) (h : l.length ≤ 16) : bk l l.length % 2147483647 = rfold 0 l := by
  induction l with
  | nil => rfl
  | cons a l ih =>
    rw [List.length_cons] at h
    have ih := ih (by omega)
    rw [List.length_cons]
    simp only [bk]
    rw [bk_cons a l _ (Nat.le_refl _), List.length_cons, show l.length + 1 - 1 - l.length = 0 by omega, List.getD_cons_zero]
    have hP := P16_pow ⟨l.length, by omega⟩
    simp only at hP
    have h1 := rfold_add l (a.toNat + 1) 0
    rw [Nat.add_zero] at h1
    have e : rfold 0 (a :: l) = rfold (a.toNat + 1) l := by
      show rfold (rstep 0 a) l = _
      have e : rstep 0 a = a.toNat + 1 := by
        unfold rstep rP; have := a.toNat_lt; omega
      rw [e]
    have hlt : rfold (a.toNat + 1) l < 2147483647 := rfold_lt l (by have := a.toNat_lt; omega)
    rw [e, ← Nat.mod_eq_of_lt hlt, h1, ← ih]
    unfold rterm
    rw [hP]
    generalize bk l l.length = B
    generalize 257 ^ l.length = g
    rw [Nat.add_mod, Nat.mul_mod, Nat.mod_mod, ← Nat.mul_mod, ← Nat.add_mod, Nat.add_comm B, Nat.add_mod ((a.toNat + 1) * g) (B % 2147483647), Nat.mod_mod, ← Nat.add_mod]

theorem bk_rsum (l : List UInt8) : bk l (min l.length 16) % 2147483647 = rsum l := by
  unfold rsum
  have h1 := last16_len l
  have h2 := bk_fold (last16 l) (by omega)
  rw [← h2, h1]
  congr 1
  have h3 := bk_append (l.take (l.length - 16)) (last16 l) (min l.length 16) (by omega)
  rw [← h3]
  unfold last16
  rw [List.take_append_drop]

theorem RingOf.get {l A : List UInt8} (h : RingOf l A) (i : Nat) (h1 : i < l.length) (h2 : i < 16) : A.getD ((l.length - 1 - i) % 16) 0 = l.getD (l.length - 1 - i) 0 := by
  have := h.2 (l.length - 1 - i) (by omega) (by omega)
  rw [List.getD_eq_getElem?_getD, this, List.getD_eq_getElem?_getD, List.getElem?_eq_getElem (by omega)]

/-- A hash slid, as the code reckons it: the first subtraction is not reduced. -/
theorem rslide_code (h : Nat) (o i : UInt8) (_hh : h < 2147483647) : ((h + 2147483647 - rterm o 15 % 2147483647) * 257 + rterm i 0) % 2147483647 = rslide h o i := by
  have hP := P16_pow ⟨15, by omega⟩
  simp only at hP
  have e0 : rterm i 0 = i.toNat + 1 := by simp [rterm, P16]
  have e1 : rterm o 15 % 2147483647 = (o.toNat + 1) * rworth % 2147483647 := by unfold rterm rworth; rw [hP]
  rw [e0, e1]
  unfold rslide rstep rP
  generalize (o.toNat + 1) * rworth = g
  omega

theorem last16_eq (l : List UInt8) (k : Nat) (h : k = l.length - 16) : rsum (l.drop k) = rsum l := by
  subst h
  unfold rsum
  rw [last16_short (l.drop (l.length - 16)) (by rw [List.length_drop]; omega)]
  rfl

theorem rsum_nil : rsum [] = 0 := rfl

end Go.Proofs.Ytlmccnelhpnneaa
namespace Go.Proofs.Ytlmccnelhpnneaa
open Go.RowKit

end Go.Proofs.Ytlmccnelhpnneaa
namespace Go.Proofs.Ytlmccnelhpnneaa
open Go.RowKit

theorem below_setRow {B : Nat} {w w' : World} (h : Below B w w') (g : Nat) (cs : Array Value) (hg : B ≤ g) : Below B w (w'.setRow g cs) :=
  ⟨h.os, h.tape, h.output, by simpa using h.size, fun i hi => (setRow_other w' g i cs (by omega)).trans (h.block i hi)⟩

/-! ### Slide. -/
/-! ### The cells of a Roll. -/
def byA (l : List UInt8) : Array Value := (l.map fun c : UInt8 => Value.int .u8 (c.toNat : Int)).toArray
theorem byA_size (l : List UInt8) : (byA l).size = l.length := by simp [byA]
theorem byA_get (l : List UInt8) (i : Nat) (h : i < l.length) : (byA l)[i]? = some (.int .u8 ((l.getD i 0).toNat : Int)) := by
  simp [byA, List.getD, h]

def rollA (A : List UInt8) (n : Nat) : Array Value := (byA A).push (.int .i64 n)
theorem rollA_size (A : List UInt8) (n : Nat) (h : A.length = 16) : (rollA A n).size = 17 := by simp [rollA, byA_size, h]
theorem rollA_last (A : List UInt8) (n : Nat) (h : A.length = 16) : (rollA A n)[16]? = some (.int .i64 n) := by
  have : 16 = (byA A).size := by rw [byA_size, h]
  unfold rollA
  rw [this, Array.getElem?_push_size]
theorem rollA_get (A : List UInt8) (n i : Nat) (h : A.length = 16) (hi : i < 16) : (rollA A n)[i]? = some (.int .u8 ((A.getD i 0).toNat : Int)) := by
  unfold rollA
  rw [Array.getElem?_push_lt (by rw [byA_size]; omega), ← byA_get A i (by omega), Array.getElem?_eq_getElem (by rw [byA_size]; omega)]
theorem rollA_set (A : List UInt8) (n i : Nat) (b : UInt8) (h : A.length = 16) (hi : i < 16) : (rollA A n).setIfInBounds i (.int .u8 (b.toNat : Int)) = rollA (A.set i b) n := by
  apply Array.ext'
  simp only [rollA, byA, Array.toList_setIfInBounds, Array.toList_push, List.map_set]
  rw [List.set_append_left _ _ (by simp; omega)]
theorem rollA_count (A : List UInt8) (n m : Nat) (h : A.length = 16) : (rollA A n).setIfInBounds 16 (.int .i64 m) = rollA A m := by
  apply Array.ext'
  simp only [rollA, byA, Array.toList_setIfInBounds, Array.toList_push]
  rw [List.set_append_right _ _ (by simp; omega)]
  simp [h]
theorem rollA_one (A : List UInt8) (n : Nat) : (rollA A n).all (·.oneCell') = true := by
  rw [Array.all_eq_true]
  intro i hi
  simp only [rollA, byA, Array.getElem_push]
  split
  · simp [Value.oneCell']
  · rfl

end Go.Proofs.Ytlmccnelhpnneaa
namespace Go.Proofs.Ytlmccnelhpnneaa
open Go.RowKit

theorem below_drewN' {B : Nat} {a w : World} (h : Below B a w) (n : Nat) : Below B a (w.drewN n) := ⟨h.os, h.tape, h.output, h.size, h.block⟩

end Go.Proofs.Ytlmccnelhpnneaa
namespace Go.Proofs.Ytlmccnelhpnneaa
open Go.RowKit

theorem seg_more (l : List UInt8) (f k : Nat) (hk : f ≤ k) (h : k < l.length) : (l.take (k + 1)).drop f = (l.take k).drop f ++ [l[k]] := by
  rw [List.take_succ_eq_append_getElem h, List.drop_append_of_le_length (by rw [List.length_take]; omega)]

end Go.Proofs.Ytlmccnelhpnneaa
namespace Go.Proofs.Ytlmccnelhpnneaa
open Go.RowKit

/-- The value v is a slice of the numbers zs in the world w. -/
def U32At (zs : List Nat) (v : Value) (w : World) : Prop :=
  ∃ p c, v = .slice p zs.length c ∧ (zs = [] ∨ ∃ b off, p = some ⟨b, off, none⟩ ∧ ∀ i, i < zs.length → w.cell? ⟨b, off + i, none⟩ = some (.int .u32 (zs.getD i 0 : Nat)))

theorem U32At.later {zs : List Nat} {v : Value} {w w' : World} (h : U32At zs v w) (hb : Below w.heap.size w w') : U32At zs v w' := by
  obtain ⟨p, c, rfl, h⟩ := h
  refine ⟨p, c, rfl, ?_⟩
  rcases h with h | ⟨b, off, hp, hc⟩
  · exact Or.inl h
  · exact Or.inr ⟨b, off, hp, fun i hi => (hb.cell (World.block_lt_of_cell? _ _ (hc i hi))).trans (hc i hi)⟩

end Go.Proofs.Ytlmccnelhpnneaa
namespace Go.Proofs.Ytlmccnelhpnneaa
open Go.RowKit

/-- The hashes of all beginnings. -/
def hashes (l : List UInt8) (k : Nat) : List Nat := (List.range k).map fun i => rsum (l.take (i + 1))
theorem hashes_len (l : List UInt8) (k : Nat) : (hashes l k).length = k := by simp [hashes]
theorem hashes_get (l : List UInt8) (k i : Nat) (h : i < k) : (hashes l k).getD i 0 = rsum (l.take (i + 1)) := by simp [hashes, List.getD, h]
theorem hashes_snoc (l : List UInt8) (k : Nat) : hashes l (k + 1) = hashes l k ++ [rsum (l.take (k + 1))] := by simp [hashes, List.range_succ]
theorem hashes_lt (l : List UInt8) (k i : Nat) (h : i < k) : (hashes l k).getD i 0 < 2147483647 := by rw [hashes_get l k i h]; exact rsum_lt _

theorem info36 : (Try.prog.info? 48).map (fun i => (i.zero, i.size, i.bytes)) = some (some (.int .u32 0), 1, 4) := by kernel_rfl

theorem cut_list (s : ByteArray) (n : Nat) (hn : n ≤ s.size) : (s.extract 0 n).data.toList = s.data.toList.take n ∧ (s.extract 0 n).size = n := by
  have e : (s.extract 0 n).data.toList = s.data.toList.take n := by
    have h := Lib.extract_eq s 0 n
    rw [h, List.drop_zero, Nat.sub_zero]
  refine ⟨e, ?_⟩
  rw [← data_len, e, List.length_take, data_len]
  omega

/-- The cells of the hashes that are there so far. -/
def AllAt (w : World) (l : List UInt8) (n i : Nat) (wr : World) : Prop :=
  ∃ C : Array Value, wr.heap[w.heap.size]? = some (.cells C 48 (0, 0)) ∧ C.size = n ∧ (∀ j, j < i → C[j]? = some (.int .u32 (rsum (l.take (j + 1)) : Nat))) ∧ Below w.heap.size w wr

theorem AllAt.set {w : World} {l : List UInt8} {n i : Nat} {wr : World} (h : AllAt w l n i wr) (hi : i < n) (r : Nat) (hr : r = rsum (l.take (i + 1))) : AllAt w l n (i + 1) (wr.setCell ⟨w.heap.size, i, none⟩ (.int .u32 (r : Nat))) := by
  obtain ⟨C, g, hs, hc, hb⟩ := h
  refine ⟨_, heap_setCell_same _ _ _ _ _ _ g, by simpa using hs, fun j hj => ?_, hb.setCell (Nat.le_refl _) _⟩
  rw [Array.getElem?_setIfInBounds]
  by_cases e : i = j
  · subst e
    rw [if_pos rfl, if_pos (by omega), hr]
  · rw [if_neg e]; exact hc j (by omega)

theorem AllAt.drew {w : World} {l : List UInt8} {n i : Nat} {wr : World} (h : AllAt w l n i wr) : AllAt w l n i wr.drew := by
  obtain ⟨C, g, hs, hc, hb⟩ := h
  exact ⟨C, g, hs, hc, hb.drew⟩

theorem AllAt.later {w : World} {l : List UInt8} {n i : Nat} {wr wr' : World} (h : AllAt w l n i wr) (hb' : Below wr.heap.size wr wr') : AllAt w l n i wr' := by
  obtain ⟨C, g, hs, hc, hb⟩ := h
  exact ⟨C, (hb'.block _ (Array.getElem?_eq_some_iff.1 g).1).trans g, hs, hc, Below.then' hb hb' hb.size⟩

end Go.Proofs.Ytlmccnelhpnneaa
namespace Go.Proofs.Ytlmccnelhpnneaa
open Go.RowKit

/-- The cells of some numbers. -/
def nuL (l : List Nat) : List Value := l.map fun n : Nat => Value.int .u32 (n : Int)
theorem nuL_len (l : List Nat) : (nuL l).length = l.length := by simp [nuL]
theorem nuL_get (l : List Nat) (j : Nat) (h : j < l.length) : (nuL l)[j]? = some (.int .u32 (l.getD j 0 : Nat)) := by
  simp [nuL, List.getD, h]
def inL (l : List Nat) : List Value := l.map fun n : Nat => Value.int .i64 (n : Int)
theorem inL_len (l : List Nat) : (inL l).length = l.length := by simp [inL]
theorem inL_get (l : List Nat) (j : Nat) (h : j < l.length) : (inL l)[j]? = some (.int .i64 (l.getD j 0 : Nat)) := by
  simp [inL, List.getD, h]

theorem own_cells {w : World} {base : Nat} {e : TypeId} {v : Value} {n : Nat} {xs : List Value} (h : w.ownsRow base e 1 v n xs) (hn : 0 < n) (hl : xs.length = n) :
    ∃ g cap, v = .slice (some ⟨g, 0, none⟩) n cap ∧ base ≤ g ∧ ∀ j u, xs[j]? = some u → w.cell? ⟨g, j, none⟩ = some u := by
  rcases h with ⟨_, ⟨rfl, h0⟩ | ⟨g', cap', cur, rfl, hbg, hrow, hn', hcap, hcs, htake⟩⟩
  · omega
  · refine ⟨g', cap', rfl, hbg, fun j u hu => ?_⟩
    rw [cell_of_row _ _ _ _ _ _ hrow]
    have hj : j < n := by
      have := (List.getElem?_eq_some_iff.1 hu).1
      omega
    have := congrArg (fun l => l[j]?) htake
    simp only [Nat.mul_one] at this
    rw [← hu, ← this, List.getElem?_take, if_pos hj, Array.getElem?_toList]

theorem own_nil {w : World} {base : Nat} {e : TypeId} {v : Value} {xs : List Value} (h : w.ownsRow base e 1 v 0 xs) : ∃ p c, v = .slice p 0 c := by
  rcases h with ⟨_, ⟨rfl, h0⟩ | ⟨g', cap', cur, rfl, hbg, hrow, hn', hcap, hcs, htake⟩⟩
  · exact ⟨_, _, rfl⟩
  · exact ⟨_, _, rfl⟩

theorem u32At_own {w : World} {base : Nat} {e : TypeId} {v : Value} {zs : List Nat} (h : w.ownsRow base e 1 v zs.length (nuL zs)) : U32At zs v w := by
  by_cases h0 : zs.length = 0
  · have hz := List.length_eq_zero_iff.1 h0
    subst hz
    obtain ⟨p, c, rfl⟩ := own_nil h
    exact ⟨p, c, rfl, Or.inl rfl⟩
  · obtain ⟨g, cap, rfl, _, hc⟩ := own_cells h (by omega) (nuL_len _)
    exact ⟨_, _, rfl, Or.inr ⟨g, 0, rfl, fun i hi => by rw [Nat.zero_add]; exact hc i _ (nuL_get _ _ hi)⟩⟩

/-- The value v is a slice of the ints zs in the world w. -/
def I64At (zs : List Nat) (v : Value) (w : World) : Prop :=
  ∃ p c, v = .slice p zs.length c ∧ (zs = [] ∨ ∃ b off, p = some ⟨b, off, none⟩ ∧ ∀ i, i < zs.length → w.cell? ⟨b, off + i, none⟩ = some (.int .i64 (zs.getD i 0 : Nat)))

theorem I64At.later {zs : List Nat} {v : Value} {w w' : World} (h : I64At zs v w) (hb : Below w.heap.size w w') : I64At zs v w' := by
  obtain ⟨p, c, rfl, h⟩ := h
  refine ⟨p, c, rfl, ?_⟩
  rcases h with h | ⟨b, off, hp, hc⟩
  · exact Or.inl h
  · exact Or.inr ⟨b, off, hp, fun i hi => (hb.cell (World.block_lt_of_cell? _ _ (hc i hi))).trans (hc i hi)⟩

theorem i64At_own {w : World} {base : Nat} {e : TypeId} {v : Value} {zs : List Nat} (h : w.ownsRow base e 1 v zs.length (inL zs)) : I64At zs v w := by
  by_cases h0 : zs.length = 0
  · have hz := List.length_eq_zero_iff.1 h0
    subst hz
    obtain ⟨p, c, rfl⟩ := own_nil h
    exact ⟨p, c, rfl, Or.inl rfl⟩
  · obtain ⟨g, cap, rfl, _, hc⟩ := own_cells h (by omega) (inL_len _)
    exact ⟨_, _, rfl, Or.inr ⟨g, 0, rfl, fun i hi => by rw [Nat.zero_add]; exact hc i _ (inL_get _ _ hi)⟩⟩

theorem infoInt : (Try.prog.info? 3).map (fun i => (i.zero, i.size, i.bytes)) = some (some (.int .i64 0), 1, 8) := by kernel_rfl

theorem info_of {P : Program} {t : TypeId} {z : Value} {b : Nat} (h : (P.info? t).map (fun i => (i.zero, i.size, i.bytes)) = some (some z, 1, b)) : ∃ i : TypeInfo, P.info? t = some i ∧ i.zero = some z ∧ i.size = 1 ∧ i.bytes = b := by
  cases hq : P.info? t with
  | none => rw [hq] at h; cases h
  | some i =>
    rw [hq] at h
    simp only [Option.map_some, Option.some.injEq, Prod.mk.injEq] at h
    exact ⟨i, rfl, h.1, h.2.1, h.2.2⟩

/-- What a loop holds that appends hashes. -/
def HashesAt (w : World) (l : List UInt8) (k : Nat) (v : Value) (wr : World) : Prop := wr.ownsRow w.heap.size 48 1 v k (nuL (hashes l k)) ∧ Below w.heap.size w wr

end Go.Proofs.Ytlmccnelhpnneaa
