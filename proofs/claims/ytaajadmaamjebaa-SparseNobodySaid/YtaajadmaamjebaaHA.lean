/- Two fingerprints in order: the walks of compare and Less. Regions that draw their order (the laws themselves: Gen). How many first bits are 0: the walks of Zeros. -/
import Derived.Test.YtaajadmaamjebaaGH
import Derived.Test.YtaajadmaamjebaaZFpEq
import Derived.Lib.Bytealg
import Derived.Lib.Hide
import Derived.BigQuiet
import Derived.Laws.Externs
import Derived.WalkKit
import Derived.WalkSpells
import Derived.WalkLawsBesides
import Derived.Deep.OwnRows
import Derived.Laws.Rows
import Derived.Deep.WholeRow
import Derived.RegionTactic
import Derived.Deep.RegionWith
import Derived.Test.YtaajadmaamjebaaRows
import Derived.Test.YtaajadmaamjebaaGen
import Derived.Lib.BitFns
namespace Go.Proofs.Ytaajadmaamjebaa
open Go.RowKit

theorem ltB_compare : ∀ l m : List UInt8, l.length = m.length → decide (Lib.compareBytes l m < 0) = ltB l m
  | [], [], _ => rfl
  | [], _ :: _, h => by simp at h
  | _ :: _, [], h => by simp at h
  | a :: l, b :: m, h => by
    have ih := ltB_compare l m (by simpa using h)
    unfold Lib.compareBytes ltB
    by_cases ab : a = b
    · subst ab
      simp only [UInt8.lt_irrefl, if_false, if_true]
      exact ih
    · rw [if_neg ab]
      by_cases hlt : a < b
      · rw [if_pos hlt]
        have : a.toNat < b.toNat := UInt8.lt_iff_toNat_lt.1 hlt
        simp [this]
      · rw [if_neg hlt]
        have h1 : ¬ a.toNat < b.toNat := fun e => hlt (UInt8.lt_iff_toNat_lt.2 e)
        have h2 : b < a := UInt8.lt_of_le_of_ne (UInt8.not_lt.1 hlt) (Ne.symm ab)
        rw [if_pos h2]
        simp [h1]

theorem compare_eq : ∀ l m : List UInt8, l.length = m.length → (Lib.compareBytes l m == 0) = (l == m)
  | [], [], _ => rfl
  | [], _ :: _, h => by simp at h
  | _ :: _, [], h => by simp at h
  | a :: l, b :: m, h => by
    have ih := compare_eq l m (by simpa using h)
    unfold Lib.compareBytes
    by_cases ab : a = b
    · subst ab
      simp only [UInt8.lt_irrefl, if_false]
      rw [ih]
      simp
    · have hne : (a :: l == b :: m) = false := by simp [ab]
      rw [hne]
      by_cases hlt : a < b
      · rw [if_pos hlt]; rfl
      · have h2 : b < a := UInt8.lt_of_le_of_ne (UInt8.not_lt.1 hlt) (Ne.symm ab)
        rw [if_neg hlt, if_pos h2]; rfl

/-- The bytes of a slice, as the library's comparison takes them. -/
theorem run_loadBytes {P : Program} (b : Nat) : ∀ (l : List UInt8) (o : Nat) (acc : ByteArray) (w : World), (∀ j (h : j < l.length), w.cell? ⟨b, o + j, none⟩ = some (.int .u8 (l[j].toNat : Int))) →
    (Extern.Bytes.loadBytes ⟨b, o, none⟩ l.length acc).run P w = .ok (acc ++ str l) w
  | [], o, acc, w, _ => by
    have : acc ++ str [] = acc := by
      apply ByteArray.ext
      simp [str, ByteArray.data_append]
    rw [this]
    rfl
  | c :: l, o, acc, w, h => by
    have h0 := h 0 (by simp)
    simp only [Nat.add_zero, List.getElem_cons_zero] at h0
    have ih := run_loadBytes (P := P) b l (o + 1) (acc.push c) w (fun j hj => by
      have := h (j + 1) (by simp; omega)
      rw [show o + 1 + j = o + (j + 1) by omega]
      simpa using this)
    have hadd : (⟨b, o, none⟩ : Addr).add 1 = ⟨b, o + 1, none⟩ := addr_add b o 1
    have e2 : acc ++ str (c :: l) = acc.push c ++ str l := by
      apply ByteArray.ext
      simp [str, ByteArray.data_append]
    have hc : (UInt8.ofNat c.toNat) = c := by simp
    rw [List.length_cons, Extern.Bytes.loadBytes]
    simp only [Sem.run_bind, run_load, h0, Result.andThen_ok]
    rw [hadd, e2]
    have : ((c.toNat : Int).toNat.toUInt8) = c := by simp
    rw [this]
    exact ih

theorem run_cmp_bytes {P : Program} (b1 o1 c1 b2 o2 c2 : Nat) (l m : List UInt8) (w : World) (h1 : ∀ j (h : j < l.length), w.cell? ⟨b1, o1 + j, none⟩ = some (.int .u8 (l[j].toNat : Int)))
    (h2 : ∀ j (h : j < m.length), w.cell? ⟨b2, o2 + j, none⟩ = some (.int .u8 (m[j].toNat : Int))) :
    (Extern.BytealgCompare.compare #[.slice (some ⟨b1, o1, none⟩) l.length c1, .slice (some ⟨b2, o2, none⟩) m.length c2]).run P w = .ok (.int .i64 (Lib.compareBytes l m)) w := by
  change Sem.run P (do pure (goInt (Extern.BytealgCompare.cmp (← Extern.Bytes.bytesOf (.slice (some ⟨b1, o1, none⟩) l.length c1)) (← Extern.Bytes.bytesOf (.slice (some ⟨b2, o2, none⟩) m.length c2))))) w = _
  simp only [Extern.Bytes.bytesOf, Sem.run_bind, run_loadBytes b1 l o1 .empty w h1, run_loadBytes b2 m o2 .empty w h2, Sem.run_pure, Result.andThen]
  have e : ∀ x : List UInt8, ByteArray.empty ++ str x = str x := fun x => by simp
  rw [e, e, Lib.cmp_eq, str_list, str_list]
  rfl

set_option maxRecDepth 100000 in
/-- bytes.Compare of two slices of so many bytes. -/
theorem bcompare_any (b1 c1 b2 c2 : Nat) (l m : List UInt8) (n : Nat) (hl : l.length = n) (hm : m.length = n) (w : World) (h1 : ∀ j (h : j < l.length), w.cell? ⟨b1, j, none⟩ = some (.int .u8 (l[j].toNat : Int)))
    (h2 : ∀ j (h : j < m.length), w.cell? ⟨b2, j, none⟩ = some (.int .u8 (m[j].toNat : Int))) :
    Calls Try.prog 51 #[.slice (some ⟨b1, 0, none⟩) n c1, .slice (some ⟨b2, 0, none⟩) n c2] w fun e w' => e = .returned (.int .i64 (Lib.compareBytes l m)) ∧ w' = w := by
  have R := run_cmp_bytes (P := Try.prog) b1 0 c1 b2 0 c2 l m w (fun j h => by rw [Nat.zero_add]; exact h1 j h) (fun j h => by rw [Nat.zero_add]; exact h2 j h)
  rw [hl, hm] at R
  clear h1 h2
  go_enter Try.func51, Try.ntmps51
  go_wp2
  rw [run_callFunc_extern Try.func64 (by kernel_rfl) (by kernel_rfl) (by kernel_rfl) (e := Extern.BytealgCompare.compare) (by kernel_rfl), R]
  simp only [Result.andThen]
  rw [Oper.upon_value]
  go_wp2
  go_ret
  exact ⟨rfl, rfl⟩

theorem fp_cell (w : World) (b : Nat) (t : TypeId) (l : List UInt8) (fr : Nat × Nat) (h : w.heap[b]? = some (.cells (fpA l) t fr)) (j : Nat) (hj : j < l.length) : w.cell? ⟨b, j, none⟩ = some (.int .u8 (l[j].toNat : Int)) := by
  rw [cell_of_row w b j (fpA l) t fr h, fpA_get l j hj]
  simp [List.getD, hj]

set_option maxRecDepth 100000 in
/-- compare: two blocks are laid. -/
theorem compare_any (l m : List UInt8) (hl : l.length = 32) (hm : m.length = 32) (w : World) :
    Calls Try.prog 42 #[.agg (fpA l), .agg (fpA m)] w fun e w' => e = .returned (.int .i64 (Lib.compareBytes l m)) ∧ ∃ q, w' = ((w.alloc (.cells (fpA l) 47)).alloc (.cells (fpA m) 47)).drewN q := by
  obtain ⟨W, hW⟩ : ∃ W, W = (w.alloc (.cells (fpA l) 47)).alloc (.cells (fpA m) 47) := ⟨_, rfl⟩
  have g1 : W.heap[w.heap.size]? = some (.cells (fpA l) 47 (0, 0)) := by rw [hW]; exact heap_alloc2_old w _ _
  have g2 : W.heap[w.heap.size + 1]? = some (.cells (fpA m) 47 (0, 0)) := by rw [hW]; exact heap_alloc2_new w _ _
  have C : ∀ k, Calls Try.prog 51 #[.slice (some ⟨w.heap.size, 0, none⟩) 32 32, .slice (some ⟨w.heap.size + 1, 0, none⟩) 32 32] (W.drewN k) fun e w' => e = .returned (.int .i64 (Lib.compareBytes l m)) ∧ w' = W.drewN k := fun k =>
    bcompare_any w.heap.size 32 (w.heap.size + 1) 32 l m 32 hl hm (W.drewN k) (fun j h => by rw [World.cell?_drewN]; exact fp_cell W _ _ l _ g1 j h) (fun j h => by rw [World.cell?_drewN]; exact fp_cell W _ _ m _ g2 j h)
  obtain ⟨r, hr⟩ : ∃ r, r = Lib.compareBytes l m := ⟨_, rfl⟩
  rw [← hr] at C ⊢
  clear hr g1 g2
  have HW := Lib.hid hW
  obtain ⟨L, hL⟩ : ∃ L, L = fpA l := ⟨_, rfl⟩
  obtain ⟨M, hM⟩ : ∃ M, M = fpA m := ⟨_, rfl⟩
  rw [← hL, ← hM] at HW
  rw [← hL, ← hM]
  clear hL hM hl hm
  go_enter Try.func42, Try.ntmps42
  go_wp2
  rw [← HW.out]
  clear hW
  go_quiet ((go_at_call 51; exact Calls.quiet_of_same (C _)))
  go_wp2
  go_ret
  exact ⟨rfl, _, by rw [HW.out]⟩

theorem infoFp : (Try.prog.info? 47).map (·.size) = some 32 := by kernel_rfl

theorem fp_info (l : List UInt8) (hl : l.length = 32) : (Try.prog.info? 47).map (·.size) = some (fpA l).size := by rw [fpA_size, hl]; exact infoFp

theorem below_drewN {B : Nat} {a w : World} (h : Below B a w) (q : Nat) : Below B a (w.drewN q) := ⟨h.os, h.tape, h.output, h.size, h.block⟩

end Go.Proofs.Ytaajadmaamjebaa
namespace Go.Proofs.Ytaajadmaamjebaa
end Go.Proofs.Ytaajadmaamjebaa
namespace Go.Proofs.Ytaajadmaamjebaa
open Go.RowKit

theorem bits_zero : ∀ n : Fin 256, (([128, 64, 32, 16, 8, 4, 2, 1].map fun k => n.val / k % 2 == 1).takeWhile (!·)).length = 8 - Lib.bitLen n.val := by decide +kernel
theorem bitLen_pos : ∀ n : Fin 256, n.val ≠ 0 → 1 ≤ Lib.bitLen n.val ∧ Lib.bitLen n.val ≤ 8 := by decide +kernel

theorem zerosB_cons (a : UInt8) (l : List UInt8) : zerosB (a :: l) = if a.toNat = 0 then 8 + zerosB l else 8 - Lib.bitLen a.toNat := by
  have h := bits_zero ⟨a.toNat, a.toNat_lt⟩
  simp only at h
  have e : fbitsB (a :: l) = bits8 a ++ fbitsB l := rfl
  unfold zerosB
  rw [e, List.takeWhile_append]
  have hb : ((bits8 a).takeWhile (!·)).length = 8 - Lib.bitLen a.toNat := h
  rw [hb, bits8_len]
  by_cases h0 : a.toNat = 0
  · have : Lib.bitLen a.toNat = 0 := by rw [h0]; rfl
    rw [this, if_pos h0, if_pos rfl, List.length_append, bits8_len]
  · have := bitLen_pos ⟨a.toNat, a.toNat_lt⟩ h0
    simp only at this
    rw [if_neg h0, if_neg (by omega), hb]

theorem zerosB_drop (l : List UInt8) (i : Nat) (h : i < l.length) : zerosB (l.drop i) = if (l[i]).toNat = 0 then 8 + zerosB (l.drop (i + 1)) else 8 - Lib.bitLen (l[i]).toNat := by
  rw [List.drop_eq_getElem_cons h, zerosB_cons]

theorem zerosB_nil : zerosB [] = 0 := rfl

/-- A fingerprint in a block of its own, and all else as it was. -/
def OneRow (w : World) (l : List UInt8) (wr : World) : Prop := wr.heap[w.heap.size]? = some (.cells (fpA l) 47 (0, 0)) ∧ Below w.heap.size w wr

theorem OneRow.made (w : World) (l : List UInt8) : OneRow w l (w.alloc (.cells (fpA l) 47)) := ⟨heap_alloc_new w _, (Below.refl _ _).alloc (Nat.le_refl _) _⟩
theorem OneRow.drewN {w wr : World} {l : List UInt8} (h : OneRow w l wr) (n : Nat) : OneRow w l (wr.drewN n) := ⟨h.1, below_drewN h.2 n⟩
theorem OneRow.lt {w wr : World} {l : List UInt8} (h : OneRow w l wr) : w.heap.size < wr.heap.size := (Array.getElem?_eq_some_iff.1 h.1).1
theorem OneRow.kept {w wr wr' : World} {l : List UInt8} (h : OneRow w l wr) (k : Below wr.heap.size wr wr') : OneRow w l wr' :=
  ⟨by rw [k.block _ h.lt]; exact h.1, Below.then' h.2 k h.2.size⟩
theorem OneRow.cell {w wr : World} {l : List UInt8} (h : OneRow w l wr) (i : Nat) (hi : i < l.length) : wr.cell? ⟨w.heap.size, i, none⟩ = some (.int .u8 ((l.getD i 0).toNat : Int)) := by
  rw [fp_cell wr _ _ l _ h.1 i hi]
  simp [List.getD, hi]

theorem cellsU8 : Try.prog.cellsOf 5 = 1 := by kernel_rfl
theorem infoU8 : (Try.prog.info? 5).isSome = true := by kernel_rfl

theorem eq_fp (l m : List UInt8) (hl : l.length = 32) (hm : m.length = 32) (w : World) : (Op.equalIn 10000 47 (.agg (fpA l)) (.agg (fpA m))).run Try.prog w = .ok (l == m) w :=
  run_eq_fp 47 5 32 l m hl hm Try.underlying47 infoU8 cellsU8 Try.underlying5 w

def zeroL : List UInt8 := List.replicate 32 0
theorem zeroL_len : zeroL.length = 32 := rfl
theorem zeroL_cells : fpA zeroL = #[.int .u8 0, .int .u8 0, .int .u8 0, .int .u8 0, .int .u8 0, .int .u8 0, .int .u8 0, .int .u8 0, .int .u8 0, .int .u8 0, .int .u8 0, .int .u8 0, .int .u8 0, .int .u8 0, .int .u8 0, .int .u8 0, .int .u8 0, .int .u8 0, .int .u8 0, .int .u8 0, .int .u8 0, .int .u8 0, .int .u8 0, .int .u8 0, .int .u8 0, .int .u8 0, .int .u8 0, .int .u8 0, .int .u8 0, .int .u8 0, .int .u8 0, .int .u8 0] := by rfl

theorem all_zero (l : List UInt8) (hl : l.length = 32) (h : ∀ j, j < 32 → (l.getD j 0).toNat = 0) : l = zeroL := by
  apply List.ext_getElem (by rw [hl, zeroL_len])
  intro i h1 h2
  have := h i (by omega)
  apply UInt8.toNat_inj.1
  simp only [List.getD, List.getElem?_eq_getElem h1, Option.getD_some] at this
  have e : zeroL[i] = 0 := List.getElem_replicate ..
  rw [this, e]
  rfl

theorem zeros_zeroL : zerosB zeroL = 256 := by decide +kernel

end Go.Proofs.Ytaajadmaamjebaa
