/- Two fingerprints in order: the walks of compare and Less. -/
import Derived.Test.YthgjooacapodnaaHookT
import Derived.Test.YthgjooacapodnaaZFpEq
import Derived.Lib.Bytealg
import Derived.Lib.Hide
import Derived.BigQuiet
import Derived.Laws.Externs
import Derived.WalkKit
import Derived.WalkSpells
import Derived.WalkLawsBesides
import Derived.Deep.OwnRows
import Derived.Laws.Rows
import Derived.Deep.WholeRow
import Derived.RegionTactic
import Derived.Deep.RegionWith
import Derived.Test.YthgjooacapodnaaRows
namespace Go.Proofs.Ythgjooacapodnaa
open Go.RowKit

theorem ltB_compare : ∀ l m : List UInt8, l.length = m.length → decide (Lib.compareBytes l m < 0) = ltB l m
  | [], [], _ => rfl
  | [], _ :: _, h => by simp at h
  | _ :: _, [], h => by simp at h
  | a :: l, b :: m, h => by
    have ih := ltB_compare l m (by simpa using h)
    unfold Lib.compareBytes ltB
    by_cases ab : a = b
    · subst ab
      simp only [UInt8.lt_irrefl, if_false, if_true]
      exact ih
    · rw [if_neg ab]
      by_cases hlt : a < b
      · rw [if_pos hlt]
        have : a.toNat < b.toNat := UInt8.lt_iff_toNat_lt.1 hlt
        simp [this]
      · rw [if_neg hlt]
        have h1 : ¬ a.toNat < b.toNat := fun e => hlt (UInt8.lt_iff_toNat_lt.2 e)
        have h2 : b < a := UInt8.lt_of_le_of_ne (UInt8.not_lt.1 hlt) (Ne.symm ab)
        rw [if_pos h2]
        simp [h1]

theorem compare_eq : ∀ l m : List UInt8, l.length = m.length → (Lib.compareBytes l m == 0) = (l == m)
  | [], [], _ => rfl
  | [], _ :: _, h => by simp at h
  | _ :: _, [], h => by simp at h
  | a :: l, b :: m, h => by
    have ih := compare_eq l m (by simpa using h)
    unfold Lib.compareBytes
    by_cases ab : a = b
    · subst ab
      simp only [UInt8.lt_irrefl, if_false]
      rw [ih]
      simp
    · have hne : (a :: l == b :: m) = false := by simp [ab]
      rw [hne]
      by_cases hlt : a < b
      · rw [if_pos hlt]; rfl
      · have h2 : b < a := UInt8.lt_of_le_of_ne (UInt8.not_lt.1 hlt) (Ne.symm ab)
        rw [if_neg hlt, if_pos h2]; rfl

/-- The bytes of a slice, as the library's comparison takes them. -/
theorem run_loadBytes {P : Program} (b : Nat) : ∀ (l : List UInt8) (o : Nat) (acc : ByteArray) (w : World), (∀ j (h : j < l.length), w.cell? ⟨b, o + j, none⟩ = some (.int .u8 (l[j].toNat : Int))) →
    (Extern.Bytes.loadBytes ⟨b, o, none⟩ l.length acc).run P w = .ok (acc ++ str l) w
  | [], o, acc, w, _ => by
    have : acc ++ str [] = acc := by
      apply ByteArray.ext
      simp [str, ByteArray.data_append]
    rw [this]
    rfl
  | c :: l, o, acc, w, h => by
    have h0 := h 0 (by simp)
    simp only [Nat.add_zero, List.getElem_cons_zero] at h0
    have ih := run_loadBytes (P := P) b l (o + 1) (acc.push c) w (fun j hj => by
      have := h (j + 1) (by simp; omega)
      rw [show o + 1 + j = o + (j + 1) by omega]
      simpa using this)
    have hadd : (⟨b, o, none⟩ : Addr).add 1 = ⟨b, o + 1, none⟩ := addr_add b o 1
    have e2 : acc ++ str (c :: l) = acc.push c ++ str l := by
      apply ByteArray.ext
      simp [str, ByteArray.data_append]
    have hc : (UInt8.ofNat c.toNat) = c := by simp
    rw [List.length_cons, Extern.Bytes.loadBytes]
    simp only [Sem.run_bind, run_load, h0, Result.andThen_ok]
    rw [hadd, e2]
    have : ((c.toNat : Int).toNat.toUInt8) = c := by simp
    rw [this]
    exact ih

theorem run_cmp_bytes {P : Program} (b1 o1 c1 b2 o2 c2 : Nat) (l m : List UInt8) (w : World) (h1 : ∀ j (h : j < l.length), w.cell? ⟨b1, o1 + j, none⟩ = some (.int .u8 (l[j].toNat : Int)))
    (h2 : ∀ j (h : j < m.length), w.cell? ⟨b2, o2 + j, none⟩ = some (.int .u8 (m[j].toNat : Int))) :
    (Extern.BytealgCompare.compare #[.slice (some ⟨b1, o1, none⟩) l.length c1, .slice (some ⟨b2, o2, none⟩) m.length c2]).run P w = .ok (.int .i64 (Lib.compareBytes l m)) w := by
  change Sem.run P (do pure (goInt (Extern.BytealgCompare.cmp (← Extern.Bytes.bytesOf (.slice (some ⟨b1, o1, none⟩) l.length c1)) (← Extern.Bytes.bytesOf (.slice (some ⟨b2, o2, none⟩) m.length c2))))) w = _
  simp only [Extern.Bytes.bytesOf, Sem.run_bind, run_loadBytes b1 l o1 .empty w h1, run_loadBytes b2 m o2 .empty w h2, Sem.run_pure, Result.andThen]
  have e : ∀ x : List UInt8, ByteArray.empty ++ str x = str x := fun x => by simp
  rw [e, e, Lib.cmp_eq, str_list, str_list]
  rfl

/-- bytes.Compare of two slices of so many bytes. -/
theorem bcompare_any (b1 c1 b2 c2 : Nat) (l m : List UInt8) (n : Nat) (hl : l.length = n) (hm : m.length = n) (w : World) (h1 : ∀ j (h : j < l.length), w.cell? ⟨b1, j, none⟩ = some (.int .u8 (l[j].toNat : Int)))
    (h2 : ∀ j (h : j < m.length), w.cell? ⟨b2, j, none⟩ = some (.int .u8 (m[j].toNat : Int))) :
    Calls Try.prog 45 #[.slice (some ⟨b1, 0, none⟩) n c1, .slice (some ⟨b2, 0, none⟩) n c2] w fun e w' => e = .returned (.int .i64 (Lib.compareBytes l m)) ∧ w' = w := by
  have R := run_cmp_bytes (P := Try.prog) b1 0 c1 b2 0 c2 l m w (fun j h => by rw [Nat.zero_add]; exact h1 j h) (fun j h => by rw [Nat.zero_add]; exact h2 j h)
  rw [hl, hm] at R
  clear h1 h2
  go_enter Try.func45, Try.ntmps45
  go_wp2
  rw [run_callFunc_extern Try.func50 (by kernel_rfl) (by kernel_rfl) (by kernel_rfl) (e := Extern.BytealgCompare.compare) (by kernel_rfl), R]
  simp only [Result.andThen]
  rw [Oper.upon_value]
  go_wp2
  go_ret
  exact ⟨rfl, rfl⟩

theorem fp_cell (w : World) (b : Nat) (t : TypeId) (l : List UInt8) (fr : Nat × Nat) (h : w.heap[b]? = some (.cells (fpA l) t fr)) (j : Nat) (hj : j < l.length) : w.cell? ⟨b, j, none⟩ = some (.int .u8 (l[j].toNat : Int)) := by
  rw [cell_of_row w b j (fpA l) t fr h, fpA_get l j hj]
  simp [List.getD, hj]

set_option maxRecDepth 100000 in
/-- compare: two blocks are laid. -/
theorem compare_any (l m : List UInt8) (hl : l.length = 32) (hm : m.length = 32) (w : World) :
    Calls Try.prog 35 #[.agg (fpA l), .agg (fpA m)] w fun e w' => e = .returned (.int .i64 (Lib.compareBytes l m)) ∧ ∃ q, w' = ((w.alloc (.cells (fpA l) 23)).alloc (.cells (fpA m) 23)).drewN q := by
  obtain ⟨W, hW⟩ : ∃ W, W = (w.alloc (.cells (fpA l) 23)).alloc (.cells (fpA m) 23) := ⟨_, rfl⟩
  have g1 : W.heap[w.heap.size]? = some (.cells (fpA l) 23 (0, 0)) := by rw [hW]; exact heap_alloc2_old w _ _
  have g2 : W.heap[w.heap.size + 1]? = some (.cells (fpA m) 23 (0, 0)) := by rw [hW]; exact heap_alloc2_new w _ _
  have C : ∀ k, Calls Try.prog 45 #[.slice (some ⟨w.heap.size, 0, none⟩) 32 32, .slice (some ⟨w.heap.size + 1, 0, none⟩) 32 32] (W.drewN k) fun e w' => e = .returned (.int .i64 (Lib.compareBytes l m)) ∧ w' = W.drewN k := fun k =>
    bcompare_any w.heap.size 32 (w.heap.size + 1) 32 l m 32 hl hm (W.drewN k) (fun j h => by rw [World.cell?_drewN]; exact fp_cell W _ _ l _ g1 j h) (fun j h => by rw [World.cell?_drewN]; exact fp_cell W _ _ m _ g2 j h)
  obtain ⟨r, hr⟩ : ∃ r, r = Lib.compareBytes l m := ⟨_, rfl⟩
  rw [← hr] at C ⊢
  clear hr g1 g2
  have HW := Lib.hid hW
  obtain ⟨L, hL⟩ : ∃ L, L = fpA l := ⟨_, rfl⟩
  obtain ⟨M, hM⟩ : ∃ M, M = fpA m := ⟨_, rfl⟩
  rw [← hL, ← hM] at HW
  rw [← hL, ← hM]
  clear hL hM hl hm
  go_enter Try.func35, Try.ntmps35
  go_wp2
  rw [← HW.out]
  clear hW
  go_quiet ((go_at_call 45; exact Calls.quiet_of_same (C _)))
  go_wp2
  go_ret
  exact ⟨rfl, _, by rw [HW.out]⟩

theorem infoFp : (Try.prog.info? 23).map (·.size) = some 32 := by kernel_rfl

theorem fp_info (l : List UInt8) (hl : l.length = 32) : (Try.prog.info? 23).map (·.size) = some (fpA l).size := by rw [fpA_size, hl]; exact infoFp

theorem below_drewN {B : Nat} {a w : World} (h : Below B a w) (q : Nat) : Below B a (w.drewN q) := ⟨h.os, h.tape, h.output, h.size, h.block⟩

set_option maxRecDepth 100000 in
/-- Less. -/
theorem less_any (l m : List UInt8) (hl : l.length = 32) (hm : m.length = 32) (w : World) :
    Calls Try.prog 18 #[.agg (fpA l), .agg (fpA m)] w fun e w' => e = .returned (.bool (ltB l m)) ∧ Below w.heap.size w w' := by
  obtain ⟨W, hW⟩ : ∃ W, W = (w.alloc (.cells (fpA l) 23)).alloc (.cells (fpA m) 23) := ⟨_, rfl⟩
  have g1 : W.heap[w.heap.size]? = some (.cells (fpA l) 23 (0, 0)) := by rw [hW]; exact heap_alloc2_old w _ _
  have g2 : W.heap[w.heap.size + 1]? = some (.cells (fpA m) 23 (0, 0)) := by rw [hW]; exact heap_alloc2_new w _ _
  have hb : Below w.heap.size w W := by rw [hW]; exact ((Below.refl _ w).alloc (Nat.le_refl _) _).alloc (by simp) _
  have hsz : w.heap.size ≤ W.heap.size := hb.size
  have C := compare_any l m hl hm W
  have hlt : decide (Lib.compareBytes l m < 0) = ltB l m := ltB_compare l m (by omega)
  rw [← hlt]
  have HI1 := Lib.hid (fp_info l hl)
  have HI2 := Lib.hid (fp_info m hm)
  obtain ⟨r, hr⟩ : ∃ r, r = Lib.compareBytes l m := ⟨_, rfl⟩
  rw [← hr] at C ⊢
  clear hr hlt
  have HW := Lib.hid hW
  obtain ⟨L, hL⟩ : ∃ L, L = fpA l := ⟨_, rfl⟩
  obtain ⟨M, hM⟩ : ∃ M, M = fpA m := ⟨_, rfl⟩
  rw [← hL, ← hM] at HW C
  rw [← hL] at HI1 g1
  rw [← hM] at HI2 g2
  rw [← hL, ← hM]
  clear hL hM hl hm
  rw [HW.out] at C g1 g2 hb hsz
  clear hW
  go_enter Try.func18, Try.ntmps18
  go_wp2_with (first
    | (with_reducible refine wpList_load_row rfl _ _ rfl w.heap.size rfl 23 L (0, 0) _ g1 Try.underlying23 rfl HI1.out ?_)
    | (with_reducible refine wpList_load_row rfl _ _ rfl (w.heap.size + 1) rfl 23 M (0, 0) _ g2 Try.underlying23 rfl HI2.out ?_)
    | (go_at_call 35; refine C.mono ?_; rintro e w' ⟨rfl, q, rfl⟩))
  go_ret
  refine ⟨rfl, ?_⟩
  exact below_drewN (((hb.alloc hsz _).alloc (by simp; omega) _)) q

end Go.Proofs.Ythgjooacapodnaa
