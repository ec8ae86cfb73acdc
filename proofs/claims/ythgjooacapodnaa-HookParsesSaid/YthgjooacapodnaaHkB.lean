/- BinarySearchFunc, and what Minus deletes: the walks. -/
import Derived.Test.YthgjooacapodnaaHkH
namespace Go.Proofs.Ythgjooacapodnaa
open Go.RowKit

theorem incr_at {ls : List (List UInt8)} (h : Incr ls) (a b : Nat) (hab : a < b) (hb : b < ls.length) : ltB (ls[a]'(by omega)) ls[b] = true := List.pairwise_iff_getElem.1 h a b (by omega) hb hab

/-- All below are less. -/
theorem bs_lo {ls : List (List UInt8)} (hI : Incr ls) (t : List UInt8) (m : Nat) (hm : m < ls.length) (h : ltB ls[m] t = true) (a : Nat) (ha : a < m + 1) : ltB (ls[a]'(by omega)) t = true := by
  by_cases e : a = m
  · subst e; exact h
  · exact ltB_trans _ _ _ (incr_at hI a m (by omega) hm) h

theorem bs_hi {ls : List (List UInt8)} (hI : Incr ls) (t : List UInt8) (m : Nat) (hm : m < ls.length) (h : ltB ls[m] t = false) (a : Nat) (ha : m ≤ a) (hal : a < ls.length) : ltB ls[a] t = false := by
  by_cases e : a = m
  · subst e; exact h
  · cases h2 : ltB ls[a] t with
    | false => rfl
    | true =>
      rw [ltB_trans _ _ _ (incr_at hI m a (by omega) hal) h2] at h
      cases h

theorem bs_end {ls : List (List UInt8)} (hI : Incr ls) (t : List UInt8) (i : Nat) (h1 : ∀ a (h : a < i) (hl : a < ls.length), ltB ls[a] t = true) (h2 : ∀ a (_ : i ≤ a) (hl : a < ls.length), ltB ls[a] t = false) :
    ls.contains t = if h : i < ls.length then ls[i] == t else false := by
  rw [Bool.eq_iff_iff, List.contains_iff_mem]
  constructor
  · intro hm
    obtain ⟨a, ha, rfl⟩ := List.getElem_of_mem hm
    have hge : ¬ a < i := fun h => by
      have := h1 a h ha
      rw [ltB_irrefl] at this; cases this
    have hia : a = i := by
      by_cases e : a = i
      · exact e
      · have h3 := h2 i (Nat.le_refl _) (by omega)
        rw [incr_at hI i a (by omega) ha] at h3
        cases h3
    subst hia
    rw [dif_pos ha]
    simp
  · intro h
    split at h
    · rename_i hi
      rw [← eq_of_beq h]
      exact List.getElem_mem hi
    · cases h

def LoL (ls : List (List UInt8)) (t : List UInt8) (i : Nat) : Prop := ∀ a (_ : a < i) (hl : a < ls.length), ltB ls[a] t = true
def HiL (ls : List (List UInt8)) (t : List UInt8) (j : Nat) : Prop := ∀ a (_ : j ≤ a) (hl : a < ls.length), ltB ls[a] t = false

def FoundPost (r : Bool) (w : World) (e : Ending) (w' : World) : Prop := ∃ i : Int, e = .returned (.tuple #[.int .i64 i, .bool r]) ∧ Below w.heap.size w w'

set_option maxRecDepth 100000 in
set_option maxHeartbeats 4000000 in
theorem bsearch_any (l : List UInt8) (hl : l.length = 32) (p : Option Addr) (c n : Nat) (ls : List (List UInt8)) (hI : Incr ls) (hn : n = ls.length) (hs : n ≤ 1000000) (w : World) (h : FpsAt 32 ls (.slice p n c) w) :
    Calls Try.prog 42 #[.slice p n c, .agg (fpA l), .func (.func 35) #[] #[]] w (FoundPost (ls.contains l) w) := by
  have HF : Hid (FpsAt 32 ls (.slice p ls.length c) w) := by rw [← hn]; exact h
  have O0 := OneRow.made w l
  have HI := Lib.hid (fp_info l hl)
  have HL := Lib.hid hl
  have HINC := Lib.hid hI
  obtain ⟨F, hFF⟩ : ∃ F, F = fpA l := ⟨_, rfl⟩
  have K0 : Hid (Kept w (w.alloc (.cells F 23)) ∧ (w.alloc (.cells F 23)).heap[w.heap.size]? = some (.cells F 23 (0, 0))) := by rw [hFF]; exact ⟨O0.2, O0.1⟩
  rw [← hFF] at HI ⊢
  have HFF := Lib.hid hFF
  have HN := Lib.hid hn
  clear O0 hFF hn h hl hI
  go_enter Try.func42, Try.ntmps42
  go_wp2
  go_loopw [9, 10] (fun x y wr => ∃ (i j : Nat), i ≤ j ∧ j ≤ n ∧ x = .int .i64 i ∧ y = .int .i64 j ∧ Hid (LoL ls l i ∧ HiL ls l j) ∧ Hid (Kept w wr ∧ wr.heap[w.heap.size]? = some (.cells F 23 (0, 0)))) (fun x y _ => (intOf y).toNat - (intOf x).toNat)
  case atStart => exact ⟨0, n, by omega, by omega, rfl, rfl, ⟨fun a h => by omega, fun a h hl => by have := HN.out; omega⟩, K0⟩
  case round =>
    clear K0
    obtain ⟨i, j, hij, hjn, rfl, rfl, HC, HK⟩ := hrel
    by_cases hlt : i < j
    · obtain ⟨m, hm⟩ : ∃ m, m = (i + j) / 2 := ⟨_, rfl⟩
      have hmn : m < n := by omega
      have hml : m < ls.length := by rw [← HN.out]; exact hmn
      have hltz : (i : Int) < (j : Int) := by omega
      have bz : decide ((i : Int) < (j : Int)) = true := by simpa using hltz
      have e1 : IntKind.i64.wrap ((i : Int) + (j : Int)) = ((i + j : Nat) : Int) := by simp [IntKind.wrap, IntKind.bits, IntKind.signed]; omega
      have hm1 : i ≤ m := by omega
      have hm2 : m < j := by omega
      have e3 : ((i : Int) + (j : Int)) / 2 = (m : Int) := by omega
      have e4 : (((i : Int) + (j : Int)) / 2).toNat = m := by omega
      obtain ⟨b, off, cs, t, fr, hp, hg, E1⟩ := HF.out.elem hml
      subst hp
      have HG : Hid (wr.heap[b]? = some (.cells cs t fr)) := HK.out.1.row hg
      have HR : Hid (wr.heap[w.heap.size]? = some (.cells F 23 (0, 0))) := HK.out.2
      have IX1 := fun w' => idx_at b off n c m hmn w'
      have hx32 := HF.out.1 _ (List.getElem_mem hml)
      have CM0 := fun w' => compare_any ls[m] l hx32 HL.out w'
      have CM : ∀ w', Calls Try.prog 35 #[.agg (fpA ls[m]), .agg (fpA l)] w' fun e w2 => e = .returned (.int .i64 (Lib.compareBytes ls[m] l)) ∧ Below w'.heap.size w' w2 := fun w' => (CM0 w').mono fun e w2 ⟨he, q, hw⟩ => ⟨he, by rw [hw]; exact below_drewN (((Below.refl _ w').alloc (Nat.le_refl _) _).alloc (by simp) _) q⟩
      have LT := ltB_compare ls[m] l (by rw [hx32, HL.out])
      obtain ⟨r, hr⟩ : ∃ r, r = Lib.compareBytes ls[m] l := ⟨_, rfl⟩
      obtain ⟨X, hX⟩ : ∃ X, X = fpA ls[m] := ⟨_, rfl⟩
      have hfx := HFF.out
      rw [← hX] at E1 CM
      rw [← hfx, ← hr] at CM
      rw [← hr] at LT
      obtain ⟨q, hq⟩ : ∃ q, q = ltB ls[m] l := ⟨_, rfl⟩
      rw [← hq] at LT
      have HQ := Lib.hid hq
      have HM := Lib.hid hm
      clear hX hr hx32 hg hfx CM0 hq hm
      go_wp2_with fail
      refine wp_region_kept (by kernel_rfl) (by kernel_rfl) ?_
      refine wpQuiet_pure (v := ?_) (by kernel_rfl) ?_ (fun K hK => ?_)
      case refine_2 => intro W _; go_simp; try with_reducible rfl
      go_simp
      refine hK _ ?_; clear hK K
      refine wpQuiet_pure (v := ?_) (by kernel_rfl) ?_ (fun K hK => ?_)
      case refine_2 => intro W _; go_simp; try with_reducible rfl
      go_simp
      refine hK _ ?_; clear hK K
      refine wpQuiet_pure (v := ?_) (by kernel_rfl) ?_ (fun K hK => ?_)
      case refine_2 => intro W _; go_simp; try with_reducible rfl
      go_simp
      refine hK _ ?_; clear hK K
      refine wpQuiet_pure (v := ?_) (by kernel_rfl) ?_ (fun K hK => ?_)
      case refine_2 => intro W _; go_simp; try with_reducible rfl
      go_simp
      refine hK _ ?_; clear hK K
      refine wpQuiet_load_sub (by kernel_rfl) _ _ rfl b (off + m * 32) 32 rfl t cs fr _ (fun _ h => h.row HG.out) Try.underlying23 rfl infoFp _ E1 (fun K hK => ?_)
      go_simp
      refine hK _ ?_; clear hK K
      refine wpQuiet_load_row (by kernel_rfl) _ _ rfl w.heap.size rfl 23 F (0, 0) _ (fun _ h => h.row HR.out) Try.underlying23 rfl HI.out (fun K hK => ?_)
      go_simp
      refine hK _ ?_; clear hK K
      refine wpQuiet_call (by kernel_rfl) _ _ _ (fun W => by go_simp) (fun W h => Calls.kept_of h (CM W)) (fun K hK => ?_)
      go_simp
      refine hK _ ?_; clear hK K
      refine wpQuiet_pure (by kernel_rfl) (.bool q) (fun W _ => by go_simp) (fun K hK => ?_)
      go_simp
      refine hK _ ?_; clear hK K
      refine wpQuiet_nil ?_
      intro w2 hk2
      have K2 : Hid (Kept w w2 ∧ w2.heap[w.heap.size]? = some (.cells F 23 (0, 0))) := ⟨HK.out.1.then hk2, hk2.row HK.out.2⟩
      cases q with
      | true =>
        go_wp2
        go_roundw
        case rel => exact ⟨m + 1, j, by omega, hjn, by go_num, rfl, ⟨fun a ha hl => bs_lo HINC.out l m hml HQ.out.symm a ha, HC.out.2⟩, K2⟩
        case measure => simp [intOf]; omega
      | false =>
        go_wp2
        go_roundw
        case rel => exact ⟨i, m, by omega, by omega, rfl, by go_num, ⟨HC.out.1, fun a ha hl => bs_hi HINC.out l m hml HQ.out.symm a ha hl⟩, K2⟩
        case measure => simp [intOf]; omega
    · obtain rfl : i = j := by omega
      have bz : decide ((i : Int) < (i : Int)) = false := by simp
      have BE := Lib.hid (bs_end HINC.out l i HC.out.1 HC.out.2)
      by_cases hin : i < n
      · have hil : i < ls.length := by rw [← HN.out]; exact hin
        have hinz : (i : Int) < (n : Int) := by omega
        have bn : decide ((i : Int) < (n : Int)) = true := by simpa using hinz
        obtain ⟨b, off, cs, t, fr, hp, hg, E1⟩ := HF.out.elem hil
        subst hp
        have HG : Hid (wr.heap[b]? = some (.cells cs t fr)) := HK.out.1.row hg
        have HR : Hid (wr.heap[w.heap.size]? = some (.cells F 23 (0, 0))) := HK.out.2
        have IX1 := fun w' => idx_at b off n c i hin w'
        have hx32 := HF.out.1 _ (List.getElem_mem hil)
        have CM0 := fun w' => compare_any ls[i] l hx32 HL.out w'
        have CM : ∀ w', Calls Try.prog 35 #[.agg (fpA ls[i]), .agg (fpA l)] w' fun e w2 => e = .returned (.int .i64 (Lib.compareBytes ls[i] l)) ∧ Below w'.heap.size w' w2 := fun w' => (CM0 w').mono fun e w2 ⟨he, q, hw⟩ => ⟨he, by rw [hw]; exact below_drewN (((Below.refl _ w').alloc (Nat.le_refl _) _).alloc (by simp) _) q⟩
        have LT := compare_eq ls[i] l (by rw [hx32, HL.out])
        obtain ⟨r, hr⟩ : ∃ r, r = Lib.compareBytes ls[i] l := ⟨_, rfl⟩
        obtain ⟨X, hX⟩ : ∃ X, X = fpA ls[i] := ⟨_, rfl⟩
        have hfx := HFF.out
        rw [← hX] at E1 CM
        rw [← hfx, ← hr] at CM
        rw [← hr] at LT
        obtain ⟨q, hq⟩ : ∃ q, q = (ls[i] == l) := ⟨_, rfl⟩
        rw [← hq] at LT
        have HB : Hid (ls.contains l = q) := by
          have := BE.out
          rw [dif_pos hil, ← hq] at this
          exact this
        clear hX hr hx32 hg hfx CM0 hq BE
        go_wp2_with fail
        refine wp_region_kept (by kernel_rfl) (by kernel_rfl) ?_
        refine wpQuiet_pure (v := ?_) (by kernel_rfl) ?_ (fun K hK => ?_)
        case refine_2 => intro W _; go_simp; try with_reducible rfl
        go_simp
        refine hK _ ?_; clear hK K
        refine wpQuiet_pure (v := ?_) (by kernel_rfl) ?_ (fun K hK => ?_)
        case refine_2 => intro W _; go_simp; try with_reducible rfl
        go_simp
        refine hK _ ?_; clear hK K
        refine wpQuiet_pure (v := ?_) (by kernel_rfl) ?_ (fun K hK => ?_)
        case refine_2 => intro W _; go_simp; try with_reducible rfl
        go_simp
        refine hK _ ?_; clear hK K
        refine wpQuiet_pure (by kernel_rfl) (.bool true) (fun W _ => by go_simp) (fun K hK => ?_)
        go_simp
        refine hK _ ?_; clear hK K
        refine wpQuiet_pure (v := ?_) (by kernel_rfl) ?_ (fun K hK => ?_)
        case refine_2 => intro W _; go_simp; try with_reducible rfl
        go_simp
        refine hK _ ?_; clear hK K
        refine wpQuiet_pure (v := ?_) (by kernel_rfl) ?_ (fun K hK => ?_)
        case refine_2 => intro W _; go_simp; try with_reducible rfl
        go_simp
        refine hK _ ?_; clear hK K
        refine wpQuiet_pure (v := ?_) (by kernel_rfl) ?_ (fun K hK => ?_)
        case refine_2 => intro W _; go_simp; try with_reducible rfl
        go_simp
        refine hK _ ?_; clear hK K
        refine wpQuiet_pure (v := ?_) (by kernel_rfl) ?_ (fun K hK => ?_)
        case refine_2 => intro W _; go_simp; try with_reducible rfl
        go_simp
        refine hK _ ?_; clear hK K
        refine wpQuiet_pure (v := ?_) (by kernel_rfl) ?_ (fun K hK => ?_)
        case refine_2 => intro W _; go_simp; try with_reducible rfl
        go_simp
        refine hK _ ?_; clear hK K
        refine wpQuiet_load_sub (by kernel_rfl) _ _ rfl b (off + i * 32) 32 rfl t cs fr _ (fun _ h => h.row HG.out) Try.underlying23 rfl infoFp _ E1 (fun K hK => ?_)
        go_simp
        refine hK _ ?_; clear hK K
        refine wpQuiet_load_row (by kernel_rfl) _ _ rfl w.heap.size rfl 23 F (0, 0) _ (fun _ h => h.row HR.out) Try.underlying23 rfl HI.out (fun K hK => ?_)
        go_simp
        refine hK _ ?_; clear hK K
        refine wpQuiet_call (by kernel_rfl) _ _ _ (fun W => by go_simp) (fun W h => Calls.kept_of h (CM W)) (fun K hK => ?_)
        go_simp
        refine hK _ ?_; clear hK K
        refine wpQuiet_pure (by kernel_rfl) (.bool q) (fun W _ => by go_simp) (fun K hK => ?_)
        go_simp
        refine hK _ ?_; clear hK K
        refine wpQuiet_pure (v := ?_) (by kernel_rfl) ?_ (fun K hK => ?_)
        case refine_2 => intro W _; go_simp; try with_reducible rfl
        go_simp
        refine hK _ ?_; clear hK K
        refine wpQuiet_pure (v := ?_) (by kernel_rfl) ?_ (fun K hK => ?_)
        case refine_2 => intro W _; go_simp; try with_reducible rfl
        go_simp
        refine hK _ ?_; clear hK K
        refine wpQuiet_pure (v := ?_) (by kernel_rfl) ?_ (fun K hK => ?_)
        case refine_2 => intro W _; go_simp; try with_reducible rfl
        go_simp
        refine hK _ ?_; clear hK K
        refine wpQuiet_nil ?_
        intro w2 hk2
        go_wp2
        go_ret2
        exact ⟨i, by rw [HB.out]; rfl, (HK.out.1.then hk2)⟩
      · have hinz : ¬ (i : Int) < (n : Int) := by omega
        have bn : decide ((i : Int) < (n : Int)) = false := by simpa using hinz
        have HB : Hid (ls.contains l = false) := by
          have := BE.out
          rw [dif_neg (by rw [← HN.out]; exact hin)] at this
          exact this
        clear BE
        go_wp2_with fail
        refine wp_region_kept (by kernel_rfl) (by kernel_rfl) ?_
        refine wpQuiet_pure (v := ?_) (by kernel_rfl) ?_ (fun K hK => ?_)
        case refine_2 => intro W _; go_simp; try with_reducible rfl
        go_simp
        refine hK _ ?_; clear hK K
        refine wpQuiet_pure (v := ?_) (by kernel_rfl) ?_ (fun K hK => ?_)
        case refine_2 => intro W _; go_simp; try with_reducible rfl
        go_simp
        refine hK _ ?_; clear hK K
        refine wpQuiet_pure (v := ?_) (by kernel_rfl) ?_ (fun K hK => ?_)
        case refine_2 => intro W _; go_simp; try with_reducible rfl
        go_simp
        refine hK _ ?_; clear hK K
        refine wpQuiet_pure (by kernel_rfl) (.bool false) (fun W _ => by go_simp) (fun K hK => ?_)
        go_simp
        refine hK _ ?_; clear hK K
        refine wpQuiet_pure (v := ?_) (by kernel_rfl) ?_ (fun K hK => ?_)
        case refine_2 => intro W _; go_simp; try with_reducible rfl
        go_simp
        refine hK _ ?_; clear hK K
        go_big_quiet_skip
        go_big_quiet_skip
        go_big_quiet_skip
        go_big_quiet_skip
        go_big_quiet_skip
        go_big_quiet_skip
        go_big_quiet_skip
        go_big_quiet_skip
        refine wpQuiet_pure (v := ?_) (by kernel_rfl) ?_ (fun K hK => ?_)
        case refine_2 => intro W _; go_simp; try with_reducible rfl
        go_simp
        refine hK _ ?_; clear hK K
        refine wpQuiet_pure (v := ?_) (by kernel_rfl) ?_ (fun K hK => ?_)
        case refine_2 => intro W _; go_simp; try with_reducible rfl
        go_simp
        refine hK _ ?_; clear hK K
        refine wpQuiet_pure (v := ?_) (by kernel_rfl) ?_ (fun K hK => ?_)
        case refine_2 => intro W _; go_simp; try with_reducible rfl
        go_simp
        refine hK _ ?_; clear hK K
        refine wpQuiet_nil ?_
        intro w2 hk2
        go_wp2
        go_ret2
        exact ⟨i, by rw [HB.out]; rfl, (HK.out.1.then hk2)⟩

end Go.Proofs.Ythgjooacapodnaa
