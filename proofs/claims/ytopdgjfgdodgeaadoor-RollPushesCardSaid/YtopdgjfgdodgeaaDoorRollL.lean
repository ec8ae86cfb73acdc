/- The walks of All, and of the document's All. -/
import Derived.Test.YtopdgjfgdodgeaaDoorRollA
namespace Go.Proofs.YtopdgjfgdodgeaaDoor
open Go.RowKit

/-- The hashes of all beginnings. -/
def hashes (l : List UInt8) (k : Nat) : List Nat := (List.range k).map fun i => rsum (l.take (i + 1))
theorem hashes_len (l : List UInt8) (k : Nat) : (hashes l k).length = k := by simp [hashes]
theorem hashes_get (l : List UInt8) (k i : Nat) (h : i < k) : (hashes l k).getD i 0 = rsum (l.take (i + 1)) := by simp [hashes, List.getD, h]
theorem hashes_snoc (l : List UInt8) (k : Nat) : hashes l (k + 1) = hashes l k ++ [rsum (l.take (k + 1))] := by simp [hashes, List.range_succ]
theorem hashes_lt (l : List UInt8) (k i : Nat) (h : i < k) : (hashes l k).getD i 0 < 2147483647 := by rw [hashes_get l k i h]; exact rsum_lt _

theorem info36 : (Tryd.prog.info? 23).map (fun i => (i.zero, i.size, i.bytes)) = some (some (.int .u32 0), 1, 4) := by kernel_rfl

theorem cut_list (s : ByteArray) (n : Nat) (hn : n ≤ s.size) : (s.extract 0 n).data.toList = s.data.toList.take n ∧ (s.extract 0 n).size = n := by
  have e : (s.extract 0 n).data.toList = s.data.toList.take n := by
    have h := Lib.extract_eq s 0 n
    rw [h, List.drop_zero, Nat.sub_zero]
  refine ⟨e, ?_⟩
  rw [← data_len, e, List.length_take, data_len]
  omega

/-- The cells of the hashes that are there so far. -/
def AllAt (w : World) (l : List UInt8) (n i : Nat) (wr : World) : Prop :=
  ∃ C : Array Value, wr.heap[w.heap.size]? = some (.cells C 23 (0, 0)) ∧ C.size = n ∧ (∀ j, j < i → C[j]? = some (.int .u32 (rsum (l.take (j + 1)) : Nat))) ∧ Below w.heap.size w wr

theorem AllAt.set {w : World} {l : List UInt8} {n i : Nat} {wr : World} (h : AllAt w l n i wr) (hi : i < n) (r : Nat) (hr : r = rsum (l.take (i + 1))) : AllAt w l n (i + 1) (wr.setCell ⟨w.heap.size, i, none⟩ (.int .u32 (r : Nat))) := by
  obtain ⟨C, g, hs, hc, hb⟩ := h
  refine ⟨_, heap_setCell_same _ _ _ _ _ _ g, by simpa using hs, fun j hj => ?_, hb.setCell (Nat.le_refl _) _⟩
  rw [Array.getElem?_setIfInBounds]
  by_cases e : i = j
  · subst e
    rw [if_pos rfl, if_pos (by omega), hr]
  · rw [if_neg e]; exact hc j (by omega)

theorem AllAt.drew {w : World} {l : List UInt8} {n i : Nat} {wr : World} (h : AllAt w l n i wr) : AllAt w l n i wr.drew := by
  obtain ⟨C, g, hs, hc, hb⟩ := h
  exact ⟨C, g, hs, hc, hb.drew⟩

theorem AllAt.later {w : World} {l : List UInt8} {n i : Nat} {wr wr' : World} (h : AllAt w l n i wr) (hb' : Below wr.heap.size wr wr') : AllAt w l n i wr' := by
  obtain ⟨C, g, hs, hc, hb⟩ := h
  exact ⟨C, (hb'.block _ (Array.getElem?_eq_some_iff.1 g).1).trans g, hs, hc, Below.then' hb hb' hb.size⟩

set_option maxRecDepth 100000 in
set_option maxHeartbeats 4000000 in
theorem all_any (s : ByteArray) (hs : s.size ≤ 1000000) (w : World) (hT : TabAt w) :
    Calls Tryd.prog 12 #[.string s] w fun e w' => ∃ v, e = .returned v ∧ U32At (hashes s.data.toList s.size) v w' ∧ Below w.heap.size w w' := by
  have hz := data_len s
  have HZ := Lib.hid hz
  have hmk := fun w' => run_make_row' (P := Tryd.prog) 26 23 (.int .u32 0) 4 Tryd.underlying26 info36 rfl .i64 .i64 s.size (by omega) (by omega) w'
  obtain ⟨l, hl⟩ : ∃ l, l = s.data.toList := ⟨_, rfl⟩
  rw [← hl] at HZ ⊢
  have HL := Lib.hid hl
  clear hl hz
  go_enter Tryd.func12, Tryd.ntmps12
  go_wp2
  clear hmk
  go_loopw [10] (fun x wr => ∃ (i : Nat), i ≤ s.size ∧ x = .int .i64 i ∧ AllAt w l s.size i wr) (fun x _ => s.size - (intOf x).toNat)
  case atStart =>
    exact ⟨0, Nat.zero_le _, rfl, _, heap_alloc_last w _, size_madeCells _ _, fun j h => by omega, (Below.refl _ _).alloc (Nat.le_refl _) _⟩
  case round =>
    obtain ⟨i, hi, rfl, hA⟩ := hrel
    have K : Below w.heap.size w wr := by obtain ⟨_, _, _, _, hb⟩ := hA; exact hb
    by_cases hlt : i < s.size
    · by_cases h16 : i < 16
      · have hcut := cut_list s (i + 1) (by omega)
        rw [← HL.out] at hcut
        obtain ⟨tx, htx⟩ : ∃ tx, s.extract 0 (i + 1) = tx := ⟨_, rfl⟩
        rw [htx] at hcut
        have SU := sum_any tx (by unfold maxLen; omega) wr (hT.later K)
        rw [hcut.1] at SU
        obtain ⟨r, hr⟩ : ∃ r, r = rsum (l.take (i + 1)) := ⟨_, rfl⟩
        rw [← hr] at SU
        have HR := Lib.hid hr
        have e1 : ((i : Int) + 1).toNat = i + 1 := by omega
        have hi1 : (i : Int) + 1 ≤ s.size := by omega
        have hi2 : i + 1 ≤ s.size := by omega
        clear hcut hr
        go_wp2_with fail
        refine SU.mono ?_
        rintro e w2 ⟨rfl, hb2⟩
        have hA2 := hA.later hb2
        have hA3 := hA2.set hlt r HR.out
        have HA3 := Lib.hid hA3
        obtain ⟨C, g, hcs, _, _⟩ := hA2
        obtain ⟨vo, ho⟩ : ∃ vo, C[i]? = some vo := ⟨_, Array.getElem?_eq_getElem (by omega)⟩
        have k1 := (cell_of_row w2 _ _ _ _ _ g).trans ho
        have f1 := frozen_of_row w2 _ i _ _ g
        clear hA hA3 ho g hcs hb2
        go_wp2
        go_roundw
        case rel => exact ⟨i + 1, by omega, by go_num, HA3.out⟩
        case measure => simp [intOf]; omega
      · have hlz : l.length = s.size := HZ.out
        have hsl := rsum_slid (l.take i) (l[i]'(by omega)) (by rw [List.length_take]; omega)
        have hlen : (l.take i).length = i := by rw [List.length_take]; omega
        have hge : (l.take i)[(l.take i).length - 16]'(by omega) = l[i - 16]'(by omega) := by
          rw [List.getElem_take]; congr 1; omega
        rw [hge, ← List.take_succ_eq_append_getElem (by omega)] at hsl
        obtain ⟨q, hq⟩ : ∃ q, q = i - 16 := ⟨_, rfl⟩
        obtain ⟨p, hp⟩ : ∃ p, p = i - 1 := ⟨_, rfl⟩
        obtain ⟨o, ho⟩ : ∃ o : UInt8, l[i - 16]'(by omega) = o := ⟨_, rfl⟩
        obtain ⟨c, hc⟩ : ∃ c : UInt8, l[i]'(by omega) = c := ⟨_, rfl⟩
        rw [ho, hc] at hsl
        have hqs : q < s.size := by omega
        have ho1 : s[q].toNat = o.toNat := by subst hq; subst ho; simp only [HL.out]; rfl
        have ho2 : (s.data[q]'hqs).toNat = o.toNat := ho1
        have hc1 : s[i].toNat = c.toNat := by subst hc; simp only [HL.out]; rfl
        have hc2 : (s.data[i]'hlt).toNat = c.toNat := hc1
        have hpl : rsum (l.take i) < 2147483647 := rsum_lt _
        obtain ⟨C, g, hcs, hcc, _⟩ := id hA
        have kp := hcc p (by omega)
        rw [show p + 1 = i by omega] at kp
        obtain ⟨h, hh⟩ : ∃ h, h = rsum (l.take i) := ⟨_, rfl⟩
        rw [← hh] at hsl kp hpl
        have SL := fun w' h' => slid_any h hpl o c w' h'
        obtain ⟨r, hr⟩ : ∃ r, r = rslide h o c := ⟨_, rfl⟩
        rw [← hr] at SL hsl
        have k1 := (cell_of_row wr _ _ _ _ _ g).trans kp
        obtain ⟨vo, hvo⟩ : ∃ vo, C[i]? = some vo := ⟨_, Array.getElem?_eq_getElem (by omega)⟩
        have k2 := (cell_of_row wr _ _ _ _ _ g).trans hvo
        have f2 := frozen_of_row wr _ i _ _ g
        have HA3 := Lib.hid (hA.drew.set hlt r hsl.symm)
        have SQ := SL wr.drew ((hT.later K).later (Below.refl _ _).drew)
        have v1 : IntKind.i64.wrap ((i : Int) - 1) = (p : Int) := by rw [show (i : Int) - 1 = (p : Int) by omega]; exact IntWalk.i64_in _ (by omega)
        have v2 : IntKind.i64.wrap ((i : Int) - 16) = (q : Int) := by rw [show (i : Int) - 16 = (q : Int) by omega]; exact IntWalk.i64_in _ (by omega)
        have hp0 : (0 : Int) ≤ (p : Int) := by omega
        have hp1 : (p : Int) < s.size := by omega
        have hq0 : (0 : Int) ≤ (q : Int) := by omega
        have hq1 : (q : Int) < s.size := by omega
        have m1 : wr.drew.cell? ⟨w.heap.size, p, none⟩ = some (.int .u32 (h : Nat)) := k1
        have m2 : wr.drew.cell? ⟨w.heap.size, i, none⟩ = some vo := k2
        have m3 : wr.drew.frozen? ⟨w.heap.size, i, none⟩ = false := f2
        clear hsl hr hh kp hcc g hcs hvo hc ho hge hlen SL hA hlz k1 k2 f2 hp hq
        go_wp2
        refine wp_region_still_tail 16 (by kernel_rfl) (by kernel_rfl) ?_
        simp only [List.take_succ_cons, List.take_zero, List.drop_succ_cons, List.drop_zero]
        change wpStill _ _ wr.drew (fun a' => wpList _ _ _ _ a' wr.drew) _ _
        obtain ⟨W2, hW2⟩ : ∃ W2, W2 = wr.drew := ⟨_, rfl⟩
        rw [← hW2] at m1 m2 m3 SQ HA3
        rw [← hW2]
        clear hW2 hT K
        repeat still_step
        still_call (SQ.mono fun _ _ h => ⟨h.1, h.2.symm⟩)
        repeat still_step
        refine wpStill_nil ?_
        go_wp2
        go_roundw
        case rel => exact ⟨i + 1, by omega, by go_num, HA3.out⟩
        case measure => simp [intOf]; omega
    · obtain rfl : i = s.size := by omega
      have hU : U32At (hashes l s.size) (.slice (some ⟨w.heap.size, 0, none⟩) s.size s.size) wr := by
        obtain ⟨C, g, hcs, hcc, _⟩ := hA
        refine ⟨_, _, by rw [hashes_len], Or.inr ⟨_, 0, rfl, fun i hi => ?_⟩⟩
        rw [hashes_len] at hi
        rw [hashes_get _ _ _ hi, cell_of_row _ _ _ _ _ _ g, Nat.zero_add]
        exact hcc i hi
      have HU := Lib.hid hU
      clear hU hA
      go_wp2
      go_ret
      exact ⟨_, rfl, HU.out, K⟩

end Go.Proofs.YtopdgjfgdodgeaaDoor
