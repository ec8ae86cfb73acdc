/- Heads made in memory, slot by slot; the document's Of. -/
import Derived.Test.YtdmbebafpamgfaaDoorBxE
import Derived.Test.YtdmbebafpamgfaaDoorRefSum
import Derived.Test.YtdmbebafpamgfaaDoorRRead
import Derived.Deep.RegionHeld
namespace Go.Proofs.YtdmbebafpamgfaaDoor
open Go.RowKit

theorem infoSlX : (Tryd.prog.info? 68).map (fun i => (i.zero, i.size, i.bytes)) = some (some (.agg #[.int .i64 0, .int .u32 0]), 2, 16) := by kernel_rfl
theorem infoHdX : (Tryd.prog.info? 33).map (·.size) = some (#[Value.int .u32 0, Value.slice none 0 0] : Array Value).size := by kernel_rfl
theorem flat_slX (w : World) (a b : Nat) : FlatAt 2 1 (slV [(a, b)]) (.slice (some ⟨w.heap.size, 0, none⟩) 1 1) (w.alloc (.cells #[.int .i64 (a : Nat), .int .u32 (b : Nat)] 68)) :=
  FlatAt.new w 68 2 1 1 #[.int .i64 (a : Nat), .int .u32 (b : Nat)] rfl (by intro x hx; simp at hx; rcases hx with rfl | rfl <;> rfl)
theorem set2_row {w : World} {g : Nat} {T : TypeId} {x0 x1 : Value} (h : w.heap[g]? = some (.cells #[x0, x1] T (0, 0))) (y0 y1 : Value) :
    ((w.setCell ⟨g, 0, none⟩ y0).setCell ⟨g, 1, none⟩ y1).heap[g]? = some (.cells #[y0, y1] T (0, 0)) :=
  heap_setCell_same _ _ _ _ _ _ (heap_setCell_same _ _ _ _ _ _ h)
theorem below_set2 {w0 w : World} {g : Nat} (h : Kept w0 w) (hg : w0.heap.size ≤ g) (y0 y1 : Value) : Kept w0 ((w.setCell ⟨g, 0, none⟩ y0).setCell ⟨g, 1, none⟩ y1) :=
  ButBy.kept (Bs := fun k => k = g) (((but_refl (fun k => k = g) w).setCell g 0 y0 rfl).setCell g 1 y1 rfl) (fun k hk => by rw [hk]; exact hg) h h.size
theorem own_set2 {w : World} {base g n : Nat} {T : TypeId} {v : Value} {xs : List Value} (h : w.ownsRow base T 2 v n xs) (hg : g < base) (y0 y1 : Value) : ((w.setCell ⟨g, 0, none⟩ y0).setCell ⟨g, 1, none⟩ y1).ownsRow base T 2 v n xs :=
  own_stay h fun m hm => by
    have hne : m ≠ g := by have := (h.lt m hm).1; omega
    rw [heap_setCell_other _ _ _ _ hne, heap_setCell_other _ _ _ _ hne]

/-- A head that is made, in the block b5, beside the result's block. -/
structure HI (w : World) (b5 base id : Nat) (tv : Value) (l : List (Nat × Nat)) (wx : World) : Prop where
  kept : Kept w wx
  size : base ≤ wx.heap.size
  row0 : wx.heap[w.heap.size]? = some (.cells #[.int .u32 0, .slice none 0 0] 33 (0, 0))
  row5 : wx.heap[b5]? = some (.cells #[.int .u32 (id : Nat), tv] 33 (0, 0))
  own : wx.ownsRow base 68 2 tv l.length (slV l)
  ord : w.heap.size < base ∧ b5 < base ∧ w.heap.size < b5
theorem HI.later {w wx wy : World} {b5 base id : Nat} {tv : Value} {l : List (Nat × Nat)} (h : HI w b5 base id tv l wx) (k : Kept wx wy) : HI w b5 base id tv l wy :=
  ⟨h.kept.then k, Nat.le_trans h.size k.size, k.row h.row0, k.row h.row5, own_stay h.own (fun m hm => k.block m (h.own.lt m hm).2), h.ord⟩
theorem HI.c0 {w wx : World} {b5 base id : Nat} {tv : Value} {l : List (Nat × Nat)} (h : HI w b5 base id tv l wx) : wx.cell? ⟨b5, 0, none⟩ = some (.int .u32 (id : Nat)) := by rw [cell_of_row _ _ _ _ _ _ h.row5]; rfl
theorem HI.c1 {w wx : World} {b5 base id : Nat} {tv : Value} {l : List (Nat × Nat)} (h : HI w b5 base id tv l wx) : wx.cell? ⟨b5, 1, none⟩ = some tv := by rw [cell_of_row _ _ _ _ _ _ h.row5]; rfl
/-- Behind another's writing: the block br alone, below base, beside both. -/
theorem HI.grown {w wx wy : World} {b5 base id br : Nat} {tv : Value} {l : List (Nat × Nat)} (h : HI w b5 base id tv l wx) (k : wx.grownBy wy (some br)) (hb : br < base ∧ br ≠ b5 ∧ w.heap.size < br) : HI w b5 base id tv l wy := by
  have h0 := (Array.getElem?_eq_some_iff.1 h.row0).1
  have h5 := (Array.getElem?_eq_some_iff.1 h.row5).1
  refine ⟨below_touch h.kept k h.kept.size (Nat.le_of_lt hb.2.2), Nat.le_trans h.size k.size, ?_, ?_, own_stay h.own (fun m hm => k.block m (h.own.lt m hm).2 (fun e => by have := (h.own.lt m hm).1; have := Option.some.inj e; omega)), h.ord⟩
  · rw [k.block _ h0 (fun e => by have := Option.some.inj e; omega)]; exact h.row0
  · rw [k.block _ h5 (fun e => by have := Option.some.inj e; omega)]; exact h.row5
/-- A slot is appended. -/
theorem HI.app {w wd w6 : World} {b5 base id : Nat} {tv v' : Value} {l : List (Nat × Nat)} {s : Nat × Nat} {XA : Array Value} (h : HI w b5 base id tv l wd)
    (ho6 : w6.ownsRow base 68 2 v' (l.length + 1) (slV l ++ slV [s])) (hg : (wd.alloc (.cells XA 68)).grownBy w6 tv.ownBlock) :
    w6.heap[b5]? = some (.cells #[.int .u32 (id : Nat), tv] 33 (0, 0)) ∧ Kept w w6 ∧ HI w b5 base id v' (l ++ [s]) (w6.setCell ⟨b5, 1, none⟩ v') := by
  have hka : Kept wd (wd.alloc (.cells XA 68)) := box_below _ _
  have hl0 := (Array.getElem?_eq_some_iff.1 h.row0).1
  have hl5 := (Array.getElem?_eq_some_iff.1 h.row5).1
  have nb : ∀ m, tv.ownBlock = some m → base ≤ m := fun m hm => (h.own.lt m hm).1
  have nb' : ∀ m, v'.ownBlock = some m → base ≤ m := fun m hm => (ho6.lt m hm).1
  have hb6 : ButBy (fun m => tv.ownBlock = some m) wd w6 := ⟨hg.os.trans hka.os, hg.tape.trans hka.tape, hg.output.trans hka.output, Nat.le_trans hka.size hg.size, fun m hm hn => (hg.block m (Nat.lt_of_lt_of_le hm hka.size) (fun e => hn e.symm)).trans (hka.block m hm)⟩
  have h5 : w6.heap[b5]? = some (.cells #[.int .u32 (id : Nat), tv] 33 (0, 0)) := by rw [hb6.block b5 hl5 (fun e => by have := nb _ e; have := h.ord; omega)]; exact h.row5
  have h0 : w6.heap[w.heap.size]? = some (.cells #[.int .u32 0, .slice none 0 0] 33 (0, 0)) := by rw [hb6.block _ hl0 (fun e => by have := nb _ e; have := h.ord; omega)]; exact h.row0
  have hk6 : Kept w w6 := ButBy.kept hb6 (fun m hm => by have := nb m hm; have := h.ord; omega) h.kept h.kept.size
  have hord := h.ord
  refine ⟨h5, hk6, below_touch hk6 (grown_set _ _ _ _) hk6.size (by omega), ?_, ?_, heap_setCell_same w6 b5 1 #[.int .u32 (id : Nat), tv] 33 v' h5, ?_, hord⟩
  · have := hb6.size
    have := h.size
    show base ≤ (w6.heap.modify _ _).size
    rw [Array.size_modify]; omega
  · rw [heap_setCell_other _ _ _ _ (by show w.heap.size ≠ b5; omega)]; exact h0
  · have e1 : (l ++ [s]).length = l.length + 1 := by simp
    rw [e1, slV_append]
    exact own_stay ho6 (fun m hm => heap_setCell_other _ _ _ _ (by show m ≠ b5; have := nb' m hm; omega))

set_option maxRecDepth 100000 in
set_option maxHeartbeats 16000000 in
theorem rof14_any (id : Nat) (L : List ByteArray) (v : Value) (w : World) (h : StrAt L v w) (hl : L.length ≤ 1000) (hz : ∀ s ∈ L, s.size ≤ 100000) :
    Calls Tryd.prog 18 #[.int .u32 (id : Nat), v] w fun e w' => (∃ u, e = .returned u ∧ HeadIs (headC id L) u w') ∧ Kept w w' := by
  obtain ⟨ir, hir, hx⟩ := Option.map_eq_some_iff.1 infoSlX
  simp only [Prod.mk.injEq] at hx
  obtain ⟨hz0, hz1, hz2⟩ := hx
  have HIR := Lib.hid hir
  have HZ0 := Lib.hid hz0
  have HZ1 := Lib.hid hz1
  have HZ2 := Lib.hid hz2
  obtain ⟨p, c, rfl, hc⟩ := h
  have HC := Lib.hid hc
  have HZ := Lib.hid hz
  obtain ⟨n, hn⟩ : ∃ n, n = L.length := ⟨_, rfl⟩
  have HN := Lib.hid hn
  rw [← hn]
  rw [← hn] at hl
  have HL := Lib.hid hl
  have hk1 : Kept w ((w.alloc (.cells #[.int .u32 0, .slice none 0 0] 33)).alloc (.cells #[.int .u32 (id : Nat), .slice none 0 0] 33)) := (show Kept w _ from box_below _ _).then (box_below _ _)
  obtain ⟨W2, hW2⟩ : ∃ W, W = (w.alloc (.cells #[.int .u32 0, .slice none 0 0] 33)).alloc (.cells #[.int .u32 (id : Nat), .slice none 0 0] 33) := ⟨_, rfl⟩
  have HW2 := Lib.hid hW2
  have hs2 : W2.heap.size = w.heap.size + 1 + 1 := by rw [hW2]; simp
  have HI0 : Hid (HI w (w.heap.size + 1) (w.heap.size + 1 + 1) id (.slice none 0 0) [] W2) := Lib.hid (by
    refine ⟨by rw [hW2]; exact hk1, by omega, ?_, ?_, World.ownsRow_nil _ _ _ _, by omega⟩
    · rw [hW2]
      exact Kept.row (box_below _ _) (heap_alloc_last w _)
    · rw [hW2]
      have := heap_alloc_last (w.alloc (.cells #[.int .u32 0, .slice none 0 0] 33)) (.cells #[.int .u32 (id : Nat), .slice none 0 0] 33)
      have e : (w.alloc (.cells #[.int .u32 0, .slice none 0 0] 33)).heap.size = w.heap.size + 1 := by simp
      rw [e] at this
      exact this)
  have HHC : Hid (headC id L = ⟨id, L.map slotC⟩) := Lib.hid rfl
  clear hir hz0 hz1 hz2 hc hz hn hl hk1 hW2 hs2
  go_enter Tryd.func18, Tryd.ntmps18
  go_wp2
  rw [← HW2.out]
  obtain ⟨b5, hb5⟩ : ∃ b5, b5 = w.heap.size + 1 := ⟨_, rfl⟩
  have HB5 := Lib.hid hb5
  rw [← hb5] at HI0 ⊢
  clear hb5
  go_loopg [6] n (fun gh y wr => ∃ (k : Nat) (tv : Value), k + gh = n ∧ y = .int .i64 k ∧ Hid (HI w b5 (b5 + 1) id tv ((L.take k).map slotC) wr))
  case atStart => exact ⟨0, _, by omega, rfl, HI0⟩
  case round =>
    clear HI0
    obtain ⟨k, tv, hk, rfl, HH⟩ := hrel
    obtain ⟨pv, cv, htv, -, -⟩ := own_slice HH.out.own
    have hlk : ((L.take k).map slotC).length = k := by rw [List.length_map, List.length_take]; have := HN.out; omega
    rw [hlk] at htv
    have HLK := Lib.hid hlk
    subst htv
    by_cases hlt : k < n
    · have hki : (k : Int) < n := by omega
      have bk : decide ((k : Int) < (n : Int)) = true := by simpa using hki
      have hki0 : (0 : Int) ≤ k := by omega
      rcases HC.out with h0 | ⟨b, off, rfl, hcell⟩
      · have := HN.out; rw [h0] at this; simp at this; omega
      have hkl : k < L.length := by have := HN.out; omega
      have e0 := hcell k hkl
      have hmem : L[k] ∈ L := List.getElem_mem hkl
      have htk : L.take (k + 1) = L.take k ++ [L[k]] := List.take_succ_eq_append_getElem hkl
      obtain ⟨X, hX⟩ : ∃ X, X = L[k] := ⟨_, rfl⟩
      rw [← hX] at e0 hmem htk
      have hxs := HZ.out X hmem
      have CS := fun W => rsum_any X hxs W
      obtain ⟨sz, hsz⟩ : ∃ sz, sz = X.size := ⟨_, rfl⟩
      obtain ⟨sm, hsm⟩ : ∃ sm, sm = moreN 0 X.data.toList := ⟨_, rfl⟩
      rw [← hsm] at CS
      have hx2 : X.size = sz := hsz.symm
      obtain ⟨k1, hk1⟩ : ∃ k1, k1 = k + 1 := ⟨_, rfl⟩
      have v1 : IntKind.i64.wrap ((k : Int) + 1) = (k1 : Int) := by rw [show (k : Int) + 1 = (k1 : Int) by omega]; exact IntWalk.i64_in _ (by have := HL.out; omega)
      have HK1 := Lib.hid hk1
      have HX : Hid ((L.take k).map slotC ++ [(sz, sm)] = (L.take k1).map slotC) := Lib.hid (by rw [hk1, htk, List.map_append, hsz, hsm]; rfl)
      have HE0 := Lib.hid e0
      have e1 := Kept.cell HH.out.kept e0
      have c1 := HH.out.c1
      have HD := Lib.hid (HH.out.later (show Kept wr wr.drew from (Below.refl _ wr).drew))
      have HKLT : Hid (k < 1000) := Lib.hid (by have := HL.out; omega)
      clear hcell hkl hmem htk hX hxs hsz hsm hk1 e0 HH
      go_wp2_with fail
      refine wp_region_held_drew (S := fun w' => w'.cell? ⟨b, off + k, none⟩ = some (.string X)) (by kernel_rfl) (by exact e1) (fun hHeld => ?_)
      refine wpAnyH_take (i := 0) (v := ?_) rfl (by kernel_rfl) (by kernel_rfl) (by kernel_rfl) (fun _ _ _ h => h) (Or.inl ⟨by first | kernel_rfl | rfl, ?_⟩) (by assumption) ?_
      case refine_2 => intro w hSw; go_simp; try with_reducible rfl
      refine wpAnyH_take (i := 2) (v := ?_) rfl (by kernel_rfl) (by kernel_rfl) (by kernel_rfl) (fun _ _ _ h => h) (Or.inl ⟨by first | kernel_rfl | rfl, ?_⟩) (by assumption) ?_
      case refine_2 => intro w hSw; go_simp; try with_reducible rfl
      refine wpAnyH_take (i := 3) (v := ?_) rfl (by kernel_rfl) (by kernel_rfl) (by kernel_rfl) (fun _ _ _ h => h) (Or.inl ⟨by first | kernel_rfl | rfl, ?_⟩) (by assumption) ?_
      case refine_2 => intro w hSw; go_simp; try with_reducible rfl
      refine wpAnyH_take (i := 4) (v := ?_) rfl (by kernel_rfl) (by kernel_rfl) (by kernel_rfl) (fun _ _ _ h => h) (Or.inl ⟨by first | kernel_rfl | rfl, ?_⟩) (by assumption) ?_
      case refine_2 => intro w hSw; go_simp; try with_reducible rfl
      refine wpAnyH_take (i := 5) (v := ?_) rfl (by kernel_rfl) (by kernel_rfl) (by kernel_rfl) (fun _ _ _ h => h) (Or.inl ⟨by first | kernel_rfl | rfl, ?_⟩) (by assumption) ?_
      case refine_2 => intro w hSw; go_simp; try with_reducible rfl
      refine wpAnyH_take (i := 6) (v := ?_) rfl (by kernel_rfl) (by kernel_rfl) (by kernel_rfl) (fun _ _ _ h => h) (Or.inl ⟨by first | kernel_rfl | rfl, ?_⟩) (by assumption) ?_
      case refine_2 => intro w hSw; go_simp; try with_reducible rfl
      refine wpAnyH_take (i := 7) (v := ?_) rfl (by kernel_rfl) (by kernel_rfl) (by kernel_rfl) (fun _ _ _ h => h) (Or.inl ⟨by first | kernel_rfl | rfl, ?_⟩) (by assumption) ?_
      case refine_2 => intro w hSw; go_simp; try with_reducible rfl
      refine wpAnyH_take (i := 8) (v := ?_) rfl (by kernel_rfl) (by kernel_rfl) (by kernel_rfl) (fun _ _ _ h => h) (Or.inl ⟨by first | kernel_rfl | rfl, ?_⟩) (by assumption) ?_
      case refine_2 => intro w hSw; go_simp; try with_reducible rfl
      refine wpAnyH_take (i := 9) (v := ?_) rfl (by kernel_rfl) (by kernel_rfl) (by kernel_rfl) (fun _ _ _ h => h) (Or.inl ⟨by first | kernel_rfl | rfl, ?_⟩) (by assumption) ?_
      case refine_2 => intro w hSw; go_simp; try with_reducible rfl
      refine wpAnyH_take (i := 10) (v := ?_) rfl (by kernel_rfl) (by kernel_rfl) (by kernel_rfl) (fun _ _ _ h => h) (Or.inl ⟨by first | kernel_rfl | rfl, ?_⟩) (by assumption) ?_
      case refine_2 => intro w hSw; go_simp; try with_reducible rfl
      refine wpAnyH_ready (rs := [1, 11]) (by kernel_rfl) (by simp) (AllReadyH.cons rfl (fun K hK => ?_) (AllReadyH.cons rfl (fun K hK => ?_) AllReadyH.nil))
      · go_simp
        refine hK.out _ _ (by exact e1) (fun _ => ?_)
        clear hK K
        refine wpAnyH_ready (rs := [11]) (by kernel_rfl) (by simp) (AllReadyH.cons rfl (fun K hK => ?_) AllReadyH.nil)
        go_simp
        refine (CS _).mono ?_
        rintro e w2 ⟨rfl, hb2⟩
        have HH2 := Lib.hid (HD.out.later hb2)
        have e2 := Kept.cell HH2.out.kept HE0.out
        have c2 := HH2.out.c1
        refine hK.out _ _ e2 (fun _ => ?_)
        clear hK K
        clear hb2
        refine wpAnyH_take (i := 12) (v := ?_) rfl (by kernel_rfl) (by kernel_rfl) (by kernel_rfl) (fun _ _ _ h => h) (Or.inl ⟨by first | kernel_rfl | rfl, ?_⟩) (by assumption) ?_
        case refine_2 => intro w hSw; go_simp; try with_reducible rfl
        refine wpAnyH_ready (rs := [13]) (by kernel_rfl) (by simp) (AllReadyH.cons rfl (fun K hK => ?_) AllReadyH.nil)
        go_simp
        have HH3 := Lib.hid (HH2.out.later (box_below w2 (.cells #[.int .i64 (sz : Nat), .int .u32 (sm : Nat)] 68)))
        have e3 := Kept.cell HH3.out.kept HE0.out
        have c3 := HH3.out.c1
        refine hK.out _ _ e3 (fun _ => ?_)
        clear hK K
        refine wpAnyH_ready (rs := [14]) (by kernel_rfl) (by simp) (AllReadyH.cons rfl (fun K hK => ?_) AllReadyH.nil)
        rw [if_pos (by rfl)]
        refine wp_append_flat _ _ 31 rfl (b5 + 1) 68 ir (.agg #[.int .i64 0, .int .u32 0]) 2 16 Tryd.underlying31 HIR.out HZ0.out HZ1.out HZ2.out rfl (by decide) _ ((L.take k).map slotC).length (slV ((L.take k).map slotC)) ?q0 HH3.out.own _ 1 (slV [(sz, sm)]) rfl (flat_slX w2 sz sm) ?q1 ?q2 ?q3 ?_
        case q0 => rfl
        case q1 => have := HKLT.out; rw [HLK.out]; unfold maxLen; omega
        case q2 => have := HKLT.out; rw [HLK.out]; omega
        case q3 => exact HH3.out.size
        intro v' w6 hown6 hg6 _
        obtain ⟨hr6, hk6, hh6⟩ := HH2.out.app hown6 hg6
        rw [HX.out] at hh6
        have x5 : w6.cell? ⟨b5, 1, none⟩ = some (.slice pv k cv) := by rw [cell_of_row _ _ _ _ _ _ hr6]; rfl
        have f5 := frozen_of_row w6 b5 1 _ _ hr6
        have e6 := Kept.cell hk6 HE0.out
        have e7 := Kept.cell hh6.kept HE0.out
        have HH6 := Lib.hid hh6
        obtain ⟨pv', cv', htv', -, -⟩ := own_slice hown6
        rw [HLK.out, ← HK1.out] at htv'
        subst htv'
        clear hown6 hg6 hr6 hk6 hh6
        refine hK.out _ _ e6 (fun _ => ?_)
        clear hK K
        refine wpAnyH_take (i := 15) (v := ?_) rfl (by kernel_rfl) (by kernel_rfl) (by kernel_rfl) (fun _ _ _ h => h) (Or.inl ⟨by first | kernel_rfl | rfl, ?_⟩) (by assumption) ?_
        case refine_2 => intro w hSw; go_simp; try with_reducible rfl
        refine wpAnyH_ready (rs := [16]) (by kernel_rfl) (by simp) (AllReadyH.cons rfl (fun K hK => ?_) AllReadyH.nil)
        go_simp
        refine hK.out _ _ e7 (fun _ => ?_)
        clear hK K
        refine wpAnyH_done (by kernel_rfl) ?_ _
        go_wp2
        go_roundg (n - k1)
        · exact ⟨k1, _, by have := HK1.out; omega, by first | rfl | (have := HK1.out; simp; omega), HH6⟩
        · have := HK1.out; omega
      · go_simp
        refine (CS _).mono ?_
        rintro e w2 ⟨rfl, hb2⟩
        have HH2 := Lib.hid (HD.out.later hb2)
        have e2 := Kept.cell HH2.out.kept HE0.out
        have c2 := HH2.out.c1
        refine hK.out _ _ e2 (fun _ => ?_)
        clear hK K
        clear hb2
        refine wpAnyH_take (i := 12) (v := ?_) rfl (by kernel_rfl) (by kernel_rfl) (by kernel_rfl) (fun _ _ _ h => h) (Or.inl ⟨by first | kernel_rfl | rfl, ?_⟩) (by assumption) ?_
        case refine_2 => intro w hSw; go_simp; try with_reducible rfl
        refine wpAnyH_ready (rs := [1, 13]) (by kernel_rfl) (by simp) (AllReadyH.cons rfl (fun K hK => ?_) (AllReadyH.cons rfl (fun K hK => ?_) AllReadyH.nil))
        · go_simp
          refine hK.out _ _ e2 (fun _ => ?_)
          clear hK K
          refine wpAnyH_ready (rs := [13]) (by kernel_rfl) (by simp) (AllReadyH.cons rfl (fun K hK => ?_) AllReadyH.nil)
          go_simp
          have HH3 := Lib.hid (HH2.out.later (box_below w2 (.cells #[.int .i64 (sz : Nat), .int .u32 (sm : Nat)] 68)))
          have e3 := Kept.cell HH3.out.kept HE0.out
          have c3 := HH3.out.c1
          refine hK.out _ _ e3 (fun _ => ?_)
          clear hK K
          refine wpAnyH_ready (rs := [14]) (by kernel_rfl) (by simp) (AllReadyH.cons rfl (fun K hK => ?_) AllReadyH.nil)
          rw [if_pos (by rfl)]
          refine wp_append_flat _ _ 31 rfl (b5 + 1) 68 ir (.agg #[.int .i64 0, .int .u32 0]) 2 16 Tryd.underlying31 HIR.out HZ0.out HZ1.out HZ2.out rfl (by decide) _ ((L.take k).map slotC).length (slV ((L.take k).map slotC)) ?q0 HH3.out.own _ 1 (slV [(sz, sm)]) rfl (flat_slX w2 sz sm) ?q1 ?q2 ?q3 ?_
          case q0 => rfl
          case q1 => have := HKLT.out; rw [HLK.out]; unfold maxLen; omega
          case q2 => have := HKLT.out; rw [HLK.out]; omega
          case q3 => exact HH3.out.size
          intro v' w6 hown6 hg6 _
          obtain ⟨hr6, hk6, hh6⟩ := HH2.out.app hown6 hg6
          rw [HX.out] at hh6
          have x5 : w6.cell? ⟨b5, 1, none⟩ = some (.slice pv k cv) := by rw [cell_of_row _ _ _ _ _ _ hr6]; rfl
          have f5 := frozen_of_row w6 b5 1 _ _ hr6
          have e6 := Kept.cell hk6 HE0.out
          have e7 := Kept.cell hh6.kept HE0.out
          have HH6 := Lib.hid hh6
          obtain ⟨pv', cv', htv', -, -⟩ := own_slice hown6
          rw [HLK.out, ← HK1.out] at htv'
          subst htv'
          clear hown6 hg6 hr6 hk6 hh6
          refine hK.out _ _ e6 (fun _ => ?_)
          clear hK K
          refine wpAnyH_take (i := 15) (v := ?_) rfl (by kernel_rfl) (by kernel_rfl) (by kernel_rfl) (fun _ _ _ h => h) (Or.inl ⟨by first | kernel_rfl | rfl, ?_⟩) (by assumption) ?_
          case refine_2 => intro w hSw; go_simp; try with_reducible rfl
          refine wpAnyH_ready (rs := [16]) (by kernel_rfl) (by simp) (AllReadyH.cons rfl (fun K hK => ?_) AllReadyH.nil)
          go_simp
          refine hK.out _ _ e7 (fun _ => ?_)
          clear hK K
          refine wpAnyH_done (by kernel_rfl) ?_ _
          go_wp2
          go_roundg (n - k1)
          · exact ⟨k1, _, by have := HK1.out; omega, by first | rfl | (have := HK1.out; simp; omega), HH6⟩
          · have := HK1.out; omega
        · go_simp
          have HH3 := Lib.hid (HH2.out.later (box_below w2 (.cells #[.int .i64 (sz : Nat), .int .u32 (sm : Nat)] 68)))
          have e3 := Kept.cell HH3.out.kept HE0.out
          have c3 := HH3.out.c1
          refine hK.out _ _ e3 (fun _ => ?_)
          clear hK K
          refine wpAnyH_ready (rs := [1]) (by kernel_rfl) (by simp) (AllReadyH.cons rfl (fun K hK => ?_) AllReadyH.nil)
          go_simp
          refine hK.out _ _ e3 (fun _ => ?_)
          clear hK K
          refine wpAnyH_ready (rs := [14]) (by kernel_rfl) (by simp) (AllReadyH.cons rfl (fun K hK => ?_) AllReadyH.nil)
          rw [if_pos (by rfl)]
          refine wp_append_flat _ _ 31 rfl (b5 + 1) 68 ir (.agg #[.int .i64 0, .int .u32 0]) 2 16 Tryd.underlying31 HIR.out HZ0.out HZ1.out HZ2.out rfl (by decide) _ ((L.take k).map slotC).length (slV ((L.take k).map slotC)) ?q0 HH3.out.own _ 1 (slV [(sz, sm)]) rfl (flat_slX w2 sz sm) ?q1 ?q2 ?q3 ?_
          case q0 => rfl
          case q1 => have := HKLT.out; rw [HLK.out]; unfold maxLen; omega
          case q2 => have := HKLT.out; rw [HLK.out]; omega
          case q3 => exact HH3.out.size
          intro v' w6 hown6 hg6 _
          obtain ⟨hr6, hk6, hh6⟩ := HH2.out.app hown6 hg6
          rw [HX.out] at hh6
          have x5 : w6.cell? ⟨b5, 1, none⟩ = some (.slice pv k cv) := by rw [cell_of_row _ _ _ _ _ _ hr6]; rfl
          have f5 := frozen_of_row w6 b5 1 _ _ hr6
          have e6 := Kept.cell hk6 HE0.out
          have e7 := Kept.cell hh6.kept HE0.out
          have HH6 := Lib.hid hh6
          obtain ⟨pv', cv', htv', -, -⟩ := own_slice hown6
          rw [HLK.out, ← HK1.out] at htv'
          subst htv'
          clear hown6 hg6 hr6 hk6 hh6
          refine hK.out _ _ e6 (fun _ => ?_)
          clear hK K
          refine wpAnyH_take (i := 15) (v := ?_) rfl (by kernel_rfl) (by kernel_rfl) (by kernel_rfl) (fun _ _ _ h => h) (Or.inl ⟨by first | kernel_rfl | rfl, ?_⟩) (by assumption) ?_
          case refine_2 => intro w hSw; go_simp; try with_reducible rfl
          refine wpAnyH_ready (rs := [16]) (by kernel_rfl) (by simp) (AllReadyH.cons rfl (fun K hK => ?_) AllReadyH.nil)
          go_simp
          refine hK.out _ _ e7 (fun _ => ?_)
          clear hK K
          refine wpAnyH_done (by kernel_rfl) ?_ _
          go_wp2
          go_roundg (n - k1)
          · exact ⟨k1, _, by have := HK1.out; omega, by first | rfl | (have := HK1.out; simp; omega), HH6⟩
          · have := HK1.out; omega
    · have hki : ¬ (k : Int) < n := by omega
      have bk : decide ((k : Int) < (n : Int)) = false := by simpa using hki
      have hkn : k = n := by omega
      have HH2 : Hid (HI w b5 (b5 + 1) id (.slice pv k cv) (L.map slotC) wr) := Lib.hid (by
        have h := HH.out
        rw [List.take_of_length_le (by have := HN.out; omega)] at h
        exact h)
      have c0 := HH.out.c0
      have c1 := HH.out.c1
      have g0 : wr.cell? ⟨w.heap.size, 0, none⟩ = some (.int .u32 0) := by rw [cell_of_row _ _ _ _ _ _ HH.out.row0]; rfl
      have g1 : wr.cell? ⟨w.heap.size, 1, none⟩ = some (.slice none 0 0) := by rw [cell_of_row _ _ _ _ _ _ HH.out.row0]; rfl
      have f0 := frozen_of_row wr w.heap.size 0 _ _ HH.out.row0
      have f1 := frozen_of_row wr w.heap.size 1 _ _ HH.out.row0
      clear HH HC hkn
      go_wp2
      refine bodyPost_ret (results_cell_row Tryd.results18 _ _ w.heap.size 33 #[.int .u32 (id : Nat), .slice pv k cv] (0, 0) _ rfl (set2_row HH2.out.row0 _ _) Tryd.underlying33 rfl infoHdX) rfl ⟨⟨_, rfl, .slice pv k cv, by rw [HHC.out], ?_⟩, below_set2 HH2.out.kept (Nat.le_refl _) _ _⟩
      rw [HHC.out]
      exact SlotsAt.own (own_set2 HH2.out.own (by have := HH2.out.ord; omega) _ _)

end Go.Proofs.YtdmbebafpamgfaaDoor
