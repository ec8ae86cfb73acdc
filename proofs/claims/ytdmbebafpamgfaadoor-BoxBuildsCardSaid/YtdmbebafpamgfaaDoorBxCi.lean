/- The landed boxes' Build. -/
import Derived.Test.YtdmbebafpamgfaaDoorBxCh
namespace Go.Proofs.YtdmbebafpamgfaaDoor
open Go.RowKit

/-- A head that is made in the block b5. -/
structure HB (w : World) (b5 base id : Nat) (tv : Value) (l : List (Nat × Nat)) (wx : World) : Prop where
  kept : Kept w wx
  size : base ≤ wx.heap.size
  row5 : wx.heap[b5]? = some (.cells #[.int .u32 (id : Nat), tv] 33 (0, 0))
  own : wx.ownsRow base 68 2 tv l.length (slV l)
  ord : w.heap.size ≤ b5 ∧ b5 < base
theorem HB.later {w wx wy : World} {b5 base id : Nat} {tv : Value} {l : List (Nat × Nat)} (h : HB w b5 base id tv l wx) (k : Kept wx wy) : HB w b5 base id tv l wy :=
  ⟨h.kept.then k, Nat.le_trans h.size k.size, k.row h.row5, own_stay h.own (fun m hm => k.block m (h.own.lt m hm).2), h.ord⟩
theorem HB.c0 {w wx : World} {b5 base id : Nat} {tv : Value} {l : List (Nat × Nat)} (h : HB w b5 base id tv l wx) : wx.cell? ⟨b5, 0, none⟩ = some (.int .u32 (id : Nat)) := by rw [cell_of_row _ _ _ _ _ _ h.row5]; rfl
theorem HB.c1 {w wx : World} {b5 base id : Nat} {tv : Value} {l : List (Nat × Nat)} (h : HB w b5 base id tv l wx) : wx.cell? ⟨b5, 1, none⟩ = some tv := by rw [cell_of_row _ _ _ _ _ _ h.row5]; rfl
/-- A slot is appended. -/
theorem HB.app {w wd w6 : World} {b5 base id : Nat} {tv v' : Value} {l : List (Nat × Nat)} {s : Nat × Nat} {XA : Array Value} (h : HB w b5 base id tv l wd)
    (ho6 : w6.ownsRow base 68 2 v' (l.length + 1) (slV l ++ slV [s])) (hg : (wd.alloc (.cells XA 68)).grownBy w6 tv.ownBlock) :
    w6.heap[b5]? = some (.cells #[.int .u32 (id : Nat), tv] 33 (0, 0)) ∧ HB w b5 base id v' (l ++ [s]) (w6.setCell ⟨b5, 1, none⟩ v') := by
  have hka : Kept wd (wd.alloc (.cells XA 68)) := box_below _ _
  have hl5 := (Array.getElem?_eq_some_iff.1 h.row5).1
  have nb : ∀ m, tv.ownBlock = some m → base ≤ m := fun m hm => (h.own.lt m hm).1
  have nb' : ∀ m, v'.ownBlock = some m → base ≤ m := fun m hm => (ho6.lt m hm).1
  have hb6 : ButBy (fun m => tv.ownBlock = some m) wd w6 := ⟨hg.os.trans hka.os, hg.tape.trans hka.tape, hg.output.trans hka.output, Nat.le_trans hka.size hg.size, fun m hm hn => (hg.block m (Nat.lt_of_lt_of_le hm hka.size) (fun e => hn e.symm)).trans (hka.block m hm)⟩
  have h5 : w6.heap[b5]? = some (.cells #[.int .u32 (id : Nat), tv] 33 (0, 0)) := by rw [hb6.block b5 hl5 (fun e => by have := nb _ e; have := h.ord; omega)]; exact h.row5
  have hk6 : Kept w w6 := ButBy.kept hb6 (fun m hm => by have := nb m hm; have := h.ord; omega) h.kept h.kept.size
  have hord := h.ord
  refine ⟨h5, below_touch hk6 (grown_set _ _ _ _) hk6.size (by omega), ?_, heap_setCell_same w6 b5 1 #[.int .u32 (id : Nat), tv] 33 v' h5, ?_, hord⟩
  · have := hb6.size
    have := h.size
    show base ≤ (w6.heap.modify _ _).size
    rw [Array.size_modify]; omega
  · have e1 : (l ++ [s]).length = l.length + 1 := by simp
    rw [e1, slV_append]
    exact own_stay ho6 (fun m hm => heap_setCell_other _ _ _ _ (by show m ≠ b5; have := nb' m hm; omega))

theorem join_empty (xs : List (List UInt8)) : Lib.join xs [] = xs.flatten := by
  cases xs with
  | nil => rfl
  | cons x r =>
    rw [Lib.join_cons]
    unfold Lib.joinTail
    simp

/-- strings.Join of texts, nothing between them. -/
theorem join_any (L : List ByteArray) (hL : 1 ≤ L.length ∧ L.length ≤ 1000) (hs : (dataC L).length ≤ 1000000) (D : ByteArray) (hD : D = str (dataC L)) (v : Value) (w : World) (h : StrAtC L v w) :
    Calls Tryd.prog 35 #[v, .string ⟨#[]⟩] w fun e w' => e = .returned (.string D) ∧ Kept w w' := by
  obtain ⟨⟨p, c, rfl, hc⟩, hcap⟩ := h
  have hn := hcap _ _ _ rfl
  rcases hc with h0 | ⟨b, off, rfl, hcell⟩
  · rw [h0] at hL; simp at hL
  · have e1 : Lib.join (L.map fun c => c.data.toList) (⟨#[]⟩ : ByteArray).data.toList = dataC L := by
      rw [dataC_flat]
      exact join_empty _
    have C := Tryd.strings_Join b off c L ⟨#[]⟩ w (fun j x hx => by
      obtain ⟨hj, e⟩ := List.getElem?_eq_some_iff.1 hx
      rw [← e]
      exact hcell j hj) (World.block_lt_of_cell? _ _ (hcell 0 (by omega))) (by omega) hn (by rw [e1]; omega)
    rw [e1] at C
    rw [hD]
    exact C

set_option maxRecDepth 100000 in
set_option maxHeartbeats 32000000 in
theorem buildOkB : BBuildOk := by
  intro id L v w hid h hL hs hT
  obtain ⟨ir, hir, hx⟩ := Option.map_eq_some_iff.1 infoSlX
  simp only [Prod.mk.injEq] at hx
  obtain ⟨hz0, hz1, hz2⟩ := hx
  have HIR := Lib.hid hir
  have HZ0 := Lib.hid hz0
  have HZ1 := Lib.hid hz1
  have HZ2 := Lib.hid hz2
  have HT := Lib.hid hT
  have HV := Lib.hid h
  have C0 := checkOkB id L v w hid h.1 hL hs
  obtain ⟨p, c, rfl, hc⟩ := h.1
  have HC := Lib.hid hc
  have HZL := Lib.hid hs
  obtain ⟨n, hn⟩ : ∃ n, n = L.length := ⟨_, rfl⟩
  have HN := Lib.hid hn
  rw [← hn] at C0 hL HV ⊢
  by_cases hm : mayC id L
  · rw [if_pos hm] at C0
    unfold buildV
    rw [if_pos hm, if_pos hm]
    have hlen := hm.2.1
    have e9 : (lensC L).length = n := by unfold lensC; rw [List.length_map, hn]
    rw [e9] at hlen
    have hdl : (dataC L).length ≤ 65536 := by rw [dataC_len]; exact hm.2.2.2
    have HWF : Hid (wfH (headC id L)) := Lib.hid (wfH_headC hm)
    have HHC : Hid (headC id L = ⟨id, L.map slotC⟩) := Lib.hid rfl
    obtain ⟨D, hD⟩ : ∃ D, D = str (dataC L) := ⟨_, rfl⟩
    have CJ := fun v W (H : StrAtC L v W) => join_any L (by rw [← hn]; omega) (by omega) D hD v W H
    obtain ⟨F, hF⟩ : ∃ F, F = str (frontH (headC id L)) := ⟨_, rfl⟩
    have CF := fun v W (H : HeadIs (headC id L) v W) (hT : TabAt W) => headBytes_any (headC id L) v W H HWF.out (by rw [headC_len, ← hn]; omega) hT
    rw [← hF] at CF
    obtain ⟨R, hR⟩ : ∃ R, R = str (boxB id L) := ⟨_, rfl⟩
    have c1 : F ++ D = R := by rw [hF, hD, hR, str_append]; rfl
    obtain ⟨fz, hfz⟩ : ∃ z, z = F.size := ⟨_, rfl⟩
    obtain ⟨dz, hdz⟩ : ∃ z, z = D.size := ⟨_, rfl⟩
    have xF : F.size = fz := hfz.symm
    have xD : D.size = dz := hdz.symm
    have s1 : ¬ 9223372036854775807 < fz + dz := by
      rw [hfz, hdz, hF, hD, str_size, str_size, frontH_len]
      unfold lenH
      rw [headC_len, ← hn]
      omega
    rw [← hR]
    have HN2 := Lib.hid hlen
    clear hir hz0 hz1 hz2 hT h hc hs hn hm e9 hdl hD hF hR hfz hdz hid hL hlen
    go_enter Tryd.func10, Tryd.ntmps10
    go_wp2_with fail
    refine C0.mono ?_
    rintro e w2 ⟨rfl, hb2⟩
    obtain ⟨b5, hb5⟩ : ∃ b, b = w2.heap.size := ⟨_, rfl⟩
    have HB5 := Lib.hid hb5
    obtain ⟨W3, hW3⟩ : ∃ W, W = w2.alloc (.cells #[.int .u32 (id : Nat), .slice none 0 0] 33) := ⟨_, rfl⟩
    have HW3 := Lib.hid hW3
    have HB0 : Hid (HB w b5 (b5 + 1) id (.slice none 0 0) [] W3) := Lib.hid ⟨by rw [hW3]; exact (show Kept w w2 from hb2).then (box_below _ _), by rw [hW3, hb5]; simp, by rw [hW3, hb5]; exact heap_alloc_last w2 _, World.ownsRow_nil _ _ _ _, by rw [hb5]; exact hb2.size, by omega⟩
    have L0 : Hid (([] : List (Nat × Nat)) = (L.take 0).map slotC) := Lib.hid rfl
    clear hb2 hb5 hW3 C0
    go_wp2
    try rw [← HB5.out]
    try rw [← HW3.out]
    go_loopg [20] n (fun gh y wr => ∃ (k : Nat) (l : List (Nat × Nat)) (tv : Value), k + gh = n ∧ y = .int .i64 k ∧ l.length = k ∧ Hid (HB w b5 (b5 + 1) id tv l wr) ∧ Hid (l = (L.take k).map slotC))
    case atStart => exact ⟨0, [], _, by omega, rfl, rfl, HB0, L0⟩
    case round =>
      clear HB0 L0
      obtain ⟨k, l, tv, hk, rfl, hlk, HH, HL⟩ := hrel
      obtain ⟨pv, cv, htv, -, -⟩ := own_slice HH.out.own
      subst htv
      by_cases hlt : k < n
      · have hki : (k : Int) < n := by omega
        have bk : decide ((k : Int) < (n : Int)) = true := by simpa using hki
        have hki0 : (0 : Int) ≤ k := by omega
        rcases HC.out with h0 | ⟨b, off, rfl, hcell⟩
        · have := HN.out; rw [h0] at this; simp at this; omega
        have hkl : k < L.length := by have := HN.out; omega
        have e0 := Kept.cell HH.out.kept (hcell k hkl)
        have hmem : L[k] ∈ L := List.getElem_mem hkl
        have htk : L.take (k + 1) = L.take k ++ [L[k]] := List.take_succ_eq_append_getElem hkl
        obtain ⟨X, hX⟩ : ∃ X, X = L[k] := ⟨_, rfl⟩
        rw [← hX] at e0 hmem htk
        have hxs := HZL.out X hmem
        have CS := fun W (k : Kept w W) => slotOf_any X hxs W (HT.out.later k)
        obtain ⟨x, hsz⟩ : ∃ x, x = X.size := ⟨_, rfl⟩
        obtain ⟨q, hsm⟩ : ∃ q, q = moreN 0 X.data.toList := ⟨_, rfl⟩
        rw [← hsm, ← hsz] at CS
        obtain ⟨k1, hk1⟩ : ∃ k1, k1 = k + 1 := ⟨_, rfl⟩
        have v1 : IntKind.i64.wrap ((k : Int) + 1) = (k1 : Int) := by rw [show (k : Int) + 1 = (k1 : Int) by omega]; exact IntWalk.i64_in _ (by have := HN2.out; omega)
        have HK1 := Lib.hid hk1
        have HL1 : Hid (l ++ [(x, q)] = (L.take k1).map slotC) := Lib.hid (by rw [hk1, htk, List.map_append, ← HL.out, hsz, hsm]; rfl)
        have HKLT : Hid (k < 256 ∧ l.length = k ∧ k + gk = n ∧ k < n) := Lib.hid ⟨by have := HN2.out; omega, hlk, hk, hlt⟩
        have HKL1 : Hid (l.length + 1 = k1) := Lib.hid (by omega)
        have c1' := HH.out.c1
        have HD := Lib.hid (HH.out.later (show Kept wr wr.drew from (Below.refl _ wr).drew))
        clear hcell hkl hmem htk hX hxs hsz hsm hk1 hlk hk hlt HH HL
        go_wp2_with fail
        refine wp_region_held_drew (S := fun _ => True) (by kernel_rfl) trivial (fun hHeld => ?_)
        refine wpAnyH_take (i := 0) (v := ?_) rfl (by kernel_rfl) (by kernel_rfl) (by kernel_rfl) (fun _ _ _ h => h) (Or.inl ⟨by first | kernel_rfl | rfl, ?_⟩) (by assumption) ?_
        case refine_2 => intro w hSw; go_simp; try with_reducible rfl
        refine wpAnyH_take (i := 2) (v := ?_) rfl (by kernel_rfl) (by kernel_rfl) (by kernel_rfl) (fun _ _ _ h => h) (Or.inl ⟨by first | kernel_rfl | rfl, ?_⟩) (by assumption) ?_
        case refine_2 => intro w hSw; go_simp; try with_reducible rfl
        refine wpAnyH_ready (rs := [1, 3]) (by kernel_rfl) (by simp) (AllReadyH.cons rfl (fun K hK => ?_) (AllReadyH.cons rfl (fun K hK => ?_) AllReadyH.nil))
        · go_simp
          refine hK.out _ _ trivial (fun _ => ?_)
          clear hK K
          refine wpAnyH_ready (rs := [3]) (by kernel_rfl) (by simp) (AllReadyH.cons rfl (fun K hK => ?_) AllReadyH.nil)
          go_simp
          refine (CS _ HD.out.kept).mono ?_
          rintro e w3 ⟨rfl, hb3⟩
          have HH3 := Lib.hid (HD.out.later hb3)
          have c3 := HH3.out.c1
          clear hb3
          refine hK.out _ _ trivial (fun _ => ?_)
          clear hK K
          refine wpAnyH_ready (rs := [4]) (by kernel_rfl) (by simp) (AllReadyH.cons rfl (fun K hK => ?_) AllReadyH.nil)
          go_simp
          have HH4 := Lib.hid (HH3.out.later (box_below w3 (.cells #[.int .i64 (x : Nat), .int .u32 (q : Nat)] 68)))
          have c4 := HH4.out.c1
          refine hK.out _ _ trivial (fun _ => ?_)
          clear hK K
          refine wpAnyH_ready (rs := [5]) (by kernel_rfl) (by simp) (AllReadyH.cons rfl (fun K hK => ?_) AllReadyH.nil)
          rw [if_pos (by rfl)]
          refine wp_append_flat _ _ 31 rfl (b5 + 1) 68 ir (.agg #[.int .i64 0, .int .u32 0]) 2 16 Tryd.underlying31 HIR.out HZ0.out HZ1.out HZ2.out rfl (by decide) _ l.length (slV l) ?q0 HH4.out.own _ 1 (slV [(x, q)]) rfl (flat_slX w3 x q) ?q1 ?q2 ?q3 ?_
          case q0 => rfl
          case q1 => have := HKLT.out; unfold maxLen; omega
          case q2 => have := HKLT.out; omega
          case q3 => exact HH4.out.size
          intro v' w6 hown6 hg6 _
          obtain ⟨hr6, hh6⟩ := HH3.out.app hown6 hg6
          have x5 : w6.cell? ⟨b5, 1, none⟩ = some (.slice pv l.length cv) := by rw [cell_of_row _ _ _ _ _ _ hr6]; rfl
          have f5 := frozen_of_row w6 b5 1 _ _ hr6
          have HH6 := Lib.hid hh6
          obtain ⟨pv', cv', htv', -, -⟩ := own_slice hown6
          rw [HKL1.out] at htv'
          subst htv'
          clear hown6 hg6 hr6 hh6
          refine hK.out _ _ trivial (fun _ => ?_)
          clear hK K
          refine wpAnyH_take (i := 6) (v := ?_) rfl (by kernel_rfl) (by kernel_rfl) (by kernel_rfl) (fun _ _ _ h => h) (Or.inl ⟨by first | kernel_rfl | rfl, ?_⟩) (by assumption) ?_
          case refine_2 => intro w hSw; go_simp; try with_reducible rfl
          refine wpAnyH_ready (rs := [7]) (by kernel_rfl) (by simp) (AllReadyH.cons rfl (fun K hK => ?_) AllReadyH.nil)
          go_simp
          refine hK.out _ _ trivial (fun _ => ?_)
          clear hK K
          refine wpAnyH_done (by kernel_rfl) ?_ _
          go_wp2
          go_roundg (n - k1)
          · exact ⟨k1, l ++ [(x, q)], _, by have := HK1.out; have := HKLT.out; omega, by first | rfl | (have := HK1.out; simp; omega), by have := HK1.out; have := HKLT.out; simp; omega, HH6, HL1⟩
          · have := HK1.out; have := HKLT.out; omega
        · go_simp
          refine (CS _ HD.out.kept).mono ?_
          rintro e w3 ⟨rfl, hb3⟩
          have HH3 := Lib.hid (HD.out.later hb3)
          have c3 := HH3.out.c1
          clear hb3
          refine hK.out _ _ trivial (fun _ => ?_)
          clear hK K
          refine wpAnyH_ready (rs := [1, 4]) (by kernel_rfl) (by simp) (AllReadyH.cons rfl (fun K hK => ?_) (AllReadyH.cons rfl (fun K hK => ?_) AllReadyH.nil))
          · go_simp
            refine hK.out _ _ trivial (fun _ => ?_)
            clear hK K
            refine wpAnyH_ready (rs := [4]) (by kernel_rfl) (by simp) (AllReadyH.cons rfl (fun K hK => ?_) AllReadyH.nil)
            go_simp
            have HH4 := Lib.hid (HH3.out.later (box_below w3 (.cells #[.int .i64 (x : Nat), .int .u32 (q : Nat)] 68)))
            have c4 := HH4.out.c1
            refine hK.out _ _ trivial (fun _ => ?_)
            clear hK K
            refine wpAnyH_ready (rs := [5]) (by kernel_rfl) (by simp) (AllReadyH.cons rfl (fun K hK => ?_) AllReadyH.nil)
            rw [if_pos (by rfl)]
            refine wp_append_flat _ _ 31 rfl (b5 + 1) 68 ir (.agg #[.int .i64 0, .int .u32 0]) 2 16 Tryd.underlying31 HIR.out HZ0.out HZ1.out HZ2.out rfl (by decide) _ l.length (slV l) ?q0 HH4.out.own _ 1 (slV [(x, q)]) rfl (flat_slX w3 x q) ?q1 ?q2 ?q3 ?_
            case q0 => rfl
            case q1 => have := HKLT.out; unfold maxLen; omega
            case q2 => have := HKLT.out; omega
            case q3 => exact HH4.out.size
            intro v' w6 hown6 hg6 _
            obtain ⟨hr6, hh6⟩ := HH3.out.app hown6 hg6
            have x5 : w6.cell? ⟨b5, 1, none⟩ = some (.slice pv l.length cv) := by rw [cell_of_row _ _ _ _ _ _ hr6]; rfl
            have f5 := frozen_of_row w6 b5 1 _ _ hr6
            have HH6 := Lib.hid hh6
            obtain ⟨pv', cv', htv', -, -⟩ := own_slice hown6
            rw [HKL1.out] at htv'
            subst htv'
            clear hown6 hg6 hr6 hh6
            refine hK.out _ _ trivial (fun _ => ?_)
            clear hK K
            refine wpAnyH_take (i := 6) (v := ?_) rfl (by kernel_rfl) (by kernel_rfl) (by kernel_rfl) (fun _ _ _ h => h) (Or.inl ⟨by first | kernel_rfl | rfl, ?_⟩) (by assumption) ?_
            case refine_2 => intro w hSw; go_simp; try with_reducible rfl
            refine wpAnyH_ready (rs := [7]) (by kernel_rfl) (by simp) (AllReadyH.cons rfl (fun K hK => ?_) AllReadyH.nil)
            go_simp
            refine hK.out _ _ trivial (fun _ => ?_)
            clear hK K
            refine wpAnyH_done (by kernel_rfl) ?_ _
            go_wp2
            go_roundg (n - k1)
            · exact ⟨k1, l ++ [(x, q)], _, by have := HK1.out; have := HKLT.out; omega, by first | rfl | (have := HK1.out; simp; omega), by have := HK1.out; have := HKLT.out; simp; omega, HH6, HL1⟩
            · have := HK1.out; have := HKLT.out; omega
          · go_simp
            have HH4 := Lib.hid (HH3.out.later (box_below w3 (.cells #[.int .i64 (x : Nat), .int .u32 (q : Nat)] 68)))
            have c4 := HH4.out.c1
            refine hK.out _ _ trivial (fun _ => ?_)
            clear hK K
            refine wpAnyH_ready (rs := [1]) (by kernel_rfl) (by simp) (AllReadyH.cons rfl (fun K hK => ?_) AllReadyH.nil)
            go_simp
            refine hK.out _ _ trivial (fun _ => ?_)
            clear hK K
            refine wpAnyH_ready (rs := [5]) (by kernel_rfl) (by simp) (AllReadyH.cons rfl (fun K hK => ?_) AllReadyH.nil)
            rw [if_pos (by rfl)]
            refine wp_append_flat _ _ 31 rfl (b5 + 1) 68 ir (.agg #[.int .i64 0, .int .u32 0]) 2 16 Tryd.underlying31 HIR.out HZ0.out HZ1.out HZ2.out rfl (by decide) _ l.length (slV l) ?q0 HH4.out.own _ 1 (slV [(x, q)]) rfl (flat_slX w3 x q) ?q1 ?q2 ?q3 ?_
            case q0 => rfl
            case q1 => have := HKLT.out; unfold maxLen; omega
            case q2 => have := HKLT.out; omega
            case q3 => exact HH4.out.size
            intro v' w6 hown6 hg6 _
            obtain ⟨hr6, hh6⟩ := HH3.out.app hown6 hg6
            have x5 : w6.cell? ⟨b5, 1, none⟩ = some (.slice pv l.length cv) := by rw [cell_of_row _ _ _ _ _ _ hr6]; rfl
            have f5 := frozen_of_row w6 b5 1 _ _ hr6
            have HH6 := Lib.hid hh6
            obtain ⟨pv', cv', htv', -, -⟩ := own_slice hown6
            rw [HKL1.out] at htv'
            subst htv'
            clear hown6 hg6 hr6 hh6
            refine hK.out _ _ trivial (fun _ => ?_)
            clear hK K
            refine wpAnyH_take (i := 6) (v := ?_) rfl (by kernel_rfl) (by kernel_rfl) (by kernel_rfl) (fun _ _ _ h => h) (Or.inl ⟨by first | kernel_rfl | rfl, ?_⟩) (by assumption) ?_
            case refine_2 => intro w hSw; go_simp; try with_reducible rfl
            refine wpAnyH_ready (rs := [7]) (by kernel_rfl) (by simp) (AllReadyH.cons rfl (fun K hK => ?_) AllReadyH.nil)
            go_simp
            refine hK.out _ _ trivial (fun _ => ?_)
            clear hK K
            refine wpAnyH_done (by kernel_rfl) ?_ _
            go_wp2
            go_roundg (n - k1)
            · exact ⟨k1, l ++ [(x, q)], _, by have := HK1.out; have := HKLT.out; omega, by first | rfl | (have := HK1.out; simp; omega), by have := HK1.out; have := HKLT.out; simp; omega, HH6, HL1⟩
            · have := HK1.out; have := HKLT.out; omega
      · have hki : ¬ (k : Int) < n := by omega
        have bk : decide ((k : Int) < (n : Int)) = false := by simpa using hki
        have hHD : HeadIs (headC id L) (.agg #[.int .u32 (id : Nat), .slice pv l.length cv]) wr := by
          rw [HHC.out]
          have e : l = L.map slotC := by rw [HL.out, List.take_of_length_le (by have := HN.out; omega)]
          rw [← e]
          exact ⟨_, rfl, SlotsAt.own HH.out.own⟩
        have CF1 := CF _ wr hHD (HT.out.later HH.out.kept)
        have y0 := HH.out.c0
        have y1 := HH.out.c1
        have HKW : Hid (Kept w wr) := Lib.hid HH.out.kept
        clear hHD CF HL HH hlk hk hlt
        go_wp2_with fail
        refine CF1.mono ?_
        rintro e w4 ⟨rfl, hb4⟩
        have HK4 := Lib.hid ((show Kept w wr from HKW.out).then hb4)
        have CJ1 := CJ _ w4 ⟨HV.out.1.later HK4.out, HV.out.2⟩
        clear hb4 CF1 y0 y1 CJ
        go_wp2_with fail
        refine CJ1.mono ?_
        rintro e w5 ⟨rfl, hb5⟩
        have HK5 := Lib.hid ((show Kept w w4 from HK4.out).then hb5)
        clear hb5 CJ1
        go_wp2
        first | go_ret | go_ret2
        exact ⟨by first | rfl | (rw [c1]), HK5.out⟩
  · rw [if_neg hm] at C0
    unfold buildV
    rw [if_neg hm, if_neg hm]
    clear hir hz0 hz1 hz2 hT h hc hs hn hm hid hL
    go_enter Tryd.func10, Tryd.ntmps10
    go_wp2_with fail
    refine C0.mono ?_
    rintro e w2 ⟨rfl, hb2⟩
    have HK2 := Lib.hid (show Kept w w2 from hb2)
    clear hb2 C0
    go_wp2
    first | go_ret | go_ret2
    exact ⟨rfl, HK2.out⟩

end Go.Proofs.YtdmbebafpamgfaaDoor
