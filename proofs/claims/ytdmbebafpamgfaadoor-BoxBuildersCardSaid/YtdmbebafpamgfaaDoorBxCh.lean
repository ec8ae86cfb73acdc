/- The landed boxes' Chunks. -/
import Derived.Test.YtdmbebafpamgfaaDoorBxCg
namespace Go.Proofs.YtdmbebafpamgfaaDoor
open Go.RowKit

theorem strAtC_nil (w : World) : StrAtC [] (.slice none 0 0) w := ⟨⟨none, 0, rfl, Or.inl rfl⟩, fun p n c e => by simp only [Value.slice.injEq] at e; omega⟩

set_option maxRecDepth 100000 in
set_option maxHeartbeats 16000000 in
theorem chunksOkB : BChunksOk := by
  intro t w ht hT
  obtain ⟨ir, hir, hx⟩ := Option.map_eq_some_iff.1 infoStr
  simp only [Prod.mk.injEq] at hx
  obtain ⟨hz0, hz1, hz2⟩ := hx
  have HIR := Lib.hid hir
  have HZ0 := Lib.hid hz0
  have HZ1 := Lib.hid hz1
  have HZ2 := Lib.hid hz2
  have CH := headOkB t w ht hT
  have HT := Lib.hid hT
  obtain ⟨S, rfl⟩ : ∃ S, t = str S := ⟨t.data.toList, (str_data t).symm⟩
  rw [str_list] at CH ⊢
  rw [str_size] at ht
  have hSz : (str S).size = S.length := str_size S
  obtain ⟨C, hC⟩ : ∃ C, C = chunksG S := ⟨_, rfl⟩
  unfold headE at CH
  unfold chunksE
  rw [← hC]
  obtain ⟨G, hG⟩ : ∃ G, G = headG S := ⟨_, rfl⟩
  rw [← hG] at CH
  have HG := Lib.hid hG
  have HC := Lib.hid hC
  clear hir hz0 hz1 hz2 hC hG hT
  cases G with
  | none =>
    obtain rfl : C = none := by rw [HC.out]; exact chunksG_none HG.out.symm
    simp only [Option.isSome_none, Bool.false_eq_true, if_false] at CH ⊢
    clear ht hSz
    go_enter Tryd.func15, Tryd.ntmps15
    go_wp2_with fail
    refine CH.mono ?_
    rintro e w2 ⟨⟨v, rfl, hv⟩, hb2⟩
    obtain ⟨sv, hsv, hsl⟩ := hv
    subst hsv
    obtain ⟨p, c, hp, -, -⟩ := hsl.out
    subst hp
    have HB2 := Lib.hid (fun o => (show Kept w w2 from hb2).then (box_below w2 o))
    clear hb2 hsl CH
    go_wp2
    first | go_ret | go_ret2
    exact ⟨⟨_, rfl, strAtC_nil _⟩, HB2.out _⟩
  | some h =>
    have HHG : Hid (headG S = some h) := Lib.hid HG.out.symm
    have hgood := (headG_ok HHG.out).1
    have hlen := hgood.len
    have HSZ := Lib.hid (headG_size HHG.out)
    have HCO := Lib.hid (chunksG_of HHG.out)
    rw [← HC.out] at HCO
    simp only [Option.isSome_some, if_true] at CH
    have HNX : Hid (∀ k, k < h.slots.length → atH h (k + 1) = atH h k + lenK h k ∧ atH h k + lenK h k ≤ S.length ∧ lenK h k ≤ 4096) := Lib.hid (fun k hk => ⟨atH_next hk, by rw [← HSZ.out]; exact atH_le hk, lenK_le hgood hk⟩)
    have HLK : Hid (∀ k (hk : k < h.slots.length), lenK h k = (h.slots[k]).1 ∧ crcK h k = (h.slots[k]).2) := Lib.hid (fun k hk => ⟨lenK_get hk, crcK_get hk⟩)
    obtain ⟨l0, hl0⟩ : ∃ a, a = lenH h := ⟨_, rfl⟩
    have hl0s : l0 ≤ S.length := by rw [hl0, ← HSZ.out]; omega
    have HA0 : Hid (S.drop l0 = S.drop (atH h 0)) := Lib.hid (by unfold atH; rw [hl0]; simp)
    obtain ⟨n, hn⟩ : ∃ n, n = h.slots.length := ⟨_, rfl⟩
    have HN := Lib.hid hn
    have CL := fun W => headLen_any n l0 (by rw [hl0, hn]; rfl) (by omega) W
    rw [← hn] at hlen
    have hdrop := str_drop S l0
    have hl0i : (l0 : Int) ≤ S.length := by omega
    have hl00 : (0 : Int) ≤ l0 := by omega
    clear HC HG hl0 hgood
    go_enter Tryd.func15, Tryd.ntmps15
    go_wp2_with fail
    refine CH.mono ?_
    rintro e w2 ⟨⟨v, rfl, hv⟩, hb2⟩
    obtain ⟨sv, hsv, hsl⟩ := (show HeadIs h v w2 from hv)
    subst hsv
    obtain ⟨p, c, hp, -, hcells⟩ := hsl.out
    subst hp
    have HCL := Lib.hid hcells
    obtain ⟨id, hid⟩ : ∃ id, id = h.id := ⟨_, rfl⟩
    rw [← hn, ← hid]
    have hr2 := heap_alloc_last w2 (.cells #[.int .u32 (id : Nat), .slice p n c] 33)
    obtain ⟨W3, hW3⟩ : ∃ W3, W3 = w2.alloc (.cells #[.int .u32 (id : Nat), .slice p n c] 33) := ⟨_, rfl⟩
    have HW3 := Lib.hid hW3
    rw [← hW3] at hr2
    have hk3 : Kept w2 W3 := by rw [hW3]; exact box_below _ _
    have HK23 := Lib.hid hk3
    have HK3 : Hid (Kept w W3) := Lib.hid ((show Kept w w2 from hb2).then hk3)
    obtain ⟨b6, hb6⟩ : ∃ b, b = w2.heap.size := ⟨_, rfl⟩
    have HB6 := Lib.hid hb6
    have HROW := Lib.hid hr2
    rw [← hb6] at HROW
    have c1 : W3.cell? ⟨b6, 1, none⟩ = some (.slice p n c) := by rw [cell_of_row _ _ _ _ _ _ HROW.out]; rfl
    rw [hW3, hb6] at c1
    clear hv hsl hcells hb2 hr2 hk3 hW3 hid CH hn hb6
    go_wp2_with fail
    try rw [← HB6.out]
    try rw [← HW3.out]
    refine (CL W3).mono ?_
    rintro e w4 ⟨rfl, hb4⟩
    have HK34 := Lib.hid (show Kept W3 w4 from hb4)
    have c1 : w4.cell? ⟨b6, 1, none⟩ = some (.slice p n c) := by rw [cell_of_row _ _ _ _ _ _ (Kept.row hb4 HROW.out)]; rfl
    obtain ⟨B, hB⟩ : ∃ B, B = w4.heap.size := ⟨_, rfl⟩
    have HBE := Lib.hid hB
    obtain ⟨X0, hX0⟩ : ∃ X, X = S.drop l0 := ⟨_, rfl⟩
    have HX0 : Hid (X0 = S.drop (atH h 0)) := Lib.hid (by rw [hX0, HA0.out])
    rw [← hX0] at hdrop
    have I0 : Hid (([] : List (List UInt8)) = (List.range 0).map (partH S h) ∧ ∀ j, j < 0 → rightK S h j) := Lib.hid ⟨rfl, fun j hj => absurd hj (Nat.not_lt_zero _)⟩
    have HNL := Lib.hid hlen.2
    have HN1 := Lib.hid hlen.1
    clear hb4 CL hB hX0 hlen hl0s HA0
    go_wp2
    clear c1 hdrop hl0i hl00 hSz
    go_loopg [6, 7, 28] n (fun gh v r y wr => ∃ (k : Nat) (acc : List (List UInt8)) (X : List UInt8), k + gh = n ∧ r = .string (str X) ∧ y = .int .i64 k ∧ acc.length = k ∧ Hid (wr.ownsRow B 9 1 v acc.length (tV acc)) ∧ Hid (Kept w4 wr) ∧ Hid (X = S.drop (atH h k)) ∧
      Hid (acc = (List.range k).map (partH S h) ∧ ∀ j, j < k → rightK S h j))
    case atStart => exact ⟨0, [], X0, by omega, rfl, rfl, rfl, Lib.hid (World.ownsRow_nil _ _ _ _), Lib.hid (Kept.refl w4), HX0, I0⟩
    case round =>
      clear I0 HX0
      obtain ⟨k, acc, X, hk, rfl, rfl, hal, HO, HKW, HX, HI⟩ := hrel
      obtain ⟨pv, cv, hv, -, -⟩ := own_slice HO.out
      subst hv
      by_cases hlt : k < n
      · have hki : (k : Int) < n := by omega
        have bk : decide ((k : Int) < (n : Int)) = true := by simpa using hki
        have hki0 : (0 : Int) ≤ k := by omega
        have hkl : k < h.slots.length := by have := HN.out; omega
        rcases HCL.out with h0 | ⟨b, off, rfl, hcell⟩
        · have := HN.out; omega
        have e1 := Kept.cell HKW.out (Kept.cell HK34.out (Kept.cell HK23.out (hcell k hkl).1))
        have e2 := Kept.cell HKW.out (Kept.cell HK34.out (Kept.cell HK23.out (hcell k hkl).2))
        have hlk := HLK.out k hkl
        have hnx := HNX.out k hkl
        obtain ⟨Sl, hSl⟩ : ∃ Sl, Sl = h.slots[k] := ⟨_, rfl⟩
        rw [← hSl] at e1 e2 hlk
        obtain ⟨ln, cr⟩ := Sl
        simp only at e1 e2 hlk
        have hXl : X.length = S.length - atH h k := by rw [HX.out, List.length_drop]
        have hlnX : ln ≤ X.length := by rw [hXl]; omega
        have hln4 : ln ≤ 4096 := by omega
        have xz : (str X).size = X.length := str_size X
        obtain ⟨P, hP⟩ : ∃ P, P = X.take ln := ⟨_, rfl⟩
        have hPP : P = partH S h k := by rw [hP, HX.out]; unfold partH; rw [hlk.1]
        have xt := str_take X ln
        rw [← hP] at xt
        obtain ⟨Y, hY⟩ : ∃ Y, Y = X.drop ln := ⟨_, rfl⟩
        have xd := str_drop X ln
        rw [← hY] at xd
        have pz : (str P).size = ln := by rw [str_size, hP, List.length_take]; omega
        have CS := fun W (h : TabAt W) => slotOf_any (str P) (by omega) W h
        rw [str_list, pz] at CS
        obtain ⟨sm, hsm⟩ : ∃ a, a = moreN 0 P := ⟨_, rfl⟩
        rw [← hsm] at CS
        have hri : rightK S h k ↔ sm = cr := by unfold rightK; rw [hsm, hPP, hlk.2]
        obtain ⟨k1, hk1⟩ : ∃ k1, k1 = k + 1 := ⟨_, rfl⟩
        have v1 : IntKind.i64.wrap ((k : Int) + 1) = (k1 : Int) := by rw [show (k : Int) + 1 = (k1 : Int) by omega]; exact IntWalk.i64_in _ (by have := HNL.out; omega)
        have HY1 : Hid (Y = S.drop (atH h k1)) := Lib.hid (by rw [hY, HX.out, List.drop_drop, hk1, hnx.1, hlk.1])
        have HI1 : Hid (sm = cr → acc ++ [P] = (List.range k1).map (partH S h) ∧ ∀ j, j < k1 → rightK S h j) := Lib.hid (fun e => by
          refine ⟨?_, fun j hj => ?_⟩
          · rw [hk1, List.range_succ, List.map_append, ← HI.out.1, hPP]
            rfl
          · by_cases hjk : j = k
            · rw [hjk]; exact hri.2 e
            · exact HI.out.2 j (by omega))
        have HNO : Hid (sm ≠ cr → C = none) := Lib.hid (fun e => by rw [HCO.out, if_neg (fun y => e (hri.1 (y k hkl)))])
        have HKK : Hid (k1 = k + 1 ∧ k + gk = n ∧ k < n ∧ acc.length = k ∧ k < 256) := Lib.hid ⟨hk1, hk, hlt, hal, by have := HNL.out; omega⟩
        have HA1 : Hid ((acc ++ [P]).length = k1) := Lib.hid (by rw [List.length_append, hal, hk1]; rfl)
        obtain ⟨W5, hW5⟩ : ∃ W, W = wr.alloc (.cells #[.int .i64 (ln : Nat), .int .u32 (cr : Nat)] 68) := ⟨_, rfl⟩
        have HW5 := Lib.hid hW5
        have hrow5 := heap_alloc_last wr (.cells #[.int .i64 (ln : Nat), .int .u32 (cr : Nat)] 68)
        rw [← hW5] at hrow5
        have hk5 : Kept wr W5 := by rw [hW5]; exact box_below _ _
        obtain ⟨b7, hb7⟩ : ∃ b, b = wr.heap.size := ⟨_, rfl⟩
        have HB7 := Lib.hid hb7
        rw [← hb7] at hrow5
        have q2 : W5.cell? ⟨b7, 0, none⟩ = some (.int .i64 (ln : Nat)) := by rw [cell_of_row _ _ _ _ _ _ hrow5]; rfl
        have q3 : W5.cell? ⟨b7, 1, none⟩ = some (.int .u32 (cr : Nat)) := by rw [cell_of_row _ _ _ _ _ _ hrow5]; rfl
        have q2' := q2
        have q3' := q3
        rw [hW5, hb7] at q2' q3'
        have HR5 := Lib.hid hrow5
        have HK5 : Hid (Kept w4 W5) := Lib.hid ((show Kept w4 wr from HKW.out).then hk5)
        have HO5 : Hid (W5.ownsRow B 9 1 (.slice pv acc.length cv) acc.length (tV acc)) := Lib.hid (own_stay HO.out (fun m hm => hk5.block m (HO.out.lt m hm).2))
        have HTT : Hid (TabAt W5) := Lib.hid (HT.out.later (((show Kept w W3 from HK3.out).then HK34.out).then HK5.out))
        have hl0 : (0 : Int) ≤ ln := by omega
        have hlX : (ln : Int) ≤ X.length := by omega
        clear hcell hSl hlk hnx hXl hlnX hln4 hP hPP hY hsm hri hk1 hk hal hkl hW5 hrow5 hk5 hb7 HKW HO HX HI hlt
        by_cases hsc : sm = cr
        · subst hsc
          have HI2 := Lib.hid (HI1.out rfl)
          clear HI1 HNO
          go_wp2_with fail
          try rw [← HB7.out]
          try rw [← HW5.out]
          refine wp_region_kept (by kernel_rfl) (by kernel_rfl) ?_
          refine wpQuiet_pure (v := ?_) (by kernel_rfl) ?_ (fun K hK => ?_)
          case refine_2 => intro W _; go_simp; try with_reducible rfl
          go_simp
          refine hK _ ?_; clear hK K
          refine wpQuiet_call (by kernel_rfl) _ _ _ (fun W => by go_simp) (fun W h => Calls.kept_of h (CS W (HTT.out.later h))) (fun K hK => ?_)
          go_simp
          refine hK _ ?_; clear hK K
          refine wpQuiet_pure (v := ?_) (by kernel_rfl) ?_ (fun K hK => ?_)
          case refine_2 => intro W hW; have e0 := hW.cell q2; have e1 := hW.cell q3; go_simp; try with_reducible rfl
          go_simp
          refine hK _ ?_; clear hK K
          refine wpQuiet_pure (by kernel_rfl) (.bool false) (fun W _ => by go_simp; try exact neq_slX _ _ W) (fun K hK => ?_)
          go_simp
          refine hK _ ?_; clear hK K
          refine wpQuiet_nil ?_
          intro w6 hk6
          have HK6 : Hid (Kept w4 w6) := Lib.hid ((show Kept w4 W5 from HK5.out).then hk6)
          have HO6 : Hid (w6.ownsRow B 9 1 (.slice pv acc.length cv) acc.length (tV acc)) := Lib.hid (own_stay HO5.out (fun m hm => hk6.block m (HO5.out.lt m hm).2))
          have HFL := Lib.hid (flat_strX w6 (str P))
          have q4 := Kept.cell hk6 q2
          have HR6 := Lib.hid (Kept.row hk6 HR5.out)
          have HLT7 : Hid (b7 < w6.heap.size) := Lib.hid (Array.getElem?_eq_some_iff.1 HR6.out).1
          have HNB : Hid ((Value.slice pv acc.length cv).ownBlock ≠ some b7) := Lib.hid (fun e => by
            obtain ⟨cur, hcur⟩ := own_typ HO6.out b7 e
            rw [HR6.out] at hcur
            injection hcur with hcur
            injection hcur with _ e2 _
            exact absurd e2 (by decide))
          clear hk6 CS q2 q3 q2' q3' e1 e2 HO5 HK5 HR5
          go_wp2_with (at_builtin; refine wpList_append_flat rfl _ _ 23 rfl B 9 ir (.string ⟨#[]⟩) 1 16 Tryd.underlying23 HIR.out HZ0.out HZ1.out HZ2.out rfl (by decide) _ _ _ rfl (HO6.out.alloc _) _ 1 [Value.string (str P)] rfl HFL.out ?wa1 ?wa2 ?wa3 ?_)
          case wa1 => have := HKK.out; unfold maxLen; omega
          case wa2 => have := HKK.out; omega
          case wa3 => have := HK6.out.size; have := HBE.out; simp; omega
          intro v' w8 hown8 hg8 _
          have H6 : Hid (w8.ownsRow B 9 1 v' (acc ++ [P]).length (tV (acc ++ [P]))) := Lib.hid (by
            have h := hown8
            rw [tV_snoc] at h
            rw [List.length_append]
            exact h)
          have H7 : Hid (Kept w4 w8) := Lib.hid (append_keptX (show Kept w4 w6 from HK6.out) (by rw [HBE.out]; exact Nat.le_refl _) HO6.out hg8)
          have r8 : w8.heap[b7]? = some (.cells #[.int .i64 (ln : Nat), .int .u32 (sm : Nat)] 68 (0, 0)) := by
            rw [hg8.block b7 (by have := HLT7.out; simp; omega) (fun e => HNB.out e.symm), Below.heap_alloc _ _ _ HLT7.out]
            exact HR6.out
          have q5 : w8.cell? ⟨b7, 0, none⟩ = some (.int .i64 (ln : Nat)) := by rw [cell_of_row _ _ _ _ _ _ r8]; rfl
          clear hown8 hg8 HO6 HFL HK6 q4 r8
          go_wp2
          go_roundg (n - k1)
          · exact ⟨k1, acc ++ [P], Y, by have := HKK.out; omega, by first | rfl | skip, by first | rfl | (have := HKK.out; congr 1; omega), HA1.out, H6, H7, HY1, HI2⟩
          · have := HKK.out; omega
        · have hno := HNO.out hsc
          subst hno
          have HNE := Lib.hid hsc
          clear HI1 HNO hsc
          go_wp2_with fail
          try rw [← HB7.out]
          try rw [← HW5.out]
          refine wp_region_kept (by kernel_rfl) (by kernel_rfl) ?_
          refine wpQuiet_pure (v := ?_) (by kernel_rfl) ?_ (fun K hK => ?_)
          case refine_2 => intro W _; go_simp; try with_reducible rfl
          go_simp
          refine hK _ ?_; clear hK K
          refine wpQuiet_call (by kernel_rfl) _ _ _ (fun W => by go_simp) (fun W h => Calls.kept_of h (CS W (HTT.out.later h))) (fun K hK => ?_)
          go_simp
          refine hK _ ?_; clear hK K
          refine wpQuiet_pure (v := ?_) (by kernel_rfl) ?_ (fun K hK => ?_)
          case refine_2 => intro W hW; have e0 := hW.cell q2; have e1 := hW.cell q3; go_simp; try with_reducible rfl
          go_simp
          refine hK _ ?_; clear hK K
          refine wpQuiet_pure (by kernel_rfl) (.bool true) (fun W _ => by go_simp; try exact fun e => HNE.out (by omega)) (fun K hK => ?_)
          go_simp
          refine hK _ ?_; clear hK K
          refine wpQuiet_nil ?_
          intro w6 hk6
          have HK6 : Hid (Kept w w6) := Lib.hid ((((show Kept w W3 from HK3.out).then HK34.out).then HK5.out).then hk6)
          clear hk6 CS q2 q3 q2' q3' e1 e2 HO5 HK5 HR5
          go_wp2
          first | go_ret | go_ret2
          exact ⟨⟨_, rfl, strAtC_nil _⟩, HK6.out⟩
      · have hki : ¬ (k : Int) < n := by omega
        have bk : decide ((k : Int) < (n : Int)) = false := by simpa using hki
        have HKX : Hid (Kept w wr) := Lib.hid (((show Kept w W3 from HK3.out).then HK34.out).then HKW.out)
        have hnk : h.slots.length = k := by have := HN.out; omega
        obtain rfl : C = some acc := by rw [HCO.out, hnk, if_pos HI.out.2, HI.out.1]
        have HSA : Hid (StrAtC (acc.map str) (.slice pv acc.length cv) wr) := Lib.hid ⟨strAt_own HO.out, own_capX HO.out⟩
        clear HI hal HO hnk
        go_wp2
        first | go_ret | go_ret2
        exact ⟨⟨_, rfl, HSA.out⟩, HKX.out⟩

end Go.Proofs.YtdmbebafpamgfaaDoor
