/- The landed boxes' Chunk. -/
import Derived.Test.YtdmbebafpamgfaaDoorBxCf
namespace Go.Proofs.YtdmbebafpamgfaaDoor
open Go.RowKit

theorem neq_slN (a m n : Nat) (hne : m ≠ n) (w : World) : (binOp .neq 68 (.agg #[.int .i64 (a : Nat), .int .u32 (m : Nat)]) (.agg #[.int .i64 (a : Nat), .int .u32 (n : Nat)])).run Tryd.prog w = .ok (.bool true) w := by
  have h := run_equalIn_struct (P := Tryd.prog) w 9999 68 #[.int .i64 (a : Nat), .int .u32 (m : Nat)] #[.int .i64 (a : Nat), .int .u32 (n : Nat)] (by kernel_rfl) (by kernel_rfl)
  have b : ((m : Int) == (n : Int)) = false := beq_eq_false_iff_ne.2 (by omega)
  have hq : (Op.equalIn 10000 68 (.agg #[.int .i64 (a : Nat), .int .u32 (m : Nat)]) (.agg #[.int .i64 (a : Nat), .int .u32 (n : Nat)])).run Tryd.prog w = .ok false w := by
    rw [h]
    go_simp
  rw [run_neq_struct, hq]
  rfl

set_option maxRecDepth 100000 in
set_option maxHeartbeats 16000000 in
theorem chunkOkB : BChunkOk := by
  intro t k w ht hkw hT
  have CH := headOkB t w ht hT
  have HT := Lib.hid hT
  obtain ⟨S, hS⟩ : ∃ S, S = t.data.toList := ⟨_, rfl⟩
  have hSl : S.length = t.size := by rw [hS, data_len]
  have HEX : Hid (∀ i j, t.extract i (i + j) = str ((S.drop i).take j)) := Lib.hid (fun i j => by
    rw [hS, ← str_mid, str_data])
  rw [← hS] at CH ⊢
  obtain ⟨C, hC⟩ : ∃ C, C = chunkG S k := ⟨_, rfl⟩
  obtain ⟨E, hE⟩ : ∃ E, E = chunkE S k := ⟨_, rfl⟩
  rw [← hC, ← hE]
  obtain ⟨G, hG⟩ : ∃ G, G = headG S := ⟨_, rfl⟩
  have HSL := Lib.hid hSl
  have HG := Lib.hid hG
  have HC := Lib.hid hC
  have HE := Lib.hid hE
  unfold headE at CH
  rw [← hG] at CH
  clear hS hSl hG hC hT hkw hE
  cases G with
  | none =>
    obtain rfl : C = none := by rw [HC.out]; exact chunkG_none HG.out.symm k
    obtain rfl : E = 110 := by rw [HE.out]; unfold chunkE; rw [← HG.out]
    simp only [Option.isSome_none, Bool.false_eq_true, if_false] at CH
    go_enter Tryd.func21, Tryd.ntmps21
    go_wp2_with fail
    refine CH.mono ?_
    rintro e w2 ⟨⟨v, rfl, hv⟩, hb2⟩
    obtain ⟨sv, hsv, hsl⟩ := hv
    subst hsv
    obtain ⟨p, c, hp, -, -⟩ := hsl.out
    subst hp
    have HB2 := Lib.hid (fun o => (show Kept w w2 from hb2).then (box_below w2 o))
    clear hb2 hsl CH
    go_wp2
    first | go_ret | go_ret2
    exact ⟨rfl, HB2.out _⟩
  | some h =>
    have HHG : Hid (headG S = some h) := Lib.hid HG.out.symm
    have hgood := (headG_ok HHG.out).1
    have hlen := hgood.len
    have hszz := headG_size HHG.out
    have hco := chunkG_of HHG.out k
    rw [← HC.out] at hco
    have HCO := Lib.hid hco
    have HEO : Hid (E = if ¬ (0 ≤ k ∧ k < h.slots.length) then 5 else if rightK S h k.toNat then 0 else 110) := Lib.hid (by rw [HE.out]; unfold chunkE; rw [HHG.out])
    have HGD := Lib.hid hgood
    have HSZ := Lib.hid hszz
    simp only [Option.isSome_some, if_true] at CH
    clear HC HG hco hszz HE
    obtain ⟨n, hn⟩ : ∃ n, n = h.slots.length := ⟨_, rfl⟩
    have HN := Lib.hid hn
    rw [← hn] at hlen HEO HCO
    go_enter Tryd.func21, Tryd.ntmps21
    go_wp2_with fail
    refine CH.mono ?_
    rintro e w2 ⟨⟨v, rfl, hv⟩, hb2⟩
    have hv' : HeadIs h v w2 := hv
    have HV := Lib.hid hv'
    obtain ⟨sv, hsv, hsl⟩ := hv'
    subst hsv
    obtain ⟨p, c, hp, hcap, hcells⟩ := hsl.out
    subst hp
    have HCL := Lib.hid hcells
    obtain ⟨id, hid⟩ : ∃ id, id = h.id := ⟨_, rfl⟩
    rw [← hn, ← hid] at HV
    have hr2 := heap_alloc_last w2 (.cells #[.int .u32 (id : Nat), .slice p n c] 33)
    obtain ⟨W3, hW3⟩ : ∃ W3, W3 = w2.alloc (.cells #[.int .u32 (id : Nat), .slice p n c] 33) := ⟨_, rfl⟩
    have HW3 := Lib.hid hW3
    rw [← hW3] at hr2
    have hk3 : Kept w2 W3 := by rw [hW3]; exact box_below _ _
    have HK23 := Lib.hid hk3
    have HV3 := Lib.hid (HV.out.later hk3)
    have HK3 : Hid (Kept w W3) := Lib.hid ((show Kept w w2 from hb2).then hk3)
    obtain ⟨b6, hb6⟩ : ∃ b, b = w2.heap.size := ⟨_, rfl⟩
    have HB6 := Lib.hid hb6
    have HROW := Lib.hid hr2
    rw [← hb6] at HROW
    have c0 : W3.cell? ⟨b6, 0, none⟩ = some (.int .u32 (id : Nat)) := by rw [cell_of_row _ _ _ _ _ _ HROW.out]; rfl
    have c1 : W3.cell? ⟨b6, 1, none⟩ = some (.slice p n c) := by rw [cell_of_row _ _ _ _ _ _ HROW.out]; rfl
    have c0' := c0
    have c1' := c1
    rw [hW3, hb6] at c0' c1'
    rw [← hn, ← hid]
    clear hv hsl hcells hb2 hr2 hk3 hW3 hid CH hgood hn hb6 hcap HV
    by_cases hkr : 0 ≤ k ∧ k < n
    · obtain ⟨i, rfl⟩ : ∃ i : Nat, k = i := ⟨k.toNat, by omega⟩
      have hin : i < n := by omega
      have hil : i < h.slots.length := by rw [← HN.out]; exact hin
      have CW1 := whereOkB h i (.agg #[.int .u32 (id : Nat), .slice p n c]) W3 HGD.out hil HV3.out
      obtain ⟨at_, hat⟩ : ∃ a, a = atH h i := ⟨_, rfl⟩
      obtain ⟨ln, hln⟩ : ∃ a, a = lenK h i := ⟨_, rfl⟩
      rw [← hat, ← hln] at CW1
      have hend : at_ + ln ≤ t.size := by rw [hat, hln, ← HSL.out, ← HSZ.out]; exact atH_le hil
      obtain ⟨en, hen⟩ : ∃ a, a = at_ + ln := ⟨_, rfl⟩
      have v1 : IntKind.i64.wrap ((at_ : Int) + (ln : Int)) = (en : Int) := by rw [show (at_ : Int) + (ln : Int) = (en : Int) by omega]; exact IntWalk.i64_in _ (by omega)
      have g0 : (0 : Int) ≤ at_ := by omega
      have g1 : (at_ : Int) ≤ en := by omega
      have g2 : (en : Int) ≤ t.size := by omega
      obtain ⟨P, hP⟩ : ∃ P, P = t.extract at_ en := ⟨_, rfl⟩
      have hex : t.extract at_ en = P := hP.symm
      have hPS : P.data.toList = partH S h i := by
        rw [hP, hen, HEX.out, str_list, hat, hln]
        rfl
      have hPz : P.size = ln := by rw [hP, ByteArray.size_extract]; omega
      have hPl : ln ≤ 4096 := by rw [hln]; exact lenK_le HGD.out hil
      have CS := fun W (h : TabAt W) => slotOf_any P (by omega) W h
      rw [hPS, hPz] at CS
      obtain ⟨sm, hsm⟩ : ∃ a, a = moreN 0 (partH S h i) := ⟨_, rfl⟩
      rw [← hsm] at CS
      obtain ⟨cr, hcr⟩ : ∃ a, a = crcK h i := ⟨_, rfl⟩
      have HCR : Hid (cr = (h.slots[i]).2 ∧ ln = (h.slots[i]).1) := Lib.hid ⟨by rw [hcr, crcK_get hil], by rw [hln, lenK_get hil]⟩
      have HRI : Hid (rightK S h i ↔ sm = cr) := Lib.hid (by unfold rightK; rw [hsm, hcr])
      have HPP : Hid (P = str (partH S h i)) := Lib.hid (by rw [← hPS, str_data])
      have HRES : Hid ((sm = cr → C = some (partH S h i) ∧ E = 0) ∧ (sm ≠ cr → C = none ∧ E = 110)) := Lib.hid (by
        have h1 := HCO.out
        have h2 := HEO.out
        rw [Int.toNat_natCast] at h1 h2
        rw [if_neg (fun x => x ⟨by omega, by omega⟩)] at h2
        refine ⟨fun e => ⟨?_, ?_⟩, fun e => ⟨?_, ?_⟩⟩
        · rw [h1, if_pos ⟨⟨by omega, by omega⟩, HRI.out.2 e⟩]
        · rw [h2, if_pos (HRI.out.2 e)]
        · rw [h1, if_neg (fun y => e (HRI.out.1 y.2))]
        · rw [h2, if_neg (fun y => e (HRI.out.1 y))])
      have hii0 : (0 : Int) ≤ i := by omega
      have hii : (i : Int) < n := by omega
      rcases HCL.out with h0 | ⟨b, off, rfl, hcell⟩
      · have := HN.out; omega
      have HCE := Lib.hid (hcell i hil)
      rw [← HCR.out.1, ← HCR.out.2] at HCE
      clear hat hln hend hP hPS hPl hPz hsm hcr hcell HCO HEO HSL HSZ HEX hen HN HCL HGD hkr
      go_wp2_with fail
      try rw [← HB6.out]
      try rw [← HW3.out]
      refine CW1.mono ?_
      rintro e w4 ⟨rfl, hb4⟩
      have HB4 := Lib.hid hb4
      have q1 := Kept.cell hb4 c1
      have q2 := Kept.cell ((show Kept w2 W3 from HK23.out).then hb4) HCE.out.1
      have q3 := Kept.cell ((show Kept w2 W3 from HK23.out).then hb4) HCE.out.2
      have HTT : Hid (TabAt w4) := Lib.hid (HT.out.later ((show Kept w W3 from HK3.out).then HB4.out))
      clear c0 c1 c0' c1' CW1 hb4 HV3
      by_cases hsc : sm = cr
      · subst hsc
        have HX := Lib.hid (HRES.out.1 rfl)
        clear HRES HRI
        go_wp2_with fail
        refine wp_region_kept (by kernel_rfl) (by kernel_rfl) ?_
        refine wpQuiet_pure (v := ?_) (by kernel_rfl) ?_ (fun K hK => ?_)
        case refine_2 => intro W _; go_simp; try with_reducible rfl
        go_simp
        refine hK _ ?_; clear hK K
        refine wpQuiet_call (by kernel_rfl) _ _ _ (fun W => by go_simp) (fun W h => Calls.kept_of h (CS W (HTT.out.later h))) (fun K hK => ?_)
        go_simp
        refine hK _ ?_; clear hK K
        refine wpQuiet_pure (v := ?_) (by kernel_rfl) ?_ (fun K hK => ?_)
        case refine_2 => intro W _; go_simp; try with_reducible rfl
        go_simp
        refine hK _ ?_; clear hK K
        refine wpQuiet_pure (v := ?_) (by kernel_rfl) ?_ (fun K hK => ?_)
        case refine_2 => intro W hW; have e0 := hW.cell q1; go_simp; try with_reducible rfl
        go_simp
        refine hK _ ?_; clear hK K
        refine wpQuiet_pure (v := ?_) (by kernel_rfl) ?_ (fun K hK => ?_)
        case refine_2 => intro W _; go_simp; try with_reducible rfl
        go_simp
        refine hK _ ?_; clear hK K
        refine wpQuiet_pure (v := ?_) (by kernel_rfl) ?_ (fun K hK => ?_)
        case refine_2 => intro W _; go_simp; try with_reducible rfl
        go_simp
        refine hK _ ?_; clear hK K
        refine wpQuiet_pure (v := ?_) (by kernel_rfl) ?_ (fun K hK => ?_)
        case refine_2 => intro W hW; have e0 := hW.cell q2; have e1 := hW.cell q3; go_simp; try with_reducible rfl
        go_simp
        refine hK _ ?_; clear hK K
        refine wpQuiet_pure (by kernel_rfl) (.bool false) (fun W _ => by go_simp; try exact neq_slX _ _ W) (fun K hK => ?_)
        go_simp
        refine hK _ ?_; clear hK K
        refine wpQuiet_nil ?_
        intro w6 hk6
        have HB6 : Hid (Kept w w6) := Lib.hid (((show Kept w W3 from HK3.out).then HB4.out).then hk6)
        clear hk6 CS q1 q2 q3
        go_wp2
        first | go_ret | go_ret2
        exact ⟨by rw [HX.out.1, HX.out.2, HPP.out]; rfl, HB6.out⟩
      · have HX := Lib.hid (HRES.out.2 hsc)
        have HNE := Lib.hid hsc
        clear HRES HRI hsc
        go_wp2_with fail
        refine wp_region_kept (by kernel_rfl) (by kernel_rfl) ?_
        refine wpQuiet_pure (v := ?_) (by kernel_rfl) ?_ (fun K hK => ?_)
        case refine_2 => intro W _; go_simp; try with_reducible rfl
        go_simp
        refine hK _ ?_; clear hK K
        refine wpQuiet_call (by kernel_rfl) _ _ _ (fun W => by go_simp) (fun W h => Calls.kept_of h (CS W (HTT.out.later h))) (fun K hK => ?_)
        go_simp
        refine hK _ ?_; clear hK K
        refine wpQuiet_pure (v := ?_) (by kernel_rfl) ?_ (fun K hK => ?_)
        case refine_2 => intro W _; go_simp; try with_reducible rfl
        go_simp
        refine hK _ ?_; clear hK K
        refine wpQuiet_pure (v := ?_) (by kernel_rfl) ?_ (fun K hK => ?_)
        case refine_2 => intro W hW; have e0 := hW.cell q1; go_simp; try with_reducible rfl
        go_simp
        refine hK _ ?_; clear hK K
        refine wpQuiet_pure (v := ?_) (by kernel_rfl) ?_ (fun K hK => ?_)
        case refine_2 => intro W _; go_simp; try with_reducible rfl
        go_simp
        refine hK _ ?_; clear hK K
        refine wpQuiet_pure (v := ?_) (by kernel_rfl) ?_ (fun K hK => ?_)
        case refine_2 => intro W _; go_simp; try with_reducible rfl
        go_simp
        refine hK _ ?_; clear hK K
        refine wpQuiet_pure (v := ?_) (by kernel_rfl) ?_ (fun K hK => ?_)
        case refine_2 => intro W hW; have e0 := hW.cell q2; have e1 := hW.cell q3; go_simp; try with_reducible rfl
        go_simp
        refine hK _ ?_; clear hK K
        refine wpQuiet_pure (by kernel_rfl) (.bool true) (fun W _ => by go_simp; try exact fun e => HNE.out (by omega)) (fun K hK => ?_)
        go_simp
        refine hK _ ?_; clear hK K
        refine wpQuiet_nil ?_
        intro w6 hk6
        have HB6 : Hid (Kept w w6) := Lib.hid (((show Kept w W3 from HK3.out).then HB4.out).then hk6)
        clear hk6 CS q1 q2 q3
        go_wp2
        first | go_ret | go_ret2
        exact ⟨by rw [HX.out.1, HX.out.2]; rfl, HB6.out⟩
    · have CW1 := where_out h HGD.out k (by rw [← HN.out]; exact hkr) (.agg #[.int .u32 (id : Nat), .slice p n c]) W3 HV3.out
      obtain rfl : C = none := by rw [HCO.out, if_neg (fun x => hkr x.1)]
      obtain rfl : E = 5 := by rw [HEO.out, if_pos hkr]
      clear HCO HEO HCL hkr
      go_wp2_with fail
      try rw [← HB6.out]
      try rw [← HW3.out]
      refine CW1.mono ?_
      rintro e w4 ⟨rfl, hb4⟩
      have HB4 : Hid (Kept w w4) := Lib.hid ((show Kept w W3 from HK3.out).then hb4)
      clear hb4 CW1 c0 c1 c0' c1'
      go_wp2
      first | go_ret | go_ret2
      exact ⟨rfl, HB4.out⟩

end Go.Proofs.YtdmbebafpamgfaaDoor
