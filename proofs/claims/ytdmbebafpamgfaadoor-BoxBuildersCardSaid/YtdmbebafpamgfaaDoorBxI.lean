/- The document's Same, Chunk, Chunks. -/
import Derived.Test.YtdmbebafpamgfaaDoorBxH
import Derived.Laws.StructEq
namespace Go.Proofs.YtdmbebafpamgfaaDoor
open Go.RowKit

theorem neq_slX (a n : Nat) (w : World) : (binOp .neq 68 (.agg #[.int .i64 (a : Nat), .int .u32 (n : Nat)]) (.agg #[.int .i64 (a : Nat), .int .u32 (n : Nat)])).run Tryd.prog w = .ok (.bool false) w := by
  have h := run_equalIn_struct (P := Tryd.prog) w 9999 68 #[.int .i64 (a : Nat), .int .u32 (n : Nat)] #[.int .i64 (a : Nat), .int .u32 (n : Nat)] (by kernel_rfl) (by kernel_rfl)
  have hq : (Op.equalIn 10000 68 (.agg #[.int .i64 (a : Nat), .int .u32 (n : Nat)]) (.agg #[.int .i64 (a : Nat), .int .u32 (n : Nat)])).run Tryd.prog w = .ok true w := by
    rw [h]
    go_simp
  rw [run_neq_struct, hq]
  rfl

set_option maxRecDepth 100000 in
set_option maxHeartbeats 4000000 in
theorem rsame14_any (h : Hd) (hl : h.slots.length ≤ 1000000) (u v : Value) (w : World) (HU : HeadIs h u w) (HV : HeadIs h v w) :
    Calls Tryd.prog 17 #[u, v] w fun e w' => e = .returned (.bool true) ∧ Kept w w' := by
  obtain ⟨su, rfl, hsu⟩ := HU
  obtain ⟨sv, rfl, hsv⟩ := HV
  obtain ⟨p, c, rfl, -, hc⟩ := hsu.out
  obtain ⟨p2, c2, rfl, -, hc2⟩ := hsv.out
  have HCA := Lib.hid hc
  have HCB := Lib.hid hc2
  obtain ⟨n, hn⟩ : ∃ n, n = h.slots.length := ⟨_, rfl⟩
  have HN := Lib.hid hn
  obtain ⟨id, hid⟩ : ∃ id, id = h.id := ⟨_, rfl⟩
  rw [← hn] at hl
  rw [← hn, ← hid]
  have b1 : ((id : Int) != (id : Int)) = false := by simp
  have b2 : ((n : Int) != (n : Int)) = false := by simp
  obtain ⟨W1, hW1⟩ : ∃ W, W = (w.alloc (.cells #[.int .u32 (id : Nat), .slice p n c] 33)).alloc (.cells #[.int .u32 (id : Nat), .slice p2 n c2] 33) := ⟨_, rfl⟩
  have hs1 : (w.alloc (.cells #[.int .u32 (id : Nat), .slice p n c] 33)).heap.size = w.heap.size + 1 := by simp
  have HK1 : Hid (Kept w W1) := Lib.hid (by rw [hW1]; exact (show Kept w _ from box_below _ _).then (box_below _ _))
  have hrowa : W1.heap[w.heap.size]? = some (.cells #[.int .u32 (id : Nat), .slice p n c] 33 (0, 0)) := by rw [hW1]; exact Kept.row (box_below _ _) (heap_alloc_last w _)
  have hrowb : W1.heap[w.heap.size + 1]? = some (.cells #[.int .u32 (id : Nat), .slice p2 n c2] 33 (0, 0)) := by
    have := heap_alloc_last (w.alloc (.cells #[.int .u32 (id : Nat), .slice p n c] 33)) (.cells #[.int .u32 (id : Nat), .slice p2 n c2] 33)
    rw [hs1] at this
    rw [hW1]; exact this
  have HA1 : Hid (W1.cell? ⟨w.heap.size, 1, none⟩ = some (.slice p n c)) := Lib.hid (by rw [cell_of_row _ _ _ _ _ _ hrowa]; rfl)
  have HB1 : Hid (W1.cell? ⟨w.heap.size + 1, 1, none⟩ = some (.slice p2 n c2)) := Lib.hid (by rw [cell_of_row _ _ _ _ _ _ hrowb]; rfl)
  have a0 : W1.cell? ⟨w.heap.size, 0, none⟩ = some (.int .u32 (id : Nat)) := by rw [cell_of_row _ _ _ _ _ _ hrowa]; rfl
  have a1 := HA1.out
  have d0 : W1.cell? ⟨w.heap.size + 1, 0, none⟩ = some (.int .u32 (id : Nat)) := by rw [cell_of_row _ _ _ _ _ _ hrowb]; rfl
  have d1 := HB1.out
  rw [hW1] at a0 a1 d0 d1
  have HW1 := Lib.hid hW1
  clear hc hc2 hn hid hsu hsv hrowa hrowb hW1 hs1
  go_enter Tryd.func17, Tryd.ntmps17
  go_wp2
  rw [← HW1.out]
  go_loopg [5] n (fun gh s5 wx => ∃ k : Nat, k + gh = n ∧ s5 = .int .i64 k ∧ Hid (Kept W1 wx))
  case atStart => exact ⟨0, by omega, rfl, Lib.hid (Kept.refl W1)⟩
  case round =>
    clear a0 a1 d0 d1
    obtain ⟨k, hk, rfl, HK⟩ := hrel
    have a1 := Kept.cell HK.out HA1.out
    have d1 := Kept.cell HK.out HB1.out
    by_cases hkn : k < n
    · have hki : (k : Int) < n := by omega
      have bk : decide ((k : Int) < (n : Int)) = true := by simpa using hki
      have hki0 : (0 : Int) ≤ k := by omega
      have hka : k < h.slots.length := by rw [← HN.out]; exact hkn
      rcases HCA.out with h0 | ⟨ba, oa, rfl, hcella⟩
      · omega
      rcases HCB.out with h0 | ⟨bb, ob, rfl, hcellb⟩
      · omega
      have e1 := HK.out.cell (HK1.out.cell (hcella k hka).1)
      have e2 := HK.out.cell (HK1.out.cell (hcella k hka).2)
      have e3 := HK.out.cell (HK1.out.cell (hcellb k hka).1)
      have e4 := HK.out.cell (HK1.out.cell (hcellb k hka).2)
      obtain ⟨x, hx⟩ : ∃ a, a = h.slots[k].1 := ⟨_, rfl⟩
      obtain ⟨q, hq⟩ : ∃ a, a = h.slots[k].2 := ⟨_, rfl⟩
      rw [← hx] at e1 e3
      rw [← hq] at e2 e4
      have hne := neq_slX x q
      obtain ⟨k1, hk1⟩ : ∃ k1, k1 = k + 1 := ⟨_, rfl⟩
      have v1 : IntKind.i64.wrap ((k : Int) + 1) = (k1 : Int) := by rw [show (k : Int) + 1 = (k1 : Int) by omega]; exact IntWalk.i64_in _ (by omega)
      have HK2 : Hid (∀ j, Kept W1 (wr.drewN j)) := Lib.hid (fun j => (show Kept W1 wr from HK.out).then (below_drewN (Below.refl _ wr) j))
      have HKA : Hid (k1 = k + 1) := Lib.hid hk1
      clear hx hq hcella hcellb hk1
      go_wp2
      go_quiet (fail)
      go_wp2
      go_roundg (n - k1)
      case measure => have := HKA.out; omega
      case rel => exact ⟨k1, by have := HKA.out; omega, by first | rfl | (have := HKA.out; simp; omega), Lib.hid (HK2.out _)⟩
    · have hki : ¬ (k : Int) < n := by omega
      have bk : decide ((k : Int) < (n : Int)) = false := by simpa using hki
      have HKX : Hid (Kept w wr) := Lib.hid ((show Kept w W1 from HK1.out).then HK.out)
      go_wp2
      go_ret
      exact ⟨rfl, HKX.out⟩

theorem chunkG_none {t : List UInt8} (h : headG t = none) (k : Int) : chunkG t k = none := by unfold chunkG; rw [h]
theorem chunkG_of {t : List UInt8} {h : Hd} (hg : headG t = some h) (k : Int) : chunkG t k = if (0 ≤ k ∧ k < h.slots.length) ∧ rightK t h k.toNat then some (partH t h k.toNat) else none := by unfold chunkG; rw [hg]
theorem headG_size {t : List UInt8} {h : Hd} (hg : headG t = some h) : lenH h + (lensH h).sum = t.length := by
  obtain ⟨_, _, D, rfl, hD⟩ := headG_ok hg
  rw [List.length_append, frontH_len, hD]
theorem lenK_le {h : Hd} (g : goodH h) {k : Nat} (hk : k < h.slots.length) : lenK h k ≤ 4096 := by
  rw [lenK_get hk]
  exact (g.2.2.1 _ (List.mem_map.2 ⟨_, List.getElem_mem hk, rfl⟩)).2

set_option maxRecDepth 100000 in
set_option maxHeartbeats 16000000 in
theorem rchunk14_any (t : ByteArray) (ht : t.size ≤ 1000000) (k : Int) (w : World) :
    Calls Tryd.prog 22 #[.string t, .int .i64 k] w fun e w' => e = .returned (.tuple #[.string (str ((chunkG t.data.toList k).getD [])), .bool (chunkG t.data.toList k).isSome]) ∧ Kept w w' := by
  have CH := rhead14_any t ht w
  obtain ⟨S, hS⟩ : ∃ S, S = t.data.toList := ⟨_, rfl⟩
  have hSl : S.length = t.size := by rw [hS, data_len]
  have HEX : Hid (∀ i j, t.extract i (i + j) = str ((S.drop i).take j)) := Lib.hid (fun i j => by
    rw [hS, ← str_mid, str_data])
  rw [← hS] at CH ⊢
  obtain ⟨C, hC⟩ : ∃ C, C = chunkG S k := ⟨_, rfl⟩
  rw [← hC]
  obtain ⟨G, hG⟩ : ∃ G, G = headG S := ⟨_, rfl⟩
  rw [← hG] at CH
  have HSL := Lib.hid hSl
  have HG := Lib.hid hG
  have HC := Lib.hid hC
  clear hS hSl hG hC
  cases G with
  | none =>
    have HN : Hid (C = none) := Lib.hid (by rw [HC.out]; exact chunkG_none HG.out.symm k)
    go_enter Tryd.func22, Tryd.ntmps22
    go_wp2_with fail
    refine CH.mono ?_
    rintro e w2 ⟨⟨v, rfl, hv⟩, hb2⟩
    obtain ⟨sv, rfl, hsl⟩ := hv
    obtain ⟨p, c, rfl, -, -⟩ := hsl.out
    have HB2 := Lib.hid ((show Kept w w2 from hb2).then (box_below w2 (.cells #[.int .u32 ((Hd.zero).id : Nat), .slice p (Hd.zero).slots.length c] 33)))
    clear hb2 hsl CH
    go_wp2
    first | go_ret | go_ret2
    exact ⟨by rw [HN.out]; rfl, HB2.out⟩
  | some h =>
    have HHG : Hid (headG S = some h) := Lib.hid HG.out.symm
    have hgood := (headG_ok HHG.out).1
    have hwf := (headG_ok HHG.out).2.1
    have hlen := hgood.len
    have hszz := headG_size HHG.out
    have hco := chunkG_of HHG.out k
    rw [← HC.out] at hco
    have HCO := Lib.hid hco
    have HGD := Lib.hid hgood
    have HSZ := Lib.hid hszz
    clear HC HG hco hszz hwf
    obtain ⟨n, hn⟩ : ∃ n, n = h.slots.length := ⟨_, rfl⟩
    have HN := Lib.hid hn
    rw [← hn] at hlen
    go_enter Tryd.func22, Tryd.ntmps22
    go_wp2_with fail
    refine CH.mono ?_
    rintro e w2 ⟨⟨v, rfl, hv⟩, hb2⟩
    have hv' : HeadIs h v w2 := hv
    have CW := Lib.hid (fun (i : Nat) (hi : i < h.slots.length) W (kk : Kept w2 W) => rwhere14_any h hgood i hi v W (hv'.later kk))
    obtain ⟨sv, hsv, hsl⟩ := hv'
    subst hsv
    obtain ⟨p, c, hp, -, hcells⟩ := hsl.out
    subst hp
    have HCL := Lib.hid hcells
    obtain ⟨id, hid⟩ : ∃ id, id = h.id := ⟨_, rfl⟩
    rw [← hn, ← hid] at CW
    have hr2 := heap_alloc_last w2 (.cells #[.int .u32 (id : Nat), .slice p n c] 33)
    obtain ⟨W3, hW3⟩ : ∃ W3, W3 = w2.alloc (.cells #[.int .u32 (id : Nat), .slice p n c] 33) := ⟨_, rfl⟩
    have HW3 := Lib.hid hW3
    rw [← hW3] at hr2
    have HROW := Lib.hid hr2
    have hk3 : Kept w2 W3 := by rw [hW3]; exact box_below _ _
    have HK23 := Lib.hid hk3
    have HK3 : Hid (Kept w W3) := Lib.hid ((show Kept w w2 from hb2).then hk3)
    obtain ⟨b6, hb6⟩ : ∃ b, b = w2.heap.size := ⟨_, rfl⟩
    have HB6 := Lib.hid hb6
    rw [← hb6] at HROW
    have c0 : W3.cell? ⟨b6, 0, none⟩ = some (.int .u32 (id : Nat)) := by rw [cell_of_row _ _ _ _ _ _ HROW.out]; rfl
    have c1 : W3.cell? ⟨b6, 1, none⟩ = some (.slice p n c) := by rw [cell_of_row _ _ _ _ _ _ HROW.out]; rfl
    have c0' := c0
    have c1' := c1
    rw [hW3, hb6] at c0' c1'
    rw [← hn, ← hid]
    rw [show (some h).isSome = true from rfl]
    clear hv hsl hcells hb2 hr2 hk3 hW3 hid CH hgood hn hb6
    by_cases hk0 : 0 ≤ k
    · obtain ⟨i, rfl⟩ : ∃ i : Nat, k = i := ⟨k.toNat, by omega⟩
      have b1 : decide ((i : Int) < 0) = false := by simp
      by_cases hin : i < n
      · have b2 : decide ((i : Int) ≥ (n : Int)) = false := by simp; omega
        have hil : i < h.slots.length := by rw [← HN.out]; exact hin
        have CW1 := CW.out i hin W3 HK23.out
        obtain ⟨at_, hat⟩ : ∃ a, a = atH h i := ⟨_, rfl⟩
        obtain ⟨ln, hln⟩ : ∃ a, a = lenK h i := ⟨_, rfl⟩
        rw [← hat, ← hln] at CW1
        have hend : at_ + ln ≤ t.size := by rw [hat, hln, ← HSL.out, ← HSZ.out]; exact atH_le hil
        obtain ⟨en, hen⟩ : ∃ a, a = at_ + ln := ⟨_, rfl⟩
        have v1 : IntKind.i64.wrap ((at_ : Int) + (ln : Int)) = (en : Int) := by rw [show (at_ : Int) + (ln : Int) = (en : Int) by omega]; exact IntWalk.i64_in _ (by omega)
        have g0 : (0 : Int) ≤ at_ := by omega
        have g1 : (at_ : Int) ≤ en := by omega
        have g2 : (en : Int) ≤ t.size := by omega
        obtain ⟨P, hP⟩ : ∃ P, P = t.extract at_ en := ⟨_, rfl⟩
        have hex : t.extract at_ en = P := hP.symm
        have hPS : P.data.toList = partH S h i := by
          rw [hP, hen, HEX.out, str_list, hat, hln]
          rfl
        have hPl : P.size ≤ 4096 := by
          have h1 : P.data.toList.length = P.size := data_len P
          rw [← h1, hPS]
          unfold partH
          have := lenK_le HGD.out hil
          rw [List.length_take]; omega
        have CS := fun W => rsum_any P (by omega) W
        rw [hPS] at CS
        obtain ⟨sm, hsm⟩ : ∃ a, a = moreN 0 (partH S h i) := ⟨_, rfl⟩
        rw [← hsm] at CS
        obtain ⟨cr, hcr⟩ : ∃ a, a = crcK h i := ⟨_, rfl⟩
        have HCR : Hid (cr = (h.slots[i]).2) := Lib.hid (by rw [hcr, crcK_get hil])
        have HRI : Hid (rightK S h i ↔ sm = cr) := Lib.hid (by unfold rightK; rw [hsm, hcr])
        have HPP : Hid (P = str (partH S h i)) := Lib.hid (by rw [← hPS, str_data])
        have HRES : Hid ((sm = cr → C = some (partH S h i)) ∧ (sm ≠ cr → C = none)) := Lib.hid (by
          have h := HCO.out
          rw [Int.toNat_natCast] at h
          refine ⟨fun e => ?_, fun e => ?_⟩
          · rw [h, if_pos ⟨⟨by omega, by omega⟩, HRI.out.2 e⟩]
          · rw [h, if_neg (fun y => e (HRI.out.1 y.2))])
        have hii0 : (0 : Int) ≤ i := by omega
        have hii : (i : Int) < n := by omega
        rcases HCL.out with h0 | ⟨b, off, rfl, hcell⟩
        · have := HN.out; omega
        have HCE := Lib.hid (hcell i hil).2
        rw [← HCR.out] at HCE
        clear hat hln hend hP hPS hPl hsm hcr hcell CW HCO HSL HSZ HEX hen
        go_wp2_with fail
        rw [← HB6.out, ← HW3.out]
        refine CW1.mono ?_
        rintro e w4 ⟨rfl, hb4⟩
        have HB4 := Lib.hid hb4
        have q1 := Kept.cell hb4 c1
        have q2 := Kept.cell ((show Kept w2 W3 from HK23.out).then hb4) HCE.out
        clear c0 c1 c0' c1' CW1 hb4
        go_wp2_with fail
        refine wp_region_kept (by kernel_rfl) (by kernel_rfl) ?_
        refine wpQuiet_pure (v := ?_) (by kernel_rfl) ?_ (fun K hK => ?_)
        case refine_2 => intro W _; go_simp; try with_reducible rfl
        go_simp
        refine hK _ ?_; clear hK K
        refine wpQuiet_call (by kernel_rfl) _ _ _ (fun W => by go_simp) (fun W h => Calls.kept_of h (CS W)) (fun K hK => ?_)
        go_simp
        refine hK _ ?_; clear hK K
        refine wpQuiet_pure (v := ?_) (by kernel_rfl) ?_ (fun K hK => ?_)
        case refine_2 => intro W _; go_simp; try with_reducible rfl
        go_simp
        refine hK _ ?_; clear hK K
        refine wpQuiet_pure (v := ?_) (by kernel_rfl) ?_ (fun K hK => ?_)
        case refine_2 => intro W hW; have e0 := hW.cell q1; go_simp; try with_reducible rfl
        go_simp
        refine hK _ ?_; clear hK K
        refine wpQuiet_pure (v := ?_) (by kernel_rfl) ?_ (fun K hK => ?_)
        case refine_2 => intro W _; go_simp; try with_reducible rfl
        go_simp
        refine hK _ ?_; clear hK K
        refine wpQuiet_pure (v := ?_) (by kernel_rfl) ?_ (fun K hK => ?_)
        case refine_2 => intro W _; go_simp; try with_reducible rfl
        go_simp
        refine hK _ ?_; clear hK K
        refine wpQuiet_pure (v := ?_) (by kernel_rfl) ?_ (fun K hK => ?_)
        case refine_2 => intro W _; go_simp; try with_reducible rfl
        go_simp
        refine hK _ ?_; clear hK K
        refine wpQuiet_pure (v := ?_) (by kernel_rfl) ?_ (fun K hK => ?_)
        case refine_2 => intro W hW; have e0 := hW.cell q2; go_simp; try with_reducible rfl
        go_simp
        refine hK _ ?_; clear hK K
        refine wpQuiet_pure (v := ?_) (by kernel_rfl) ?_ (fun K hK => ?_)
        case refine_2 => intro W _; go_simp; try with_reducible rfl
        go_simp
        refine hK _ ?_; clear hK K
        refine wpQuiet_nil ?_
        intro w5 hk5
        have HB5 : Hid (Kept w w5) := Lib.hid (((show Kept w W3 from HK3.out).then HB4.out).then hk5)
        clear hk5 CS q1 q2
        by_cases hsc : sm = cr
        · have hb : ((sm : Int) != (cr : Int)) = false := by rw [hsc]; simp
          have HX := Lib.hid (HRES.out.1 hsc)
          clear hsc HRES HRI
          go_wp2
          first | go_ret | go_ret2
          exact ⟨by rw [HX.out, HPP.out]; rfl, HB5.out⟩
        · have hb : ((sm : Int) != (cr : Int)) = true := by rw [bne_iff_ne]; omega
          have HX := Lib.hid (HRES.out.2 hsc)
          clear hsc HRES HRI
          go_wp2
          first | go_ret | go_ret2
          exact ⟨by rw [HX.out]; rfl, HB5.out⟩
      · have b2 : decide ((i : Int) ≥ (n : Int)) = true := by simp; omega
        have HX : Hid (C = none) := Lib.hid (by rw [HCO.out, if_neg]; rintro ⟨⟨-, h⟩, -⟩; rw [← HN.out] at h; omega)
        clear HCO CW HCL
        go_wp2
        first | go_ret | go_ret2
        exact ⟨by rw [HX.out]; rfl, by rw [← HW3.out]; exact HK3.out⟩
    · have b1 : decide (k < 0) = true := by simp; omega
      have HX : Hid (C = none) := Lib.hid (by rw [HCO.out, if_neg]; rintro ⟨⟨h, -⟩, -⟩; exact hk0 h)
      clear HCO CW HCL
      go_wp2
      first | go_ret | go_ret2
      exact ⟨by rw [HX.out]; rfl, by rw [← HW3.out]; exact HK3.out⟩

end Go.Proofs.YtdmbebafpamgfaaDoor
