/- The document's Head. -/
import Derived.Test.YtdmbebafpamgfaaDoorBxG
namespace Go.Proofs.YtdmbebafpamgfaaDoor
open Go.RowKit

theorem results_cell_tmp_rowX {P : Program} {fn : Func} {p u : Tmp} {ty : TypeId} (h : fn.results = #[.cell p ty, .tmp u]) (tmps : Array Value) (w : World) (g : Nat) (t : TypeId) (cs : Array Value) (fr : Nat × Nat) (d : TypeDesc)
    (hp : tmps.getD p undef = .pointer (some ⟨g, 0, none⟩)) (hg : w.heap[g]? = some (.cells cs t fr))
    (hu : P.underlying ty = some d) (hd : (match d with | .struct _ | .array _ _ => true | _ => false) = true) (hi : (P.info? ty).map (·.size) = some cs.size) :
    (results fn tmps).run P w = .ok (.tuple #[.agg cs, tmps.getD u undef]) w := by
  rw [results_cell_tmp h, hp]
  simp [asAddr, run_loadVar_row w g t ty cs fr d hg hu hd hi, Result.andThen]
theorem text_neX {a b : ByteArray} (h : a ≠ b) : (a.toList == b.toList) = false := by
  rw [Lib.toList_data, Lib.toList_data, beq_eq_false_iff_ne]
  exact fun e => h (ByteArray.ext (Array.ext' e))
theorem rd_appX {w wd w6 : World} {b5 base id br : Nat} {tv v' : Value} {l : List (Nat × Nat)} {s : RdSt} {XA : Array Value} (hr : RfAt br s wd) (h : HI w b5 base id tv l wd) (hb : br < base ∧ br ≠ b5)
    (hg : (wd.alloc (.cells XA 68)).grownBy w6 tv.ownBlock) : RfAt br s (w6.setCell ⟨b5, 1, none⟩ v') :=
  RfAt.later (RfAt.later (hr.later (w' := wd.alloc (.cells XA 68)) (r := none) (grown_below ((Below.refl _ _).alloc (Nat.le_refl _) _) none) (by simp)) hg (fun e => by have := (h.own.lt br e.symm).1; omega)) (grown_set _ _ _ _) (fun e => hb.2 (Option.some.inj e))
theorem rnumX (b : Nat) (s : RdSt) (k : Nat) (i : Int) (hi : i = k) (hk : k ≤ 8) (w : World) (h : RfAt b s w) :
    Calls Tryd.prog 48 #[.pointer (some ⟨b, 0, none⟩), .int .i64 i] w (RfPost b (.int .u64 (numR s k).1) (numR s k).2 w) := by
  subst hi
  exact rnum_any b s k hk w h
theorem numR_er {s : RdSt} {k : Nat} (h : (numR s k).2.2 = 0) : s.2 = 0 := (numR_ok (s := s) (k := k) (n := (numR s k).1) (l := (numR s k).2.1) (by rw [← h])).1
theorem slotsR_er : ∀ (k : Nat) (s : RdSt) (acc : List (Nat × Nat)), (slotsR k s acc).2.2 = 0 → s.2 = 0
  | 0, _, _, h => h
  | k + 1, _, _, h => numR_er (numR_er (slotsR_er k _ _ h))
theorem okG_long {t : List UInt8} (h : (slR t).2.2 = 0) : t ≠ [] := by
  have h1 : (rd4 t).2 = 0 := numR_er (numR_er (slotsR_er _ _ _ h))
  unfold rd4 at h1
  have e0 : takeR (t, 0) 4 = ((takeR (t, 0) 4).1, ((takeR (t, 0) 4).2.1, 0)) := Prod.ext rfl (Prod.ext rfl h1)
  have h2 := (takeR_ok e0).2.2
  intro e
  have h3 := congrArg List.length h2.1
  rw [List.length_append, h2.2, e] at h3
  simp at h3
  omega
theorem okG_good {t : List UInt8} (h : (slR t).2.2 = 0) (hz : sizeH (headR t) = t.length) : goodH (headR t) := by
  refine Decidable.byContradiction fun g => ?_
  unfold sizeH at hz
  rw [if_neg g] at hz
  exact okG_long h (List.length_eq_zero_iff.1 hz.symm)

set_option maxRecDepth 100000 in
set_option maxHeartbeats 32000000 in
theorem rhead14_any (t : ByteArray) (ht : t.size ≤ 1000000) (w : World) :
    Calls Tryd.prog 20 #[.string t] w fun e w' => (∃ v, e = .returned (.tuple #[v, .bool (headG t.data.toList).isSome]) ∧ HeadIs ((headG t.data.toList).getD Hd.zero) v w') ∧ Kept w w' := by
  obtain ⟨ir, hir, hx⟩ := Option.map_eq_some_iff.1 infoSlX
  simp only [Prod.mk.injEq] at hx
  obtain ⟨hz0, hz1, hz2⟩ := hx
  have HIR := Lib.hid hir
  have HZ0 := Lib.hid hz0
  have HZ1 := Lib.hid hz1
  have HZ2 := Lib.hid hz2
  obtain ⟨S, hS⟩ : ∃ S, S = t.data.toList := ⟨_, rfl⟩
  have hSl : S.length ≤ 1000000 := by rw [hS, data_len]; exact ht
  have hts : t = str S := by rw [hS, str_data]
  obtain ⟨G, hG⟩ : ∃ G, G = headG S := ⟨_, rfl⟩
  rw [← hS, ← hG]
  have HG := Lib.hid hG
  have HTS := Lib.hid hts
  have HSL : Hid (S.length = t.size) := Lib.hid (by rw [hS, data_len])
  have HEX : Hid (∀ k, k ≤ t.size → t.extract 0 k = str (S.take k)) := Lib.hid (fun k hk => by
    have h := str_mid S 0 k
    rw [Nat.zero_add, List.drop_zero] at h
    rw [hts]; exact h)
  obtain ⟨W2, hW2⟩ : ∃ W, W = (w.alloc (.cells #[.int .u32 0, .slice none 0 0] 33)).alloc (.cells #[.string t, .int .i64 0, .int .i64 0] 87) := ⟨_, rfl⟩
  have HW2 := Lib.hid hW2
  have hk2 : Kept w W2 := by rw [hW2]; exact (show Kept w _ from box_below _ _).then (box_below _ _)
  have hrow0 : W2.heap[w.heap.size]? = some (.cells #[.int .u32 0, .slice none 0 0] 33 (0, 0)) := by
    rw [hW2]
    exact Kept.row (box_below _ _) (heap_alloc_last w _)
  have hrd : RfAt (w.heap.size + 1) (S, 0) W2 := by
    have := heap_alloc_last (w.alloc (.cells #[.int .u32 0, .slice none 0 0] 33)) (.cells #[.string t, .int .i64 0, .int .i64 0] 87)
    have e : (w.alloc (.cells #[.int .u32 0, .slice none 0 0] 33)).heap.size = w.heap.size + 1 := by simp
    rw [e, hts] at this
    exact ⟨S, 0, by rw [hW2, hts]; exact this, rfl, Nat.zero_le _, hSl⟩
  have hs2 : W2.heap.size = w.heap.size + 1 + 1 := by rw [hW2]; simp
  obtain ⟨br, hbr⟩ : ∃ br, br = w.heap.size + 1 := ⟨_, rfl⟩
  have HBRE := Lib.hid hbr
  rw [← hbr] at hrd hs2
  have HK2 := Lib.hid hk2
  have HROW := Lib.hid hrow0
  have HRD := Lib.hid hrd
  have HS2 := Lib.hid hs2
  obtain ⟨id, hid⟩ : ∃ id, id = (idR S).1 := ⟨_, rfl⟩
  have hidl : id < 256 ^ 4 := by rw [hid]; exact numR_small _ _
  obtain ⟨n, hn⟩ : ∃ n, n = (cntR S).1 := ⟨_, rfl⟩
  have hn16 : n < 256 ^ 2 := by rw [hn]; exact numR_small _ _
  obtain ⟨m, hm⟩ : ∃ m, m = min n 300 := ⟨_, rfl⟩
  obtain ⟨FIN, hFIN⟩ : ∃ F, F = slR S := ⟨_, rfl⟩
  have HFIN : Hid (slotsR m (cntR S).2 [] = FIN) := Lib.hid (by rw [hFIN, hm, hn]; rfl)
  have HHR : Hid (headR S = ⟨id, FIN.1⟩) := Lib.hid (by rw [hid, hFIN]; rfl)
  have HWF : Hid (wfH (headR S)) := Lib.hid (headR_wf S)
  have HOK : Hid (G = if FIN.2.2 = 0 ∧ n ≤ 256 ∧ sizeH (headR S) = S.length ∧ S.take (lenH (headR S)) = frontH (headR S) then some (headR S) else none) := Lib.hid (by
    rw [hG, hFIN, hn]
    unfold headG okG
    rfl)
  have HGOOD : Hid (FIN.2.2 = 0 → sizeH (headR S) = S.length → goodH (headR S)) := Lib.hid (by rw [hFIN]; exact okG_good)
  have HM := Lib.hid hm
  have HIDL := Lib.hid hidl
  have HID := Lib.hid hid
  have HNN := Lib.hid hn
  have u1 : IntKind.u32.wrap (id : Int) = (id : Int) := IntWalk.u32_in _ (by omega)
  have hm300 : m ≤ 300 := by omega
  have HN16 := Lib.hid hn16
  clear hir hz0 hz1 hz2 hG hts hS hSl ht hW2 hk2 hrow0 hrd hs2 hbr hid hn hFIN
  go_enter Tryd.func20, Tryd.ntmps20
  go_wp2_with fail
  rw [← HW2.out]
  rw [← HBRE.out]
  refine (rtake_any br (S, 0) 4 (by decide) W2 HRD.out).mono ?_
  rintro e W3 ⟨rfl, hr3, hb3⟩
  have HR3 : Hid (RfAt br (rd4 S) W3) := Lib.hid hr3
  have HK3 : Hid (Kept w W3) := Lib.hid (below_touch (show Below w.heap.size w W2 from HK2.out) hb3 HK2.out.size (by have := HBRE.out; omega))
  have HROW3 : Hid (W3.heap[w.heap.size]? = some (.cells #[.int .u32 0, .slice none 0 0] 33 (0, 0))) := Lib.hid (by rw [hb3.block _ (Array.getElem?_eq_some_iff.1 HROW.out).1 (fun e => by have := Option.some.inj e; have := HBRE.out; omega)]; exact HROW.out)
  clear hr3 hb3 HRD HK2 HROW HS2
  go_wp2_with fail
  refine (rnumX br (rd4 S) 4 4 rfl (by omega) W3 HR3.out).mono ?_
  rintro e W4 ⟨rfl, hr4, hb4⟩
  rw [show (numR (rd4 S) 4).1 = id from HID.out.symm]
  have HR4 : Hid (RfAt br (idR S).2 W4) := Lib.hid hr4
  have HK4 : Hid (Kept w W4) := Lib.hid (below_touch (show Below w.heap.size w W3 from HK3.out) hb4 HK3.out.size (by have := HBRE.out; omega))
  have HROW4 : Hid (W4.heap[w.heap.size]? = some (.cells #[.int .u32 0, .slice none 0 0] 33 (0, 0))) := Lib.hid (by rw [hb4.block _ (Array.getElem?_eq_some_iff.1 HROW3.out).1 (fun e => by have := Option.some.inj e; have := HBRE.out; omega)]; exact HROW3.out)
  clear hr4 hb4 HR3 HK3 HROW3
  obtain ⟨b5, hb5⟩ : ∃ b5, b5 = W4.heap.size := ⟨_, rfl⟩
  have HB5 := Lib.hid hb5
  obtain ⟨W5, hW5⟩ : ∃ W5, W5 = W4.alloc (.cells #[.int .u32 (id : Nat), .slice none 0 0] 33) := ⟨_, rfl⟩
  have HW5 := Lib.hid hW5
  have hk5 : Kept W4 W5 := by rw [hW5]; exact box_below _ _
  have hlt : br < b5 := by rw [hb5]; exact HR4.out.lt
  have HBR : Hid (br < b5 + 1 ∧ br ≠ b5 ∧ w.heap.size < br) := Lib.hid ⟨by omega, by omega, by have := HBRE.out; omega⟩
  have HI5 : Hid (HI w b5 (b5 + 1) id (.slice none 0 0) [] W5) := Lib.hid (by
    refine ⟨HK4.out.then hk5, by rw [hW5, hb5]; simp, hk5.row HROW4.out, by rw [hW5, hb5]; exact heap_alloc_last W4 _, World.ownsRow_nil _ _ _ _, ?_⟩
    have := HBRE.out
    omega)
  have HR5 : Hid (RfAt br (idR S).2 W5) := Lib.hid (HR4.out.later (grown_below hk5 none) (by simp))
  clear hb5 hW5 hk5 hlt HR4 HK4 HROW4
  go_wp2_with fail
  rw [← HB5.out]
  rw [← HW5.out]
  refine (rnumX br (idR S).2 2 2 rfl (by omega) W5 HR5.out).mono ?_
  rintro e W6 ⟨rfl, hr6, hb6⟩
  rw [show (numR (idR S).2 2).1 = n from HNN.out.symm]
  have HR6 : Hid (RfAt br (cntR S).2 W6) := Lib.hid hr6
  have HI6 := Lib.hid (HI5.out.grown hb6 HBR.out)
  clear hr6 hb6 HR5 HI5
  go_wp2
  go_loopg [7] m (fun gh y wr => ∃ (k : Nat) (l : List (Nat × Nat)) (tv : Value) (s' : RdSt), k + gh = m ∧ y = .int .u64 k ∧ l.length = k ∧ Hid (HI w b5 (b5 + 1) id tv l wr) ∧ Hid (RfAt br s' wr) ∧ Hid (slotsR gh s' l = FIN))
  case atStart => exact ⟨0, [], _, _, by omega, rfl, rfl, HI6, HR6, HFIN⟩
  case round =>
    clear HI6 HR6 HFIN
    obtain ⟨k, l, tv, s', hk, rfl, hlk, HH, HR, HSF⟩ := hrel
    obtain ⟨pv, cv, htv, -, -⟩ := own_slice HH.out.own
    subst htv
    by_cases hlt : k < m
    · have hki : (k : Int) < n := by omega
      have bk : decide ((k : Int) < (n : Int)) = true := by simpa using hki
      have hki3 : (k : Int) < 300 := by omega
      have bk3 : decide ((k : Int) < 300) = true := by simpa using hki3
      obtain ⟨gk', hgk'⟩ : ∃ g, gk = g + 1 := ⟨gk - 1, by omega⟩
      subst hgk'
      have C1 := rnumX br s' 2 2 rfl (by omega) wr HR.out
      have hx16 : (numR s' 2).1 < 256 ^ 2 := numR_small _ _
      have hsf := HSF.out
      rw [slotsR] at hsf
      obtain ⟨x, hx⟩ : ∃ x, x = (numR s' 2).1 := ⟨_, rfl⟩
      obtain ⟨t1, ht1⟩ : ∃ t, t = (numR s' 2).2 := ⟨_, rfl⟩
      rw [← hx, ← ht1] at C1 hsf
      rw [← hx] at hx16
      have hc2 := fun W (h : RfAt br t1 W) => rnumX br t1 4 4 rfl (by omega) W h
      have hq32 : (numR t1 4).1 < 256 ^ 4 := numR_small _ _
      obtain ⟨q, hq⟩ : ∃ q, q = (numR t1 4).1 := ⟨_, rfl⟩
      obtain ⟨t2, ht2⟩ : ∃ t, t = (numR t1 4).2 := ⟨_, rfl⟩
      rw [← hq, ← ht2] at hc2 hsf
      rw [← hq] at hq32
      have C2 := Lib.hid hc2
      have u3 : IntKind.i64.wrap (x : Int) = (x : Int) := IntWalk.i64_in _ (by omega)
      have u4 : IntKind.u32.wrap (q : Int) = (q : Int) := IntWalk.u32_in _ (by omega)
      obtain ⟨k1, hk1⟩ : ∃ k1, k1 = k + 1 := ⟨_, rfl⟩
      have v1 : IntKind.u64.wrap ((k : Int) + 1) = (k1 : Int) := by rw [show (k : Int) + 1 = (k1 : Int) by omega]; exact IntWalk.u64_in _ (by omega)
      have HK1 := Lib.hid hk1
      replace HSF : Hid (slotsR gk' t2 (l ++ [(x, q)]) = FIN) := Lib.hid hsf
      have HKLT : Hid (k < 300 ∧ l.length = k) := Lib.hid ⟨by omega, hlk⟩
      have HKL1 : Hid (l.length + 1 = k1) := Lib.hid (by omega)
      have HGK : Hid (k + (gk' + 1) = m) := Lib.hid hk
      clear hx16 hsf hx ht1 hc2 hq32 hq ht2 hk1 hlk HR hk
      go_wp2_with fail
      refine C1.mono ?_
      rintro e w2 ⟨rfl, hr2, hb2⟩
      have hh2 := HH.out.grown hb2 HBR.out
      have c1 := hh2.c1
      have HD : Hid (HI w b5 (b5 + 1) id (.slice pv l.length cv) l w2.drew ∧ RfAt br t1 w2.drew) := Lib.hid ⟨hh2.later (show Kept w2 w2.drew from (Below.refl _ w2).drew), hr2⟩
      clear hr2 hb2 hh2 C1 HH
      go_wp2_with fail
      refine wp_region_held_drew (S := fun _ => True) (by kernel_rfl) trivial (fun hHeld => ?_)
      refine wpAnyH_take (i := 0) (v := ?_) rfl (by kernel_rfl) (by kernel_rfl) (by kernel_rfl) (fun _ _ _ h => h) (Or.inl ⟨by first | kernel_rfl | rfl, ?_⟩) (by assumption) ?_
      case refine_2 => intro w hSw; go_simp; try with_reducible rfl
      refine wpAnyH_take (i := 2) (v := ?_) rfl (by kernel_rfl) (by kernel_rfl) (by kernel_rfl) (fun _ _ _ h => h) (Or.inl ⟨by first | kernel_rfl | rfl, ?_⟩) (by assumption) ?_
      case refine_2 => intro w hSw; go_simp; try with_reducible rfl
      refine wpAnyH_take (i := 3) (v := ?_) rfl (by kernel_rfl) (by kernel_rfl) (by kernel_rfl) (fun _ _ _ h => h) (Or.inl ⟨by first | kernel_rfl | rfl, ?_⟩) (by assumption) ?_
      case refine_2 => intro w hSw; go_simp; try with_reducible rfl
      refine wpAnyH_ready (rs := [1, 4]) (by kernel_rfl) (by simp) (AllReadyH.cons rfl (fun K hK => ?_) (AllReadyH.cons rfl (fun K hK => ?_) AllReadyH.nil))
      · go_simp
        refine hK.out _ _ trivial (fun _ => ?_)
        clear hK K
        refine wpAnyH_ready (rs := [4]) (by kernel_rfl) (by simp) (AllReadyH.cons rfl (fun K hK => ?_) AllReadyH.nil)
        go_simp
        refine (C2.out _ HD.out.2).mono ?_
        rintro e w3 ⟨rfl, hr3, hb3⟩
        have HH3 := Lib.hid (HD.out.1.grown hb3 HBR.out)
        have HR3 := Lib.hid hr3
        have c3 := HH3.out.c1
        refine hK.out _ _ trivial (fun _ => ?_)
        clear hK K
        clear hr3 hb3
        refine wpAnyH_take (i := 5) (v := ?_) rfl (by kernel_rfl) (by kernel_rfl) (by kernel_rfl) (fun _ _ _ h => h) (Or.inl ⟨by first | kernel_rfl | rfl, ?_⟩) (by assumption) ?_
        case refine_2 => intro w hSw; go_simp; try with_reducible rfl
        refine wpAnyH_take (i := 6) (v := ?_) rfl (by kernel_rfl) (by kernel_rfl) (by kernel_rfl) (fun _ _ _ h => h) (Or.inl ⟨by first | kernel_rfl | rfl, ?_⟩) (by assumption) ?_
        case refine_2 => intro w hSw; go_simp; try with_reducible rfl
        refine wpAnyH_ready (rs := [7]) (by kernel_rfl) (by simp) (AllReadyH.cons rfl (fun K hK => ?_) AllReadyH.nil)
        go_simp
        have HH4 := Lib.hid (HH3.out.later (box_below w3 (.cells #[.int .i64 (x : Nat), .int .u32 (q : Nat)] 68)))
        have c4 := HH4.out.c1
        refine hK.out _ _ trivial (fun _ => ?_)
        clear hK K
        refine wpAnyH_ready (rs := [8]) (by kernel_rfl) (by simp) (AllReadyH.cons rfl (fun K hK => ?_) AllReadyH.nil)
        rw [if_pos (by rfl)]
        refine wp_append_flat _ _ 31 rfl (b5 + 1) 68 ir (.agg #[.int .i64 0, .int .u32 0]) 2 16 Tryd.underlying31 HIR.out HZ0.out HZ1.out HZ2.out rfl (by decide) _ l.length (slV l) ?q0 HH4.out.own _ 1 (slV [(x, q)]) rfl (flat_slX w3 x q) ?q1 ?q2 ?q3 ?_
        case q0 => rfl
        case q1 => have := HKLT.out; unfold maxLen; omega
        case q2 => have := HKLT.out; omega
        case q3 => exact HH4.out.size
        intro v' w6 hown6 hg6 _
        obtain ⟨hr6, hk6, hh6⟩ := HH3.out.app hown6 hg6
        have x5 : w6.cell? ⟨b5, 1, none⟩ = some (.slice pv l.length cv) := by rw [cell_of_row _ _ _ _ _ _ hr6]; rfl
        have f5 := frozen_of_row w6 b5 1 _ _ hr6
        have HR6 := Lib.hid (rd_appX (v' := v') HR3.out HH3.out ⟨HBR.out.1, HBR.out.2.1⟩ hg6)
        have HH6 := Lib.hid hh6
        obtain ⟨pv', cv', htv', -, -⟩ := own_slice hown6
        rw [HKL1.out] at htv'
        subst htv'
        clear hown6 hg6 hr6 hk6 hh6
        refine hK.out _ _ trivial (fun _ => ?_)
        clear hK K
        refine wpAnyH_take (i := 9) (v := ?_) rfl (by kernel_rfl) (by kernel_rfl) (by kernel_rfl) (fun _ _ _ h => h) (Or.inl ⟨by first | kernel_rfl | rfl, ?_⟩) (by assumption) ?_
        case refine_2 => intro w hSw; go_simp; try with_reducible rfl
        refine wpAnyH_ready (rs := [10]) (by kernel_rfl) (by simp) (AllReadyH.cons rfl (fun K hK => ?_) AllReadyH.nil)
        go_simp
        refine hK.out _ _ trivial (fun _ => ?_)
        clear hK K
        refine wpAnyH_done (by kernel_rfl) ?_ _
        go_wp2
        go_roundg gk'
        · exact ⟨k1, l ++ [(x, q)], _, t2, by have := HK1.out; have := HGK.out; omega, by first | rfl | (have := HK1.out; simp; omega), by have := HK1.out; have := HKLT.out; simp; omega, HH6, HR6, HSF⟩
        · have := HGK.out; omega
      · go_simp
        refine (C2.out _ HD.out.2).mono ?_
        rintro e w3 ⟨rfl, hr3, hb3⟩
        have HH3 := Lib.hid (HD.out.1.grown hb3 HBR.out)
        have HR3 := Lib.hid hr3
        have c3 := HH3.out.c1
        refine hK.out _ _ trivial (fun _ => ?_)
        clear hK K
        clear hr3 hb3
        refine wpAnyH_take (i := 5) (v := ?_) rfl (by kernel_rfl) (by kernel_rfl) (by kernel_rfl) (fun _ _ _ h => h) (Or.inl ⟨by first | kernel_rfl | rfl, ?_⟩) (by assumption) ?_
        case refine_2 => intro w hSw; go_simp; try with_reducible rfl
        refine wpAnyH_take (i := 6) (v := ?_) rfl (by kernel_rfl) (by kernel_rfl) (by kernel_rfl) (fun _ _ _ h => h) (Or.inl ⟨by first | kernel_rfl | rfl, ?_⟩) (by assumption) ?_
        case refine_2 => intro w hSw; go_simp; try with_reducible rfl
        refine wpAnyH_ready (rs := [1, 7]) (by kernel_rfl) (by simp) (AllReadyH.cons rfl (fun K hK => ?_) (AllReadyH.cons rfl (fun K hK => ?_) AllReadyH.nil))
        · go_simp
          refine hK.out _ _ trivial (fun _ => ?_)
          clear hK K
          refine wpAnyH_ready (rs := [7]) (by kernel_rfl) (by simp) (AllReadyH.cons rfl (fun K hK => ?_) AllReadyH.nil)
          go_simp
          have HH4 := Lib.hid (HH3.out.later (box_below w3 (.cells #[.int .i64 (x : Nat), .int .u32 (q : Nat)] 68)))
          have c4 := HH4.out.c1
          refine hK.out _ _ trivial (fun _ => ?_)
          clear hK K
          refine wpAnyH_ready (rs := [8]) (by kernel_rfl) (by simp) (AllReadyH.cons rfl (fun K hK => ?_) AllReadyH.nil)
          rw [if_pos (by rfl)]
          refine wp_append_flat _ _ 31 rfl (b5 + 1) 68 ir (.agg #[.int .i64 0, .int .u32 0]) 2 16 Tryd.underlying31 HIR.out HZ0.out HZ1.out HZ2.out rfl (by decide) _ l.length (slV l) ?q0 HH4.out.own _ 1 (slV [(x, q)]) rfl (flat_slX w3 x q) ?q1 ?q2 ?q3 ?_
          case q0 => rfl
          case q1 => have := HKLT.out; unfold maxLen; omega
          case q2 => have := HKLT.out; omega
          case q3 => exact HH4.out.size
          intro v' w6 hown6 hg6 _
          obtain ⟨hr6, hk6, hh6⟩ := HH3.out.app hown6 hg6
          have x5 : w6.cell? ⟨b5, 1, none⟩ = some (.slice pv l.length cv) := by rw [cell_of_row _ _ _ _ _ _ hr6]; rfl
          have f5 := frozen_of_row w6 b5 1 _ _ hr6
          have HR6 := Lib.hid (rd_appX (v' := v') HR3.out HH3.out ⟨HBR.out.1, HBR.out.2.1⟩ hg6)
          have HH6 := Lib.hid hh6
          obtain ⟨pv', cv', htv', -, -⟩ := own_slice hown6
          rw [HKL1.out] at htv'
          subst htv'
          clear hown6 hg6 hr6 hk6 hh6
          refine hK.out _ _ trivial (fun _ => ?_)
          clear hK K
          refine wpAnyH_take (i := 9) (v := ?_) rfl (by kernel_rfl) (by kernel_rfl) (by kernel_rfl) (fun _ _ _ h => h) (Or.inl ⟨by first | kernel_rfl | rfl, ?_⟩) (by assumption) ?_
          case refine_2 => intro w hSw; go_simp; try with_reducible rfl
          refine wpAnyH_ready (rs := [10]) (by kernel_rfl) (by simp) (AllReadyH.cons rfl (fun K hK => ?_) AllReadyH.nil)
          go_simp
          refine hK.out _ _ trivial (fun _ => ?_)
          clear hK K
          refine wpAnyH_done (by kernel_rfl) ?_ _
          go_wp2
          go_roundg gk'
          · exact ⟨k1, l ++ [(x, q)], _, t2, by have := HK1.out; have := HGK.out; omega, by first | rfl | (have := HK1.out; simp; omega), by have := HK1.out; have := HKLT.out; simp; omega, HH6, HR6, HSF⟩
          · have := HGK.out; omega
        · go_simp
          have HH4 := Lib.hid (HH3.out.later (box_below w3 (.cells #[.int .i64 (x : Nat), .int .u32 (q : Nat)] 68)))
          have c4 := HH4.out.c1
          refine hK.out _ _ trivial (fun _ => ?_)
          clear hK K
          refine wpAnyH_ready (rs := [1]) (by kernel_rfl) (by simp) (AllReadyH.cons rfl (fun K hK => ?_) AllReadyH.nil)
          go_simp
          refine hK.out _ _ trivial (fun _ => ?_)
          clear hK K
          refine wpAnyH_ready (rs := [8]) (by kernel_rfl) (by simp) (AllReadyH.cons rfl (fun K hK => ?_) AllReadyH.nil)
          rw [if_pos (by rfl)]
          refine wp_append_flat _ _ 31 rfl (b5 + 1) 68 ir (.agg #[.int .i64 0, .int .u32 0]) 2 16 Tryd.underlying31 HIR.out HZ0.out HZ1.out HZ2.out rfl (by decide) _ l.length (slV l) ?q0 HH4.out.own _ 1 (slV [(x, q)]) rfl (flat_slX w3 x q) ?q1 ?q2 ?q3 ?_
          case q0 => rfl
          case q1 => have := HKLT.out; unfold maxLen; omega
          case q2 => have := HKLT.out; omega
          case q3 => exact HH4.out.size
          intro v' w6 hown6 hg6 _
          obtain ⟨hr6, hk6, hh6⟩ := HH3.out.app hown6 hg6
          have x5 : w6.cell? ⟨b5, 1, none⟩ = some (.slice pv l.length cv) := by rw [cell_of_row _ _ _ _ _ _ hr6]; rfl
          have f5 := frozen_of_row w6 b5 1 _ _ hr6
          have HR6 := Lib.hid (rd_appX (v' := v') HR3.out HH3.out ⟨HBR.out.1, HBR.out.2.1⟩ hg6)
          have HH6 := Lib.hid hh6
          obtain ⟨pv', cv', htv', -, -⟩ := own_slice hown6
          rw [HKL1.out] at htv'
          subst htv'
          clear hown6 hg6 hr6 hk6 hh6
          refine hK.out _ _ trivial (fun _ => ?_)
          clear hK K
          refine wpAnyH_take (i := 9) (v := ?_) rfl (by kernel_rfl) (by kernel_rfl) (by kernel_rfl) (fun _ _ _ h => h) (Or.inl ⟨by first | kernel_rfl | rfl, ?_⟩) (by assumption) ?_
          case refine_2 => intro w hSw; go_simp; try with_reducible rfl
          refine wpAnyH_ready (rs := [10]) (by kernel_rfl) (by simp) (AllReadyH.cons rfl (fun K hK => ?_) AllReadyH.nil)
          go_simp
          refine hK.out _ _ trivial (fun _ => ?_)
          clear hK K
          refine wpAnyH_done (by kernel_rfl) ?_ _
          go_wp2
          go_roundg gk'
          · exact ⟨k1, l ++ [(x, q)], _, t2, by have := HK1.out; have := HGK.out; omega, by first | rfl | (have := HK1.out; simp; omega), by have := HK1.out; have := HKLT.out; simp; omega, HH6, HR6, HSF⟩
          · have := HGK.out; omega
    · have hkm : k = m := by omega
      have hcs : (¬ (k : Int) < n) ∨ ((k : Int) < n ∧ ¬ (k : Int) < 300) := by omega
      have hFE : (l, s') = FIN := by
        have h := HSF.out
        rw [show gk = 0 by omega] at h
        exact h
      have HFE := Lib.hid hFE
      have HH2 := Lib.hid HH.out
      have HAT : Hid (HeadIs (headR S) (.agg #[.int .u32 (id : Nat), .slice pv l.length cv]) wr) := Lib.hid (by
        rw [HHR.out, ← hFE]
        exact ⟨_, rfl, SlotsAt.own HH.out.own⟩)
      obtain ⟨E, hE⟩ : ∃ E, E = s'.2 := ⟨_, rfl⟩
      have HE : Hid (FIN.2.2 = E) := Lib.hid (by rw [← hFE, hE])
      have c2 : wr.cell? ⟨br, 2, none⟩ = some (.int .i64 E) := by
        obtain ⟨_, _, hin, _⟩ := HR.out
        rw [hE]; exact hin.c2
      have HR5 : Hid (wr.heap[b5]? = some (.cells #[.int .u32 (id : Nat), .slice pv l.length cv] 33 (0, 0))) := Lib.hid HH.out.row5
      have hll : (headR S).slots.length ≤ 1000000 := by rw [HHR.out, ← hFE]; simp only; omega
      have CZ := fun W (kk : Kept wr W) => Calls.kept_of kk (rsize14_any (headR S) (by rw [HHR.out]; have := HIDL.out; simp only; omega) _ W (HAT.out.later kk) hll)
      obtain ⟨z, hz⟩ : ∃ z, z = sizeH (headR S) := ⟨_, rfl⟩
      have HZE := Lib.hid hz
      rw [← hz] at CZ
      obtain ⟨kk, hkk⟩ : ∃ kk, kk = l.length := ⟨_, rfl⟩
      rw [← hkk] at HAT HR5 CZ HH2
      have CF := fun W (kx : Kept wr W) => Calls.kept_of kx (rfront14_any (headR S) _ W (HAT.out.later kx) hll)
      obtain ⟨fl, hfl⟩ : ∃ fl, fl = lenH (headR S) := ⟨_, rfl⟩
      have HFL := Lib.hid hfl
      rw [← hfl] at CF
      have CB0 := Lib.hid (fun (g : goodH (headR S)) W (kx : Kept wr W) => Calls.kept_of kx (rfrontB14_any (headR S) g HWF.out _ W (HAT.out.later kx)))
      clear HSF HH hFE hE hz hll hkk hfl HR hlk hkm hm
      by_cases hE0 : E = 0
      · subst hE0
        by_cases hn2 : n ≤ 256
        · have b2 : decide ((n : Int) > 256) = false := by simp; omega
          by_cases hzt : z = t.size
          · subst hzt
            have hb3 : ((t.size : Int) != (t.size : Int)) = false := by simp
            have HGD : Hid (goodH (headR S)) := Lib.hid (HGOOD.out HE.out (by rw [← HZE.out, HSL.out]))
            have hfl2 : fl ≤ t.size := by rw [HZE.out, sizeH_good HGD.out, HFL.out]; omega
            have hfi : (fl : Int) ≤ t.size := by omega
            have hfi0 : (0 : Int) ≤ fl := by omega
            have CB := CB0.out HGD.out
            obtain ⟨F, hF⟩ : ∃ F, F = str (frontH (headR S)) := ⟨_, rfl⟩
            rw [← hF] at CB
            obtain ⟨P, hP⟩ : ∃ P, P = t.extract 0 fl := ⟨_, rfl⟩
            have hex : t.extract 0 fl = P := hP.symm
            have hPS : P = str (S.take fl) := by rw [hP]; exact HEX.out fl hfl2
            by_cases hpf : P = F
            · have b4 : (P.toList == F.toList) = true := by rw [hpf]; simp
              have b5' : (!P.toList == F.toList) = false := by rw [b4]; rfl
              have HYES : Hid (G = some (headR S)) := Lib.hid (by
                rw [HOK.out, if_pos]
                refine ⟨HE.out, hn2, by rw [← HZE.out, HSL.out], ?_⟩
                rw [← HFL.out, ← str_list (S.take fl), ← hPS, hpf, hF, str_list])
              clear hF hP hPS hpf hn2 CB0 HOK HGOOD
              rcases hcs with ht1 | ⟨ht1, ht2⟩
              all_goals
                go_wp2_with fail
                refine wp_region_kept (by kernel_rfl) (by kernel_rfl) ?_
                refine wpQuiet_pure (v := ?_) (by kernel_rfl) ?_ (fun K hK => ?_)
                case refine_2 => intro W _; go_simp; try with_reducible rfl
                go_simp
                refine hK _ ?_; clear hK K
                refine wpQuiet_pure (v := ?_) (by kernel_rfl) ?_ (fun K hK => ?_)
                case refine_2 => intro W _; go_simp; try with_reducible rfl
                go_simp
                refine hK _ ?_; clear hK K
                refine wpQuiet_pure (v := ?_) (by kernel_rfl) ?_ (fun K hK => ?_)
                case refine_2 => intro W _; go_simp; try with_reducible rfl
                go_simp
                refine hK _ ?_; clear hK K
                refine wpQuiet_pure (v := ?_) (by kernel_rfl) ?_ (fun K hK => ?_)
                case refine_2 => intro W hW; have e0 := hW.cell c2; go_simp; try with_reducible rfl
                go_simp
                refine hK _ ?_; clear hK K
                refine wpQuiet_pure (v := ?_) (by kernel_rfl) ?_ (fun K hK => ?_)
                case refine_2 => intro W _; go_simp; try with_reducible rfl
                go_simp
                refine hK _ ?_; clear hK K
                refine wpQuiet_pure (v := ?_) (by kernel_rfl) ?_ (fun K hK => ?_)
                case refine_2 => intro W _; go_simp; try with_reducible rfl
                go_simp
                refine hK _ ?_; clear hK K
                refine wpQuiet_pure (v := ?_) (by kernel_rfl) ?_ (fun K hK => ?_)
                case refine_2 => intro W _; go_simp; try with_reducible rfl
                go_simp
                refine hK _ ?_; clear hK K
                refine wpQuiet_pure (v := ?_) (by kernel_rfl) ?_ (fun K hK => ?_)
                case refine_2 => intro W _; go_simp; try with_reducible rfl
                go_simp
                refine hK _ ?_; clear hK K
                refine wpQuiet_pure (v := ?_) (by kernel_rfl) ?_ (fun K hK => ?_)
                case refine_2 => intro W _; go_simp; try with_reducible rfl
                go_simp
                refine hK _ ?_; clear hK K
                refine wpQuiet_pure (v := ?_) (by kernel_rfl) ?_ (fun K hK => ?_)
                case refine_2 => intro W _; go_simp; try with_reducible rfl
                go_simp
                refine hK _ ?_; clear hK K
                refine wpQuiet_load_row (by kernel_rfl) _ _ rfl b5 rfl 33 #[.int .u32 (id : Nat), .slice pv kk cv] (0, 0) _ (fun _ h => h.row HR5.out) Tryd.underlying33 rfl infoHdX (fun K hK => ?_)
                go_simp
                refine hK _ ?_; clear hK K
                refine wpQuiet_call (by kernel_rfl) _ _ _ (fun W => by go_simp) (fun W h => CZ W h) (fun K hK => ?_)
                go_simp
                refine hK _ ?_; clear hK K
                refine wpQuiet_pure (v := ?_) (by kernel_rfl) ?_ (fun K hK => ?_)
                case refine_2 => intro W _; go_simp; try with_reducible rfl
                go_simp
                refine hK _ ?_; clear hK K
                refine wpQuiet_pure (v := ?_) (by kernel_rfl) ?_ (fun K hK => ?_)
                case refine_2 => intro W _; go_simp; try with_reducible rfl
                go_simp
                refine hK _ ?_; clear hK K
                refine wpQuiet_pure (v := ?_) (by kernel_rfl) ?_ (fun K hK => ?_)
                case refine_2 => intro W _; go_simp; try with_reducible rfl
                go_simp
                refine hK _ ?_; clear hK K
                refine wpQuiet_pure (v := ?_) (by kernel_rfl) ?_ (fun K hK => ?_)
                case refine_2 => intro W _; go_simp; try with_reducible rfl
                go_simp
                refine hK _ ?_; clear hK K
                refine wpQuiet_pure (v := ?_) (by kernel_rfl) ?_ (fun K hK => ?_)
                case refine_2 => intro W _; go_simp; try with_reducible rfl
                go_simp
                refine hK _ ?_; clear hK K
                refine wpQuiet_pure (v := ?_) (by kernel_rfl) ?_ (fun K hK => ?_)
                case refine_2 => intro W _; go_simp; try with_reducible rfl
                go_simp
                refine hK _ ?_; clear hK K
                refine wpQuiet_load_row (by kernel_rfl) _ _ rfl b5 rfl 33 #[.int .u32 (id : Nat), .slice pv kk cv] (0, 0) _ (fun _ h => h.row HR5.out) Tryd.underlying33 rfl infoHdX (fun K hK => ?_)
                go_simp
                refine hK _ ?_; clear hK K
                refine wpQuiet_call (by kernel_rfl) _ _ _ (fun W => by go_simp) (fun W h => CF W h) (fun K hK => ?_)
                go_simp
                refine hK _ ?_; clear hK K
                refine wpQuiet_pure (v := ?_) (by kernel_rfl) ?_ (fun K hK => ?_)
                case refine_2 => intro W _; go_simp; try with_reducible rfl
                go_simp
                refine hK _ ?_; clear hK K
                refine wpQuiet_load_row (by kernel_rfl) _ _ rfl b5 rfl 33 #[.int .u32 (id : Nat), .slice pv kk cv] (0, 0) _ (fun _ h => h.row HR5.out) Tryd.underlying33 rfl infoHdX (fun K hK => ?_)
                go_simp
                refine hK _ ?_; clear hK K
                refine wpQuiet_call (by kernel_rfl) _ _ _ (fun W => by go_simp) (fun W h => CB W h) (fun K hK => ?_)
                go_simp
                refine hK _ ?_; clear hK K
                refine wpQuiet_pure (v := ?_) (by kernel_rfl) ?_ (fun K hK => ?_)
                case refine_2 => intro W _; go_simp; try with_reducible rfl
                go_simp
                refine hK _ ?_; clear hK K
                refine wpQuiet_pure (v := ?_) (by kernel_rfl) ?_ (fun K hK => ?_)
                case refine_2 => intro W _; go_simp; try with_reducible rfl
                go_simp
                refine hK _ ?_; clear hK K
                refine wpQuiet_nil ?_
                intro w9 hk9
                have HH9 := Lib.hid (HH2.out.later hk9)
                have HAT9 := Lib.hid (HAT.out.later hk9)
                have g0 : w9.cell? ⟨w.heap.size, 0, none⟩ = some (.int .u32 0) := by rw [cell_of_row _ _ _ _ _ _ HH9.out.row0]; rfl
                have g1 : w9.cell? ⟨w.heap.size, 1, none⟩ = some (.slice none 0 0) := by rw [cell_of_row _ _ _ _ _ _ HH9.out.row0]; rfl
                have ff0 := frozen_of_row w9 w.heap.size 0 _ _ HH9.out.row0
                have ff1 := frozen_of_row w9 w.heap.size 1 _ _ HH9.out.row0
                have d0 := HH9.out.c0
                have d1 := HH9.out.c1
                clear hk9
                go_wp2
                refine bodyPost_ret (results_cell_tmp_rowX Tryd.results20 _ _ w.heap.size 33 #[.int .u32 (id : Nat), .slice pv kk cv] (0, 0) _ rfl (set2_row HH9.out.row0 _ _) Tryd.underlying33 rfl infoHdX) rfl ⟨⟨_, by rw [HYES.out]; rfl, ?_⟩, below_set2 HH9.out.kept (Nat.le_refl _) _ _⟩
                rw [HYES.out]
                show HeadIs (headR S) _ _
                rw [HHR.out, ← HFE.out]
                exact ⟨_, rfl, SlotsAt.own (own_set2 HH9.out.own (by have := HH9.out.ord; omega) _ _)⟩
            · have b4 : (P.toList == F.toList) = false := text_neX hpf
              have b5' : (!P.toList == F.toList) = true := by rw [b4]; rfl
              have HNO : Hid (G = none) := Lib.hid (by
                rw [HOK.out, if_neg]
                rintro ⟨-, -, -, h⟩
                rw [← HFL.out] at h
                exact hpf (by rw [hPS, h, hF]))
              clear hF hP hPS hpf hn2 CB0 HOK HGOOD
              rcases hcs with ht1 | ⟨ht1, ht2⟩
              all_goals
                go_wp2_with fail
                refine wp_region_kept (by kernel_rfl) (by kernel_rfl) ?_
                refine wpQuiet_pure (v := ?_) (by kernel_rfl) ?_ (fun K hK => ?_)
                case refine_2 => intro W _; go_simp; try with_reducible rfl
                go_simp
                refine hK _ ?_; clear hK K
                refine wpQuiet_pure (v := ?_) (by kernel_rfl) ?_ (fun K hK => ?_)
                case refine_2 => intro W _; go_simp; try with_reducible rfl
                go_simp
                refine hK _ ?_; clear hK K
                refine wpQuiet_pure (v := ?_) (by kernel_rfl) ?_ (fun K hK => ?_)
                case refine_2 => intro W _; go_simp; try with_reducible rfl
                go_simp
                refine hK _ ?_; clear hK K
                refine wpQuiet_pure (v := ?_) (by kernel_rfl) ?_ (fun K hK => ?_)
                case refine_2 => intro W hW; have e0 := hW.cell c2; go_simp; try with_reducible rfl
                go_simp
                refine hK _ ?_; clear hK K
                refine wpQuiet_pure (v := ?_) (by kernel_rfl) ?_ (fun K hK => ?_)
                case refine_2 => intro W _; go_simp; try with_reducible rfl
                go_simp
                refine hK _ ?_; clear hK K
                refine wpQuiet_pure (v := ?_) (by kernel_rfl) ?_ (fun K hK => ?_)
                case refine_2 => intro W _; go_simp; try with_reducible rfl
                go_simp
                refine hK _ ?_; clear hK K
                refine wpQuiet_pure (v := ?_) (by kernel_rfl) ?_ (fun K hK => ?_)
                case refine_2 => intro W _; go_simp; try with_reducible rfl
                go_simp
                refine hK _ ?_; clear hK K
                refine wpQuiet_pure (v := ?_) (by kernel_rfl) ?_ (fun K hK => ?_)
                case refine_2 => intro W _; go_simp; try with_reducible rfl
                go_simp
                refine hK _ ?_; clear hK K
                refine wpQuiet_pure (v := ?_) (by kernel_rfl) ?_ (fun K hK => ?_)
                case refine_2 => intro W _; go_simp; try with_reducible rfl
                go_simp
                refine hK _ ?_; clear hK K
                refine wpQuiet_pure (v := ?_) (by kernel_rfl) ?_ (fun K hK => ?_)
                case refine_2 => intro W _; go_simp; try with_reducible rfl
                go_simp
                refine hK _ ?_; clear hK K
                refine wpQuiet_load_row (by kernel_rfl) _ _ rfl b5 rfl 33 #[.int .u32 (id : Nat), .slice pv kk cv] (0, 0) _ (fun _ h => h.row HR5.out) Tryd.underlying33 rfl infoHdX (fun K hK => ?_)
                go_simp
                refine hK _ ?_; clear hK K
                refine wpQuiet_call (by kernel_rfl) _ _ _ (fun W => by go_simp) (fun W h => CZ W h) (fun K hK => ?_)
                go_simp
                refine hK _ ?_; clear hK K
                refine wpQuiet_pure (v := ?_) (by kernel_rfl) ?_ (fun K hK => ?_)
                case refine_2 => intro W _; go_simp; try with_reducible rfl
                go_simp
                refine hK _ ?_; clear hK K
                refine wpQuiet_pure (v := ?_) (by kernel_rfl) ?_ (fun K hK => ?_)
                case refine_2 => intro W _; go_simp; try with_reducible rfl
                go_simp
                refine hK _ ?_; clear hK K
                refine wpQuiet_pure (v := ?_) (by kernel_rfl) ?_ (fun K hK => ?_)
                case refine_2 => intro W _; go_simp; try with_reducible rfl
                go_simp
                refine hK _ ?_; clear hK K
                refine wpQuiet_pure (v := ?_) (by kernel_rfl) ?_ (fun K hK => ?_)
                case refine_2 => intro W _; go_simp; try with_reducible rfl
                go_simp
                refine hK _ ?_; clear hK K
                refine wpQuiet_pure (v := ?_) (by kernel_rfl) ?_ (fun K hK => ?_)
                case refine_2 => intro W _; go_simp; try with_reducible rfl
                go_simp
                refine hK _ ?_; clear hK K
                refine wpQuiet_pure (v := ?_) (by kernel_rfl) ?_ (fun K hK => ?_)
                case refine_2 => intro W _; go_simp; try with_reducible rfl
                go_simp
                refine hK _ ?_; clear hK K
                refine wpQuiet_load_row (by kernel_rfl) _ _ rfl b5 rfl 33 #[.int .u32 (id : Nat), .slice pv kk cv] (0, 0) _ (fun _ h => h.row HR5.out) Tryd.underlying33 rfl infoHdX (fun K hK => ?_)
                go_simp
                refine hK _ ?_; clear hK K
                refine wpQuiet_call (by kernel_rfl) _ _ _ (fun W => by go_simp) (fun W h => CF W h) (fun K hK => ?_)
                go_simp
                refine hK _ ?_; clear hK K
                refine wpQuiet_pure (v := ?_) (by kernel_rfl) ?_ (fun K hK => ?_)
                case refine_2 => intro W _; go_simp; try with_reducible rfl
                go_simp
                refine hK _ ?_; clear hK K
                refine wpQuiet_load_row (by kernel_rfl) _ _ rfl b5 rfl 33 #[.int .u32 (id : Nat), .slice pv kk cv] (0, 0) _ (fun _ h => h.row HR5.out) Tryd.underlying33 rfl infoHdX (fun K hK => ?_)
                go_simp
                refine hK _ ?_; clear hK K
                refine wpQuiet_call (by kernel_rfl) _ _ _ (fun W => by go_simp) (fun W h => CB W h) (fun K hK => ?_)
                go_simp
                refine hK _ ?_; clear hK K
                refine wpQuiet_pure (v := ?_) (by kernel_rfl) ?_ (fun K hK => ?_)
                case refine_2 => intro W _; go_simp; try with_reducible rfl
                go_simp
                refine hK _ ?_; clear hK K
                refine wpQuiet_pure (v := ?_) (by kernel_rfl) ?_ (fun K hK => ?_)
                case refine_2 => intro W _; go_simp; try with_reducible rfl
                go_simp
                refine hK _ ?_; clear hK K
                refine wpQuiet_nil ?_
                intro w9 hk9
                have HH9 := Lib.hid (HH2.out.later hk9)
                have g0 : w9.cell? ⟨w.heap.size, 0, none⟩ = some (.int .u32 0) := by rw [cell_of_row _ _ _ _ _ _ HH9.out.row0]; rfl
                have g1 : w9.cell? ⟨w.heap.size, 1, none⟩ = some (.slice none 0 0) := by rw [cell_of_row _ _ _ _ _ _ HH9.out.row0]; rfl
                have ff0 := frozen_of_row w9 w.heap.size 0 _ _ HH9.out.row0
                have ff1 := frozen_of_row w9 w.heap.size 1 _ _ HH9.out.row0
                clear hk9
                go_wp2
                refine bodyPost_ret (results_cell_tmp_rowX Tryd.results20 _ _ w.heap.size 33 #[.int .u32 0, .slice none 0 0] (0, 0) _ rfl (set2_row HH9.out.row0 _ _) Tryd.underlying33 rfl infoHdX) rfl ⟨⟨.agg #[.int .u32 0, .slice none 0 0], by rw [HNO.out]; rfl, by rw [HNO.out]; exact HeadIs.zero _⟩, below_set2 HH9.out.kept (Nat.le_refl _) _ _⟩
          · have hb3 : ((z : Int) != (t.size : Int)) = true := by rw [bne_iff_ne]; omega
            have HNO : Hid (G = none) := Lib.hid (by
              rw [HOK.out, if_neg]
              rintro ⟨-, -, h, -⟩
              exact hzt (by rw [HZE.out, h, HSL.out]))
            clear hzt hn2 CB0 HOK HGOOD CF
            rcases hcs with ht1 | ⟨ht1, ht2⟩
            all_goals
              go_wp2_with fail
              refine wp_region_kept (by kernel_rfl) (by kernel_rfl) ?_
              refine wpQuiet_pure (v := ?_) (by kernel_rfl) ?_ (fun K hK => ?_)
              case refine_2 => intro W _; go_simp; try with_reducible rfl
              go_simp
              refine hK _ ?_; clear hK K
              refine wpQuiet_pure (v := ?_) (by kernel_rfl) ?_ (fun K hK => ?_)
              case refine_2 => intro W _; go_simp; try with_reducible rfl
              go_simp
              refine hK _ ?_; clear hK K
              refine wpQuiet_pure (v := ?_) (by kernel_rfl) ?_ (fun K hK => ?_)
              case refine_2 => intro W _; go_simp; try with_reducible rfl
              go_simp
              refine hK _ ?_; clear hK K
              refine wpQuiet_pure (v := ?_) (by kernel_rfl) ?_ (fun K hK => ?_)
              case refine_2 => intro W hW; have e0 := hW.cell c2; go_simp; try with_reducible rfl
              go_simp
              refine hK _ ?_; clear hK K
              refine wpQuiet_pure (v := ?_) (by kernel_rfl) ?_ (fun K hK => ?_)
              case refine_2 => intro W _; go_simp; try with_reducible rfl
              go_simp
              refine hK _ ?_; clear hK K
              refine wpQuiet_pure (v := ?_) (by kernel_rfl) ?_ (fun K hK => ?_)
              case refine_2 => intro W _; go_simp; try with_reducible rfl
              go_simp
              refine hK _ ?_; clear hK K
              refine wpQuiet_pure (v := ?_) (by kernel_rfl) ?_ (fun K hK => ?_)
              case refine_2 => intro W _; go_simp; try with_reducible rfl
              go_simp
              refine hK _ ?_; clear hK K
              refine wpQuiet_pure (v := ?_) (by kernel_rfl) ?_ (fun K hK => ?_)
              case refine_2 => intro W _; go_simp; try with_reducible rfl
              go_simp
              refine hK _ ?_; clear hK K
              refine wpQuiet_pure (v := ?_) (by kernel_rfl) ?_ (fun K hK => ?_)
              case refine_2 => intro W _; go_simp; try with_reducible rfl
              go_simp
              refine hK _ ?_; clear hK K
              refine wpQuiet_pure (v := ?_) (by kernel_rfl) ?_ (fun K hK => ?_)
              case refine_2 => intro W _; go_simp; try with_reducible rfl
              go_simp
              refine hK _ ?_; clear hK K
              refine wpQuiet_load_row (by kernel_rfl) _ _ rfl b5 rfl 33 #[.int .u32 (id : Nat), .slice pv kk cv] (0, 0) _ (fun _ h => h.row HR5.out) Tryd.underlying33 rfl infoHdX (fun K hK => ?_)
              go_simp
              refine hK _ ?_; clear hK K
              refine wpQuiet_call (by kernel_rfl) _ _ _ (fun W => by go_simp) (fun W h => CZ W h) (fun K hK => ?_)
              go_simp
              refine hK _ ?_; clear hK K
              refine wpQuiet_pure (v := ?_) (by kernel_rfl) ?_ (fun K hK => ?_)
              case refine_2 => intro W _; go_simp; try with_reducible rfl
              go_simp
              refine hK _ ?_; clear hK K
              refine wpQuiet_pure (v := ?_) (by kernel_rfl) ?_ (fun K hK => ?_)
              case refine_2 => intro W _; go_simp; try with_reducible rfl
              go_simp
              refine hK _ ?_; clear hK K
              refine wpQuiet_pure (v := ?_) (by kernel_rfl) ?_ (fun K hK => ?_)
              case refine_2 => intro W _; go_simp; try with_reducible rfl
              go_simp
              refine hK _ ?_; clear hK K
              refine wpQuiet_pure (v := ?_) (by kernel_rfl) ?_ (fun K hK => ?_)
              case refine_2 => intro W _; go_simp; try with_reducible rfl
              go_simp
              refine hK _ ?_; clear hK K
              refine wpQuiet_pure (v := ?_) (by kernel_rfl) ?_ (fun K hK => ?_)
              case refine_2 => intro W _; go_simp; try with_reducible rfl
              go_simp
              refine hK _ ?_; clear hK K
              go_big_quiet_skip
              go_big_quiet_skip
              go_big_quiet_skip
              go_big_quiet_skip
              go_big_quiet_skip
              go_big_quiet_skip
              go_big_quiet_skip
              refine wpQuiet_pure (v := ?_) (by kernel_rfl) ?_ (fun K hK => ?_)
              case refine_2 => intro W _; go_simp; try with_reducible rfl
              go_simp
              refine hK _ ?_; clear hK K
              refine wpQuiet_nil ?_
              intro w9 hk9
              have HH9 := Lib.hid (HH2.out.later hk9)
              have g0 : w9.cell? ⟨w.heap.size, 0, none⟩ = some (.int .u32 0) := by rw [cell_of_row _ _ _ _ _ _ HH9.out.row0]; rfl
              have g1 : w9.cell? ⟨w.heap.size, 1, none⟩ = some (.slice none 0 0) := by rw [cell_of_row _ _ _ _ _ _ HH9.out.row0]; rfl
              have ff0 := frozen_of_row w9 w.heap.size 0 _ _ HH9.out.row0
              have ff1 := frozen_of_row w9 w.heap.size 1 _ _ HH9.out.row0
              clear hk9
              go_wp2
              refine bodyPost_ret (results_cell_tmp_rowX Tryd.results20 _ _ w.heap.size 33 #[.int .u32 0, .slice none 0 0] (0, 0) _ rfl (set2_row HH9.out.row0 _ _) Tryd.underlying33 rfl infoHdX) rfl ⟨⟨.agg #[.int .u32 0, .slice none 0 0], by rw [HNO.out]; rfl, by rw [HNO.out]; exact HeadIs.zero _⟩, below_set2 HH9.out.kept (Nat.le_refl _) _ _⟩
        · have b2 : decide ((n : Int) > 256) = true := by simp; omega
          have HNO : Hid (G = none) := Lib.hid (by
            rw [HOK.out, if_neg]
            exact fun h => hn2 h.2.1)
          clear hn2 CB0 HOK HGOOD CF CZ
          rcases hcs with ht1 | ⟨ht1, ht2⟩
          all_goals
            go_wp2_with fail
            refine wp_region_kept (by kernel_rfl) (by kernel_rfl) ?_
            refine wpQuiet_pure (v := ?_) (by kernel_rfl) ?_ (fun K hK => ?_)
            case refine_2 => intro W _; go_simp; try with_reducible rfl
            go_simp
            refine hK _ ?_; clear hK K
            refine wpQuiet_pure (v := ?_) (by kernel_rfl) ?_ (fun K hK => ?_)
            case refine_2 => intro W _; go_simp; try with_reducible rfl
            go_simp
            refine hK _ ?_; clear hK K
            refine wpQuiet_pure (v := ?_) (by kernel_rfl) ?_ (fun K hK => ?_)
            case refine_2 => intro W _; go_simp; try with_reducible rfl
            go_simp
            refine hK _ ?_; clear hK K
            refine wpQuiet_pure (v := ?_) (by kernel_rfl) ?_ (fun K hK => ?_)
            case refine_2 => intro W hW; have e0 := hW.cell c2; go_simp; try with_reducible rfl
            go_simp
            refine hK _ ?_; clear hK K
            refine wpQuiet_pure (v := ?_) (by kernel_rfl) ?_ (fun K hK => ?_)
            case refine_2 => intro W _; go_simp; try with_reducible rfl
            go_simp
            refine hK _ ?_; clear hK K
            refine wpQuiet_pure (v := ?_) (by kernel_rfl) ?_ (fun K hK => ?_)
            case refine_2 => intro W _; go_simp; try with_reducible rfl
            go_simp
            refine hK _ ?_; clear hK K
            refine wpQuiet_pure (v := ?_) (by kernel_rfl) ?_ (fun K hK => ?_)
            case refine_2 => intro W _; go_simp; try with_reducible rfl
            go_simp
            refine hK _ ?_; clear hK K
            refine wpQuiet_pure (v := ?_) (by kernel_rfl) ?_ (fun K hK => ?_)
            case refine_2 => intro W _; go_simp; try with_reducible rfl
            go_simp
            refine hK _ ?_; clear hK K
            refine wpQuiet_pure (v := ?_) (by kernel_rfl) ?_ (fun K hK => ?_)
            case refine_2 => intro W _; go_simp; try with_reducible rfl
            go_simp
            refine hK _ ?_; clear hK K
            refine wpQuiet_pure (v := ?_) (by kernel_rfl) ?_ (fun K hK => ?_)
            case refine_2 => intro W _; go_simp; try with_reducible rfl
            go_simp
            refine hK _ ?_; clear hK K
            go_big_quiet_skip
            go_big_quiet_skip
            go_big_quiet_skip
            go_big_quiet_skip
            go_big_quiet_skip
            refine wpQuiet_pure (v := ?_) (by kernel_rfl) ?_ (fun K hK => ?_)
            case refine_2 => intro W _; go_simp; try with_reducible rfl
            go_simp
            refine hK _ ?_; clear hK K
            refine wpQuiet_pure (v := ?_) (by kernel_rfl) ?_ (fun K hK => ?_)
            case refine_2 => intro W _; go_simp; try with_reducible rfl
            go_simp
            refine hK _ ?_; clear hK K
            go_big_quiet_skip
            go_big_quiet_skip
            go_big_quiet_skip
            go_big_quiet_skip
            go_big_quiet_skip
            go_big_quiet_skip
            go_big_quiet_skip
            refine wpQuiet_pure (v := ?_) (by kernel_rfl) ?_ (fun K hK => ?_)
            case refine_2 => intro W _; go_simp; try with_reducible rfl
            go_simp
            refine hK _ ?_; clear hK K
            refine wpQuiet_nil ?_
            intro w9 hk9
            have HH9 := Lib.hid (HH2.out.later hk9)
            have g0 : w9.cell? ⟨w.heap.size, 0, none⟩ = some (.int .u32 0) := by rw [cell_of_row _ _ _ _ _ _ HH9.out.row0]; rfl
            have g1 : w9.cell? ⟨w.heap.size, 1, none⟩ = some (.slice none 0 0) := by rw [cell_of_row _ _ _ _ _ _ HH9.out.row0]; rfl
            have ff0 := frozen_of_row w9 w.heap.size 0 _ _ HH9.out.row0
            have ff1 := frozen_of_row w9 w.heap.size 1 _ _ HH9.out.row0
            clear hk9
            go_wp2
            refine bodyPost_ret (results_cell_tmp_rowX Tryd.results20 _ _ w.heap.size 33 #[.int .u32 0, .slice none 0 0] (0, 0) _ rfl (set2_row HH9.out.row0 _ _) Tryd.underlying33 rfl infoHdX) rfl ⟨⟨.agg #[.int .u32 0, .slice none 0 0], by rw [HNO.out]; rfl, by rw [HNO.out]; exact HeadIs.zero _⟩, below_set2 HH9.out.kept (Nat.le_refl _) _ _⟩
      · have b2 : (E != 0) = true := by rw [bne_iff_ne]; exact hE0
        have HNO : Hid (G = none) := Lib.hid (by
          rw [HOK.out, if_neg]
          exact fun h => hE0 (by rw [← HE.out]; exact h.1))
        clear hE0 CB0 HOK HGOOD CF CZ
        rcases hcs with ht1 | ⟨ht1, ht2⟩
        all_goals
          go_wp2_with fail
          refine wp_region_kept (by kernel_rfl) (by kernel_rfl) ?_
          refine wpQuiet_pure (v := ?_) (by kernel_rfl) ?_ (fun K hK => ?_)
          case refine_2 => intro W _; go_simp; try with_reducible rfl
          go_simp
          refine hK _ ?_; clear hK K
          refine wpQuiet_pure (v := ?_) (by kernel_rfl) ?_ (fun K hK => ?_)
          case refine_2 => intro W _; go_simp; try with_reducible rfl
          go_simp
          refine hK _ ?_; clear hK K
          refine wpQuiet_pure (v := ?_) (by kernel_rfl) ?_ (fun K hK => ?_)
          case refine_2 => intro W _; go_simp; try with_reducible rfl
          go_simp
          refine hK _ ?_; clear hK K
          refine wpQuiet_pure (v := ?_) (by kernel_rfl) ?_ (fun K hK => ?_)
          case refine_2 => intro W hW; have e0 := hW.cell c2; go_simp; try with_reducible rfl
          go_simp
          refine hK _ ?_; clear hK K
          refine wpQuiet_pure (v := ?_) (by kernel_rfl) ?_ (fun K hK => ?_)
          case refine_2 => intro W _; go_simp; try with_reducible rfl
          go_simp
          refine hK _ ?_; clear hK K
          refine wpQuiet_pure (v := ?_) (by kernel_rfl) ?_ (fun K hK => ?_)
          case refine_2 => intro W _; go_simp; try with_reducible rfl
          go_simp
          refine hK _ ?_; clear hK K
          go_big_quiet_skip
          go_big_quiet_skip
          refine wpQuiet_pure (v := ?_) (by kernel_rfl) ?_ (fun K hK => ?_)
          case refine_2 => intro W _; go_simp; try with_reducible rfl
          go_simp
          refine hK _ ?_; clear hK K
          refine wpQuiet_pure (v := ?_) (by kernel_rfl) ?_ (fun K hK => ?_)
          case refine_2 => intro W _; go_simp; try with_reducible rfl
          go_simp
          refine hK _ ?_; clear hK K
          go_big_quiet_skip
          go_big_quiet_skip
          go_big_quiet_skip
          go_big_quiet_skip
          go_big_quiet_skip
          refine wpQuiet_pure (v := ?_) (by kernel_rfl) ?_ (fun K hK => ?_)
          case refine_2 => intro W _; go_simp; try with_reducible rfl
          go_simp
          refine hK _ ?_; clear hK K
          refine wpQuiet_pure (v := ?_) (by kernel_rfl) ?_ (fun K hK => ?_)
          case refine_2 => intro W _; go_simp; try with_reducible rfl
          go_simp
          refine hK _ ?_; clear hK K
          go_big_quiet_skip
          go_big_quiet_skip
          go_big_quiet_skip
          go_big_quiet_skip
          go_big_quiet_skip
          go_big_quiet_skip
          go_big_quiet_skip
          refine wpQuiet_pure (v := ?_) (by kernel_rfl) ?_ (fun K hK => ?_)
          case refine_2 => intro W _; go_simp; try with_reducible rfl
          go_simp
          refine hK _ ?_; clear hK K
          refine wpQuiet_nil ?_
          intro w9 hk9
          have HH9 := Lib.hid (HH2.out.later hk9)
          have g0 : w9.cell? ⟨w.heap.size, 0, none⟩ = some (.int .u32 0) := by rw [cell_of_row _ _ _ _ _ _ HH9.out.row0]; rfl
          have g1 : w9.cell? ⟨w.heap.size, 1, none⟩ = some (.slice none 0 0) := by rw [cell_of_row _ _ _ _ _ _ HH9.out.row0]; rfl
          have ff0 := frozen_of_row w9 w.heap.size 0 _ _ HH9.out.row0
          have ff1 := frozen_of_row w9 w.heap.size 1 _ _ HH9.out.row0
          clear hk9
          go_wp2
          refine bodyPost_ret (results_cell_tmp_rowX Tryd.results20 _ _ w.heap.size 33 #[.int .u32 0, .slice none 0 0] (0, 0) _ rfl (set2_row HH9.out.row0 _ _) Tryd.underlying33 rfl infoHdX) rfl ⟨⟨.agg #[.int .u32 0, .slice none 0 0], by rw [HNO.out]; rfl, by rw [HNO.out]; exact HeadIs.zero _⟩, below_set2 HH9.out.kept (Nat.le_refl _) _ _⟩

end Go.Proofs.YtdmbebafpamgfaaDoor
