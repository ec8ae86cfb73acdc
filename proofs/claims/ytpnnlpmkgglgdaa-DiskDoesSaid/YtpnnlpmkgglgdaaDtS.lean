/- The program's disk: which writes survive (closures), the walk of settle. -/
import Derived.Test.YtpnnlpmkgglgdaaDtW
import Derived.Laws.IdiomCopy
import Derived.StillTailTactics
namespace Go.Proofs.Ytpnnlpmkgglgdaa
open Go.RowKit

set_option maxRecDepth 100000 in
theorem keepAll_any (k : Nat) (w : World) : Calls Try.prog 40 #[.int .i64 (k : Int)] w fun e w' => e = .returned (.bool true) ∧ w = w' := by
  go_enter Try.func40, Try.ntmps40
  go_wp2
  go_ret
  exact ⟨rfl, rfl⟩

def keptV (gb : Nat) : Value := .func (.func 45) #[] #[.pointer (some ⟨gb, 0, none⟩)]

set_option maxRecDepth 100000 in
theorem keptBy_any (kv : Value) (p : Option Addr) (n c : Nat) (hkv : kv = .slice p n c) (w : World) : Calls Try.prog 41 #[kv] w fun e w' => e = .returned (keptV w.heap.size) ∧ w' = w.alloc (.cells #[kv] 30) := by
  subst hkv
  go_enter Try.func41, Try.ntmps41
  go_wp2
  go_ret
  exact ⟨rfl, rfl⟩

set_option maxRecDepth 100000 in
set_option maxHeartbeats 1000000 in
theorem kept1_any (gb : Nat) (l : List Bool) (kv : Value) (k : Nat) (w : World) (hr : w.heap[gb]? = some (.cells #[kv] 30 (0, 0))) (hkv : BoolAt l kv w) :
    Calls Try.prog 45 #[.int .i64 (k : Int), .pointer (some ⟨gb, 0, none⟩)] w fun e w' => e = .returned (.bool (keepL l k)) ∧ w = w' := by
  have c0 : w.cell? ⟨gb, 0, none⟩ = some kv := by rw [cell_of_row _ _ _ _ _ _ hr]; rfl
  obtain ⟨p, c, rfl, hc⟩ := hkv
  clear hr
  by_cases hk : k < l.length
  · rcases hc with h0 | ⟨b, off, rfl, hcell⟩
    · rw [h0] at hk; simp at hk
    have ck := hcell k hk
    have e1 : keepL l k = l.getD k false := rfl
    rw [e1]
    obtain ⟨x, hx⟩ : ∃ x, x = l.getD k false := ⟨_, rfl⟩
    rw [← hx] at ck ⊢
    obtain ⟨n, hn⟩ : ∃ n, n = l.length := ⟨_, rfl⟩
    rw [← hn] at c0 hk
    have i1 : (k : Int) < n := by omega
    have i2 : (0 : Int) ≤ k := by omega
    clear hcell hx hn e1
    go_enter Try.func45, Try.ntmps45
    go_wp2
    go_ret
    exact ⟨rfl, rfl⟩
  · have e1 : keepL l k = false := by unfold keepL; rw [List.getD_eq_getElem?_getD, List.getElem?_eq_none (by omega)]; rfl
    rw [e1]
    obtain ⟨n, hn⟩ : ∃ n, n = l.length := ⟨_, rfl⟩
    rw [← hn] at c0 hk
    have i1 : ¬ (k : Int) < n := by omega
    clear hc hn e1
    go_enter Try.func45, Try.ntmps45
    go_wp2
    go_ret
    exact ⟨rfl, rfl⟩

/-- What decides which writes survive. -/
def FnOk (B b : Nat) (keep : Nat → Bool) (fv : Value) (w : World) : Prop :=
  (keep = keepAll ∧ fv = .func (.func 40) #[] #[]) ∨
  ∃ gb l kv, keep = keepL l ∧ fv = keptV gb ∧ gb ≠ b ∧ w.heap[gb]? = some (.cells #[kv] 30 (0, 0)) ∧ ∀ w', w.heap.size ≤ w'.heap.size → (∀ k, k < B → k < w.heap.size → w'.heap[k]? = w.heap[k]?) → BoolAt l kv w'

/-- A disk some of whose pending writes stand already. -/
def midS (keep : Nat → Bool) (s : Dk) (k : Nat) : Dk := ⟨standK keep s.stands s.waits k, s.waits, s.fuse, s.ops, s.down⟩

theorem midS_ok {s : Dk} (h : s.ok) (keep : Nat → Bool) (k : Nat) (hk : k ≤ s.waits.length) : (midS keep s k).ok := by
  have hl := standK_len keep s.stands s.waits k
  exact ⟨standK_sect keep s.stands s.waits h.sect (fun p hp => (h.wait p hp).2) k hk, by show 1 ≤ (standK keep s.stands s.waits k).length; rw [hl]; exact h.pos, by show (standK keep s.stands s.waits k).length ≤ 8192; rw [hl]; exact h.most, fun p hp => by show p.1 < (standK keep s.stands s.waits k).length ∧ _; rw [hl]; exact h.wait p hp, h.few, h.fz⟩

theorem DAt.midS {B g b c m : Nat} {s : Dk} {vp : Value} {w wx : World} (h : DAt B g b c m s vp w) (hok : s.ok) (keep : Nat → Bool) (k : Nat) (hk : k ≤ s.waits.length) (hd : BytesAt b (standK keep s.stands s.waits k).flatten wx) (hb : ButBy (fun j => j = b) w wx) : DAt B g b c m (midS keep s k) vp wx := by
  have ap := h.apart
  have hi : (Proofs.Ytpnnlpmkgglgdaa.midS keep s k).image.length = s.image.length := by rw [(midS_ok hok keep k hk).image_len, hok.image_len]; show 128 * (standK keep s.stands s.waits k).length = _; rw [standK_len]
  refine ⟨h.base, ?_, h.hb, by rw [hi]; exact h.cap, hd, own_stay h.pend (fun j e => hb.block j (h.pend.lt j e).2 (fun x => ap.2.2.2.2.1 (by rw [e, x]))), h.hm, h.map.stay (hb.block m h.map.lt ap.2.2.1)⟩
  rw [hb.block g (h.lt g (Or.inl rfl)).2 (fun x => ap.1 x.symm), h.row, hi]
  rfl

set_option maxRecDepth 100000 in
set_option maxHeartbeats 4000000 in
theorem dsettle_any {B g b c m : Nat} {s : Dk} {vp : Value} {w : World} (h : DAt B g b c m s vp w) (hok : s.ok) (hlo : s.ops ≤ 4294967296) (keep : Nat → Bool) (fv : Value) (hf : FnOk B b keep fv w) :
    Calls Try.prog 39 #[.pointer (some ⟨g, 0, none⟩), fv] w (DsPost B g b c m (s.stand keep) vp (.tuple #[]) w) := by
  obtain ⟨p, cp, hvp, -, hcp⟩ := own_slice h.pend
  have c2 : w.cell? ⟨g, 2, none⟩ = some vp := h.cell 2 _ rfl
  rw [hvp] at c2
  have hml : s.waits.length ≤ 4294967296 := Nat.le_trans hok.few hlo
  have HH := Lib.hid h
  have HOK := Lib.hid hok
  obtain ⟨ws, hws⟩ : ∃ ws, ws = s.waits := ⟨_, rfl⟩
  have HWS := Lib.hid hws
  rw [← hws] at c2 hml hcp
  obtain ⟨n, hn⟩ : ∃ n, n = ws.length := ⟨_, rfl⟩
  have HN := Lib.hid hn
  rw [← hn] at c2 hml hcp
  obtain ⟨st, hst⟩ : ∃ st, st = s.stands := ⟨_, rfl⟩
  have HST := Lib.hid hst
  obtain ⟨sN, hsN⟩ : ∃ sN, sN = s.stand keep := ⟨_, rfl⟩
  rw [← hsN]
  have HSN := Lib.hid hsN
  obtain ⟨L, hL⟩ : ∃ L, L = s.image.length := ⟨_, rfl⟩
  have HL := Lib.hid hL
  have hLb : L ≤ 1048576 := by rw [hL, hok.image_len]; have := hok.most; omega
  have D0 : Hid (BytesAt b (standK keep st ws 0).flatten w) := Lib.hid (by rw [hst]; exact h.dur)
  have B0 : Hid (ButBy (fun j => j = b) w w) := Lib.hid (but_refl _ w)
  have HCP := Lib.hid hcp
  obtain ⟨iw, Z, -, -, -, -, hZ, hzv⟩ := infoPw
  have HZS := Lib.hid hZ
  clear hZ
  have hbl : b < w.heap.size := h.dur.lt
  have hCK : ∃ F ex, fv = .func (.func F) #[] ex ∧ (F = 40 ∧ ex = #[] ∨ F = 45 ∧ ∃ gb, ex = #[.pointer (some ⟨gb, 0, none⟩)]) ∧ ∀ W, ButBy (fun j => j = b) w W → ∀ k : Nat, Calls Try.prog F (#[.int .i64 (k : Int)] ++ ex) W fun e w' => e = .returned (.bool (keep k)) ∧ W = w' := by
    rcases hf with ⟨rfl, rfl⟩ | ⟨gb, l, kv, rfl, rfl, hgb, hrow, hbo⟩
    · exact ⟨_, _, rfl, Or.inl ⟨rfl, rfl⟩, fun W _ k => keepAll_any k W⟩
    · refine ⟨_, _, rfl, Or.inr ⟨rfl, gb, rfl⟩, fun W hW k => kept1_any gb l kv k W ?_ (hbo W hW.size (fun j hj hl => hW.block j hl (by have := h.hb; omega)))⟩
      rw [hW.block gb (Array.getElem?_eq_some_iff.1 hrow).1 hgb]; exact hrow
  obtain ⟨F, ex, rfl, hform, CK⟩ := hCK
  have HCK := Lib.hid CK
  have HVP := Lib.hid hvp
  clear hsN hst hn hws h hok hvp hcp hlo hf hL CK
  rcases hform with ⟨rfl, rfl⟩ | ⟨rfl, gb, rfl⟩
  all_goals
    go_enter Try.func39, Try.ntmps39
    go_wp2
    go_loopg [11] n (fun gh s11 wx => ∃ k : Nat, k + gh = n ∧ s11 = .int .i64 k ∧ Hid (BytesAt b (standK keep st ws k).flatten wx) ∧ Hid (ButBy (fun j => j = b) w wx))
    case atStart => exact ⟨0, by omega, rfl, D0, B0⟩
    case round =>
      clear D0 B0
      obtain ⟨k, hkg, rfl, HD, HB⟩ := hrel
      have ap := HH.out.apart
      have hrowg : wr.heap[g]? = some (.cells (dA g s b s.image.length c vp m) 59 (0, 0)) := by rw [HB.out.block g (HH.out.lt g (Or.inl rfl)).2 (fun x => ap.1 x.symm)]; exact HH.out.row
      by_cases hkn : k < n
      · have hki : (k : Int) < n := by omega
        have hki0 : (0 : Int) ≤ k := by omega
        have bk : decide ((k : Int) < (n : Int)) = true := by simpa using hki
        have hkl : k < ws.length := by rw [← HN.out]; exact hkn
        have hwk := HOK.out.wait ws[k] (by rw [← HWS.out]; exact List.getElem_mem hkl)
        have hwl : ∀ p ∈ ws, p.2.length = 128 := fun p hp => (HOK.out.wait p (by rw [← HWS.out]; exact hp)).2
        obtain ⟨gp, cp', cur, hvp', -, hgc, -, hcs, hext, hc0, hcb⟩ := own_cut (ws := ws) (n := n) (by have h := HH.out.pend; rw [← HWS.out, ← HN.out] at h; exact h) HN.out hwl k hkl
        have hgpb : gp ≠ b := fun y => ap.2.2.2.2.1 (by rw [hvp', y]; rfl)
        have hgr : wr.heap[gp]? = some (.cells cur 64 (0, 0)) := (HB.out.block gp (Array.getElem?_eq_some_iff.1 hgc).1 hgpb).trans hgc
        have hpp : p = some ⟨gp, 0, none⟩ ∧ cp = cp' := by
          have e := HVP.out.symm.trans hvp'
          simp only [Value.slice.injEq] at e
          exact ⟨e.1, e.2.2⟩
        obtain ⟨rfl, rfl⟩ := hpp
        have hnx := standK_next keep st ws k hkl
        obtain ⟨a, ha⟩ : ∃ a, a = ws[k].1 := ⟨_, rfl⟩
        obtain ⟨x, hx⟩ : ∃ x, x = ws[k].2 := ⟨_, rfl⟩
        rw [← ha, ← hx] at hnx hwk
        rw [← ha, ← hx] at hext
        obtain ⟨C, hC⟩ : ∃ C, C = (wcell a x).toArray := ⟨_, rfl⟩
        have hCs : C.size = 129 := by rw [hC, List.size_toArray, wcell_len _ _ hwk.2]
        have hCo : C.all (·.oneCell') = true := by rw [hC]; exact all_oneCell_toArray (wcell_one _ _)
        have hC0 : C[0]? = some (.int .i64 (a : Int)) := by rw [hC]; rfl
        have hCb : ∀ j, ∀ hj : j < x.length, C[1 + j]? = some (u8V x[j]) := fun j hj => by rw [hC, List.getElem?_toArray]; exact wcell_byte a x j hj
        rw [← hC] at hext
        have HC0 := Lib.hid hC0
        have HCB := Lib.hid hCb
        have HGR := Lib.hid hgr
        have HKC := Lib.hid hcs
        have HEX := Lib.hid hext
        have HFI : Hid ((Try.prog.info? 64).map (·.size) = some C.size) := by rw [hCs]; exact sizePw
        have HUS : Hid (Z.size = C.size) := Lib.hid (by rw [hCs]; exact HZS.out)
        have HON := Lib.hid hCo
        obtain ⟨k1, hk1⟩ : ∃ k1, k1 = k + 1 := ⟨_, rfl⟩
        rw [← hk1] at hnx
        have v1 : IntKind.i64.wrap ((k : Int) + 1) = (k1 : Int) := by rw [show (k : Int) + 1 = (k1 : Int) by omega]; exact IntWalk.i64_in _ (by omega)
        have HB1 : Hid (ButBy (fun j => j = b) w (wr.alloc (.cells C 64))) := Lib.hid (HB.out.then_kept (box_below _ _))
        obtain ⟨W3, hW3⟩ : ∃ W3, W3 = wr.alloc (.cells C 64) := ⟨_, rfl⟩
        have hW3r : W3.heap[wr.heap.size]? = some (.cells C 64 (0, 0)) := by rw [hW3]; exact heap_alloc_last wr _
        have HW3R := Lib.hid hW3r
        have HD1 : Hid (BytesAt b (standK keep st ws k).flatten W3) := Lib.hid (by rw [hW3]; exact HD.out.kept (box_below _ _))
        rw [← hW3] at HB1
        have HW3 := Lib.hid hW3
        have CKk := HCK.out _ HB1.out k
        have HNX := Lib.hid hnx
        have HWK := Lib.hid hwk
        clear hnx hwk hrowg ap hkl ha hx hC hCs hCo hC0 hCb hext hcs hgr hgc hc0 hcb hgpb hwl hvp' hW3 hW3r
        go_wp2_with (first
          | (with_reducible refine wpList_load_sub rfl _ _ rfl gp (k * 129) 129 rfl 64 cur (0, 0) _ HGR.out Try.underlying64 rfl sizePw HKC.out C HEX.out ?_)
          | ((with_reducible refine wpList_store_row rfl _ _ _ rfl wr.heap.size C rfl rfl 64 _ (heap_alloc_last wr _) HFI.out HUS.out HON.out ?_); rw [World.setRow_alloc_new, ← HW3.out]))
        refine CKk.mono ?_
        rintro e w3 ⟨rfl, rfl⟩
        clear CKk
        cases hke : keep k with
        | false =>
          have HNX2 : Hid (standK keep st ws k1 = standK keep st ws k) := Lib.hid (by rw [HNX.out, hke]; rfl)
          clear hke
          go_wp2
          go_roundg (n - k1)
          case measure => omega
          case rel => exact ⟨k1, by omega, by first | rfl | (congr 1; omega), Lib.hid (by rw [HNX2.out]; exact HD1.out), HB1⟩
        | true =>
          have HNX2 : Hid (standK keep st ws k1 = (standK keep st ws k).set a x) := Lib.hid (by rw [HNX.out, hke]; rfl)
          clear hke
          have hsl : (standK keep st ws k).length = s.stands.length := by rw [standK_len, HST.out]
          have hss : ∀ l ∈ standK keep st ws k, l.length = 128 := standK_sect keep st ws (by rw [HST.out]; exact HOK.out.sect) (fun p hp => (HOK.out.wait p (by rw [← HWS.out]; exact hp)).2) k (by rw [← HN.out]; omega)
          have hfl : (standK keep st ws k).flatten.length = L := by rw [flat_len _ hss, hsl, HL.out, HOK.out.image_len]
          have hLs : L = 128 * s.stands.length := by rw [HL.out, HOK.out.image_len]
          have hcap := HH.out.cap
          rw [← HL.out] at hcap
          have hkw : k ≤ s.waits.length := by rw [← HWS.out, ← HN.out]; omega
          have hok2 := midS_ok HOK.out keep k hkw
          have hda : DAt B g b c m (midS keep s k) vp W3 := HH.out.midS HOK.out keep k hkw (by have h := HD1.out; rw [HST.out, HWS.out] at h; exact h) HB1.out
          have SC := dsector_any (hda.stay (w' := W3.drew) (fun _ _ => rfl)) hok2 a (by show a < (standK keep s.stands s.waits k).length; rw [standK_len]; exact HWK.out.1)
          obtain ⟨z, hz⟩ : ∃ z, z = 128 * a := ⟨_, rfl⟩
          have hza : z + 128 ≤ L := by have := HWK.out.1; omega
          have hxl : (x.map u8V).length = 128 := by rw [List.length_map]; exact HWK.out.2
          obtain ⟨W4, hW4⟩ : ∃ W4, W4 = W3.drew := ⟨_, rfl⟩
          have hD4 : BytesAt b (standK keep st ws k).flatten W4 := by rw [hW4]; exact HD1.out.stay rfl
          have hr4 : W4.heap[wr.heap.size]? = some (.cells C 64 (0, 0)) := by rw [hW4]; exact HW3R.out
          have hcopy := fun ty => Go.run_copy_cells (P := Try.prog) W4 50 50 ty 5 b z 128 (c - z) ⟨wr.heap.size, 1, none⟩ 128 128 (x.map u8V) Try.underlying50 sizeU8 (by rw [hxl]; rfl)
            (fun j v hj => by
              rw [addr_add, cell_of_row _ _ _ _ _ _ hr4]
              rw [List.getElem?_map] at hj
              have hjl : j < x.length := by
                rw [HWK.out.2]
                have h9 : j < (x.map u8V).length := by
                  refine Decidable.byContradiction fun hn => ?_
                  rw [List.getElem?_eq_none (by rw [List.length_map] at hn; omega)] at hj
                  cases hj
                rw [hxl] at h9; exact h9
              rw [List.getElem?_eq_getElem hjl] at hj
              rw [HCB.out j hjl]
              exact hj)
            (fun j hj => by rw [hD4.cell (z + j) (by rw [hfl]; rw [hxl] at hj; omega)]; rfl)
            (fun j hj => hD4.froz (z + j) (by rw [hfl]; rw [hxl] at hj; omega))
            (fun v hv => by obtain ⟨y, _, rfl⟩ := List.mem_map.1 hv; rfl)
          rw [hxl] at hcopy
          have HD2 : Hid (BytesAt b (standK keep st ws k1).flatten (W4.setCells b z (x.map u8V))) := Lib.hid (by
            have h1 := hD4.sets x z (by rw [hfl, HWK.out.2]; exact hza)
            rw [HNX2.out, image_set' _ hss a x (by rw [hsl]; exact HWK.out.1) HWK.out.2, ← hz]
            exact h1)
          have HB2 : Hid (ButBy (fun j => j = b) w (W4.setCells b z (x.map u8V))) := Lib.hid (by
            have hg := grown_sets b (x.map u8V) z W4
            refine HB1.out.trans (ButBy.trans (w1 := W4) (ButBy.below (by rw [hW4]; exact Below.drew (Below.refl _ _))) ⟨hg.os, hg.tape, hg.output, hg.size, fun j hj hn => hg.block j hj (fun e => hn (Option.some.inj e))⟩))
          have d0 : W4.cell? ⟨wr.heap.size, 0, none⟩ = some (.int .i64 (a : Int)) := by rw [cell_of_row _ _ _ _ _ _ hr4]; exact HC0.out
          rw [← hz, ← hW4] at SC
          have HW4 := Lib.hid hW4
          clear hsl hss hfl hLs hza hz hD4 hr4 hda hok2 hkw hcap hxl
          go_wp2
          refine wp_region_still_tail 6 (by kernel_rfl) (by kernel_rfl) ?_
          simp only [List.take_succ_cons, List.take_zero, List.drop_succ_cons, List.drop_zero]
          change wpStill _ _ W3.drew (fun a' => wpList _ _ _ _ a' W3.drew) _ _
          rw [← hW4]
          clear hW4
          repeat still_step
          still_call (SC.mono fun _ _ h => ⟨h.1, h.2.symm⟩)
          repeat still_step
          refine wpStill_nil ?_
          go_wp2
          go_roundg (n - k1)
          case measure => omega
          case rel => exact ⟨k1, by omega, by first | rfl | (congr 1; omega), HD2, HB2⟩
      · have hke : k = n := by omega
        have hki : ¬ (k : Int) < n := by omega
        have bk : decide ((k : Int) < (n : Int)) = false := by simpa using hki
        subst hke
        have f2 := frozen_of_row wr g 2 _ _ hrowg
        have d2 : wr.cell? ⟨g, 2, none⟩ = some (.slice p k cp) := by rw [cell_of_row _ _ _ _ _ _ hrowg]; show some vp = _; rw [HVP.out, HN.out, HWS.out]
        have rr1 : (wr.setCell ⟨g, 2, none⟩ (.slice none 0 0)).heap[g]? = some (.cells (dA g s b s.image.length c (.slice none 0 0) m) 59 (0, 0)) := by rw [heap_setCell_same _ _ _ _ _ _ hrowg]; rfl
        have hm1 : MapIs eltInt m s.waits.length (lastF s.waits) (wr.setCell ⟨g, 2, none⟩ (.slice none 0 0)) := HH.out.map.stay ((set_other _ _ _ _ _ ap.2.1).trans (HB.out.block m HH.out.map.lt ap.2.2.1))
        have d3 : (wr.setCell ⟨g, 2, none⟩ (.slice none 0 0)).cell? ⟨g, 3, none⟩ = some (.map (some m)) := by rw [cell_of_row _ _ _ _ _ _ rr1]; rfl
        obtain ⟨w2, hclr, hmap2, hg2, -⟩ := hm1.clear Try.underlying57
        have hsN : sN.stands = standK keep st ws k ∧ sN.waits = [] ∧ sN.fuse = s.fuse ∧ sN.ops = s.ops ∧ sN.down = s.down := by
          rw [HSN.out, HN.out, HWS.out, HST.out]; exact ⟨rfl, rfl, rfl, rfl, rfl⟩
        have hNi : sN.image = (standK keep st ws k).flatten := by unfold Dk.image; rw [hsN.1]
        have hNl : sN.image.length = s.image.length := by
          have h1 : sN.ok := by rw [HSN.out]; exact HOK.out.stand keep
          rw [h1.image_len, HOK.out.image_len, hsN.1, standK_len, HST.out]
        have hsame : ∀ j, j ≠ m → j < wr.heap.size → j ≠ g → w2.heap[j]? = wr.heap[j]? := fun j hj hl hjg => (hg2.block j (by simpa using hl) (fun e => hj (Option.some.inj e))).trans (set_other _ _ _ _ _ hjg)
        have fin : DsPost B g b c m sN vp (.tuple #[]) w (.returned (.tuple #[])) w2 := by
          refine ⟨rfl, .slice none 0 0, ⟨HH.out.base, ?_, HH.out.hb, by rw [hNl]; exact HH.out.cap, ?_, ?_, HH.out.hm, ?_⟩, fun j e => by simp [Value.ownBlock] at e, ?_⟩
          · rw [hNl, hg2.block g (Array.getElem?_eq_some_iff.1 rr1).1 (fun e => ap.2.1 (Option.some.inj e).symm), rr1]
            unfold dA; rw [hsN.2.2.1, hsN.2.2.2.1, hsN.2.2.2.2]
          · rw [hNi]; exact HD.out.stay (hsame b (fun x => ap.2.2.1 x.symm) HD.out.lt ap.1)
          · rw [hsN.2.1]; exact World.ownsRow_nil _ _ _ _
          · rw [hsN.2.1]; exact hmap2
          · have h1 : ButBy (DBs g b m vp) w wr := HB.out.mono (fun j hj => Or.inr (Or.inl hj))
            have h2 := h1.setCell g 2 (.slice none 0 0) (Or.inl rfl)
            exact h2.trans ⟨hg2.os, hg2.tape, hg2.output, hg2.size, fun j hj hn => hg2.block j hj (fun e => hn (Or.inr (Or.inr (Or.inl (Option.some.inj e)))))⟩
        have FIN := Lib.hid fin
        clear fin hsame hsN hNi hNl hmap2 hg2 hm1 rr1 hrowg ap
        go_wp2
        first | go_ret | go_end0
        exact FIN.out

end Go.Proofs.Ytpnnlpmkgglgdaa
