/- ManifestBack out of the contracts. -/
import Derived.Test.YteompckehokdoaaDoorMnU
namespace Go.Proofs.YteompckehokdoaaDoor
open Go.RowKit

def farP (bx : Nat) (n : Nat) : List Pl := (List.range n).map fun i : Nat => (bx, (i : Int))
theorem farP_len (bx n : Nat) : (farP bx n).length = n := by simp [farP]
theorem farP_get (bx n i : Nat) (h : i < (farP bx n).length) : (farP bx n)[i] = (bx, (i : Int)) := by simp [farP]

set_option maxRecDepth 100000 in
set_option maxHeartbeats 16000000 in
theorem manifestBack_of (CT : MTurnOk) (AW : AwakeM) (m : Mf) (bx : Nat) (hbx : bx < 4294967296) (v : Value) (w : World) (HM : ManIs m v w) (hT : TabAt w) :
    Calls Tryd.prog 6 #[v, .int .u32 (bx : Nat)] w fun e w' => e = .returned (.bool true) ∧ Kept w w' := by
  obtain ⟨ir, hir, hx⟩ := Option.map_eq_some_iff.1 info_mv
  simp only [Prod.mk.injEq] at hx
  obtain ⟨hz0, hz1, hz2⟩ := hx
  have HIR := Lib.hid hir
  have HZ0 := Lib.hid hz0
  have HZ1 := Lib.hid hz1
  have HZ2 := Lib.hid hz2
  have hent := HM
  obtain ⟨_, sv, rfl, hes⟩ := hent
  obtain ⟨p, c, rfl, -, hcm⟩ := hes.out encE
  obtain ⟨mn, hn⟩ : ∃ n, n = m.es.length := ⟨_, rfl⟩
  obtain ⟨mi, hid⟩ : ∃ i, i = m.id := ⟨_, rfl⟩
  have HES := Lib.hid hes
  have HCM := Lib.hid hcm
  have HGOOD := Lib.hid HM.wf
  rw [← hn, ← hid] at HM ⊢
  have HMN := Lib.hid (show mi = m.id ∧ mn = m.es.length from ⟨hid, hn⟩)
  obtain ⟨W1, hW1⟩ : ∃ W, W = w.alloc (.cells #[.int .u32 (mi : Nat), .slice p mn c] 25) := ⟨_, rfl⟩
  have hk1 : Kept w W1 := by rw [hW1]; exact box_below _ _
  have hrm : W1.heap[w.heap.size]? = some (.cells #[.int .u32 (mi : Nat), .slice p mn c] 25 (0, 0)) := by rw [hW1]; exact heap_alloc_last w _
  have a0 : W1.cell? ⟨w.heap.size, 0, none⟩ = some (.int .u32 (mi : Nat)) := by rw [cell_of_row _ _ _ _ _ _ hrm]; rfl
  have a1 : W1.cell? ⟨w.heap.size, 1, none⟩ = some (.slice p mn c) := by rw [cell_of_row _ _ _ _ _ _ hrm]; rfl
  have hm1 := HM.later hk1
  have F1 := few15_any m _ W1 hm1
  have HRM := Lib.hid hrm
  have HM1 := Lib.hid hm1
  have HK1 := Lib.hid hk1
  have HW1 := Lib.hid hW1
  have HT := Lib.hid hT
  have HBX := Lib.hid hbx
  rw [hW1] at a0 a1
  rw [show m.es.length = mn from hn.symm] at F1
  clear HM hes hcm hn hid hW1 hk1 hrm hm1 hT hir hz0 hz1 hz2 hbx
  by_cases hm30 : mn ≤ 30
  · rw [decide_eq_true hm30] at F1
    have HN30 := Lib.hid hm30
    clear hm30
    go_enter Tryd.func6, Tryd.ntmps6
    go_wp2_with fail
    rw [← HW1.out]
    refine F1.mono ?_
    rintro e w2 ⟨rfl, hb2⟩
    have HX2 : Hid (Kept W1 w2) := Lib.hid hb2
    have HK2 : Hid (Kept w w2) := Lib.hid ((show Kept w W1 from HK1.out).then hb2)
    clear hb2 F1 a0 a1
    go_wp2
    go_loopg [5] mn (fun gh y wr => ∃ k : Nat, k + gh = mn ∧ y = .int .i64 k ∧ Hid (∀ j (h : j < m.es.length), j < k → (m.es[j]).box ≠ bx) ∧ Hid (Kept W1 wr))
    case atStart => exact ⟨0, by omega, rfl, Lib.hid (fun j _ hj => absurd hj (Nat.not_lt_zero _)), HX2⟩
    case round =>
      clear HX2 HK2
      obtain ⟨k, hk, rfl, HNE, HXR⟩ := hrel
      have HKR : Hid (Kept w wr) := Lib.hid ((show Kept w W1 from HK1.out).then HXR.out)
      have m0 : wr.cell? ⟨w.heap.size, 0, none⟩ = some (.int .u32 (mi : Nat)) := by rw [cell_of_row _ _ _ _ _ _ (Kept.row HXR.out HRM.out)]; rfl
      have m1 : wr.cell? ⟨w.heap.size, 1, none⟩ = some (.slice p mn c) := by rw [cell_of_row _ _ _ _ _ _ (Kept.row HXR.out HRM.out)]; rfl
      by_cases hkn : k < mn
      · have bk : decide ((k : Int) < (mn : Int)) = true := decide_eq_true (by omega)
        have hki : (k : Int) < mn := by omega
        have hki0 : (0 : Int) ≤ k := by omega
        have hkl : k < m.es.length := by have := HMN.out.2; omega
        rcases HCM.out with h0 | ⟨b, off, rfl, hcell⟩
        · omega
        have hwf := HGOOD.out.2 _ (List.getElem_mem hkl)
        have IXE := fun W => idx_en b off mn c k hkn W
        have e33 := Kept.cell HKR.out (hcell k hkl 33 _ (enL_b hwf.1))
        obtain ⟨xb, hxb⟩ : ∃ x, x = (m.es[k]).box := ⟨_, rfl⟩
        rw [← hxb] at e33
        obtain ⟨k1, hk1⟩ : ∃ k1, k1 = k + 1 := ⟨_, rfl⟩
        have v1 : IntKind.i64.wrap ((k : Int) + 1) = (k1 : Int) := by rw [show (k : Int) + 1 = (k1 : Int) by omega]; exact IntWalk.i64_in _ (by have := HN30.out; omega)
        have HKK : Hid (k1 = k + 1 ∧ k + gk = mn ∧ k < mn) := Lib.hid ⟨hk1, hk, hkn⟩
        have HNX : Hid (xb ≠ bx → ∀ j (h : j < m.es.length), j < k1 → (m.es[j]).box ≠ bx) := Lib.hid (fun h j hj hlt => by
          by_cases e : j = k
          · subst e; rw [← hxb]; exact h
          · exact HNE.out j hj (by omega))
        by_cases hq : xb = bx
        · have bq : ((xb : Int) == (bx : Int)) = true := beq_iff_eq.2 (by omega)
          clear hcell hwf hxb hk1 hk hkn hkl hq
          have A := AW wr (HT.out.later HKR.out)
          go_wp2_with fail
          refine A.mono ?_
          rintro e wz ⟨rfl, hb⟩
          have HKZ : Hid (Kept w wz) := Lib.hid ((show Kept w wr from HKR.out).then hb)
          clear hb A
          go_wp2
          go_ret
          exact ⟨rfl, HKZ.out⟩
        · have bq : ((xb : Int) == (bx : Int)) = false := beq_eq_false_iff_ne.2 (by omega)
          have HN2 := Lib.hid (HNX.out hq)
          clear hcell hwf hxb hk1 hk hkn hkl hq
          go_wp2
          go_roundg (mn - k1)
          · exact ⟨k1, by have := HKK.out; omega, by first | rfl | (have := HKK.out; congr 1; omega), HN2, HXR⟩
          · have := HKK.out; omega
      · have bk : decide ((k : Int) < (mn : Int)) = false := decide_eq_false (by omega)
        have hki : ¬ (k : Int) < mn := by omega
        have HFAR : Hid (∀ e ∈ m.es, e.box ≠ bx) := Lib.hid (fun e he => by
          obtain ⟨j, hj, rfl⟩ := List.getElem_of_mem he
          exact HNE.out j hj (by have := HMN.out.2; omega))
        have CP := rplaces15_any m _ wr (HM1.out.later HXR.out) (by have := HMN.out.2; have := HN30.out; omega)
        clear hk hkn
        go_wp2_with fail
        refine CP.mono ?_
        rintro e w3 ⟨vp, rfl, hvp, hb3⟩
        have HX3 : Hid (Kept W1 w3) := Lib.hid ((show Kept W1 wr from HXR.out).then hb3)
        obtain ⟨pp, cp, rfl, -, hcp⟩ := hvp.out encP
        obtain ⟨PL, hPL⟩ : ∃ L, L = placesM m := ⟨_, rfl⟩
        obtain ⟨QL, hQL⟩ : ∃ L, L = farP bx PL.length := ⟨_, rfl⟩
        obtain ⟨np, hnp⟩ : ∃ n, n = PL.length := ⟨_, rfl⟩
        have hlen : QL.length = np := by rw [hQL, farP_len, hnp]
        have hp30 : np ≤ 30 := by
          have h1 := psetL_len (m.es.map plE)
          rw [List.length_map] at h1
          have h2 : np ≤ m.es.length := by rw [hnp, hPL]; exact h1
          have := HMN.out.2
          have := HN30.out
          omega
        have hgood : ∀ q ∈ PL, wfP q := by rw [hPL]; exact hvp.good
        have HTB : Hid (turnM (QL.zip PL) (turnM (PL.zip QL) m) = m ∧ hitsM (PL.zip QL) m = mn ∧ hitsM (QL.zip PL) (turnM (PL.zip QL) m) = mn) := Lib.hid (by
          have h := turn_back m bx HFAR.out
          rw [hQL, hPL, HMN.out.2]
          exact h)
        rw [← hPL] at hcp ⊢
        rw [← hnp]
        have HCP := Lib.hid hcp
        have HNP := Lib.hid hnp
        have HP30 := Lib.hid hp30
        obtain ⟨m1v, hm1v⟩ : ∃ l : List Mv, l = PL.zip QL := ⟨_, rfl⟩
        obtain ⟨m2v, hm2v⟩ : ∃ l : List Mv, l = QL.zip PL := ⟨_, rfl⟩
        have hl1 : m1v.length = np := by rw [hm1v, List.length_zip, ← hnp, hlen]; omega
        have hl2 : m2v.length = np := by rw [hm2v, List.length_zip, ← hnp, hlen]; omega
        have hget : ∀ j (hj : j < PL.length) (h1 : j < m1v.length) (h2 : j < m2v.length), m1v[j] = (PL[j], (bx, (j : Int))) ∧ m2v[j] = ((bx, (j : Int)), PL[j]) := fun j hj h1 h2 => by
          have hq : j < (farP bx PL.length).length := by rw [farP_len]; exact hj
          constructor
          · have e : ∀ (l : List Mv) (h : j < l.length), l = PL.zip (farP bx PL.length) → l[j] = (PL[j], (bx, (j : Int))) := fun l h e => by subst e; rw [List.getElem_zip, farP_get bx _ j hq]
            exact e m1v h1 (by rw [hm1v, hQL])
          · have e : ∀ (l : List Mv) (h : j < l.length), l = (farP bx PL.length).zip PL → l[j] = ((bx, (j : Int)), PL[j]) := fun l h e => by subst e; rw [List.getElem_zip, farP_get bx _ j hq]
            exact e m2v h2 (by rw [hm2v, hQL])
        have HL12 := Lib.hid (show m1v.length = np ∧ m2v.length = np from ⟨hl1, hl2⟩)
        have HGET := Lib.hid hget
        rw [← hm1v, ← hm2v] at HTB
        have HW12 : Hid ((∀ q ∈ m1v, wfV q) ∧ ∀ q ∈ m2v, wfV q) := Lib.hid (by
          have far : ∀ j : Nat, j < np → wfP (bx, (j : Int)) := fun j hj => ⟨HBX.out, by show isI (j : Int); unfold isI; omega⟩
          refine ⟨fun q hq => ?_, fun q hq => ?_⟩
          · obtain ⟨j, hj, rfl⟩ := List.getElem_of_mem hq
            have hjp : j < PL.length := by omega
            rw [(hget j hjp hj (by omega)).1]
            exact ⟨hgood _ (List.getElem_mem hjp), far j (by omega)⟩
          · obtain ⟨j, hj, rfl⟩ := List.getElem_of_mem hq
            have hjp : j < PL.length := by omega
            rw [(hget j hjp (by omega) hj).2]
            exact ⟨far j (by omega), hgood _ (List.getElem_mem hjp)⟩)
        clear hvp hb3 hPL hQL hnp hlen hp30 hgood hcp hm1v hm2v hl1 hl2 hget CP HNE m0 m1
        obtain ⟨B, hB⟩ : ∃ B, B = w3.heap.size := ⟨_, rfl⟩
        have HBE := Lib.hid hB
        clear hB
        go_wp2
        go_loopg [7, 8, 9] np (fun gh s1 s2 y wr => ∃ (k : Nat) (t1 t2 : Value), k + gh = np ∧ s1 = t1 ∧ s2 = t2 ∧ y = .int .i64 k ∧ Hid (wr.ownsRow B 47 4 t1 k (flatR mvL (m1v.take k))) ∧ Hid (wr.ownsRow B 47 4 t2 k (flatR mvL (m2v.take k))) ∧ Hid (∀ j, t1.ownBlock = some j → t2.ownBlock = some j → False) ∧ Hid (Kept w3 wr))
        case atStart => exact ⟨0, _, _, by omega, rfl, rfl, rfl, Lib.hid (World.ownsRow_nil _ _ _ 4), Lib.hid (World.ownsRow_nil _ _ _ 4), Lib.hid (fun j h => by cases h), Lib.hid (Kept.refl w3)⟩
        case round =>
          clear HXR HKR
          obtain ⟨k, t1, t2, hk, rfl, rfl, rfl, HO1, HO2, HAP, HQ⟩ := hrel
          obtain ⟨pv, cv, htv, -, -⟩ := own_slice HO1.out
          subst htv
          obtain ⟨pu, cu, htu, -, -⟩ := own_slice HO2.out
          subst htu
          by_cases hkn : k < np
          · have bk : decide ((k : Int) < (np : Int)) = true := decide_eq_true (by omega)
            have hki : (k : Int) < np := by omega
            have hki0 : (0 : Int) ≤ k := by omega
            have hkp : k < PL.length := by have := HNP.out; omega
            rcases HCP.out with h0 | ⟨bp, op, rfl, hcell⟩
            · have := HNP.out; omega
            have hg := HGET.out k hkp (by have := HL12.out; omega) (by have := HL12.out; omega)
            have htk1 : m1v.take (k + 1) = m1v.take k ++ [m1v[k]'(by have := HL12.out; omega)] := List.take_succ_eq_append_getElem _
            have htk2 : m2v.take (k + 1) = m2v.take k ++ [m2v[k]'(by have := HL12.out; omega)] := List.take_succ_eq_append_getElem _
            have hw1 := HW12.out.1 _ (List.getElem_mem (show k < m1v.length by have := HL12.out; omega))
            have hw2 := HW12.out.2 _ (List.getElem_mem (show k < m2v.length by have := HL12.out; omega))
            obtain ⟨xb, hxb⟩ : ∃ x, x = (PL[k]).1 := ⟨_, rfl⟩
            obtain ⟨xs, hxs⟩ : ∃ x, x = (PL[k]).2 := ⟨_, rfl⟩
            have hpk : PL[k] = (xb, xs) := by rw [hxb, hxs]
            rw [hpk] at hg
            rw [hg.1] at htk1 hw1
            rw [hg.2] at htk2 hw2
            have IXP := fun W => idx_rec (P := Tryd.prog) Tryd.underlying40 (fun w => Tryd.sizeOf45 w) bp op np cp k hkn W
            have HP0 := Lib.hid (show w3.cell? ⟨bp, op + k * 2, none⟩ = some (.int .u32 (xb : Nat)) by rw [hxb]; exact hcell k hkp 0 _ rfl)
            have HP1 := Lib.hid (show w3.cell? ⟨bp, op + k * 2 + 1, none⟩ = some (.int .i64 xs) by rw [hxs]; exact hcell k hkp 1 _ rfl)
            obtain ⟨k1, hk1⟩ : ∃ k1, k1 = k + 1 := ⟨_, rfl⟩
            have v1 : IntKind.i64.wrap ((k : Int) + 1) = (k1 : Int) := by rw [show (k : Int) + 1 = (k1 : Int) by omega]; exact IntWalk.i64_in _ (by have := HP30.out; omega)
            have HKK : Hid (k1 = k + 1 ∧ k + gk = np ∧ k < np ∧ k < 30) := Lib.hid ⟨hk1, hk, hkn, by have := HP30.out; omega⟩
            have HF : Hid (flatR mvL (m1v.take k) ++ mvL ((xb, xs), (bx, (k : Int))) = flatR mvL (m1v.take k1)) := Lib.hid (by rw [flatR_snoc, hk1, htk1])
            have HG : Hid (flatR mvL (m2v.take k) ++ mvL ((bx, (k : Int)), (xb, xs)) = flatR mvL (m2v.take k1)) := Lib.hid (by rw [flatR_snoc, hk1, htk2])
            have HF1 := Lib.hid (fun (W : World) => flat_rec encV W 47 ((xb, xs), (bx, (k : Int))) hw1 #[.int .u32 (xb : Nat), .int .i64 xs, .int .u32 (bx : Nat), .int .i64 (k : Nat)] rfl)
            have HG1 := Lib.hid (fun (W : World) => flat_rec encV W 47 ((bx, (k : Int)), (xb, xs)) hw2 #[.int .u32 (bx : Nat), .int .i64 (k : Nat), .int .u32 (xb : Nat), .int .i64 xs] rfl)
            obtain ⟨b7, hb7⟩ : ∃ b, b = wr.heap.size := ⟨_, rfl⟩
            have HB7 := Lib.hid hb7
            obtain ⟨W7, hW7⟩ : ∃ W, W = wr.alloc (.cells #[.int .u32 (bx : Nat), .int .i64 (k : Nat)] 45) := ⟨_, rfl⟩
            have HW7 := Lib.hid hW7
            have hr7 := heap_alloc_last wr (.cells #[.int .u32 (bx : Nat), .int .i64 (k : Nat)] 45)
            rw [← hW7, ← hb7] at hr7
            have hk7 : Kept wr W7 := by rw [hW7]; exact box_below _ _
            have hs7 : W7.heap.size = b7 + 1 := by rw [hW7, hb7]; simp
            have HR7 := Lib.hid hr7
            have HQ7 : Hid (Kept w3 W7) := Lib.hid ((show Kept w3 wr from HQ.out).then hk7)
            have HS7 := Lib.hid hs7
            have HO17 := Lib.hid (own_stay HO1.out (fun j hj => hk7.block j (HO1.out.lt j hj).2))
            have HO27 := Lib.hid (own_stay HO2.out (fun j hj => hk7.block j (HO2.out.lt j hj).2))
            have HLT : Hid ((∀ j, (Value.slice pv k cv).ownBlock = some j → j < b7) ∧ ∀ j, (Value.slice pu k cu).ownBlock = some j → j < b7) := Lib.hid ⟨fun j hj => by rw [hb7]; exact (HO1.out.lt j hj).2, fun j hj => by rw [hb7]; exact (HO2.out.lt j hj).2⟩
            have q0 := Kept.cell HQ7.out HP0.out
            have q1 := Kept.cell HQ7.out HP1.out
            have r0 : W7.cell? ⟨b7, 0, none⟩ = some (.int .u32 (bx : Nat)) := by rw [cell_of_row _ _ _ _ _ _ hr7]; rfl
            have r1 : W7.cell? ⟨b7, 1, none⟩ = some (.int .i64 (k : Nat)) := by rw [cell_of_row _ _ _ _ _ _ hr7]; rfl
            clear hcell hg htk1 htk2 hw1 hw2 hxb hxs hpk hk1 hk hkn hkp hb7 hW7 hr7 hk7 hs7
            go_wp2_with fail
            try rw [← HB7.out]
            rw [← HW7.out]
            refine wp_region_held_drew (S := fun w' => w'.cell? ⟨bp, op + k * 2, none⟩ = some (.int .u32 (xb : Nat)) ∧ w'.cell? ⟨bp, op + k * 2 + 1, none⟩ = some (.int .i64 xs) ∧ w'.cell? ⟨b7, 0, none⟩ = some (.int .u32 (bx : Nat)) ∧ w'.cell? ⟨b7, 1, none⟩ = some (.int .i64 (k : Nat))) (by kernel_rfl) ⟨q0, q1, r0, r1⟩ (fun hHeld => ?_)
            refine wpAnyH_take (i := 0) (v := ?_) rfl (by kernel_rfl) (by kernel_rfl) (by kernel_rfl) (fun _ _ _ h => h) (Or.inl ⟨by first | kernel_rfl | rfl, ?_⟩) (by assumption) ?_
            case refine_2 => intro w hSw; obtain ⟨s1, s2, s3, s4⟩ := hSw; go_simp; try with_reducible rfl
            refine wpAnyH_take (i := 1) (v := ?_) rfl (by kernel_rfl) (by kernel_rfl) (by kernel_rfl) (fun _ _ _ h => h) (Or.inl ⟨by first | kernel_rfl | rfl, ?_⟩) (by assumption) ?_
            case refine_2 => intro w hSw; obtain ⟨s1, s2, s3, s4⟩ := hSw; go_simp; try with_reducible rfl
            refine wpAnyH_take (i := 2) (v := ?_) rfl (by kernel_rfl) (by kernel_rfl) (by kernel_rfl) (fun _ _ _ h => h) (Or.inl ⟨by first | kernel_rfl | rfl, ?_⟩) (by assumption) ?_
            case refine_2 => intro w hSw; obtain ⟨s1, s2, s3, s4⟩ := hSw; go_simp; try with_reducible rfl
            refine wpAnyH_take (i := 3) (v := ?_) rfl (by kernel_rfl) (by kernel_rfl) (by kernel_rfl) (fun _ _ _ h => h) (Or.inl ⟨by first | kernel_rfl | rfl, ?_⟩) (by assumption) ?_
            case refine_2 => intro w hSw; obtain ⟨s1, s2, s3, s4⟩ := hSw; go_simp; try with_reducible rfl
            refine wpAnyH_take (i := 4) (v := ?_) rfl (by kernel_rfl) (by kernel_rfl) (by kernel_rfl) (fun _ _ _ h => h) (Or.inl ⟨by first | kernel_rfl | rfl, ?_⟩) (by assumption) ?_
            case refine_2 => intro w hSw; obtain ⟨s1, s2, s3, s4⟩ := hSw; go_simp; try with_reducible rfl
            refine wpAnyH_take (i := 5) (v := ?_) rfl (by kernel_rfl) (by kernel_rfl) (by kernel_rfl) (fun _ _ _ h => h) (Or.inl ⟨by first | kernel_rfl | rfl, ?_⟩) (by assumption) ?_
            case refine_2 => intro w hSw; obtain ⟨s1, s2, s3, s4⟩ := hSw; go_simp; try with_reducible rfl
            refine wpAnyH_take (i := 6) (v := ?_) rfl (by kernel_rfl) (by kernel_rfl) (by kernel_rfl) (fun _ _ _ h => h) (Or.inl ⟨by first | kernel_rfl | rfl, ?_⟩) (by assumption) ?_
            case refine_2 => intro w hSw; obtain ⟨s1, s2, s3, s4⟩ := hSw; go_simp; try with_reducible rfl
            refine wpAnyH_ready (rs := [7]) (by kernel_rfl) (by simp) (AllReadyH.cons rfl (fun K hK => ?_) AllReadyH.nil)
            go_simp
            have hk3 : Kept W7 W7.drew := (Below.refl _ W7).drew
            have hka := hk3.then (box_below W7.drew (.cells #[.int .u32 (xb : Nat), .int .i64 xs, .int .u32 (bx : Nat), .int .i64 (k : Nat)] 47))
            refine hK.out _ _ ⟨hka.cell q0, hka.cell q1, hka.cell r0, hka.cell r1⟩ (fun _ => ?_)
            clear hK K
            refine wpAnyH_ready (rs := [8]) (by kernel_rfl) (by simp) (AllReadyH.cons rfl (fun K hK => ?_) AllReadyH.nil)
            rw [if_pos (by rfl)]
            have HOD : Hid (W7.drew.ownsRow B 47 4 (Value.slice pv k cv) k (flatR mvL (m1v.take k))) := Lib.hid (own_stay HO17.out (fun j hj => hk3.block j (HO17.out.lt j hj).2))
            refine wp_append_flat _ _ 43 rfl B 47 ir (.agg #[.int .u32 0, .int .i64 0, .int .u32 0, .int .i64 0]) 4 32 Tryd.underlying43 HIR.out HZ0.out HZ1.out HZ2.out rfl (by decide) _ k (flatR mvL (m1v.take k)) ?q0 (HOD.out.alloc _) _ 1 (mvL ((xb, xs), (bx, (k : Int)))) rfl (HF1.out _) ?q1 ?q2 ?q3 ?_
            case q0 => rfl
            case q1 => have := HKK.out; unfold maxLen; omega
            case q2 => have := HKK.out; omega
            case q3 => exact Nat.le_trans (show B ≤ W7.heap.size by have := HQ7.out.size; have := HBE.out; omega) (le_drew_alloc W7 _)
            intro v4 w4 hown2 hgrow2 hat2
            have HN4 : Hid (w4.ownsRow B 47 4 v4 k1 (flatR mvL (m1v.take k1))) := Lib.hid (by
              have h := hown2
              rw [HF.out, ← HKK.out.1] at h
              exact h)
            have HQ4 : Hid (Kept w3 w4) := Lib.hid (append_keptX (show Kept w3 W7.drew from (show Kept w3 W7 from HQ7.out).then hk3) (by rw [HBE.out]; exact Nat.le_refl _) HOD.out hgrow2)
            have hstay4 : ∀ j, j < W7.heap.size → (∀ i, (Value.slice pv k cv).ownBlock = some i → i ≠ j) → w4.heap[j]? = W7.heap[j]? := fun j hj hne =>
              (hgrow2.block j (Nat.lt_of_lt_of_le hj hka.size) (fun e => hne j e.symm rfl)).trans (hka.block j hj)
            have hato4 : ∀ i, v4.ownBlock = some i → (Value.slice pv k cv).ownBlock = some i ∨ W7.heap.size ≤ i := fun i hi => by
              rcases hat2 with h | h
              · exact Or.inl (h.symm.trans hi)
              · exact Or.inr (by rw [h] at hi; rw [← Option.some.inj hi]; exact hka.size)
            have z0 := Kept.cell HQ4.out HP0.out
            have z1 := Kept.cell HQ4.out HP1.out
            have hrow4 : w4.heap[b7]? = some (.cells #[.int .u32 (bx : Nat), .int .i64 (k : Nat)] 45 (0, 0)) := by
              rw [hstay4 b7 (by have := HS7.out; omega) (fun i hi => by have := HLT.out.1 i hi; omega)]; exact HR7.out
            have z2 : w4.cell? ⟨b7, 0, none⟩ = some (.int .u32 (bx : Nat)) := by rw [cell_of_row _ _ _ _ _ _ hrow4]; rfl
            have z3 : w4.cell? ⟨b7, 1, none⟩ = some (.int .i64 (k : Nat)) := by rw [cell_of_row _ _ _ _ _ _ hrow4]; rfl
            have HO24 : Hid (w4.ownsRow B 47 4 (.slice pu k cu) k (flatR mvL (m2v.take k))) := Lib.hid (own_stay HO27.out (fun j hj => hstay4 j (by have := HLT.out.2 j hj; have := HS7.out; omega) (fun i hi e => HAP.out j (by rw [← e]; exact hi) hj)))
            have HAP4 : Hid (∀ j, v4.ownBlock = some j → (Value.slice pu k cu).ownBlock = some j → False) := Lib.hid (fun j h1 h2 => by
              rcases hato4 j h1 with h | h
              · exact HAP.out j h h2
              · have := HLT.out.2 j h2; have := HS7.out; omega)
            have HROW4x := Lib.hid hrow4
            refine hK.out _ _ ⟨z0, z1, z2, z3⟩ (fun _ => ?_)
            clear hK K hown2 hgrow2 hat2 hka hk3 hstay4 hato4  hrow4 HOD q0 q1 r0 r1
            refine wpAnyH_take (i := 9) (v := ?_) rfl (by kernel_rfl) (by kernel_rfl) (by kernel_rfl) (fun _ _ _ h => h) (Or.inl ⟨by first | kernel_rfl | rfl, ?_⟩) (by assumption) ?_
            case refine_2 => intro w hSw; obtain ⟨s1, s2, s3, s4⟩ := hSw; go_simp; try with_reducible rfl
            refine wpAnyH_done (by kernel_rfl) ?_ _
            have HROW4 : Hid (w4.heap[b7]? = some (.cells #[.int .u32 (bx : Nat), .int .i64 (k : Nat)] 45 (0, 0))) := HROW4x
            have y0 := z0
            have y1 := z1
            have y2 := z2
            have y3 := z3
            clear z0 z1 z2 z3
            go_wp2_with fail
            refine wp_region_held_drew (S := fun w' => w'.cell? ⟨bp, op + k * 2, none⟩ = some (.int .u32 (xb : Nat)) ∧ w'.cell? ⟨bp, op + k * 2 + 1, none⟩ = some (.int .i64 xs) ∧ w'.cell? ⟨b7, 0, none⟩ = some (.int .u32 (bx : Nat)) ∧ w'.cell? ⟨b7, 1, none⟩ = some (.int .i64 (k : Nat))) (by kernel_rfl) ⟨y0, y1, y2, y3⟩ (fun hHeld => ?_)
            refine wpAnyH_take (i := 0) (v := ?_) rfl (by kernel_rfl) (by kernel_rfl) (by kernel_rfl) (fun _ _ _ h => h) (Or.inl ⟨by first | kernel_rfl | rfl, ?_⟩) (by assumption) ?_
            case refine_2 => intro w hSw; obtain ⟨s1, s2, s3, s4⟩ := hSw; go_simp; try with_reducible rfl
            refine wpAnyH_take (i := 1) (v := ?_) rfl (by kernel_rfl) (by kernel_rfl) (by kernel_rfl) (fun _ _ _ h => h) (Or.inl ⟨by first | kernel_rfl | rfl, ?_⟩) (by assumption) ?_
            case refine_2 => intro w hSw; obtain ⟨s1, s2, s3, s4⟩ := hSw; go_simp; try with_reducible rfl
            refine wpAnyH_take (i := 2) (v := ?_) rfl (by kernel_rfl) (by kernel_rfl) (by kernel_rfl) (fun _ _ _ h => h) (Or.inl ⟨by first | kernel_rfl | rfl, ?_⟩) (by assumption) ?_
            case refine_2 => intro w hSw; obtain ⟨s1, s2, s3, s4⟩ := hSw; go_simp; try with_reducible rfl
            refine wpAnyH_take (i := 3) (v := ?_) rfl (by kernel_rfl) (by kernel_rfl) (by kernel_rfl) (fun _ _ _ h => h) (Or.inl ⟨by first | kernel_rfl | rfl, ?_⟩) (by assumption) ?_
            case refine_2 => intro w hSw; obtain ⟨s1, s2, s3, s4⟩ := hSw; go_simp; try with_reducible rfl
            refine wpAnyH_take (i := 4) (v := ?_) rfl (by kernel_rfl) (by kernel_rfl) (by kernel_rfl) (fun _ _ _ h => h) (Or.inl ⟨by first | kernel_rfl | rfl, ?_⟩) (by assumption) ?_
            case refine_2 => intro w hSw; obtain ⟨s1, s2, s3, s4⟩ := hSw; go_simp; try with_reducible rfl
            refine wpAnyH_take (i := 5) (v := ?_) rfl (by kernel_rfl) (by kernel_rfl) (by kernel_rfl) (fun _ _ _ h => h) (Or.inl ⟨by first | kernel_rfl | rfl, ?_⟩) (by assumption) ?_
            case refine_2 => intro w hSw; obtain ⟨s1, s2, s3, s4⟩ := hSw; go_simp; try with_reducible rfl
            refine wpAnyH_take (i := 6) (v := ?_) rfl (by kernel_rfl) (by kernel_rfl) (by kernel_rfl) (fun _ _ _ h => h) (Or.inl ⟨by first | kernel_rfl | rfl, ?_⟩) (by assumption) ?_
            case refine_2 => intro w hSw; obtain ⟨s1, s2, s3, s4⟩ := hSw; go_simp; try with_reducible rfl
            refine wpAnyH_ready (rs := [7]) (by kernel_rfl) (by simp) (AllReadyH.cons rfl (fun K hK => ?_) AllReadyH.nil)
            go_simp
            have hk3 : Kept w4 w4.drew := (Below.refl _ w4).drew
            have hka := hk3.then (box_below w4.drew (.cells #[.int .u32 (bx : Nat), .int .i64 (k : Nat), .int .u32 (xb : Nat), .int .i64 xs] 47))
            refine hK.out _ _ ⟨hka.cell y0, hka.cell y1, hka.cell y2, hka.cell y3⟩ (fun _ => ?_)
            clear hK K
            refine wpAnyH_ready (rs := [8]) (by kernel_rfl) (by simp) (AllReadyH.cons rfl (fun K hK => ?_) AllReadyH.nil)
            rw [if_pos (by rfl)]
            have HOD : Hid (w4.drew.ownsRow B 47 4 (Value.slice pu k cu) k (flatR mvL (m2v.take k))) := Lib.hid (own_stay HO24.out (fun j hj => hk3.block j (HO24.out.lt j hj).2))
            refine wp_append_flat _ _ 43 rfl B 47 ir (.agg #[.int .u32 0, .int .i64 0, .int .u32 0, .int .i64 0]) 4 32 Tryd.underlying43 HIR.out HZ0.out HZ1.out HZ2.out rfl (by decide) _ k (flatR mvL (m2v.take k)) ?q0 (HOD.out.alloc _) _ 1 (mvL ((bx, (k : Int)), (xb, xs))) rfl (HG1.out _) ?q1 ?q2 ?q3 ?_
            case q0 => rfl
            case q1 => have := HKK.out; unfold maxLen; omega
            case q2 => have := HKK.out; omega
            case q3 => exact Nat.le_trans (show B ≤ w4.heap.size by have := HQ4.out.size; have := HBE.out; omega) (le_drew_alloc w4 _)
            intro v6 w6 hown2 hgrow2 hat2
            have HN6 : Hid (w6.ownsRow B 47 4 v6 k1 (flatR mvL (m2v.take k1))) := Lib.hid (by
              have h := hown2
              rw [HG.out, ← HKK.out.1] at h
              exact h)
            have HQ6 : Hid (Kept w3 w6) := Lib.hid (append_keptX (show Kept w3 w4.drew from (show Kept w3 w4 from HQ4.out).then hk3) (by rw [HBE.out]; exact Nat.le_refl _) HOD.out hgrow2)
            have hstay6 : ∀ j, j < w4.heap.size → (∀ i, (Value.slice pu k cu).ownBlock = some i → i ≠ j) → w6.heap[j]? = w4.heap[j]? := fun j hj hne =>
              (hgrow2.block j (Nat.lt_of_lt_of_le hj hka.size) (fun e => hne j e.symm rfl)).trans (hka.block j hj)
            have hato6 : ∀ i, v6.ownBlock = some i → (Value.slice pu k cu).ownBlock = some i ∨ w4.heap.size ≤ i := fun i hi => by
              rcases hat2 with h | h
              · exact Or.inl (h.symm.trans hi)
              · exact Or.inr (by rw [h] at hi; rw [← Option.some.inj hi]; exact hka.size)
            have z0 := Kept.cell HQ6.out HP0.out
            have z1 := Kept.cell HQ6.out HP1.out
            have y4 : w4.heap[b7]? = some (.cells #[.int .u32 (bx : Nat), .int .i64 (k : Nat)] 45 (0, 0)) := HROW4.out
            have hrow6 : w6.heap[b7]? = some (.cells #[.int .u32 (bx : Nat), .int .i64 (k : Nat)] 45 (0, 0)) := by
              rw [hstay6 b7 (Array.getElem?_eq_some_iff.1 y4).1 (fun i hi => by have := HLT.out.2 i hi; omega)]; exact y4
            have z2 : w6.cell? ⟨b7, 0, none⟩ = some (.int .u32 (bx : Nat)) := by rw [cell_of_row _ _ _ _ _ _ hrow6]; rfl
            have z3 : w6.cell? ⟨b7, 1, none⟩ = some (.int .i64 (k : Nat)) := by rw [cell_of_row _ _ _ _ _ _ hrow6]; rfl
            have HO16 : Hid (w6.ownsRow B 47 4 v4 k1 (flatR mvL (m1v.take k1))) := Lib.hid (own_stay HN4.out (fun j hj => hstay6 j (HN4.out.lt j hj).2 (fun i hi e => HAP4.out j hj (by rw [← e]; exact hi))))
            have HAP6 : Hid (∀ j, v4.ownBlock = some j → v6.ownBlock = some j → False) := Lib.hid (fun j h1 h2 => by
              rcases hato6 j h2 with h | h
              · exact HAP4.out j h1 h
              · have := (HN4.out.lt j h1).2; omega)
            refine hK.out _ _ ⟨z0, z1, z2, z3⟩ (fun _ => ?_)
            clear hK K hown2 hgrow2 hat2 hka hk3 hstay6 hato6  hrow6 y4 HOD y0 y1 y2 y3
            refine wpAnyH_take (i := 9) (v := ?_) rfl (by kernel_rfl) (by kernel_rfl) (by kernel_rfl) (fun _ _ _ h => h) (Or.inl ⟨by first | kernel_rfl | rfl, ?_⟩) (by assumption) ?_
            case refine_2 => intro w hSw; obtain ⟨s1, s2, s3, s4⟩ := hSw; go_simp; try with_reducible rfl
            refine wpAnyH_done (by kernel_rfl) ?_ _
            go_wp2
            go_roundg (np - k1)
            · exact ⟨k1, _, _, by have := HKK.out; omega, rfl, rfl, by first | rfl | (have := HKK.out; congr 1; omega), HO16, HN6, HAP6, HQ6⟩
            · have := HKK.out; omega
          · have hkm : k = np := by omega
            have bk : decide ((k : Int) < (np : Int)) = false := decide_eq_false (by omega)
            have hki : ¬ (k : Int) < np := by omega
            have HMS1 : Hid (MvsAt m1v (.slice pv k cv) wr) := Lib.hid (by
              have h := HO1.out
              rw [List.take_of_length_le (by have := HL12.out.1; omega)] at h
              exact RowsAt.own encV HW12.out.1 (by rw [HL12.out.1, ← hkm]; exact h))
            have HMS2 : Hid (MvsAt m2v (.slice pu k cu) wr) := Lib.hid (by
              have h := HO2.out
              rw [List.take_of_length_le (by have := HL12.out.2; omega)] at h
              exact RowsAt.own encV HW12.out.2 (by rw [HL12.out.2, ← hkm]; exact h))
            have HXR : Hid (Kept W1 wr) := Lib.hid ((show Kept W1 w3 from HX3.out).then HQ.out)
            have HKR : Hid (Kept w wr) := Lib.hid ((show Kept w W1 from HK1.out).then HXR.out)
            obtain ⟨M, hM⟩ : ∃ M, M = turnM m1v m := ⟨_, rfl⟩
            have HIDM : Hid (mi = M.id ∧ mn = M.es.length) := Lib.hid ⟨by rw [hM]; exact HMN.out.1, by rw [hM, HMN.out.2]; unfold turnM; simp⟩
            have hme : m.es.length ≤ 30 := by have := HMN.out.2; have := HN30.out; omega
            have hMe : M.es.length ≤ 30 := by have := HIDM.out.2; have := HN30.out; omega
            have hle : m1v.length ≤ 30 ∧ m2v.length ≤ 30 := by have := HL12.out; have := HP30.out; omega
            have C1 := CT m m1v _ _ wr (HM1.out.later HXR.out) (by omega) HMS1.out (by omega)
            have C2 := Lib.hid (fun W (u : Value) (H : ManIs M u W) (H2 : MvsAt m2v (.slice pu k cu) W) => CT M m2v _ _ W H (by omega) H2 (by omega))
            rw [HTB.out.2.1, ← hM] at C1
            have htb := HTB.out
            rw [← hM] at htb
            rw [htb.1, htb.2.2] at C2
            have HME := Lib.hid hme
            clear hM hme hMe hle hkm hk hkn htb CT
            have m0 : wr.cell? ⟨w.heap.size, 0, none⟩ = some (.int .u32 (mi : Nat)) := by rw [cell_of_row _ _ _ _ _ _ (Kept.row HXR.out HRM.out)]; rfl
            have m1 : wr.cell? ⟨w.heap.size, 1, none⟩ = some (.slice p mn c) := by rw [cell_of_row _ _ _ _ _ _ (Kept.row HXR.out HRM.out)]; rfl
            go_wp2_with fail
            refine C1.mono ?_
            rintro e w5 ⟨⟨v, rfl, hv⟩, hb⟩
            obtain ⟨p5, c5, hp⟩ := hv.cut
            subst hp
            rw [← HIDM.out.1, ← HIDM.out.2]
            rw [← HIDM.out.1, ← HIDM.out.2] at hv
            have hr := heap_alloc_last w5 (.cells #[.int .u32 (mi : Nat), .slice p5 mn c5] 25)
            obtain ⟨V5, hW⟩ : ∃ W, W = w5.alloc (.cells #[.int .u32 (mi : Nat), .slice p5 mn c5] 25) := ⟨_, rfl⟩
            have HV5 := Lib.hid hW
            obtain ⟨b5, hbk⟩ : ∃ b, b = w5.heap.size := ⟨_, rfl⟩
            have HB5 := Lib.hid hbk
            rw [← hbk, ← hW] at hr
            have HR5 := Lib.hid hr
            have hkx : Kept w5 V5 := by rw [hW]; exact box_below _ _
            have HS5 := Lib.hid (hv.later hkx)
            have HX5 : Hid (Kept wr V5) := Lib.hid ((show Kept wr w5 from hb).then hkx)
            clear hb hv hr hW hbk hkx
            have e0 : V5.cell? ⟨b5, 0, none⟩ = some (.int .u32 (mi : Nat)) := by rw [cell_of_row _ _ _ _ _ _ HR5.out]; rfl
            have e1 : V5.cell? ⟨b5, 1, none⟩ = some (.slice p5 mn c5) := by rw [cell_of_row _ _ _ _ _ _ HR5.out]; rfl
            rw [HV5.out, HB5.out] at e0 e1
            have C22 := C2.out V5 _ HS5.out (HMS2.out.later HX5.out)
            clear C1 C2 m0 m1
            go_wp2_with fail
            try rw [← HB5.out]
            rw [← HV5.out]
            refine C22.mono ?_
            rintro e w8 ⟨⟨v, rfl, hv⟩, hb⟩
            obtain ⟨p8, c8, hp⟩ := hv.cut
            subst hp
            rw [← HMN.out.1, ← HMN.out.2]
            rw [← HMN.out.1, ← HMN.out.2] at hv
            have hr := heap_alloc_last w8 (.cells #[.int .u32 (mi : Nat), .slice p8 mn c8] 25)
            obtain ⟨V8, hW⟩ : ∃ W, W = w8.alloc (.cells #[.int .u32 (mi : Nat), .slice p8 mn c8] 25) := ⟨_, rfl⟩
            have HV8 := Lib.hid hW
            obtain ⟨b8, hbk⟩ : ∃ b, b = w8.heap.size := ⟨_, rfl⟩
            have HB8 := Lib.hid hbk
            rw [← hbk, ← hW] at hr
            have HR8 := Lib.hid hr
            have hkx : Kept w8 V8 := by rw [hW]; exact box_below _ _
            have HS8 := Lib.hid (hv.later hkx)
            have HX8 : Hid (Kept V5 V8) := Lib.hid ((show Kept V5 w8 from hb).then hkx)
            clear hb hv hr hW hbk hkx
            have HX9 : Hid (Kept W1 V8) := Lib.hid (((show Kept W1 wr from HXR.out).then HX5.out).then HX8.out)
            have HK9 : Hid (Kept w V8) := Lib.hid ((show Kept w W1 from HK1.out).then HX9.out)
            have m0 : V8.cell? ⟨w.heap.size, 0, none⟩ = some (.int .u32 (mi : Nat)) := by rw [cell_of_row _ _ _ _ _ _ (Kept.row HX9.out HRM.out)]; rfl
            have m1 : V8.cell? ⟨w.heap.size, 1, none⟩ = some (.slice p mn c) := by rw [cell_of_row _ _ _ _ _ _ (Kept.row HX9.out HRM.out)]; rfl
            have d0 : V8.cell? ⟨b8, 0, none⟩ = some (.int .u32 (mi : Nat)) := by rw [cell_of_row _ _ _ _ _ _ HR8.out]; rfl
            have d1 : V8.cell? ⟨b8, 1, none⟩ = some (.slice p8 mn c8) := by rw [cell_of_row _ _ _ _ _ _ HR8.out]; rfl
            rw [HV8.out, HB8.out] at d0 d1
            rw [HV8.out] at m0 m1
            have CS := rsame15_any m m _ _ V8 HS8.out (HM1.out.later HX9.out) (by have := HME.out; omega) (by have := HME.out; omega)
            rw [decide_eq_true (rfl : m = m)] at CS
            clear C22 e0 e1
            go_wp2_with fail
            try rw [← HB8.out]
            rw [← HV8.out]
            refine CS.mono ?_
            rintro e w9 ⟨rfl, hb⟩
            have HKF : Hid (Kept w w9) := Lib.hid ((show Kept w V8 from HK9.out).then hb)
            clear hb CS d0 d1 m0 m1
            have A := AW w9 (HT.out.later HKF.out)
            go_wp2_with fail
            refine A.mono ?_
            rintro e wz ⟨rfl, hb⟩
            have HKZ : Hid (Kept w wz) := Lib.hid ((show Kept w w9 from HKF.out).then hb)
            clear hb A
            go_wp2
            go_ret
            exact ⟨rfl, HKZ.out⟩
  · rw [decide_eq_false hm30] at F1
    clear hm30
    go_enter Tryd.func6, Tryd.ntmps6
    go_wp2_with fail
    rw [← HW1.out]
    refine F1.mono ?_
    rintro e w2 ⟨rfl, hb2⟩
    have HX2 : Hid (Kept W1 w2) := Lib.hid hb2
    have HK2 : Hid (Kept w w2) := Lib.hid ((show Kept w W1 from HK1.out).then hb2)
    clear hb2 F1 a0 a1
    have A := AW w2 (HT.out.later HK2.out)
    go_wp2_with fail
    refine A.mono ?_
    rintro e wz ⟨rfl, hb⟩
    have HKZ : Hid (Kept w wz) := Lib.hid ((show Kept w w2 from HK2.out).then hb)
    clear hb A
    go_wp2
    go_ret
    exact ⟨rfl, HKZ.out⟩

end Go.Proofs.YteompckehokdoaaDoor
