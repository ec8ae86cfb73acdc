/- ManifestTurns out of the contracts. -/
import Derived.Test.YteompckehokdoaaDoorMnX
import Derived.Test.YteompckehokdoaaDoorMnO
import Derived.Deep.RegionHeld
namespace Go.Proofs.YteompckehokdoaaDoor
open Go.RowKit

set_option maxRecDepth 100000 in
set_option maxHeartbeats 16000000 in
theorem manifestTurns_of (CT : MTurnOk) (AW : AwakeM) (m : Mf) (F T : List Pl) (v u : Value) (w : World) (HM : ManIs m v w) (HV : MovesAt F T u w) (hT : TabAt w) :
    Calls Tryd.prog 5 #[v, u] w fun e w' => e = .returned (.bool true) ∧ Kept w w' := by
  obtain ⟨ir, hir, hx⟩ := Option.map_eq_some_iff.1 info_mv
  simp only [Prod.mk.injEq] at hx
  obtain ⟨hz0, hz1, hz2⟩ := hx
  have HIR := Lib.hid hir
  have HZ0 := Lib.hid hz0
  have HZ1 := Lib.hid hz1
  have HZ2 := Lib.hid hz2
  obtain ⟨p, c, rfl⟩ := HM.cut
  obtain ⟨vf, vt, rfl, hfa, hta⟩ := HV
  obtain ⟨pf, cf, rfl, -, -⟩ := hfa.out encP
  obtain ⟨pt, ct, rfl, -, -⟩ := hta.out encP
  obtain ⟨mn, hn⟩ : ∃ n, n = m.es.length := ⟨_, rfl⟩
  obtain ⟨mi, hid⟩ : ∃ i, i = m.id := ⟨_, rfl⟩
  obtain ⟨nf, hnf⟩ : ∃ n, n = F.length := ⟨_, rfl⟩
  obtain ⟨nt, hnt⟩ : ∃ n, n = T.length := ⟨_, rfl⟩
  have HFA := Lib.hid hfa
  have HTA := Lib.hid hta
  rw [← hn, ← hid] at HM ⊢
  rw [← hnf] at hfa ⊢
  rw [← hnt] at hta ⊢
  have HMN := Lib.hid (show mi = m.id ∧ mn = m.es.length from ⟨hid, hn⟩)
  have HNF := Lib.hid hnf
  have HNT := Lib.hid hnt
  have hs1 : (w.alloc (.cells #[.int .u32 (mi : Nat), .slice p mn c] 25)).heap.size = w.heap.size + 1 := by simp
  obtain ⟨W1, hW1⟩ : ∃ W, W = (w.alloc (.cells #[.int .u32 (mi : Nat), .slice p mn c] 25)).alloc (.cells #[.slice pf nf cf, .slice pt nt ct] 42) := ⟨_, rfl⟩
  have hk1 : Kept w W1 := by rw [hW1]; exact (show Kept w _ from box_below _ _).then (box_below _ _)
  have hrm : W1.heap[w.heap.size]? = some (.cells #[.int .u32 (mi : Nat), .slice p mn c] 25 (0, 0)) := by rw [hW1]; exact Kept.row (box_below _ _) (heap_alloc_last w _)
  have hro : W1.heap[w.heap.size + 1]? = some (.cells #[.slice pf nf cf, .slice pt nt ct] 42 (0, 0)) := by
    have := heap_alloc_last (w.alloc (.cells #[.int .u32 (mi : Nat), .slice p mn c] 25)) (.cells #[.slice pf nf cf, .slice pt nt ct] 42)
    rw [hs1] at this
    rw [hW1]; exact this
  have a0 : W1.cell? ⟨w.heap.size, 0, none⟩ = some (.int .u32 (mi : Nat)) := by rw [cell_of_row _ _ _ _ _ _ hrm]; rfl
  have a1 : W1.cell? ⟨w.heap.size, 1, none⟩ = some (.slice p mn c) := by rw [cell_of_row _ _ _ _ _ _ hrm]; rfl
  have hm1 := HM.later hk1
  have F1 := few15_any m _ W1 hm1
  have HRM := Lib.hid hrm
  have HRL := Lib.hid hro
  have HM1 := Lib.hid hm1
  have HK1 := Lib.hid hk1
  have HW1 := Lib.hid hW1
  have HT := Lib.hid hT
  rw [hW1] at a0 a1
  rw [show m.es.length = mn from hn.symm] at F1
  clear HM hfa hta hn hid hnf hnt hs1 hW1 hk1 hrm hro hm1 hT hir hz0 hz1 hz2
  by_cases hm30 : mn ≤ 30
  · rw [decide_eq_true hm30] at F1
    have HN30 := Lib.hid hm30
    by_cases hf30 : 30 < nf
    · have bf : decide ((30 : Int) < (nf : Int)) = true := decide_eq_true (by omega)
      have bfi : (30 : Int) < nf := by omega
      clear hm30 hf30
      go_enter Tryd.func5, Tryd.ntmps5
      go_wp2_with fail
      rw [← HW1.out]
      refine F1.mono ?_
      rintro e w2 ⟨rfl, hb2⟩
      have HX2 : Hid (Kept W1 w2) := Lib.hid hb2
      have HK2 : Hid (Kept w w2) := Lib.hid ((show Kept w W1 from HK1.out).then hb2)
      clear hb2 F1 a0 a1
      have m0 : w2.cell? ⟨w.heap.size, 0, none⟩ = some (.int .u32 (mi : Nat)) := by rw [cell_of_row _ _ _ _ _ _ (Kept.row HX2.out HRM.out)]; rfl
      have m1 : w2.cell? ⟨w.heap.size, 1, none⟩ = some (.slice p mn c) := by rw [cell_of_row _ _ _ _ _ _ (Kept.row HX2.out HRM.out)]; rfl
      have l0 : w2.cell? ⟨w.heap.size + 1, 0, none⟩ = some (.slice pf nf cf) := by rw [cell_of_row _ _ _ _ _ _ (Kept.row HX2.out HRL.out)]; rfl
      have l1 : w2.cell? ⟨w.heap.size + 1, 1, none⟩ = some (.slice pt nt ct) := by rw [cell_of_row _ _ _ _ _ _ (Kept.row HX2.out HRL.out)]; rfl
      have A := AW w2 (HT.out.later HK2.out)
      go_wp2_with fail
      refine A.mono ?_
      rintro e wz ⟨rfl, hb⟩
      have HKZ : Hid (Kept w wz) := Lib.hid ((show Kept w w2 from HK2.out).then hb)
      clear hb A
      go_wp2
      go_ret
      exact ⟨rfl, HKZ.out⟩
    · have bf : decide ((30 : Int) < (nf : Int)) = false := decide_eq_false (by omega)
      have bfi : ¬ (30 : Int) < nf := by omega
      have HF30 := Lib.hid (show nf ≤ 30 by omega)
      by_cases ht30 : 30 < nt
      · have bt : decide ((30 : Int) < (nt : Int)) = true := decide_eq_true (by omega)
        have bti : (30 : Int) < nt := by omega
        clear hm30 hf30 ht30
        go_enter Tryd.func5, Tryd.ntmps5
        go_wp2_with fail
        rw [← HW1.out]
        refine F1.mono ?_
        rintro e w2 ⟨rfl, hb2⟩
        have HX2 : Hid (Kept W1 w2) := Lib.hid hb2
        have HK2 : Hid (Kept w w2) := Lib.hid ((show Kept w W1 from HK1.out).then hb2)
        clear hb2 F1 a0 a1
        have m0 : w2.cell? ⟨w.heap.size, 0, none⟩ = some (.int .u32 (mi : Nat)) := by rw [cell_of_row _ _ _ _ _ _ (Kept.row HX2.out HRM.out)]; rfl
        have m1 : w2.cell? ⟨w.heap.size, 1, none⟩ = some (.slice p mn c) := by rw [cell_of_row _ _ _ _ _ _ (Kept.row HX2.out HRM.out)]; rfl
        have l0 : w2.cell? ⟨w.heap.size + 1, 0, none⟩ = some (.slice pf nf cf) := by rw [cell_of_row _ _ _ _ _ _ (Kept.row HX2.out HRL.out)]; rfl
        have l1 : w2.cell? ⟨w.heap.size + 1, 1, none⟩ = some (.slice pt nt ct) := by rw [cell_of_row _ _ _ _ _ _ (Kept.row HX2.out HRL.out)]; rfl
        have A := AW w2 (HT.out.later HK2.out)
        go_wp2_with fail
        refine A.mono ?_
        rintro e wz ⟨rfl, hb⟩
        have HKZ : Hid (Kept w wz) := Lib.hid ((show Kept w w2 from HK2.out).then hb)
        clear hb A
        go_wp2
        go_ret
        exact ⟨rfl, HKZ.out⟩
      · have bt : decide ((30 : Int) < (nt : Int)) = false := decide_eq_false (by omega)
        have bti : ¬ (30 : Int) < nt := by omega
        have HT30 := Lib.hid (show nt ≤ 30 by omega)
        obtain ⟨mv, hmv⟩ : ∃ mv, mv = F.zip T := ⟨_, rfl⟩
        have HMV := Lib.hid hmv
        obtain ⟨nm, hnm⟩ : ∃ n, n = mv.length := ⟨_, rfl⟩
        have HNM : Hid (nm = mv.length ∧ nm = min nf nt) := Lib.hid ⟨hnm, by rw [hnm, hmv, List.length_zip, HNF.out, HNT.out]⟩
        have HMW : Hid (∀ q ∈ mv, wfV q) := Lib.hid (fun q hq => by
          rw [hmv] at hq
          have := List.of_mem_zip (a := q.1) (b := q.2) hq
          exact ⟨HFA.out.good _ this.1, HTA.out.good _ this.2⟩)
        clear hm30 hf30 ht30 hmv hnm
        go_enter Tryd.func5, Tryd.ntmps5
        go_wp2_with fail
        rw [← HW1.out]
        refine F1.mono ?_
        rintro e w2 ⟨rfl, hb2⟩
        have HX2 : Hid (Kept W1 w2) := Lib.hid hb2
        have HK2 : Hid (Kept w w2) := Lib.hid ((show Kept w W1 from HK1.out).then hb2)
        clear hb2 F1 a0 a1
        have m0 : w2.cell? ⟨w.heap.size, 0, none⟩ = some (.int .u32 (mi : Nat)) := by rw [cell_of_row _ _ _ _ _ _ (Kept.row HX2.out HRM.out)]; rfl
        have m1 : w2.cell? ⟨w.heap.size, 1, none⟩ = some (.slice p mn c) := by rw [cell_of_row _ _ _ _ _ _ (Kept.row HX2.out HRM.out)]; rfl
        have l0 : w2.cell? ⟨w.heap.size + 1, 0, none⟩ = some (.slice pf nf cf) := by rw [cell_of_row _ _ _ _ _ _ (Kept.row HX2.out HRL.out)]; rfl
        have l1 : w2.cell? ⟨w.heap.size + 1, 1, none⟩ = some (.slice pt nt ct) := by rw [cell_of_row _ _ _ _ _ _ (Kept.row HX2.out HRL.out)]; rfl
        go_wp2
        clear m0 m1 l0 l1 bf bt bfi bti
        obtain ⟨B, hB⟩ : ∃ B, B = w2.heap.size := ⟨_, rfl⟩
        have HBE := Lib.hid hB
        clear hB
        go_loopg [5, 6] nm (fun gh s y wr => ∃ (k : Nat) (tv : Value), k + gh = nm ∧ s = tv ∧ y = .int .i64 k ∧ Hid (wr.ownsRow B 47 4 tv k (flatR mvL (mv.take k))) ∧ Hid (Kept w2 wr))
        case atStart => exact ⟨0, _, by omega, rfl, rfl, Lib.hid (World.ownsRow_nil _ _ _ 4), Lib.hid (Kept.refl w2)⟩
        case round =>
          obtain ⟨k, tv, hk, rfl, rfl, HO, HKR⟩ := hrel
          have HXR : Hid (Kept W1 wr) := Lib.hid ((show Kept W1 w2 from HX2.out).then HKR.out)
          have HKW : Hid (Kept w wr) := Lib.hid ((show Kept w w2 from HK2.out).then HKR.out)
          obtain ⟨pv, cv, htv, -, -⟩ := own_slice HO.out
          subst htv
          have m0 : wr.cell? ⟨w.heap.size, 0, none⟩ = some (.int .u32 (mi : Nat)) := by rw [cell_of_row _ _ _ _ _ _ (Kept.row HXR.out HRM.out)]; rfl
          have m1 : wr.cell? ⟨w.heap.size, 1, none⟩ = some (.slice p mn c) := by rw [cell_of_row _ _ _ _ _ _ (Kept.row HXR.out HRM.out)]; rfl
          have l0 : wr.cell? ⟨w.heap.size + 1, 0, none⟩ = some (.slice pf nf cf) := by rw [cell_of_row _ _ _ _ _ _ (Kept.row HXR.out HRL.out)]; rfl
          have l1 : wr.cell? ⟨w.heap.size + 1, 1, none⟩ = some (.slice pt nt ct) := by rw [cell_of_row _ _ _ _ _ _ (Kept.row HXR.out HRL.out)]; rfl
          by_cases hkn : k < nm
          · have hkf : k < F.length := by have := HNM.out.2; have := HNF.out; omega
            have hkt : k < T.length := by have := HNM.out.2; have := HNT.out; omega
            have hkfn : k < nf := by have := HNF.out; omega
            have hktn : k < nt := by have := HNT.out; omega
            have bf : decide ((k : Int) < (nf : Int)) = true := decide_eq_true (by omega)
            have bt : decide ((k : Int) < (nt : Int)) = true := decide_eq_true (by omega)
            have hki0 : (0 : Int) ≤ k := by omega
            obtain ⟨bf', of', _, _, _, rfl, -, -, -, hcf⟩ := HFA.out.elem encP hkf
            obtain ⟨bt', ot', _, _, _, rfl, -, -, -, hct⟩ := HTA.out.elem encP hkt
            have IXF := fun W => idx_rec (P := Tryd.prog) Tryd.underlying40 (fun w => Tryd.sizeOf45 w) bf' of' nf cf k hkfn W
            have IXT := fun W => idx_rec (P := Tryd.prog) Tryd.underlying40 (fun w => Tryd.sizeOf45 w) bt' ot' nt ct k hktn W
            have hkm : k < mv.length := by have := HNM.out.1; omega
            have hmk : mv[k] = (F[k], T[k]) := by
              have e : ∀ (l : List Mv) (h : k < l.length), l = F.zip T → l[k] = (F[k], T[k]) := fun l h e => by subst e; exact List.getElem_zip
              exact e mv hkm HMV.out
            have htk : mv.take (k + 1) = mv.take k ++ [mv[k]] := List.take_succ_eq_append_getElem hkm
            have hwv := HMW.out _ (List.getElem_mem hkm)
            obtain ⟨fb, hfb⟩ : ∃ x, x = (F[k]).1 := ⟨_, rfl⟩
            obtain ⟨fs, hfs⟩ : ∃ x, x = (F[k]).2 := ⟨_, rfl⟩
            obtain ⟨tb, htb⟩ : ∃ x, x = (T[k]).1 := ⟨_, rfl⟩
            obtain ⟨ts, hts⟩ : ∃ x, x = (T[k]).2 := ⟨_, rfl⟩
            have hmk2 : mv[k] = ((fb, fs), (tb, ts)) := by rw [hmk, hfb, hfs, htb, hts]
            rw [hmk2] at htk hwv
            have HF0 := Lib.hid (show w.cell? ⟨bf', of' + k * 2, none⟩ = some (.int .u32 (fb : Nat)) by rw [hfb]; exact hcf 0 _ rfl)
            have HF1 := Lib.hid (show w.cell? ⟨bf', of' + k * 2 + 1, none⟩ = some (.int .i64 fs) by rw [hfs]; exact hcf 1 _ rfl)
            have HT0 := Lib.hid (show w.cell? ⟨bt', ot' + k * 2, none⟩ = some (.int .u32 (tb : Nat)) by rw [htb]; exact hct 0 _ rfl)
            have HT1 := Lib.hid (show w.cell? ⟨bt', ot' + k * 2 + 1, none⟩ = some (.int .i64 ts) by rw [hts]; exact hct 1 _ rfl)
            have q0 := Kept.cell HKW.out HF0.out
            have q1 := Kept.cell HKW.out HF1.out
            have q2 := Kept.cell HKW.out HT0.out
            have q3 := Kept.cell HKW.out HT1.out
            have HOD : Hid (wr.drew.ownsRow B 47 4 (.slice pv k cv) k (flatR mvL (mv.take k))) := Lib.hid (own_stay HO.out (fun j hj => ((Below.refl _ wr).drew : Below wr.heap.size wr wr.drew).block j (HO.out.lt j hj).2))
            have HONE := Lib.hid (fun (W : World) => flat_rec encV W 47 ((fb, fs), (tb, ts)) hwv #[.int .u32 (fb : Nat), .int .i64 fs, .int .u32 (tb : Nat), .int .i64 ts] rfl)
            obtain ⟨k1, hk1⟩ : ∃ k1, k1 = k + 1 := ⟨_, rfl⟩
            have v1 : IntKind.i64.wrap ((k : Int) + 1) = (k1 : Int) := by rw [show (k : Int) + 1 = (k1 : Int) by omega]; exact IntWalk.i64_in _ (by have := HF30.out; omega)
            have HKK : Hid (k1 = k + 1 ∧ k + gk = nm ∧ k < nm ∧ k < 30) := Lib.hid ⟨hk1, hk, hkn, by have := HF30.out; omega⟩
            have HFT : Hid (flatR mvL (mv.take k) ++ mvL ((fb, fs), (tb, ts)) = flatR mvL (mv.take k1)) := Lib.hid (by rw [flatR_snoc, hk1, htk])
            clear hcf hct hkm hmk hmk2 htk hwv hfb hfs htb hts hk1 hk hkn hkf hkt m0 m1
            have hkif : (k : Int) < nf := by omega
            have hkit : (k : Int) < nt := by omega
            go_wp2_with fail
            refine wp_region_held_drew (S := fun w' => w'.cell? ⟨w.heap.size + 1, 0, none⟩ = some (.slice (some ⟨bf', of', none⟩) nf cf) ∧ w'.cell? ⟨w.heap.size + 1, 1, none⟩ = some (.slice (some ⟨bt', ot', none⟩) nt ct) ∧ w'.cell? ⟨bf', of' + k * 2, none⟩ = some (.int .u32 (fb : Nat)) ∧ w'.cell? ⟨bf', of' + k * 2 + 1, none⟩ = some (.int .i64 fs) ∧ w'.cell? ⟨bt', ot' + k * 2, none⟩ = some (.int .u32 (tb : Nat)) ∧ w'.cell? ⟨bt', ot' + k * 2 + 1, none⟩ = some (.int .i64 ts)) (by kernel_rfl) ⟨l0, l1, q0, q1, q2, q3⟩ (fun hHeld => ?_)
            refine wpAnyH_take (i := 0) (v := ?_) rfl (by kernel_rfl) (by kernel_rfl) (by kernel_rfl) (fun _ _ _ h => h) (Or.inl ⟨by first | kernel_rfl | rfl, ?_⟩) (by assumption) ?_
            case refine_2 => intro w hSw; obtain ⟨s1, s2, s3, s4, s5, s6⟩ := hSw; go_simp; try with_reducible rfl
            refine wpAnyH_take (i := 1) (v := ?_) rfl (by kernel_rfl) (by kernel_rfl) (by kernel_rfl) (fun _ _ _ h => h) (Or.inl ⟨by first | kernel_rfl | rfl, ?_⟩) (by assumption) ?_
            case refine_2 => intro w hSw; obtain ⟨s1, s2, s3, s4, s5, s6⟩ := hSw; go_simp; try with_reducible rfl
            refine wpAnyH_take (i := 2) (v := ?_) rfl (by kernel_rfl) (by kernel_rfl) (by kernel_rfl) (fun _ _ _ h => h) (Or.inl ⟨by first | kernel_rfl | rfl, ?_⟩) (by assumption) ?_
            case refine_2 => intro w hSw; obtain ⟨s1, s2, s3, s4, s5, s6⟩ := hSw; go_simp; try with_reducible rfl
            refine wpAnyH_take (i := 3) (v := ?_) rfl (by kernel_rfl) (by kernel_rfl) (by kernel_rfl) (fun _ _ _ h => h) (Or.inl ⟨by first | kernel_rfl | rfl, ?_⟩) (by assumption) ?_
            case refine_2 => intro w hSw; obtain ⟨s1, s2, s3, s4, s5, s6⟩ := hSw; go_simp; try with_reducible rfl
            refine wpAnyH_take (i := 4) (v := ?_) rfl (by kernel_rfl) (by kernel_rfl) (by kernel_rfl) (fun _ _ _ h => h) (Or.inl ⟨by first | kernel_rfl | rfl, ?_⟩) (by assumption) ?_
            case refine_2 => intro w hSw; obtain ⟨s1, s2, s3, s4, s5, s6⟩ := hSw; go_simp; try with_reducible rfl
            refine wpAnyH_take (i := 5) (v := ?_) rfl (by kernel_rfl) (by kernel_rfl) (by kernel_rfl) (fun _ _ _ h => h) (Or.inl ⟨by first | kernel_rfl | rfl, ?_⟩) (by assumption) ?_
            case refine_2 => intro w hSw; obtain ⟨s1, s2, s3, s4, s5, s6⟩ := hSw; go_simp; try with_reducible rfl
            refine wpAnyH_take (i := 6) (v := ?_) rfl (by kernel_rfl) (by kernel_rfl) (by kernel_rfl) (fun _ _ _ h => h) (Or.inl ⟨by first | kernel_rfl | rfl, ?_⟩) (by assumption) ?_
            case refine_2 => intro w hSw; obtain ⟨s1, s2, s3, s4, s5, s6⟩ := hSw; go_simp; try with_reducible rfl
            refine wpAnyH_take (i := 7) (v := ?_) rfl (by kernel_rfl) (by kernel_rfl) (by kernel_rfl) (fun _ _ _ h => h) (Or.inl ⟨by first | kernel_rfl | rfl, ?_⟩) (by assumption) ?_
            case refine_2 => intro w hSw; obtain ⟨s1, s2, s3, s4, s5, s6⟩ := hSw; go_simp; try with_reducible rfl
            refine wpAnyH_take (i := 8) (v := ?_) rfl (by kernel_rfl) (by kernel_rfl) (by kernel_rfl) (fun _ _ _ h => h) (Or.inl ⟨by first | kernel_rfl | rfl, ?_⟩) (by assumption) ?_
            case refine_2 => intro w hSw; obtain ⟨s1, s2, s3, s4, s5, s6⟩ := hSw; go_simp; try with_reducible rfl
            refine wpAnyH_take (i := 9) (v := ?_) rfl (by kernel_rfl) (by kernel_rfl) (by kernel_rfl) (fun _ _ _ h => h) (Or.inl ⟨by first | kernel_rfl | rfl, ?_⟩) (by assumption) ?_
            case refine_2 => intro w hSw; obtain ⟨s1, s2, s3, s4, s5, s6⟩ := hSw; go_simp; try with_reducible rfl
            refine wpAnyH_take (i := 10) (v := ?_) rfl (by kernel_rfl) (by kernel_rfl) (by kernel_rfl) (fun _ _ _ h => h) (Or.inl ⟨by first | kernel_rfl | rfl, ?_⟩) (by assumption) ?_
            case refine_2 => intro w hSw; obtain ⟨s1, s2, s3, s4, s5, s6⟩ := hSw; go_simp; try with_reducible rfl
            refine wpAnyH_take (i := 11) (v := ?_) rfl (by kernel_rfl) (by kernel_rfl) (by kernel_rfl) (fun _ _ _ h => h) (Or.inl ⟨by first | kernel_rfl | rfl, ?_⟩) (by assumption) ?_
            case refine_2 => intro w hSw; obtain ⟨s1, s2, s3, s4, s5, s6⟩ := hSw; go_simp; try with_reducible rfl
            refine wpAnyH_ready (rs := [12]) (by kernel_rfl) (by simp) (AllReadyH.cons rfl (fun K hK => ?_) AllReadyH.nil)
            go_simp
            have hk3 : Kept wr wr.drew := (Below.refl _ wr).drew
            have hka := hk3.then (box_below wr.drew (.cells #[.int .u32 (fb : Nat), .int .i64 fs, .int .u32 (tb : Nat), .int .i64 ts] 47))
            refine hK.out _ _ ⟨hka.cell l0, hka.cell l1, hka.cell q0, hka.cell q1, hka.cell q2, hka.cell q3⟩ (fun _ => ?_)
            clear hK K
            refine wpAnyH_ready (rs := [13]) (by kernel_rfl) (by simp) (AllReadyH.cons rfl (fun K hK => ?_) AllReadyH.nil)
            rw [if_pos (by rfl)]
            refine wp_append_flat _ _ 43 rfl B 47 ir (.agg #[.int .u32 0, .int .i64 0, .int .u32 0, .int .i64 0]) 4 32 Tryd.underlying43 HIR.out HZ0.out HZ1.out HZ2.out rfl (by decide) _ k (flatR mvL (mv.take k)) ?q0 (HOD.out.alloc _) _ 1 (mvL ((fb, fs), (tb, ts))) rfl (HONE.out _) ?q1 ?q2 ?q3 ?_
            case q0 => rfl
            case q1 => have := HKK.out; unfold maxLen; omega
            case q2 => have := HKK.out; omega
            case q3 => exact Nat.le_trans (show B ≤ wr.heap.size by have := HKR.out.size; have := HBE.out; omega) (le_drew_alloc wr _)
            intro v4 w5 hown2 hgrow2 _
            have H6 : Hid (w5.ownsRow B 47 4 v4 k1 (flatR mvL (mv.take k1))) := Lib.hid (by
              have h := hown2
              rw [HFT.out, ← HKK.out.1] at h
              exact h)
            have H7 : Hid (Kept w2 w5) := Lib.hid (append_keptX (show Kept w2 wr.drew from (show Kept w2 wr from HKR.out).then hk3) (by rw [HBE.out]; exact Nat.le_refl _) HOD.out hgrow2)
            have hx5 : Kept W1 w5 := (show Kept W1 w2 from HX2.out).then H7.out
            have hw5 : Kept w w5 := (show Kept w w2 from HK2.out).then H7.out
            have l2 : w5.cell? ⟨w.heap.size + 1, 0, none⟩ = some (.slice (some ⟨bf', of', none⟩) nf cf) := by rw [cell_of_row _ _ _ _ _ _ (Kept.row hx5 HRL.out)]; rfl
            have l3 : w5.cell? ⟨w.heap.size + 1, 1, none⟩ = some (.slice (some ⟨bt', ot', none⟩) nt ct) := by rw [cell_of_row _ _ _ _ _ _ (Kept.row hx5 HRL.out)]; rfl
            refine hK.out _ _ ⟨l2, l3, Kept.cell hw5 HF0.out, Kept.cell hw5 HF1.out, Kept.cell hw5 HT0.out, Kept.cell hw5 HT1.out⟩ (fun _ => ?_)
            clear hK K hown2 hgrow2 hka hk3 hx5 hw5
            refine wpAnyH_take (i := 14) (v := ?_) rfl (by kernel_rfl) (by kernel_rfl) (by kernel_rfl) (fun _ _ _ h => h) (Or.inl ⟨by first | kernel_rfl | rfl, ?_⟩) (by assumption) ?_
            case refine_2 => intro w hSw; obtain ⟨s1, s2, s3, s4, s5, s6⟩ := hSw; go_simp; try with_reducible rfl
            refine wpAnyH_done (by kernel_rfl) ?_ _
            go_wp2
            go_roundg (nm - k1)
            · exact ⟨k1, _, by have := HKK.out; omega, rfl, by first | rfl | (have := HKK.out; congr 1; omega), H6, H7⟩
            · have := HKK.out; omega
          · have hkm : k = nm := by omega
            have HMS : Hid (MvsAt mv (.slice pv k cv) wr) := Lib.hid (by
              have h := HO.out
              rw [List.take_of_length_le (by have := HNM.out.1; omega)] at h
              exact RowsAt.own encV HMW.out (by rw [← HNM.out.1, ← hkm]; exact h))
            obtain ⟨M, hM⟩ : ∃ M, M = turnM mv m := ⟨_, rfl⟩
            obtain ⟨ht, hht⟩ : ∃ h, h = hitsM mv m := ⟨_, rfl⟩
            obtain ⟨id, hid⟩ : ∃ b, b = M.id := ⟨_, rfl⟩
            obtain ⟨n, hn⟩ : ∃ b, b = M.es.length := ⟨_, rfl⟩
            have HIDN : Hid (id = M.id ∧ n = M.es.length) := Lib.hid ⟨hid, hn⟩
            have hme : m.es.length ≤ 30 := by have := HMN.out.2; have := HN30.out; omega
            have HML : Hid (M.es.length ≤ 30) := Lib.hid (by rw [hM]; unfold turnM; simp only [List.length_map]; exact hme)
            have hle : k ≤ 30 ∧ mv.length ≤ 30 := by have := HNM.out; have := HF30.out; omega
            have C1 := CT m mv _ _ wr (HM1.out.later HXR.out) (by omega) HMS.out (by omega)
            have C2 := Lib.hid (fun W (kk : Kept w W) (H : ManIs m (.agg #[.int .u32 (mi : Nat), .slice p mn c]) W) => rturn15_any m F T _ _ _ W H (HFA.out.later kk) (HTA.out.later kk) (by omega) (by have := HF30.out; have := HNF.out; omega) (by have := HT30.out; have := HNT.out; omega))
            rw [← hM, ← hht] at C1
            rw [← HMV.out, ← hM, ← hht, ← HNF.out, ← HNT.out] at C2
            have hway : (decide ((k : Int) < (nf : Int)) = false ∧ ¬ k < nf) ∨ (decide ((k : Int) < (nf : Int)) = true ∧ decide ((k : Int) < (nt : Int)) = false ∧ k < nf ∧ ¬ k < nt) := by
              by_cases h : k < nf
              · have h2 : ¬ k < nt := by have := HNM.out.2; omega
                exact Or.inr ⟨decide_eq_true (by omega), decide_eq_false (by omega), h, h2⟩
              · exact Or.inl ⟨decide_eq_false (by omega), h⟩
            clear hkm hM hht hid hn hme hle hk hkn CT
            rcases hway with ⟨bf, bf2⟩ | ⟨bf, bt, bf2, bt2⟩
            all_goals
              go_wp2_with fail
              refine C1.mono ?_
              rintro e w3 ⟨⟨v, rfl, hv⟩, hb⟩
              obtain ⟨p3, c3, hp⟩ := hv.cut
              subst hp
              rw [← HIDN.out.1, ← HIDN.out.2]
              rw [← HIDN.out.1, ← HIDN.out.2] at hv
              have hr := heap_alloc_last w3 (.cells #[.int .u32 (id : Nat), .slice p3 n c3] 25)
              obtain ⟨V3, hW⟩ : ∃ W, W = w3.alloc (.cells #[.int .u32 (id : Nat), .slice p3 n c3] 25) := ⟨_, rfl⟩
              have HV3 := Lib.hid hW
              obtain ⟨b3, hbk⟩ : ∃ b, b = w3.heap.size := ⟨_, rfl⟩
              have HB3 := Lib.hid hbk
              rw [← hbk, ← hW] at hr
              have HR3 := Lib.hid hr
              have hkx : Kept w3 V3 := by rw [hW]; exact box_below _ _
              have HS3 := Lib.hid (hv.later hkx)
              have HX3 : Hid (Kept wr V3) := Lib.hid ((show Kept wr w3 from hb).then hkx)
              clear hb hv hr hW hbk hkx
              have HX4 : Hid (Kept W1 V3) := Lib.hid ((show Kept W1 wr from HXR.out).then HX3.out)
              have HK4 : Hid (Kept w V3) := Lib.hid ((show Kept w W1 from HK1.out).then HX4.out)
              clear m0 m1 l0 l1 C1
              have m0 : V3.cell? ⟨w.heap.size, 0, none⟩ = some (.int .u32 (mi : Nat)) := by rw [cell_of_row _ _ _ _ _ _ (Kept.row HX4.out HRM.out)]; rfl
              have m1 : V3.cell? ⟨w.heap.size, 1, none⟩ = some (.slice p mn c) := by rw [cell_of_row _ _ _ _ _ _ (Kept.row HX4.out HRM.out)]; rfl
              have l0 : V3.cell? ⟨w.heap.size + 1, 0, none⟩ = some (.slice pf nf cf) := by rw [cell_of_row _ _ _ _ _ _ (Kept.row HX4.out HRL.out)]; rfl
              have l1 : V3.cell? ⟨w.heap.size + 1, 1, none⟩ = some (.slice pt nt ct) := by rw [cell_of_row _ _ _ _ _ _ (Kept.row HX4.out HRL.out)]; rfl
              rw [HV3.out] at m0 m1 l0 l1
              have C22 := C2.out V3 HK4.out (HM1.out.later HX4.out)
              clear C2
              go_wp2_with fail
              try rw [← HB3.out]
              rw [← HV3.out]
              refine C22.mono ?_
              rintro e w5 ⟨⟨v, rfl, hv⟩, hb⟩
              obtain ⟨p5, c5, hp⟩ := hv.cut
              subst hp
              rw [← HIDN.out.1, ← HIDN.out.2]
              rw [← HIDN.out.1, ← HIDN.out.2] at hv
              have hr := heap_alloc_last w5 (.cells #[.int .u32 (id : Nat), .slice p5 n c5] 25)
              obtain ⟨V5, hW⟩ : ∃ W, W = w5.alloc (.cells #[.int .u32 (id : Nat), .slice p5 n c5] 25) := ⟨_, rfl⟩
              have HV5 := Lib.hid hW
              obtain ⟨b5, hbk⟩ : ∃ b, b = w5.heap.size := ⟨_, rfl⟩
              have HB5 := Lib.hid hbk
              rw [← hbk, ← hW] at hr
              have HR5 := Lib.hid hr
              have hkx : Kept w5 V5 := by rw [hW]; exact box_below _ _
              have HS5 := Lib.hid (hv.later hkx)
              have HX5 : Hid (Kept V3 V5) := Lib.hid ((show Kept V3 w5 from hb).then hkx)
              clear hb hv hr hW hbk hkx
              have hr3 := Kept.row HX5.out HR3.out
              have d0 : V5.cell? ⟨b3, 0, none⟩ = some (.int .u32 (id : Nat)) := by rw [cell_of_row _ _ _ _ _ _ hr3]; rfl
              have d1 : V5.cell? ⟨b3, 1, none⟩ = some (.slice p3 n c3) := by rw [cell_of_row _ _ _ _ _ _ hr3]; rfl
              have d2 : V5.cell? ⟨b5, 0, none⟩ = some (.int .u32 (id : Nat)) := by rw [cell_of_row _ _ _ _ _ _ HR5.out]; rfl
              have d3 : V5.cell? ⟨b5, 1, none⟩ = some (.slice p5 n c5) := by rw [cell_of_row _ _ _ _ _ _ HR5.out]; rfl
              rw [HV5.out, HB5.out] at d2 d3
              rw [HV5.out] at d0 d1
              have CS := rsame15_any M M _ _ V5 (HS3.out.later HX5.out) HS5.out (by have := HML.out; omega) (by have := HML.out; omega)
              rw [decide_eq_true (rfl : M = M)] at CS
              clear C22 hr3 m0 m1 l0 l1
              go_wp2_with fail
              try rw [← HB5.out]
              rw [← HV5.out]
              refine CS.mono ?_
              rintro e w6 ⟨rfl, hb⟩
              have HK6 : Hid (Kept w w6) := Lib.hid (((show Kept w V3 from HK4.out).then HX5.out).then hb)
              clear hb CS d0 d1 d2 d3
              have A := AW w6 (HT.out.later HK6.out)
              go_wp2_with fail
              refine A.mono ?_
              rintro e wz ⟨rfl, hb⟩
              have HKZ : Hid (Kept w wz) := Lib.hid ((show Kept w w6 from HK6.out).then hb)
              clear hb A
              go_wp2
              go_ret
              exact ⟨rfl, HKZ.out⟩
  · rw [decide_eq_false hm30] at F1
    clear hm30
    go_enter Tryd.func5, Tryd.ntmps5
    go_wp2_with fail
    rw [← HW1.out]
    refine F1.mono ?_
    rintro e w2 ⟨rfl, hb2⟩
    have HX2 : Hid (Kept W1 w2) := Lib.hid hb2
    have HK2 : Hid (Kept w w2) := Lib.hid ((show Kept w W1 from HK1.out).then hb2)
    clear hb2 F1 a0 a1
    have A := AW w2 (HT.out.later HK2.out)
    go_wp2_with fail
    refine A.mono ?_
    rintro e wz ⟨rfl, hb⟩
    have HKZ : Hid (Kept w wz) := Lib.hid ((show Kept w w2 from HK2.out).then hb)
    clear hb A
    go_wp2
    go_ret
    exact ⟨rfl, HKZ.out⟩

end Go.Proofs.YteompckehokdoaaDoor
