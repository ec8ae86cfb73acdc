/- ManifestPuts out of the contracts. -/
import Derived.Test.YteompckehokdoaaDoorMnX
import Derived.Deep.RegionHeld
namespace Go.Proofs.YteompckehokdoaaDoor
open Go.RowKit

set_option maxRecDepth 100000 in
set_option maxHeartbeats 16000000 in
theorem manifestPuts_of (CC : MCheckOk) (CP : MPutOk) (CG : MGetOk) (CS : MSameOk) (CZ : MSizeOk) (AW : AwakeM) (m o : Mf) (v u : Value) (w : World) (HM : ManIs m v w) (HO : ManIs o u w) (hT : TabAt w) :
    Calls Tryd.prog 3 #[v, u] w fun e w' => e = .returned (.bool true) ∧ Kept w w' := by
  obtain ⟨p, c, rfl⟩ := HM.cut
  obtain ⟨po, co, rfl⟩ := HO.cut
  have hwf := HM.wf
  obtain ⟨n, hn⟩ : ∃ n, n = m.es.length := ⟨_, rfl⟩
  obtain ⟨id, hid⟩ : ∃ i, i = m.id := ⟨_, rfl⟩
  obtain ⟨k, hk⟩ : ∃ n, n = o.es.length := ⟨_, rfl⟩
  obtain ⟨jd, hjd⟩ : ∃ i, i = o.id := ⟨_, rfl⟩
  rw [← hn, ← hid] at HM ⊢
  rw [← hk, ← hjd] at HO ⊢
  have HIDN : Hid (id = m.id ∧ n = m.es.length) := Lib.hid ⟨hid, hn⟩
  have HJDK : Hid (jd = o.id ∧ k = o.es.length) := Lib.hid ⟨hjd, hk⟩
  have hs1 : (w.alloc (.cells #[.int .u32 (id : Nat), .slice p n c] 25)).heap.size = w.heap.size + 1 := by simp
  obtain ⟨W1, hW1⟩ : ∃ W, W = (w.alloc (.cells #[.int .u32 (id : Nat), .slice p n c] 25)).alloc (.cells #[.int .u32 (jd : Nat), .slice po k co] 25) := ⟨_, rfl⟩
  have hk1 : Kept w W1 := by rw [hW1]; exact (show Kept w _ from box_below _ _).then (box_below _ _)
  have hrm : W1.heap[w.heap.size]? = some (.cells #[.int .u32 (id : Nat), .slice p n c] 25 (0, 0)) := by rw [hW1]; exact Kept.row (box_below _ _) (heap_alloc_last w _)
  have hro : W1.heap[w.heap.size + 1]? = some (.cells #[.int .u32 (jd : Nat), .slice po k co] 25 (0, 0)) := by
    have := heap_alloc_last (w.alloc (.cells #[.int .u32 (id : Nat), .slice p n c] 25)) (.cells #[.int .u32 (jd : Nat), .slice po k co] 25)
    rw [hs1] at this
    rw [hW1]; exact this
  have a0 : W1.cell? ⟨w.heap.size, 0, none⟩ = some (.int .u32 (id : Nat)) := by rw [cell_of_row _ _ _ _ _ _ hrm]; rfl
  have a1 : W1.cell? ⟨w.heap.size, 1, none⟩ = some (.slice p n c) := by rw [cell_of_row _ _ _ _ _ _ hrm]; rfl
  have hm1 := HM.later hk1
  have F1 := few15_any m _ W1 hm1
  have F2 := fun W (kk : Kept W1 W) => few15_any o _ W ((HO.later hk1).later kk)
  have HRM := Lib.hid hrm
  have HRO := Lib.hid hro
  have HM1 := Lib.hid hm1
  have HO1 := Lib.hid (HO.later hk1)
  have HK1 := Lib.hid hk1
  have HW1 := Lib.hid hW1
  have HT := Lib.hid hT
  have HWF := Lib.hid hwf
  rw [hW1] at a0 a1
  rw [show m.es.length = n from hn.symm] at F1
  rw [show o.es.length = k from hk.symm] at F2
  clear HM HO hn hid hk hjd hs1 hW1 hk1 hrm hro hm1 hT hwf
  by_cases hm30 : n ≤ 30
  · rw [decide_eq_true hm30] at F1
    have HN30 := Lib.hid hm30
    by_cases ho30 : k ≤ 30
    · have F22 := Lib.hid F2
      rw [decide_eq_true ho30] at F22
      have HK30 := Lib.hid ho30
      clear F2 hm30 ho30
      go_enter Tryd.func3, Tryd.ntmps3
      go_wp2_with fail
      rw [← HW1.out]
      refine F1.mono ?_
      rintro e w2 ⟨rfl, hb2⟩
      have HX2 : Hid (Kept W1 w2) := Lib.hid hb2
      clear hb2 F1 a0 a1
      have m0 : w2.cell? ⟨w.heap.size, 0, none⟩ = some (.int .u32 (id : Nat)) := by rw [cell_of_row _ _ _ _ _ _ (Kept.row HX2.out HRM.out)]; rfl
      have m1 : w2.cell? ⟨w.heap.size, 1, none⟩ = some (.slice p n c) := by rw [cell_of_row _ _ _ _ _ _ (Kept.row HX2.out HRM.out)]; rfl
      have o0 : w2.cell? ⟨w.heap.size + 1, 0, none⟩ = some (.int .u32 (jd : Nat)) := by rw [cell_of_row _ _ _ _ _ _ (Kept.row HX2.out HRO.out)]; rfl
      have o1 : w2.cell? ⟨w.heap.size + 1, 1, none⟩ = some (.slice po k co) := by rw [cell_of_row _ _ _ _ _ _ (Kept.row HX2.out HRO.out)]; rfl
      have F3 := F22.out w2 HX2.out
      go_wp2_with fail
      refine F3.mono ?_
      rintro e w3 ⟨rfl, hb3⟩
      have HX3 : Hid (Kept W1 w3) := Lib.hid ((show Kept W1 w2 from HX2.out).then hb3)
      have HK3 : Hid (Kept w w3) := Lib.hid ((show Kept w W1 from HK1.out).then HX3.out)
      clear hb3 F22 F3 m0 m1 o0 o1
      have m0 : w3.cell? ⟨w.heap.size, 0, none⟩ = some (.int .u32 (id : Nat)) := by rw [cell_of_row _ _ _ _ _ _ (Kept.row HX3.out HRM.out)]; rfl
      have m1 : w3.cell? ⟨w.heap.size, 1, none⟩ = some (.slice p n c) := by rw [cell_of_row _ _ _ _ _ _ (Kept.row HX3.out HRM.out)]; rfl
      have o0 : w3.cell? ⟨w.heap.size + 1, 0, none⟩ = some (.int .u32 (jd : Nat)) := by rw [cell_of_row _ _ _ _ _ _ (Kept.row HX3.out HRO.out)]; rfl
      have o1 : w3.cell? ⟨w.heap.size + 1, 1, none⟩ = some (.slice po k co) := by rw [cell_of_row _ _ _ _ _ _ (Kept.row HX3.out HRO.out)]; rfl
      have C1 := CP m _ w3 (HM1.out.later HX3.out) (by have := HIDN.out.2; have := HN30.out; omega) (HT.out.later HK3.out)
      obtain ⟨er, her⟩ : ∃ e : Int, e = if mayM m then 0 else 1 := ⟨_, rfl⟩
      obtain ⟨PS, hpv⟩ : ∃ e, e = putV m := ⟨_, rfl⟩
      rw [← her, ← hpv] at C1
      have HER := Lib.hid her
      have HPV := Lib.hid hpv
      clear her hpv
      go_wp2_with fail
      refine C1.mono ?_
      rintro e w4 ⟨rfl, hb4⟩
      have HX4 : Hid (Kept W1 w4) := Lib.hid ((show Kept W1 w3 from HX3.out).then hb4)
      clear hb4 C1 m0 m1 o0 o1
      have m0 : w4.cell? ⟨w.heap.size, 0, none⟩ = some (.int .u32 (id : Nat)) := by rw [cell_of_row _ _ _ _ _ _ (Kept.row HX4.out HRM.out)]; rfl
      have m1 : w4.cell? ⟨w.heap.size, 1, none⟩ = some (.slice p n c) := by rw [cell_of_row _ _ _ _ _ _ (Kept.row HX4.out HRM.out)]; rfl
      have o0 : w4.cell? ⟨w.heap.size + 1, 0, none⟩ = some (.int .u32 (jd : Nat)) := by rw [cell_of_row _ _ _ _ _ _ (Kept.row HX4.out HRO.out)]; rfl
      have o1 : w4.cell? ⟨w.heap.size + 1, 1, none⟩ = some (.slice po k co) := by rw [cell_of_row _ _ _ _ _ _ (Kept.row HX4.out HRO.out)]; rfl
      have C2 := rmay15_any m _ w4 (HM1.out.later HX4.out) (by have := HIDN.out.2; have := HN30.out; omega)
      go_wp2_with fail
      refine C2.mono ?_
      rintro e w5 ⟨rfl, hb5⟩
      have HX5 : Hid (Kept W1 w5) := Lib.hid ((show Kept W1 w4 from HX4.out).then hb5)
      clear hb5 C2 m0 m1 o0 o1
      have m0 : w5.cell? ⟨w.heap.size, 0, none⟩ = some (.int .u32 (id : Nat)) := by rw [cell_of_row _ _ _ _ _ _ (Kept.row HX5.out HRM.out)]; rfl
      have m1 : w5.cell? ⟨w.heap.size, 1, none⟩ = some (.slice p n c) := by rw [cell_of_row _ _ _ _ _ _ (Kept.row HX5.out HRM.out)]; rfl
      have o0 : w5.cell? ⟨w.heap.size + 1, 0, none⟩ = some (.int .u32 (jd : Nat)) := by rw [cell_of_row _ _ _ _ _ _ (Kept.row HX5.out HRO.out)]; rfl
      have o1 : w5.cell? ⟨w.heap.size + 1, 1, none⟩ = some (.slice po k co) := by rw [cell_of_row _ _ _ _ _ _ (Kept.row HX5.out HRO.out)]; rfl
      have hlm : m.es.length ≤ 1000 := by have := HIDN.out.2; have := HN30.out; omega
      have hlo : o.es.length ≤ 1000 := by have := HJDK.out.2; have := HK30.out; omega
      have Q1 := fun W (kk : Kept w5 W) => CC m _ W ((HM1.out.later HX5.out).later kk) hlm
      have Q2 := fun W (kk : Kept w5 W) => CS m o _ _ W ((HM1.out.later HX5.out).later kk) ((HO1.out.later HX5.out).later kk) hlm hlo
      have Q3 := fun W (kk : Kept w5 W) => rsame15_any m o _ _ W ((HM1.out.later HX5.out).later kk) ((HO1.out.later HX5.out).later kk) (by omega) (by omega)
      have Q4 := fun W (kk : Kept w5 W) => CS m m _ _ W ((HM1.out.later HX5.out).later kk) ((HM1.out.later HX5.out).later kk) hlm hlm
      have HLM := Lib.hid hlm
      obtain ⟨q, hq⟩ : ∃ q, q = decide (m = o) := ⟨_, rfl⟩
      rw [← hq] at Q2 Q3
      rw [decide_eq_true (rfl : m = m)] at Q4
      clear hlm hlo hq
      by_cases hmay : mayM m
      · rw [decide_eq_true hmay]
        rw [if_pos hmay] at Q1
        have he0 := HER.out
        rw [if_pos hmay] at he0
        have hp0 := HPV.out
        unfold putV at hp0
        rw [if_pos hmay] at hp0
        subst he0
        clear HPV HER
        have HMAY := Lib.hid hmay
        clear hmay
        have hPS := hp0
        clear hp0
        obtain ⟨z, hz⟩ : ∃ z : Nat, z = 14 + 40 * n := ⟨_, rfl⟩
        have hPz : PS.size = z := by rw [hPS, str_size, manB_len (fun e he => (HWF.out.2 e he).1), hz, HIDN.out.2]
        have hPd : PS.data.toList = manB m := by rw [hPS, str_list]
        have hGG : getM (manB m) = some m := getM_manB HMAY.out HWF.out
        have hgv : getV (manB m) = 0 := by unfold getV; rw [hGG]; rfl
        have hz1 : z ≤ 1300 := by have := HN30.out; omega
        have C9 := Lib.hid (fun W (kk : Kept w W) => CG PS W (by omega) (HT.out.later kk))
        rw [hPd, hgv, hGG] at C9
        have C10 := Lib.hid (fun W H => rput15_any m HMAY.out (.agg #[.int .u32 (id : Nat), .slice p n c]) W H)
        rw [← hPS] at C10
        have hsv : sizeV (n : Int) = (z : Int) := by
          unfold sizeV
          have h1 := HMAY.out.2.1
          rw [← HIDN.out.2] at h1
          rw [if_pos (by omega)]
          omega
        have C11 := Lib.hid (fun W => CZ (n : Int) W (by have := HN30.out; simp [Lit.wf, IntKind.min, IntKind.max, IntKind.signed, IntKind.bits]; omega))
        rw [hsv] at C11
        have HLMX := Lib.hid (show m.es.length ≤ 1000000 by have := HLM.out; omega)
        clear hz hPd hGG hgv hz1 hsv CC CP CG CS CZ hPS
        go_wp2_with fail
        refine wp_region_kept (by kernel_rfl) (by kernel_rfl) ?_
        refine wpQuiet_pure (v := ?_) (by kernel_rfl) ?_ (fun K hK => ?_)
        case refine_2 => intro W hW; have e0 := hW.cell m0; have e1 := hW.cell m1; go_simp; try with_reducible rfl
        go_simp
        refine hK _ ?_; clear hK K
        refine wpQuiet_call (by kernel_rfl) _ _ _ (fun W => by go_simp) (fun W h => Calls.kept_of h (Q1 W h)) (fun K hK => ?_)
        go_simp
        refine hK _ ?_; clear hK K
        refine wpQuiet_pure (v := ?_) (by kernel_rfl) ?_ (fun K hK => ?_)
        case refine_2 => intro W _; go_simp; try with_reducible rfl
        go_simp
        refine hK _ ?_; clear hK K
        refine wpQuiet_pure (v := ?_) (by kernel_rfl) ?_ (fun K hK => ?_)
        case refine_2 => intro W _; go_simp; try with_reducible rfl
        go_simp
        refine hK _ ?_; clear hK K
        refine wpQuiet_pure (v := ?_) (by kernel_rfl) ?_ (fun K hK => ?_)
        case refine_2 => intro W _; go_simp; try with_reducible rfl
        go_simp
        refine hK _ ?_; clear hK K
        refine wpQuiet_pure (v := ?_) (by kernel_rfl) ?_ (fun K hK => ?_)
        case refine_2 => intro W _; go_simp; try with_reducible rfl
        go_simp
        refine hK _ ?_; clear hK K
        refine wpQuiet_pure (v := ?_) (by kernel_rfl) ?_ (fun K hK => ?_)
        case refine_2 => intro W hW; have e0 := hW.cell m0; have e1 := hW.cell m1; go_simp; try with_reducible rfl
        go_simp
        refine hK _ ?_; clear hK K
        refine wpQuiet_pure (v := ?_) (by kernel_rfl) ?_ (fun K hK => ?_)
        case refine_2 => intro W hW; have e0 := hW.cell o0; have e1 := hW.cell o1; go_simp; try with_reducible rfl
        go_simp
        refine hK _ ?_; clear hK K
        refine wpQuiet_call (by kernel_rfl) _ _ _ (fun W => by go_simp) (fun W h => Calls.kept_of h (Q2 W h)) (fun K hK => ?_)
        go_simp
        refine hK _ ?_; clear hK K
        refine wpQuiet_pure (v := ?_) (by kernel_rfl) ?_ (fun K hK => ?_)
        case refine_2 => intro W hW; have e0 := hW.cell m0; have e1 := hW.cell m1; go_simp; try with_reducible rfl
        go_simp
        refine hK _ ?_; clear hK K
        refine wpQuiet_pure (v := ?_) (by kernel_rfl) ?_ (fun K hK => ?_)
        case refine_2 => intro W hW; have e0 := hW.cell o0; have e1 := hW.cell o1; go_simp; try with_reducible rfl
        go_simp
        refine hK _ ?_; clear hK K
        refine wpQuiet_call (by kernel_rfl) _ _ _ (fun W => by go_simp) (fun W h => Calls.kept_of h (Q3 W h)) (fun K hK => ?_)
        go_simp
        refine hK _ ?_; clear hK K
        refine wpQuiet_pure (v := ?_) (by kernel_rfl) ?_ (fun K hK => ?_)
        case refine_2 => intro W _; go_simp; try with_reducible rfl
        go_simp
        refine hK _ ?_; clear hK K
        refine wpQuiet_pure (v := ?_) (by kernel_rfl) ?_ (fun K hK => ?_)
        case refine_2 => intro W _; go_simp; try with_reducible rfl
        go_simp
        refine hK _ ?_; clear hK K
        refine wpQuiet_pure (v := ?_) (by kernel_rfl) ?_ (fun K hK => ?_)
        case refine_2 => intro W _; go_simp; try with_reducible rfl
        go_simp
        refine hK _ ?_; clear hK K
        refine wpQuiet_pure (v := ?_) (by kernel_rfl) ?_ (fun K hK => ?_)
        case refine_2 => intro W hW; have e0 := hW.cell m0; have e1 := hW.cell m1; go_simp; try with_reducible rfl
        go_simp
        refine hK _ ?_; clear hK K
        refine wpQuiet_pure (v := ?_) (by kernel_rfl) ?_ (fun K hK => ?_)
        case refine_2 => intro W hW; have e0 := hW.cell m0; have e1 := hW.cell m1; go_simp; try with_reducible rfl
        go_simp
        refine hK _ ?_; clear hK K
        refine wpQuiet_call (by kernel_rfl) _ _ _ (fun W => by go_simp) (fun W h => Calls.kept_of h (Q4 W h)) (fun K hK => ?_)
        go_simp
        refine hK _ ?_; clear hK K
        refine wpQuiet_pure (v := ?_) (by kernel_rfl) ?_ (fun K hK => ?_)
        case refine_2 => intro W _; go_simp; try with_reducible rfl
        go_simp
        refine hK _ ?_; clear hK K
        refine wpQuiet_pure (v := ?_) (by kernel_rfl) ?_ (fun K hK => ?_)
        case refine_2 => intro W _; go_simp; try with_reducible rfl
        go_simp
        refine hK _ ?_; clear hK K
        refine wpQuiet_nil ?_
        intro w6 hk6
        have HX6 : Hid (Kept W1 w6) := Lib.hid ((show Kept W1 w5 from HX5.out).then hk6)
        have HK6 : Hid (Kept w w6) := Lib.hid ((show Kept w W1 from HK1.out).then HX6.out)
        clear hk6 Q1 Q2 Q3 Q4 m0 m1 o0 o1
        have C91 := C9.out w6 HK6.out
        go_wp2_with fail
        refine C91.mono ?_
        rintro e w7 ⟨⟨v, rfl, hv⟩, hb⟩
        have hv : ManIs m v w7 := hv
        obtain ⟨p7, c7, hp⟩ := hv.cut
        subst hp
        rw [← HIDN.out.1, ← HIDN.out.2]
        rw [← HIDN.out.1, ← HIDN.out.2] at hv
        have hr := heap_alloc_last w7 (.cells #[.int .u32 (id : Nat), .slice p7 n c7] 25)
        obtain ⟨V7, hW⟩ : ∃ W, W = w7.alloc (.cells #[.int .u32 (id : Nat), .slice p7 n c7] 25) := ⟨_, rfl⟩
        have HV7 := Lib.hid hW
        obtain ⟨b7, hbk⟩ : ∃ b, b = w7.heap.size := ⟨_, rfl⟩
        have HB7 := Lib.hid hbk
        rw [← hbk, ← hW] at hr
        have HR7 := Lib.hid hr
        have hkx : Kept w7 V7 := by rw [hW]; exact box_below _ _
        have HS7 := Lib.hid (hv.later hkx)
        have HX7 : Hid (Kept w6 V7) := Lib.hid ((show Kept w6 w7 from hb).then hkx)
        clear hb hv hr hW hbk hkx
        have HX8 : Hid (Kept W1 V7) := Lib.hid ((show Kept W1 w6 from HX6.out).then HX7.out)
        have m0 : V7.cell? ⟨w.heap.size, 0, none⟩ = some (.int .u32 (id : Nat)) := by rw [cell_of_row _ _ _ _ _ _ (Kept.row HX8.out HRM.out)]; rfl
        have m1 : V7.cell? ⟨w.heap.size, 1, none⟩ = some (.slice p n c) := by rw [cell_of_row _ _ _ _ _ _ (Kept.row HX8.out HRM.out)]; rfl
        have o0 : V7.cell? ⟨w.heap.size + 1, 0, none⟩ = some (.int .u32 (jd : Nat)) := by rw [cell_of_row _ _ _ _ _ _ (Kept.row HX8.out HRO.out)]; rfl
        have o1 : V7.cell? ⟨w.heap.size + 1, 1, none⟩ = some (.slice po k co) := by rw [cell_of_row _ _ _ _ _ _ (Kept.row HX8.out HRO.out)]; rfl
        rw [HV7.out] at m0 m1 o0 o1
        have C101 := C10.out V7 (HM1.out.later HX8.out)
        clear C91 C9 C10
        go_wp2_with fail
        try rw [← HB7.out]
        rw [← HV7.out]
        refine C101.mono ?_
        rintro e w8 ⟨rfl, hb8⟩
        have HX9 : Hid (Kept W1 w8) := Lib.hid ((show Kept W1 V7 from HX8.out).then hb8)
        have HS8 := Lib.hid (HS7.out.later hb8)
        have hr8 := Kept.row hb8 HR7.out
        clear hb8 C101 m0 m1 o0 o1
        have m0 : w8.cell? ⟨w.heap.size, 0, none⟩ = some (.int .u32 (id : Nat)) := by rw [cell_of_row _ _ _ _ _ _ (Kept.row HX9.out HRM.out)]; rfl
        have m1 : w8.cell? ⟨w.heap.size, 1, none⟩ = some (.slice p n c) := by rw [cell_of_row _ _ _ _ _ _ (Kept.row HX9.out HRM.out)]; rfl
        have o0 : w8.cell? ⟨w.heap.size + 1, 0, none⟩ = some (.int .u32 (jd : Nat)) := by rw [cell_of_row _ _ _ _ _ _ (Kept.row HX9.out HRO.out)]; rfl
        have o1 : w8.cell? ⟨w.heap.size + 1, 1, none⟩ = some (.slice po k co) := by rw [cell_of_row _ _ _ _ _ _ (Kept.row HX9.out HRO.out)]; rfl
        have d0 : w8.cell? ⟨b7, 0, none⟩ = some (.int .u32 (id : Nat)) := by rw [cell_of_row _ _ _ _ _ _ hr8]; rfl
        have d1 : w8.cell? ⟨b7, 1, none⟩ = some (.slice p7 n c7) := by rw [cell_of_row _ _ _ _ _ _ hr8]; rfl
        have C12 := rsame15_any m m _ _ w8 HS8.out (HM1.out.later HX9.out) HLMX.out HLMX.out
        rw [decide_eq_true (rfl : m = m)] at C12
        go_wp2_with fail
        refine C12.mono ?_
        rintro e w9 ⟨rfl, hb9⟩
        have HX10 : Hid (Kept W1 w9) := Lib.hid ((show Kept W1 w8 from HX9.out).then hb9)
        clear hb9 C12 hr8 d0 d1 m0 m1 o0 o1
        have m0 : w9.cell? ⟨w.heap.size, 0, none⟩ = some (.int .u32 (id : Nat)) := by rw [cell_of_row _ _ _ _ _ _ (Kept.row HX10.out HRM.out)]; rfl
        have m1 : w9.cell? ⟨w.heap.size, 1, none⟩ = some (.slice p n c) := by rw [cell_of_row _ _ _ _ _ _ (Kept.row HX10.out HRM.out)]; rfl
        have o0 : w9.cell? ⟨w.heap.size + 1, 0, none⟩ = some (.int .u32 (jd : Nat)) := by rw [cell_of_row _ _ _ _ _ _ (Kept.row HX10.out HRO.out)]; rfl
        have o1 : w9.cell? ⟨w.heap.size + 1, 1, none⟩ = some (.slice po k co) := by rw [cell_of_row _ _ _ _ _ _ (Kept.row HX10.out HRO.out)]; rfl
        have C13 := C11.out w9
        go_wp2_with fail
        refine C13.mono ?_
        rintro e wa ⟨rfl, hba⟩
        have HKA : Hid (Kept w wa) := Lib.hid ((show Kept w W1 from HK1.out).then ((show Kept W1 w9 from HX10.out).then hba))
        clear hba C13 C11 m0 m1 o0 o1
        have A := AW wa (HT.out.later HKA.out)
        go_wp2_with fail
        refine A.mono ?_
        rintro e wz ⟨rfl, hb⟩
        have HKZ : Hid (Kept w wz) := Lib.hid ((show Kept w wa from HKA.out).then hb)
        clear hb A
        go_wp2
        go_ret
        exact ⟨rfl, HKZ.out⟩
      · rw [decide_eq_false hmay]
        rw [if_neg hmay] at Q1
        have he0 := HER.out
        rw [if_neg hmay] at he0
        have hp0 := HPV.out
        unfold putV at hp0
        rw [if_neg hmay] at hp0
        subst he0 hp0
        clear HPV HER
        have HLMX := Lib.hid HLM.out
        clear hmay CP CG CS CZ CC
        go_wp2_with fail
        refine wp_region_kept (by kernel_rfl) (by kernel_rfl) ?_
        refine wpQuiet_pure (v := ?_) (by kernel_rfl) ?_ (fun K hK => ?_)
        case refine_2 => intro W hW; have e0 := hW.cell m0; have e1 := hW.cell m1; go_simp; try with_reducible rfl
        go_simp
        refine hK _ ?_; clear hK K
        refine wpQuiet_call (by kernel_rfl) _ _ _ (fun W => by go_simp) (fun W h => Calls.kept_of h (Q1 W h)) (fun K hK => ?_)
        go_simp
        refine hK _ ?_; clear hK K
        refine wpQuiet_pure (v := ?_) (by kernel_rfl) ?_ (fun K hK => ?_)
        case refine_2 => intro W _; go_simp; try with_reducible rfl
        go_simp
        refine hK _ ?_; clear hK K
        refine wpQuiet_pure (v := ?_) (by kernel_rfl) ?_ (fun K hK => ?_)
        case refine_2 => intro W _; go_simp; try with_reducible rfl
        go_simp
        refine hK _ ?_; clear hK K
        refine wpQuiet_pure (v := ?_) (by kernel_rfl) ?_ (fun K hK => ?_)
        case refine_2 => intro W _; go_simp; try with_reducible rfl
        go_simp
        refine hK _ ?_; clear hK K
        refine wpQuiet_pure (v := ?_) (by kernel_rfl) ?_ (fun K hK => ?_)
        case refine_2 => intro W _; go_simp; try with_reducible rfl
        go_simp
        refine hK _ ?_; clear hK K
        refine wpQuiet_pure (v := ?_) (by kernel_rfl) ?_ (fun K hK => ?_)
        case refine_2 => intro W hW; have e0 := hW.cell m0; have e1 := hW.cell m1; go_simp; try with_reducible rfl
        go_simp
        refine hK _ ?_; clear hK K
        refine wpQuiet_pure (v := ?_) (by kernel_rfl) ?_ (fun K hK => ?_)
        case refine_2 => intro W hW; have e0 := hW.cell o0; have e1 := hW.cell o1; go_simp; try with_reducible rfl
        go_simp
        refine hK _ ?_; clear hK K
        refine wpQuiet_call (by kernel_rfl) _ _ _ (fun W => by go_simp) (fun W h => Calls.kept_of h (Q2 W h)) (fun K hK => ?_)
        go_simp
        refine hK _ ?_; clear hK K
        refine wpQuiet_pure (v := ?_) (by kernel_rfl) ?_ (fun K hK => ?_)
        case refine_2 => intro W hW; have e0 := hW.cell m0; have e1 := hW.cell m1; go_simp; try with_reducible rfl
        go_simp
        refine hK _ ?_; clear hK K
        refine wpQuiet_pure (v := ?_) (by kernel_rfl) ?_ (fun K hK => ?_)
        case refine_2 => intro W hW; have e0 := hW.cell o0; have e1 := hW.cell o1; go_simp; try with_reducible rfl
        go_simp
        refine hK _ ?_; clear hK K
        refine wpQuiet_call (by kernel_rfl) _ _ _ (fun W => by go_simp) (fun W h => Calls.kept_of h (Q3 W h)) (fun K hK => ?_)
        go_simp
        refine hK _ ?_; clear hK K
        refine wpQuiet_pure (v := ?_) (by kernel_rfl) ?_ (fun K hK => ?_)
        case refine_2 => intro W _; go_simp; try with_reducible rfl
        go_simp
        refine hK _ ?_; clear hK K
        refine wpQuiet_pure (v := ?_) (by kernel_rfl) ?_ (fun K hK => ?_)
        case refine_2 => intro W _; go_simp; try with_reducible rfl
        go_simp
        refine hK _ ?_; clear hK K
        refine wpQuiet_pure (v := ?_) (by kernel_rfl) ?_ (fun K hK => ?_)
        case refine_2 => intro W _; go_simp; try with_reducible rfl
        go_simp
        refine hK _ ?_; clear hK K
        refine wpQuiet_pure (v := ?_) (by kernel_rfl) ?_ (fun K hK => ?_)
        case refine_2 => intro W hW; have e0 := hW.cell m0; have e1 := hW.cell m1; go_simp; try with_reducible rfl
        go_simp
        refine hK _ ?_; clear hK K
        refine wpQuiet_pure (v := ?_) (by kernel_rfl) ?_ (fun K hK => ?_)
        case refine_2 => intro W hW; have e0 := hW.cell m0; have e1 := hW.cell m1; go_simp; try with_reducible rfl
        go_simp
        refine hK _ ?_; clear hK K
        refine wpQuiet_call (by kernel_rfl) _ _ _ (fun W => by go_simp) (fun W h => Calls.kept_of h (Q4 W h)) (fun K hK => ?_)
        go_simp
        refine hK _ ?_; clear hK K
        refine wpQuiet_pure (v := ?_) (by kernel_rfl) ?_ (fun K hK => ?_)
        case refine_2 => intro W _; go_simp; try with_reducible rfl
        go_simp
        refine hK _ ?_; clear hK K
        refine wpQuiet_pure (v := ?_) (by kernel_rfl) ?_ (fun K hK => ?_)
        case refine_2 => intro W _; go_simp; try with_reducible rfl
        go_simp
        refine hK _ ?_; clear hK K
        refine wpQuiet_nil ?_
        intro w6 hk6
        have HX6 : Hid (Kept W1 w6) := Lib.hid ((show Kept W1 w5 from HX5.out).then hk6)
        have C14 := Q1 w6 hk6
        clear hk6 Q1 Q2 Q3 Q4 m0 m1 o0 o1
        have m0 : w6.cell? ⟨w.heap.size, 0, none⟩ = some (.int .u32 (id : Nat)) := by rw [cell_of_row _ _ _ _ _ _ (Kept.row HX6.out HRM.out)]; rfl
        have m1 : w6.cell? ⟨w.heap.size, 1, none⟩ = some (.slice p n c) := by rw [cell_of_row _ _ _ _ _ _ (Kept.row HX6.out HRM.out)]; rfl
        have o0 : w6.cell? ⟨w.heap.size + 1, 0, none⟩ = some (.int .u32 (jd : Nat)) := by rw [cell_of_row _ _ _ _ _ _ (Kept.row HX6.out HRO.out)]; rfl
        have o1 : w6.cell? ⟨w.heap.size + 1, 1, none⟩ = some (.slice po k co) := by rw [cell_of_row _ _ _ _ _ _ (Kept.row HX6.out HRO.out)]; rfl
        go_wp2_with fail
        refine C14.mono ?_
        rintro e w7 ⟨rfl, hb7⟩
        have HK7 : Hid (Kept w w7) := Lib.hid ((show Kept w W1 from HK1.out).then ((show Kept W1 w6 from HX6.out).then hb7))
        clear hb7 C14 m0 m1 o0 o1
        have A := AW w7 (HT.out.later HK7.out)
        go_wp2_with fail
        refine A.mono ?_
        rintro e wz ⟨rfl, hb⟩
        have HKZ : Hid (Kept w wz) := Lib.hid ((show Kept w w7 from HK7.out).then hb)
        clear hb A
        go_wp2
        go_ret
        exact ⟨rfl, HKZ.out⟩
    · have F22 := Lib.hid F2
      rw [decide_eq_false ho30] at F22
      clear F2 hm30 ho30
      go_enter Tryd.func3, Tryd.ntmps3
      go_wp2_with fail
      rw [← HW1.out]
      refine F1.mono ?_
      rintro e w2 ⟨rfl, hb2⟩
      have HX2 : Hid (Kept W1 w2) := Lib.hid hb2
      clear hb2 F1 a0 a1
      have m0 : w2.cell? ⟨w.heap.size, 0, none⟩ = some (.int .u32 (id : Nat)) := by rw [cell_of_row _ _ _ _ _ _ (Kept.row HX2.out HRM.out)]; rfl
      have m1 : w2.cell? ⟨w.heap.size, 1, none⟩ = some (.slice p n c) := by rw [cell_of_row _ _ _ _ _ _ (Kept.row HX2.out HRM.out)]; rfl
      have o0 : w2.cell? ⟨w.heap.size + 1, 0, none⟩ = some (.int .u32 (jd : Nat)) := by rw [cell_of_row _ _ _ _ _ _ (Kept.row HX2.out HRO.out)]; rfl
      have o1 : w2.cell? ⟨w.heap.size + 1, 1, none⟩ = some (.slice po k co) := by rw [cell_of_row _ _ _ _ _ _ (Kept.row HX2.out HRO.out)]; rfl
      have F3 := F22.out w2 HX2.out
      go_wp2_with fail
      refine F3.mono ?_
      rintro e w3 ⟨rfl, hb3⟩
      have HK3 : Hid (Kept w w3) := Lib.hid ((show Kept w W1 from HK1.out).then ((show Kept W1 w2 from HX2.out).then hb3))
      clear hb3 F22 F3 m0 m1 o0 o1
      have A := AW w3 (HT.out.later HK3.out)
      go_wp2_with fail
      refine A.mono ?_
      rintro e wz ⟨rfl, hb⟩
      have HKZ : Hid (Kept w wz) := Lib.hid ((show Kept w w3 from HK3.out).then hb)
      clear hb A
      go_wp2
      go_ret
      exact ⟨rfl, HKZ.out⟩
  · rw [decide_eq_false hm30] at F1
    clear F2 hm30
    go_enter Tryd.func3, Tryd.ntmps3
    go_wp2_with fail
    rw [← HW1.out]
    refine F1.mono ?_
    rintro e w2 ⟨rfl, hb2⟩
    have HK2 : Hid (Kept w w2) := Lib.hid ((show Kept w W1 from HK1.out).then hb2)
    clear hb2 F1 a0 a1
    have A := AW w2 (HT.out.later HK2.out)
    go_wp2_with fail
    refine A.mono ?_
    rintro e wz ⟨rfl, hb⟩
    have HKZ : Hid (Kept w wz) := Lib.hid ((show Kept w w2 from HK2.out).then hb)
    clear hb A
    go_wp2
    go_ret
    exact ⟨rfl, HKZ.out⟩

end Go.Proofs.YteompckehokdoaaDoor
