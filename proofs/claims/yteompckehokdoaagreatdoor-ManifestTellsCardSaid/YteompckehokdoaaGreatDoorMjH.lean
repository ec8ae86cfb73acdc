/- The landed manifests' Hooks. -/
import Derived.Test.YteompckehokdoaaGreatDoorGU
import Derived.Test.YteompckehokdoaaGreatDoorHE
import Derived.Laws.MakeOwn
namespace Go.Proofs.YteompckehokdoaaGreatDoor
open Go.RowKit

set_option maxRecDepth 100000 in
set_option maxHeartbeats 16000000 in
theorem hooksOkM : MHooksOk := by
  intro m bits v w H hl hbits
  obtain ⟨ti, hi, hi1, hi2, tz, hz, hzs⟩ := info_fp
  have HIR := Lib.hid hi
  have HZ0 := Lib.hid hz
  have HZ1 := Lib.hid hi1
  have HZ2 := Lib.hid hi2
  have HZS := Lib.hid hzs
  obtain ⟨hid, sv, rfl, he⟩ := H
  obtain ⟨p, c, rfl, hcap, -⟩ := he.out encE
  have HE := Lib.hid he
  obtain ⟨n, hn⟩ : ∃ n, n = m.es.length := ⟨_, rfl⟩
  have HN := Lib.hid hn
  obtain ⟨id, hidd⟩ : ∃ i, i = m.id := ⟨_, rfl⟩
  obtain ⟨LS, hLS⟩ : ∃ LS, LS = m.es.map En.fp := ⟨_, rfl⟩
  have HLS := Lib.hid hLS
  have HLN : Hid (LS.length = n) := Lib.hid (by rw [hLS, List.length_map, hn])
  have HL32 : Hid (All32 LS) := Lib.hid (fun l hl => by
    rw [hLS] at hl
    obtain ⟨e, h1, rfl⟩ := List.mem_map.1 hl
    exact (he.good e h1).1)
  have HHM : Hid (hooksM m bits = setL (LS.filter fun l => hookB l bits)) := Lib.hid (by rw [hLS]; rfl)
  rw [← hn] at hl hcap
  rw [← hn, ← hidd, HHM.out]
  have HL := Lib.hid hl
  obtain ⟨W1, hW1⟩ : ∃ W1, W1 = w.alloc (.cells #[.int .u32 (id : Nat), .slice p n c] 25) := ⟨_, rfl⟩
  have hrow := heap_alloc_last w (.cells #[.int .u32 (id : Nat), .slice p n c] 25)
  rw [← hW1] at hrow
  have hk1 : Kept w W1 := by rw [hW1]; exact box_below _ _
  have hs1 : W1.heap.size = w.heap.size + 1 := by rw [hW1]; simp
  have e1 : W1.cell? ⟨w.heap.size, 1, none⟩ = some (.slice p n c) := by rw [cell_of_row _ _ _ _ _ _ hrow]; rfl
  obtain ⟨B, hB⟩ : ∃ B, B = w.heap.size + 1 := ⟨_, rfl⟩
  obtain ⟨W2, hmk, hown, hgr⟩ := run_make_own (P := Tryz.prog) W1 B 32 39 ti tz 32 Tryz.underlying32 hi hz hi1 .i64 .i64 n (by rw [hi2]; omega) (by unfold maxLen; omega) (by omega)
  have hk2 : Kept W1 W2 := ⟨hgr.os, hgr.tape, hgr.output, hgr.size, fun k hk => hgr.block k hk (by simp)⟩
  have HK2 : Hid (Kept w W2) := Lib.hid (hk1.then hk2)
  have e2 : W2.cell? ⟨w.heap.size, 1, none⟩ = some (.slice p n c) := hk2.cell e1
  have HO2 : Hid (W2.ownsRow B 39 32 (.slice (some ⟨w.heap.size + 1, 0, none⟩) 0 n) 0 (flatL (LS.take 0))) := Lib.hid (by rw [← hs1]; exact hown)
  rw [hW1] at hmk e1
  have HBW : Hid (w.heap.size ≤ B) := Lib.hid (by omega)
  have HBR : Hid (B = w.heap.size + 1) := Lib.hid hB
  clear he hn hidd hW1 hrow hl hid hcap hi hi1 hi2 hz hzs hLS hk1 hs1 hown hgr hk2 hB hbits
  clear W1
  go_enter Tryz.func11, Tryz.ntmps11
  go_wp2
  clear hmk e1 e2
  go_loopg [5, 15] n (fun gh s y wr => ∃ (k : Nat) (tv : Value), k + gh = n ∧ tv = s ∧ y = .int .i64 k ∧ Hid (wr.ownsRow B 39 32 tv k (flatL (LS.take k))) ∧ Hid (Kept w wr))
  case atStart => exact ⟨0, _, by omega, rfl, rfl, HO2, HK2⟩
  case round =>
    clear HO2 HK2
    obtain ⟨k, tv, hk, rfl, rfl, HO, HK⟩ := hrel
    by_cases hlt : k < n
    · have hki : (k : Int) < n := by omega
      have bk : decide ((k : Int) < (n : Int)) = true := by simpa using hki
      have hki0 : (0 : Int) ≤ k := by omega
      have hkl : k < m.es.length := by have := HN.out; omega
      obtain ⟨b, off, cs, t, fr, rfl, hg, hsz, hex, -⟩ := HE.out.elem encE hkl
      have g2 := Kept.row HK.out hg
      have hwf := HE.out.good _ (List.getElem_mem hkl)
      have htk : LS.take (k + 1) = LS.take k ++ [(m.es[k]).fp] := by
        rw [HLS.out, ← List.map_take, ← List.map_take, List.take_succ_eq_append_getElem hkl, List.map_append]; rfl
      obtain ⟨E, hE⟩ : ∃ E, E = m.es[k] := ⟨_, rfl⟩
      rw [← hE] at hex hwf htk
      obtain ⟨X, hX⟩ : ∃ X, X = enC E := ⟨_, rfl⟩
      have hex2 : cs.extract (off + k * 35) (off + k * 35 + 35) = X := by rw [hX]; exact hex
      have HXS : Hid (X.size = 35) := Lib.hid (by rw [hX]; exact enC_size hwf.1)
      have HXI : Hid ((Tryz.prog.info? 41).map (·.size) = some X.size) := Lib.hid (by rw [HXS.out]; exact infoEn)
      have HXO : Hid (X.all (·.oneCell') = true) := Lib.hid (by rw [hX, Array.all_eq_true_iff_forall_mem]; intro x hx; exact encE.one _ hwf x (by unfold enC at hx; simpa using hx))
      have HES : Hid (off + k * 35 + 35 ≤ cs.size ∧ cs.extract (off + k * 35) (off + k * 35 + 35) = X) := Lib.hid ⟨hsz, hex2⟩
      obtain ⟨xl, hxl⟩ : ∃ xl, xl = E.fp := ⟨_, rfl⟩
      have hx32 : xl.length = 32 := by rw [hxl]; exact hwf.1
      obtain ⟨Y, hY⟩ : ∃ Y, Y = fpA xl := ⟨_, rfl⟩
      have HYE : Hid (0 + 32 ≤ X.size ∧ X.extract 0 (0 + 32) = Y) := Lib.hid ⟨by rw [HXS.out]; decide, by rw [hX, hY, hxl]; exact enC_fp hwf.1⟩
      have HYS : Hid (Y.size = 32) := Lib.hid (by rw [hY, fpA_size]; exact hx32)
      have HONE := Lib.hid (fun (W : World) => fps_one W xl hx32 1)
      rw [← hY] at HONE
      obtain ⟨W4, hW4⟩ : ∃ W, W = wr.alloc (.cells X 41) := ⟨_, rfl⟩
      have HW4 := Lib.hid hW4
      have hk4 : Kept wr W4 := by rw [hW4]; exact box_below _ _
      have HR4 : Hid (W4.heap[wr.heap.size]? = some (.cells X 41 (0, 0))) := Lib.hid (by rw [hW4]; exact heap_alloc_last wr _)
      obtain ⟨k1, hk1⟩ : ∃ k1, k1 = k + 1 := ⟨_, rfl⟩
      have v1 : IntKind.i64.wrap ((k : Int) + 1) = (k1 : Int) := by rw [show (k : Int) + 1 = (k1 : Int) by omega]; exact IntWalk.i64_in _ (by have := HL.out; omega)
      have HKK : Hid (k1 = k + 1 ∧ k + gk = n ∧ k < n) := Lib.hid ⟨hk1, hk, hlt⟩
      have HFT : Hid (flatL (LS.take k) ++ flatL [xl] = flatL (LS.take k1)) := Lib.hid (by rw [flatL_snoc, hk1, hxl, htk])
      have HK4 : Hid (Kept w W4) := Lib.hid ((show Kept w wr from HK.out).then hk4)
      have HO4 : Hid (W4.ownsRow B 39 32 tv k (flatL (LS.take k))) := Lib.hid (own_stay HO.out (fun j hj => hk4.block j (HO.out.lt j hj).2))
      have HB4 : Hid (B ≤ W4.heap.size) := Lib.hid (by rw [HBR.out, hW4]; simp; exact HK.out.size)
      clear hg hsz hex hex2 hwf htk hE hX hxl hx32 hY hk1 hk hlt hkl hW4 hk4
      go_wp2_with (first
        | (with_reducible refine wpList_load_sub rfl _ _ rfl b (off + k * 35) 35 rfl t cs fr _ g2 Tryz.underlying41 rfl infoEn HES.out.1 X HES.out.2 ?_)
        | ((with_reducible refine wpList_store_row rfl _ _ _ rfl wr.heap.size X rfl rfl 41 _ (heap_alloc_last wr _) HXI.out ?hold HXO.out ?_); rotate_left; rw [World.setRow_alloc_new, ← HW4.out])
        | (with_reducible refine wpList_load_sub rfl _ _ rfl wr.heap.size 0 32 rfl 41 X (0, 0) _ HR4.out Tryz.underlying39 rfl infoFp HYE.out.1 Y HYE.out.2 ?_)
        | (with_reducible refine wpList_build1 rfl _ rfl Y rfl HYS.out ?_)
        | (at_builtin; refine wpList_append_fps rfl _ _ 32 rfl B 39 ti tz 32 Tryz.underlying32 HIR.out HZ0.out HZ1.out HZ2.out HZS.out _ _ _ rfl (HO4.out.alloc _) _ [xl] rfl (HONE.out _) ?qd2 ?qd3 ?qd4 ?_))
      case hold => rw [HXS.out]; rfl
      case qd2 => have := HKK.out; have := HL.out; rw [List.length_singleton]; unfold maxLen; omega
      case qd3 => have := HKK.out; have := HL.out; rw [List.length_singleton]; omega
      case qd4 => have := HB4.out; simp; omega
      intro v4 w5 hown2 hgrow2
      have H6 : Hid (w5.ownsRow B 39 32 v4 k1 (flatL (LS.take k1))) := Lib.hid (by
        have h := hown2
        rw [HFT.out, ← HKK.out.1] at h
        exact h)
      have H7 : Hid (Kept w w5) := Lib.hid (append_keptX (show Kept w W4 from HK4.out) HBW.out HO4.out hgrow2)
      clear hown2 hgrow2 HO g2 HO4 HR4
      go_wp2
      go_roundg (n - k1)
      · exact ⟨k1, _, by have := HKK.out; omega, rfl, by first | rfl | (have := HKK.out; congr 1; omega), H6, H7⟩
      · have := HKK.out; omega
    · have hki : ¬ (k : Int) < n := by omega
      have bk : decide ((k : Int) < (n : Int)) = false := by simpa using hki
      have hkn : k = n := by omega
      have hf : FpsAt 32 LS tv wr := by
        have h := HO.out
        rw [List.take_of_length_le (by rw [HLN.out]; omega)] at h
        have h2 : OwnFps B LS tv wr := ⟨HL32.out, by rw [HLN.out, ← hkn]; exact h⟩
        exact h2.fps
      have CO := of_any bits tv LS (by rw [HLN.out]; have := HL.out; omega) wr hf
      clear hf hkn hk hlt HO
      go_wp2_with fail
      refine CO.mono ?_
      rintro e w2 ⟨v', rfl, hv', hb2⟩
      have HV := Lib.hid hv'.fps
      have HK2 : Hid (Kept w w2) := Lib.hid ((show Kept w wr from HK.out).then hb2)
      clear hv' hb2 CO
      go_wp2
      go_ret
      exact ⟨_, rfl, HV.out, HK2.out⟩

end Go.Proofs.YteompckehokdoaaGreatDoor
