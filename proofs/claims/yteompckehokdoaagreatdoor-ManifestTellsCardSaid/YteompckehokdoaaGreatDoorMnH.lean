/- The document's Hooks. -/
import Derived.Test.YteompckehokdoaaGreatDoorGI
import Derived.Test.YteompckehokdoaaGreatDoorHE
namespace Go.Proofs.YteompckehokdoaaGreatDoor
open Go.RowKit

theorem flatL_snoc (ls : List (List UInt8)) (x : List UInt8) : flatL ls ++ flatL [x] = flatL (ls ++ [x]) := (flatL_append ls [x]).symm

set_option maxRecDepth 100000 in
set_option maxHeartbeats 8000000 in
theorem rhooks15_any (m : Mf) (bits : Int) (v : Value) (w : World) (H : ManIs m v w) (hl : m.es.length ≤ 1000000) :
    Calls Tryz.prog 12 #[v, .int .i64 bits] w fun e w' => ∃ v', e = .returned v' ∧ FpsAt 32 (setL ((m.es.map En.fp).filter fun l => hookB l bits)) v' w' ∧ Kept w w' := by
  obtain ⟨ti, hi, hi1, hi2, tz, hz, hzs⟩ := info_fp
  have HIR := Lib.hid hi
  have HZ0 := Lib.hid hz
  have HZ1 := Lib.hid hi1
  have HZ2 := Lib.hid hi2
  have HZS := Lib.hid hzs
  obtain ⟨hid, sv, rfl, he⟩ := H
  obtain ⟨p, c, rfl, hcap, -⟩ := he.out encE
  have HE := Lib.hid he
  obtain ⟨n, hn⟩ : ∃ n, n = m.es.length := ⟨_, rfl⟩
  have HN := Lib.hid hn
  obtain ⟨id, hidd⟩ : ∃ i, i = m.id := ⟨_, rfl⟩
  obtain ⟨LS, hLS⟩ : ∃ LS, LS = m.es.map En.fp := ⟨_, rfl⟩
  have HLS := Lib.hid hLS
  have HLN : Hid (LS.length = n) := Lib.hid (by rw [hLS, List.length_map, hn])
  have HL32 : Hid (All32 LS) := Lib.hid (fun l hl => by
    rw [hLS] at hl
    obtain ⟨e, h1, rfl⟩ := List.mem_map.1 hl
    exact (he.good e h1).1)
  rw [← hn] at hl hcap
  rw [← hn, ← hidd, ← hLS]
  have HL := Lib.hid hl
  obtain ⟨W1, hW1⟩ : ∃ W1, W1 = w.alloc (.cells #[.int .u32 (id : Nat), .slice p n c] 25) := ⟨_, rfl⟩
  have HW1 := Lib.hid hW1
  have hrow := heap_alloc_last w (.cells #[.int .u32 (id : Nat), .slice p n c] 25)
  rw [← hW1] at hrow
  have HROW := Lib.hid hrow
  have HK1 : Hid (Kept w W1) := Lib.hid (by rw [hW1]; exact box_below _ _)
  clear he hn hidd hW1 hrow hl hid hcap hi hi1 hi2 hz hzs hLS
  go_enter Tryz.func12, Tryz.ntmps12
  go_wp2
  rw [← HW1.out]
  obtain ⟨B, hB⟩ : ∃ B, B = W1.heap.size := ⟨_, rfl⟩
  have HBE := Lib.hid hB
  clear hB
  go_loopg [5, 6] n (fun gh s y wr => ∃ (k : Nat) (tv : Value), k + gh = n ∧ s = tv ∧ y = .int .i64 k ∧ Hid (wr.ownsRow B 39 32 tv k (flatL (LS.take k))) ∧ Hid (Kept W1 wr))
  case atStart => exact ⟨0, _, by omega, rfl, rfl, Lib.hid (World.ownsRow_nil _ _ _ 32), Lib.hid (Kept.refl W1)⟩
  case round =>
    obtain ⟨k, tv, hk, rfl, rfl, HO, HK⟩ := hrel
    have hr1 := Kept.row HK.out HROW.out
    have e1 : wr.cell? ⟨w.heap.size, 1, none⟩ = some (.slice p n c) := by rw [cell_of_row _ _ _ _ _ _ hr1]; rfl
    have HKW : Hid (Kept w wr) := Lib.hid ((show Kept w W1 from HK1.out).then HK.out)
    obtain ⟨pv, cv, htv, -, -⟩ := own_slice HO.out
    subst htv
    by_cases hlt : k < n
    · have hki : (k : Int) < n := by omega
      have bk : decide ((k : Int) < (n : Int)) = true := by simpa using hki
      have hki0 : (0 : Int) ≤ k := by omega
      have hkl : k < m.es.length := by have := HN.out; omega
      obtain ⟨b, off, _, _, _, rfl, -, -, -, hcell⟩ := HE.out.elem encE hkl
      have hwf := HE.out.good _ (List.getElem_mem hkl)
      obtain ⟨cs, t, fr, hg, hsz, hex⟩ := row_of_recs (w := w) (b := b) (o := off + k * 35) (L := (fpA (m.es[k]).fp).toList) (by rw [fpL_len, hwf.1]; decide) (fun j x hx => hcell j x (by
        have hj : j < (fpA (m.es[k]).fp).toList.length := (List.getElem?_eq_some_iff.1 hx).1
        unfold enL
        rw [List.getElem?_append_left hj]
        exact hx))
      rw [fpL_len, hwf.1] at hsz hex
      have g2 := Kept.row HKW.out hg
      have htk : LS.take (k + 1) = LS.take k ++ [(m.es[k]).fp] := by
        rw [HLS.out, ← List.map_take, ← List.map_take, List.take_succ_eq_append_getElem hkl, List.map_append]; rfl
      have hx32 := hwf.1
      obtain ⟨xl, hxl⟩ : ∃ xl, xl = (m.es[k]).fp := ⟨_, rfl⟩
      rw [← hxl] at hex htk hx32
      have HONE := Lib.hid (fun (W : World) => fps_one W xl hx32 1)
      have HXS : Hid ((fpA xl).size = 32) := Lib.hid (by rw [fpA_size]; exact hx32)
      obtain ⟨X, hX⟩ : ∃ X, X = fpA xl := ⟨_, rfl⟩
      have hex2 : cs.extract (off + k * 35) (off + k * 35 + 32) = X := by rw [hX]; exact hex
      rw [← hX] at HONE HXS
      have HES := Lib.hid (show off + k * 35 + 32 ≤ cs.size ∧ cs.extract (off + k * 35) (off + k * 35 + 32) = X from ⟨hsz, hex2⟩)
      obtain ⟨k1, hk1⟩ : ∃ k1, k1 = k + 1 := ⟨_, rfl⟩
      have v1 : IntKind.i64.wrap ((k : Int) + 1) = (k1 : Int) := by rw [show (k : Int) + 1 = (k1 : Int) by omega]; exact IntWalk.i64_in _ (by have := HL.out; omega)
      have HKK : Hid (k1 = k + 1 ∧ k + gk = n ∧ k < n) := Lib.hid ⟨hk1, hk, hlt⟩
      have HFT : Hid (flatL (LS.take k) ++ flatL [xl] = flatL (LS.take k1)) := Lib.hid (by rw [flatL_snoc, hk1, htk])
      clear hcell hg hsz hex hex2 hwf htk hx32 hxl hX hk1 hk hlt hkl hr1
      go_wp2_with (first
        | (with_reducible refine wpList_load_sub rfl _ _ rfl b (off + k * 35) 32 rfl t cs fr _ g2 Tryz.underlying39 rfl infoFp HES.out.1 X HES.out.2 ?_)
        | (with_reducible refine wpList_build1 rfl _ rfl X rfl HXS.out ?_)
        | (at_builtin; refine wpList_append_fps rfl _ _ 32 rfl B 39 ti tz 32 Tryz.underlying32 HIR.out HZ0.out HZ1.out HZ2.out HZS.out _ _ _ rfl (HO.out.alloc _) _ [xl] rfl (HONE.out _) ?qd2 ?qd3 ?qd4 ?_))
      case qd2 => have := HKK.out; have := HL.out; rw [List.length_singleton]; unfold maxLen; omega
      case qd3 => have := HKK.out; have := HL.out; rw [List.length_singleton]; omega
      case qd4 => have := HK.out.size; have := HBE.out; simp; omega
      intro v4 w5 hown2 hgrow2
      have H6 : Hid (w5.ownsRow B 39 32 v4 k1 (flatL (LS.take k1))) := Lib.hid (by
        have h := hown2
        rw [HFT.out, ← HKK.out.1] at h
        exact h)
      have H7 : Hid (Kept W1 w5) := Lib.hid (append_keptX (show Kept W1 wr from HK.out) (by rw [HBE.out]; exact Nat.le_refl _) HO.out hgrow2)
      clear hown2 hgrow2 HO g2 e1
      go_wp2
      go_roundg (n - k1)
      · exact ⟨k1, _, by have := HKK.out; omega, rfl, by first | rfl | (have := HKK.out; congr 1; omega), H6, H7⟩
      · have := HKK.out; omega
    · have hki : ¬ (k : Int) < n := by omega
      have bk : decide ((k : Int) < (n : Int)) = false := by simpa using hki
      obtain rfl : k = n := by omega
      have HF : FpsAt 32 LS (.slice pv k cv) wr := by
        have h := HO.out
        rw [List.take_of_length_le (by rw [HLN.out]; exact Nat.le_refl _)] at h
        have h2 : OwnFps B LS (.slice pv k cv) wr := ⟨HL32.out, by rw [HLN.out]; exact h⟩
        exact h2.fps
      have CO := rof_n bits pv cv k LS HLN.out.symm HL.out wr HF
      clear HF hr1
      go_wp2_with fail
      refine CO.mono ?_
      rintro e w2 ⟨v', rfl, hv', hb2⟩
      have HV := Lib.hid hv'.fps
      have HK2 : Hid (Kept w w2) := Lib.hid ((show Kept w wr from HKW.out).then hb2)
      clear hv' hb2 CO
      go_wp2
      go_ret
      exact ⟨_, rfl, HV.out, HK2.out⟩

end Go.Proofs.YteompckehokdoaaGreatDoor
