/- The landed manifests' Put. -/
import Derived.Test.YteompckehokdoaaGreatDoorGU
import Derived.Test.YteompckehokdoaaGreatDoorGM
import Derived.Test.YteompckehokdoaaGreatDoorGN
import Derived.Test.YteompckehokdoaaGreatDoorShelf
namespace Go.Proofs.YteompckehokdoaaGreatDoor
open Go.RowKit

theorem fpA_bytes (l : List UInt8) : (fpA l).toList = Lib.byteCells l := by
  unfold fpA Lib.byteCells
  rw [List.toList_toArray]
/-- The fingerprint of an entry that stands in a box, as a slice of bytes. -/
theorem fp_flat {e : En} (h : e.fp.length = 32) {w : World} {g : Nat} {X : Array Value} (hX : X = enC e) (hr : w.heap[g]? = some (.cells X 41 (0, 0))) : FlatAt 1 32 (Lib.byteCells e.fp) (.slice (some ⟨g, 0, none⟩) 32 32) w := by
  refine ⟨by rw [Lib.byteCells_length, h], ?_, _, _, rfl, Or.inr ⟨g, 0, rfl, ?_⟩⟩
  · rw [← fpA_bytes]
    exact fun x hx => Array.all_eq_true_iff_forall_mem.1 (fpA_one e.fp) x (Array.mem_toList_iff.1 hx)
  · intro j x hx
    have hj : j < e.fp.length := by have := (List.getElem?_eq_some_iff.1 hx).1; rwa [Lib.byteCells_length] at this
    rw [cell_of_row _ _ _ _ _ _ hr, hX]
    unfold enC enL
    rw [List.getElem?_toArray, Nat.zero_add, List.getElem?_append_left (by simpa [fpA_size] using hj), fpA_bytes]
    exact hx

set_option maxRecDepth 100000 in
set_option maxHeartbeats 32000000 in
theorem putOkM : MPutOk := by
  intro m v w H hl hT
  have HT := Lib.hid hT
  have hwf := H.wf
  have HH := Lib.hid H
  obtain ⟨hid, sv, rfl, he⟩ := H
  obtain ⟨p, c, rfl, hcap, -⟩ := he.out encE
  have HE := Lib.hid he
  obtain ⟨n, hn⟩ : ∃ n, n = m.es.length := ⟨_, rfl⟩
  have HN := Lib.hid hn
  obtain ⟨id, hidd⟩ : ∃ i, i = m.id := ⟨_, rfl⟩
  rw [← hn] at hl hcap HH
  rw [← hidd] at hid HH
  rw [← hn, ← hidd]
  obtain ⟨W0, hW0⟩ : ∃ W0, W0 = w.alloc (.cells #[.int .u32 (id : Nat), .slice p n c] 25) := ⟨_, rfl⟩
  have HW0 := Lib.hid hW0
  have hrow := heap_alloc_last w (.cells #[.int .u32 (id : Nat), .slice p n c] 25)
  rw [← hW0] at hrow
  have HROW := Lib.hid hrow
  have hk0 : Kept w W0 := by rw [hW0]; exact box_below _ _
  have HK0 := Lib.hid hk0
  have C0 := checkOkM m _ W0 (HH.out.later hk0) (by rw [← hn]; exact hl)
  have e0 : W0.cell? ⟨w.heap.size, 0, none⟩ = some (.int .u32 (id : Nat)) := by rw [cell_of_row _ _ _ _ _ _ hrow]; rfl
  have e1 : W0.cell? ⟨w.heap.size, 1, none⟩ = some (.slice p n c) := by rw [cell_of_row _ _ _ _ _ _ hrow]; rfl
  rw [hW0] at e0 e1
  obtain ⟨res, hres⟩ : ∃ r, r = putV m := ⟨_, rfl⟩
  rw [← hres]
  unfold putV at hres
  by_cases hm : mayM m
  · rw [if_pos hm] at C0 hres ⊢
    have hm1 := hm.1
    have hm2 := hm.2.1
    have hm3 := hm.2.2
    rw [← hidd] at hm1
    rw [← hn] at hm2
    have HMAY : Hid (∀ e ∈ m.es, mayE e ∧ wfE e) := Lib.hid (fun e he => ⟨hm3 e he, hwf.2 e he⟩)
    have HRES := Lib.hid hres
    have HFP : Hid (manP m = ((magicM ++ leB 4 id) ++ leB 2 n) ++ m.es.flatMap entB) := Lib.hid (by unfold manP; rw [hidd, hn]; simp only [List.append_assoc])
    have HEL : Hid (∀ k, ((m.es.take k).flatMap entB).length ≤ 40 * k) := Lib.hid (fun k => by
      rw [entsB_len _ (fun e he => (hwf.2 e (List.mem_of_mem_take he)).1), List.length_take]; omega)
    obtain ⟨S1, h1⟩ : ∃ S, S = str (leB 4 id) := ⟨_, rfl⟩
    have C1 := fun W => pu32 id (by omega) S1 h1 W
    have L1 : Hid (S1.data.toList = leB 4 id) := Lib.hid (by rw [h1, str_list])
    obtain ⟨S2, h2⟩ : ∃ S, S = str (leB 2 n) := ⟨_, rfl⟩
    have C2 := fun W => pu16 n (by omega) S2 h2 W
    have L2 : Hid (S2.data.toList = leB 2 n) := Lib.hid (by rw [h2, str_list])
    have z1 : Hid (S1.size = 4) := Lib.hid (by rw [h1, str_size, leB_len])
    have z2 : Hid (S2.size = 2) := Lib.hid (by rw [h2, str_size, leB_len])
    have u2 : IntKind.u16.wrap (n : Int) = (n : Int) := wrap_u16 (by omega)
    have HN2 := Lib.hid hm2
    obtain ⟨M, hM⟩ : ∃ M : ByteArray, M = ⟨#[77, 65, 78, 73]⟩ := ⟨_, rfl⟩
    have zM : M.size = 4 := by rw [hM]; rfl
    have LM : Hid (M.data.toList = magicM) := Lib.hid (by rw [hM]; rfl)
    have CW0 := fun bb W (h1 : bb ≤ W.heap.size) (h : BldAt bb bb [] W) => bwriteL_any bb bb [] M W (by simp; omega) h1 h
    rw [hM] at CW0
    clear he hn hidd hres hW0 hrow hwf hT hl hcap h1 h2 hid zM hM hm hm1 hm2 hm3 hk0
    go_enter Tryz.func14, Tryz.ntmps14
    go_wp2_with fail
    rw [← HW0.out]
    refine C0.mono ?_
    rintro e w1 ⟨rfl, hb1⟩
    have HK1 : Hid (Kept w w1) := Lib.hid ((show Kept w W0 from HK0.out).then hb1)
    have HROW1 := Lib.hid (Kept.row hb1 HROW.out)
    obtain ⟨bb, hbb⟩ : ∃ bb, bb = w1.heap.size := ⟨_, rfl⟩
    have HBB := Lib.hid hbb
    obtain ⟨WB, hWB⟩ : ∃ WB, WB = w1.alloc (.cells #[.pointer none, .slice none 0 0] 64) := ⟨_, rfl⟩
    have HWB := Lib.hid hWB
    have HBL : Hid (bb ≤ w1.heap.size) := Lib.hid (by rw [hbb]; exact Nat.le_refl _)
    have HBD : Hid (BldAt bb bb [] WB) := Lib.hid (by rw [hWB, hbb]; exact Lib.fresh_isBuilder _ _ w1)
    have HKB : Hid (Below bb w1 WB) := Lib.hid (by rw [hWB, hbb]; exact box_below _ _)
    have CW1 := CW0 bb WB (Nat.le_trans HBL.out HKB.out.size) HBD.out
    clear hb1 hbb hWB e0 e1 C0 CW0 HROW HK0 HW0 HBD
    go_wp2_with fail
    try rw [← HWB.out]
    try rw [← HBB.out]
    refine CW1.mono ?_
    rintro e w2 ⟨rfl, hbd, hb2, -⟩
    have HBD2 : Hid (BldAt bb bb magicM w2) := Lib.hid hbd
    have HK2 : Hid (Below bb w1 w2) := Lib.hid (Below.trans HKB.out hb2)
    have r2 := (show Kept w1 w2 from by have := HK2.out; rw [HBB.out] at this; exact this).row HROW1.out
    have e0 : w2.cell? ⟨w.heap.size, 0, none⟩ = some (.int .u32 (id : Nat)) := by rw [cell_of_row _ _ _ _ _ _ r2]; rfl
    clear hbd hb2 CW1 r2 HKB LM
    go_wp2_with fail
    refine (C1 w2).mono ?_
    rintro e w3 ⟨rfl, hb3⟩
    have CW1 := bwriteL_any bb bb magicM S1 w3 (by have := z1.out; simp [magicM]; omega) (Nat.le_trans (Nat.le_trans HBL.out HK2.out.size) hb3.size) (HBD2.out.later hb3)
    rw [L1.out] at CW1
    have HK3 : Hid (Below bb w1 w3) := Lib.hid (Below.then' HK2.out hb3 (Nat.le_trans HBL.out HK2.out.size))
    clear hb3 C1 e0 HBD2 HK2
    go_wp2_with fail
    refine CW1.mono ?_
    rintro e w4 ⟨rfl, hbd, hb4, -⟩
    have HBD4 : Hid (BldAt bb bb (magicM ++ leB 4 id) w4) := Lib.hid hbd
    have HK4 : Hid (Below bb w1 w4) := Lib.hid (Below.trans HK3.out hb4)
    have r4 := (show Kept w1 w4 from by have := HK4.out; rw [HBB.out] at this; exact this).row HROW1.out
    have e1 : w4.cell? ⟨w.heap.size, 1, none⟩ = some (.slice p n c) := by rw [cell_of_row _ _ _ _ _ _ r4]; rfl
    clear hbd hb4 CW1 r4 HK3
    go_wp2_with fail
    refine (C2 w4).mono ?_
    rintro e w5 ⟨rfl, hb5⟩
    have CW2 := bwriteL_any bb bb _ S2 w5 (by have := z2.out; simp [magicM, leB_len]; omega) (Nat.le_trans (Nat.le_trans HBL.out HK4.out.size) hb5.size) (HBD4.out.later hb5)
    rw [L2.out] at CW2
    have HK5 : Hid (Below bb w1 w5) := Lib.hid (Below.then' HK4.out hb5 (Nat.le_trans HBL.out HK4.out.size))
    clear hb5 C2 e1 HBD4 HK4
    go_wp2_with fail
    refine CW2.mono ?_
    rintro e w6 ⟨rfl, hbd, hb6, -⟩
    obtain ⟨PRE, hPRE⟩ : ∃ P, P = (magicM ++ leB 4 id) ++ leB 2 n := ⟨_, rfl⟩
    have HPL : Hid (PRE.length = 10) := Lib.hid (by rw [hPRE]; simp [magicM, leB_len])
    rw [← hPRE] at hbd HFP
    have HBD6 : Hid (BldAt bb bb (PRE ++ (m.es.take 0).flatMap entB) w6) := Lib.hid (by simpa using hbd)
    have hk6 := Below.trans HK5.out hb6
    have HK6 : Hid (Below bb w1 w6) := Lib.hid hk6
    have r6 := (show Kept w1 w6 from by rw [HBB.out] at hk6; exact hk6).row HROW1.out
    have e1 : w6.cell? ⟨w.heap.size, 1, none⟩ = some (.slice p n c) := by rw [cell_of_row _ _ _ _ _ _ r6]; rfl
    clear hbd hb6 CW2 r6 hk6 HK5 hPRE u2
    go_wp2
    clear e1
    go_loopg [27] n (fun gh y wr => ∃ (k : Nat), k + gh = n ∧ y = .int .i64 k ∧ Hid (BldAt bb bb (PRE ++ (m.es.take k).flatMap entB) wr) ∧ Hid (Below bb w1 wr))
    case atStart => exact ⟨0, by omega, rfl, HBD6, HK6⟩
    case round =>
      clear HBD6 HK6
      obtain ⟨k, hk, rfl, HBD, HK⟩ := hrel
      by_cases hlt : k < n
      · have hki : (k : Int) < n := by omega
        have bk : decide ((k : Int) < (n : Int)) = true := by simpa using hki
        have hki0 : (0 : Int) ≤ k := by omega
        have hkl : k < m.es.length := by have := HN.out; omega
        have hkw : Kept w1 wr := by have := HK.out; rw [HBB.out] at this; exact this
        obtain ⟨b, off, cs, t, fr, rfl, hg, hsz, hex, -⟩ := HE.out.elem encE hkl
        have g2 := Kept.row ((show Kept w w1 from HK1.out).then hkw) hg
        obtain ⟨hme, hwe⟩ := HMAY.out _ (List.getElem_mem hkl)
        have htk : m.es.take (k + 1) = m.es.take k ++ [m.es[k]] := List.take_succ_eq_append_getElem hkl
        obtain ⟨E, hE⟩ : ∃ E, E = m.es[k] := ⟨_, rfl⟩
        rw [← hE] at hex hme hwe htk
        obtain ⟨X, hX⟩ : ∃ X, X = enC E := ⟨_, rfl⟩
        have hex2 : cs.extract (off + k * 35) (off + k * 35 + 35) = X := by rw [hX]; exact hex
        have hXs : X.size = 35 := by rw [hX]; exact enC_size hwe.1
        have HXS := Lib.hid hXs
        have HXI : Hid ((Tryz.prog.info? 41).map (·.size) = some X.size) := Lib.hid (by rw [hXs]; exact infoEn)
        have HXO : Hid (X.all (·.oneCell') = true) := Lib.hid (by rw [hX, Array.all_eq_true_iff_forall_mem]; intro x hx; exact encE.one _ hwe x (by unfold enC at hx; simpa using hx))
        have HES : Hid (off + k * 35 + 35 ≤ cs.size ∧ cs.extract (off + k * 35) (off + k * 35 + 35) = X) := Lib.hid ⟨hsz, hex2⟩
        obtain ⟨W4, hW4⟩ : ∃ W, W = wr.alloc (.cells X 41) := ⟨_, rfl⟩
        have HW4 := Lib.hid hW4
        have hk4 : Kept wr W4 := by rw [hW4]; exact box_below _ _
        obtain ⟨b5, hb5⟩ : ∃ b, b = wr.heap.size := ⟨_, rfl⟩
        have HB5 := Lib.hid hb5
        have HR4 : Hid (W4.heap[b5]? = some (.cells X 41 (0, 0))) := Lib.hid (by rw [hW4, hb5]; exact heap_alloc_last wr _)
        have HBD4 := Lib.hid (HBD.out.later hk4)
        have HK4 : Hid (Below bb w1 W4) := Lib.hid (Below.then' HK.out hk4 (Nat.le_trans HBL.out HK.out.size))
        have HLT5 : Hid (bb ≤ b5 ∧ b5 ≠ bb) := Lib.hid ⟨by rw [hb5]; exact Nat.le_trans HBL.out HK.out.size, by
          rw [hb5]
          obtain ⟨_, _, _, hg, _⟩ := HBD.out.row
          have := (Array.getElem?_eq_some_iff.1 hg).1
          omega⟩
        have HTY : Hid ((41 : TypeId) ≠ 5) := Lib.hid (by decide)
        obtain ⟨F, hF⟩ : ∃ F, F = E.fp := ⟨_, rfl⟩
        have HFL : Hid (F.length = 32) := Lib.hid (by rw [hF]; exact hwe.1)
        have HFA : Hid (∀ W : World, W.heap[b5]? = some (.cells X 41 (0, 0)) → FlatAt 1 32 (Lib.byteCells F) (.slice (some ⟨b5, 0, none⟩) 32 32) W) := Lib.hid (fun W h => by rw [hF]; exact fp_flat hwe.1 hX h)
        obtain ⟨x, hx⟩ : ∃ x, x = E.len.toNat := ⟨_, rfl⟩
        obtain ⟨q, hq⟩ : ∃ q, q = E.box := ⟨_, rfl⟩
        obtain ⟨s, hs⟩ : ∃ s, s = E.slot.toNat := ⟨_, rfl⟩
        have hxi : E.len = (x : Int) := by rw [hx]; have := hme.1.1; omega
        have hsi : E.slot = (s : Int) := by rw [hs]; have := hme.2.2.1; omega
        have hb1 := hme.1.2
        have hb2 := hme.2.1.2
        have hb3 := hme.2.2.2
        rw [hxi] at hb1
        rw [← hq] at hb2
        rw [hsi] at hb3
        have HC32 : Hid (X[32]? = some (.int .i64 (x : Int))) := Lib.hid (by rw [hX, ← hxi]; exact enC_n hwe.1)
        have HC33 : Hid (X[33]? = some (.int .u32 (q : Nat))) := Lib.hid (by rw [hX, hq]; exact enC_b hwe.1)
        have HC34 : Hid (X[34]? = some (.int .i64 (s : Int))) := Lib.hid (by rw [hX, ← hsi]; exact enC_s hwe.1)
        have u1 : IntKind.u16.wrap (x : Int) = (x : Int) := wrap_u16 (by omega)
        have u3 : IntKind.u16.wrap (s : Int) = (s : Int) := wrap_u16 (by omega)
        obtain ⟨S1, h1⟩ : ∃ S, S = str (leB 2 x) := ⟨_, rfl⟩
        have C1 := fun W => pu16 x (by omega) S1 h1 W
        have L1 : Hid (S1.data.toList = leB 2 x) := Lib.hid (by rw [h1, str_list])
        obtain ⟨S2, h2⟩ : ∃ S, S = str (leB 4 q) := ⟨_, rfl⟩
        have C2 := fun W => pu32 q (by omega) S2 h2 W
        have L2 : Hid (S2.data.toList = leB 4 q) := Lib.hid (by rw [h2, str_list])
        obtain ⟨S3, h3⟩ : ∃ S, S = str (leB 2 s) := ⟨_, rfl⟩
        have C3 := fun W => pu16 s (by omega) S3 h3 W
        have L3 : Hid (S3.data.toList = leB 2 s) := Lib.hid (by rw [h3, str_list])
        have z1 : Hid (S1.size = 2) := Lib.hid (by rw [h1, str_size, leB_len])
        have z2 : Hid (S2.size = 4) := Lib.hid (by rw [h2, str_size, leB_len])
        have z3 : Hid (S3.size = 2) := Lib.hid (by rw [h3, str_size, leB_len])
        obtain ⟨k1, hk1⟩ : ∃ k1, k1 = k + 1 := ⟨_, rfl⟩
        have v1 : IntKind.i64.wrap ((k : Int) + 1) = (k1 : Int) := by rw [show (k : Int) + 1 = (k1 : Int) by omega]; exact IntWalk.i64_in _ (by have := HN2.out; omega)
        have HKK : Hid (k1 = k + 1 ∧ k + gk = n ∧ k < n) := Lib.hid ⟨hk1, hk, hlt⟩
        obtain ⟨XS, hXX⟩ : ∃ X, X = PRE ++ (m.es.take k).flatMap entB := ⟨_, rfl⟩
        have HXL : Hid (XS.length ≤ 20000) := Lib.hid (by rw [hXX, List.length_append, HPL.out]; have := HEL.out k; have := HN2.out; omega)
        have HX1 : Hid ((((XS ++ F) ++ leB 2 x) ++ leB 4 q) ++ leB 2 s = PRE ++ (m.es.take k1).flatMap entB) := Lib.hid (by
          rw [hk1, htk, List.flatMap_append, ← List.append_assoc, ← hXX, hF, hx, hq, hs]
          simp [entB])
        rw [← hXX] at HBD4
        have CB := bwriteB_any bb bb XS (some ⟨b5, 0, none⟩) 32 32 F W4 (by have := HXL.out; omega) HFL.out.symm (Nat.le_trans HBL.out HK4.out.size) HBD4.out (fun W' hkb => HFA.out W' (hkb.heap HR4.out HLT5.out.2 HTY.out))
        clear hg hsz hex hex2 hme hwe htk hE hX hXs hW4 hk4 hb5 hF hx hq hs hxi hsi hb1 hb2 hb3 h1 h2 h3 hk1 hXX hk hlt hkl hkw HBD HK HFA
        go_wp2_with (first
          | (with_reducible refine wpList_load_sub rfl _ _ rfl b (off + k * 35) 35 rfl t cs fr _ g2 Tryz.underlying41 rfl infoEn HES.out.1 X HES.out.2 ?_)
          | ((with_reducible refine wpList_store_row rfl _ _ _ rfl wr.heap.size X rfl rfl 41 _ (heap_alloc_last wr _) HXI.out ?hold HXO.out ?_); rotate_left; rw [World.setRow_alloc_new, ← HW4.out]))
        case hold => rw [HXS.out]; rfl
        try rw [← HB5.out]
        refine CB.mono ?_
        rintro e w5 ⟨rfl, hbd, hb5, hkb⟩
        have HBD5 := Lib.hid hbd
        have HK5 : Hid (Below bb w1 w5) := Lib.hid (Below.trans HK4.out hb5)
        have HR5 := Lib.hid (hkb.heap HR4.out HLT5.out.2 HTY.out)
        have f1 : w5.cell? ⟨b5, 32, none⟩ = some (.int .i64 (x : Int)) := by rw [cell_of_row _ _ _ _ _ _ HR5.out]; exact HC32.out
        clear hbd hb5 hkb CB HBD4 HK4 HR4 g2
        go_wp2_with fail
        refine (C1 w5).mono ?_
        rintro e w6 ⟨rfl, hb6⟩
        have CW1 := bwriteL_any bb bb _ S1 w6 (by have := z1.out; have := HXL.out; rw [List.length_append, HFL.out]; omega) (Nat.le_trans (Nat.le_trans HBL.out HK5.out.size) hb6.size) (HBD5.out.later hb6)
        rw [L1.out] at CW1
        have HK6 : Hid (Below bb w1 w6) := Lib.hid (Below.then' HK5.out hb6 (Nat.le_trans HBL.out HK5.out.size))
        have HR6 := Lib.hid (Kept.row (show Kept w5 w6 from hb6) HR5.out)
        clear hb6 C1 HBD5 HK5 HR5 f1
        go_wp2_with fail
        refine CW1.mono ?_
        rintro e w7 ⟨rfl, hbd, hb7, hkb⟩
        have HBD7 := Lib.hid hbd
        have HK7 : Hid (Below bb w1 w7) := Lib.hid (Below.trans HK6.out hb7)
        have HR7 := Lib.hid (hkb.heap HR6.out HLT5.out.2 HTY.out)
        have f2 : w7.cell? ⟨b5, 33, none⟩ = some (.int .u32 (q : Nat)) := by rw [cell_of_row _ _ _ _ _ _ HR7.out]; exact HC33.out
        clear hbd hb7 CW1 hkb HK6 HR6
        go_wp2_with fail
        refine (C2 w7).mono ?_
        rintro e w8 ⟨rfl, hb8⟩
        have CW2 := bwriteL_any bb bb _ S2 w8 (by have := z2.out; have := HXL.out; rw [List.length_append, List.length_append, leB_len, HFL.out]; omega) (Nat.le_trans (Nat.le_trans HBL.out HK7.out.size) hb8.size) (HBD7.out.later hb8)
        rw [L2.out] at CW2
        have HK8 : Hid (Below bb w1 w8) := Lib.hid (Below.then' HK7.out hb8 (Nat.le_trans HBL.out HK7.out.size))
        have HR8 := Lib.hid (Kept.row (show Kept w7 w8 from hb8) HR7.out)
        clear hb8 C2 HBD7 HK7 HR7 f2
        go_wp2_with fail
        refine CW2.mono ?_
        rintro e w9 ⟨rfl, hbd, hb9, hkb⟩
        have HBD9 := Lib.hid hbd
        have HK9 : Hid (Below bb w1 w9) := Lib.hid (Below.trans HK8.out hb9)
        have HR9 := Lib.hid (hkb.heap HR8.out HLT5.out.2 HTY.out)
        have f3 : w9.cell? ⟨b5, 34, none⟩ = some (.int .i64 (s : Int)) := by rw [cell_of_row _ _ _ _ _ _ HR9.out]; exact HC34.out
        clear hbd hb9 CW2 hkb HK8 HR8
        go_wp2_with fail
        refine (C3 w9).mono ?_
        rintro e wA ⟨rfl, hbA⟩
        have CW3 := bwriteL_any bb bb _ S3 wA (by have := z3.out; have := HXL.out; rw [List.length_append, List.length_append, List.length_append, leB_len, leB_len, HFL.out]; omega) (Nat.le_trans (Nat.le_trans HBL.out HK9.out.size) hbA.size) (HBD9.out.later hbA)
        rw [L3.out, HX1.out] at CW3
        have HKA : Hid (Below bb w1 wA) := Lib.hid (Below.then' HK9.out hbA (Nat.le_trans HBL.out HK9.out.size))
        clear hbA C3 HBD9 HK9 HR9 f3
        go_wp2_with fail
        refine CW3.mono ?_
        rintro e wB ⟨rfl, hbd, hbB, -⟩
        have HBDB := Lib.hid hbd
        have HKB' : Hid (Below bb w1 wB) := Lib.hid (Below.trans HKA.out hbB)
        clear hbd hbB CW3 HKA
        go_wp2
        go_roundg (n - k1)
        · exact ⟨k1, by have := HKK.out; omega, by first | rfl | (have := HKK.out; congr 1; omega), HBDB, HKB'⟩
        · have := HKK.out; omega
      · have hki : ¬ (k : Int) < n := by omega
        have bk : decide ((k : Int) < (n : Int)) = false := by simpa using hki
        obtain ⟨X, hX⟩ : ∃ X, X = PRE ++ (m.es.take k).flatMap entB := ⟨_, rfl⟩
        have hXF : X = manP m := by rw [hX, List.take_of_length_le (by have := HN.out; omega), ← HFP.out]
        rw [← hX] at HBD
        have hXL : X.length ≤ 20000 := by rw [hX, List.length_append, HPL.out]; have := HEL.out k; have := HN2.out; omega
        have CS := Tryz.Builder_String_any bb bb X wr HBD.out (Nat.le_trans HBL.out HK.out.size)
        obtain ⟨Y, hY⟩ : ∃ Y, Y = str X := ⟨_, rfl⟩
        rw [show (⟨X.toArray⟩ : ByteArray) = Y from hY.symm] at CS
        have CZ := fun W hT => seal_any Y (by rw [hY, str_size]; omega) W hT
        have HSE : Hid (sealed Y = res) := Lib.hid (by
          unfold sealed
          rw [HRES.out, hY, str_list, str_append, hXF]
          rfl)
        rw [HSE.out] at CZ
        clear hX hXF hXL hY HBD hk hlt HSE
        go_wp2_with fail
        refine CS.mono ?_
        rintro e w2 ⟨rfl, hb2⟩
        have hk2 : Kept w1 w2 := by have := Below.trans HK.out hb2; rw [HBB.out] at this; exact this
        have CZ2 := CZ w2 (HT.out.later ((show Kept w w1 from HK1.out).then hk2))
        have HK2 : Hid (Kept w w2) := Lib.hid ((show Kept w w1 from HK1.out).then hk2)
        clear hb2 CS CZ hk2
        go_wp2_with fail
        refine CZ2.mono ?_
        rintro e w3 ⟨rfl, hb3⟩
        have HK3 : Hid (Kept w w3) := Lib.hid ((show Kept w w2 from HK2.out).then hb3)
        clear hb3 CZ2
        go_wp2
        first | go_ret2 | go_ret
        exact ⟨rfl, HK3.out⟩
  · rw [if_neg hm] at C0 hres ⊢
    subst hres
    clear he hn hidd hW0 hrow hwf hT hl hcap hid hm hk0 HE HN
    go_enter Tryz.func14, Tryz.ntmps14
    go_wp2_with fail
    rw [← HW0.out]
    refine C0.mono ?_
    rintro e w1 ⟨rfl, hb1⟩
    have HK1 : Hid (Kept w w1) := Lib.hid ((show Kept w W0 from HK0.out).then hb1)
    clear hb1 C0 e0 e1
    go_wp2
    first | go_ret2 | go_ret
    exact ⟨rfl, HK1.out⟩

end Go.Proofs.YteompckehokdoaaGreatDoor
