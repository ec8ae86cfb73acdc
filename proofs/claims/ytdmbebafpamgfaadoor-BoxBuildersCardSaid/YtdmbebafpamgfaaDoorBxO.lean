/- BoxBuilds out of the contracts. -/
import Derived.Test.YtdmbebafpamgfaaDoorBxN
namespace Go.Proofs.YtdmbebafpamgfaaDoor
open Go.RowKit

theorem map_data_str (L : List ByteArray) : (L.map fun c => c.data.toList).map str = L := by
  rw [List.map_map]
  conv => rhs; rw [← List.map_id L]
  exact List.map_congr_left fun c _ => str_data c

set_option maxRecDepth 100000 in
set_option maxHeartbeats 16000000 in
theorem boxBuilds_of (CK0 : BCheckOk) (CB : BBuildOk) (CH : BHeadOk) (CK : BChunksOk) (AW : AwakeB) (id : Nat) (hid : id < 4294967296) (L0 : List ByteArray) (v0 : Value) (w : World) (h0 : StrAt L0 v0 w) (hT : TabAt w) :
    Calls Tryd.prog 3 #[.int .u32 (id : Nat), v0] w fun e w' => e = .returned (.bool true) ∧ Kept w w' := by
  have CF := few14_any L0 v0 w h0
  have hll := fewC_len L0
  have hsz := fewC_size L0
  obtain ⟨L, hL⟩ : ∃ L, L = fewC L0 := ⟨_, rfl⟩
  rw [← hL] at CF hll hsz
  obtain ⟨p0, c0, hv0, -⟩ := h0
  subst hv0
  obtain ⟨n0, hn0⟩ : ∃ n, n = L0.length := ⟨_, rfl⟩
  rw [← hn0] at CF ⊢
  have hszz : ∀ s ∈ L, s.size ≤ 100000 := fun s hs => by have := hsz s hs; omega
  have C1 := fun (v : Value) W (k : Kept w W) (H : StrAtC L v W) => CB id L v W hid H (by omega) hszz (hT.later k)
  have C2 := fun (v : Value) W (H : StrAt L v W) => CK0 id L v W hid H (by omega) hszz
  have C3 := fun (v : Value) W (H : StrAt L v W) => rmay14_any id hid L v W H (by omega)
  have HT := Lib.hid hT
  have HLL := Lib.hid hll
  clear hL hn0 CB CK0 hT hll
  by_cases hm : mayC id L
  · unfold buildV at C1
    rw [if_pos hm, if_pos hm] at C1
    rw [if_pos hm] at C2
    rw [decide_eq_true hm] at C3
    have hbl : (boxB id L).length ≤ 100000 := by
      have h1 := @boxB_len id L
      have h2 := hm.2.2.2
      have := HLL.out
      omega
    obtain ⟨S, hS⟩ : ∃ S, S = boxB id L := ⟨_, rfl⟩
    obtain ⟨T, hTT⟩ : ∃ T, T = str S := ⟨_, rfl⟩
    have hTs : T.size ≤ 100000 := by rw [hTT, str_size, hS]; exact hbl
    have hTl : T.data.toList = S := by rw [hTT, str_list]
    have C4 := fun W (k : Kept w W) => CH T W hTs (HT.out.later k)
    have C5 := fun W (k : Kept w W) => CK T W hTs (HT.out.later k)
    rw [hTl] at C4 C5
    unfold headE at C4
    unfold chunksE at C5
    have hg1 : headG S = some (headC id L) := by rw [hS]; exact headG_boxB hm
    have hg2 : chunksG S = some (L.map fun c => c.data.toList) := by rw [hS]; exact chunksG_boxB hm
    rw [hg1] at C4
    rw [hg2] at C5
    simp only [Option.isSome_some, if_true, Option.getD_some, map_data_str] at C4 C5
    rw [← hS, ← hTT] at C1
    have CR := fun {v : Value} W (H : StrAt L v W) => rbuild14_any id L hm v W H
    rw [← hS, ← hTT] at CR
    have CO := fun {v : Value} W (H : StrAt L v W) => rof14_any id L v W H (by have := HLL.out; omega) hszz
    have hnl : (headC id L).slots.length ≤ 1000000 := by rw [headC_len]; have := HLL.out; omega
    obtain ⟨h, hh⟩ : ∃ h, h = headC id L := ⟨_, rfl⟩
    have HH := Lib.hid hh
    rw [← hh] at C4 hnl
    obtain ⟨n, hn⟩ : ∃ n, n = h.slots.length := ⟨_, rfl⟩
    have HIDN : Hid (id = h.id ∧ n = h.slots.length) := Lib.hid ⟨by rw [hh]; rfl, hn⟩
    have HNL := Lib.hid hnl
    have hbt : (T.toList == T.toList) = true := by simp
    have hbn : (!T.toList == T.toList) = false := by rw [hbt]; rfl
    have HL1 : Hid (L.length ≤ 1000000) := Lib.hid (by have := HLL.out; omega)
    clear hS hTT hTs hTl hg1 hg2 hh hn hm hbl hnl hsz hszz CH CK hid
    go_enter Tryd.func3, Tryd.ntmps3
    go_wp2_with fail
    refine CF.mono ?_
    rintro e w1 ⟨⟨v, rfl, hv⟩, hb⟩
    have HV1 := Lib.hid hv.1
    have HK1 : Hid (Kept w w1) := Lib.hid hb
    have C11 := C1 v w1 hb hv
    obtain ⟨pl, cl, hve, -⟩ := hv.1
    subst hve
    obtain ⟨nl, hnl⟩ : ∃ n, n = L.length := ⟨_, rfl⟩
    have HNE := Lib.hid hnl
    rw [← hnl] at HV1 C11 ⊢
    clear CF hb C1 hnl
    go_wp2_with fail
    refine C11.mono ?_
    rintro e w2 ⟨rfl, hb⟩
    have HV2 := Lib.hid (HV1.out.later hb)
    have HK2 : Hid (Kept w w2) := Lib.hid ((show Kept w w1 from HK1.out).then hb)
    have C22 := C2 _ w2 HV2.out
    clear hb C11 HV1 C2
    go_wp2_with fail
    refine C22.mono ?_
    rintro e w3 ⟨rfl, hb⟩
    have HV3 := Lib.hid (HV2.out.later hb)
    have HK3 : Hid (Kept w w3) := Lib.hid ((show Kept w w2 from HK2.out).then hb)
    have A3 := AW w3 (HT.out.later HK3.out)
    clear hb C22 HV2
    go_wp2_with fail
    refine A3.mono ?_
    rintro e w4 ⟨rfl, hb⟩
    have HV4 := Lib.hid (HV3.out.later hb)
    have HK4 : Hid (Kept w w4) := Lib.hid ((show Kept w w3 from HK3.out).then hb)
    have C33 := C3 _ w4 HV4.out
    clear hb A3 HV3 C3
    go_wp2_with fail
    refine C33.mono ?_
    rintro e w5 ⟨rfl, hb⟩
    have HV5 := Lib.hid (HV4.out.later hb)
    have HK5 : Hid (Kept w w5) := Lib.hid ((show Kept w w4 from HK4.out).then hb)
    have C44 := C4 w5 HK5.out
    clear hb C33 HV4 C4
    go_wp2_with fail
    refine C44.mono ?_
    rintro e w6 ⟨⟨v, rfl, hv⟩, hb⟩
    obtain ⟨sv, hsv, hsl⟩ := hv
    subst hsv
    obtain ⟨p3, c3, hp, -, -⟩ := hsl.out
    subst hp
    rw [← HIDN.out.1, ← HIDN.out.2]
    rw [← HIDN.out.2] at hsl
    have hr := heap_alloc_last w6 (.cells #[.int .u32 (id : Nat), .slice p3 n c3] 33)
    obtain ⟨W3, hW⟩ : ∃ W, W = w6.alloc (.cells #[.int .u32 (id : Nat), .slice p3 n c3] 33) := ⟨_, rfl⟩
    have HW3 := Lib.hid hW
    obtain ⟨b3, hbk⟩ : ∃ b, b = w6.heap.size := ⟨_, rfl⟩
    have HB3 := Lib.hid hbk
    rw [← hbk, ← hW] at hr
    have HROW3 := Lib.hid hr
    have hkx : Kept w6 W3 := by rw [hW]; exact box_below _ _
    have HSV0 := Lib.hid (hsl.later hkx)
    have HK6 : Hid (Kept w W3) := Lib.hid (((show Kept w w5 from HK5.out).then hb).then hkx)
    have HV6 := Lib.hid ((HV5.out.later hb).later hkx)
    have C55 := C5 W3 HK6.out
    clear hb hsl hr hW hbk hkx C44 HV5 C5
    go_wp2_with fail
    try rw [← HB3.out]
    rw [← HW3.out]
    refine C55.mono ?_
    rintro e w7 ⟨⟨v7, rfl, hv7, -⟩, hb⟩
    have HLA := Lib.hid (HV6.out.later hb)
    have HV7 := Lib.hid hv7
    have HROWA := Lib.hid (Kept.row hb HROW3.out)
    have HSV3 := Lib.hid (HSV0.out.later hb)
    have HK7 : Hid (Kept w w7) := Lib.hid ((show Kept w W3 from HK6.out).then hb)
    clear hb C55 HV6 HSV0 HROW3
    go_wp2_with fail
    refine wp_region_held_drew (S := fun W => W.heap[b3]? = some (.cells #[.int .u32 (id : Nat), .slice p3 n c3] 33 (0, 0))) (by kernel_rfl) (by exact HROWA.out) (fun hHeld => ?_)
    refine wpAnyH_take (i := 0) (v := ?_) rfl (by kernel_rfl) (by kernel_rfl) (by kernel_rfl) (fun _ _ _ h => h) (Or.inl ⟨by first | kernel_rfl | rfl, ?_⟩) (by assumption) ?_
    case refine_2 => intro w hSw; go_simp; try with_reducible rfl
    refine wpAnyH_take (i := 1) (v := ?_) rfl (by kernel_rfl) (by kernel_rfl) (by kernel_rfl) (fun _ _ _ h => h) (Or.inl ⟨by first | kernel_rfl | rfl, ?_⟩) (by assumption) ?_
    case refine_2 => intro w hSw; go_simp; try with_reducible rfl
    refine wpAnyH_take (i := 2) (v := ?_) rfl (by kernel_rfl) (by kernel_rfl) (by kernel_rfl) (fun _ _ _ h => h) (Or.inl ⟨by first | kernel_rfl | rfl, ?_⟩) (by assumption) ?_
    case refine_2 => intro w hSw; go_simp; try with_reducible rfl
    refine wpAnyH_ready (rs := [3]) (by kernel_rfl) (by simp) (AllReadyH.cons rfl (fun K hK => ?_) AllReadyH.nil)
    go_simp
    refine (CR _ (HLA.out.later (show Kept w7 w7.drew from (Below.refl _ w7).drew))).mono ?_
    rintro e w8 ⟨rfl, hb⟩
    have HX8 : Hid (Kept w7 w8) := Lib.hid ((show Kept w7 w7.drew from (Below.refl _ w7).drew).then hb)
    clear hb CR
    refine hK.out _ _ (Kept.row HX8.out HROWA.out) (fun _ => ?_)
    clear hK K
    refine wpAnyH_take (i := 4) (v := ?_) rfl (by kernel_rfl) (by kernel_rfl) (by kernel_rfl) (fun _ _ _ h => h) (Or.inl ⟨by first | kernel_rfl | rfl, ?_⟩) (by assumption) ?_
    case refine_2 => intro w hSw; go_simp; try with_reducible rfl
    refine wpAnyH_take (i := 5) (v := ?_) rfl (by kernel_rfl) (by kernel_rfl) (by kernel_rfl) (fun _ _ _ h => h) (Or.inl ⟨by first | kernel_rfl | rfl, ?_⟩) (by assumption) ?_
    case refine_2 => intro w hSw; go_simp; try with_reducible rfl
    refine wpAnyH_take (i := 6) (v := ?_) rfl (by kernel_rfl) (by kernel_rfl) (by kernel_rfl) (fun _ _ _ h => h) (Or.inl ⟨by first | kernel_rfl | rfl, ?_⟩) (by assumption) ?_
    case refine_2 => intro w hSw; go_simp; try with_reducible rfl
    refine wpAnyH_take (i := 7) (v := ?_) rfl (by kernel_rfl) (by kernel_rfl) (by kernel_rfl) (fun _ _ _ h => h) (Or.inl ⟨by first | kernel_rfl | rfl, ?_⟩) (by assumption) ?_
    case refine_2 => intro w hSw; go_simp; try with_reducible rfl
    refine wpAnyH_take (i := 8) (v := ?_) rfl (by kernel_rfl) (by kernel_rfl) (by kernel_rfl) (fun _ _ _ h => h) (Or.inl ⟨by first | kernel_rfl | rfl, ?_⟩) (by assumption) ?_
    case refine_2 => intro w hSw; go_simp; try with_reducible rfl
    refine wpAnyH_take (i := 9) (v := ?_) rfl (by kernel_rfl) (by kernel_rfl) (by kernel_rfl) (fun _ _ _ h => h) (Or.inl ⟨by first | kernel_rfl | rfl, ?_⟩) (by assumption) ?_
    case refine_2 => intro w hSw; go_simp; try with_reducible rfl
    refine wpAnyH_take (i := 10) (v := ?_) rfl (by kernel_rfl) (by kernel_rfl) (by kernel_rfl) (fun _ _ _ h => h) (Or.inl ⟨by first | kernel_rfl | rfl, ?_⟩) (by assumption) ?_
    case refine_2 => intro w hSw; go_simp; try with_reducible rfl
    refine wpAnyH_take (i := 11) (v := ?_) rfl (by kernel_rfl) (by kernel_rfl) (by kernel_rfl) (fun _ _ _ h => h) (Or.inl ⟨by first | kernel_rfl | rfl, ?_⟩) (by assumption) ?_
    case refine_2 => intro w hSw; go_simp; try with_reducible rfl
    refine wpAnyH_take (i := 12) (v := ?_) rfl (by kernel_rfl) (by kernel_rfl) (by kernel_rfl) (fun _ _ _ h => h) (Or.inl ⟨by first | kernel_rfl | rfl, ?_⟩) (by assumption) ?_
    case refine_2 => intro w hSw; go_simp; try with_reducible rfl
    refine wpAnyH_take (i := 13) (v := ?_) rfl (by kernel_rfl) (by kernel_rfl) (by kernel_rfl) (fun _ _ _ h => h) (Or.inl ⟨by first | kernel_rfl | rfl, ?_⟩) (by assumption) ?_
    case refine_2 => intro w hSw; go_simp; try with_reducible rfl
    refine wpAnyH_take (i := 14) (v := ?_) rfl (by kernel_rfl) (by kernel_rfl) (by kernel_rfl) (fun _ _ _ h => h) (Or.inl ⟨by first | kernel_rfl | rfl, ?_⟩) (by assumption) ?_
    case refine_2 => intro w hSw; go_simp; try with_reducible rfl
    refine wpAnyH_take (i := 15) (v := ?_) rfl (by kernel_rfl) (by kernel_rfl) (by kernel_rfl) (fun _ _ _ h => h) (Or.inl ⟨by first | kernel_rfl | rfl, ?_⟩) (by assumption) ?_
    case refine_2 => intro w hSw; go_simp; try with_reducible rfl
    refine wpAnyH_take (i := 16) (v := ?_) rfl (by kernel_rfl) (by kernel_rfl) (by kernel_rfl) (fun _ _ _ h => h) (Or.inl ⟨by first | kernel_rfl | rfl, ?_⟩) (by assumption) ?_
    case refine_2 => intro w hSw; go_simp; try with_reducible rfl
    refine wpAnyH_take (i := 17) (v := ?_) rfl (by kernel_rfl) (by kernel_rfl) (by kernel_rfl) (fun _ _ _ h => h) (Or.inl ⟨by first | kernel_rfl | rfl, ?_⟩) (by assumption) ?_
    case refine_2 => intro w hSw; go_simp; try with_reducible rfl
    refine wpAnyH_take (i := 18) (v := .agg #[.int .u32 (id : Nat), .slice p3 n c3]) rfl (by kernel_rfl) (by kernel_rfl) (by kernel_rfl) (fun _ _ _ h => h) (yieldsIf_load_mid (by first | kernel_rfl | rfl) _ _ rfl b3 0 (by kernel_rfl) (#[.int .u32 (id : Nat), .slice p3 n c3] : Array Value).toList _ (fun _ h => range_of_row h) Tryd.underlying33 rfl infoHdX) (by assumption) ?_
    refine wpAnyH_take (i := 19) (v := ?_) rfl (by kernel_rfl) (by kernel_rfl) (by kernel_rfl) (fun _ _ _ h => h) (Or.inl ⟨by first | kernel_rfl | rfl, ?_⟩) (by assumption) ?_
    case refine_2 => intro w hSw; go_simp; try with_reducible rfl
    refine wpAnyH_take (i := 20) (v := ?_) rfl (by kernel_rfl) (by kernel_rfl) (by kernel_rfl) (fun _ _ _ h => h) (Or.inl ⟨by first | kernel_rfl | rfl, ?_⟩) (by assumption) ?_
    case refine_2 => intro w hSw; go_simp; try with_reducible rfl
    refine wpAnyH_ready (rs := [21]) (by kernel_rfl) (by simp) (AllReadyH.cons rfl (fun K hK => ?_) AllReadyH.nil)
    go_simp
    refine (CO _ (HLA.out.later HX8.out)).mono ?_
    rintro e w9 ⟨⟨u, rfl, hu⟩, hb⟩
    have HX9 : Hid (Kept w7 w9) := Lib.hid ((show Kept w7 w8 from HX8.out).then hb)
    obtain ⟨su, hsu, hsl⟩ := hu
    rw [← HH.out] at hsu hsl
    rw [← HIDN.out.1] at hsu
    subst hsu
    have HU := Lib.hid hsl
    clear hb CO hsl
    refine hK.out _ _ (Kept.row HX9.out HROWA.out) (fun _ => ?_)
    clear hK K
    refine wpAnyH_ready (rs := [22]) (by kernel_rfl) (by simp) (AllReadyH.cons rfl (fun K hK => ?_) AllReadyH.nil)
    go_simp
    refine (rsame14_any h HNL.out (.agg #[.int .u32 (id : Nat), .slice p3 n c3]) (.agg #[.int .u32 (id : Nat), su]) w9 ⟨_, by rw [HIDN.out.1], HSV3.out.later HX9.out⟩ ⟨_, by rw [HIDN.out.1], HU.out⟩).mono ?_
    rintro e w10 ⟨rfl, hb⟩
    have HX10 : Hid (Kept w7 w10) := Lib.hid ((show Kept w7 w9 from HX9.out).then hb)
    clear hb HU
    refine hK.out _ _ (Kept.row HX10.out HROWA.out) (fun _ => ?_)
    clear hK K
    refine wpAnyH_take (i := 23) (v := ?_) rfl (by kernel_rfl) (by kernel_rfl) (by kernel_rfl) (fun _ _ _ h => h) (Or.inl ⟨by first | kernel_rfl | rfl, ?_⟩) (by assumption) ?_
    case refine_2 => intro w hSw; go_simp; try with_reducible rfl
    refine wpAnyH_take (i := 24) (v := ?_) rfl (by kernel_rfl) (by kernel_rfl) (by kernel_rfl) (fun _ _ _ h => h) (Or.inl ⟨by first | kernel_rfl | rfl, ?_⟩) (by assumption) ?_
    case refine_2 => intro w hSw; go_simp; try with_reducible rfl
    refine wpAnyH_done (by kernel_rfl) ?_ _
    have CS1 := rsame01_any L HL1.out v7 (.slice pl nl cl) w10 (HV7.out.later HX10.out) (HLA.out.later HX10.out)
    go_wp2_with fail
    refine CS1.mono ?_
    rintro e w11 ⟨rfl, hb⟩
    have HK11 : Hid (Kept w w11) := Lib.hid (((show Kept w w7 from HK7.out).then HX10.out).then hb)
    clear hb CS1
    go_wp2
    go_ret
    exact ⟨rfl, HK11.out⟩
  · unfold buildV at C1
    rw [if_neg hm, if_neg hm] at C1
    rw [if_neg hm] at C2
    rw [decide_eq_false hm] at C3
    clear hm hsz hszz CH CK hid
    go_enter Tryd.func3, Tryd.ntmps3
    go_wp2_with fail
    refine CF.mono ?_
    rintro e w1 ⟨⟨v, rfl, hv⟩, hb⟩
    have HV1 := Lib.hid hv.1
    have HK1 : Hid (Kept w w1) := Lib.hid hb
    have C11 := C1 v w1 hb hv
    obtain ⟨pl, cl, hve, -⟩ := hv.1
    subst hve
    obtain ⟨nl, hnl⟩ : ∃ n, n = L.length := ⟨_, rfl⟩
    have HNE := Lib.hid hnl
    rw [← hnl] at HV1 C11 ⊢
    clear CF hb C1 hnl
    go_wp2_with fail
    refine C11.mono ?_
    rintro e w2 ⟨rfl, hb⟩
    have HV2 := Lib.hid (HV1.out.later hb)
    have HK2 : Hid (Kept w w2) := Lib.hid ((show Kept w w1 from HK1.out).then hb)
    have C22 := C2 _ w2 HV2.out
    clear hb C11 HV1 C2
    go_wp2_with fail
    refine C22.mono ?_
    rintro e w3 ⟨rfl, hb⟩
    have HV3 := Lib.hid (HV2.out.later hb)
    have HK3 : Hid (Kept w w3) := Lib.hid ((show Kept w w2 from HK2.out).then hb)
    have A3 := AW w3 (HT.out.later HK3.out)
    clear hb C22 HV2
    go_wp2_with fail
    refine A3.mono ?_
    rintro e w4 ⟨rfl, hb⟩
    have HV4 := Lib.hid (HV3.out.later hb)
    have HK4 : Hid (Kept w w4) := Lib.hid ((show Kept w w3 from HK3.out).then hb)
    have C33 := C3 _ w4 HV4.out
    clear hb A3 HV3 C3
    go_wp2_with fail
    refine C33.mono ?_
    rintro e w5 ⟨rfl, hb⟩
    have HK5 : Hid (Kept w w5) := Lib.hid ((show Kept w w4 from HK4.out).then hb)
    clear hb C33 HV4
    go_wp2
    go_ret
    exact ⟨rfl, HK5.out⟩

end Go.Proofs.YtdmbebafpamgfaaDoor
