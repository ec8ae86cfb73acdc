/- An act that puts: the statements' does. -/
import Derived.Test.YtppbknlhknadbaaGG
namespace Go.Proofs.Ytppbknlhknadbaa
open Go.RowKit Go.ChangeShapes

set_option maxRecDepth 100000 in
set_option maxHeartbeats 16000000 in
theorem does12_put0 {B Br : Nat} {x : Value} {P : Dk → (Nat → Prop) → World → Prop} (PU : BPutOk)
    (D : DiskOk B x P) {s : Dk} {Bs : Nat → Prop} {g : Nat} {vs vw : Value} {w : World} (h : Pair B Br g P s Bs vs vw w) (hlo : s.ops ≤ 4294900000) (kd : Int) (hm : kd.tmod 6 = 0) (lr lt : List (Int × Int)) (vr vt : Value)
    (hvr : LiveAt lr vr (PBs Bs g vs vw) w) (hvt : LiveAt lt vt (PBs Bs g vs vw) w) (size : Int) (hs : I64 size) (c : UInt8) (fz : Int) (hf : I64 fz) :
    Does12 B Br g x P s Bs vs vw w (actB kd vr vt size (c.toNat : Int) fz) (bPut (fzS s fz) (lr.take 20) (List.replicate (fillN size) c)).1 := by
  have gA := heap_alloc_last w (.cells (actB kd vr vt size (c.toNat : Int) fz) 41)
  have K0 := box_below w (.cells (actB kd vr vt size (c.toNat : Int) fz) 41)
  have hW := Pair.kept D h K0
  obtain ⟨pr, nr, cr, hnr, hfa, hfb, hff⟩ := few12_slice lr vr w hvr.at_
  obtain ⟨pt, nt, ct, hnt, hga, hgb, hgf⟩ := few12_slice lt vt w hvt.at_
  have HFR : Hid (RunsAt lr vr w) := Lib.hid hvr.at_
  obtain ⟨qr, dr, hqr, -, -⟩ := hvr.at_.out
  obtain ⟨qt, dt, hqt, -, -⟩ := hvt.at_.out
  have HVR : Hid (LiveAt lr vr (PBs Bs g vs vw) w) := Lib.hid hvr
  have HVT : Hid (LiveAt lt vt (PBs Bs g vs vw) w) := Lib.hid hvt
  have HFF := Lib.hid hff
  have HGF := Lib.hid hgf
  have HFL : Hid (LiveAt (lr.take 20) (.slice pr nr cr) (PBs Bs g vs vw) w) := Lib.hid ⟨hfa, hfb _ hvr.apart⟩
  have HGL : Hid (LiveAt (lt.take 20) (.slice pt nt ct) (PBs Bs g vs vw) w) := Lib.hid ⟨hga, hgb _ hvt.apart⟩
  have l20 : Hid ((lr.take 20).length ≤ 65536 ∧ (lt.take 20).length ≤ 65536) := Lib.hid ⟨by rw [List.length_take]; omega, by rw [List.length_take]; omega⟩
  obtain ⟨lr20, hlr⟩ : ∃ l, l = lr.take 20 := ⟨_, rfl⟩
  obtain ⟨lt20, hlt⟩ : ∃ l, l = lt.take 20 := ⟨_, rfl⟩
  rw [← hlr] at HFL l20
  try rw [← hlr]
  rw [← hlt] at HGL l20
  try rw [← hlt]
  have hA0 : (actB kd vr vt size (c.toNat : Int) fz)[0]? = some (.int .u8 kd) := rfl
  have a1 : (actB kd vr vt size (c.toNat : Int) fz)[1]? = some vr := rfl
  have a2 : (actB kd vr vt size (c.toNat : Int) fz)[2]? = some vt := rfl
  have a3 : (actB kd vr vt size (c.toNat : Int) fz)[3]? = some (.int .i64 size) := rfl
  have a4 : (actB kd vr vt size (c.toNat : Int) fz)[4]? = some (.int .u8 (c.toNat : Int)) := rfl
  have a5 : (actB kd vr vt size (c.toNat : Int) fz)[5]? = some (.int .i64 fz) := rfl
  obtain ⟨A, hA⟩ : ∃ A, A = actB kd vr vt size (c.toNat : Int) fz := ⟨_, rfl⟩
  rw [← hA] at gA K0 hW hA0 a1 a2 a3 a4 a5 ⊢
  rw [hqr] at a1 HFF HVR
  rw [hqt] at a2 HGF HVT
  have HCS := Lib.hid (fun (w' : World) (h : w'.heap[w.heap.size]? = some (.cells A 41 (0, 0))) =>
    (show w'.cell? ⟨w.heap.size, 0, none⟩ = some (.int .u8 kd) ∧ w'.cell? ⟨w.heap.size, 1, none⟩ = some (.slice qr lr.length dr) ∧ w'.cell? ⟨w.heap.size, 2, none⟩ = some (.slice qt lt.length dt) ∧ w'.cell? ⟨w.heap.size, 3, none⟩ = some (.int .i64 size) ∧ w'.cell? ⟨w.heap.size, 4, none⟩ = some (.int .u8 (c.toNat : Int)) ∧ w'.cell? ⟨w.heap.size, 5, none⟩ = some (.int .i64 fz) from
    ⟨by rw [cell_of_row _ _ _ _ _ _ h]; exact hA0, by rw [cell_of_row _ _ _ _ _ _ h]; exact a1, by rw [cell_of_row _ _ _ _ _ _ h]; exact a2, by rw [cell_of_row _ _ _ _ _ _ h]; exact a3, by rw [cell_of_row _ _ _ _ _ _ h]; exact a4, by rw [cell_of_row _ _ _ _ _ _ h]; exact a5⟩))
  have old : ∀ k, PBs Bs g vs vw k → k < w.heap.size := fun k hk => hk.elim (fun y => (h.lt k y).2) (fun y => (h.r.lt k y).2)
  have M0 : Mid12 B Br g P s Bs vs vw w A Bs (w.alloc (.cells A 41)) := ⟨hW, gA, fun k hk => Or.inl hk, ButBy.below K0, old⟩
  have HM0 := Lib.hid M0
  have HD := Lib.hid D
  have HS := Lib.hid hs
  have HF := Lib.hid hf
  have HLO := Lib.hid hlo
  obtain ⟨nR, hnR⟩ : ∃ nR, nR = lr.length := ⟨_, rfl⟩
  obtain ⟨nT, hnT⟩ : ∃ nT, nT = lt.length := ⟨_, rfl⟩
  rw [← hnR] at HCS HFF HVR
  rw [← hnT] at HCS HGF HVT
  obtain ⟨W, hWe⟩ : ∃ W, W = w.alloc (.cells A 41) := ⟨_, rfl⟩
  rw [← hWe] at HM0
  have HWE := Lib.hid hWe
  obtain ⟨c0, c1, c2, c3, c4, c5⟩ := HCS.out W HM0.out.row
  have FI := fun W => fill12_any size c W
  obtain ⟨T, hT⟩ : ∃ T, T = str (List.replicate (fillN size) c) := ⟨_, rfl⟩
  rw [← hT] at FI
  have HT := Lib.hid hT
  have HTZ : Hid (T.size ≤ maxLen) := Lib.hid (by rw [hT, str_size, List.length_replicate]; unfold fillN maxLen; omega)
  have HTL : Hid (T.data.toList = List.replicate (fillN size) c) := Lib.hid (by rw [hT, str_list])
  rw [← HTL.out]
  obtain ⟨E, hE⟩ : ∃ E, E = (bPut (fzS s fz) lr20 T.data.toList).2 := ⟨_, rfl⟩
  have HE := Lib.hid hE
  have be : (E == E) = true := by simp
  have HPU := Lib.hid PU
  rw [hWe] at c0 c1 c2 c3 c4 c5
  clear hWe gA K0 hW hA0 a1 a2 a3 a4 a5 hA old M0 D hs hf hlo h hvr hvt hfa hfb hff hga hgb hgf hnr hnt hqr hqt hlr hlt hnR hnT HFR hT PU hE
  by_cases hz : 0 ≤ fz
  · have eS : fzS s fz = { s with fuse := fz } := if_pos hz
    have HES := Lib.hid eS
    clear eS
    unfold Does12
    go_enter Try.func16, Try.ntmps16
    go_wp2_with fail
    rw [← HWE.out]
    have DF := HD.out.fuse s Bs W fz HM0.out.p.d (i64_wf HF.out)
    refine DF.mono ?_
    rintro e w1 ⟨rfl, ⟨Bs1, hd1, hs1⟩, hb1⟩
    have hM1 : ∃ V, Mid12 B Br g P (fzS s fz) Bs vs vw w A Bs1 V ∧ V = w1.setCell ⟨g, 2, none⟩ (.int .i64 fz) := mid12_fuse HM0.out HD.out HES.out HF.out hd1 hs1 hb1
    have d2 : w1.cell? ⟨g, 2, none⟩ = some (.int .i64 s.fuse) := (HM0.out.p.r_stay hb1).cell 2 _ rfl
    have f2 := (HM0.out.p.r_stay hb1).froz 2
    have c5 : w1.cell? ⟨w.heap.size, 5, none⟩ = some (.int .i64 fz) := (HCS.out w1 (mid12_row HM0.out hb1)).2.2.2.2.2
    obtain ⟨V, hV, hVe⟩ := hM1
    have HV := Lib.hid hV
    have HVE := Lib.hid hVe
    obtain ⟨C0, C1, C2, C3, C4, C5⟩ := HCS.out V hV.row
    rw [hVe] at C0 C1 C2 C3 C4 C5
    clear hd1 hs1 hb1 DF hV hVe
    go_wp2_with fail
    rw [← HVE.out]
    refine (FI V).mono ?_
    rintro e w2 ⟨rfl, hb2⟩
    have M2 := HV.out.later HD.out hb2
    have HM2 : Hid (Mid12 B Br g P (fzS s fz) Bs vs vw w A Bs1 w2.drew) := Lib.hid (M2.later HD.out (Below.drew (Below.refl w2.heap.size w2)))
    have hhl := M2.row
    clear hb2 M2 FI
    go_wp2_with fail
    obtain ⟨w3, hw3⟩ : ∃ w3, w3 = w2.drew := ⟨_, rfl⟩
    have S0 := HCS.out w2.drew HM2.out.row
    refine wp_region_held_drew (S := fun w' => w'.cell? ⟨w.heap.size, 0, none⟩ = some (.int .u8 kd) ∧ w'.cell? ⟨w.heap.size, 1, none⟩ = some (.slice qr nR dr) ∧ w'.cell? ⟨w.heap.size, 2, none⟩ = some (.slice qt nT dt) ∧ w'.cell? ⟨w.heap.size, 3, none⟩ = some (.int .i64 size) ∧ w'.cell? ⟨w.heap.size, 4, none⟩ = some (.int .u8 (c.toNat : Int)) ∧ w'.cell? ⟨w.heap.size, 5, none⟩ = some (.int .i64 fz)) (by kernel_rfl) S0 (fun hHeld => ?_)
    refine wpAnyH_take (i := 0) (v := ?_) rfl (by kernel_rfl) (by kernel_rfl) (by kernel_rfl) (fun _ _ _ h => h) (Or.inl ⟨by first | kernel_rfl | rfl, ?_⟩) (by assumption) ?_
    case refine_2 => intro w hSw; go_simp; try with_reducible rfl
    refine wpAnyH_take (i := 1) (v := ?_) rfl (by kernel_rfl) (by kernel_rfl) (by kernel_rfl) (fun _ _ _ h => h) (Or.inl ⟨by first | kernel_rfl | rfl, ?_⟩) (by assumption) ?_
    case refine_2 => intro w hSw; go_simp; try with_reducible rfl
    refine wpAnyH_take (i := 2) (v := ?_) rfl (by kernel_rfl) (by kernel_rfl) (by kernel_rfl) (fun _ _ _ h => h) (Or.inl ⟨by first | kernel_rfl | rfl, ?_⟩) (by assumption) ?_
    case refine_2 => intro w hSw; go_simp; try with_reducible rfl
    refine wpAnyH_take (i := 4) (v := ?_) rfl (by kernel_rfl) (by kernel_rfl) (by kernel_rfl) (fun _ _ _ h => h) (Or.inl ⟨by first | kernel_rfl | rfl, ?_⟩) (by assumption) ?_
    case refine_2 => intro w hSw; go_simp; try with_reducible rfl
    refine wpAnyH_take (i := 6) (v := ?_) rfl (by kernel_rfl) (by kernel_rfl) (by kernel_rfl) (fun _ _ _ h => h) (Or.inl ⟨by first | kernel_rfl | rfl, ?_⟩) (by assumption) ?_
    case refine_2 => intro w hSw; go_simp; try with_reducible rfl
    refine wpAnyH_take (i := 7) (v := ?_) rfl (by kernel_rfl) (by kernel_rfl) (by kernel_rfl) (fun _ _ _ h => h) (Or.inl ⟨by first | kernel_rfl | rfl, ?_⟩) (by assumption) ?_
    case refine_2 => intro w hSw; go_simp; try with_reducible rfl
    refine wpAnyH_take (i := 8) (v := ?_) rfl (by kernel_rfl) (by kernel_rfl) (by kernel_rfl) (fun _ _ _ h => h) (Or.inl ⟨by first | kernel_rfl | rfl, ?_⟩) (by assumption) ?_
    case refine_2 => intro w hSw; go_simp; try with_reducible rfl
    refine wpAnyH_take (i := 10) (v := ?_) rfl (by kernel_rfl) (by kernel_rfl) (by kernel_rfl) (fun _ _ _ h => h) (Or.inl ⟨by first | kernel_rfl | rfl, ?_⟩) (by assumption) ?_
    case refine_2 => intro w hSw; go_simp; try with_reducible rfl
    refine wpAnyH_ready (rs := [3]) (by kernel_rfl) (by simp) (AllReadyH.cons rfl (fun K hK => ?_) AllReadyH.nil)
    go_simp
    refine (HFF.out _ (HM2.out.live HVR.out).at_).mono ?_
    rintro e w3 ⟨rfl, rfl⟩
    refine hK.out _ _ S0 (fun _ => ?_)
    clear hK K
    refine wpAnyH_ready (rs := [5]) (by kernel_rfl) (by simp) (AllReadyH.cons rfl (fun K hK => ?_) AllReadyH.nil)
    go_simp
    have PU1 := HPU.out _ _ _ HD.out (fzS s fz) Bs1 _ lr20 _ T HM2.out.p.d HM2.out.p.ok (by rw [fzS_ops]; exact HLO.out) (HM2.out.live HFL.out).left l20.out.1 HTZ.out
    rw [← HE.out] at PU1
    refine PU1.mono ?_
    rintro e w4 ⟨rfl, ⟨Bs2, hd2, hs2⟩, hb2⟩
    have hr4 := HM2.out.p.r_stay hb2
    have hb4 : ButBy (PBs Bs1 g vs vw) w2.drew w4 := hb2.mono fun _ h => Or.inl h
    have S4 := HCS.out w4 (HM2.out.row2 hb4)
    have HL4 := HM2.out.live HVR.out
    have CF4 := HFF.out w4 (HL4.at_.but HL4.apart hb4)
    have HG4 := HM2.out.live HFL.out
    have RP4 := rput12_any hr4 HM2.out.p.ok (by rw [fzS_ops]; exact HLO.out) (Nat.le_trans HM2.out.p.base hb2.size) lr20 _ (HG4.at_.but HG4.apart hb4) l20.out.1 T HTZ.out
    rw [← HE.out] at RP4
    have HD2 := Lib.hid hd2
    have HS2 := Lib.hid hs2
    have HB2 := Lib.hid hb2
    clear PU1 hd2 hs2 hb2 hr4 hb4 HL4 HG4 S0
    refine hK.out _ _ S4 (fun _ => ?_)
    clear hK K
    refine wpAnyH_ready (rs := [9]) (by kernel_rfl) (by simp) (AllReadyH.cons rfl (fun K hK => ?_) AllReadyH.nil)
    go_simp
    refine CF4.mono ?_
    rintro e w5 ⟨rfl, rfl⟩
    refine hK.out _ _ S4 (fun _ => ?_)
    clear hK K CF4
    refine wpAnyH_ready (rs := [11]) (by kernel_rfl) (by simp) (AllReadyH.cons rfl (fun K hK => ?_) AllReadyH.nil)
    go_simp
    refine RP4.mono ?_
    rintro e w6 ⟨rfl, vs2, vw2, hr6, hs6, hb6⟩
    have ST := HM2.out.p.step HD.out HD2.out HS2.out HB2.out hr6 hs6 hb6 (bPut_ok HM2.out.p.ok lr20 T.data.toList)
    have S6 := HCS.out w6 (HM2.out.row2 ST.2)
    have DN := Lib.hid (HM2.out.done (ret := .bool true) ST)
    clear ST hr6 hs6 hb6 RP4 S4
    refine hK.out _ _ S6 (fun _ => ?_)
    clear hK K
    refine wpAnyH_take (i := 12) (v := ?_) rfl (by kernel_rfl) (by kernel_rfl) (by kernel_rfl) (fun _ _ _ h => h) (Or.inl ⟨by first | kernel_rfl | rfl, ?_⟩) (by assumption) ?_
    case refine_2 => intro w hSw; go_simp; try with_reducible rfl
    refine wpAnyH_take (i := 13) (v := ?_) rfl (by kernel_rfl) (by kernel_rfl) (by kernel_rfl) (fun _ _ _ h => h) (Or.inl ⟨by first | kernel_rfl | rfl, ?_⟩) (by assumption) ?_
    case refine_2 => intro w hSw; go_simp; try with_reducible rfl
    refine wpAnyH_done (by kernel_rfl) ?_ _
    go_wp2
    go_ret
    exact DN.out
  · have eS : fzS s fz = s := if_neg hz
    have HES := Lib.hid eS
    clear eS
    unfold Does12
    go_enter Try.func16, Try.ntmps16
    go_wp2_with fail
    rw [← HWE.out]
    obtain ⟨Bs1, hB1⟩ : ∃ Bs1, Bs1 = Bs := ⟨_, rfl⟩
    obtain ⟨V, hVe⟩ : ∃ V, V = W := ⟨_, rfl⟩
    rw [← hVe] at HM0 ⊢
    have HV : Hid (Mid12 B Br g P (fzS s fz) Bs vs vw w A Bs1 V) := Lib.hid (by rw [HES.out, hB1]; exact HM0.out)
    clear hVe hB1
    refine (FI V).mono ?_
    rintro e w2 ⟨rfl, hb2⟩
    have M2 := HV.out.later HD.out hb2
    have HM2 : Hid (Mid12 B Br g P (fzS s fz) Bs vs vw w A Bs1 w2.drew) := Lib.hid (M2.later HD.out (Below.drew (Below.refl w2.heap.size w2)))
    have hhl := M2.row
    clear hb2 M2 FI
    go_wp2_with fail
    obtain ⟨w3, hw3⟩ : ∃ w3, w3 = w2.drew := ⟨_, rfl⟩
    have S0 := HCS.out w2.drew HM2.out.row
    refine wp_region_held_drew (S := fun w' => w'.cell? ⟨w.heap.size, 0, none⟩ = some (.int .u8 kd) ∧ w'.cell? ⟨w.heap.size, 1, none⟩ = some (.slice qr nR dr) ∧ w'.cell? ⟨w.heap.size, 2, none⟩ = some (.slice qt nT dt) ∧ w'.cell? ⟨w.heap.size, 3, none⟩ = some (.int .i64 size) ∧ w'.cell? ⟨w.heap.size, 4, none⟩ = some (.int .u8 (c.toNat : Int)) ∧ w'.cell? ⟨w.heap.size, 5, none⟩ = some (.int .i64 fz)) (by kernel_rfl) S0 (fun hHeld => ?_)
    refine wpAnyH_take (i := 0) (v := ?_) rfl (by kernel_rfl) (by kernel_rfl) (by kernel_rfl) (fun _ _ _ h => h) (Or.inl ⟨by first | kernel_rfl | rfl, ?_⟩) (by assumption) ?_
    case refine_2 => intro w hSw; go_simp; try with_reducible rfl
    refine wpAnyH_take (i := 1) (v := ?_) rfl (by kernel_rfl) (by kernel_rfl) (by kernel_rfl) (fun _ _ _ h => h) (Or.inl ⟨by first | kernel_rfl | rfl, ?_⟩) (by assumption) ?_
    case refine_2 => intro w hSw; go_simp; try with_reducible rfl
    refine wpAnyH_take (i := 2) (v := ?_) rfl (by kernel_rfl) (by kernel_rfl) (by kernel_rfl) (fun _ _ _ h => h) (Or.inl ⟨by first | kernel_rfl | rfl, ?_⟩) (by assumption) ?_
    case refine_2 => intro w hSw; go_simp; try with_reducible rfl
    refine wpAnyH_take (i := 4) (v := ?_) rfl (by kernel_rfl) (by kernel_rfl) (by kernel_rfl) (fun _ _ _ h => h) (Or.inl ⟨by first | kernel_rfl | rfl, ?_⟩) (by assumption) ?_
    case refine_2 => intro w hSw; go_simp; try with_reducible rfl
    refine wpAnyH_take (i := 6) (v := ?_) rfl (by kernel_rfl) (by kernel_rfl) (by kernel_rfl) (fun _ _ _ h => h) (Or.inl ⟨by first | kernel_rfl | rfl, ?_⟩) (by assumption) ?_
    case refine_2 => intro w hSw; go_simp; try with_reducible rfl
    refine wpAnyH_take (i := 7) (v := ?_) rfl (by kernel_rfl) (by kernel_rfl) (by kernel_rfl) (fun _ _ _ h => h) (Or.inl ⟨by first | kernel_rfl | rfl, ?_⟩) (by assumption) ?_
    case refine_2 => intro w hSw; go_simp; try with_reducible rfl
    refine wpAnyH_take (i := 8) (v := ?_) rfl (by kernel_rfl) (by kernel_rfl) (by kernel_rfl) (fun _ _ _ h => h) (Or.inl ⟨by first | kernel_rfl | rfl, ?_⟩) (by assumption) ?_
    case refine_2 => intro w hSw; go_simp; try with_reducible rfl
    refine wpAnyH_take (i := 10) (v := ?_) rfl (by kernel_rfl) (by kernel_rfl) (by kernel_rfl) (fun _ _ _ h => h) (Or.inl ⟨by first | kernel_rfl | rfl, ?_⟩) (by assumption) ?_
    case refine_2 => intro w hSw; go_simp; try with_reducible rfl
    refine wpAnyH_ready (rs := [3]) (by kernel_rfl) (by simp) (AllReadyH.cons rfl (fun K hK => ?_) AllReadyH.nil)
    go_simp
    refine (HFF.out _ (HM2.out.live HVR.out).at_).mono ?_
    rintro e w3 ⟨rfl, rfl⟩
    refine hK.out _ _ S0 (fun _ => ?_)
    clear hK K
    refine wpAnyH_ready (rs := [5]) (by kernel_rfl) (by simp) (AllReadyH.cons rfl (fun K hK => ?_) AllReadyH.nil)
    go_simp
    have PU1 := HPU.out _ _ _ HD.out (fzS s fz) Bs1 _ lr20 _ T HM2.out.p.d HM2.out.p.ok (by rw [fzS_ops]; exact HLO.out) (HM2.out.live HFL.out).left l20.out.1 HTZ.out
    rw [← HE.out] at PU1
    refine PU1.mono ?_
    rintro e w4 ⟨rfl, ⟨Bs2, hd2, hs2⟩, hb2⟩
    have hr4 := HM2.out.p.r_stay hb2
    have hb4 : ButBy (PBs Bs1 g vs vw) w2.drew w4 := hb2.mono fun _ h => Or.inl h
    have S4 := HCS.out w4 (HM2.out.row2 hb4)
    have HL4 := HM2.out.live HVR.out
    have CF4 := HFF.out w4 (HL4.at_.but HL4.apart hb4)
    have HG4 := HM2.out.live HFL.out
    have RP4 := rput12_any hr4 HM2.out.p.ok (by rw [fzS_ops]; exact HLO.out) (Nat.le_trans HM2.out.p.base hb2.size) lr20 _ (HG4.at_.but HG4.apart hb4) l20.out.1 T HTZ.out
    rw [← HE.out] at RP4
    have HD2 := Lib.hid hd2
    have HS2 := Lib.hid hs2
    have HB2 := Lib.hid hb2
    clear PU1 hd2 hs2 hb2 hr4 hb4 HL4 HG4 S0
    refine hK.out _ _ S4 (fun _ => ?_)
    clear hK K
    refine wpAnyH_ready (rs := [9]) (by kernel_rfl) (by simp) (AllReadyH.cons rfl (fun K hK => ?_) AllReadyH.nil)
    go_simp
    refine CF4.mono ?_
    rintro e w5 ⟨rfl, rfl⟩
    refine hK.out _ _ S4 (fun _ => ?_)
    clear hK K CF4
    refine wpAnyH_ready (rs := [11]) (by kernel_rfl) (by simp) (AllReadyH.cons rfl (fun K hK => ?_) AllReadyH.nil)
    go_simp
    refine RP4.mono ?_
    rintro e w6 ⟨rfl, vs2, vw2, hr6, hs6, hb6⟩
    have ST := HM2.out.p.step HD.out HD2.out HS2.out HB2.out hr6 hs6 hb6 (bPut_ok HM2.out.p.ok lr20 T.data.toList)
    have S6 := HCS.out w6 (HM2.out.row2 ST.2)
    have DN := Lib.hid (HM2.out.done (ret := .bool true) ST)
    clear ST hr6 hs6 hb6 RP4 S4
    refine hK.out _ _ S6 (fun _ => ?_)
    clear hK K
    refine wpAnyH_take (i := 12) (v := ?_) rfl (by kernel_rfl) (by kernel_rfl) (by kernel_rfl) (fun _ _ _ h => h) (Or.inl ⟨by first | kernel_rfl | rfl, ?_⟩) (by assumption) ?_
    case refine_2 => intro w hSw; go_simp; try with_reducible rfl
    refine wpAnyH_take (i := 13) (v := ?_) rfl (by kernel_rfl) (by kernel_rfl) (by kernel_rfl) (fun _ _ _ h => h) (Or.inl ⟨by first | kernel_rfl | rfl, ?_⟩) (by assumption) ?_
    case refine_2 => intro w hSw; go_simp; try with_reducible rfl
    refine wpAnyH_done (by kernel_rfl) ?_ _
    go_wp2
    go_ret
    exact DN.out
set_option maxRecDepth 100000 in
set_option maxHeartbeats 16000000 in
theorem does12_put1 {B Br : Nat} {x : Value} {P : Dk → (Nat → Prop) → World → Prop} (PU : BPutOk)
    (D : DiskOk B x P) {s : Dk} {Bs : Nat → Prop} {g : Nat} {vs vw : Value} {w : World} (h : Pair B Br g P s Bs vs vw w) (hlo : s.ops ≤ 4294900000) (kd : Int) (hm : kd.tmod 6 = 1) (lr lt : List (Int × Int)) (vr vt : Value)
    (hvr : LiveAt lr vr (PBs Bs g vs vw) w) (hvt : LiveAt lt vt (PBs Bs g vs vw) w) (size : Int) (hs : I64 size) (c : UInt8) (fz : Int) (hf : I64 fz) :
    Does12 B Br g x P s Bs vs vw w (actB kd vr vt size (c.toNat : Int) fz) (bPut (fzS s fz) (lr.take 20) (List.replicate (fillN size) c)).1 := by
  have gA := heap_alloc_last w (.cells (actB kd vr vt size (c.toNat : Int) fz) 41)
  have K0 := box_below w (.cells (actB kd vr vt size (c.toNat : Int) fz) 41)
  have hW := Pair.kept D h K0
  obtain ⟨pr, nr, cr, hnr, hfa, hfb, hff⟩ := few12_slice lr vr w hvr.at_
  obtain ⟨pt, nt, ct, hnt, hga, hgb, hgf⟩ := few12_slice lt vt w hvt.at_
  have HFR : Hid (RunsAt lr vr w) := Lib.hid hvr.at_
  obtain ⟨qr, dr, hqr, -, -⟩ := hvr.at_.out
  obtain ⟨qt, dt, hqt, -, -⟩ := hvt.at_.out
  have HVR : Hid (LiveAt lr vr (PBs Bs g vs vw) w) := Lib.hid hvr
  have HVT : Hid (LiveAt lt vt (PBs Bs g vs vw) w) := Lib.hid hvt
  have HFF := Lib.hid hff
  have HGF := Lib.hid hgf
  have HFL : Hid (LiveAt (lr.take 20) (.slice pr nr cr) (PBs Bs g vs vw) w) := Lib.hid ⟨hfa, hfb _ hvr.apart⟩
  have HGL : Hid (LiveAt (lt.take 20) (.slice pt nt ct) (PBs Bs g vs vw) w) := Lib.hid ⟨hga, hgb _ hvt.apart⟩
  have l20 : Hid ((lr.take 20).length ≤ 65536 ∧ (lt.take 20).length ≤ 65536) := Lib.hid ⟨by rw [List.length_take]; omega, by rw [List.length_take]; omega⟩
  obtain ⟨lr20, hlr⟩ : ∃ l, l = lr.take 20 := ⟨_, rfl⟩
  obtain ⟨lt20, hlt⟩ : ∃ l, l = lt.take 20 := ⟨_, rfl⟩
  rw [← hlr] at HFL l20
  try rw [← hlr]
  rw [← hlt] at HGL l20
  try rw [← hlt]
  have hA0 : (actB kd vr vt size (c.toNat : Int) fz)[0]? = some (.int .u8 kd) := rfl
  have a1 : (actB kd vr vt size (c.toNat : Int) fz)[1]? = some vr := rfl
  have a2 : (actB kd vr vt size (c.toNat : Int) fz)[2]? = some vt := rfl
  have a3 : (actB kd vr vt size (c.toNat : Int) fz)[3]? = some (.int .i64 size) := rfl
  have a4 : (actB kd vr vt size (c.toNat : Int) fz)[4]? = some (.int .u8 (c.toNat : Int)) := rfl
  have a5 : (actB kd vr vt size (c.toNat : Int) fz)[5]? = some (.int .i64 fz) := rfl
  obtain ⟨A, hA⟩ : ∃ A, A = actB kd vr vt size (c.toNat : Int) fz := ⟨_, rfl⟩
  rw [← hA] at gA K0 hW hA0 a1 a2 a3 a4 a5 ⊢
  rw [hqr] at a1 HFF HVR
  rw [hqt] at a2 HGF HVT
  have HCS := Lib.hid (fun (w' : World) (h : w'.heap[w.heap.size]? = some (.cells A 41 (0, 0))) =>
    (show w'.cell? ⟨w.heap.size, 0, none⟩ = some (.int .u8 kd) ∧ w'.cell? ⟨w.heap.size, 1, none⟩ = some (.slice qr lr.length dr) ∧ w'.cell? ⟨w.heap.size, 2, none⟩ = some (.slice qt lt.length dt) ∧ w'.cell? ⟨w.heap.size, 3, none⟩ = some (.int .i64 size) ∧ w'.cell? ⟨w.heap.size, 4, none⟩ = some (.int .u8 (c.toNat : Int)) ∧ w'.cell? ⟨w.heap.size, 5, none⟩ = some (.int .i64 fz) from
    ⟨by rw [cell_of_row _ _ _ _ _ _ h]; exact hA0, by rw [cell_of_row _ _ _ _ _ _ h]; exact a1, by rw [cell_of_row _ _ _ _ _ _ h]; exact a2, by rw [cell_of_row _ _ _ _ _ _ h]; exact a3, by rw [cell_of_row _ _ _ _ _ _ h]; exact a4, by rw [cell_of_row _ _ _ _ _ _ h]; exact a5⟩))
  have old : ∀ k, PBs Bs g vs vw k → k < w.heap.size := fun k hk => hk.elim (fun y => (h.lt k y).2) (fun y => (h.r.lt k y).2)
  have M0 : Mid12 B Br g P s Bs vs vw w A Bs (w.alloc (.cells A 41)) := ⟨hW, gA, fun k hk => Or.inl hk, ButBy.below K0, old⟩
  have HM0 := Lib.hid M0
  have HD := Lib.hid D
  have HS := Lib.hid hs
  have HF := Lib.hid hf
  have HLO := Lib.hid hlo
  obtain ⟨nR, hnR⟩ : ∃ nR, nR = lr.length := ⟨_, rfl⟩
  obtain ⟨nT, hnT⟩ : ∃ nT, nT = lt.length := ⟨_, rfl⟩
  rw [← hnR] at HCS HFF HVR
  rw [← hnT] at HCS HGF HVT
  obtain ⟨W, hWe⟩ : ∃ W, W = w.alloc (.cells A 41) := ⟨_, rfl⟩
  rw [← hWe] at HM0
  have HWE := Lib.hid hWe
  obtain ⟨c0, c1, c2, c3, c4, c5⟩ := HCS.out W HM0.out.row
  have FI := fun W => fill12_any size c W
  obtain ⟨T, hT⟩ : ∃ T, T = str (List.replicate (fillN size) c) := ⟨_, rfl⟩
  rw [← hT] at FI
  have HT := Lib.hid hT
  have HTZ : Hid (T.size ≤ maxLen) := Lib.hid (by rw [hT, str_size, List.length_replicate]; unfold fillN maxLen; omega)
  have HTL : Hid (T.data.toList = List.replicate (fillN size) c) := Lib.hid (by rw [hT, str_list])
  rw [← HTL.out]
  obtain ⟨E, hE⟩ : ∃ E, E = (bPut (fzS s fz) lr20 T.data.toList).2 := ⟨_, rfl⟩
  have HE := Lib.hid hE
  have be : (E == E) = true := by simp
  have HPU := Lib.hid PU
  rw [hWe] at c0 c1 c2 c3 c4 c5
  clear hWe gA K0 hW hA0 a1 a2 a3 a4 a5 hA old M0 D hs hf hlo h hvr hvt hfa hfb hff hga hgb hgf hnr hnt hqr hqt hlr hlt hnR hnT HFR hT PU hE
  by_cases hz : 0 ≤ fz
  · have eS : fzS s fz = { s with fuse := fz } := if_pos hz
    have HES := Lib.hid eS
    clear eS
    unfold Does12
    go_enter Try.func16, Try.ntmps16
    go_wp2_with fail
    rw [← HWE.out]
    have DF := HD.out.fuse s Bs W fz HM0.out.p.d (i64_wf HF.out)
    refine DF.mono ?_
    rintro e w1 ⟨rfl, ⟨Bs1, hd1, hs1⟩, hb1⟩
    have hM1 : ∃ V, Mid12 B Br g P (fzS s fz) Bs vs vw w A Bs1 V ∧ V = w1.setCell ⟨g, 2, none⟩ (.int .i64 fz) := mid12_fuse HM0.out HD.out HES.out HF.out hd1 hs1 hb1
    have d2 : w1.cell? ⟨g, 2, none⟩ = some (.int .i64 s.fuse) := (HM0.out.p.r_stay hb1).cell 2 _ rfl
    have f2 := (HM0.out.p.r_stay hb1).froz 2
    have c5 : w1.cell? ⟨w.heap.size, 5, none⟩ = some (.int .i64 fz) := (HCS.out w1 (mid12_row HM0.out hb1)).2.2.2.2.2
    obtain ⟨V, hV, hVe⟩ := hM1
    have HV := Lib.hid hV
    have HVE := Lib.hid hVe
    obtain ⟨C0, C1, C2, C3, C4, C5⟩ := HCS.out V hV.row
    rw [hVe] at C0 C1 C2 C3 C4 C5
    clear hd1 hs1 hb1 DF hV hVe
    go_wp2_with fail
    rw [← HVE.out]
    refine (FI V).mono ?_
    rintro e w2 ⟨rfl, hb2⟩
    have M2 := HV.out.later HD.out hb2
    have HM2 : Hid (Mid12 B Br g P (fzS s fz) Bs vs vw w A Bs1 w2.drew) := Lib.hid (M2.later HD.out (Below.drew (Below.refl w2.heap.size w2)))
    have hhl := M2.row
    clear hb2 M2 FI
    go_wp2_with fail
    obtain ⟨w3, hw3⟩ : ∃ w3, w3 = w2.drew := ⟨_, rfl⟩
    have S0 := HCS.out w2.drew HM2.out.row
    refine wp_region_held_drew (S := fun w' => w'.cell? ⟨w.heap.size, 0, none⟩ = some (.int .u8 kd) ∧ w'.cell? ⟨w.heap.size, 1, none⟩ = some (.slice qr nR dr) ∧ w'.cell? ⟨w.heap.size, 2, none⟩ = some (.slice qt nT dt) ∧ w'.cell? ⟨w.heap.size, 3, none⟩ = some (.int .i64 size) ∧ w'.cell? ⟨w.heap.size, 4, none⟩ = some (.int .u8 (c.toNat : Int)) ∧ w'.cell? ⟨w.heap.size, 5, none⟩ = some (.int .i64 fz)) (by kernel_rfl) S0 (fun hHeld => ?_)
    refine wpAnyH_take (i := 0) (v := ?_) rfl (by kernel_rfl) (by kernel_rfl) (by kernel_rfl) (fun _ _ _ h => h) (Or.inl ⟨by first | kernel_rfl | rfl, ?_⟩) (by assumption) ?_
    case refine_2 => intro w hSw; go_simp; try with_reducible rfl
    refine wpAnyH_take (i := 1) (v := ?_) rfl (by kernel_rfl) (by kernel_rfl) (by kernel_rfl) (fun _ _ _ h => h) (Or.inl ⟨by first | kernel_rfl | rfl, ?_⟩) (by assumption) ?_
    case refine_2 => intro w hSw; go_simp; try with_reducible rfl
    refine wpAnyH_take (i := 2) (v := ?_) rfl (by kernel_rfl) (by kernel_rfl) (by kernel_rfl) (fun _ _ _ h => h) (Or.inl ⟨by first | kernel_rfl | rfl, ?_⟩) (by assumption) ?_
    case refine_2 => intro w hSw; go_simp; try with_reducible rfl
    refine wpAnyH_take (i := 4) (v := ?_) rfl (by kernel_rfl) (by kernel_rfl) (by kernel_rfl) (fun _ _ _ h => h) (Or.inl ⟨by first | kernel_rfl | rfl, ?_⟩) (by assumption) ?_
    case refine_2 => intro w hSw; go_simp; try with_reducible rfl
    refine wpAnyH_take (i := 6) (v := ?_) rfl (by kernel_rfl) (by kernel_rfl) (by kernel_rfl) (fun _ _ _ h => h) (Or.inl ⟨by first | kernel_rfl | rfl, ?_⟩) (by assumption) ?_
    case refine_2 => intro w hSw; go_simp; try with_reducible rfl
    refine wpAnyH_take (i := 7) (v := ?_) rfl (by kernel_rfl) (by kernel_rfl) (by kernel_rfl) (fun _ _ _ h => h) (Or.inl ⟨by first | kernel_rfl | rfl, ?_⟩) (by assumption) ?_
    case refine_2 => intro w hSw; go_simp; try with_reducible rfl
    refine wpAnyH_take (i := 8) (v := ?_) rfl (by kernel_rfl) (by kernel_rfl) (by kernel_rfl) (fun _ _ _ h => h) (Or.inl ⟨by first | kernel_rfl | rfl, ?_⟩) (by assumption) ?_
    case refine_2 => intro w hSw; go_simp; try with_reducible rfl
    refine wpAnyH_take (i := 10) (v := ?_) rfl (by kernel_rfl) (by kernel_rfl) (by kernel_rfl) (fun _ _ _ h => h) (Or.inl ⟨by first | kernel_rfl | rfl, ?_⟩) (by assumption) ?_
    case refine_2 => intro w hSw; go_simp; try with_reducible rfl
    refine wpAnyH_ready (rs := [3]) (by kernel_rfl) (by simp) (AllReadyH.cons rfl (fun K hK => ?_) AllReadyH.nil)
    go_simp
    refine (HFF.out _ (HM2.out.live HVR.out).at_).mono ?_
    rintro e w3 ⟨rfl, rfl⟩
    refine hK.out _ _ S0 (fun _ => ?_)
    clear hK K
    refine wpAnyH_ready (rs := [5]) (by kernel_rfl) (by simp) (AllReadyH.cons rfl (fun K hK => ?_) AllReadyH.nil)
    go_simp
    have PU1 := HPU.out _ _ _ HD.out (fzS s fz) Bs1 _ lr20 _ T HM2.out.p.d HM2.out.p.ok (by rw [fzS_ops]; exact HLO.out) (HM2.out.live HFL.out).left l20.out.1 HTZ.out
    rw [← HE.out] at PU1
    refine PU1.mono ?_
    rintro e w4 ⟨rfl, ⟨Bs2, hd2, hs2⟩, hb2⟩
    have hr4 := HM2.out.p.r_stay hb2
    have hb4 : ButBy (PBs Bs1 g vs vw) w2.drew w4 := hb2.mono fun _ h => Or.inl h
    have S4 := HCS.out w4 (HM2.out.row2 hb4)
    have HL4 := HM2.out.live HVR.out
    have CF4 := HFF.out w4 (HL4.at_.but HL4.apart hb4)
    have HG4 := HM2.out.live HFL.out
    have RP4 := rput12_any hr4 HM2.out.p.ok (by rw [fzS_ops]; exact HLO.out) (Nat.le_trans HM2.out.p.base hb2.size) lr20 _ (HG4.at_.but HG4.apart hb4) l20.out.1 T HTZ.out
    rw [← HE.out] at RP4
    have HD2 := Lib.hid hd2
    have HS2 := Lib.hid hs2
    have HB2 := Lib.hid hb2
    clear PU1 hd2 hs2 hb2 hr4 hb4 HL4 HG4 S0
    refine hK.out _ _ S4 (fun _ => ?_)
    clear hK K
    refine wpAnyH_ready (rs := [9]) (by kernel_rfl) (by simp) (AllReadyH.cons rfl (fun K hK => ?_) AllReadyH.nil)
    go_simp
    refine CF4.mono ?_
    rintro e w5 ⟨rfl, rfl⟩
    refine hK.out _ _ S4 (fun _ => ?_)
    clear hK K CF4
    refine wpAnyH_ready (rs := [11]) (by kernel_rfl) (by simp) (AllReadyH.cons rfl (fun K hK => ?_) AllReadyH.nil)
    go_simp
    refine RP4.mono ?_
    rintro e w6 ⟨rfl, vs2, vw2, hr6, hs6, hb6⟩
    have ST := HM2.out.p.step HD.out HD2.out HS2.out HB2.out hr6 hs6 hb6 (bPut_ok HM2.out.p.ok lr20 T.data.toList)
    have S6 := HCS.out w6 (HM2.out.row2 ST.2)
    have DN := Lib.hid (HM2.out.done (ret := .bool true) ST)
    clear ST hr6 hs6 hb6 RP4 S4
    refine hK.out _ _ S6 (fun _ => ?_)
    clear hK K
    refine wpAnyH_take (i := 12) (v := ?_) rfl (by kernel_rfl) (by kernel_rfl) (by kernel_rfl) (fun _ _ _ h => h) (Or.inl ⟨by first | kernel_rfl | rfl, ?_⟩) (by assumption) ?_
    case refine_2 => intro w hSw; go_simp; try with_reducible rfl
    refine wpAnyH_take (i := 13) (v := ?_) rfl (by kernel_rfl) (by kernel_rfl) (by kernel_rfl) (fun _ _ _ h => h) (Or.inl ⟨by first | kernel_rfl | rfl, ?_⟩) (by assumption) ?_
    case refine_2 => intro w hSw; go_simp; try with_reducible rfl
    refine wpAnyH_done (by kernel_rfl) ?_ _
    go_wp2
    go_ret
    exact DN.out
  · have eS : fzS s fz = s := if_neg hz
    have HES := Lib.hid eS
    clear eS
    unfold Does12
    go_enter Try.func16, Try.ntmps16
    go_wp2_with fail
    rw [← HWE.out]
    obtain ⟨Bs1, hB1⟩ : ∃ Bs1, Bs1 = Bs := ⟨_, rfl⟩
    obtain ⟨V, hVe⟩ : ∃ V, V = W := ⟨_, rfl⟩
    rw [← hVe] at HM0 ⊢
    have HV : Hid (Mid12 B Br g P (fzS s fz) Bs vs vw w A Bs1 V) := Lib.hid (by rw [HES.out, hB1]; exact HM0.out)
    clear hVe hB1
    refine (FI V).mono ?_
    rintro e w2 ⟨rfl, hb2⟩
    have M2 := HV.out.later HD.out hb2
    have HM2 : Hid (Mid12 B Br g P (fzS s fz) Bs vs vw w A Bs1 w2.drew) := Lib.hid (M2.later HD.out (Below.drew (Below.refl w2.heap.size w2)))
    have hhl := M2.row
    clear hb2 M2 FI
    go_wp2_with fail
    obtain ⟨w3, hw3⟩ : ∃ w3, w3 = w2.drew := ⟨_, rfl⟩
    have S0 := HCS.out w2.drew HM2.out.row
    refine wp_region_held_drew (S := fun w' => w'.cell? ⟨w.heap.size, 0, none⟩ = some (.int .u8 kd) ∧ w'.cell? ⟨w.heap.size, 1, none⟩ = some (.slice qr nR dr) ∧ w'.cell? ⟨w.heap.size, 2, none⟩ = some (.slice qt nT dt) ∧ w'.cell? ⟨w.heap.size, 3, none⟩ = some (.int .i64 size) ∧ w'.cell? ⟨w.heap.size, 4, none⟩ = some (.int .u8 (c.toNat : Int)) ∧ w'.cell? ⟨w.heap.size, 5, none⟩ = some (.int .i64 fz)) (by kernel_rfl) S0 (fun hHeld => ?_)
    refine wpAnyH_take (i := 0) (v := ?_) rfl (by kernel_rfl) (by kernel_rfl) (by kernel_rfl) (fun _ _ _ h => h) (Or.inl ⟨by first | kernel_rfl | rfl, ?_⟩) (by assumption) ?_
    case refine_2 => intro w hSw; go_simp; try with_reducible rfl
    refine wpAnyH_take (i := 1) (v := ?_) rfl (by kernel_rfl) (by kernel_rfl) (by kernel_rfl) (fun _ _ _ h => h) (Or.inl ⟨by first | kernel_rfl | rfl, ?_⟩) (by assumption) ?_
    case refine_2 => intro w hSw; go_simp; try with_reducible rfl
    refine wpAnyH_take (i := 2) (v := ?_) rfl (by kernel_rfl) (by kernel_rfl) (by kernel_rfl) (fun _ _ _ h => h) (Or.inl ⟨by first | kernel_rfl | rfl, ?_⟩) (by assumption) ?_
    case refine_2 => intro w hSw; go_simp; try with_reducible rfl
    refine wpAnyH_take (i := 4) (v := ?_) rfl (by kernel_rfl) (by kernel_rfl) (by kernel_rfl) (fun _ _ _ h => h) (Or.inl ⟨by first | kernel_rfl | rfl, ?_⟩) (by assumption) ?_
    case refine_2 => intro w hSw; go_simp; try with_reducible rfl
    refine wpAnyH_take (i := 6) (v := ?_) rfl (by kernel_rfl) (by kernel_rfl) (by kernel_rfl) (fun _ _ _ h => h) (Or.inl ⟨by first | kernel_rfl | rfl, ?_⟩) (by assumption) ?_
    case refine_2 => intro w hSw; go_simp; try with_reducible rfl
    refine wpAnyH_take (i := 7) (v := ?_) rfl (by kernel_rfl) (by kernel_rfl) (by kernel_rfl) (fun _ _ _ h => h) (Or.inl ⟨by first | kernel_rfl | rfl, ?_⟩) (by assumption) ?_
    case refine_2 => intro w hSw; go_simp; try with_reducible rfl
    refine wpAnyH_take (i := 8) (v := ?_) rfl (by kernel_rfl) (by kernel_rfl) (by kernel_rfl) (fun _ _ _ h => h) (Or.inl ⟨by first | kernel_rfl | rfl, ?_⟩) (by assumption) ?_
    case refine_2 => intro w hSw; go_simp; try with_reducible rfl
    refine wpAnyH_take (i := 10) (v := ?_) rfl (by kernel_rfl) (by kernel_rfl) (by kernel_rfl) (fun _ _ _ h => h) (Or.inl ⟨by first | kernel_rfl | rfl, ?_⟩) (by assumption) ?_
    case refine_2 => intro w hSw; go_simp; try with_reducible rfl
    refine wpAnyH_ready (rs := [3]) (by kernel_rfl) (by simp) (AllReadyH.cons rfl (fun K hK => ?_) AllReadyH.nil)
    go_simp
    refine (HFF.out _ (HM2.out.live HVR.out).at_).mono ?_
    rintro e w3 ⟨rfl, rfl⟩
    refine hK.out _ _ S0 (fun _ => ?_)
    clear hK K
    refine wpAnyH_ready (rs := [5]) (by kernel_rfl) (by simp) (AllReadyH.cons rfl (fun K hK => ?_) AllReadyH.nil)
    go_simp
    have PU1 := HPU.out _ _ _ HD.out (fzS s fz) Bs1 _ lr20 _ T HM2.out.p.d HM2.out.p.ok (by rw [fzS_ops]; exact HLO.out) (HM2.out.live HFL.out).left l20.out.1 HTZ.out
    rw [← HE.out] at PU1
    refine PU1.mono ?_
    rintro e w4 ⟨rfl, ⟨Bs2, hd2, hs2⟩, hb2⟩
    have hr4 := HM2.out.p.r_stay hb2
    have hb4 : ButBy (PBs Bs1 g vs vw) w2.drew w4 := hb2.mono fun _ h => Or.inl h
    have S4 := HCS.out w4 (HM2.out.row2 hb4)
    have HL4 := HM2.out.live HVR.out
    have CF4 := HFF.out w4 (HL4.at_.but HL4.apart hb4)
    have HG4 := HM2.out.live HFL.out
    have RP4 := rput12_any hr4 HM2.out.p.ok (by rw [fzS_ops]; exact HLO.out) (Nat.le_trans HM2.out.p.base hb2.size) lr20 _ (HG4.at_.but HG4.apart hb4) l20.out.1 T HTZ.out
    rw [← HE.out] at RP4
    have HD2 := Lib.hid hd2
    have HS2 := Lib.hid hs2
    have HB2 := Lib.hid hb2
    clear PU1 hd2 hs2 hb2 hr4 hb4 HL4 HG4 S0
    refine hK.out _ _ S4 (fun _ => ?_)
    clear hK K
    refine wpAnyH_ready (rs := [9]) (by kernel_rfl) (by simp) (AllReadyH.cons rfl (fun K hK => ?_) AllReadyH.nil)
    go_simp
    refine CF4.mono ?_
    rintro e w5 ⟨rfl, rfl⟩
    refine hK.out _ _ S4 (fun _ => ?_)
    clear hK K CF4
    refine wpAnyH_ready (rs := [11]) (by kernel_rfl) (by simp) (AllReadyH.cons rfl (fun K hK => ?_) AllReadyH.nil)
    go_simp
    refine RP4.mono ?_
    rintro e w6 ⟨rfl, vs2, vw2, hr6, hs6, hb6⟩
    have ST := HM2.out.p.step HD.out HD2.out HS2.out HB2.out hr6 hs6 hb6 (bPut_ok HM2.out.p.ok lr20 T.data.toList)
    have S6 := HCS.out w6 (HM2.out.row2 ST.2)
    have DN := Lib.hid (HM2.out.done (ret := .bool true) ST)
    clear ST hr6 hs6 hb6 RP4 S4
    refine hK.out _ _ S6 (fun _ => ?_)
    clear hK K
    refine wpAnyH_take (i := 12) (v := ?_) rfl (by kernel_rfl) (by kernel_rfl) (by kernel_rfl) (fun _ _ _ h => h) (Or.inl ⟨by first | kernel_rfl | rfl, ?_⟩) (by assumption) ?_
    case refine_2 => intro w hSw; go_simp; try with_reducible rfl
    refine wpAnyH_take (i := 13) (v := ?_) rfl (by kernel_rfl) (by kernel_rfl) (by kernel_rfl) (fun _ _ _ h => h) (Or.inl ⟨by first | kernel_rfl | rfl, ?_⟩) (by assumption) ?_
    case refine_2 => intro w hSw; go_simp; try with_reducible rfl
    refine wpAnyH_done (by kernel_rfl) ?_ _
    go_wp2
    go_ret
    exact DN.out

end Go.Proofs.Ytppbknlhknadbaa
