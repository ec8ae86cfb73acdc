/- An act that flushes, or turns the power off and on: the statements' does. An act of any kind; the rest of a region that is quiet behind its one writing call; acts as they lie. -/
import Derived.Test.YtppbknlhknadbaaGG
import Derived.Test.YtppbknlhknadbaaBlE
import Derived.Test.YtppbknlhknadbaaBlF
namespace Go.Proofs.Ytppbknlhknadbaa
open Go.RowKit Go.ChangeShapes

set_option maxRecDepth 100000 in
set_option maxHeartbeats 16000000 in
theorem does12_flush {B Br : Nat} {x : Value} {P : Dk → (Nat → Prop) → World → Prop} 
    (D : DiskOk B x P) {s : Dk} {Bs : Nat → Prop} {g : Nat} {vs vw : Value} {w : World} (h : Pair B Br g P s Bs vs vw w) (hlo : s.ops ≤ 4294900000) (kd : Int) (hm : kd.tmod 6 = 4) (lr lt : List (Int × Int)) (vr vt : Value)
    (hvr : LiveAt lr vr (PBs Bs g vs vw) w) (hvt : LiveAt lt vt (PBs Bs g vs vw) w) (size : Int) (hs : I64 size) (c : UInt8) (fz : Int) (hf : I64 fz) :
    Does12 B Br g x P s Bs vs vw w (actB kd vr vt size (c.toNat : Int) fz) (fzS s fz).flushS := by
  have gA := heap_alloc_last w (.cells (actB kd vr vt size (c.toNat : Int) fz) 41)
  have K0 := box_below w (.cells (actB kd vr vt size (c.toNat : Int) fz) 41)
  have hW := Pair.kept D h K0
  obtain ⟨pr, nr, cr, hnr, hfa, hfb, hff⟩ := few12_slice lr vr w hvr.at_
  obtain ⟨pt, nt, ct, hnt, hga, hgb, hgf⟩ := few12_slice lt vt w hvt.at_
  have HFR : Hid (RunsAt lr vr w) := Lib.hid hvr.at_
  obtain ⟨qr, dr, hqr, -, -⟩ := hvr.at_.out
  obtain ⟨qt, dt, hqt, -, -⟩ := hvt.at_.out
  have HVR : Hid (LiveAt lr vr (PBs Bs g vs vw) w) := Lib.hid hvr
  have HVT : Hid (LiveAt lt vt (PBs Bs g vs vw) w) := Lib.hid hvt
  have HFF := Lib.hid hff
  have HGF := Lib.hid hgf
  have HFL : Hid (LiveAt (lr.take 20) (.slice pr nr cr) (PBs Bs g vs vw) w) := Lib.hid ⟨hfa, hfb _ hvr.apart⟩
  have HGL : Hid (LiveAt (lt.take 20) (.slice pt nt ct) (PBs Bs g vs vw) w) := Lib.hid ⟨hga, hgb _ hvt.apart⟩
  have l20 : Hid ((lr.take 20).length ≤ 65536 ∧ (lt.take 20).length ≤ 65536) := Lib.hid ⟨by rw [List.length_take]; omega, by rw [List.length_take]; omega⟩
  obtain ⟨lr20, hlr⟩ : ∃ l, l = lr.take 20 := ⟨_, rfl⟩
  obtain ⟨lt20, hlt⟩ : ∃ l, l = lt.take 20 := ⟨_, rfl⟩
  rw [← hlr] at HFL l20
  try rw [← hlr]
  rw [← hlt] at HGL l20
  try rw [← hlt]
  have hA0 : (actB kd vr vt size (c.toNat : Int) fz)[0]? = some (.int .u8 kd) := rfl
  have a1 : (actB kd vr vt size (c.toNat : Int) fz)[1]? = some vr := rfl
  have a2 : (actB kd vr vt size (c.toNat : Int) fz)[2]? = some vt := rfl
  have a3 : (actB kd vr vt size (c.toNat : Int) fz)[3]? = some (.int .i64 size) := rfl
  have a4 : (actB kd vr vt size (c.toNat : Int) fz)[4]? = some (.int .u8 (c.toNat : Int)) := rfl
  have a5 : (actB kd vr vt size (c.toNat : Int) fz)[5]? = some (.int .i64 fz) := rfl
  obtain ⟨A, hA⟩ : ∃ A, A = actB kd vr vt size (c.toNat : Int) fz := ⟨_, rfl⟩
  rw [← hA] at gA K0 hW hA0 a1 a2 a3 a4 a5 ⊢
  rw [hqr] at a1 HFF HVR
  rw [hqt] at a2 HGF HVT
  have HCS := Lib.hid (fun (w' : World) (h : w'.heap[w.heap.size]? = some (.cells A 41 (0, 0))) =>
    (show w'.cell? ⟨w.heap.size, 0, none⟩ = some (.int .u8 kd) ∧ w'.cell? ⟨w.heap.size, 1, none⟩ = some (.slice qr lr.length dr) ∧ w'.cell? ⟨w.heap.size, 2, none⟩ = some (.slice qt lt.length dt) ∧ w'.cell? ⟨w.heap.size, 3, none⟩ = some (.int .i64 size) ∧ w'.cell? ⟨w.heap.size, 4, none⟩ = some (.int .u8 (c.toNat : Int)) ∧ w'.cell? ⟨w.heap.size, 5, none⟩ = some (.int .i64 fz) from
    ⟨by rw [cell_of_row _ _ _ _ _ _ h]; exact hA0, by rw [cell_of_row _ _ _ _ _ _ h]; exact a1, by rw [cell_of_row _ _ _ _ _ _ h]; exact a2, by rw [cell_of_row _ _ _ _ _ _ h]; exact a3, by rw [cell_of_row _ _ _ _ _ _ h]; exact a4, by rw [cell_of_row _ _ _ _ _ _ h]; exact a5⟩))
  have old : ∀ k, PBs Bs g vs vw k → k < w.heap.size := fun k hk => hk.elim (fun y => (h.lt k y).2) (fun y => (h.r.lt k y).2)
  have M0 : Mid12 B Br g P s Bs vs vw w A Bs (w.alloc (.cells A 41)) := ⟨hW, gA, fun k hk => Or.inl hk, ButBy.below K0, old⟩
  have HM0 := Lib.hid M0
  have HD := Lib.hid D
  have HS := Lib.hid hs
  have HF := Lib.hid hf
  have HLO := Lib.hid hlo
  obtain ⟨nR, hnR⟩ : ∃ nR, nR = lr.length := ⟨_, rfl⟩
  obtain ⟨nT, hnT⟩ : ∃ nT, nT = lt.length := ⟨_, rfl⟩
  rw [← hnR] at HCS HFF HVR
  rw [← hnT] at HCS HGF HVT
  obtain ⟨W, hWe⟩ : ∃ W, W = w.alloc (.cells A 41) := ⟨_, rfl⟩
  rw [← hWe] at HM0
  have HWE := Lib.hid hWe
  obtain ⟨c0, c1, c2, c3, c4, c5⟩ := HCS.out W HM0.out.row
  obtain ⟨E, hE⟩ : ∃ E, E = (fzS s fz).flushE := ⟨_, rfl⟩
  have HE := Lib.hid hE
  have be : (E == E) = true := by simp
  rw [hWe] at c0 c1 c2 c3 c4 c5
  clear hWe gA K0 hW hA0 a1 a2 a3 a4 a5 hA old M0 D hs hf hlo h hvr hvt hfa hfb hff hga hgb hgf hnr hnt hqr hqt hlr hlt hnR hnT HFR hE
  by_cases hz : 0 ≤ fz
  · have eS : fzS s fz = { s with fuse := fz } := if_pos hz
    have HES := Lib.hid eS
    clear eS
    unfold Does12
    go_enter Try.func16, Try.ntmps16
    go_wp2_with fail
    rw [← HWE.out]
    have DF := HD.out.fuse s Bs W fz HM0.out.p.d (i64_wf HF.out)
    refine DF.mono ?_
    rintro e w1 ⟨rfl, ⟨Bs1, hd1, hs1⟩, hb1⟩
    have hM1 : ∃ V, Mid12 B Br g P (fzS s fz) Bs vs vw w A Bs1 V ∧ V = w1.setCell ⟨g, 2, none⟩ (.int .i64 fz) := mid12_fuse HM0.out HD.out HES.out HF.out hd1 hs1 hb1
    have d2 : w1.cell? ⟨g, 2, none⟩ = some (.int .i64 s.fuse) := (HM0.out.p.r_stay hb1).cell 2 _ rfl
    have f2 := (HM0.out.p.r_stay hb1).froz 2
    have c5 : w1.cell? ⟨w.heap.size, 5, none⟩ = some (.int .i64 fz) := (HCS.out w1 (mid12_row HM0.out hb1)).2.2.2.2.2
    obtain ⟨V, hV, hVe⟩ := hM1
    have HV := Lib.hid hV
    have HVE := Lib.hid hVe
    obtain ⟨C0, C1, C2, C3, C4, C5⟩ := HCS.out V hV.row
    rw [hVe] at C0 C1 C2 C3 C4 C5
    clear hd1 hs1 hb1 DF hV hVe
    go_wp2_with fail
    rw [← HVE.out]
    have DF := HD.out.flush (fzS s fz) Bs1 V HV.out.p.d HV.out.p.ok (by rw [fzS_ops]; exact Nat.le_trans HLO.out (by omega))
    rw [← HE.out] at DF
    refine DF.mono ?_
    rintro e w4 ⟨rfl, ⟨Bs2, hd2, hs2⟩, hb2⟩
    have hr4 := HV.out.p.r_stay hb2
    have RF := rflush_any hr4 HV.out.p.ok (by rw [fzS_ops]; exact Nat.le_trans HLO.out (by omega)) (Nat.le_trans HV.out.p.base hb2.size)
    rw [← HE.out] at RF
    have HD2 := Lib.hid hd2
    have HS2 := Lib.hid hs2
    have HB2 := Lib.hid hb2
    clear DF hd2 hs2 hb2 hr4
    go_wp2_with fail
    refine RF.mono ?_
    rintro e w6 ⟨rfl, vs2, vw2, hr6, hs6, hb6⟩
    have ST := HV.out.p.step HD.out HD2.out HS2.out HB2.out hr6 hs6 hb6 HV.out.p.ok.flush
    have DN := Lib.hid (HV.out.done (ret := .bool true) ST)
    clear ST hr6 hs6 hb6 RF
    go_wp2
    go_ret
    exact DN.out
  · have eS : fzS s fz = s := if_neg hz
    have HES := Lib.hid eS
    clear eS
    unfold Does12
    go_enter Try.func16, Try.ntmps16
    go_wp2_with fail
    rw [← HWE.out]
    obtain ⟨Bs1, hB1⟩ : ∃ Bs1, Bs1 = Bs := ⟨_, rfl⟩
    obtain ⟨V, hVe⟩ : ∃ V, V = W := ⟨_, rfl⟩
    rw [← hVe] at HM0 ⊢
    have HV : Hid (Mid12 B Br g P (fzS s fz) Bs vs vw w A Bs1 V) := Lib.hid (by rw [HES.out, hB1]; exact HM0.out)
    clear hVe hB1
    have DF := HD.out.flush (fzS s fz) Bs1 V HV.out.p.d HV.out.p.ok (by rw [fzS_ops]; exact Nat.le_trans HLO.out (by omega))
    rw [← HE.out] at DF
    refine DF.mono ?_
    rintro e w4 ⟨rfl, ⟨Bs2, hd2, hs2⟩, hb2⟩
    have hr4 := HV.out.p.r_stay hb2
    have RF := rflush_any hr4 HV.out.p.ok (by rw [fzS_ops]; exact Nat.le_trans HLO.out (by omega)) (Nat.le_trans HV.out.p.base hb2.size)
    rw [← HE.out] at RF
    have HD2 := Lib.hid hd2
    have HS2 := Lib.hid hs2
    have HB2 := Lib.hid hb2
    clear DF hd2 hs2 hb2 hr4
    go_wp2_with fail
    refine RF.mono ?_
    rintro e w6 ⟨rfl, vs2, vw2, hr6, hs6, hb6⟩
    have ST := HV.out.p.step HD.out HD2.out HS2.out HB2.out hr6 hs6 hb6 HV.out.p.ok.flush
    have DN := Lib.hid (HV.out.done (ret := .bool true) ST)
    clear ST hr6 hs6 hb6 RF
    go_wp2
    go_ret
    exact DN.out
set_option maxRecDepth 100000 in
set_option maxHeartbeats 16000000 in
theorem does12_power {B Br : Nat} {x : Value} {P : Dk → (Nat → Prop) → World → Prop} 
    (D : DiskOk B x P) {s : Dk} {Bs : Nat → Prop} {g : Nat} {vs vw : Value} {w : World} (h : Pair B Br g P s Bs vs vw w) (hlo : s.ops ≤ 4294900000) (kd : Int) (hm : kd.tmod 6 = 5) (lr lt : List (Int × Int)) (vr vt : Value)
    (hvr : LiveAt lr vr (PBs Bs g vs vw) w) (hvt : LiveAt lt vt (PBs Bs g vs vw) w) (size : Int) (hs : I64 size) (c : UInt8) (fz : Int) (hf : I64 fz) :
    Does12 B Br g x P s Bs vs vw w (actB kd vr vt size (c.toNat : Int) fz) ((fzS s fz).powerS []) := by
  have gA := heap_alloc_last w (.cells (actB kd vr vt size (c.toNat : Int) fz) 41)
  have K0 := box_below w (.cells (actB kd vr vt size (c.toNat : Int) fz) 41)
  have hW := Pair.kept D h K0
  obtain ⟨pr, nr, cr, hnr, hfa, hfb, hff⟩ := few12_slice lr vr w hvr.at_
  obtain ⟨pt, nt, ct, hnt, hga, hgb, hgf⟩ := few12_slice lt vt w hvt.at_
  have HFR : Hid (RunsAt lr vr w) := Lib.hid hvr.at_
  obtain ⟨qr, dr, hqr, -, -⟩ := hvr.at_.out
  obtain ⟨qt, dt, hqt, -, -⟩ := hvt.at_.out
  have HVR : Hid (LiveAt lr vr (PBs Bs g vs vw) w) := Lib.hid hvr
  have HVT : Hid (LiveAt lt vt (PBs Bs g vs vw) w) := Lib.hid hvt
  have HFF := Lib.hid hff
  have HGF := Lib.hid hgf
  have HFL : Hid (LiveAt (lr.take 20) (.slice pr nr cr) (PBs Bs g vs vw) w) := Lib.hid ⟨hfa, hfb _ hvr.apart⟩
  have HGL : Hid (LiveAt (lt.take 20) (.slice pt nt ct) (PBs Bs g vs vw) w) := Lib.hid ⟨hga, hgb _ hvt.apart⟩
  have l20 : Hid ((lr.take 20).length ≤ 65536 ∧ (lt.take 20).length ≤ 65536) := Lib.hid ⟨by rw [List.length_take]; omega, by rw [List.length_take]; omega⟩
  obtain ⟨lr20, hlr⟩ : ∃ l, l = lr.take 20 := ⟨_, rfl⟩
  obtain ⟨lt20, hlt⟩ : ∃ l, l = lt.take 20 := ⟨_, rfl⟩
  rw [← hlr] at HFL l20
  try rw [← hlr]
  rw [← hlt] at HGL l20
  try rw [← hlt]
  have hA0 : (actB kd vr vt size (c.toNat : Int) fz)[0]? = some (.int .u8 kd) := rfl
  have a1 : (actB kd vr vt size (c.toNat : Int) fz)[1]? = some vr := rfl
  have a2 : (actB kd vr vt size (c.toNat : Int) fz)[2]? = some vt := rfl
  have a3 : (actB kd vr vt size (c.toNat : Int) fz)[3]? = some (.int .i64 size) := rfl
  have a4 : (actB kd vr vt size (c.toNat : Int) fz)[4]? = some (.int .u8 (c.toNat : Int)) := rfl
  have a5 : (actB kd vr vt size (c.toNat : Int) fz)[5]? = some (.int .i64 fz) := rfl
  obtain ⟨A, hA⟩ : ∃ A, A = actB kd vr vt size (c.toNat : Int) fz := ⟨_, rfl⟩
  rw [← hA] at gA K0 hW hA0 a1 a2 a3 a4 a5 ⊢
  rw [hqr] at a1 HFF HVR
  rw [hqt] at a2 HGF HVT
  have HCS := Lib.hid (fun (w' : World) (h : w'.heap[w.heap.size]? = some (.cells A 41 (0, 0))) =>
    (show w'.cell? ⟨w.heap.size, 0, none⟩ = some (.int .u8 kd) ∧ w'.cell? ⟨w.heap.size, 1, none⟩ = some (.slice qr lr.length dr) ∧ w'.cell? ⟨w.heap.size, 2, none⟩ = some (.slice qt lt.length dt) ∧ w'.cell? ⟨w.heap.size, 3, none⟩ = some (.int .i64 size) ∧ w'.cell? ⟨w.heap.size, 4, none⟩ = some (.int .u8 (c.toNat : Int)) ∧ w'.cell? ⟨w.heap.size, 5, none⟩ = some (.int .i64 fz) from
    ⟨by rw [cell_of_row _ _ _ _ _ _ h]; exact hA0, by rw [cell_of_row _ _ _ _ _ _ h]; exact a1, by rw [cell_of_row _ _ _ _ _ _ h]; exact a2, by rw [cell_of_row _ _ _ _ _ _ h]; exact a3, by rw [cell_of_row _ _ _ _ _ _ h]; exact a4, by rw [cell_of_row _ _ _ _ _ _ h]; exact a5⟩))
  have old : ∀ k, PBs Bs g vs vw k → k < w.heap.size := fun k hk => hk.elim (fun y => (h.lt k y).2) (fun y => (h.r.lt k y).2)
  have M0 : Mid12 B Br g P s Bs vs vw w A Bs (w.alloc (.cells A 41)) := ⟨hW, gA, fun k hk => Or.inl hk, ButBy.below K0, old⟩
  have HM0 := Lib.hid M0
  have HD := Lib.hid D
  have HS := Lib.hid hs
  have HF := Lib.hid hf
  have HLO := Lib.hid hlo
  obtain ⟨nR, hnR⟩ : ∃ nR, nR = lr.length := ⟨_, rfl⟩
  obtain ⟨nT, hnT⟩ : ∃ nT, nT = lt.length := ⟨_, rfl⟩
  rw [← hnR] at HCS HFF HVR
  rw [← hnT] at HCS HGF HVT
  obtain ⟨W, hWe⟩ : ∃ W, W = w.alloc (.cells A 41) := ⟨_, rfl⟩
  rw [← hWe] at HM0
  have HWE := Lib.hid hWe
  obtain ⟨c0, c1, c2, c3, c4, c5⟩ := HCS.out W HM0.out.row

  rw [hWe] at c0 c1 c2 c3 c4 c5
  clear hWe gA K0 hW hA0 a1 a2 a3 a4 a5 hA old M0 D hs hf hlo h hvr hvt hfa hfb hff hga hgb hgf hnr hnt hqr hqt hlr hlt hnR hnT HFR 
  by_cases hz : 0 ≤ fz
  · have eS : fzS s fz = { s with fuse := fz } := if_pos hz
    have HES := Lib.hid eS
    clear eS
    unfold Does12
    go_enter Try.func16, Try.ntmps16
    go_wp2_with fail
    rw [← HWE.out]
    have DF := HD.out.fuse s Bs W fz HM0.out.p.d (i64_wf HF.out)
    refine DF.mono ?_
    rintro e w1 ⟨rfl, ⟨Bs1, hd1, hs1⟩, hb1⟩
    have hM1 : ∃ V, Mid12 B Br g P (fzS s fz) Bs vs vw w A Bs1 V ∧ V = w1.setCell ⟨g, 2, none⟩ (.int .i64 fz) := mid12_fuse HM0.out HD.out HES.out HF.out hd1 hs1 hb1
    have d2 : w1.cell? ⟨g, 2, none⟩ = some (.int .i64 s.fuse) := (HM0.out.p.r_stay hb1).cell 2 _ rfl
    have f2 := (HM0.out.p.r_stay hb1).froz 2
    have c5 : w1.cell? ⟨w.heap.size, 5, none⟩ = some (.int .i64 fz) := (HCS.out w1 (mid12_row HM0.out hb1)).2.2.2.2.2
    obtain ⟨V, hV, hVe⟩ := hM1
    have HV := Lib.hid hV
    have HVE := Lib.hid hVe
    obtain ⟨C0, C1, C2, C3, C4, C5⟩ := HCS.out V hV.row
    rw [hVe] at C0 C1 C2 C3 C4 C5
    clear hd1 hs1 hb1 DF hV hVe
    go_wp2_with fail
    rw [← HVE.out]
    have DF := HD.out.power (fzS s fz) Bs1 V [] (.slice none 0 0) HV.out.p.d HV.out.p.ok (by rw [fzS_ops]; exact Nat.le_trans HLO.out (by omega)) (fun w' _ _ => bool_nil w')
    refine DF.mono ?_
    rintro e w4 ⟨rfl, ⟨Bs2, hd2, hs2⟩, hb2⟩
    have hr4 := HV.out.p.r_stay hb2
    have RF := rpower_any hr4 HV.out.p.ok (by rw [fzS_ops]; exact Nat.le_trans HLO.out (by omega)) (Nat.le_trans HV.out.p.base hb2.size) [] (.slice none 0 0) (bool_nil _)
    have HD2 := Lib.hid hd2
    have HS2 := Lib.hid hs2
    have HB2 := Lib.hid hb2
    clear DF hd2 hs2 hb2 hr4
    go_wp2_with fail
    refine RF.mono ?_
    rintro e w6 ⟨rfl, vs2, vw2, hr6, hs6, hb6⟩
    have ST := HV.out.p.step HD.out HD2.out HS2.out HB2.out hr6 hs6 hb6 (HV.out.p.ok.power [])
    have DN := Lib.hid (HV.out.done (ret := .bool true) ST)
    clear ST hr6 hs6 hb6 RF
    go_wp2
    go_ret
    exact DN.out
  · have eS : fzS s fz = s := if_neg hz
    have HES := Lib.hid eS
    clear eS
    unfold Does12
    go_enter Try.func16, Try.ntmps16
    go_wp2_with fail
    rw [← HWE.out]
    obtain ⟨Bs1, hB1⟩ : ∃ Bs1, Bs1 = Bs := ⟨_, rfl⟩
    obtain ⟨V, hVe⟩ : ∃ V, V = W := ⟨_, rfl⟩
    rw [← hVe] at HM0 ⊢
    have HV : Hid (Mid12 B Br g P (fzS s fz) Bs vs vw w A Bs1 V) := Lib.hid (by rw [HES.out, hB1]; exact HM0.out)
    clear hVe hB1
    have DF := HD.out.power (fzS s fz) Bs1 V [] (.slice none 0 0) HV.out.p.d HV.out.p.ok (by rw [fzS_ops]; exact Nat.le_trans HLO.out (by omega)) (fun w' _ _ => bool_nil w')
    refine DF.mono ?_
    rintro e w4 ⟨rfl, ⟨Bs2, hd2, hs2⟩, hb2⟩
    have hr4 := HV.out.p.r_stay hb2
    have RF := rpower_any hr4 HV.out.p.ok (by rw [fzS_ops]; exact Nat.le_trans HLO.out (by omega)) (Nat.le_trans HV.out.p.base hb2.size) [] (.slice none 0 0) (bool_nil _)
    have HD2 := Lib.hid hd2
    have HS2 := Lib.hid hs2
    have HB2 := Lib.hid hb2
    clear DF hd2 hs2 hb2 hr4
    go_wp2_with fail
    refine RF.mono ?_
    rintro e w6 ⟨rfl, vs2, vw2, hr6, hs6, hb6⟩
    have ST := HV.out.p.step HD.out HD2.out HS2.out HB2.out hr6 hs6 hb6 (HV.out.p.ok.power [])
    have DN := Lib.hid (HV.out.done (ret := .bool true) ST)
    clear ST hr6 hs6 hb6 RF
    go_wp2
    go_ret
    exact DN.out

end Go.Proofs.Ytppbknlhknadbaa
namespace Go.Proofs.Ytppbknlhknadbaa
open Go.RowKit Go.ChangeShapes

/-! ### How many writes an act makes -/
theorem allR_len8 {l : List (Int × Int)} {n size : Int} (h : fitB l n size) : (allR l).length ≤ 8192 := by
  have h1 := cntA_le (hasR l)
  obtain ⟨_, h2, _⟩ := fitB_list h
  have h3 := h.2.2.2
  omega
theorem bPut_ops (s : Dk) (l : List (Int × Int)) (t : List UInt8) : (bPut s l t).1.ops ≤ s.ops + 8192 := by
  unfold bPut
  split
  · exact Nat.le_add_right s.ops 8192
  · rename_i hf
    split
    · exact Nat.le_add_right s.ops 8192
    · have h1 := putG_ops (allR l).length 0 s (allR l) t
      have h2 := allR_len8 (Classical.not_not.1 hf)
      omega
theorem bCopy_ops (s : Dk) (a b : List (Int × Int)) (n : Int) : (bCopy s a b n).1.ops ≤ s.ops + 8192 := by
  unfold bCopy
  split
  · exact Nat.le_add_right s.ops 8192
  · split
    · exact Nat.le_add_right s.ops 8192
    · exact bPut_ops _ _ _
theorem flushS_ops (s : Dk) : s.flushS.ops ≤ s.ops + 1 := by
  unfold Dk.flushS
  split
  · omega
  · split
    · show s.cut.ops ≤ _; exact Nat.le_refl (s.ops + 1)
    · show s.cut.ops ≤ _; exact Nat.le_refl (s.ops + 1)

/-- An act of any kind. -/
theorem does12_of {B Br : Nat} {x : Value} {P : Dk → (Nat → Prop) → World → Prop} (PU : BPutOk) (GE : BGetOk) (CO : BCopyOk)
    (D : DiskOk B x P) {s : Dk} {Bs : Nat → Prop} {g : Nat} {vs vw : Value} {w : World} (h : Pair B Br g P s Bs vs vw w) (hlo : s.ops ≤ 4294900000) (kd : Int) (hk : 0 ≤ kd) (lr lt : List (Int × Int)) (vr vt : Value)
    (hvr : LiveAt lr vr (PBs Bs g vs vw) w) (hvt : LiveAt lt vt (PBs Bs g vs vw) w) (size : Int) (hs : I64 size) (c : UInt8) (fz : Int) (hf : I64 fz) :
    ∃ s', Does12 B Br g x P s Bs vs vw w (actB kd vr vt size (c.toNat : Int) fz) s' ∧ s'.ops ≤ s.ops + 8192 := by
  have e := fzS_ops s fz
  have h6 : kd.tmod 6 = 0 ∨ kd.tmod 6 = 1 ∨ kd.tmod 6 = 2 ∨ kd.tmod 6 = 3 ∨ kd.tmod 6 = 4 ∨ kd.tmod 6 = 5 := by
    rw [Int.tmod_eq_emod_of_nonneg hk]
    omega
  rcases h6 with m | m | m | m | m | m
  · refine ⟨_, does12_put0 PU D h hlo kd m lr lt vr vt hvr hvt size hs c fz hf, ?_⟩
    have := bPut_ops (fzS s fz) (lr.take 20) (List.replicate (fillN size) c)
    omega
  · refine ⟨_, does12_put1 PU D h hlo kd m lr lt vr vt hvr hvt size hs c fz hf, ?_⟩
    have := bPut_ops (fzS s fz) (lr.take 20) (List.replicate (fillN size) c)
    omega
  · exact ⟨_, does12_get GE D h hlo kd m lr lt vr vt hvr hvt size hs c fz hf, by omega⟩
  · refine ⟨_, does12_copy CO D h hlo kd m lr lt vr vt hvr hvt size hs c fz hf, ?_⟩
    have := bCopy_ops (fzS s fz) (lr.take 20) (lt.take 20) size
    omega
  · refine ⟨_, does12_flush D h hlo kd m lr lt vr vt hvr hvt size hs c fz hf, ?_⟩
    have := flushS_ops (fzS s fz)
    omega
  · refine ⟨_, does12_power D h hlo kd m lr lt vr vt hvr hvt size hs c fz hf, ?_⟩
    show (fzS s fz).ops ≤ _
    omega

/-! ### Behind a writing call, a quiet rest -/
section
variable {P : Program} {md : Region.Mode} {C S : World → Prop}

theorem wpAnyH_of_quiet {ops : Array Oper} {Q : Act → Prop} {Q' : Exit → Act → World → Prop} (hS : ∀ w, C w → S w) (hQ : ∀ a w, C w → Q a → Q' .normal a w) : ∀ (fuel : Nat) (listed : Array Bool) (a : Act) (w : World), C w →
    wpAnyQ P md ops C Q fuel listed a → wpAnyH P md ops Q' S fuel listed a w
  | 0, _, _, _, hw, h => ⟨h.1, hQ _ _ hw h.2⟩
  | fuel + 1, _, _, _, hw, h => ⟨fun h0 => hQ _ _ hw (h.1 h0), fun i hi => wpOp_of_qOp hw (fun a' w' hw' hk => ⟨hS w' hw', wpAnyH_of_quiet hS hQ fuel _ a' w' hw' hk⟩) (h.2 i hi)⟩

/-- From operation n on all is quiet in a class of the world at hand: one walk of the written order. -/
theorem wpAnyH_rest {l : List Oper} (n : Nat) {listed : Array Bool} {fuel : Nat} {a : Act} {w : World} {Q' : Exit → Act → World → Prop} (hns : Region.noSelect l.toArray = true)
    (hB : Region.lexFrom md l.toArray (l.drop n).length n listed = true) (hf : fuel = (l.drop n).length) (hS : ∀ w, C w → S w) (hC : C w)
    (h : wpQuiet P l.toArray C (fun a' => ∀ w', C w' → Q' .normal a' w') (l.drop n) a) : wpAnyH P md l.toArray Q' S fuel listed a w := by
  subst hf
  exact wpAnyH_of_quiet hS (fun a w hw h => h w hw) _ _ _ _ hC (wpAnyQ_lex hns (l.drop n) n listed a (fun j => by simp [List.getElem?_drop]) hB h)
end

/-! ### Acts -/
structure ActB12 where
  kd : Int
  lr : List (Int × Int)
  rv : Value
  lt : List (Int × Int)
  tv : Value
  sz : Int
  c : UInt8
  fz : Int
def ActB12.cells (a : ActB12) : Array Value := actB a.kd a.rv a.tv a.sz (a.c.toNat : Int) a.fz
structure ActB12.good (a : ActB12) (w : World) : Prop where
  kd : 0 ≤ a.kd
  rv : RunsAt a.lr a.rv w
  tv : RunsAt a.lt a.tv w
  sz : I64 a.sz
  fz : I64 a.fz
theorem ActB12.good.later {a : ActB12} {w w' : World} (h : a.good w) (k : Kept w w') : a.good w' := ⟨h.kd, h.rv.later k, h.tv.later k, h.sz, h.fz⟩
/-- A slice of acts. -/
def ActsB (acs : List ActB12) (v : Value) (w : World) : Prop := (∀ a ∈ acs, a.good w) ∧ ∃ p c, v = .slice p acs.length c ∧
  (acs.length = 0 ∨ ∃ b off, p = some ⟨b, off, none⟩ ∧ ∀ k (h : k < acs.length), w.rangeAt b (off + k * 6) acs[k].cells.toList)
theorem ActsB.later {acs : List ActB12} {v : Value} {w w' : World} (h : ActsB acs v w) (k : Kept w w') : ActsB acs v w' := by
  obtain ⟨hg, p, c, rfl, h⟩ := h
  refine ⟨fun a ha => (hg a ha).later k, p, c, rfl, ?_⟩
  rcases h with h0 | ⟨b, off, hp, hc⟩
  · exact Or.inl h0
  · exact Or.inr ⟨b, off, hp, fun j hj i u hu => k.cell (hc j hj i u hu)⟩

/-- What came in lies in none of the disks' blocks. -/
theorem live_of {l : List (Int × Int)} {v : Value} {w W : World} {Bs : Nat → Prop} (h : RunsAt l v w) (k : Kept w W) (hb : ∀ j, Bs j → w.heap.size ≤ j) : LiveAt l v Bs W :=
  ⟨h.later k, fun a n c e hn hk => by
    subst e
    have h1 := h.block hn
    have h2 := hb _ hk
    omega⟩

end Go.Proofs.Ytppbknlhknadbaa
