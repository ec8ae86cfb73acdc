/- The document's Hold, Give. -/
import Derived.Test.YtkdodffnakdckaaExK
namespace Go.Proofs.Ytkdodffnakdckaa
open Go.RowKit

set_option maxRecDepth 100000 in
set_option maxHeartbeats 4000000 in
theorem rhold_any (s : Mp) (hs : s.ok) (u : Value) (w : World) (h : MpAt s u w) (l : List (Int × Int)) (lv : Value) (hlv : RunsAt l lv w) (hl9 : l.length ≤ 65536) :
    Calls Try.prog 31 #[u, lv] w fun e w' => ∃ u', e = .returned (.tuple #[u', .int .i64 (holdE s l)]) ∧ MpAt (holdS s l) u' w' ∧ MpNew w.heap.size u u' w' ∧ Below w.heap.size w w' := by
  have hll : l.length ≤ 1048576 := by omega
  have hm := h
  obtain ⟨tl, tv, rfl, ht, htl, htk⟩ := h
  obtain ⟨p, c, hp, -, -⟩ := ht.out
  obtain ⟨pl, cl, hpl, -, -⟩ := hlv.out
  have hs1 := hs.1
  have hs2 := hs.2
  have MY := fun W (k : Kept w W) => rmay_any l lv W (hlv.later k) hll (s.fr : Int) (s.to_ : Int) (by omega) (by omega)
  have C1 : ∀ W (k : Kept w W), Calls Try.prog 25 #[tv, lv] W fun e w' => ∃ y, e = .returned y ∧ OwnRuns W.heap.size (runsA (fun k => hasR tl k && hasR l k)) y w' ∧ Kept W w' := fun W k => rcommon_any tl l tv lv W (ht.later k) (hlv.later k) (by omega) hll
  have CT : ∀ W x B, OwnRuns B (runsA (fun k => hasR tl k && hasR l k)) x W → Calls Try.prog 14 #[x] W fun e w' => e = .returned (.int .i64 (cntA (fun k => s.tk k && hasR l k) : Nat)) ∧ Kept W w' := fun W x B hx => by
    have h := rcount_any (runsA (fun k => hasR tl k && hasR l k)) x W (hx.at_ (runsA_wf _)) (Nat.le_trans (runsA_len _) (by omega))
    rw [cntA_again, cntA_congr (g := fun k => s.tk k && hasR l k) (fun k hk => by show _ = _; simp only [htk k hk])] at h
    exact h
  have C2 : ∀ W (k : Kept w W), Calls Try.prog 23 #[tv, lv] W fun e w' => ∃ y, e = .returned y ∧ OwnRuns W.heap.size (runsA (fun k => hasR tl k || hasR l k)) y w' ∧ Kept W w' := fun W k => rjoin_any tl l tv lv W (ht.later k) (hlv.later k) (by omega)
  have HER : Hid (holdE s l = if ¬ validL s.fr s.to_ l then 1 else if 0 < cntA (fun k => s.tk k && hasR l k) then 100 else 0) := Lib.hid rfl
  have HNS : Hid (¬ holdE s l = 0 → holdS s l = s) := Lib.hid (fun h0 => by unfold holdS; rw [if_neg h0])
  have HYS : Hid (holdE s l = 0 → holdS s l = ⟨s.fr, s.to_, fun k => s.tk k || hasR l k⟩ ∧ ∀ k, k < 8192 → (fun k => hasR tl k || hasR l k) k = (fun k => s.tk k || hasR l k) k) := Lib.hid (fun h0 => ⟨by unfold holdS; rw [if_pos h0], fun k hk => by simp only [htk k hk]⟩)
  have HM := Lib.hid hm
  obtain ⟨ct, hct⟩ : ∃ ct, ct = cntA (fun k => s.tk k && hasR l k) := ⟨_, rfl⟩
  rw [← hct] at CT HER
  have hct8 : ct ≤ 8192 := by rw [hct]; exact cntA_le _
  obtain ⟨fr, hfr⟩ : ∃ fr, fr = s.fr := ⟨_, rfl⟩
  obtain ⟨te, hte⟩ : ∃ te, te = s.to_ := ⟨_, rfl⟩
  rw [← hfr, ← hte] at MY HER HYS HM ⊢
  obtain ⟨nl, hnl⟩ : ∃ nl, nl = tl.length := ⟨_, rfl⟩
  rw [← hnl] at hp
  subst hp
  obtain ⟨er, her⟩ : ∃ er, er = holdE s l := ⟨_, rfl⟩
  rw [← her] at HER HYS HNS ⊢
  have KA : Kept w ((w.alloc (.cells #[.int .i64 (fr : Int), .int .i64 (te : Int), .slice p nl c] 39)).alloc (.cells #[.int .i64 0, .int .i64 0, .slice none 0 0] 39)) := (show Kept w _ from box_below w _).then (box_below _ _)
  have hsz0 : ((w.alloc (.cells #[.int .i64 (fr : Int), .int .i64 (te : Int), .slice p nl c] 39)).alloc (.cells #[.int .i64 0, .int .i64 0, .slice none 0 0] 39)).heap.size = w.heap.size + 2 := by simp
  have hb0 := heap_alloc2_old w (.cells #[.int .i64 (fr : Int), .int .i64 (te : Int), .slice p nl c] 39) (.cells #[.int .i64 0, .int .i64 0, .slice none 0 0] 39)
  have hb1 := heap_alloc2_new w (.cells #[.int .i64 (fr : Int), .int .i64 (te : Int), .slice p nl c] 39) (.cells #[.int .i64 0, .int .i64 0, .slice none 0 0] 39)
  obtain ⟨W0, hW0⟩ : ∃ W0, W0 = (w.alloc (.cells #[.int .i64 (fr : Int), .int .i64 (te : Int), .slice p nl c] 39)).alloc (.cells #[.int .i64 0, .int .i64 0, .slice none 0 0] 39) := ⟨_, rfl⟩
  rw [← hW0] at KA hb0 hb1 hsz0
  have HW0 := Lib.hid hW0
  have KA' := Lib.hid KA
  have HB0 := Lib.hid hb0
  have HB1 := Lib.hid hb1
  have HSZ := Lib.hid hsz0
  have MY0 := MY W0 KA
  obtain ⟨nv, hnv⟩ : ∃ nv, nv = l.length := ⟨_, rfl⟩
  rw [← hnv] at hpl
  subst hpl
  clear hs hm ht htl htk hfr hte hnl her hW0 MY KA hb0 hb1 hsz0 hs1 hs2 hct hlv hll hl9 hnv
  go_enter Try.func31, Try.ntmps31
  go_wp2_with fail
  rw [← HW0.out]
  refine MY0.mono ?_
  rintro e w1 ⟨rfl, hb1⟩
  have K01 : Kept W0 w1 := hb1
  have K1 : Kept w w1 := KA'.out.then K01
  have r0 := K01.row HB0.out
  have r1 := K01.row HB1.out
  have c0 : w1.cell? ⟨w.heap.size, 0, none⟩ = some (.int .i64 (fr : Int)) := by rw [cell_of_row _ _ _ _ _ _ r0]; rfl
  have c1 : w1.cell? ⟨w.heap.size, 1, none⟩ = some (.int .i64 (te : Int)) := by rw [cell_of_row _ _ _ _ _ _ r0]; rfl
  have c2 : w1.cell? ⟨w.heap.size, 2, none⟩ = some (.slice p nl c) := by rw [cell_of_row _ _ _ _ _ _ r0]; rfl
  have d0 : w1.cell? ⟨w.heap.size + 1, 0, none⟩ = some (.int .i64 0) := by rw [cell_of_row _ _ _ _ _ _ r1]; rfl
  have d1 : w1.cell? ⟨w.heap.size + 1, 1, none⟩ = some (.int .i64 0) := by rw [cell_of_row _ _ _ _ _ _ r1]; rfl
  have d2 : w1.cell? ⟨w.heap.size + 1, 2, none⟩ = some (.slice none 0 0) := by rw [cell_of_row _ _ _ _ _ _ r1]; rfl
  have f2 := frozen_of_row w1 w.heap.size 2 _ _ r0
  have g0 := frozen_of_row w1 (w.heap.size + 1) 0 _ _ r1
  have g1 := frozen_of_row w1 (w.heap.size + 1) 1 _ _ r1
  have g2 := frozen_of_row w1 (w.heap.size + 1) 2 _ _ r1
  have HR1 := Lib.hid r1
  have HR0 := Lib.hid r0
  have HK1 := Lib.hid K1
  have HSZ1 : Hid (w.heap.size + 2 ≤ w1.heap.size) := Lib.hid (by have := K01.size; have := HSZ.out; omega)
  clear MY0 hb1 K01 K1 r0 r1
  by_cases hv : validL (fr : Int) (te : Int) l
  · have he1 := HER.out
    rw [if_neg (fun x => x hv)] at he1
    have HE1 := Lib.hid he1
    have C11 := C1 w1 HK1.out
    rw [decide_eq_true hv]
    clear hv he1 HER C1
    go_wp2_with fail
    refine C11.mono ?_
    rintro e w2 ⟨y, rfl, hy, hb2⟩
    have CT2 := CT w2 y _ hy
    have K12 := Lib.hid hb2
    clear C11 hy hb2 CT
    go_wp2_with fail
    refine CT2.mono ?_
    rintro e w3 ⟨rfl, hb3⟩
    have K13 : Kept w1 w3 := K12.out.then hb3
    have K3 : Kept w w3 := HK1.out.then K13
    have r0 := K13.row HR0.out
    have r1 := K13.row HR1.out
    clear c0 c1 c2 d0 d1 d2 f2 g0 g1 g2
    have c0 : w3.cell? ⟨w.heap.size, 0, none⟩ = some (.int .i64 (fr : Int)) := by rw [cell_of_row _ _ _ _ _ _ r0]; rfl
    have c1 : w3.cell? ⟨w.heap.size, 1, none⟩ = some (.int .i64 (te : Int)) := by rw [cell_of_row _ _ _ _ _ _ r0]; rfl
    have c2 : w3.cell? ⟨w.heap.size, 2, none⟩ = some (.slice p nl c) := by rw [cell_of_row _ _ _ _ _ _ r0]; rfl
    have d0 : w3.cell? ⟨w.heap.size + 1, 0, none⟩ = some (.int .i64 0) := by rw [cell_of_row _ _ _ _ _ _ r1]; rfl
    have d1 : w3.cell? ⟨w.heap.size + 1, 1, none⟩ = some (.int .i64 0) := by rw [cell_of_row _ _ _ _ _ _ r1]; rfl
    have d2 : w3.cell? ⟨w.heap.size + 1, 2, none⟩ = some (.slice none 0 0) := by rw [cell_of_row _ _ _ _ _ _ r1]; rfl
    have f2 := frozen_of_row w3 w.heap.size 2 _ _ r0
    have g0 := frozen_of_row w3 (w.heap.size + 1) 0 _ _ r1
    have g1 := frozen_of_row w3 (w.heap.size + 1) 1 _ _ r1
    have g2 := frozen_of_row w3 (w.heap.size + 1) 2 _ _ r1
    have HR31 := Lib.hid r1
    have HR30 := Lib.hid r0
    have HK3 := Lib.hid K3
    have HSZ3 : Hid (w.heap.size + 2 ≤ w3.heap.size) := Lib.hid (Nat.le_trans HSZ1.out K13.size)
    clear CT2 hb3 K13 K3 r0 r1
    by_cases h0 : (ct : Int) > 0
    · have he : er = 100 := by rw [HE1.out, if_pos (by omega)]
      have HS := Lib.hid (HNS.out (by rw [he]; decide))
      subst he
      have K3 := HK3.out
      have r1 := HR31.out
      clear C2
      have KF : Kept w (((w3.setCell ⟨w.heap.size + 1, 0, none⟩ (.int .i64 (fr : Int))).setCell ⟨w.heap.size + 1, 1, none⟩ (.int .i64 (te : Int))).setCell ⟨w.heap.size + 1, 2, none⟩ (.slice p nl c)) := Below.setCell (Below.setCell (Below.setCell K3 (Nat.le_succ _) _) (Nat.le_succ _) _) (Nat.le_succ _) _
      have HROWF := set3_row r1 (.int .i64 (fr : Int)) (.int .i64 (te : Int)) (.slice p nl c)
      have HKF := Lib.hid KF
      have HRF := Lib.hid HROWF
      clear KF HROWF
      go_wp2
      refine bodyPost_ret (results_cell1 Try.results31 _ _ (w.heap.size + 1) 39 _ (0, 0) _ rfl HRF.out Try.underlying39 rfl (by kernel_rfl)) rfl ?_
      refine ⟨_, rfl, ?_, Or.inl rfl, HKF.out⟩
      rw [HS.out]; exact HM.out.later HKF.out
    · have he : er = 0 := by rw [HE1.out, if_neg (by omega)]
      have HYY := Lib.hid (HYS.out he)
      subst he
      have C23 := C2 w3 HK3.out
      clear C2 c0 c1 d0 d1 d2 f2 g0 g1 g2
      go_wp2_with fail
      refine C23.mono ?_
      rintro e w4 ⟨z, rfl, hz, hb4⟩
      obtain ⟨pz, cz, hze, -, -⟩ := own_slice hz
      have HZ : Hid (OwnRuns (w.heap.size + 2) (runsA (fun k => hasR tl k || hasR l k)) z w4) := Lib.hid (hz.base HSZ3.out)
      obtain ⟨lz, hlz⟩ : ∃ lz, lz = (runsA (fun k => hasR tl k || hasR l k)).length := ⟨_, rfl⟩
      rw [← hlz] at hze
      subst hze
      have r0 := Kept.row hb4 HR30.out
      have r1 := Kept.row hb4 HR31.out
      clear c2
      have c0 : w4.cell? ⟨w.heap.size, 0, none⟩ = some (.int .i64 (fr : Int)) := by rw [cell_of_row _ _ _ _ _ _ r0]; rfl
      have c1 : w4.cell? ⟨w.heap.size, 1, none⟩ = some (.int .i64 (te : Int)) := by rw [cell_of_row _ _ _ _ _ _ r0]; rfl
      have c2 : w4.cell? ⟨w.heap.size, 2, none⟩ = some (.slice p nl c) := by rw [cell_of_row _ _ _ _ _ _ r0]; rfl
      have d0 : w4.cell? ⟨w.heap.size + 1, 0, none⟩ = some (.int .i64 0) := by rw [cell_of_row _ _ _ _ _ _ r1]; rfl
      have d1 : w4.cell? ⟨w.heap.size + 1, 1, none⟩ = some (.int .i64 0) := by rw [cell_of_row _ _ _ _ _ _ r1]; rfl
      have d2 : w4.cell? ⟨w.heap.size + 1, 2, none⟩ = some (.slice none 0 0) := by rw [cell_of_row _ _ _ _ _ _ r1]; rfl
      have f2 := frozen_of_row w4 w.heap.size 2 _ _ r0
      have g0 := frozen_of_row w4 (w.heap.size + 1) 0 _ _ r1
      have g1 := frozen_of_row w4 (w.heap.size + 1) 1 _ _ r1
      have g2 := frozen_of_row w4 (w.heap.size + 1) 2 _ _ r1
      have HK4 := HK3.out.then hb4
      clear hz hb4 C23 hlz
      have KF : Kept w ((((w4.setCell ⟨w.heap.size, 2, none⟩ (.slice pz lz cz)).setCell ⟨w.heap.size + 1, 0, none⟩ (.int .i64 (fr : Int))).setCell ⟨w.heap.size + 1, 1, none⟩ (.int .i64 (te : Int))).setCell ⟨w.heap.size + 1, 2, none⟩ (.slice pz lz cz)) := Below.setCell (Below.setCell (Below.setCell (Below.setCell HK4 (Nat.le_refl _) _) (Nat.le_succ _) _) (Nat.le_succ _) _) (Nat.le_succ _) _
      have HROWF := set3_row ((set_other w4 w.heap.size 2 (w.heap.size + 1) (.slice pz lz cz) (by omega)).trans r1) (.int .i64 (fr : Int)) (.int .i64 (te : Int)) (.slice pz lz cz)
      have HSTAY : ∀ j, w.heap.size + 2 ≤ j → ((((w4.setCell ⟨w.heap.size, 2, none⟩ (.slice pz lz cz)).setCell ⟨w.heap.size + 1, 0, none⟩ (.int .i64 (fr : Int))).setCell ⟨w.heap.size + 1, 1, none⟩ (.int .i64 (te : Int))).setCell ⟨w.heap.size + 1, 2, none⟩ (.slice pz lz cz)).heap[j]? = w4.heap[j]? := fun j hj => by
        rw [set_other _ _ _ _ _ (by omega : j ≠ w.heap.size + 1), set_other _ _ _ _ _ (by omega : j ≠ w.heap.size + 1), set_other _ _ _ _ _ (by omega : j ≠ w.heap.size + 1), set_other _ _ _ _ _ (by omega : j ≠ w.heap.size)]
      have HKF := Lib.hid KF
      have HRF := Lib.hid HROWF
      have HST := Lib.hid HSTAY
      clear KF HROWF HSTAY
      go_wp2
      refine bodyPost_ret (results_cell1 Try.results31 _ _ (w.heap.size + 1) 39 _ (0, 0) _ rfl HRF.out Try.underlying39 rfl (by kernel_rfl)) rfl ?_
      refine ⟨_, rfl, ?_, Or.inr ⟨_, _, _, _, rfl, OwnRuns.base (show OwnRuns (w.heap.size + 2) (runsA (fun k => hasR tl k || hasR l k)) _ _ from own_stay HZ.out (fun j hj => HST.out j (HZ.out.lt j hj).1)) (by omega)⟩, HKF.out⟩
      rw [HYY.out.1]
      exact MpAt.of_own (s := ⟨fr, te, fun k => s.tk k || hasR l k⟩) (own_stay HZ.out (fun j hj => HST.out j (HZ.out.lt j hj).1)) HYY.out.2
  · have he : er = 1 := by rw [HER.out, if_pos hv]
    have HS := Lib.hid (HNS.out (by rw [he]; decide))
    subst he
    rw [decide_eq_false hv]
    have K1 := HK1.out
    have r1 := HR1.out
    clear hv C1 C2 CT
    have KF : Kept w (((w1.setCell ⟨w.heap.size + 1, 0, none⟩ (.int .i64 (fr : Int))).setCell ⟨w.heap.size + 1, 1, none⟩ (.int .i64 (te : Int))).setCell ⟨w.heap.size + 1, 2, none⟩ (.slice p nl c)) := Below.setCell (Below.setCell (Below.setCell K1 (Nat.le_succ _) _) (Nat.le_succ _) _) (Nat.le_succ _) _
    have HROWF := set3_row r1 (.int .i64 (fr : Int)) (.int .i64 (te : Int)) (.slice p nl c)
    have HKF := Lib.hid KF
    have HRF := Lib.hid HROWF
    clear KF HROWF
    go_wp2
    refine bodyPost_ret (results_cell1 Try.results31 _ _ (w.heap.size + 1) 39 _ (0, 0) _ rfl HRF.out Try.underlying39 rfl (by kernel_rfl)) rfl ?_
    refine ⟨_, rfl, ?_, Or.inl rfl, HKF.out⟩
    rw [HS.out]; exact HM.out.later HKF.out

set_option maxRecDepth 100000 in
set_option maxHeartbeats 4000000 in
theorem rgive_any (s : Mp) (hs : s.ok) (u : Value) (w : World) (h : MpAt s u w) (l : List (Int × Int)) (lv : Value) (hlv : RunsAt l lv w) (hl9 : l.length ≤ 65536) :
    Calls Try.prog 33 #[u, lv] w fun e w' => ∃ u', e = .returned (.tuple #[u', .int .i64 (giveE s l)]) ∧ MpAt (giveS s l) u' w' ∧ MpNew w.heap.size u u' w' ∧ Below w.heap.size w w' := by
  have hll : l.length ≤ 1048576 := by omega
  have hm := h
  obtain ⟨tl, tv, rfl, ht, htl, htk⟩ := h
  obtain ⟨p, c, hp, -, -⟩ := ht.out
  obtain ⟨pl, cl, hpl, -, -⟩ := hlv.out
  have hs1 := hs.1
  have hs2 := hs.2
  have MY := fun W (k : Kept w W) => rmay_any l lv W (hlv.later k) hll (s.fr : Int) (s.to_ : Int) (by omega) (by omega)
  have C1 : ∀ W (k : Kept w W), Calls Try.prog 24 #[lv, tv] W fun e w' => ∃ y, e = .returned y ∧ OwnRuns W.heap.size (runsA (fun k => hasR l k && !hasR tl k)) y w' ∧ Kept W w' := fun W k => rminus_any l tl lv tv W (hlv.later k) (ht.later k) hll (by omega)
  have CT : ∀ W x B, OwnRuns B (runsA (fun k => hasR l k && !hasR tl k)) x W → Calls Try.prog 14 #[x] W fun e w' => e = .returned (.int .i64 (cntA (fun k => hasR l k && !s.tk k) : Nat)) ∧ Kept W w' := fun W x B hx => by
    have h := rcount_any (runsA (fun k => hasR l k && !hasR tl k)) x W (hx.at_ (runsA_wf _)) (Nat.le_trans (runsA_len _) (by omega))
    rw [cntA_again, cntA_congr (g := fun k => hasR l k && !s.tk k) (fun k hk => by show _ = _; simp only [htk k hk])] at h
    exact h
  have C2 : ∀ W (k : Kept w W), Calls Try.prog 24 #[tv, lv] W fun e w' => ∃ y, e = .returned y ∧ OwnRuns W.heap.size (runsA (fun k => hasR tl k && !hasR l k)) y w' ∧ Kept W w' := fun W k => rminus_any tl l tv lv W (ht.later k) (hlv.later k) (by omega) hll
  have HER : Hid (giveE s l = if ¬ validL s.fr s.to_ l then 1 else if 0 < cntA (fun k => hasR l k && !s.tk k) then 6 else 0) := Lib.hid rfl
  have HNS : Hid (¬ giveE s l = 0 → giveS s l = s) := Lib.hid (fun h0 => by unfold giveS; rw [if_neg h0])
  have HYS : Hid (giveE s l = 0 → giveS s l = ⟨s.fr, s.to_, fun k => s.tk k && !hasR l k⟩ ∧ ∀ k, k < 8192 → (fun k => hasR tl k && !hasR l k) k = (fun k => s.tk k && !hasR l k) k) := Lib.hid (fun h0 => ⟨by unfold giveS; rw [if_pos h0], fun k hk => by simp only [htk k hk]⟩)
  have HM := Lib.hid hm
  obtain ⟨ct, hct⟩ : ∃ ct, ct = cntA (fun k => hasR l k && !s.tk k) := ⟨_, rfl⟩
  rw [← hct] at CT HER
  have hct8 : ct ≤ 8192 := by rw [hct]; exact cntA_le _
  obtain ⟨fr, hfr⟩ : ∃ fr, fr = s.fr := ⟨_, rfl⟩
  obtain ⟨te, hte⟩ : ∃ te, te = s.to_ := ⟨_, rfl⟩
  rw [← hfr, ← hte] at MY HER HYS HM ⊢
  obtain ⟨nl, hnl⟩ : ∃ nl, nl = tl.length := ⟨_, rfl⟩
  rw [← hnl] at hp
  subst hp
  obtain ⟨er, her⟩ : ∃ er, er = giveE s l := ⟨_, rfl⟩
  rw [← her] at HER HYS HNS ⊢
  have KA : Kept w ((w.alloc (.cells #[.int .i64 (fr : Int), .int .i64 (te : Int), .slice p nl c] 39)).alloc (.cells #[.int .i64 0, .int .i64 0, .slice none 0 0] 39)) := (show Kept w _ from box_below w _).then (box_below _ _)
  have hsz0 : ((w.alloc (.cells #[.int .i64 (fr : Int), .int .i64 (te : Int), .slice p nl c] 39)).alloc (.cells #[.int .i64 0, .int .i64 0, .slice none 0 0] 39)).heap.size = w.heap.size + 2 := by simp
  have hb0 := heap_alloc2_old w (.cells #[.int .i64 (fr : Int), .int .i64 (te : Int), .slice p nl c] 39) (.cells #[.int .i64 0, .int .i64 0, .slice none 0 0] 39)
  have hb1 := heap_alloc2_new w (.cells #[.int .i64 (fr : Int), .int .i64 (te : Int), .slice p nl c] 39) (.cells #[.int .i64 0, .int .i64 0, .slice none 0 0] 39)
  obtain ⟨W0, hW0⟩ : ∃ W0, W0 = (w.alloc (.cells #[.int .i64 (fr : Int), .int .i64 (te : Int), .slice p nl c] 39)).alloc (.cells #[.int .i64 0, .int .i64 0, .slice none 0 0] 39) := ⟨_, rfl⟩
  rw [← hW0] at KA hb0 hb1 hsz0
  have HW0 := Lib.hid hW0
  have KA' := Lib.hid KA
  have HB0 := Lib.hid hb0
  have HB1 := Lib.hid hb1
  have HSZ := Lib.hid hsz0
  have MY0 := MY W0 KA
  obtain ⟨nv, hnv⟩ : ∃ nv, nv = l.length := ⟨_, rfl⟩
  rw [← hnv] at hpl
  subst hpl
  clear hs hm ht htl htk hfr hte hnl her hW0 MY KA hb0 hb1 hsz0 hs1 hs2 hct hlv hll hl9 hnv
  go_enter Try.func33, Try.ntmps33
  go_wp2_with fail
  rw [← HW0.out]
  refine MY0.mono ?_
  rintro e w1 ⟨rfl, hb1⟩
  have K01 : Kept W0 w1 := hb1
  have K1 : Kept w w1 := KA'.out.then K01
  have r0 := K01.row HB0.out
  have r1 := K01.row HB1.out
  have c0 : w1.cell? ⟨w.heap.size, 0, none⟩ = some (.int .i64 (fr : Int)) := by rw [cell_of_row _ _ _ _ _ _ r0]; rfl
  have c1 : w1.cell? ⟨w.heap.size, 1, none⟩ = some (.int .i64 (te : Int)) := by rw [cell_of_row _ _ _ _ _ _ r0]; rfl
  have c2 : w1.cell? ⟨w.heap.size, 2, none⟩ = some (.slice p nl c) := by rw [cell_of_row _ _ _ _ _ _ r0]; rfl
  have d0 : w1.cell? ⟨w.heap.size + 1, 0, none⟩ = some (.int .i64 0) := by rw [cell_of_row _ _ _ _ _ _ r1]; rfl
  have d1 : w1.cell? ⟨w.heap.size + 1, 1, none⟩ = some (.int .i64 0) := by rw [cell_of_row _ _ _ _ _ _ r1]; rfl
  have d2 : w1.cell? ⟨w.heap.size + 1, 2, none⟩ = some (.slice none 0 0) := by rw [cell_of_row _ _ _ _ _ _ r1]; rfl
  have f2 := frozen_of_row w1 w.heap.size 2 _ _ r0
  have g0 := frozen_of_row w1 (w.heap.size + 1) 0 _ _ r1
  have g1 := frozen_of_row w1 (w.heap.size + 1) 1 _ _ r1
  have g2 := frozen_of_row w1 (w.heap.size + 1) 2 _ _ r1
  have HR1 := Lib.hid r1
  have HR0 := Lib.hid r0
  have HK1 := Lib.hid K1
  have HSZ1 : Hid (w.heap.size + 2 ≤ w1.heap.size) := Lib.hid (by have := K01.size; have := HSZ.out; omega)
  clear MY0 hb1 K01 K1 r0 r1
  by_cases hv : validL (fr : Int) (te : Int) l
  · have he1 := HER.out
    rw [if_neg (fun x => x hv)] at he1
    have HE1 := Lib.hid he1
    have C11 := C1 w1 HK1.out
    rw [decide_eq_true hv]
    clear hv he1 HER C1
    go_wp2_with fail
    refine C11.mono ?_
    rintro e w2 ⟨y, rfl, hy, hb2⟩
    have CT2 := CT w2 y _ hy
    have K12 := Lib.hid hb2
    clear C11 hy hb2 CT
    go_wp2_with fail
    refine CT2.mono ?_
    rintro e w3 ⟨rfl, hb3⟩
    have K13 : Kept w1 w3 := K12.out.then hb3
    have K3 : Kept w w3 := HK1.out.then K13
    have r0 := K13.row HR0.out
    have r1 := K13.row HR1.out
    clear c0 c1 c2 d0 d1 d2 f2 g0 g1 g2
    have c0 : w3.cell? ⟨w.heap.size, 0, none⟩ = some (.int .i64 (fr : Int)) := by rw [cell_of_row _ _ _ _ _ _ r0]; rfl
    have c1 : w3.cell? ⟨w.heap.size, 1, none⟩ = some (.int .i64 (te : Int)) := by rw [cell_of_row _ _ _ _ _ _ r0]; rfl
    have c2 : w3.cell? ⟨w.heap.size, 2, none⟩ = some (.slice p nl c) := by rw [cell_of_row _ _ _ _ _ _ r0]; rfl
    have d0 : w3.cell? ⟨w.heap.size + 1, 0, none⟩ = some (.int .i64 0) := by rw [cell_of_row _ _ _ _ _ _ r1]; rfl
    have d1 : w3.cell? ⟨w.heap.size + 1, 1, none⟩ = some (.int .i64 0) := by rw [cell_of_row _ _ _ _ _ _ r1]; rfl
    have d2 : w3.cell? ⟨w.heap.size + 1, 2, none⟩ = some (.slice none 0 0) := by rw [cell_of_row _ _ _ _ _ _ r1]; rfl
    have f2 := frozen_of_row w3 w.heap.size 2 _ _ r0
    have g0 := frozen_of_row w3 (w.heap.size + 1) 0 _ _ r1
    have g1 := frozen_of_row w3 (w.heap.size + 1) 1 _ _ r1
    have g2 := frozen_of_row w3 (w.heap.size + 1) 2 _ _ r1
    have HR31 := Lib.hid r1
    have HR30 := Lib.hid r0
    have HK3 := Lib.hid K3
    have HSZ3 : Hid (w.heap.size + 2 ≤ w3.heap.size) := Lib.hid (Nat.le_trans HSZ1.out K13.size)
    clear CT2 hb3 K13 K3 r0 r1
    by_cases h0 : (ct : Int) > 0
    · have he : er = 6 := by rw [HE1.out, if_pos (by omega)]
      have HS := Lib.hid (HNS.out (by rw [he]; decide))
      subst he
      have K3 := HK3.out
      have r1 := HR31.out
      clear C2
      have KF : Kept w (((w3.setCell ⟨w.heap.size + 1, 0, none⟩ (.int .i64 (fr : Int))).setCell ⟨w.heap.size + 1, 1, none⟩ (.int .i64 (te : Int))).setCell ⟨w.heap.size + 1, 2, none⟩ (.slice p nl c)) := Below.setCell (Below.setCell (Below.setCell K3 (Nat.le_succ _) _) (Nat.le_succ _) _) (Nat.le_succ _) _
      have HROWF := set3_row r1 (.int .i64 (fr : Int)) (.int .i64 (te : Int)) (.slice p nl c)
      have HKF := Lib.hid KF
      have HRF := Lib.hid HROWF
      clear KF HROWF
      go_wp2
      refine bodyPost_ret (results_cell1 Try.results33 _ _ (w.heap.size + 1) 39 _ (0, 0) _ rfl HRF.out Try.underlying39 rfl (by kernel_rfl)) rfl ?_
      refine ⟨_, rfl, ?_, Or.inl rfl, HKF.out⟩
      rw [HS.out]; exact HM.out.later HKF.out
    · have he : er = 0 := by rw [HE1.out, if_neg (by omega)]
      have HYY := Lib.hid (HYS.out he)
      subst he
      have C23 := C2 w3 HK3.out
      clear C2 c0 c1 d0 d1 d2 f2 g0 g1 g2
      go_wp2_with fail
      refine C23.mono ?_
      rintro e w4 ⟨z, rfl, hz, hb4⟩
      obtain ⟨pz, cz, hze, -, -⟩ := own_slice hz
      have HZ : Hid (OwnRuns (w.heap.size + 2) (runsA (fun k => hasR tl k && !hasR l k)) z w4) := Lib.hid (hz.base HSZ3.out)
      obtain ⟨lz, hlz⟩ : ∃ lz, lz = (runsA (fun k => hasR tl k && !hasR l k)).length := ⟨_, rfl⟩
      rw [← hlz] at hze
      subst hze
      have r0 := Kept.row hb4 HR30.out
      have r1 := Kept.row hb4 HR31.out
      clear c2
      have c0 : w4.cell? ⟨w.heap.size, 0, none⟩ = some (.int .i64 (fr : Int)) := by rw [cell_of_row _ _ _ _ _ _ r0]; rfl
      have c1 : w4.cell? ⟨w.heap.size, 1, none⟩ = some (.int .i64 (te : Int)) := by rw [cell_of_row _ _ _ _ _ _ r0]; rfl
      have c2 : w4.cell? ⟨w.heap.size, 2, none⟩ = some (.slice p nl c) := by rw [cell_of_row _ _ _ _ _ _ r0]; rfl
      have d0 : w4.cell? ⟨w.heap.size + 1, 0, none⟩ = some (.int .i64 0) := by rw [cell_of_row _ _ _ _ _ _ r1]; rfl
      have d1 : w4.cell? ⟨w.heap.size + 1, 1, none⟩ = some (.int .i64 0) := by rw [cell_of_row _ _ _ _ _ _ r1]; rfl
      have d2 : w4.cell? ⟨w.heap.size + 1, 2, none⟩ = some (.slice none 0 0) := by rw [cell_of_row _ _ _ _ _ _ r1]; rfl
      have f2 := frozen_of_row w4 w.heap.size 2 _ _ r0
      have g0 := frozen_of_row w4 (w.heap.size + 1) 0 _ _ r1
      have g1 := frozen_of_row w4 (w.heap.size + 1) 1 _ _ r1
      have g2 := frozen_of_row w4 (w.heap.size + 1) 2 _ _ r1
      have HK4 := HK3.out.then hb4
      clear hz hb4 C23 hlz
      have KF : Kept w ((((w4.setCell ⟨w.heap.size, 2, none⟩ (.slice pz lz cz)).setCell ⟨w.heap.size + 1, 0, none⟩ (.int .i64 (fr : Int))).setCell ⟨w.heap.size + 1, 1, none⟩ (.int .i64 (te : Int))).setCell ⟨w.heap.size + 1, 2, none⟩ (.slice pz lz cz)) := Below.setCell (Below.setCell (Below.setCell (Below.setCell HK4 (Nat.le_refl _) _) (Nat.le_succ _) _) (Nat.le_succ _) _) (Nat.le_succ _) _
      have HROWF := set3_row ((set_other w4 w.heap.size 2 (w.heap.size + 1) (.slice pz lz cz) (by omega)).trans r1) (.int .i64 (fr : Int)) (.int .i64 (te : Int)) (.slice pz lz cz)
      have HSTAY : ∀ j, w.heap.size + 2 ≤ j → ((((w4.setCell ⟨w.heap.size, 2, none⟩ (.slice pz lz cz)).setCell ⟨w.heap.size + 1, 0, none⟩ (.int .i64 (fr : Int))).setCell ⟨w.heap.size + 1, 1, none⟩ (.int .i64 (te : Int))).setCell ⟨w.heap.size + 1, 2, none⟩ (.slice pz lz cz)).heap[j]? = w4.heap[j]? := fun j hj => by
        rw [set_other _ _ _ _ _ (by omega : j ≠ w.heap.size + 1), set_other _ _ _ _ _ (by omega : j ≠ w.heap.size + 1), set_other _ _ _ _ _ (by omega : j ≠ w.heap.size + 1), set_other _ _ _ _ _ (by omega : j ≠ w.heap.size)]
      have HKF := Lib.hid KF
      have HRF := Lib.hid HROWF
      have HST := Lib.hid HSTAY
      clear KF HROWF HSTAY
      go_wp2
      refine bodyPost_ret (results_cell1 Try.results33 _ _ (w.heap.size + 1) 39 _ (0, 0) _ rfl HRF.out Try.underlying39 rfl (by kernel_rfl)) rfl ?_
      refine ⟨_, rfl, ?_, Or.inr ⟨_, _, _, _, rfl, OwnRuns.base (show OwnRuns (w.heap.size + 2) (runsA (fun k => hasR tl k && !hasR l k)) _ _ from own_stay HZ.out (fun j hj => HST.out j (HZ.out.lt j hj).1)) (by omega)⟩, HKF.out⟩
      rw [HYY.out.1]
      exact MpAt.of_own (s := ⟨fr, te, fun k => s.tk k && !hasR l k⟩) (own_stay HZ.out (fun j hj => HST.out j (HZ.out.lt j hj).1)) HYY.out.2
  · have he : er = 1 := by rw [HER.out, if_pos hv]
    have HS := Lib.hid (HNS.out (by rw [he]; decide))
    subst he
    rw [decide_eq_false hv]
    have K1 := HK1.out
    have r1 := HR1.out
    clear hv C1 C2 CT
    have KF : Kept w (((w1.setCell ⟨w.heap.size + 1, 0, none⟩ (.int .i64 (fr : Int))).setCell ⟨w.heap.size + 1, 1, none⟩ (.int .i64 (te : Int))).setCell ⟨w.heap.size + 1, 2, none⟩ (.slice p nl c)) := Below.setCell (Below.setCell (Below.setCell K1 (Nat.le_succ _) _) (Nat.le_succ _) _) (Nat.le_succ _) _
    have HROWF := set3_row r1 (.int .i64 (fr : Int)) (.int .i64 (te : Int)) (.slice p nl c)
    have HKF := Lib.hid KF
    have HRF := Lib.hid HROWF
    clear KF HROWF
    go_wp2
    refine bodyPost_ret (results_cell1 Try.results33 _ _ (w.heap.size + 1) 39 _ (0, 0) _ rfl HRF.out Try.underlying39 rfl (by kernel_rfl)) rfl ?_
    refine ⟨_, rfl, ?_, Or.inl rfl, HKF.out⟩
    rw [HS.out]; exact HM.out.later HKF.out

end Go.Proofs.Ytkdodffnakdckaa
