/- The document's Take. -/
import Derived.Test.YtkdodffnakdckaaExK
namespace Go.Proofs.Ytkdodffnakdckaa
open Go.RowKit

set_option maxRecDepth 100000 in
set_option maxHeartbeats 4000000 in
theorem rtake_any (s : Mp) (hs : s.ok) (u : Value) (w : World) (h : MpAt s u w) (n : Int) (hn : -9223372036854775808 ≤ n ∧ n ≤ 9223372036854775807) :
    Calls Try.prog 29 #[u, .int .i64 n] w fun e w' => ∃ u' x, e = .returned (.tuple #[u', x, .int .i64 (takeE s n)]) ∧ MpAt (takeS s n) u' w' ∧ OwnRuns w.heap.size (takeL s n) x w' ∧ MpNew w.heap.size u u' w' ∧ Below w.heap.size w w' := by
  have hm := h
  obtain ⟨tl, tv, rfl, ht, htl, htk⟩ := h
  obtain ⟨p, c, hp, -, -⟩ := ht.out
  have FR := fun W (k : Kept w W) => rfree_any s hs _ W (hm.later k)
  have LW : ∀ W x B, OwnRuns B (runsA (freeF s)) x W → Calls Try.prog 27 #[x, .int .i64 n] W fun e w' => ∃ y, e = .returned (.tuple #[y, .int .i64 (takeE s n)]) ∧ OwnRuns W.heap.size (takeL s n) y w' ∧ Kept W w' := fun W x B hx => by
    refine (rlowest_any (runsA (freeF s)) x W (hx.at_ (runsA_wf _)) (Nat.le_trans (runsA_len _) (by omega)) n hn).mono ?_
    rintro e w' ⟨y, rfl, ho, hb⟩
    refine ⟨y, by unfold takeE; rw [lowE_congr (fun k hk => runsA_has (freeF s) k hk)], ?_, hb⟩
    unfold takeL
    rw [← lowL_congr (fun k hk => runsA_has (freeF s) k hk)]
    exact ho
  have JN : takeE s n = 0 → ∀ W (k : Kept w W) x B, OwnRuns B (takeL s n) x W → Calls Try.prog 23 #[tv, x] W fun e w' => ∃ y, e = .returned y ∧ OwnRuns W.heap.size (runsA (fun k => hasR tl k || hasR (takeL s n) k)) y w' ∧ Kept W w' := fun h0 W k x B hx => by
    have hll : (takeL s n).length ≤ 16 := lowL_len _ _
    exact rjoin_any tl (takeL s n) tv x W (ht.later k) (hx.at_ (lowL_wf _ _)) (by omega)
  have HNS : Hid (¬ takeE s n = 0 → takeS s n = s ∧ takeL s n = []) := Lib.hid (fun h0 => ⟨by unfold takeS; rw [if_neg h0], by
    have h1 : ¬ lowE (freeF s) n = 0 := h0
    unfold takeL lowL; rw [if_neg h1]⟩)
  have HYS : Hid (takeE s n = 0 → takeS s n = ⟨s.fr, s.to_, fun k => s.tk k || lowF (freeF s) n.toNat k⟩ ∧ ∀ k, k < 8192 → (hasR tl k || hasR (takeL s n) k) = (s.tk k || lowF (freeF s) n.toNat k)) := Lib.hid (fun h0 => ⟨by unfold takeS; rw [if_pos h0], fun k hk => by rw [htk k hk, takeL_ok s n h0, runsA_has _ k hk]⟩)
  have HM := Lib.hid hm
  obtain ⟨fr, hfr⟩ : ∃ fr, fr = s.fr := ⟨_, rfl⟩
  obtain ⟨te, hte⟩ : ∃ te, te = s.to_ := ⟨_, rfl⟩
  rw [← hfr, ← hte] at FR HYS HM ⊢
  obtain ⟨nl, hnl⟩ : ∃ nl, nl = tl.length := ⟨_, rfl⟩
  rw [← hnl] at hp
  subst hp
  obtain ⟨er, her⟩ : ∃ er, er = takeE s n := ⟨_, rfl⟩
  rw [← her] at LW JN HYS HNS ⊢
  have KA : Kept w ((w.alloc (.cells #[.int .i64 (fr : Int), .int .i64 (te : Int), .slice p nl c] 39)).alloc (.cells #[.int .i64 0, .int .i64 0, .slice none 0 0] 39)) := (show Kept w _ from box_below w _).then (box_below _ _)
  have hsz0 : ((w.alloc (.cells #[.int .i64 (fr : Int), .int .i64 (te : Int), .slice p nl c] 39)).alloc (.cells #[.int .i64 0, .int .i64 0, .slice none 0 0] 39)).heap.size = w.heap.size + 2 := by simp
  have hb0 := heap_alloc2_old w (.cells #[.int .i64 (fr : Int), .int .i64 (te : Int), .slice p nl c] 39) (.cells #[.int .i64 0, .int .i64 0, .slice none 0 0] 39)
  have hb1 := heap_alloc2_new w (.cells #[.int .i64 (fr : Int), .int .i64 (te : Int), .slice p nl c] 39) (.cells #[.int .i64 0, .int .i64 0, .slice none 0 0] 39)
  obtain ⟨W0, hW0⟩ : ∃ W0, W0 = (w.alloc (.cells #[.int .i64 (fr : Int), .int .i64 (te : Int), .slice p nl c] 39)).alloc (.cells #[.int .i64 0, .int .i64 0, .slice none 0 0] 39) := ⟨_, rfl⟩
  rw [← hW0] at KA hb0 hb1 hsz0
  have HW0 := Lib.hid hW0
  have KA' := Lib.hid KA
  have HB0 := Lib.hid hb0
  have HB1 := Lib.hid hb1
  have HSZ := Lib.hid hsz0
  have FR0 := FR W0 KA
  have LWH := Lib.hid LW
  have JNH := Lib.hid JN
  clear LW JN
  clear hs hm ht htl htk hfr hte hnl her hn hW0 FR KA hb0 hb1 hsz0
  go_enter Try.func29, Try.ntmps29
  go_wp2_with fail
  rw [← HW0.out]
  refine FR0.mono ?_
  rintro e w1 ⟨x, rfl, ho, hb1⟩
  have L1 := LWH.out w1 x _ ho
  have K1 : Hid (Kept W0 w1) := Lib.hid hb1
  clear FR0 ho hb1 LWH
  go_wp2_with fail
  refine L1.mono ?_
  rintro e w2 ⟨y, rfl, hy, hb2⟩
  have K02 := K1.out.then hb2
  have K2 : Kept w w2 := KA'.out.then K02
  have r0 := K02.row HB0.out
  have r1 := K02.row HB1.out
  have hy2 : OwnRuns (w.heap.size + 2) (takeL s n) y w2 := hy.base (by have := K1.out.size; have := HSZ.out; omega)
  have HY := Lib.hid hy2
  obtain ⟨py, cy, hye, -, -⟩ := own_slice hy2
  have c0 : w2.cell? ⟨w.heap.size, 0, none⟩ = some (.int .i64 (fr : Int)) := by rw [cell_of_row _ _ _ _ _ _ r0]; rfl
  have c1 : w2.cell? ⟨w.heap.size, 1, none⟩ = some (.int .i64 (te : Int)) := by rw [cell_of_row _ _ _ _ _ _ r0]; rfl
  have c2 : w2.cell? ⟨w.heap.size, 2, none⟩ = some (.slice p nl c) := by rw [cell_of_row _ _ _ _ _ _ r0]; rfl
  have d0 : w2.cell? ⟨w.heap.size + 1, 0, none⟩ = some (.int .i64 0) := by rw [cell_of_row _ _ _ _ _ _ r1]; rfl
  have d1 : w2.cell? ⟨w.heap.size + 1, 1, none⟩ = some (.int .i64 0) := by rw [cell_of_row _ _ _ _ _ _ r1]; rfl
  have d2 : w2.cell? ⟨w.heap.size + 1, 2, none⟩ = some (.slice none 0 0) := by rw [cell_of_row _ _ _ _ _ _ r1]; rfl
  have f2 := frozen_of_row w2 w.heap.size 2 _ _ r0
  have g0 := frozen_of_row w2 (w.heap.size + 1) 0 _ _ r1
  have g1 := frozen_of_row w2 (w.heap.size + 1) 1 _ _ r1
  have g2 := frozen_of_row w2 (w.heap.size + 1) 2 _ _ r1
  have HR1 := Lib.hid r1
  have HR0 := Lib.hid r0
  have HK2 := Lib.hid K2
  have HSZ2 : Hid (w.heap.size + 2 ≤ w2.heap.size) := Lib.hid (by have := K02.size; have := HSZ.out; omega)
  obtain ⟨ln, hln⟩ : ∃ ln, ln = (takeL s n).length := ⟨_, rfl⟩
  rw [← hln] at hye
  subst hye
  clear L1 hy hy2 hb2 K2 K02 r0 r1 hln
  by_cases he : er = 0
  · have JN2 := JNH.out he w2 HK2.out _ _ HY.out
    have HYY := Lib.hid (HYS.out he)
    subst he
    clear JNH c0 c1 d0 d1 d2 f2 g0 g1 g2
    go_wp2_with fail
    refine JN2.mono ?_
    rintro e w3 ⟨z, rfl, hz, hb3⟩
    obtain ⟨pz, cz, hze, -, -⟩ := own_slice hz
    have HZ : Hid (OwnRuns (w.heap.size + 2) (runsA (fun k => hasR tl k || hasR (takeL s n) k)) z w3) := Lib.hid (hz.base HSZ2.out)
    obtain ⟨lz, hlz⟩ : ∃ lz, lz = (runsA (fun k => hasR tl k || hasR (takeL s n) k)).length := ⟨_, rfl⟩
    rw [← hlz] at hze
    subst hze
    have r0 := Kept.row hb3 HR0.out
    have r1 := Kept.row hb3 HR1.out
    have c0 : w3.cell? ⟨w.heap.size, 0, none⟩ = some (.int .i64 (fr : Int)) := by rw [cell_of_row _ _ _ _ _ _ r0]; rfl
    have c1 : w3.cell? ⟨w.heap.size, 1, none⟩ = some (.int .i64 (te : Int)) := by rw [cell_of_row _ _ _ _ _ _ r0]; rfl
    have c2 : w3.cell? ⟨w.heap.size, 2, none⟩ = some (.slice p nl c) := by rw [cell_of_row _ _ _ _ _ _ r0]; rfl
    have d0 : w3.cell? ⟨w.heap.size + 1, 0, none⟩ = some (.int .i64 0) := by rw [cell_of_row _ _ _ _ _ _ r1]; rfl
    have d1 : w3.cell? ⟨w.heap.size + 1, 1, none⟩ = some (.int .i64 0) := by rw [cell_of_row _ _ _ _ _ _ r1]; rfl
    have d2 : w3.cell? ⟨w.heap.size + 1, 2, none⟩ = some (.slice none 0 0) := by rw [cell_of_row _ _ _ _ _ _ r1]; rfl
    have f2 := frozen_of_row w3 w.heap.size 2 _ _ r0
    have g0 := frozen_of_row w3 (w.heap.size + 1) 0 _ _ r1
    have g1 := frozen_of_row w3 (w.heap.size + 1) 1 _ _ r1
    have g2 := frozen_of_row w3 (w.heap.size + 1) 2 _ _ r1
    have HK3 := HK2.out.then hb3
    have HY3 : Hid (OwnRuns (w.heap.size + 2) (takeL s n) (.slice py ln cy) w3) := Lib.hid (own_stay HY.out (fun j hj => hb3.block j (HY.out.lt j hj).2))
    clear hz hb3 JN2 hlz
    have KF : Kept w ((((w3.setCell ⟨w.heap.size, 2, none⟩ (.slice pz lz cz)).setCell ⟨w.heap.size + 1, 0, none⟩ (.int .i64 (fr : Int))).setCell ⟨w.heap.size + 1, 1, none⟩ (.int .i64 (te : Int))).setCell ⟨w.heap.size + 1, 2, none⟩ (.slice pz lz cz)) := Below.setCell (Below.setCell (Below.setCell (Below.setCell HK3 (Nat.le_refl _) _) (Nat.le_succ _) _) (Nat.le_succ _) _) (Nat.le_succ _) _
    have HROWF := set3_row ((set_other w3 w.heap.size 2 (w.heap.size + 1) (.slice pz lz cz) (by omega)).trans r1) (.int .i64 (fr : Int)) (.int .i64 (te : Int)) (.slice pz lz cz)
    have HSTAY : ∀ j, w.heap.size + 2 ≤ j → ((((w3.setCell ⟨w.heap.size, 2, none⟩ (.slice pz lz cz)).setCell ⟨w.heap.size + 1, 0, none⟩ (.int .i64 (fr : Int))).setCell ⟨w.heap.size + 1, 1, none⟩ (.int .i64 (te : Int))).setCell ⟨w.heap.size + 1, 2, none⟩ (.slice pz lz cz)).heap[j]? = w3.heap[j]? := fun j hj => by
      rw [set_other _ _ _ _ _ (by omega : j ≠ w.heap.size + 1), set_other _ _ _ _ _ (by omega : j ≠ w.heap.size + 1), set_other _ _ _ _ _ (by omega : j ≠ w.heap.size + 1), set_other _ _ _ _ _ (by omega : j ≠ w.heap.size)]
    have HKF := Lib.hid KF
    have HRF := Lib.hid HROWF
    have HST := Lib.hid HSTAY
    clear KF HROWF HSTAY
    go_wp2
    refine bodyPost_ret (results_cell2 Try.results29 _ _ (w.heap.size + 1) 39 _ (0, 0) _ rfl HRF.out Try.underlying39 rfl (by kernel_rfl)) rfl ?_
    refine ⟨_, _, rfl, ?_, OwnRuns.base (show OwnRuns (w.heap.size + 2) (takeL s n) _ _ from own_stay HY3.out (fun j hj => HST.out j (HY3.out.lt j hj).1)) (by omega), Or.inr ⟨_, _, _, _, rfl, OwnRuns.base (show OwnRuns (w.heap.size + 2) (runsA (fun k => hasR tl k || hasR (takeL s n) k)) _ _ from own_stay HZ.out (fun j hj => HST.out j (HZ.out.lt j hj).1)) (by omega)⟩, HKF.out⟩
    rw [HYY.out.1]
    exact MpAt.of_own (s := ⟨fr, te, fun k => s.tk k || lowF (freeF s) n.toNat k⟩) (own_stay HZ.out (fun j hj => HST.out j (HZ.out.lt j hj).1)) HYY.out.2
  · have be : (er != 0) = true := bne_iff_ne.2 he
    have HS := Lib.hid (HNS.out he)
    clear he JNH
    have K2 := HK2.out
    have r1 := HR1.out
    have KF : Kept w (((w2.setCell ⟨w.heap.size + 1, 0, none⟩ (.int .i64 (fr : Int))).setCell ⟨w.heap.size + 1, 1, none⟩ (.int .i64 (te : Int))).setCell ⟨w.heap.size + 1, 2, none⟩ (.slice p nl c)) := Below.setCell (Below.setCell (Below.setCell K2 (Nat.le_succ _) _) (Nat.le_succ _) _) (Nat.le_succ _) _
    have HROWF := set3_row r1 (.int .i64 (fr : Int)) (.int .i64 (te : Int)) (.slice p nl c)
    have HKF := Lib.hid KF
    have HRF := Lib.hid HROWF
    clear KF HROWF
    go_wp2
    refine bodyPost_ret (results_cell2 Try.results29 _ _ (w.heap.size + 1) 39 _ (0, 0) _ rfl HRF.out Try.underlying39 rfl (by kernel_rfl)) rfl ?_
    refine ⟨_, _, rfl, ?_, ?_, Or.inl rfl, HKF.out⟩
    · rw [HS.out.1]; exact HM.out.later HKF.out
    · rw [HS.out.2]; exact World.ownsRow_nil _ _ _ _

end Go.Proofs.Ytkdodffnakdckaa
