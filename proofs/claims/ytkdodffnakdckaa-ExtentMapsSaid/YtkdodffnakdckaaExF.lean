/- The law ExtentMaps out of the contracts. -/
import Derived.Test.YtkdodffnakdckaaExO
import Derived.Deep.RegionHeld
import Derived.Deep.MidRow
namespace Go.Proofs.Ytkdodffnakdckaa
open Go.RowKit

/-- A call, by its contract. -/
theorem wp_called {P : Program} {o : Oper} {a : Act} {w : World} {K : Act → World → Prop} {Q : Exit → Act → World → Prop} (f : FuncId) (args : Array Value)
    (ho : (execOp a.eval o).run P w = .ok (.enter f args) w) (h : Calls P f args w fun e w' => ∃ v, e = .returned v ∧ K (a.put o.dst v) w') : Oper.wp P o a w K Q := by
  unfold Oper.wp
  rw [ho]
  exact h.mono fun e w' ⟨v, he, hk⟩ => by subst he; exact hk

theorem infoRs : (Try.prog.info? 22).map (fun i => (i.zero, i.size, i.bytes)) = some (some (.slice none 0 0), 1, 24) := by kernel_rfl
theorem sizeMp : (Try.prog.info? 39).map (·.size) = some 3 := by kernel_rfl
theorem MpAt.slice {s : Mp} {tv : Value} {w : World} (h : MpAt s (mpV s tv) w) : ∃ p n c, tv = .slice p n c := by
  obtain ⟨tl, tv', he, ht, h3, h4⟩ := h
  have e : tv = tv' := by
    unfold mpV at he
    simp only [Value.agg.injEq] at he
    have := congrArg (fun a => a.getD 2 .nilFunc) he
    simpa using this
  subst e
  obtain ⟨p, c, hp, _⟩ := ht.out
  exact ⟨p, _, c, hp⟩
theorem wf_u8 {i : Int} (h : (Lit.int .u8 i).wf = true) : 0 ≤ i ∧ i ≤ 255 := by
  simpa [Lit.wf, IntKind.min, IntKind.max, IntKind.signed, IntKind.bits] using h
theorem range_mp {w : World} {b : Nat} {C : Array Value} {T : TypeId} {f : Nat × Nat} (g : w.heap[b]? = some (.cells C T f)) : w.rangeAt b 0 C.toList := range_of_row g

theorem takeS_fr (s : Mp) (n : Int) : (takeS s n).fr = s.fr := by unfold takeS; split <;> rfl
theorem takeS_to (s : Mp) (n : Int) : (takeS s n).to_ = s.to_ := by unfold takeS; split <;> rfl
theorem holdS_fr (s : Mp) (l : List (Int × Int)) : (holdS s l).fr = s.fr := by unfold holdS; split <;> rfl
theorem holdS_to (s : Mp) (l : List (Int × Int)) : (holdS s l).to_ = s.to_ := by unfold holdS; split <;> rfl
theorem giveS_fr (s : Mp) (l : List (Int × Int)) : (giveS s l).fr = s.fr := by unfold giveS; split <;> rfl
theorem giveS_to (s : Mp) (l : List (Int × Int)) : (giveS s l).to_ = s.to_ := by unfold giveS; split <;> rfl

set_option maxRecDepth 100000 in
set_option maxHeartbeats 16000000 in
theorem extentMaps_of (HP : XPlainOk) (HM : XMinusOk) (HN : XNewOk) (w : World) (a b : Int) (ha : I64 a) (hb : I64 b) (v : Value) (acs : List ActM) (hv : ActsM acs v w) :
    Calls Try.prog 6 #[.int .i64 a, .int .i64 b, v] w (LawPost w) := by
  have AW := Lib.hid (fun W => xawake_any HP HM W)
  have NW := HN a b w ha hb
  obtain ⟨hgood, p, c, rfl, hcell⟩ := hv
  have HGOOD := Lib.hid hgood
  have HCELL := Lib.hid hcell
  obtain ⟨n, hn⟩ : ∃ n, n = acs.length := ⟨_, rfl⟩
  have HNL := Lib.hid hn
  rw [← hn]
  clear HP HM HN hgood hcell hn ha hb
  by_cases hok : 0 ≤ a ∧ a ≤ b ∧ b ≤ 8192
  · have h1 : ¬ a < 0 := by omega
    have h2 : ¬ a > b := by omega
    have h3 : ¬ b > 8192 := by omega
    have HOK := Lib.hid hok
    clear hok
    go_enter Try.func6, Try.ntmps6
    go_wp2_with fail
    refine NW.mono ?_
    rintro e w1 ⟨hb, hx⟩
    rcases hx with ⟨hbad, -⟩ | ⟨-, ad, P, Bs, rfl, hD, hp⟩
    · exact absurd HOK.out hbad
    have HD := Lib.hid hD
    have hok := HOK.out
    obtain ⟨fr, rfl⟩ : ∃ fr : Nat, a = fr := ⟨a.toNat, by omega⟩
    obtain ⟨te, rfl⟩ : ∃ te : Nat, b = te := ⟨b.toNat, by omega⟩
    have e0 : (⟨(fr : Int).toNat, (te : Int).toNat, fun _ => false⟩ : Mp) = ⟨fr, te, fun _ => false⟩ := by rw [Int.toNat_natCast, Int.toNat_natCast]
    rw [e0] at hp
    have OK0 : Hid ((⟨fr, te, fun _ => false⟩ : Mp).ok) := Lib.hid ⟨by show fr ≤ te; omega, by show te ≤ 8192; omega⟩
    have hk1 : Kept w1 (w1.alloc (.cells #[.int .i64 (fr : Int), .int .i64 (te : Int), .slice none 0 0] 39)) := box_below _ _
    have hsz := (show Kept w w1 from hb).size
    have M0 : Hid (MI w.heap.size w1.heap.size P ⟨fr, te, fun _ => false⟩ (.slice none 0 0) Bs (.slice none 0 0) [] [] (w1.alloc (.cells #[.int .i64 (fr : Int), .int .i64 (te : Int), .slice none 0 0] 39))) := Lib.hid
      ⟨hD.kept hp hk1, heap_alloc_last _ _, ⟨[], _, rfl, RunsAt.nil _ 0, Nat.zero_le _, fun k hk => rfl⟩, (fun a n c e => by simp at e), World.ownsRow_nil _ _ _ _, rfl, fun i hi => by simp at hi, fun e => by have := (hD.above _ _ _ hp _ e).2; omega, fun k e => by simp [Value.ownBlock] at e, hsz⟩
    have K0 : Hid (Kept w (w1.alloc (.cells #[.int .i64 (fr : Int), .int .i64 (te : Int), .slice none 0 0] 39))) := Lib.hid ((show Kept w w1 from hb).then hk1)
    obtain ⟨bw, hbw⟩ : ∃ bw, bw = w1.heap.size := ⟨_, rfl⟩
    have HBW := Lib.hid hbw
    rw [← hbw] at M0
    have h22 : ¬ te < fr := by omega
    have h33 : ¬ (8192 : Int) < (te : Int) := by omega
    clear NW hb hD hp e0 hk1 hsz HOK hok hbw
    go_wp2
    rw [← HBW.out]
    clear h1 h2 h3 h22 h33
    obtain ⟨W1, hW1⟩ : ∃ W1, W1 = w1.alloc (.cells #[.int .i64 (fr : Int), .int .i64 (te : Int), .slice none 0 0] 39) := ⟨_, rfl⟩
    rw [← hW1] at M0 K0
    rw [← hW1]
    clear hW1
    go_loopg [10, 11] (min n 14) (fun gh s10 s11 wx => ∃ (i : Nat) (s : Mp) (tv : Value) (Bs : Nat → Prop) (tk : Value) (Ls : List (List (Int × Int))) (vs : List Value), i + gh = min n 14 ∧ tk = s10 ∧ s11 = .int .i64 i ∧ Hid (s.ok) ∧ Hid (vs.length ≤ i) ∧ Hid (MI w.heap.size bw P s tv Bs tk Ls vs wx) ∧ Hid (Kept w wx))
    case atStart => exact ⟨0, ⟨fr, te, fun _ => false⟩, _, Bs, _, [], [], by omega, rfl, rfl, OK0, Lib.hid (Nat.le_refl _), M0, K0⟩
    case round =>
      clear M0 K0 OK0
      obtain ⟨i, s, tv, Bs, tk, Ls, vs, hi, rfl, rfl, OK, HVI, HMI, K⟩ := hrel
      obtain ⟨i1, hi1⟩ : ∃ i1, i1 = i + 1 := ⟨_, rfl⟩
      have v1 : IntKind.i64.wrap ((i : Int) + 1) = (i1 : Int) := by rw [show (i : Int) + 1 = (i1 : Int) by omega]; exact IntWalk.i64_in _ (by omega)
      by_cases hin : i < min n 14
      · have hin1 : (i : Int) < n := by omega
        have hin2 : (i : Int) < 14 := by omega
        have bk1 : decide ((i : Int) < (n : Int)) = true := by simpa using hin1
        have hi0 : (0 : Int) ≤ i := by omega
        have hil : i < acs.length := by rw [← HNL.out]; omega
        rcases HCELL.out with h0 | ⟨ba, oa, rfl, hcell⟩
        · omega
        have hc := hcell i hil
        have hg := HGOOD.out _ (List.getElem_mem hil)
        obtain ⟨r, hr⟩ : ∃ r, r = acs[i] := ⟨_, rfl⟩
        rw [← hr] at hc hg
        obtain ⟨kd, nn, l, lv⟩ := r
        have q0 : wr.cell? ⟨ba, oa + i * 3, none⟩ = some (.int .u8 kd) := K.out.cell (hc 0 (by omega))
        have q1 : wr.cell? ⟨ba, oa + i * 3 + 1, none⟩ = some (.int .i64 nn) := K.out.cell (hc 1 (by omega))
        have q2 : wr.cell? ⟨ba, oa + i * 3 + 2, none⟩ = some lv := K.out.cell (hc 2 (by omega))
        have HNN : Hid (I64 nn) := Lib.hid (wf_I64 hg.n)
        have hlv := hg.lv
        have hkd : 0 ≤ kd ∧ kd ≤ 255 := wf_u8 hg.kd
        have hMIcs := HMI.out.cs HD.out
        have hu : LiveAt (l.take 30) (fewV l lv) (C1Of Bs bw tk) wr := (LiveAt.old (fewV_at hlv) (fun k hk => (hMIcs k hk).1)).later K.out
        obtain ⟨pl, cl, hlve, -, -⟩ := hlv.out
        have FW := few_val l lv (wr.alloc (.cells #[.int .u8 kd, .int .i64 nn, lv] 42)) (hlv.later (K.out.then (box_below _ _)))
        have hl30 : (l.take 30).length ≤ 65536 := Nat.le_trans (take30 l) (by omega)
        obtain ⟨u, hue⟩ : ∃ u, u = fewV l lv := ⟨_, rfl⟩
        rw [← hue] at hu FW
        obtain ⟨lf, hlf⟩ : ∃ lf, lf = l.take 30 := ⟨_, rfl⟩
        rw [← hlf] at hu hl30
        obtain ⟨nl, hnl⟩ : ∃ nl, nl = l.length := ⟨_, rfl⟩
        rw [← hnl] at hlve
        subst hlve
        have KA : Kept wr (wr.alloc (.cells #[.int .u8 kd, .int .i64 nn, .slice pl nl cl] 42)) := box_below _ _
        have hrA := heap_alloc_last wr (.cells #[.int .u8 kd, .int .i64 nn, .slice pl nl cl] 42)
        have hszA : (wr.alloc (.cells #[.int .u8 kd, .int .i64 nn, .slice pl nl cl] 42)).heap.size = wr.heap.size + 1 := by simp
        obtain ⟨WA, hWA⟩ : ∃ WA, WA = wr.alloc (.cells #[.int .u8 kd, .int .i64 nn, .slice pl nl cl] 42) := ⟨_, rfl⟩
        rw [← hWA] at KA hrA hszA FW
        have HWA := Lib.hid hWA
        have HU : Hid (LiveAt lf u (C1Of Bs bw tk) WA) := Lib.hid (hu.later KA)
        have HL30 := Lib.hid hl30
        have HMA := HMI.out.later HD.out KA
        have HKA : Hid (Kept w WA) := Lib.hid (K.out.then KA)
        have HRA := Lib.hid hrA
        have HSA := Lib.hid hszA
        obtain ⟨pt, ct, htk, -, hct⟩ := own_slice HMA.own
        obtain ⟨pv, nv, cv, htv⟩ := HMA.mpw.slice
        subst htv
        have hT := HMA.begin HD.out
        have a0 : WA.cell? ⟨wr.heap.size, 0, none⟩ = some (.int .u8 kd) := by rw [cell_of_row _ _ _ _ _ _ hrA]; rfl
        have a1 : WA.cell? ⟨wr.heap.size, 1, none⟩ = some (.int .i64 nn) := by rw [cell_of_row _ _ _ _ _ _ hrA]; rfl
        have a2 : WA.cell? ⟨wr.heap.size, 2, none⟩ = some (.slice pl nl cl) := by rw [cell_of_row _ _ _ _ _ _ hrA]; rfl
        have b0 : WA.cell? ⟨bw, 0, none⟩ = some (.int .i64 (s.fr : Int)) := by rw [cell_of_row _ _ _ _ _ _ HMA.roww]; rfl
        have b1 : WA.cell? ⟨bw, 1, none⟩ = some (.int .i64 (s.to_ : Int)) := by rw [cell_of_row _ _ _ _ _ _ HMA.roww]; rfl
        have b2 : WA.cell? ⟨bw, 2, none⟩ = some (.slice pv nv cv) := by rw [cell_of_row _ _ _ _ _ _ HMA.roww]; rfl
        have HEL := Lib.hid HMA.els
        have HCT := Lib.hid hct
        have KX0 : Kept WA (WA.alloc (.cells #[.int .i64 (s.fr : Int), .int .i64 (s.to_ : Int), .slice pv nv cv] 39)) := box_below _ _
        obtain ⟨hT, hcs1⟩ := hT
        have hU1 := (HU.out.turn hcs1 (ButBy.below KX0))
        have hEL1 : ∀ j (hj : j < vs.length), LiveAt (Ls.getD j []) vs[j] (CsOf Bs bw (WA.heap.size) tk) (WA.alloc (.cells #[.int .i64 (s.fr : Int), .int .i64 (s.to_ : Int), .slice pv nv cv] 39)) ∧ (Ls.getD j []).length ≤ 16 := hT.els
        obtain ⟨WX, hWX⟩ : ∃ WX, WX = WA.alloc (.cells #[.int .i64 (s.fr : Int), .int .i64 (s.to_ : Int), .slice pv nv cv] 39) := ⟨_, rfl⟩
        have hT' : TI w.heap.size bw (WA.heap.size) P s s s (.slice pv nv cv) (.slice pv nv cv) Bs tk Ls vs WX := by rw [hWX]; exact hT
        rw [← hWX] at hU1 hEL1 KX0
        have x0 : (WA.alloc (.cells #[.int .i64 (s.fr : Int), .int .i64 (s.to_ : Int), .slice pv nv cv] 39)).cell? ⟨bw, 0, none⟩ = some (.int .i64 (s.fr : Int)) := by rw [← hWX, cell_of_row _ _ _ _ _ _ hT'.roww]; rfl
        have x1 : (WA.alloc (.cells #[.int .i64 (s.fr : Int), .int .i64 (s.to_ : Int), .slice pv nv cv] 39)).cell? ⟨bw, 1, none⟩ = some (.int .i64 (s.to_ : Int)) := by rw [← hWX, cell_of_row _ _ _ _ _ _ hT'.roww]; rfl
        have x2 : (WA.alloc (.cells #[.int .i64 (s.fr : Int), .int .i64 (s.to_ : Int), .slice pv nv cv] 39)).cell? ⟨bw, 2, none⟩ = some (.slice pv nv cv) := by rw [← hWX, cell_of_row _ _ _ _ _ _ hT'.roww]; rfl
        have y0 : (WA.alloc (.cells #[.int .i64 (s.fr : Int), .int .i64 (s.to_ : Int), .slice pv nv cv] 39)).cell? ⟨wr.heap.size, 0, none⟩ = some (.int .u8 kd) := (show Kept WA _ from box_below _ _).cell a0
        have y1 : (WA.alloc (.cells #[.int .i64 (s.fr : Int), .int .i64 (s.to_ : Int), .slice pv nv cv] 39)).cell? ⟨wr.heap.size, 1, none⟩ = some (.int .i64 nn) := (show Kept WA _ from box_below _ _).cell a1
        have HU1 := Lib.hid hU1
        have HEL1 := Lib.hid hEL1
        have HT := Lib.hid hT'
        have HWX := Lib.hid hWX
        have KX : Hid (Kept WA WX) := Lib.hid KX0
        obtain ⟨m, hm⟩ : ∃ m, m = vs.length := ⟨_, rfl⟩
        have HM := Lib.hid hm
        rw [← hm] at htk hct
        have HTK := Lib.hid htk
        have HCT2 := Lib.hid hct
        subst htk
        obtain ⟨kq, rfl⟩ : ∃ kq : Nat, kd = kq := ⟨kd.toNat, by omega⟩
        have r5 : ((kq : Int)).tmod 5 = ((kq % 5 : Nat) : Int) := rfl
        obtain ⟨κ, hκ⟩ : ∃ κ, κ = kq % 5 := ⟨_, rfl⟩
        have hκ5 : κ < 5 := by omega
        rw [← hκ] at r5
        obtain ⟨irs, hirs, hzz⟩ := Option.map_eq_some_iff.1 infoRs
        simp only [Prod.mk.injEq] at hzz
        obtain ⟨hz0, hz1, hz2⟩ := hzz
        have HIR := Lib.hid hirs
        have HZ0 := Lib.hid hz0
        have HZ1 := Lib.hid hz1
        have HZ2 := Lib.hid hz2
        have HL30' : Hid (lf.length ≤ 65536) := HL30
        have hmi : m ≤ 14 := by have := HVI.out; omega
        have HHK : Hid (κ < 5) := Lib.hid hκ5
        clear hc hg hr hlv hkd hMIcs hu hl30 hue hlf hnl KA hrA hszA hWA HMI HMA hT hT' hcs1 hU1 hEL1 hWX KX0 hm hct hκ hκ5 hcell hirs hz0 hz1 hz2
        have hκ : κ = 0 ∨ κ = 1 ∨ κ = 2 ∨ κ = 3 ∨ κ = 4 := by have := HHK.out; omega
        rcases hκ with rfl | rfl | rfl | rfl | rfl
        · have ll_eq : True := trivial
          obtain ⟨ll, hll⟩ : ∃ ll, ll = lf := ⟨_, rfl⟩
          obtain ⟨lx, hlx⟩ : ∃ lx, lx = u := ⟨_, rfl⟩
          have HLL : Hid (LiveAt ll lx (CsOf Bs bw (WA.heap.size) (.slice pt m ct)) WX) := Lib.hid (by rw [hll, hlx]; exact HU1.out)
          have LL : Hid (ll.length ≤ 65536) := Lib.hid (by rw [hll]; exact HL30.out)
          rw [← hlx] at FW
          clear hll hlx ll_eq HU1
          go_wp2_with fail
          rw [← HWA.out]
          refine FW.mono ?_
          rintro e w' ⟨rfl, rfl⟩
          clear FW
          go_wp2_with fail
          rw [← HWX.out]
          refine (rtake_any s OK.out (mpV s (.slice pv nv cv)) WX HT.out.mpw nn HNN.out).mono ?_
          rintro e W2 ⟨u', told, rfl, hmp, hown, hnew, hb⟩
          have hT2 := HT.out.later HD.out hb
          obtain ⟨t', rfl, hapt⟩ := MpNew.apart HD.out HT.out hnew hmp (takeS_fr _ _) (takeS_to _ _)
          obtain ⟨pw, nw, cw, htw⟩ := hmp.slice
          subst htw
          have OK' : Hid ((takeS s nn).ok) := Lib.hid (takeS_ok OK.out _)
          have K2 : Hid (Kept WX W2) := Lib.hid hb
          obtain ⟨s', hs'⟩ : ∃ s', s' = takeS s nn := ⟨_, rfl⟩
          rw [← hs'] at OK' hmp
          rw [← hs']
          have HS' := Lib.hid hs'
          have g0 : W2.cell? ⟨WA.heap.size, 0, none⟩ = some (.int .i64 (s.fr : Int)) := by rw [cell_of_row _ _ _ _ _ _ hT2.rowx]; rfl
          have g1 : W2.cell? ⟨WA.heap.size, 1, none⟩ = some (.int .i64 (s.to_ : Int)) := by rw [cell_of_row _ _ _ _ _ _ hT2.rowx]; rfl
          have g2 : W2.cell? ⟨WA.heap.size, 2, none⟩ = some (.slice pv nv cv) := by rw [cell_of_row _ _ _ _ _ _ hT2.rowx]; rfl
          have f0 := frozen_of_row W2 (WA.heap.size) 0 _ _ hT2.rowx
          have f1 := frozen_of_row W2 (WA.heap.size) 1 _ _ hT2.rowx
          have f2 := frozen_of_row W2 (WA.heap.size) 2 _ _ hT2.rowx
          have p1 : W2.cell? ⟨wr.heap.size, 1, none⟩ = some (.int .i64 nn) := K2.out.cell (by rw [HWX.out]; exact y1)
          have p0 : W2.cell? ⟨wr.heap.size, 0, none⟩ = some (.int .u8 (kq : Int)) := K2.out.cell (by rw [HWX.out]; exact y0)
          obtain ⟨hT3, hbx⟩ := hT2.setx HD.out hmp hapt
          have hF0 : W2.heap[wr.heap.size]? = some (.cells #[.int .u8 (kq : Int), .int .i64 nn, .slice pl nl cl] 42 (0, 0)) := by
            have h := KX.out.row HRA.out
            exact K2.out.row h
          obtain ⟨W3, hW3⟩ : ∃ W3, W3 = (((W2.setCell ⟨WA.heap.size, 0, none⟩ (.int .i64 (s'.fr : Int))).setCell ⟨WA.heap.size, 1, none⟩ (.int .i64 (s'.to_ : Int))).setCell ⟨WA.heap.size, 2, none⟩ (.slice pw nw cw)) := ⟨_, rfl⟩
          rw [← hW3] at hT3 hbx
          have HW3 := Lib.hid hW3
          have HT3 := Lib.hid hT3
          have hcs2 := hT2.cs HD.out
          have K3 : Hid (Kept w W3) := Lib.hid (ButBy.kept hbx (fun k hk => (hcs2 k hk).1) ((HKA.out.then KX.out).then K2.out) ((HKA.out.then KX.out).then K2.out).size)
          have HLX3 : Hid (LiveAt ll lx (CsOf Bs bw (WA.heap.size) (.slice pt m ct)) W3) := Lib.hid ((HLL.out.later K2.out).turn (fun k e => Or.inl e) hbx)
          have s0 : W3.cell? ⟨wr.heap.size, 1, none⟩ = some (.int .i64 nn) := by
            rw [hW3, cell_of_row _ _ _ _ _ _ ((set_other _ _ _ _ _ (by have := HSA.out; omega : wr.heap.size ≠ WA.heap.size)).trans ((set_other _ _ _ _ _ (by have := HSA.out; omega : wr.heap.size ≠ WA.heap.size)).trans ((set_other _ _ _ _ _ (by have := HSA.out; omega : wr.heap.size ≠ WA.heap.size)).trans hF0)))]; rfl
          rw [HW3.out] at s0
          have LT : Hid (LiveAt (takeL s nn) told (CsOf Bs bw (WA.heap.size) (.slice pt m ct)) W3) := Lib.hid ((LiveAt.own hown (lowL_wf _ _) (fun k hk => (HT.out.cs HD.out k hk).2)).turn (fun k e => Or.inl e) hbx)
          obtain ⟨pd, cd, htd, -, -⟩ := own_slice hown
          obtain ⟨lg, hlg⟩ : ∃ lg, lg = takeL s nn := ⟨_, rfl⟩
          have HLGE := Lib.hid hlg
          rw [← hlg] at LT htd
          obtain ⟨nd, hnd⟩ : ∃ nd, nd = lg.length := ⟨_, rfl⟩
          rw [← hnd] at htd
          subst htd
          have hl16 : lg.length ≤ 16 := by rw [hlg]; exact lowL_len _ _
          have HL16 := Lib.hid hl16
          have HLG : Hid (lg.length ≤ 1048576) := Lib.hid (by omega)
          obtain ⟨er, her⟩ : ∃ er, er = takeE s nn := ⟨_, rfl⟩
          have HERE := Lib.hid her
          rw [← her]
          have xer : (er != er) = false := by simp
          clear hlg hnd hl16 her hown
          clear hT2 hapt hmp hnew hb hs' hW3 hT3 hbx hcs2 hF0 x0 x1 x2 y0 y1 b0 b1 b2 a0 a1 a2
          unfold mpV
          go_wp2_with fail
          rw [← HW3.out]
          refine (HD.out.take s Bs W3 nn HT3.out.hp OK.out HNN.out).mono ?_
          rintro e W4 ⟨got, Bs', rfl, hy, hap, hnw, hp, hsub, hbut⟩
          rw [← HERE.out]
          rw [← HLGE.out] at hy
          rw [← HS'.out] at hp
          obtain ⟨hT4, hcs4, hbc4⟩ := HT3.out.turn hp hsub hbut
          have hG4 := HT3.out.told HD.out hy hap hnw
          have hTD4 := LT.out.turn hcs4 hbc4
          have hcs3 := HT3.out.cs HD.out
          have hK4 : Kept w W4 := ButBy.kept hbc4 (fun k hk => (hcs3 k hk).1) K3.out K3.out.size
          have hsz4 : w.heap.size ≤ W4.heap.size := hK4.size
          have HOWN : Hid ((W4.alloc (.cells #[.slice pd nd cd] 22)).ownsRow w.heap.size 22 1 (.slice pt m ct) m vs) := Lib.hid (by have h := hT4.own.alloc (.cells #[.slice pd nd cd] 22); rw [← HM.out] at h; exact h)
          have HFN : Hid (FlatAt 1 1 [.slice pd nd cd] (.slice (some ⟨W4.heap.size, 0, none⟩) 1 1) (W4.alloc (.cells #[.slice pd nd cd] 22))) := Lib.hid (FlatAt.new W4 22 1 1 1 #[.slice pd nd cd] rfl (by intro x hx; simp at hx; subst hx; rfl))
          have HSZ4 := Lib.hid hsz4
          have HT4 := Lib.hid hT4
          have HG4 := Lib.hid hG4
          have HTD4 := Lib.hid hTD4
          have HK4 := Lib.hid hK4
          clear hy hap hnw hp hsub hbut hT4 hcs4 hbc4 hG4 hTD4 hcs3 hK4 hsz4 s0 LT
          go_wp2_with (at_builtin; refine wpList_append_flat rfl _ _ 40 rfl w.heap.size 22 irs (.slice none 0 0) 1 24 Try.underlying40 HIR.out HZ0.out HZ1.out HZ2.out rfl (by decide) _ m vs rfl HOWN.out _ 1 _ rfl HFN.out ?wa1 ?wa2 ?wa3 ?_)
          case wa1 => unfold maxLen; omega
          case wa2 => omega
          try case wa3 => have := HSZ4.out; first | omega | (simp; omega)
          intro v2 W5 hown2 hgr2 hwh2
          obtain ⟨p2, c2, hv2, -, -⟩ := own_slice hown2
          obtain ⟨hT5, hcs5, hbc5⟩ := HT4.out.app HD.out HTD4.out HL16.out (box_below W4 _) (by rw [← HM.out]; exact hown2) hgr2 (by simpa using hwh2)
          have HG := Lib.hid (HG4.out.turn hcs5 hbc5)
          have HTD := Lib.hid (HTD4.out.turn hcs5 hbc5)
          have hcs4 := HT4.out.cs HD.out
          have K5 : Hid (Kept w W5) := Lib.hid (ButBy.kept hbc5 (fun k hk => (hcs4 k hk).1) HK4.out HK4.out.size)
          have HT5 := Lib.hid hT5
          have HLEN : Hid ((vs ++ [Value.slice pd nd cd]).length ≤ i1) := Lib.hid (by rw [List.length_append]; have := HVI.out; show vs.length + 1 ≤ i1; omega)
          subst hv2
          clear hown2 hgr2 hwh2 hT5 hcs5 hbc5 hcs4 HT4 HG4 HTD4 HK4
          have hT5 := HT5.out
          have x0 : W5.cell? ⟨WA.heap.size, 0, none⟩ = some (.int .i64 (s'.fr : Int)) := by rw [cell_of_row _ _ _ _ _ _ hT5.rowx]; rfl
          have x1 : W5.cell? ⟨WA.heap.size, 1, none⟩ = some (.int .i64 (s'.to_ : Int)) := by rw [cell_of_row _ _ _ _ _ _ hT5.rowx]; rfl
          have x2 : W5.cell? ⟨WA.heap.size, 2, none⟩ = some (.slice pw nw cw) := by rw [cell_of_row _ _ _ _ _ _ hT5.rowx]; rfl
          have b0 : W5.cell? ⟨bw, 0, none⟩ = some (.int .i64 (s.fr : Int)) := by rw [cell_of_row _ _ _ _ _ _ hT5.roww]; rfl
          have b1 : W5.cell? ⟨bw, 1, none⟩ = some (.int .i64 (s.to_ : Int)) := by rw [cell_of_row _ _ _ _ _ _ hT5.roww]; rfl
          have b2 : W5.cell? ⟨bw, 2, none⟩ = some (.slice pv nv cv) := by rw [cell_of_row _ _ _ _ _ _ hT5.roww]; rfl
          have f0 := frozen_of_row W5 bw 0 _ _ hT5.roww
          have f1 := frozen_of_row W5 bw 1 _ _ hT5.roww
          have f2 := frozen_of_row W5 bw 2 _ _ hT5.roww
          obtain ⟨hT6, hb6⟩ := hT5.setw HD.out
          have hcs5 := hT5.cs HD.out
          have KW6 : Kept w (((W5.setCell ⟨bw, 0, none⟩ (.int .i64 (s'.fr : Int))).setCell ⟨bw, 1, none⟩ (.int .i64 (s'.to_ : Int))).setCell ⟨bw, 2, none⟩ (.slice pw nw cw)) := ButBy.kept hb6 (fun k hk => (hcs5 k hk).1) K5.out K5.out.size
          obtain ⟨W6, hW6⟩ : ∃ W6, W6 = (((W5.setCell ⟨bw, 0, none⟩ (.int .i64 (s'.fr : Int))).setCell ⟨bw, 1, none⟩ (.int .i64 (s'.to_ : Int))).setCell ⟨bw, 2, none⟩ (.slice pw nw cw)) := ⟨_, rfl⟩
          rw [← hW6] at hT6 hb6 KW6
          have HG6 := HG.out.turn (fun k e => Or.inl e) hb6
          have HTD6 := HTD.out.turn (fun k e => Or.inl e) hb6
          have hdr : Kept W6 W6.drew := (Below.refl _ _).drew
          have HW6 := Lib.hid hW6
          have HT7 := Lib.hid (hT6.later HD.out hdr)
          have K7 : Hid (Kept w W6.drew) := Lib.hid (KW6.then hdr)
          replace HG := Lib.hid (HG6.later hdr)
          replace HTD := Lib.hid (HTD6.later hdr)
          have HLF : Hid ((runsA (freeF s')).length ≤ 1048576) := Lib.hid (Nat.le_trans (runsA_len _) (by omega))
          obtain ⟨cn, hcn⟩ : ∃ cn, cn = cntA (freeF s') := ⟨_, rfl⟩
          have HCN := Lib.hid hcn
          have xcn : ((cn : Int) != (cn : Int)) = false := by simp
          clear hT5 hT6 hb6 hcs5 KW6 hW6 HG6 HTD6 hdr hcn HT5 K5
          go_wp2_with fail
          rw [← HW6.out]
          refine wp_region_held_drew (S := fun w' => w'.heap[bw]? = some (.cells (mpC s' (.slice pw nw cw)) 39 (0, 0))) (by kernel_rfl) (HT7.out.roww) (fun hHeld => ?_)
          refine wpAnyH_take (i := 0) (v := ?_) rfl (by kernel_rfl) (by kernel_rfl) (by kernel_rfl) (fun _ _ _ h => h) (Or.inl ⟨by first | kernel_rfl | rfl, ?_⟩) (by assumption) ?_
          case refine_2 => intro w hSw; go_simp; try with_reducible rfl
          refine wpAnyH_take (i := 1) (v := ?_) rfl (by kernel_rfl) (by kernel_rfl) (by kernel_rfl) (fun _ _ _ h => h) (Or.inl ⟨by first | kernel_rfl | rfl, ?_⟩) (by assumption) ?_
          case refine_2 => intro w hSw; go_simp; try with_reducible rfl
          refine wpAnyH_take (i := 2) (v := ?_) rfl (by kernel_rfl) (by kernel_rfl) (by kernel_rfl) (fun _ _ _ h => h) (Or.inl ⟨by first | kernel_rfl | rfl, ?_⟩) (by assumption) ?_
          case refine_2 => intro w hSw; go_simp; try with_reducible rfl
          refine wpAnyH_take (i := 3) (v := ?_) rfl (by kernel_rfl) (by kernel_rfl) (by kernel_rfl) (fun _ _ _ h => h) (Or.inl ⟨by first | kernel_rfl | rfl, ?_⟩) (by assumption) ?_
          case refine_2 => intro w hSw; go_simp; try with_reducible rfl
          refine wpAnyH_take (i := 4) (v := ?_) rfl (by kernel_rfl) (by kernel_rfl) (by kernel_rfl) (fun _ _ _ h => h) (Or.inl ⟨by first | kernel_rfl | rfl, ?_⟩) (by assumption) ?_
          case refine_2 => intro w hSw; go_simp; try with_reducible rfl
          refine wpAnyH_take (i := 5) (v := ?_) rfl (by kernel_rfl) (by kernel_rfl) (by kernel_rfl) (fun _ _ _ h => h) (Or.inl ⟨by first | kernel_rfl | rfl, ?_⟩) (by assumption) ?_
          case refine_2 => intro w hSw; go_simp; try with_reducible rfl
          refine wpAnyH_ready (rs := [6]) (by kernel_rfl) (by simp) (AllReadyH.cons rfl (fun K hK => ?_) AllReadyH.nil)
          rw [if_pos (by kernel_rfl)]
          refine wp_called 18 #[got, .slice pd nd cd] (by first | kernel_rfl | rfl) ((rsame_any lg lg got (.slice pd nd cd) _ HG.out.at_ HTD.out.at_ HLG.out).mono ?_)
          rintro e u1 ⟨rfl, hb⟩
          rw [decide_eq_true rfl]
          replace HT7 := Lib.hid (HT7.out.later HD.out hb)
          replace K7 := Lib.hid (K7.out.then hb)
          clear hb HG HTD
          refine ⟨_, rfl, ?_⟩
          refine hK.out _ _ HT7.out.roww (fun _ => ?_)
          clear hK K
          refine wpAnyH_take (i := 7) (v := ?_) rfl (by kernel_rfl) (by kernel_rfl) (by kernel_rfl) (fun _ _ _ h => h) (Or.inl ⟨by first | kernel_rfl | rfl, ?_⟩) (by assumption) ?_
          case refine_2 => intro w hSw; go_simp; try with_reducible rfl
          refine wpAnyH_take (i := 8) (v := ?_) rfl (by kernel_rfl) (by kernel_rfl) (by kernel_rfl) (fun _ _ _ h => h) (Or.inl ⟨by first | kernel_rfl | rfl, ?_⟩) (by assumption) ?_
          case refine_2 => intro w hSw; go_simp; try with_reducible rfl
          refine wpAnyH_take (i := 9) (v := ?_) rfl (by kernel_rfl) (by kernel_rfl) (by kernel_rfl) (fun _ _ _ h => h) (Or.inl ⟨by first | kernel_rfl | rfl, ?_⟩) (by assumption) ?_
          case refine_2 => intro w hSw; go_simp; try with_reducible rfl
          refine wpAnyH_take (i := 10) (v := ?_) rfl (by kernel_rfl) (by kernel_rfl) (by kernel_rfl) (fun _ _ _ h => h) (Or.inl ⟨by first | kernel_rfl | rfl, ?_⟩) (by assumption) ?_
          case refine_2 => intro w hSw; go_simp; try with_reducible rfl
          refine wpAnyH_take (i := 12) (v := .agg (mpC s' (.slice pw nw cw))) rfl (by kernel_rfl) (by kernel_rfl) (by kernel_rfl) (fun _ _ _ h => h) (yieldsIf_load_mid (by first | kernel_rfl | rfl) _ _ rfl bw 0 (by kernel_rfl) (mpC s' (.slice pw nw cw)).toList _ (fun _ h => range_of_row h) Try.underlying39 rfl sizeMp) (by assumption) ?_
          refine wpAnyH_ready (rs := [11]) (by kernel_rfl) (by simp) (AllReadyH.cons rfl (fun K hK => ?_) AllReadyH.nil)
          rw [if_pos (by kernel_rfl)]
          refine wp_called 35 #[.pointer (some ad)] (by first | kernel_rfl | rfl) ((HD.out.free s' Bs' _ HT7.out.hp OK'.out).mono ?_)
          rintro e u2 ⟨fz, rfl, hfz, -, hb⟩
          have HFZ := Lib.hid hfz
          replace HT7 := Lib.hid (HT7.out.later HD.out hb)
          replace K7 := Lib.hid (K7.out.then hb)
          clear hfz hb
          refine ⟨_, rfl, ?_⟩
          refine hK.out _ _ HT7.out.roww (fun _ => ?_)
          clear hK K
          refine wpAnyH_ready (rs := [13]) (by kernel_rfl) (by simp) (AllReadyH.cons rfl (fun K hK => ?_) AllReadyH.nil)
          rw [if_pos (by kernel_rfl)]
          refine wp_called 36 #[mpV s' (.slice pw nw cw)] (by first | kernel_rfl | rfl) ((rfree_any s' OK'.out (mpV s' (.slice pw nw cw)) _ HT7.out.mpw).mono ?_)
          rintro e u3 ⟨gz, rfl, hgz, hb⟩
          have HGZ := Lib.hid (hgz.at_ (runsA_wf _))
          replace HFZ := Lib.hid (HFZ.out.later hb)
          replace HT7 := Lib.hid (HT7.out.later HD.out hb)
          replace K7 := Lib.hid (K7.out.then hb)
          clear hgz hb
          refine ⟨_, rfl, ?_⟩
          refine hK.out _ _ HT7.out.roww (fun _ => ?_)
          clear hK K
          refine wpAnyH_ready (rs := [14]) (by kernel_rfl) (by simp) (AllReadyH.cons rfl (fun K hK => ?_) AllReadyH.nil)
          rw [if_pos (by kernel_rfl)]
          refine wp_called 18 #[fz, gz] (by first | kernel_rfl | rfl) ((rsame_any (runsA (freeF s')) (runsA (freeF s')) fz gz _ HFZ.out HGZ.out HLF.out).mono ?_)
          rintro e u4 ⟨rfl, hb⟩
          rw [decide_eq_true rfl]
          replace HT7 := Lib.hid (HT7.out.later HD.out hb)
          replace K7 := Lib.hid (K7.out.then hb)
          clear hb HFZ HGZ
          refine ⟨_, rfl, ?_⟩
          refine hK.out _ _ HT7.out.roww (fun _ => ?_)
          clear hK K
          refine wpAnyH_take (i := 15) (v := ?_) rfl (by kernel_rfl) (by kernel_rfl) (by kernel_rfl) (fun _ _ _ h => h) (Or.inl ⟨by first | kernel_rfl | rfl, ?_⟩) (by assumption) ?_
          case refine_2 => intro w hSw; go_simp; try with_reducible rfl
          refine wpAnyH_take (i := 16) (v := ?_) rfl (by kernel_rfl) (by kernel_rfl) (by kernel_rfl) (fun _ _ _ h => h) (Or.inl ⟨by first | kernel_rfl | rfl, ?_⟩) (by assumption) ?_
          case refine_2 => intro w hSw; go_simp; try with_reducible rfl
          refine wpAnyH_take (i := 17) (v := ?_) rfl (by kernel_rfl) (by kernel_rfl) (by kernel_rfl) (fun _ _ _ h => h) (Or.inl ⟨by first | kernel_rfl | rfl, ?_⟩) (by assumption) ?_
          case refine_2 => intro w hSw; go_simp; try with_reducible rfl
          refine wpAnyH_take (i := 18) (v := ?_) rfl (by kernel_rfl) (by kernel_rfl) (by kernel_rfl) (fun _ _ _ h => h) (Or.inl ⟨by first | kernel_rfl | rfl, ?_⟩) (by assumption) ?_
          case refine_2 => intro w hSw; go_simp; try with_reducible rfl
          refine wpAnyH_take (i := 20) (v := .agg (mpC s' (.slice pw nw cw))) rfl (by kernel_rfl) (by kernel_rfl) (by kernel_rfl) (fun _ _ _ h => h) (yieldsIf_load_mid (by first | kernel_rfl | rfl) _ _ rfl bw 0 (by kernel_rfl) (mpC s' (.slice pw nw cw)).toList _ (fun _ h => range_of_row h) Try.underlying39 rfl sizeMp) (by assumption) ?_
          refine wpAnyH_ready (rs := [19]) (by kernel_rfl) (by simp) (AllReadyH.cons rfl (fun K hK => ?_) AllReadyH.nil)
          rw [if_pos (by kernel_rfl)]
          refine wp_called 37 #[.pointer (some ad)] (by first | kernel_rfl | rfl) ((HD.out.room s' Bs' _ HT7.out.hp OK'.out).mono ?_)
          rintro e u5 ⟨rfl, hb⟩
          rw [← HCN.out]
          replace HT7 := Lib.hid (HT7.out.later HD.out hb)
          replace K7 := Lib.hid (K7.out.then hb)
          clear hb
          refine ⟨_, rfl, ?_⟩
          refine hK.out _ _ HT7.out.roww (fun _ => ?_)
          clear hK K
          refine wpAnyH_ready (rs := [21]) (by kernel_rfl) (by simp) (AllReadyH.cons rfl (fun K hK => ?_) AllReadyH.nil)
          rw [if_pos (by kernel_rfl)]
          refine wp_called 36 #[mpV s' (.slice pw nw cw)] (by first | kernel_rfl | rfl) ((rfree_any s' OK'.out (mpV s' (.slice pw nw cw)) _ HT7.out.mpw).mono ?_)
          rintro e u6 ⟨hz6, rfl, hgz, hb⟩
          have HGZ := Lib.hid (hgz.at_ (runsA_wf _))
          replace HT7 := Lib.hid (HT7.out.later HD.out hb)
          replace K7 := Lib.hid (K7.out.then hb)
          clear hgz hb
          refine ⟨_, rfl, ?_⟩
          refine hK.out _ _ HT7.out.roww (fun _ => ?_)
          clear hK K
          refine wpAnyH_ready (rs := [22]) (by kernel_rfl) (by simp) (AllReadyH.cons rfl (fun K hK => ?_) AllReadyH.nil)
          rw [if_pos (by kernel_rfl)]
          refine wp_called 14 #[hz6] (by first | kernel_rfl | rfl) ((rcount_any (runsA (freeF s')) hz6 _ HGZ.out HLF.out).mono ?_)
          rintro e u7 ⟨rfl, hb⟩
          rw [cntA_again, ← HCN.out]
          replace HT7 := Lib.hid (HT7.out.later HD.out hb)
          replace K7 := Lib.hid (K7.out.then hb)
          clear hb HGZ
          refine ⟨_, rfl, ?_⟩
          refine hK.out _ _ HT7.out.roww (fun _ => ?_)
          clear hK K
          refine wpAnyH_take (i := 23) (v := ?_) rfl (by kernel_rfl) (by kernel_rfl) (by kernel_rfl) (fun _ _ _ h => h) (Or.inl ⟨by first | kernel_rfl | rfl, ?_⟩) (by assumption) ?_
          case refine_2 => intro w hSw; go_simp; try with_reducible rfl
          refine wpAnyH_take (i := 24) (v := ?_) rfl (by kernel_rfl) (by kernel_rfl) (by kernel_rfl) (fun _ _ _ h => h) (Or.inl ⟨by first | kernel_rfl | rfl, ?_⟩) (by assumption) ?_
          case refine_2 => intro w hSw; go_simp; try with_reducible rfl
          refine wpAnyH_done (by kernel_rfl) ?_ _
          go_simp
          go_wp2
          go_roundg (min n 14 - i1)
          case measure => omega
          case rel => exact ⟨i1, s', .slice pw nw cw, Bs', _, Ls ++ [lg], vs ++ [Value.slice pd nd cd], by omega, rfl, by first | rfl | (congr 1; omega), OK', HLEN, Lib.hid HT7.out.done, K7⟩
        · have ll_eq : True := trivial
          obtain ⟨ll, hll⟩ : ∃ ll, ll = lf := ⟨_, rfl⟩
          obtain ⟨lx, hlx⟩ : ∃ lx, lx = u := ⟨_, rfl⟩
          have HLL : Hid (LiveAt ll lx (CsOf Bs bw (WA.heap.size) (.slice pt m ct)) WX) := Lib.hid (by rw [hll, hlx]; exact HU1.out)
          have LL : Hid (ll.length ≤ 65536) := Lib.hid (by rw [hll]; exact HL30.out)
          rw [← hlx] at FW
          clear hll hlx ll_eq HU1
          go_wp2_with fail
          rw [← HWA.out]
          refine FW.mono ?_
          rintro e w' ⟨rfl, rfl⟩
          clear FW
          go_wp2_with fail
          rw [← HWX.out]
          refine (rtake_any s OK.out (mpV s (.slice pv nv cv)) WX HT.out.mpw nn HNN.out).mono ?_
          rintro e W2 ⟨u', told, rfl, hmp, hown, hnew, hb⟩
          have hT2 := HT.out.later HD.out hb
          obtain ⟨t', rfl, hapt⟩ := MpNew.apart HD.out HT.out hnew hmp (takeS_fr _ _) (takeS_to _ _)
          obtain ⟨pw, nw, cw, htw⟩ := hmp.slice
          subst htw
          have OK' : Hid ((takeS s nn).ok) := Lib.hid (takeS_ok OK.out _)
          have K2 : Hid (Kept WX W2) := Lib.hid hb
          obtain ⟨s', hs'⟩ : ∃ s', s' = takeS s nn := ⟨_, rfl⟩
          rw [← hs'] at OK' hmp
          rw [← hs']
          have HS' := Lib.hid hs'
          have g0 : W2.cell? ⟨WA.heap.size, 0, none⟩ = some (.int .i64 (s.fr : Int)) := by rw [cell_of_row _ _ _ _ _ _ hT2.rowx]; rfl
          have g1 : W2.cell? ⟨WA.heap.size, 1, none⟩ = some (.int .i64 (s.to_ : Int)) := by rw [cell_of_row _ _ _ _ _ _ hT2.rowx]; rfl
          have g2 : W2.cell? ⟨WA.heap.size, 2, none⟩ = some (.slice pv nv cv) := by rw [cell_of_row _ _ _ _ _ _ hT2.rowx]; rfl
          have f0 := frozen_of_row W2 (WA.heap.size) 0 _ _ hT2.rowx
          have f1 := frozen_of_row W2 (WA.heap.size) 1 _ _ hT2.rowx
          have f2 := frozen_of_row W2 (WA.heap.size) 2 _ _ hT2.rowx
          have p1 : W2.cell? ⟨wr.heap.size, 1, none⟩ = some (.int .i64 nn) := K2.out.cell (by rw [HWX.out]; exact y1)
          have p0 : W2.cell? ⟨wr.heap.size, 0, none⟩ = some (.int .u8 (kq : Int)) := K2.out.cell (by rw [HWX.out]; exact y0)
          obtain ⟨hT3, hbx⟩ := hT2.setx HD.out hmp hapt
          have hF0 : W2.heap[wr.heap.size]? = some (.cells #[.int .u8 (kq : Int), .int .i64 nn, .slice pl nl cl] 42 (0, 0)) := by
            have h := KX.out.row HRA.out
            exact K2.out.row h
          obtain ⟨W3, hW3⟩ : ∃ W3, W3 = (((W2.setCell ⟨WA.heap.size, 0, none⟩ (.int .i64 (s'.fr : Int))).setCell ⟨WA.heap.size, 1, none⟩ (.int .i64 (s'.to_ : Int))).setCell ⟨WA.heap.size, 2, none⟩ (.slice pw nw cw)) := ⟨_, rfl⟩
          rw [← hW3] at hT3 hbx
          have HW3 := Lib.hid hW3
          have HT3 := Lib.hid hT3
          have hcs2 := hT2.cs HD.out
          have K3 : Hid (Kept w W3) := Lib.hid (ButBy.kept hbx (fun k hk => (hcs2 k hk).1) ((HKA.out.then KX.out).then K2.out) ((HKA.out.then KX.out).then K2.out).size)
          have HLX3 : Hid (LiveAt ll lx (CsOf Bs bw (WA.heap.size) (.slice pt m ct)) W3) := Lib.hid ((HLL.out.later K2.out).turn (fun k e => Or.inl e) hbx)
          have s0 : W3.cell? ⟨wr.heap.size, 1, none⟩ = some (.int .i64 nn) := by
            rw [hW3, cell_of_row _ _ _ _ _ _ ((set_other _ _ _ _ _ (by have := HSA.out; omega : wr.heap.size ≠ WA.heap.size)).trans ((set_other _ _ _ _ _ (by have := HSA.out; omega : wr.heap.size ≠ WA.heap.size)).trans ((set_other _ _ _ _ _ (by have := HSA.out; omega : wr.heap.size ≠ WA.heap.size)).trans hF0)))]; rfl
          rw [HW3.out] at s0
          have LT : Hid (LiveAt (takeL s nn) told (CsOf Bs bw (WA.heap.size) (.slice pt m ct)) W3) := Lib.hid ((LiveAt.own hown (lowL_wf _ _) (fun k hk => (HT.out.cs HD.out k hk).2)).turn (fun k e => Or.inl e) hbx)
          obtain ⟨pd, cd, htd, -, -⟩ := own_slice hown
          obtain ⟨lg, hlg⟩ : ∃ lg, lg = takeL s nn := ⟨_, rfl⟩
          have HLGE := Lib.hid hlg
          rw [← hlg] at LT htd
          obtain ⟨nd, hnd⟩ : ∃ nd, nd = lg.length := ⟨_, rfl⟩
          rw [← hnd] at htd
          subst htd
          have hl16 : lg.length ≤ 16 := by rw [hlg]; exact lowL_len _ _
          have HL16 := Lib.hid hl16
          have HLG : Hid (lg.length ≤ 1048576) := Lib.hid (by omega)
          obtain ⟨er, her⟩ : ∃ er, er = takeE s nn := ⟨_, rfl⟩
          have HERE := Lib.hid her
          rw [← her]
          have xer : (er != er) = false := by simp
          clear hlg hnd hl16 her hown
          clear hT2 hapt hmp hnew hb hs' hW3 hT3 hbx hcs2 hF0 x0 x1 x2 y0 y1 b0 b1 b2 a0 a1 a2
          unfold mpV
          go_wp2_with fail
          rw [← HW3.out]
          refine (HD.out.take s Bs W3 nn HT3.out.hp OK.out HNN.out).mono ?_
          rintro e W4 ⟨got, Bs', rfl, hy, hap, hnw, hp, hsub, hbut⟩
          rw [← HERE.out]
          rw [← HLGE.out] at hy
          rw [← HS'.out] at hp
          obtain ⟨hT4, hcs4, hbc4⟩ := HT3.out.turn hp hsub hbut
          have hG4 := HT3.out.told HD.out hy hap hnw
          have hTD4 := LT.out.turn hcs4 hbc4
          have hcs3 := HT3.out.cs HD.out
          have hK4 : Kept w W4 := ButBy.kept hbc4 (fun k hk => (hcs3 k hk).1) K3.out K3.out.size
          have hsz4 : w.heap.size ≤ W4.heap.size := hK4.size
          have HOWN : Hid ((W4.alloc (.cells #[.slice pd nd cd] 22)).ownsRow w.heap.size 22 1 (.slice pt m ct) m vs) := Lib.hid (by have h := hT4.own.alloc (.cells #[.slice pd nd cd] 22); rw [← HM.out] at h; exact h)
          have HFN : Hid (FlatAt 1 1 [.slice pd nd cd] (.slice (some ⟨W4.heap.size, 0, none⟩) 1 1) (W4.alloc (.cells #[.slice pd nd cd] 22))) := Lib.hid (FlatAt.new W4 22 1 1 1 #[.slice pd nd cd] rfl (by intro x hx; simp at hx; subst hx; rfl))
          have HSZ4 := Lib.hid hsz4
          have HT4 := Lib.hid hT4
          have HG4 := Lib.hid hG4
          have HTD4 := Lib.hid hTD4
          have HK4 := Lib.hid hK4
          clear hy hap hnw hp hsub hbut hT4 hcs4 hbc4 hG4 hTD4 hcs3 hK4 hsz4 s0 LT
          go_wp2_with (at_builtin; refine wpList_append_flat rfl _ _ 40 rfl w.heap.size 22 irs (.slice none 0 0) 1 24 Try.underlying40 HIR.out HZ0.out HZ1.out HZ2.out rfl (by decide) _ m vs rfl HOWN.out _ 1 _ rfl HFN.out ?wa1 ?wa2 ?wa3 ?_)
          case wa1 => unfold maxLen; omega
          case wa2 => omega
          try case wa3 => have := HSZ4.out; first | omega | (simp; omega)
          intro v2 W5 hown2 hgr2 hwh2
          obtain ⟨p2, c2, hv2, -, -⟩ := own_slice hown2
          obtain ⟨hT5, hcs5, hbc5⟩ := HT4.out.app HD.out HTD4.out HL16.out (box_below W4 _) (by rw [← HM.out]; exact hown2) hgr2 (by simpa using hwh2)
          have HG := Lib.hid (HG4.out.turn hcs5 hbc5)
          have HTD := Lib.hid (HTD4.out.turn hcs5 hbc5)
          have hcs4 := HT4.out.cs HD.out
          have K5 : Hid (Kept w W5) := Lib.hid (ButBy.kept hbc5 (fun k hk => (hcs4 k hk).1) HK4.out HK4.out.size)
          have HT5 := Lib.hid hT5
          have HLEN : Hid ((vs ++ [Value.slice pd nd cd]).length ≤ i1) := Lib.hid (by rw [List.length_append]; have := HVI.out; show vs.length + 1 ≤ i1; omega)
          subst hv2
          clear hown2 hgr2 hwh2 hT5 hcs5 hbc5 hcs4 HT4 HG4 HTD4 HK4
          have hT5 := HT5.out
          have x0 : W5.cell? ⟨WA.heap.size, 0, none⟩ = some (.int .i64 (s'.fr : Int)) := by rw [cell_of_row _ _ _ _ _ _ hT5.rowx]; rfl
          have x1 : W5.cell? ⟨WA.heap.size, 1, none⟩ = some (.int .i64 (s'.to_ : Int)) := by rw [cell_of_row _ _ _ _ _ _ hT5.rowx]; rfl
          have x2 : W5.cell? ⟨WA.heap.size, 2, none⟩ = some (.slice pw nw cw) := by rw [cell_of_row _ _ _ _ _ _ hT5.rowx]; rfl
          have b0 : W5.cell? ⟨bw, 0, none⟩ = some (.int .i64 (s.fr : Int)) := by rw [cell_of_row _ _ _ _ _ _ hT5.roww]; rfl
          have b1 : W5.cell? ⟨bw, 1, none⟩ = some (.int .i64 (s.to_ : Int)) := by rw [cell_of_row _ _ _ _ _ _ hT5.roww]; rfl
          have b2 : W5.cell? ⟨bw, 2, none⟩ = some (.slice pv nv cv) := by rw [cell_of_row _ _ _ _ _ _ hT5.roww]; rfl
          have f0 := frozen_of_row W5 bw 0 _ _ hT5.roww
          have f1 := frozen_of_row W5 bw 1 _ _ hT5.roww
          have f2 := frozen_of_row W5 bw 2 _ _ hT5.roww
          obtain ⟨hT6, hb6⟩ := hT5.setw HD.out
          have hcs5 := hT5.cs HD.out
          have KW6 : Kept w (((W5.setCell ⟨bw, 0, none⟩ (.int .i64 (s'.fr : Int))).setCell ⟨bw, 1, none⟩ (.int .i64 (s'.to_ : Int))).setCell ⟨bw, 2, none⟩ (.slice pw nw cw)) := ButBy.kept hb6 (fun k hk => (hcs5 k hk).1) K5.out K5.out.size
          obtain ⟨W6, hW6⟩ : ∃ W6, W6 = (((W5.setCell ⟨bw, 0, none⟩ (.int .i64 (s'.fr : Int))).setCell ⟨bw, 1, none⟩ (.int .i64 (s'.to_ : Int))).setCell ⟨bw, 2, none⟩ (.slice pw nw cw)) := ⟨_, rfl⟩
          rw [← hW6] at hT6 hb6 KW6
          have HG6 := HG.out.turn (fun k e => Or.inl e) hb6
          have HTD6 := HTD.out.turn (fun k e => Or.inl e) hb6
          have hdr : Kept W6 W6.drew := (Below.refl _ _).drew
          have HW6 := Lib.hid hW6
          have HT7 := Lib.hid (hT6.later HD.out hdr)
          have K7 : Hid (Kept w W6.drew) := Lib.hid (KW6.then hdr)
          replace HG := Lib.hid (HG6.later hdr)
          replace HTD := Lib.hid (HTD6.later hdr)
          have HLF : Hid ((runsA (freeF s')).length ≤ 1048576) := Lib.hid (Nat.le_trans (runsA_len _) (by omega))
          obtain ⟨cn, hcn⟩ : ∃ cn, cn = cntA (freeF s') := ⟨_, rfl⟩
          have HCN := Lib.hid hcn
          have xcn : ((cn : Int) != (cn : Int)) = false := by simp
          clear hT5 hT6 hb6 hcs5 KW6 hW6 HG6 HTD6 hdr hcn HT5 K5
          go_wp2_with fail
          rw [← HW6.out]
          refine wp_region_held_drew (S := fun w' => w'.heap[bw]? = some (.cells (mpC s' (.slice pw nw cw)) 39 (0, 0))) (by kernel_rfl) (HT7.out.roww) (fun hHeld => ?_)
          refine wpAnyH_take (i := 0) (v := ?_) rfl (by kernel_rfl) (by kernel_rfl) (by kernel_rfl) (fun _ _ _ h => h) (Or.inl ⟨by first | kernel_rfl | rfl, ?_⟩) (by assumption) ?_
          case refine_2 => intro w hSw; go_simp; try with_reducible rfl
          refine wpAnyH_take (i := 1) (v := ?_) rfl (by kernel_rfl) (by kernel_rfl) (by kernel_rfl) (fun _ _ _ h => h) (Or.inl ⟨by first | kernel_rfl | rfl, ?_⟩) (by assumption) ?_
          case refine_2 => intro w hSw; go_simp; try with_reducible rfl
          refine wpAnyH_take (i := 2) (v := ?_) rfl (by kernel_rfl) (by kernel_rfl) (by kernel_rfl) (fun _ _ _ h => h) (Or.inl ⟨by first | kernel_rfl | rfl, ?_⟩) (by assumption) ?_
          case refine_2 => intro w hSw; go_simp; try with_reducible rfl
          refine wpAnyH_take (i := 3) (v := ?_) rfl (by kernel_rfl) (by kernel_rfl) (by kernel_rfl) (fun _ _ _ h => h) (Or.inl ⟨by first | kernel_rfl | rfl, ?_⟩) (by assumption) ?_
          case refine_2 => intro w hSw; go_simp; try with_reducible rfl
          refine wpAnyH_take (i := 4) (v := ?_) rfl (by kernel_rfl) (by kernel_rfl) (by kernel_rfl) (fun _ _ _ h => h) (Or.inl ⟨by first | kernel_rfl | rfl, ?_⟩) (by assumption) ?_
          case refine_2 => intro w hSw; go_simp; try with_reducible rfl
          refine wpAnyH_take (i := 5) (v := ?_) rfl (by kernel_rfl) (by kernel_rfl) (by kernel_rfl) (fun _ _ _ h => h) (Or.inl ⟨by first | kernel_rfl | rfl, ?_⟩) (by assumption) ?_
          case refine_2 => intro w hSw; go_simp; try with_reducible rfl
          refine wpAnyH_ready (rs := [6]) (by kernel_rfl) (by simp) (AllReadyH.cons rfl (fun K hK => ?_) AllReadyH.nil)
          rw [if_pos (by kernel_rfl)]
          refine wp_called 18 #[got, .slice pd nd cd] (by first | kernel_rfl | rfl) ((rsame_any lg lg got (.slice pd nd cd) _ HG.out.at_ HTD.out.at_ HLG.out).mono ?_)
          rintro e u1 ⟨rfl, hb⟩
          rw [decide_eq_true rfl]
          replace HT7 := Lib.hid (HT7.out.later HD.out hb)
          replace K7 := Lib.hid (K7.out.then hb)
          clear hb HG HTD
          refine ⟨_, rfl, ?_⟩
          refine hK.out _ _ HT7.out.roww (fun _ => ?_)
          clear hK K
          refine wpAnyH_take (i := 7) (v := ?_) rfl (by kernel_rfl) (by kernel_rfl) (by kernel_rfl) (fun _ _ _ h => h) (Or.inl ⟨by first | kernel_rfl | rfl, ?_⟩) (by assumption) ?_
          case refine_2 => intro w hSw; go_simp; try with_reducible rfl
          refine wpAnyH_take (i := 8) (v := ?_) rfl (by kernel_rfl) (by kernel_rfl) (by kernel_rfl) (fun _ _ _ h => h) (Or.inl ⟨by first | kernel_rfl | rfl, ?_⟩) (by assumption) ?_
          case refine_2 => intro w hSw; go_simp; try with_reducible rfl
          refine wpAnyH_take (i := 9) (v := ?_) rfl (by kernel_rfl) (by kernel_rfl) (by kernel_rfl) (fun _ _ _ h => h) (Or.inl ⟨by first | kernel_rfl | rfl, ?_⟩) (by assumption) ?_
          case refine_2 => intro w hSw; go_simp; try with_reducible rfl
          refine wpAnyH_take (i := 10) (v := ?_) rfl (by kernel_rfl) (by kernel_rfl) (by kernel_rfl) (fun _ _ _ h => h) (Or.inl ⟨by first | kernel_rfl | rfl, ?_⟩) (by assumption) ?_
          case refine_2 => intro w hSw; go_simp; try with_reducible rfl
          refine wpAnyH_take (i := 12) (v := .agg (mpC s' (.slice pw nw cw))) rfl (by kernel_rfl) (by kernel_rfl) (by kernel_rfl) (fun _ _ _ h => h) (yieldsIf_load_mid (by first | kernel_rfl | rfl) _ _ rfl bw 0 (by kernel_rfl) (mpC s' (.slice pw nw cw)).toList _ (fun _ h => range_of_row h) Try.underlying39 rfl sizeMp) (by assumption) ?_
          refine wpAnyH_ready (rs := [11]) (by kernel_rfl) (by simp) (AllReadyH.cons rfl (fun K hK => ?_) AllReadyH.nil)
          rw [if_pos (by kernel_rfl)]
          refine wp_called 35 #[.pointer (some ad)] (by first | kernel_rfl | rfl) ((HD.out.free s' Bs' _ HT7.out.hp OK'.out).mono ?_)
          rintro e u2 ⟨fz, rfl, hfz, -, hb⟩
          have HFZ := Lib.hid hfz
          replace HT7 := Lib.hid (HT7.out.later HD.out hb)
          replace K7 := Lib.hid (K7.out.then hb)
          clear hfz hb
          refine ⟨_, rfl, ?_⟩
          refine hK.out _ _ HT7.out.roww (fun _ => ?_)
          clear hK K
          refine wpAnyH_ready (rs := [13]) (by kernel_rfl) (by simp) (AllReadyH.cons rfl (fun K hK => ?_) AllReadyH.nil)
          rw [if_pos (by kernel_rfl)]
          refine wp_called 36 #[mpV s' (.slice pw nw cw)] (by first | kernel_rfl | rfl) ((rfree_any s' OK'.out (mpV s' (.slice pw nw cw)) _ HT7.out.mpw).mono ?_)
          rintro e u3 ⟨gz, rfl, hgz, hb⟩
          have HGZ := Lib.hid (hgz.at_ (runsA_wf _))
          replace HFZ := Lib.hid (HFZ.out.later hb)
          replace HT7 := Lib.hid (HT7.out.later HD.out hb)
          replace K7 := Lib.hid (K7.out.then hb)
          clear hgz hb
          refine ⟨_, rfl, ?_⟩
          refine hK.out _ _ HT7.out.roww (fun _ => ?_)
          clear hK K
          refine wpAnyH_ready (rs := [14]) (by kernel_rfl) (by simp) (AllReadyH.cons rfl (fun K hK => ?_) AllReadyH.nil)
          rw [if_pos (by kernel_rfl)]
          refine wp_called 18 #[fz, gz] (by first | kernel_rfl | rfl) ((rsame_any (runsA (freeF s')) (runsA (freeF s')) fz gz _ HFZ.out HGZ.out HLF.out).mono ?_)
          rintro e u4 ⟨rfl, hb⟩
          rw [decide_eq_true rfl]
          replace HT7 := Lib.hid (HT7.out.later HD.out hb)
          replace K7 := Lib.hid (K7.out.then hb)
          clear hb HFZ HGZ
          refine ⟨_, rfl, ?_⟩
          refine hK.out _ _ HT7.out.roww (fun _ => ?_)
          clear hK K
          refine wpAnyH_take (i := 15) (v := ?_) rfl (by kernel_rfl) (by kernel_rfl) (by kernel_rfl) (fun _ _ _ h => h) (Or.inl ⟨by first | kernel_rfl | rfl, ?_⟩) (by assumption) ?_
          case refine_2 => intro w hSw; go_simp; try with_reducible rfl
          refine wpAnyH_take (i := 16) (v := ?_) rfl (by kernel_rfl) (by kernel_rfl) (by kernel_rfl) (fun _ _ _ h => h) (Or.inl ⟨by first | kernel_rfl | rfl, ?_⟩) (by assumption) ?_
          case refine_2 => intro w hSw; go_simp; try with_reducible rfl
          refine wpAnyH_take (i := 17) (v := ?_) rfl (by kernel_rfl) (by kernel_rfl) (by kernel_rfl) (fun _ _ _ h => h) (Or.inl ⟨by first | kernel_rfl | rfl, ?_⟩) (by assumption) ?_
          case refine_2 => intro w hSw; go_simp; try with_reducible rfl
          refine wpAnyH_take (i := 18) (v := ?_) rfl (by kernel_rfl) (by kernel_rfl) (by kernel_rfl) (fun _ _ _ h => h) (Or.inl ⟨by first | kernel_rfl | rfl, ?_⟩) (by assumption) ?_
          case refine_2 => intro w hSw; go_simp; try with_reducible rfl
          refine wpAnyH_take (i := 20) (v := .agg (mpC s' (.slice pw nw cw))) rfl (by kernel_rfl) (by kernel_rfl) (by kernel_rfl) (fun _ _ _ h => h) (yieldsIf_load_mid (by first | kernel_rfl | rfl) _ _ rfl bw 0 (by kernel_rfl) (mpC s' (.slice pw nw cw)).toList _ (fun _ h => range_of_row h) Try.underlying39 rfl sizeMp) (by assumption) ?_
          refine wpAnyH_ready (rs := [19]) (by kernel_rfl) (by simp) (AllReadyH.cons rfl (fun K hK => ?_) AllReadyH.nil)
          rw [if_pos (by kernel_rfl)]
          refine wp_called 37 #[.pointer (some ad)] (by first | kernel_rfl | rfl) ((HD.out.room s' Bs' _ HT7.out.hp OK'.out).mono ?_)
          rintro e u5 ⟨rfl, hb⟩
          rw [← HCN.out]
          replace HT7 := Lib.hid (HT7.out.later HD.out hb)
          replace K7 := Lib.hid (K7.out.then hb)
          clear hb
          refine ⟨_, rfl, ?_⟩
          refine hK.out _ _ HT7.out.roww (fun _ => ?_)
          clear hK K
          refine wpAnyH_ready (rs := [21]) (by kernel_rfl) (by simp) (AllReadyH.cons rfl (fun K hK => ?_) AllReadyH.nil)
          rw [if_pos (by kernel_rfl)]
          refine wp_called 36 #[mpV s' (.slice pw nw cw)] (by first | kernel_rfl | rfl) ((rfree_any s' OK'.out (mpV s' (.slice pw nw cw)) _ HT7.out.mpw).mono ?_)
          rintro e u6 ⟨hz6, rfl, hgz, hb⟩
          have HGZ := Lib.hid (hgz.at_ (runsA_wf _))
          replace HT7 := Lib.hid (HT7.out.later HD.out hb)
          replace K7 := Lib.hid (K7.out.then hb)
          clear hgz hb
          refine ⟨_, rfl, ?_⟩
          refine hK.out _ _ HT7.out.roww (fun _ => ?_)
          clear hK K
          refine wpAnyH_ready (rs := [22]) (by kernel_rfl) (by simp) (AllReadyH.cons rfl (fun K hK => ?_) AllReadyH.nil)
          rw [if_pos (by kernel_rfl)]
          refine wp_called 14 #[hz6] (by first | kernel_rfl | rfl) ((rcount_any (runsA (freeF s')) hz6 _ HGZ.out HLF.out).mono ?_)
          rintro e u7 ⟨rfl, hb⟩
          rw [cntA_again, ← HCN.out]
          replace HT7 := Lib.hid (HT7.out.later HD.out hb)
          replace K7 := Lib.hid (K7.out.then hb)
          clear hb HGZ
          refine ⟨_, rfl, ?_⟩
          refine hK.out _ _ HT7.out.roww (fun _ => ?_)
          clear hK K
          refine wpAnyH_take (i := 23) (v := ?_) rfl (by kernel_rfl) (by kernel_rfl) (by kernel_rfl) (fun _ _ _ h => h) (Or.inl ⟨by first | kernel_rfl | rfl, ?_⟩) (by assumption) ?_
          case refine_2 => intro w hSw; go_simp; try with_reducible rfl
          refine wpAnyH_take (i := 24) (v := ?_) rfl (by kernel_rfl) (by kernel_rfl) (by kernel_rfl) (fun _ _ _ h => h) (Or.inl ⟨by first | kernel_rfl | rfl, ?_⟩) (by assumption) ?_
          case refine_2 => intro w hSw; go_simp; try with_reducible rfl
          refine wpAnyH_done (by kernel_rfl) ?_ _
          go_simp
          go_wp2
          go_roundg (min n 14 - i1)
          case measure => omega
          case rel => exact ⟨i1, s', .slice pw nw cw, Bs', _, Ls ++ [lg], vs ++ [Value.slice pd nd cd], by omega, rfl, by first | rfl | (congr 1; omega), OK', HLEN, Lib.hid HT7.out.done, K7⟩
        · have ll_eq : True := trivial
          obtain ⟨ll, hll⟩ : ∃ ll, ll = lf := ⟨_, rfl⟩
          obtain ⟨lx, hlx⟩ : ∃ lx, lx = u := ⟨_, rfl⟩
          have HLL : Hid (LiveAt ll lx (CsOf Bs bw (WA.heap.size) (.slice pt m ct)) WX) := Lib.hid (by rw [hll, hlx]; exact HU1.out)
          have LL : Hid (ll.length ≤ 65536) := Lib.hid (by rw [hll]; exact HL30.out)
          rw [← hlx] at FW
          clear hll hlx ll_eq HU1
          go_wp2_with fail
          rw [← HWA.out]
          refine FW.mono ?_
          rintro e w' ⟨rfl, rfl⟩
          clear FW
          go_wp2_with fail
          rw [← HWX.out]
          refine (rhold_any s OK.out (mpV s (.slice pv nv cv)) WX HT.out.mpw ll lx HLL.out.at_ LL.out).mono ?_
          rintro e W2 ⟨u', rfl, hmp, hnew, hb⟩
          have hT2 := HT.out.later HD.out hb
          obtain ⟨t', rfl, hapt⟩ := MpNew.apart HD.out HT.out hnew hmp (holdS_fr _ _) (holdS_to _ _)
          obtain ⟨pw, nw, cw, htw⟩ := hmp.slice
          subst htw
          have OK' : Hid ((holdS s ll).ok) := Lib.hid (holdS_ok OK.out _)
          have K2 : Hid (Kept WX W2) := Lib.hid hb
          obtain ⟨s', hs'⟩ : ∃ s', s' = holdS s ll := ⟨_, rfl⟩
          rw [← hs'] at OK' hmp
          rw [← hs']
          have HS' := Lib.hid hs'
          have g0 : W2.cell? ⟨WA.heap.size, 0, none⟩ = some (.int .i64 (s.fr : Int)) := by rw [cell_of_row _ _ _ _ _ _ hT2.rowx]; rfl
          have g1 : W2.cell? ⟨WA.heap.size, 1, none⟩ = some (.int .i64 (s.to_ : Int)) := by rw [cell_of_row _ _ _ _ _ _ hT2.rowx]; rfl
          have g2 : W2.cell? ⟨WA.heap.size, 2, none⟩ = some (.slice pv nv cv) := by rw [cell_of_row _ _ _ _ _ _ hT2.rowx]; rfl
          have f0 := frozen_of_row W2 (WA.heap.size) 0 _ _ hT2.rowx
          have f1 := frozen_of_row W2 (WA.heap.size) 1 _ _ hT2.rowx
          have f2 := frozen_of_row W2 (WA.heap.size) 2 _ _ hT2.rowx
          have p1 : W2.cell? ⟨wr.heap.size, 1, none⟩ = some (.int .i64 nn) := K2.out.cell (by rw [HWX.out]; exact y1)
          have p0 : W2.cell? ⟨wr.heap.size, 0, none⟩ = some (.int .u8 (kq : Int)) := K2.out.cell (by rw [HWX.out]; exact y0)
          obtain ⟨hT3, hbx⟩ := hT2.setx HD.out hmp hapt
          have hF0 : W2.heap[wr.heap.size]? = some (.cells #[.int .u8 (kq : Int), .int .i64 nn, .slice pl nl cl] 42 (0, 0)) := by
            have h := KX.out.row HRA.out
            exact K2.out.row h
          obtain ⟨W3, hW3⟩ : ∃ W3, W3 = (((W2.setCell ⟨WA.heap.size, 0, none⟩ (.int .i64 (s'.fr : Int))).setCell ⟨WA.heap.size, 1, none⟩ (.int .i64 (s'.to_ : Int))).setCell ⟨WA.heap.size, 2, none⟩ (.slice pw nw cw)) := ⟨_, rfl⟩
          rw [← hW3] at hT3 hbx
          have HW3 := Lib.hid hW3
          have HT3 := Lib.hid hT3
          have hcs2 := hT2.cs HD.out
          have K3 : Hid (Kept w W3) := Lib.hid (ButBy.kept hbx (fun k hk => (hcs2 k hk).1) ((HKA.out.then KX.out).then K2.out) ((HKA.out.then KX.out).then K2.out).size)
          have HLX3 : Hid (LiveAt ll lx (CsOf Bs bw (WA.heap.size) (.slice pt m ct)) W3) := Lib.hid ((HLL.out.later K2.out).turn (fun k e => Or.inl e) hbx)
          have s0 : W3.cell? ⟨wr.heap.size, 1, none⟩ = some (.int .i64 nn) := by
            rw [hW3, cell_of_row _ _ _ _ _ _ ((set_other _ _ _ _ _ (by have := HSA.out; omega : wr.heap.size ≠ WA.heap.size)).trans ((set_other _ _ _ _ _ (by have := HSA.out; omega : wr.heap.size ≠ WA.heap.size)).trans ((set_other _ _ _ _ _ (by have := HSA.out; omega : wr.heap.size ≠ WA.heap.size)).trans hF0)))]; rfl
          rw [HW3.out] at s0
          obtain ⟨er, her⟩ : ∃ er, er = holdE s ll := ⟨_, rfl⟩
          have HERE := Lib.hid her
          rw [← her]
          have xer : (er != er) = false := by simp
          clear her
          clear hT2 hapt hmp hnew hb hs' hW3 hT3 hbx hcs2 hF0 x0 x1 x2 y0 y1 b0 b1 b2 a0 a1 a2
          unfold mpV
          go_wp2_with fail
          rw [← HW3.out]
          refine (HD.out.hold s Bs W3 ll lx HT3.out.hp OK.out HLX3.out.at_ LL.out (HLX3.out.apart.sub (fun k e => Or.inl e))).mono ?_
          rintro e W5 ⟨Bs', rfl, hp, hsub, hbut⟩
          rw [← HERE.out]
          rw [← HS'.out] at hp
          obtain ⟨hT4, hcs4, hbc4⟩ := HT3.out.turn hp hsub hbut
          have hcs3 := HT3.out.cs HD.out
          have K5 : Hid (Kept w W5) := Lib.hid (ButBy.kept hbc4 (fun k hk => (hcs3 k hk).1) K3.out K3.out.size)
          have HT5 := Lib.hid hT4
          have HG : Hid (LiveAt [] (.slice none 0 0) (CsOf Bs' bw (WA.heap.size) (.slice pt m ct)) W5) := Lib.hid ⟨RunsAt.nil _ 0, fun a n c e => by simp at e⟩
          have HTD := HG
          have HLG : Hid (([] : List (Int × Int)).length ≤ 1048576) := Lib.hid (Nat.zero_le _)
          have HLEN : Hid (vs.length ≤ i1) := Lib.hid (by have := HVI.out; omega)
          clear hp hsub hbut hT4 hcs4 hbc4 hcs3 s0
          have hT5 := HT5.out
          have x0 : W5.cell? ⟨WA.heap.size, 0, none⟩ = some (.int .i64 (s'.fr : Int)) := by rw [cell_of_row _ _ _ _ _ _ hT5.rowx]; rfl
          have x1 : W5.cell? ⟨WA.heap.size, 1, none⟩ = some (.int .i64 (s'.to_ : Int)) := by rw [cell_of_row _ _ _ _ _ _ hT5.rowx]; rfl
          have x2 : W5.cell? ⟨WA.heap.size, 2, none⟩ = some (.slice pw nw cw) := by rw [cell_of_row _ _ _ _ _ _ hT5.rowx]; rfl
          have b0 : W5.cell? ⟨bw, 0, none⟩ = some (.int .i64 (s.fr : Int)) := by rw [cell_of_row _ _ _ _ _ _ hT5.roww]; rfl
          have b1 : W5.cell? ⟨bw, 1, none⟩ = some (.int .i64 (s.to_ : Int)) := by rw [cell_of_row _ _ _ _ _ _ hT5.roww]; rfl
          have b2 : W5.cell? ⟨bw, 2, none⟩ = some (.slice pv nv cv) := by rw [cell_of_row _ _ _ _ _ _ hT5.roww]; rfl
          have f0 := frozen_of_row W5 bw 0 _ _ hT5.roww
          have f1 := frozen_of_row W5 bw 1 _ _ hT5.roww
          have f2 := frozen_of_row W5 bw 2 _ _ hT5.roww
          obtain ⟨hT6, hb6⟩ := hT5.setw HD.out
          have hcs5 := hT5.cs HD.out
          have KW6 : Kept w (((W5.setCell ⟨bw, 0, none⟩ (.int .i64 (s'.fr : Int))).setCell ⟨bw, 1, none⟩ (.int .i64 (s'.to_ : Int))).setCell ⟨bw, 2, none⟩ (.slice pw nw cw)) := ButBy.kept hb6 (fun k hk => (hcs5 k hk).1) K5.out K5.out.size
          obtain ⟨W6, hW6⟩ : ∃ W6, W6 = (((W5.setCell ⟨bw, 0, none⟩ (.int .i64 (s'.fr : Int))).setCell ⟨bw, 1, none⟩ (.int .i64 (s'.to_ : Int))).setCell ⟨bw, 2, none⟩ (.slice pw nw cw)) := ⟨_, rfl⟩
          rw [← hW6] at hT6 hb6 KW6
          have HG6 := HG.out.turn (fun k e => Or.inl e) hb6
          have HTD6 := HTD.out.turn (fun k e => Or.inl e) hb6
          have hdr : Kept W6 W6.drew := (Below.refl _ _).drew
          have HW6 := Lib.hid hW6
          have HT7 := Lib.hid (hT6.later HD.out hdr)
          have K7 : Hid (Kept w W6.drew) := Lib.hid (KW6.then hdr)
          replace HG := Lib.hid (HG6.later hdr)
          replace HTD := Lib.hid (HTD6.later hdr)
          have HLF : Hid ((runsA (freeF s')).length ≤ 1048576) := Lib.hid (Nat.le_trans (runsA_len _) (by omega))
          obtain ⟨cn, hcn⟩ : ∃ cn, cn = cntA (freeF s') := ⟨_, rfl⟩
          have HCN := Lib.hid hcn
          have xcn : ((cn : Int) != (cn : Int)) = false := by simp
          clear hT5 hT6 hb6 hcs5 KW6 hW6 HG6 HTD6 hdr hcn HT5 K5
          go_wp2_with fail
          rw [← HW6.out]
          refine wp_region_held_drew (S := fun w' => w'.heap[bw]? = some (.cells (mpC s' (.slice pw nw cw)) 39 (0, 0))) (by kernel_rfl) (HT7.out.roww) (fun hHeld => ?_)
          refine wpAnyH_take (i := 0) (v := ?_) rfl (by kernel_rfl) (by kernel_rfl) (by kernel_rfl) (fun _ _ _ h => h) (Or.inl ⟨by first | kernel_rfl | rfl, ?_⟩) (by assumption) ?_
          case refine_2 => intro w hSw; go_simp; try with_reducible rfl
          refine wpAnyH_take (i := 1) (v := ?_) rfl (by kernel_rfl) (by kernel_rfl) (by kernel_rfl) (fun _ _ _ h => h) (Or.inl ⟨by first | kernel_rfl | rfl, ?_⟩) (by assumption) ?_
          case refine_2 => intro w hSw; go_simp; try with_reducible rfl
          refine wpAnyH_take (i := 2) (v := ?_) rfl (by kernel_rfl) (by kernel_rfl) (by kernel_rfl) (fun _ _ _ h => h) (Or.inl ⟨by first | kernel_rfl | rfl, ?_⟩) (by assumption) ?_
          case refine_2 => intro w hSw; go_simp; try with_reducible rfl
          refine wpAnyH_take (i := 3) (v := ?_) rfl (by kernel_rfl) (by kernel_rfl) (by kernel_rfl) (fun _ _ _ h => h) (Or.inl ⟨by first | kernel_rfl | rfl, ?_⟩) (by assumption) ?_
          case refine_2 => intro w hSw; go_simp; try with_reducible rfl
          refine wpAnyH_take (i := 4) (v := ?_) rfl (by kernel_rfl) (by kernel_rfl) (by kernel_rfl) (fun _ _ _ h => h) (Or.inl ⟨by first | kernel_rfl | rfl, ?_⟩) (by assumption) ?_
          case refine_2 => intro w hSw; go_simp; try with_reducible rfl
          refine wpAnyH_take (i := 5) (v := ?_) rfl (by kernel_rfl) (by kernel_rfl) (by kernel_rfl) (fun _ _ _ h => h) (Or.inl ⟨by first | kernel_rfl | rfl, ?_⟩) (by assumption) ?_
          case refine_2 => intro w hSw; go_simp; try with_reducible rfl
          refine wpAnyH_ready (rs := [6]) (by kernel_rfl) (by simp) (AllReadyH.cons rfl (fun K hK => ?_) AllReadyH.nil)
          rw [if_pos (by kernel_rfl)]
          refine wp_called 18 #[.slice none 0 0, .slice none 0 0] (by first | kernel_rfl | rfl) ((rsame_any [] [] (.slice none 0 0) (.slice none 0 0) _ HG.out.at_ HTD.out.at_ HLG.out).mono ?_)
          rintro e u1 ⟨rfl, hb⟩
          rw [decide_eq_true rfl]
          replace HT7 := Lib.hid (HT7.out.later HD.out hb)
          replace K7 := Lib.hid (K7.out.then hb)
          clear hb HG HTD
          refine ⟨_, rfl, ?_⟩
          refine hK.out _ _ HT7.out.roww (fun _ => ?_)
          clear hK K
          refine wpAnyH_take (i := 7) (v := ?_) rfl (by kernel_rfl) (by kernel_rfl) (by kernel_rfl) (fun _ _ _ h => h) (Or.inl ⟨by first | kernel_rfl | rfl, ?_⟩) (by assumption) ?_
          case refine_2 => intro w hSw; go_simp; try with_reducible rfl
          refine wpAnyH_take (i := 8) (v := ?_) rfl (by kernel_rfl) (by kernel_rfl) (by kernel_rfl) (fun _ _ _ h => h) (Or.inl ⟨by first | kernel_rfl | rfl, ?_⟩) (by assumption) ?_
          case refine_2 => intro w hSw; go_simp; try with_reducible rfl
          refine wpAnyH_take (i := 9) (v := ?_) rfl (by kernel_rfl) (by kernel_rfl) (by kernel_rfl) (fun _ _ _ h => h) (Or.inl ⟨by first | kernel_rfl | rfl, ?_⟩) (by assumption) ?_
          case refine_2 => intro w hSw; go_simp; try with_reducible rfl
          refine wpAnyH_take (i := 10) (v := ?_) rfl (by kernel_rfl) (by kernel_rfl) (by kernel_rfl) (fun _ _ _ h => h) (Or.inl ⟨by first | kernel_rfl | rfl, ?_⟩) (by assumption) ?_
          case refine_2 => intro w hSw; go_simp; try with_reducible rfl
          refine wpAnyH_take (i := 12) (v := .agg (mpC s' (.slice pw nw cw))) rfl (by kernel_rfl) (by kernel_rfl) (by kernel_rfl) (fun _ _ _ h => h) (yieldsIf_load_mid (by first | kernel_rfl | rfl) _ _ rfl bw 0 (by kernel_rfl) (mpC s' (.slice pw nw cw)).toList _ (fun _ h => range_of_row h) Try.underlying39 rfl sizeMp) (by assumption) ?_
          refine wpAnyH_ready (rs := [11]) (by kernel_rfl) (by simp) (AllReadyH.cons rfl (fun K hK => ?_) AllReadyH.nil)
          rw [if_pos (by kernel_rfl)]
          refine wp_called 35 #[.pointer (some ad)] (by first | kernel_rfl | rfl) ((HD.out.free s' Bs' _ HT7.out.hp OK'.out).mono ?_)
          rintro e u2 ⟨fz, rfl, hfz, -, hb⟩
          have HFZ := Lib.hid hfz
          replace HT7 := Lib.hid (HT7.out.later HD.out hb)
          replace K7 := Lib.hid (K7.out.then hb)
          clear hfz hb
          refine ⟨_, rfl, ?_⟩
          refine hK.out _ _ HT7.out.roww (fun _ => ?_)
          clear hK K
          refine wpAnyH_ready (rs := [13]) (by kernel_rfl) (by simp) (AllReadyH.cons rfl (fun K hK => ?_) AllReadyH.nil)
          rw [if_pos (by kernel_rfl)]
          refine wp_called 36 #[mpV s' (.slice pw nw cw)] (by first | kernel_rfl | rfl) ((rfree_any s' OK'.out (mpV s' (.slice pw nw cw)) _ HT7.out.mpw).mono ?_)
          rintro e u3 ⟨gz, rfl, hgz, hb⟩
          have HGZ := Lib.hid (hgz.at_ (runsA_wf _))
          replace HFZ := Lib.hid (HFZ.out.later hb)
          replace HT7 := Lib.hid (HT7.out.later HD.out hb)
          replace K7 := Lib.hid (K7.out.then hb)
          clear hgz hb
          refine ⟨_, rfl, ?_⟩
          refine hK.out _ _ HT7.out.roww (fun _ => ?_)
          clear hK K
          refine wpAnyH_ready (rs := [14]) (by kernel_rfl) (by simp) (AllReadyH.cons rfl (fun K hK => ?_) AllReadyH.nil)
          rw [if_pos (by kernel_rfl)]
          refine wp_called 18 #[fz, gz] (by first | kernel_rfl | rfl) ((rsame_any (runsA (freeF s')) (runsA (freeF s')) fz gz _ HFZ.out HGZ.out HLF.out).mono ?_)
          rintro e u4 ⟨rfl, hb⟩
          rw [decide_eq_true rfl]
          replace HT7 := Lib.hid (HT7.out.later HD.out hb)
          replace K7 := Lib.hid (K7.out.then hb)
          clear hb HFZ HGZ
          refine ⟨_, rfl, ?_⟩
          refine hK.out _ _ HT7.out.roww (fun _ => ?_)
          clear hK K
          refine wpAnyH_take (i := 15) (v := ?_) rfl (by kernel_rfl) (by kernel_rfl) (by kernel_rfl) (fun _ _ _ h => h) (Or.inl ⟨by first | kernel_rfl | rfl, ?_⟩) (by assumption) ?_
          case refine_2 => intro w hSw; go_simp; try with_reducible rfl
          refine wpAnyH_take (i := 16) (v := ?_) rfl (by kernel_rfl) (by kernel_rfl) (by kernel_rfl) (fun _ _ _ h => h) (Or.inl ⟨by first | kernel_rfl | rfl, ?_⟩) (by assumption) ?_
          case refine_2 => intro w hSw; go_simp; try with_reducible rfl
          refine wpAnyH_take (i := 17) (v := ?_) rfl (by kernel_rfl) (by kernel_rfl) (by kernel_rfl) (fun _ _ _ h => h) (Or.inl ⟨by first | kernel_rfl | rfl, ?_⟩) (by assumption) ?_
          case refine_2 => intro w hSw; go_simp; try with_reducible rfl
          refine wpAnyH_take (i := 18) (v := ?_) rfl (by kernel_rfl) (by kernel_rfl) (by kernel_rfl) (fun _ _ _ h => h) (Or.inl ⟨by first | kernel_rfl | rfl, ?_⟩) (by assumption) ?_
          case refine_2 => intro w hSw; go_simp; try with_reducible rfl
          refine wpAnyH_take (i := 20) (v := .agg (mpC s' (.slice pw nw cw))) rfl (by kernel_rfl) (by kernel_rfl) (by kernel_rfl) (fun _ _ _ h => h) (yieldsIf_load_mid (by first | kernel_rfl | rfl) _ _ rfl bw 0 (by kernel_rfl) (mpC s' (.slice pw nw cw)).toList _ (fun _ h => range_of_row h) Try.underlying39 rfl sizeMp) (by assumption) ?_
          refine wpAnyH_ready (rs := [19]) (by kernel_rfl) (by simp) (AllReadyH.cons rfl (fun K hK => ?_) AllReadyH.nil)
          rw [if_pos (by kernel_rfl)]
          refine wp_called 37 #[.pointer (some ad)] (by first | kernel_rfl | rfl) ((HD.out.room s' Bs' _ HT7.out.hp OK'.out).mono ?_)
          rintro e u5 ⟨rfl, hb⟩
          rw [← HCN.out]
          replace HT7 := Lib.hid (HT7.out.later HD.out hb)
          replace K7 := Lib.hid (K7.out.then hb)
          clear hb
          refine ⟨_, rfl, ?_⟩
          refine hK.out _ _ HT7.out.roww (fun _ => ?_)
          clear hK K
          refine wpAnyH_ready (rs := [21]) (by kernel_rfl) (by simp) (AllReadyH.cons rfl (fun K hK => ?_) AllReadyH.nil)
          rw [if_pos (by kernel_rfl)]
          refine wp_called 36 #[mpV s' (.slice pw nw cw)] (by first | kernel_rfl | rfl) ((rfree_any s' OK'.out (mpV s' (.slice pw nw cw)) _ HT7.out.mpw).mono ?_)
          rintro e u6 ⟨hz6, rfl, hgz, hb⟩
          have HGZ := Lib.hid (hgz.at_ (runsA_wf _))
          replace HT7 := Lib.hid (HT7.out.later HD.out hb)
          replace K7 := Lib.hid (K7.out.then hb)
          clear hgz hb
          refine ⟨_, rfl, ?_⟩
          refine hK.out _ _ HT7.out.roww (fun _ => ?_)
          clear hK K
          refine wpAnyH_ready (rs := [22]) (by kernel_rfl) (by simp) (AllReadyH.cons rfl (fun K hK => ?_) AllReadyH.nil)
          rw [if_pos (by kernel_rfl)]
          refine wp_called 14 #[hz6] (by first | kernel_rfl | rfl) ((rcount_any (runsA (freeF s')) hz6 _ HGZ.out HLF.out).mono ?_)
          rintro e u7 ⟨rfl, hb⟩
          rw [cntA_again, ← HCN.out]
          replace HT7 := Lib.hid (HT7.out.later HD.out hb)
          replace K7 := Lib.hid (K7.out.then hb)
          clear hb HGZ
          refine ⟨_, rfl, ?_⟩
          refine hK.out _ _ HT7.out.roww (fun _ => ?_)
          clear hK K
          refine wpAnyH_take (i := 23) (v := ?_) rfl (by kernel_rfl) (by kernel_rfl) (by kernel_rfl) (fun _ _ _ h => h) (Or.inl ⟨by first | kernel_rfl | rfl, ?_⟩) (by assumption) ?_
          case refine_2 => intro w hSw; go_simp; try with_reducible rfl
          refine wpAnyH_take (i := 24) (v := ?_) rfl (by kernel_rfl) (by kernel_rfl) (by kernel_rfl) (fun _ _ _ h => h) (Or.inl ⟨by first | kernel_rfl | rfl, ?_⟩) (by assumption) ?_
          case refine_2 => intro w hSw; go_simp; try with_reducible rfl
          refine wpAnyH_done (by kernel_rfl) ?_ _
          go_simp
          go_wp2
          go_roundg (min n 14 - i1)
          case measure => omega
          case rel => exact ⟨i1, s', .slice pw nw cw, Bs', _, Ls, vs, by omega, rfl, by first | rfl | (congr 1; omega), OK', HLEN, Lib.hid HT7.out.done, K7⟩
        · have ll_eq : True := trivial
          obtain ⟨ll, hll⟩ : ∃ ll, ll = lf := ⟨_, rfl⟩
          obtain ⟨lx, hlx⟩ : ∃ lx, lx = u := ⟨_, rfl⟩
          have HLL : Hid (LiveAt ll lx (CsOf Bs bw (WA.heap.size) (.slice pt m ct)) WX) := Lib.hid (by rw [hll, hlx]; exact HU1.out)
          have LL : Hid (ll.length ≤ 65536) := Lib.hid (by rw [hll]; exact HL30.out)
          rw [← hlx] at FW
          clear hll hlx ll_eq HU1
          go_wp2_with fail
          rw [← HWA.out]
          refine FW.mono ?_
          rintro e w' ⟨rfl, rfl⟩
          clear FW
          go_wp2_with fail
          rw [← HWX.out]
          refine (rgive_any s OK.out (mpV s (.slice pv nv cv)) WX HT.out.mpw ll lx HLL.out.at_ LL.out).mono ?_
          rintro e W2 ⟨u', rfl, hmp, hnew, hb⟩
          have hT2 := HT.out.later HD.out hb
          obtain ⟨t', rfl, hapt⟩ := MpNew.apart HD.out HT.out hnew hmp (giveS_fr _ _) (giveS_to _ _)
          obtain ⟨pw, nw, cw, htw⟩ := hmp.slice
          subst htw
          have OK' : Hid ((giveS s ll).ok) := Lib.hid (giveS_ok OK.out _)
          have K2 : Hid (Kept WX W2) := Lib.hid hb
          obtain ⟨s', hs'⟩ : ∃ s', s' = giveS s ll := ⟨_, rfl⟩
          rw [← hs'] at OK' hmp
          rw [← hs']
          have HS' := Lib.hid hs'
          have g0 : W2.cell? ⟨WA.heap.size, 0, none⟩ = some (.int .i64 (s.fr : Int)) := by rw [cell_of_row _ _ _ _ _ _ hT2.rowx]; rfl
          have g1 : W2.cell? ⟨WA.heap.size, 1, none⟩ = some (.int .i64 (s.to_ : Int)) := by rw [cell_of_row _ _ _ _ _ _ hT2.rowx]; rfl
          have g2 : W2.cell? ⟨WA.heap.size, 2, none⟩ = some (.slice pv nv cv) := by rw [cell_of_row _ _ _ _ _ _ hT2.rowx]; rfl
          have f0 := frozen_of_row W2 (WA.heap.size) 0 _ _ hT2.rowx
          have f1 := frozen_of_row W2 (WA.heap.size) 1 _ _ hT2.rowx
          have f2 := frozen_of_row W2 (WA.heap.size) 2 _ _ hT2.rowx
          have p1 : W2.cell? ⟨wr.heap.size, 1, none⟩ = some (.int .i64 nn) := K2.out.cell (by rw [HWX.out]; exact y1)
          have p0 : W2.cell? ⟨wr.heap.size, 0, none⟩ = some (.int .u8 (kq : Int)) := K2.out.cell (by rw [HWX.out]; exact y0)
          obtain ⟨hT3, hbx⟩ := hT2.setx HD.out hmp hapt
          have hF0 : W2.heap[wr.heap.size]? = some (.cells #[.int .u8 (kq : Int), .int .i64 nn, .slice pl nl cl] 42 (0, 0)) := by
            have h := KX.out.row HRA.out
            exact K2.out.row h
          obtain ⟨W3, hW3⟩ : ∃ W3, W3 = (((W2.setCell ⟨WA.heap.size, 0, none⟩ (.int .i64 (s'.fr : Int))).setCell ⟨WA.heap.size, 1, none⟩ (.int .i64 (s'.to_ : Int))).setCell ⟨WA.heap.size, 2, none⟩ (.slice pw nw cw)) := ⟨_, rfl⟩
          rw [← hW3] at hT3 hbx
          have HW3 := Lib.hid hW3
          have HT3 := Lib.hid hT3
          have hcs2 := hT2.cs HD.out
          have K3 : Hid (Kept w W3) := Lib.hid (ButBy.kept hbx (fun k hk => (hcs2 k hk).1) ((HKA.out.then KX.out).then K2.out) ((HKA.out.then KX.out).then K2.out).size)
          have HLX3 : Hid (LiveAt ll lx (CsOf Bs bw (WA.heap.size) (.slice pt m ct)) W3) := Lib.hid ((HLL.out.later K2.out).turn (fun k e => Or.inl e) hbx)
          have s0 : W3.cell? ⟨wr.heap.size, 1, none⟩ = some (.int .i64 nn) := by
            rw [hW3, cell_of_row _ _ _ _ _ _ ((set_other _ _ _ _ _ (by have := HSA.out; omega : wr.heap.size ≠ WA.heap.size)).trans ((set_other _ _ _ _ _ (by have := HSA.out; omega : wr.heap.size ≠ WA.heap.size)).trans ((set_other _ _ _ _ _ (by have := HSA.out; omega : wr.heap.size ≠ WA.heap.size)).trans hF0)))]; rfl
          rw [HW3.out] at s0
          obtain ⟨er, her⟩ : ∃ er, er = giveE s ll := ⟨_, rfl⟩
          have HERE := Lib.hid her
          rw [← her]
          have xer : (er != er) = false := by simp
          clear her
          clear hT2 hapt hmp hnew hb hs' hW3 hT3 hbx hcs2 hF0 x0 x1 x2 y0 y1 b0 b1 b2 a0 a1 a2
          unfold mpV
          go_wp2_with fail
          rw [← HW3.out]
          refine (HD.out.give s Bs W3 ll lx HT3.out.hp OK.out HLX3.out.at_ LL.out (HLX3.out.apart.sub (fun k e => Or.inl e))).mono ?_
          rintro e W5 ⟨Bs', rfl, hp, hsub, hbut⟩
          rw [← HERE.out]
          rw [← HS'.out] at hp
          obtain ⟨hT4, hcs4, hbc4⟩ := HT3.out.turn hp hsub hbut
          have hcs3 := HT3.out.cs HD.out
          have K5 : Hid (Kept w W5) := Lib.hid (ButBy.kept hbc4 (fun k hk => (hcs3 k hk).1) K3.out K3.out.size)
          have HT5 := Lib.hid hT4
          have HG : Hid (LiveAt [] (.slice none 0 0) (CsOf Bs' bw (WA.heap.size) (.slice pt m ct)) W5) := Lib.hid ⟨RunsAt.nil _ 0, fun a n c e => by simp at e⟩
          have HTD := HG
          have HLG : Hid (([] : List (Int × Int)).length ≤ 1048576) := Lib.hid (Nat.zero_le _)
          have HLEN : Hid (vs.length ≤ i1) := Lib.hid (by have := HVI.out; omega)
          clear hp hsub hbut hT4 hcs4 hbc4 hcs3 s0
          have hT5 := HT5.out
          have x0 : W5.cell? ⟨WA.heap.size, 0, none⟩ = some (.int .i64 (s'.fr : Int)) := by rw [cell_of_row _ _ _ _ _ _ hT5.rowx]; rfl
          have x1 : W5.cell? ⟨WA.heap.size, 1, none⟩ = some (.int .i64 (s'.to_ : Int)) := by rw [cell_of_row _ _ _ _ _ _ hT5.rowx]; rfl
          have x2 : W5.cell? ⟨WA.heap.size, 2, none⟩ = some (.slice pw nw cw) := by rw [cell_of_row _ _ _ _ _ _ hT5.rowx]; rfl
          have b0 : W5.cell? ⟨bw, 0, none⟩ = some (.int .i64 (s.fr : Int)) := by rw [cell_of_row _ _ _ _ _ _ hT5.roww]; rfl
          have b1 : W5.cell? ⟨bw, 1, none⟩ = some (.int .i64 (s.to_ : Int)) := by rw [cell_of_row _ _ _ _ _ _ hT5.roww]; rfl
          have b2 : W5.cell? ⟨bw, 2, none⟩ = some (.slice pv nv cv) := by rw [cell_of_row _ _ _ _ _ _ hT5.roww]; rfl
          have f0 := frozen_of_row W5 bw 0 _ _ hT5.roww
          have f1 := frozen_of_row W5 bw 1 _ _ hT5.roww
          have f2 := frozen_of_row W5 bw 2 _ _ hT5.roww
          obtain ⟨hT6, hb6⟩ := hT5.setw HD.out
          have hcs5 := hT5.cs HD.out
          have KW6 : Kept w (((W5.setCell ⟨bw, 0, none⟩ (.int .i64 (s'.fr : Int))).setCell ⟨bw, 1, none⟩ (.int .i64 (s'.to_ : Int))).setCell ⟨bw, 2, none⟩ (.slice pw nw cw)) := ButBy.kept hb6 (fun k hk => (hcs5 k hk).1) K5.out K5.out.size
          obtain ⟨W6, hW6⟩ : ∃ W6, W6 = (((W5.setCell ⟨bw, 0, none⟩ (.int .i64 (s'.fr : Int))).setCell ⟨bw, 1, none⟩ (.int .i64 (s'.to_ : Int))).setCell ⟨bw, 2, none⟩ (.slice pw nw cw)) := ⟨_, rfl⟩
          rw [← hW6] at hT6 hb6 KW6
          have HG6 := HG.out.turn (fun k e => Or.inl e) hb6
          have HTD6 := HTD.out.turn (fun k e => Or.inl e) hb6
          have hdr : Kept W6 W6.drew := (Below.refl _ _).drew
          have HW6 := Lib.hid hW6
          have HT7 := Lib.hid (hT6.later HD.out hdr)
          have K7 : Hid (Kept w W6.drew) := Lib.hid (KW6.then hdr)
          replace HG := Lib.hid (HG6.later hdr)
          replace HTD := Lib.hid (HTD6.later hdr)
          have HLF : Hid ((runsA (freeF s')).length ≤ 1048576) := Lib.hid (Nat.le_trans (runsA_len _) (by omega))
          obtain ⟨cn, hcn⟩ : ∃ cn, cn = cntA (freeF s') := ⟨_, rfl⟩
          have HCN := Lib.hid hcn
          have xcn : ((cn : Int) != (cn : Int)) = false := by simp
          clear hT5 hT6 hb6 hcs5 KW6 hW6 HG6 HTD6 hdr hcn HT5 K5
          go_wp2_with fail
          rw [← HW6.out]
          refine wp_region_held_drew (S := fun w' => w'.heap[bw]? = some (.cells (mpC s' (.slice pw nw cw)) 39 (0, 0))) (by kernel_rfl) (HT7.out.roww) (fun hHeld => ?_)
          refine wpAnyH_take (i := 0) (v := ?_) rfl (by kernel_rfl) (by kernel_rfl) (by kernel_rfl) (fun _ _ _ h => h) (Or.inl ⟨by first | kernel_rfl | rfl, ?_⟩) (by assumption) ?_
          case refine_2 => intro w hSw; go_simp; try with_reducible rfl
          refine wpAnyH_take (i := 1) (v := ?_) rfl (by kernel_rfl) (by kernel_rfl) (by kernel_rfl) (fun _ _ _ h => h) (Or.inl ⟨by first | kernel_rfl | rfl, ?_⟩) (by assumption) ?_
          case refine_2 => intro w hSw; go_simp; try with_reducible rfl
          refine wpAnyH_take (i := 2) (v := ?_) rfl (by kernel_rfl) (by kernel_rfl) (by kernel_rfl) (fun _ _ _ h => h) (Or.inl ⟨by first | kernel_rfl | rfl, ?_⟩) (by assumption) ?_
          case refine_2 => intro w hSw; go_simp; try with_reducible rfl
          refine wpAnyH_take (i := 3) (v := ?_) rfl (by kernel_rfl) (by kernel_rfl) (by kernel_rfl) (fun _ _ _ h => h) (Or.inl ⟨by first | kernel_rfl | rfl, ?_⟩) (by assumption) ?_
          case refine_2 => intro w hSw; go_simp; try with_reducible rfl
          refine wpAnyH_take (i := 4) (v := ?_) rfl (by kernel_rfl) (by kernel_rfl) (by kernel_rfl) (fun _ _ _ h => h) (Or.inl ⟨by first | kernel_rfl | rfl, ?_⟩) (by assumption) ?_
          case refine_2 => intro w hSw; go_simp; try with_reducible rfl
          refine wpAnyH_take (i := 5) (v := ?_) rfl (by kernel_rfl) (by kernel_rfl) (by kernel_rfl) (fun _ _ _ h => h) (Or.inl ⟨by first | kernel_rfl | rfl, ?_⟩) (by assumption) ?_
          case refine_2 => intro w hSw; go_simp; try with_reducible rfl
          refine wpAnyH_ready (rs := [6]) (by kernel_rfl) (by simp) (AllReadyH.cons rfl (fun K hK => ?_) AllReadyH.nil)
          rw [if_pos (by kernel_rfl)]
          refine wp_called 18 #[.slice none 0 0, .slice none 0 0] (by first | kernel_rfl | rfl) ((rsame_any [] [] (.slice none 0 0) (.slice none 0 0) _ HG.out.at_ HTD.out.at_ HLG.out).mono ?_)
          rintro e u1 ⟨rfl, hb⟩
          rw [decide_eq_true rfl]
          replace HT7 := Lib.hid (HT7.out.later HD.out hb)
          replace K7 := Lib.hid (K7.out.then hb)
          clear hb HG HTD
          refine ⟨_, rfl, ?_⟩
          refine hK.out _ _ HT7.out.roww (fun _ => ?_)
          clear hK K
          refine wpAnyH_take (i := 7) (v := ?_) rfl (by kernel_rfl) (by kernel_rfl) (by kernel_rfl) (fun _ _ _ h => h) (Or.inl ⟨by first | kernel_rfl | rfl, ?_⟩) (by assumption) ?_
          case refine_2 => intro w hSw; go_simp; try with_reducible rfl
          refine wpAnyH_take (i := 8) (v := ?_) rfl (by kernel_rfl) (by kernel_rfl) (by kernel_rfl) (fun _ _ _ h => h) (Or.inl ⟨by first | kernel_rfl | rfl, ?_⟩) (by assumption) ?_
          case refine_2 => intro w hSw; go_simp; try with_reducible rfl
          refine wpAnyH_take (i := 9) (v := ?_) rfl (by kernel_rfl) (by kernel_rfl) (by kernel_rfl) (fun _ _ _ h => h) (Or.inl ⟨by first | kernel_rfl | rfl, ?_⟩) (by assumption) ?_
          case refine_2 => intro w hSw; go_simp; try with_reducible rfl
          refine wpAnyH_take (i := 10) (v := ?_) rfl (by kernel_rfl) (by kernel_rfl) (by kernel_rfl) (fun _ _ _ h => h) (Or.inl ⟨by first | kernel_rfl | rfl, ?_⟩) (by assumption) ?_
          case refine_2 => intro w hSw; go_simp; try with_reducible rfl
          refine wpAnyH_take (i := 12) (v := .agg (mpC s' (.slice pw nw cw))) rfl (by kernel_rfl) (by kernel_rfl) (by kernel_rfl) (fun _ _ _ h => h) (yieldsIf_load_mid (by first | kernel_rfl | rfl) _ _ rfl bw 0 (by kernel_rfl) (mpC s' (.slice pw nw cw)).toList _ (fun _ h => range_of_row h) Try.underlying39 rfl sizeMp) (by assumption) ?_
          refine wpAnyH_ready (rs := [11]) (by kernel_rfl) (by simp) (AllReadyH.cons rfl (fun K hK => ?_) AllReadyH.nil)
          rw [if_pos (by kernel_rfl)]
          refine wp_called 35 #[.pointer (some ad)] (by first | kernel_rfl | rfl) ((HD.out.free s' Bs' _ HT7.out.hp OK'.out).mono ?_)
          rintro e u2 ⟨fz, rfl, hfz, -, hb⟩
          have HFZ := Lib.hid hfz
          replace HT7 := Lib.hid (HT7.out.later HD.out hb)
          replace K7 := Lib.hid (K7.out.then hb)
          clear hfz hb
          refine ⟨_, rfl, ?_⟩
          refine hK.out _ _ HT7.out.roww (fun _ => ?_)
          clear hK K
          refine wpAnyH_ready (rs := [13]) (by kernel_rfl) (by simp) (AllReadyH.cons rfl (fun K hK => ?_) AllReadyH.nil)
          rw [if_pos (by kernel_rfl)]
          refine wp_called 36 #[mpV s' (.slice pw nw cw)] (by first | kernel_rfl | rfl) ((rfree_any s' OK'.out (mpV s' (.slice pw nw cw)) _ HT7.out.mpw).mono ?_)
          rintro e u3 ⟨gz, rfl, hgz, hb⟩
          have HGZ := Lib.hid (hgz.at_ (runsA_wf _))
          replace HFZ := Lib.hid (HFZ.out.later hb)
          replace HT7 := Lib.hid (HT7.out.later HD.out hb)
          replace K7 := Lib.hid (K7.out.then hb)
          clear hgz hb
          refine ⟨_, rfl, ?_⟩
          refine hK.out _ _ HT7.out.roww (fun _ => ?_)
          clear hK K
          refine wpAnyH_ready (rs := [14]) (by kernel_rfl) (by simp) (AllReadyH.cons rfl (fun K hK => ?_) AllReadyH.nil)
          rw [if_pos (by kernel_rfl)]
          refine wp_called 18 #[fz, gz] (by first | kernel_rfl | rfl) ((rsame_any (runsA (freeF s')) (runsA (freeF s')) fz gz _ HFZ.out HGZ.out HLF.out).mono ?_)
          rintro e u4 ⟨rfl, hb⟩
          rw [decide_eq_true rfl]
          replace HT7 := Lib.hid (HT7.out.later HD.out hb)
          replace K7 := Lib.hid (K7.out.then hb)
          clear hb HFZ HGZ
          refine ⟨_, rfl, ?_⟩
          refine hK.out _ _ HT7.out.roww (fun _ => ?_)
          clear hK K
          refine wpAnyH_take (i := 15) (v := ?_) rfl (by kernel_rfl) (by kernel_rfl) (by kernel_rfl) (fun _ _ _ h => h) (Or.inl ⟨by first | kernel_rfl | rfl, ?_⟩) (by assumption) ?_
          case refine_2 => intro w hSw; go_simp; try with_reducible rfl
          refine wpAnyH_take (i := 16) (v := ?_) rfl (by kernel_rfl) (by kernel_rfl) (by kernel_rfl) (fun _ _ _ h => h) (Or.inl ⟨by first | kernel_rfl | rfl, ?_⟩) (by assumption) ?_
          case refine_2 => intro w hSw; go_simp; try with_reducible rfl
          refine wpAnyH_take (i := 17) (v := ?_) rfl (by kernel_rfl) (by kernel_rfl) (by kernel_rfl) (fun _ _ _ h => h) (Or.inl ⟨by first | kernel_rfl | rfl, ?_⟩) (by assumption) ?_
          case refine_2 => intro w hSw; go_simp; try with_reducible rfl
          refine wpAnyH_take (i := 18) (v := ?_) rfl (by kernel_rfl) (by kernel_rfl) (by kernel_rfl) (fun _ _ _ h => h) (Or.inl ⟨by first | kernel_rfl | rfl, ?_⟩) (by assumption) ?_
          case refine_2 => intro w hSw; go_simp; try with_reducible rfl
          refine wpAnyH_take (i := 20) (v := .agg (mpC s' (.slice pw nw cw))) rfl (by kernel_rfl) (by kernel_rfl) (by kernel_rfl) (fun _ _ _ h => h) (yieldsIf_load_mid (by first | kernel_rfl | rfl) _ _ rfl bw 0 (by kernel_rfl) (mpC s' (.slice pw nw cw)).toList _ (fun _ h => range_of_row h) Try.underlying39 rfl sizeMp) (by assumption) ?_
          refine wpAnyH_ready (rs := [19]) (by kernel_rfl) (by simp) (AllReadyH.cons rfl (fun K hK => ?_) AllReadyH.nil)
          rw [if_pos (by kernel_rfl)]
          refine wp_called 37 #[.pointer (some ad)] (by first | kernel_rfl | rfl) ((HD.out.room s' Bs' _ HT7.out.hp OK'.out).mono ?_)
          rintro e u5 ⟨rfl, hb⟩
          rw [← HCN.out]
          replace HT7 := Lib.hid (HT7.out.later HD.out hb)
          replace K7 := Lib.hid (K7.out.then hb)
          clear hb
          refine ⟨_, rfl, ?_⟩
          refine hK.out _ _ HT7.out.roww (fun _ => ?_)
          clear hK K
          refine wpAnyH_ready (rs := [21]) (by kernel_rfl) (by simp) (AllReadyH.cons rfl (fun K hK => ?_) AllReadyH.nil)
          rw [if_pos (by kernel_rfl)]
          refine wp_called 36 #[mpV s' (.slice pw nw cw)] (by first | kernel_rfl | rfl) ((rfree_any s' OK'.out (mpV s' (.slice pw nw cw)) _ HT7.out.mpw).mono ?_)
          rintro e u6 ⟨hz6, rfl, hgz, hb⟩
          have HGZ := Lib.hid (hgz.at_ (runsA_wf _))
          replace HT7 := Lib.hid (HT7.out.later HD.out hb)
          replace K7 := Lib.hid (K7.out.then hb)
          clear hgz hb
          refine ⟨_, rfl, ?_⟩
          refine hK.out _ _ HT7.out.roww (fun _ => ?_)
          clear hK K
          refine wpAnyH_ready (rs := [22]) (by kernel_rfl) (by simp) (AllReadyH.cons rfl (fun K hK => ?_) AllReadyH.nil)
          rw [if_pos (by kernel_rfl)]
          refine wp_called 14 #[hz6] (by first | kernel_rfl | rfl) ((rcount_any (runsA (freeF s')) hz6 _ HGZ.out HLF.out).mono ?_)
          rintro e u7 ⟨rfl, hb⟩
          rw [cntA_again, ← HCN.out]
          replace HT7 := Lib.hid (HT7.out.later HD.out hb)
          replace K7 := Lib.hid (K7.out.then hb)
          clear hb HGZ
          refine ⟨_, rfl, ?_⟩
          refine hK.out _ _ HT7.out.roww (fun _ => ?_)
          clear hK K
          refine wpAnyH_take (i := 23) (v := ?_) rfl (by kernel_rfl) (by kernel_rfl) (by kernel_rfl) (fun _ _ _ h => h) (Or.inl ⟨by first | kernel_rfl | rfl, ?_⟩) (by assumption) ?_
          case refine_2 => intro w hSw; go_simp; try with_reducible rfl
          refine wpAnyH_take (i := 24) (v := ?_) rfl (by kernel_rfl) (by kernel_rfl) (by kernel_rfl) (fun _ _ _ h => h) (Or.inl ⟨by first | kernel_rfl | rfl, ?_⟩) (by assumption) ?_
          case refine_2 => intro w hSw; go_simp; try with_reducible rfl
          refine wpAnyH_done (by kernel_rfl) ?_ _
          go_simp
          go_wp2
          go_roundg (min n 14 - i1)
          case measure => omega
          case rel => exact ⟨i1, s', .slice pw nw cw, Bs', _, Ls, vs, by omega, rfl, by first | rfl | (congr 1; omega), OK', HLEN, Lib.hid HT7.out.done, K7⟩
        · by_cases hm0 : 0 < m
          · have hmi0 : (m : Int) > 0 := by omega
            by_cases hnn : nn ≥ 0
            · obtain ⟨N, rfl⟩ : ∃ N : Nat, nn = N := ⟨nn.toNat, by omega⟩
              have rj : ((N : Int)).tmod (m : Int) = ((N % m : Nat) : Int) := rfl
              obtain ⟨j, hj⟩ : ∃ j, j = N % m := ⟨_, rfl⟩
              have hjm : j < m := by rw [hj]; exact Nat.mod_lt _ hm0
              rw [← hj] at rj
              have hji0 : (0 : Int) ≤ j := by omega
              have hji : (j : Int) < m := by omega
              have hmne : ¬ (m : Int) = 0 := by omega
              rcases HCT2.out with h0 | ⟨gt, rfl, -, hcv⟩
              · omega
              have hjv : j < vs.length := by rw [← HM.out]; exact hjm
              have dj : WA.cell? ⟨gt, j, none⟩ = some vs[j] := hcv j _ (List.getElem?_eq_getElem hjv)
              have hlj := HEL1.out j hjv
              obtain ⟨lx, hlx⟩ : ∃ lx, lx = vs[j] := ⟨_, rfl⟩
              rw [← hlx] at dj hlj
              obtain ⟨ll, hll⟩ : ∃ ll, ll = Ls.getD j [] := ⟨_, rfl⟩
              rw [← hll] at hlj
              have HLL := Lib.hid hlj.1
              have LL : Hid (ll.length ≤ 65536) := Lib.hid (Nat.le_trans hlj.2 (by omega))
              clear hj hjm hcv hlj hlx hll hjv hnn
              go_wp2_with fail
              rw [← HWA.out]
              refine FW.mono ?_
              rintro e w' ⟨rfl, rfl⟩
              clear FW
              go_wp2_with fail
              rw [← HWX.out]
              refine (rgive_any s OK.out (mpV s (.slice pv nv cv)) WX HT.out.mpw ll lx HLL.out.at_ LL.out).mono ?_
              rintro e W2 ⟨u', rfl, hmp, hnew, hb⟩
              have hT2 := HT.out.later HD.out hb
              obtain ⟨t', rfl, hapt⟩ := MpNew.apart HD.out HT.out hnew hmp (giveS_fr _ _) (giveS_to _ _)
              obtain ⟨pw, nw, cw, htw⟩ := hmp.slice
              subst htw
              have OK' : Hid ((giveS s ll).ok) := Lib.hid (giveS_ok OK.out _)
              have K2 : Hid (Kept WX W2) := Lib.hid hb
              obtain ⟨s', hs'⟩ : ∃ s', s' = giveS s ll := ⟨_, rfl⟩
              rw [← hs'] at OK' hmp
              rw [← hs']
              have HS' := Lib.hid hs'
              have g0 : W2.cell? ⟨WA.heap.size, 0, none⟩ = some (.int .i64 (s.fr : Int)) := by rw [cell_of_row _ _ _ _ _ _ hT2.rowx]; rfl
              have g1 : W2.cell? ⟨WA.heap.size, 1, none⟩ = some (.int .i64 (s.to_ : Int)) := by rw [cell_of_row _ _ _ _ _ _ hT2.rowx]; rfl
              have g2 : W2.cell? ⟨WA.heap.size, 2, none⟩ = some (.slice pv nv cv) := by rw [cell_of_row _ _ _ _ _ _ hT2.rowx]; rfl
              have f0 := frozen_of_row W2 (WA.heap.size) 0 _ _ hT2.rowx
              have f1 := frozen_of_row W2 (WA.heap.size) 1 _ _ hT2.rowx
              have f2 := frozen_of_row W2 (WA.heap.size) 2 _ _ hT2.rowx
              have p1 : W2.cell? ⟨wr.heap.size, 1, none⟩ = some (.int .i64 (N : Int)) := K2.out.cell (by rw [HWX.out]; exact y1)
              have p0 : W2.cell? ⟨wr.heap.size, 0, none⟩ = some (.int .u8 (kq : Int)) := K2.out.cell (by rw [HWX.out]; exact y0)
              obtain ⟨hT3, hbx⟩ := hT2.setx HD.out hmp hapt
              have hF0 : W2.heap[wr.heap.size]? = some (.cells #[.int .u8 (kq : Int), .int .i64 (N : Int), .slice pl nl cl] 42 (0, 0)) := by
                have h := KX.out.row HRA.out
                exact K2.out.row h
              obtain ⟨W3, hW3⟩ : ∃ W3, W3 = (((W2.setCell ⟨WA.heap.size, 0, none⟩ (.int .i64 (s'.fr : Int))).setCell ⟨WA.heap.size, 1, none⟩ (.int .i64 (s'.to_ : Int))).setCell ⟨WA.heap.size, 2, none⟩ (.slice pw nw cw)) := ⟨_, rfl⟩
              rw [← hW3] at hT3 hbx
              have HW3 := Lib.hid hW3
              have HT3 := Lib.hid hT3
              have hcs2 := hT2.cs HD.out
              have K3 : Hid (Kept w W3) := Lib.hid (ButBy.kept hbx (fun k hk => (hcs2 k hk).1) ((HKA.out.then KX.out).then K2.out) ((HKA.out.then KX.out).then K2.out).size)
              have HLX3 : Hid (LiveAt ll lx (CsOf Bs bw (WA.heap.size) (.slice (some ⟨gt, 0, none⟩) m ct)) W3) := Lib.hid ((HLL.out.later K2.out).turn (fun k e => Or.inl e) hbx)
              have s0 : W3.cell? ⟨wr.heap.size, 1, none⟩ = some (.int .i64 (N : Int)) := by
                rw [hW3, cell_of_row _ _ _ _ _ _ ((set_other _ _ _ _ _ (by have := HSA.out; omega : wr.heap.size ≠ WA.heap.size)).trans ((set_other _ _ _ _ _ (by have := HSA.out; omega : wr.heap.size ≠ WA.heap.size)).trans ((set_other _ _ _ _ _ (by have := HSA.out; omega : wr.heap.size ≠ WA.heap.size)).trans hF0)))]; rfl
              rw [HW3.out] at s0
              obtain ⟨er, her⟩ : ∃ er, er = giveE s ll := ⟨_, rfl⟩
              have HERE := Lib.hid her
              rw [← her]
              have xer : (er != er) = false := by simp
              clear her
              clear hT2 hapt hmp hnew hb hs' hW3 hT3 hbx hcs2 hF0 x0 x1 x2 y0 y1 b0 b1 b2 a0 a1 a2
              unfold mpV
              go_wp2_with fail
              rw [← HW3.out]
              refine (HD.out.give s Bs W3 ll lx HT3.out.hp OK.out HLX3.out.at_ LL.out (HLX3.out.apart.sub (fun k e => Or.inl e))).mono ?_
              rintro e W5 ⟨Bs', rfl, hp, hsub, hbut⟩
              rw [← HERE.out]
              rw [← HS'.out] at hp
              obtain ⟨hT4, hcs4, hbc4⟩ := HT3.out.turn hp hsub hbut
              have hcs3 := HT3.out.cs HD.out
              have K5 : Hid (Kept w W5) := Lib.hid (ButBy.kept hbc4 (fun k hk => (hcs3 k hk).1) K3.out K3.out.size)
              have HT5 := Lib.hid hT4
              have HG : Hid (LiveAt [] (.slice none 0 0) (CsOf Bs' bw (WA.heap.size) (.slice (some ⟨gt, 0, none⟩) m ct)) W5) := Lib.hid ⟨RunsAt.nil _ 0, fun a n c e => by simp at e⟩
              have HTD := HG
              have HLG : Hid (([] : List (Int × Int)).length ≤ 1048576) := Lib.hid (Nat.zero_le _)
              have HLEN : Hid (vs.length ≤ i1) := Lib.hid (by have := HVI.out; omega)
              clear hp hsub hbut hT4 hcs4 hbc4 hcs3 s0
              have hT5 := HT5.out
              have x0 : W5.cell? ⟨WA.heap.size, 0, none⟩ = some (.int .i64 (s'.fr : Int)) := by rw [cell_of_row _ _ _ _ _ _ hT5.rowx]; rfl
              have x1 : W5.cell? ⟨WA.heap.size, 1, none⟩ = some (.int .i64 (s'.to_ : Int)) := by rw [cell_of_row _ _ _ _ _ _ hT5.rowx]; rfl
              have x2 : W5.cell? ⟨WA.heap.size, 2, none⟩ = some (.slice pw nw cw) := by rw [cell_of_row _ _ _ _ _ _ hT5.rowx]; rfl
              have b0 : W5.cell? ⟨bw, 0, none⟩ = some (.int .i64 (s.fr : Int)) := by rw [cell_of_row _ _ _ _ _ _ hT5.roww]; rfl
              have b1 : W5.cell? ⟨bw, 1, none⟩ = some (.int .i64 (s.to_ : Int)) := by rw [cell_of_row _ _ _ _ _ _ hT5.roww]; rfl
              have b2 : W5.cell? ⟨bw, 2, none⟩ = some (.slice pv nv cv) := by rw [cell_of_row _ _ _ _ _ _ hT5.roww]; rfl
              have f0 := frozen_of_row W5 bw 0 _ _ hT5.roww
              have f1 := frozen_of_row W5 bw 1 _ _ hT5.roww
              have f2 := frozen_of_row W5 bw 2 _ _ hT5.roww
              obtain ⟨hT6, hb6⟩ := hT5.setw HD.out
              have hcs5 := hT5.cs HD.out
              have KW6 : Kept w (((W5.setCell ⟨bw, 0, none⟩ (.int .i64 (s'.fr : Int))).setCell ⟨bw, 1, none⟩ (.int .i64 (s'.to_ : Int))).setCell ⟨bw, 2, none⟩ (.slice pw nw cw)) := ButBy.kept hb6 (fun k hk => (hcs5 k hk).1) K5.out K5.out.size
              obtain ⟨W6, hW6⟩ : ∃ W6, W6 = (((W5.setCell ⟨bw, 0, none⟩ (.int .i64 (s'.fr : Int))).setCell ⟨bw, 1, none⟩ (.int .i64 (s'.to_ : Int))).setCell ⟨bw, 2, none⟩ (.slice pw nw cw)) := ⟨_, rfl⟩
              rw [← hW6] at hT6 hb6 KW6
              have HG6 := HG.out.turn (fun k e => Or.inl e) hb6
              have HTD6 := HTD.out.turn (fun k e => Or.inl e) hb6
              have hdr : Kept W6 W6.drew := (Below.refl _ _).drew
              have HW6 := Lib.hid hW6
              have HT7 := Lib.hid (hT6.later HD.out hdr)
              have K7 : Hid (Kept w W6.drew) := Lib.hid (KW6.then hdr)
              replace HG := Lib.hid (HG6.later hdr)
              replace HTD := Lib.hid (HTD6.later hdr)
              have HLF : Hid ((runsA (freeF s')).length ≤ 1048576) := Lib.hid (Nat.le_trans (runsA_len _) (by omega))
              obtain ⟨cn, hcn⟩ : ∃ cn, cn = cntA (freeF s') := ⟨_, rfl⟩
              have HCN := Lib.hid hcn
              have xcn : ((cn : Int) != (cn : Int)) = false := by simp
              clear hT5 hT6 hb6 hcs5 KW6 hW6 HG6 HTD6 hdr hcn HT5 K5
              go_wp2_with fail
              rw [← HW6.out]
              refine wp_region_held_drew (S := fun w' => w'.heap[bw]? = some (.cells (mpC s' (.slice pw nw cw)) 39 (0, 0))) (by kernel_rfl) (HT7.out.roww) (fun hHeld => ?_)
              refine wpAnyH_take (i := 0) (v := ?_) rfl (by kernel_rfl) (by kernel_rfl) (by kernel_rfl) (fun _ _ _ h => h) (Or.inl ⟨by first | kernel_rfl | rfl, ?_⟩) (by assumption) ?_
              case refine_2 => intro w hSw; go_simp; try with_reducible rfl
              refine wpAnyH_take (i := 1) (v := ?_) rfl (by kernel_rfl) (by kernel_rfl) (by kernel_rfl) (fun _ _ _ h => h) (Or.inl ⟨by first | kernel_rfl | rfl, ?_⟩) (by assumption) ?_
              case refine_2 => intro w hSw; go_simp; try with_reducible rfl
              refine wpAnyH_take (i := 2) (v := ?_) rfl (by kernel_rfl) (by kernel_rfl) (by kernel_rfl) (fun _ _ _ h => h) (Or.inl ⟨by first | kernel_rfl | rfl, ?_⟩) (by assumption) ?_
              case refine_2 => intro w hSw; go_simp; try with_reducible rfl
              refine wpAnyH_take (i := 3) (v := ?_) rfl (by kernel_rfl) (by kernel_rfl) (by kernel_rfl) (fun _ _ _ h => h) (Or.inl ⟨by first | kernel_rfl | rfl, ?_⟩) (by assumption) ?_
              case refine_2 => intro w hSw; go_simp; try with_reducible rfl
              refine wpAnyH_take (i := 4) (v := ?_) rfl (by kernel_rfl) (by kernel_rfl) (by kernel_rfl) (fun _ _ _ h => h) (Or.inl ⟨by first | kernel_rfl | rfl, ?_⟩) (by assumption) ?_
              case refine_2 => intro w hSw; go_simp; try with_reducible rfl
              refine wpAnyH_take (i := 5) (v := ?_) rfl (by kernel_rfl) (by kernel_rfl) (by kernel_rfl) (fun _ _ _ h => h) (Or.inl ⟨by first | kernel_rfl | rfl, ?_⟩) (by assumption) ?_
              case refine_2 => intro w hSw; go_simp; try with_reducible rfl
              refine wpAnyH_ready (rs := [6]) (by kernel_rfl) (by simp) (AllReadyH.cons rfl (fun K hK => ?_) AllReadyH.nil)
              rw [if_pos (by kernel_rfl)]
              refine wp_called 18 #[.slice none 0 0, .slice none 0 0] (by first | kernel_rfl | rfl) ((rsame_any [] [] (.slice none 0 0) (.slice none 0 0) _ HG.out.at_ HTD.out.at_ HLG.out).mono ?_)
              rintro e u1 ⟨rfl, hb⟩
              rw [decide_eq_true rfl]
              replace HT7 := Lib.hid (HT7.out.later HD.out hb)
              replace K7 := Lib.hid (K7.out.then hb)
              clear hb HG HTD
              refine ⟨_, rfl, ?_⟩
              refine hK.out _ _ HT7.out.roww (fun _ => ?_)
              clear hK K
              refine wpAnyH_take (i := 7) (v := ?_) rfl (by kernel_rfl) (by kernel_rfl) (by kernel_rfl) (fun _ _ _ h => h) (Or.inl ⟨by first | kernel_rfl | rfl, ?_⟩) (by assumption) ?_
              case refine_2 => intro w hSw; go_simp; try with_reducible rfl
              refine wpAnyH_take (i := 8) (v := ?_) rfl (by kernel_rfl) (by kernel_rfl) (by kernel_rfl) (fun _ _ _ h => h) (Or.inl ⟨by first | kernel_rfl | rfl, ?_⟩) (by assumption) ?_
              case refine_2 => intro w hSw; go_simp; try with_reducible rfl
              refine wpAnyH_take (i := 9) (v := ?_) rfl (by kernel_rfl) (by kernel_rfl) (by kernel_rfl) (fun _ _ _ h => h) (Or.inl ⟨by first | kernel_rfl | rfl, ?_⟩) (by assumption) ?_
              case refine_2 => intro w hSw; go_simp; try with_reducible rfl
              refine wpAnyH_take (i := 10) (v := ?_) rfl (by kernel_rfl) (by kernel_rfl) (by kernel_rfl) (fun _ _ _ h => h) (Or.inl ⟨by first | kernel_rfl | rfl, ?_⟩) (by assumption) ?_
              case refine_2 => intro w hSw; go_simp; try with_reducible rfl
              refine wpAnyH_take (i := 12) (v := .agg (mpC s' (.slice pw nw cw))) rfl (by kernel_rfl) (by kernel_rfl) (by kernel_rfl) (fun _ _ _ h => h) (yieldsIf_load_mid (by first | kernel_rfl | rfl) _ _ rfl bw 0 (by kernel_rfl) (mpC s' (.slice pw nw cw)).toList _ (fun _ h => range_of_row h) Try.underlying39 rfl sizeMp) (by assumption) ?_
              refine wpAnyH_ready (rs := [11]) (by kernel_rfl) (by simp) (AllReadyH.cons rfl (fun K hK => ?_) AllReadyH.nil)
              rw [if_pos (by kernel_rfl)]
              refine wp_called 35 #[.pointer (some ad)] (by first | kernel_rfl | rfl) ((HD.out.free s' Bs' _ HT7.out.hp OK'.out).mono ?_)
              rintro e u2 ⟨fz, rfl, hfz, -, hb⟩
              have HFZ := Lib.hid hfz
              replace HT7 := Lib.hid (HT7.out.later HD.out hb)
              replace K7 := Lib.hid (K7.out.then hb)
              clear hfz hb
              refine ⟨_, rfl, ?_⟩
              refine hK.out _ _ HT7.out.roww (fun _ => ?_)
              clear hK K
              refine wpAnyH_ready (rs := [13]) (by kernel_rfl) (by simp) (AllReadyH.cons rfl (fun K hK => ?_) AllReadyH.nil)
              rw [if_pos (by kernel_rfl)]
              refine wp_called 36 #[mpV s' (.slice pw nw cw)] (by first | kernel_rfl | rfl) ((rfree_any s' OK'.out (mpV s' (.slice pw nw cw)) _ HT7.out.mpw).mono ?_)
              rintro e u3 ⟨gz, rfl, hgz, hb⟩
              have HGZ := Lib.hid (hgz.at_ (runsA_wf _))
              replace HFZ := Lib.hid (HFZ.out.later hb)
              replace HT7 := Lib.hid (HT7.out.later HD.out hb)
              replace K7 := Lib.hid (K7.out.then hb)
              clear hgz hb
              refine ⟨_, rfl, ?_⟩
              refine hK.out _ _ HT7.out.roww (fun _ => ?_)
              clear hK K
              refine wpAnyH_ready (rs := [14]) (by kernel_rfl) (by simp) (AllReadyH.cons rfl (fun K hK => ?_) AllReadyH.nil)
              rw [if_pos (by kernel_rfl)]
              refine wp_called 18 #[fz, gz] (by first | kernel_rfl | rfl) ((rsame_any (runsA (freeF s')) (runsA (freeF s')) fz gz _ HFZ.out HGZ.out HLF.out).mono ?_)
              rintro e u4 ⟨rfl, hb⟩
              rw [decide_eq_true rfl]
              replace HT7 := Lib.hid (HT7.out.later HD.out hb)
              replace K7 := Lib.hid (K7.out.then hb)
              clear hb HFZ HGZ
              refine ⟨_, rfl, ?_⟩
              refine hK.out _ _ HT7.out.roww (fun _ => ?_)
              clear hK K
              refine wpAnyH_take (i := 15) (v := ?_) rfl (by kernel_rfl) (by kernel_rfl) (by kernel_rfl) (fun _ _ _ h => h) (Or.inl ⟨by first | kernel_rfl | rfl, ?_⟩) (by assumption) ?_
              case refine_2 => intro w hSw; go_simp; try with_reducible rfl
              refine wpAnyH_take (i := 16) (v := ?_) rfl (by kernel_rfl) (by kernel_rfl) (by kernel_rfl) (fun _ _ _ h => h) (Or.inl ⟨by first | kernel_rfl | rfl, ?_⟩) (by assumption) ?_
              case refine_2 => intro w hSw; go_simp; try with_reducible rfl
              refine wpAnyH_take (i := 17) (v := ?_) rfl (by kernel_rfl) (by kernel_rfl) (by kernel_rfl) (fun _ _ _ h => h) (Or.inl ⟨by first | kernel_rfl | rfl, ?_⟩) (by assumption) ?_
              case refine_2 => intro w hSw; go_simp; try with_reducible rfl
              refine wpAnyH_take (i := 18) (v := ?_) rfl (by kernel_rfl) (by kernel_rfl) (by kernel_rfl) (fun _ _ _ h => h) (Or.inl ⟨by first | kernel_rfl | rfl, ?_⟩) (by assumption) ?_
              case refine_2 => intro w hSw; go_simp; try with_reducible rfl
              refine wpAnyH_take (i := 20) (v := .agg (mpC s' (.slice pw nw cw))) rfl (by kernel_rfl) (by kernel_rfl) (by kernel_rfl) (fun _ _ _ h => h) (yieldsIf_load_mid (by first | kernel_rfl | rfl) _ _ rfl bw 0 (by kernel_rfl) (mpC s' (.slice pw nw cw)).toList _ (fun _ h => range_of_row h) Try.underlying39 rfl sizeMp) (by assumption) ?_
              refine wpAnyH_ready (rs := [19]) (by kernel_rfl) (by simp) (AllReadyH.cons rfl (fun K hK => ?_) AllReadyH.nil)
              rw [if_pos (by kernel_rfl)]
              refine wp_called 37 #[.pointer (some ad)] (by first | kernel_rfl | rfl) ((HD.out.room s' Bs' _ HT7.out.hp OK'.out).mono ?_)
              rintro e u5 ⟨rfl, hb⟩
              rw [← HCN.out]
              replace HT7 := Lib.hid (HT7.out.later HD.out hb)
              replace K7 := Lib.hid (K7.out.then hb)
              clear hb
              refine ⟨_, rfl, ?_⟩
              refine hK.out _ _ HT7.out.roww (fun _ => ?_)
              clear hK K
              refine wpAnyH_ready (rs := [21]) (by kernel_rfl) (by simp) (AllReadyH.cons rfl (fun K hK => ?_) AllReadyH.nil)
              rw [if_pos (by kernel_rfl)]
              refine wp_called 36 #[mpV s' (.slice pw nw cw)] (by first | kernel_rfl | rfl) ((rfree_any s' OK'.out (mpV s' (.slice pw nw cw)) _ HT7.out.mpw).mono ?_)
              rintro e u6 ⟨hz6, rfl, hgz, hb⟩
              have HGZ := Lib.hid (hgz.at_ (runsA_wf _))
              replace HT7 := Lib.hid (HT7.out.later HD.out hb)
              replace K7 := Lib.hid (K7.out.then hb)
              clear hgz hb
              refine ⟨_, rfl, ?_⟩
              refine hK.out _ _ HT7.out.roww (fun _ => ?_)
              clear hK K
              refine wpAnyH_ready (rs := [22]) (by kernel_rfl) (by simp) (AllReadyH.cons rfl (fun K hK => ?_) AllReadyH.nil)
              rw [if_pos (by kernel_rfl)]
              refine wp_called 14 #[hz6] (by first | kernel_rfl | rfl) ((rcount_any (runsA (freeF s')) hz6 _ HGZ.out HLF.out).mono ?_)
              rintro e u7 ⟨rfl, hb⟩
              rw [cntA_again, ← HCN.out]
              replace HT7 := Lib.hid (HT7.out.later HD.out hb)
              replace K7 := Lib.hid (K7.out.then hb)
              clear hb HGZ
              refine ⟨_, rfl, ?_⟩
              refine hK.out _ _ HT7.out.roww (fun _ => ?_)
              clear hK K
              refine wpAnyH_take (i := 23) (v := ?_) rfl (by kernel_rfl) (by kernel_rfl) (by kernel_rfl) (fun _ _ _ h => h) (Or.inl ⟨by first | kernel_rfl | rfl, ?_⟩) (by assumption) ?_
              case refine_2 => intro w hSw; go_simp; try with_reducible rfl
              refine wpAnyH_take (i := 24) (v := ?_) rfl (by kernel_rfl) (by kernel_rfl) (by kernel_rfl) (fun _ _ _ h => h) (Or.inl ⟨by first | kernel_rfl | rfl, ?_⟩) (by assumption) ?_
              case refine_2 => intro w hSw; go_simp; try with_reducible rfl
              refine wpAnyH_done (by kernel_rfl) ?_ _
              go_simp
              go_wp2
              go_roundg (min n 14 - i1)
              case measure => omega
              case rel => exact ⟨i1, s', .slice pw nw cw, Bs', _, Ls, vs, by omega, rfl, by first | rfl | (congr 1; omega), OK', HLEN, Lib.hid HT7.out.done, K7⟩
            · have ll_eq : True := trivial
              obtain ⟨ll, hll⟩ : ∃ ll, ll = lf := ⟨_, rfl⟩
              obtain ⟨lx, hlx⟩ : ∃ lx, lx = u := ⟨_, rfl⟩
              have HLL : Hid (LiveAt ll lx (CsOf Bs bw (WA.heap.size) (.slice pt m ct)) WX) := Lib.hid (by rw [hll, hlx]; exact HU1.out)
              have LL : Hid (ll.length ≤ 65536) := Lib.hid (by rw [hll]; exact HL30.out)
              rw [← hlx] at FW
              clear hll hlx ll_eq HU1
              go_wp2_with fail
              rw [← HWA.out]
              refine FW.mono ?_
              rintro e w' ⟨rfl, rfl⟩
              clear FW
              go_wp2_with fail
              rw [← HWX.out]
              refine (rgive_any s OK.out (mpV s (.slice pv nv cv)) WX HT.out.mpw ll lx HLL.out.at_ LL.out).mono ?_
              rintro e W2 ⟨u', rfl, hmp, hnew, hb⟩
              have hT2 := HT.out.later HD.out hb
              obtain ⟨t', rfl, hapt⟩ := MpNew.apart HD.out HT.out hnew hmp (giveS_fr _ _) (giveS_to _ _)
              obtain ⟨pw, nw, cw, htw⟩ := hmp.slice
              subst htw
              have OK' : Hid ((giveS s ll).ok) := Lib.hid (giveS_ok OK.out _)
              have K2 : Hid (Kept WX W2) := Lib.hid hb
              obtain ⟨s', hs'⟩ : ∃ s', s' = giveS s ll := ⟨_, rfl⟩
              rw [← hs'] at OK' hmp
              rw [← hs']
              have HS' := Lib.hid hs'
              have g0 : W2.cell? ⟨WA.heap.size, 0, none⟩ = some (.int .i64 (s.fr : Int)) := by rw [cell_of_row _ _ _ _ _ _ hT2.rowx]; rfl
              have g1 : W2.cell? ⟨WA.heap.size, 1, none⟩ = some (.int .i64 (s.to_ : Int)) := by rw [cell_of_row _ _ _ _ _ _ hT2.rowx]; rfl
              have g2 : W2.cell? ⟨WA.heap.size, 2, none⟩ = some (.slice pv nv cv) := by rw [cell_of_row _ _ _ _ _ _ hT2.rowx]; rfl
              have f0 := frozen_of_row W2 (WA.heap.size) 0 _ _ hT2.rowx
              have f1 := frozen_of_row W2 (WA.heap.size) 1 _ _ hT2.rowx
              have f2 := frozen_of_row W2 (WA.heap.size) 2 _ _ hT2.rowx
              have p1 : W2.cell? ⟨wr.heap.size, 1, none⟩ = some (.int .i64 nn) := K2.out.cell (by rw [HWX.out]; exact y1)
              have p0 : W2.cell? ⟨wr.heap.size, 0, none⟩ = some (.int .u8 (kq : Int)) := K2.out.cell (by rw [HWX.out]; exact y0)
              obtain ⟨hT3, hbx⟩ := hT2.setx HD.out hmp hapt
              have hF0 : W2.heap[wr.heap.size]? = some (.cells #[.int .u8 (kq : Int), .int .i64 nn, .slice pl nl cl] 42 (0, 0)) := by
                have h := KX.out.row HRA.out
                exact K2.out.row h
              obtain ⟨W3, hW3⟩ : ∃ W3, W3 = (((W2.setCell ⟨WA.heap.size, 0, none⟩ (.int .i64 (s'.fr : Int))).setCell ⟨WA.heap.size, 1, none⟩ (.int .i64 (s'.to_ : Int))).setCell ⟨WA.heap.size, 2, none⟩ (.slice pw nw cw)) := ⟨_, rfl⟩
              rw [← hW3] at hT3 hbx
              have HW3 := Lib.hid hW3
              have HT3 := Lib.hid hT3
              have hcs2 := hT2.cs HD.out
              have K3 : Hid (Kept w W3) := Lib.hid (ButBy.kept hbx (fun k hk => (hcs2 k hk).1) ((HKA.out.then KX.out).then K2.out) ((HKA.out.then KX.out).then K2.out).size)
              have HLX3 : Hid (LiveAt ll lx (CsOf Bs bw (WA.heap.size) (.slice pt m ct)) W3) := Lib.hid ((HLL.out.later K2.out).turn (fun k e => Or.inl e) hbx)
              have s0 : W3.cell? ⟨wr.heap.size, 1, none⟩ = some (.int .i64 nn) := by
                rw [hW3, cell_of_row _ _ _ _ _ _ ((set_other _ _ _ _ _ (by have := HSA.out; omega : wr.heap.size ≠ WA.heap.size)).trans ((set_other _ _ _ _ _ (by have := HSA.out; omega : wr.heap.size ≠ WA.heap.size)).trans ((set_other _ _ _ _ _ (by have := HSA.out; omega : wr.heap.size ≠ WA.heap.size)).trans hF0)))]; rfl
              rw [HW3.out] at s0
              obtain ⟨er, her⟩ : ∃ er, er = giveE s ll := ⟨_, rfl⟩
              have HERE := Lib.hid her
              rw [← her]
              have xer : (er != er) = false := by simp
              clear her
              clear hT2 hapt hmp hnew hb hs' hW3 hT3 hbx hcs2 hF0 x0 x1 x2 y0 y1 b0 b1 b2 a0 a1 a2
              unfold mpV
              go_wp2_with fail
              rw [← HW3.out]
              refine (HD.out.give s Bs W3 ll lx HT3.out.hp OK.out HLX3.out.at_ LL.out (HLX3.out.apart.sub (fun k e => Or.inl e))).mono ?_
              rintro e W5 ⟨Bs', rfl, hp, hsub, hbut⟩
              rw [← HERE.out]
              rw [← HS'.out] at hp
              obtain ⟨hT4, hcs4, hbc4⟩ := HT3.out.turn hp hsub hbut
              have hcs3 := HT3.out.cs HD.out
              have K5 : Hid (Kept w W5) := Lib.hid (ButBy.kept hbc4 (fun k hk => (hcs3 k hk).1) K3.out K3.out.size)
              have HT5 := Lib.hid hT4
              have HG : Hid (LiveAt [] (.slice none 0 0) (CsOf Bs' bw (WA.heap.size) (.slice pt m ct)) W5) := Lib.hid ⟨RunsAt.nil _ 0, fun a n c e => by simp at e⟩
              have HTD := HG
              have HLG : Hid (([] : List (Int × Int)).length ≤ 1048576) := Lib.hid (Nat.zero_le _)
              have HLEN : Hid (vs.length ≤ i1) := Lib.hid (by have := HVI.out; omega)
              clear hp hsub hbut hT4 hcs4 hbc4 hcs3 s0
              have hT5 := HT5.out
              have x0 : W5.cell? ⟨WA.heap.size, 0, none⟩ = some (.int .i64 (s'.fr : Int)) := by rw [cell_of_row _ _ _ _ _ _ hT5.rowx]; rfl
              have x1 : W5.cell? ⟨WA.heap.size, 1, none⟩ = some (.int .i64 (s'.to_ : Int)) := by rw [cell_of_row _ _ _ _ _ _ hT5.rowx]; rfl
              have x2 : W5.cell? ⟨WA.heap.size, 2, none⟩ = some (.slice pw nw cw) := by rw [cell_of_row _ _ _ _ _ _ hT5.rowx]; rfl
              have b0 : W5.cell? ⟨bw, 0, none⟩ = some (.int .i64 (s.fr : Int)) := by rw [cell_of_row _ _ _ _ _ _ hT5.roww]; rfl
              have b1 : W5.cell? ⟨bw, 1, none⟩ = some (.int .i64 (s.to_ : Int)) := by rw [cell_of_row _ _ _ _ _ _ hT5.roww]; rfl
              have b2 : W5.cell? ⟨bw, 2, none⟩ = some (.slice pv nv cv) := by rw [cell_of_row _ _ _ _ _ _ hT5.roww]; rfl
              have f0 := frozen_of_row W5 bw 0 _ _ hT5.roww
              have f1 := frozen_of_row W5 bw 1 _ _ hT5.roww
              have f2 := frozen_of_row W5 bw 2 _ _ hT5.roww
              obtain ⟨hT6, hb6⟩ := hT5.setw HD.out
              have hcs5 := hT5.cs HD.out
              have KW6 : Kept w (((W5.setCell ⟨bw, 0, none⟩ (.int .i64 (s'.fr : Int))).setCell ⟨bw, 1, none⟩ (.int .i64 (s'.to_ : Int))).setCell ⟨bw, 2, none⟩ (.slice pw nw cw)) := ButBy.kept hb6 (fun k hk => (hcs5 k hk).1) K5.out K5.out.size
              obtain ⟨W6, hW6⟩ : ∃ W6, W6 = (((W5.setCell ⟨bw, 0, none⟩ (.int .i64 (s'.fr : Int))).setCell ⟨bw, 1, none⟩ (.int .i64 (s'.to_ : Int))).setCell ⟨bw, 2, none⟩ (.slice pw nw cw)) := ⟨_, rfl⟩
              rw [← hW6] at hT6 hb6 KW6
              have HG6 := HG.out.turn (fun k e => Or.inl e) hb6
              have HTD6 := HTD.out.turn (fun k e => Or.inl e) hb6
              have hdr : Kept W6 W6.drew := (Below.refl _ _).drew
              have HW6 := Lib.hid hW6
              have HT7 := Lib.hid (hT6.later HD.out hdr)
              have K7 : Hid (Kept w W6.drew) := Lib.hid (KW6.then hdr)
              replace HG := Lib.hid (HG6.later hdr)
              replace HTD := Lib.hid (HTD6.later hdr)
              have HLF : Hid ((runsA (freeF s')).length ≤ 1048576) := Lib.hid (Nat.le_trans (runsA_len _) (by omega))
              obtain ⟨cn, hcn⟩ : ∃ cn, cn = cntA (freeF s') := ⟨_, rfl⟩
              have HCN := Lib.hid hcn
              have xcn : ((cn : Int) != (cn : Int)) = false := by simp
              clear hT5 hT6 hb6 hcs5 KW6 hW6 HG6 HTD6 hdr hcn HT5 K5
              go_wp2_with fail
              rw [← HW6.out]
              refine wp_region_held_drew (S := fun w' => w'.heap[bw]? = some (.cells (mpC s' (.slice pw nw cw)) 39 (0, 0))) (by kernel_rfl) (HT7.out.roww) (fun hHeld => ?_)
              refine wpAnyH_take (i := 0) (v := ?_) rfl (by kernel_rfl) (by kernel_rfl) (by kernel_rfl) (fun _ _ _ h => h) (Or.inl ⟨by first | kernel_rfl | rfl, ?_⟩) (by assumption) ?_
              case refine_2 => intro w hSw; go_simp; try with_reducible rfl
              refine wpAnyH_take (i := 1) (v := ?_) rfl (by kernel_rfl) (by kernel_rfl) (by kernel_rfl) (fun _ _ _ h => h) (Or.inl ⟨by first | kernel_rfl | rfl, ?_⟩) (by assumption) ?_
              case refine_2 => intro w hSw; go_simp; try with_reducible rfl
              refine wpAnyH_take (i := 2) (v := ?_) rfl (by kernel_rfl) (by kernel_rfl) (by kernel_rfl) (fun _ _ _ h => h) (Or.inl ⟨by first | kernel_rfl | rfl, ?_⟩) (by assumption) ?_
              case refine_2 => intro w hSw; go_simp; try with_reducible rfl
              refine wpAnyH_take (i := 3) (v := ?_) rfl (by kernel_rfl) (by kernel_rfl) (by kernel_rfl) (fun _ _ _ h => h) (Or.inl ⟨by first | kernel_rfl | rfl, ?_⟩) (by assumption) ?_
              case refine_2 => intro w hSw; go_simp; try with_reducible rfl
              refine wpAnyH_take (i := 4) (v := ?_) rfl (by kernel_rfl) (by kernel_rfl) (by kernel_rfl) (fun _ _ _ h => h) (Or.inl ⟨by first | kernel_rfl | rfl, ?_⟩) (by assumption) ?_
              case refine_2 => intro w hSw; go_simp; try with_reducible rfl
              refine wpAnyH_take (i := 5) (v := ?_) rfl (by kernel_rfl) (by kernel_rfl) (by kernel_rfl) (fun _ _ _ h => h) (Or.inl ⟨by first | kernel_rfl | rfl, ?_⟩) (by assumption) ?_
              case refine_2 => intro w hSw; go_simp; try with_reducible rfl
              refine wpAnyH_ready (rs := [6]) (by kernel_rfl) (by simp) (AllReadyH.cons rfl (fun K hK => ?_) AllReadyH.nil)
              rw [if_pos (by kernel_rfl)]
              refine wp_called 18 #[.slice none 0 0, .slice none 0 0] (by first | kernel_rfl | rfl) ((rsame_any [] [] (.slice none 0 0) (.slice none 0 0) _ HG.out.at_ HTD.out.at_ HLG.out).mono ?_)
              rintro e u1 ⟨rfl, hb⟩
              rw [decide_eq_true rfl]
              replace HT7 := Lib.hid (HT7.out.later HD.out hb)
              replace K7 := Lib.hid (K7.out.then hb)
              clear hb HG HTD
              refine ⟨_, rfl, ?_⟩
              refine hK.out _ _ HT7.out.roww (fun _ => ?_)
              clear hK K
              refine wpAnyH_take (i := 7) (v := ?_) rfl (by kernel_rfl) (by kernel_rfl) (by kernel_rfl) (fun _ _ _ h => h) (Or.inl ⟨by first | kernel_rfl | rfl, ?_⟩) (by assumption) ?_
              case refine_2 => intro w hSw; go_simp; try with_reducible rfl
              refine wpAnyH_take (i := 8) (v := ?_) rfl (by kernel_rfl) (by kernel_rfl) (by kernel_rfl) (fun _ _ _ h => h) (Or.inl ⟨by first | kernel_rfl | rfl, ?_⟩) (by assumption) ?_
              case refine_2 => intro w hSw; go_simp; try with_reducible rfl
              refine wpAnyH_take (i := 9) (v := ?_) rfl (by kernel_rfl) (by kernel_rfl) (by kernel_rfl) (fun _ _ _ h => h) (Or.inl ⟨by first | kernel_rfl | rfl, ?_⟩) (by assumption) ?_
              case refine_2 => intro w hSw; go_simp; try with_reducible rfl
              refine wpAnyH_take (i := 10) (v := ?_) rfl (by kernel_rfl) (by kernel_rfl) (by kernel_rfl) (fun _ _ _ h => h) (Or.inl ⟨by first | kernel_rfl | rfl, ?_⟩) (by assumption) ?_
              case refine_2 => intro w hSw; go_simp; try with_reducible rfl
              refine wpAnyH_take (i := 12) (v := .agg (mpC s' (.slice pw nw cw))) rfl (by kernel_rfl) (by kernel_rfl) (by kernel_rfl) (fun _ _ _ h => h) (yieldsIf_load_mid (by first | kernel_rfl | rfl) _ _ rfl bw 0 (by kernel_rfl) (mpC s' (.slice pw nw cw)).toList _ (fun _ h => range_of_row h) Try.underlying39 rfl sizeMp) (by assumption) ?_
              refine wpAnyH_ready (rs := [11]) (by kernel_rfl) (by simp) (AllReadyH.cons rfl (fun K hK => ?_) AllReadyH.nil)
              rw [if_pos (by kernel_rfl)]
              refine wp_called 35 #[.pointer (some ad)] (by first | kernel_rfl | rfl) ((HD.out.free s' Bs' _ HT7.out.hp OK'.out).mono ?_)
              rintro e u2 ⟨fz, rfl, hfz, -, hb⟩
              have HFZ := Lib.hid hfz
              replace HT7 := Lib.hid (HT7.out.later HD.out hb)
              replace K7 := Lib.hid (K7.out.then hb)
              clear hfz hb
              refine ⟨_, rfl, ?_⟩
              refine hK.out _ _ HT7.out.roww (fun _ => ?_)
              clear hK K
              refine wpAnyH_ready (rs := [13]) (by kernel_rfl) (by simp) (AllReadyH.cons rfl (fun K hK => ?_) AllReadyH.nil)
              rw [if_pos (by kernel_rfl)]
              refine wp_called 36 #[mpV s' (.slice pw nw cw)] (by first | kernel_rfl | rfl) ((rfree_any s' OK'.out (mpV s' (.slice pw nw cw)) _ HT7.out.mpw).mono ?_)
              rintro e u3 ⟨gz, rfl, hgz, hb⟩
              have HGZ := Lib.hid (hgz.at_ (runsA_wf _))
              replace HFZ := Lib.hid (HFZ.out.later hb)
              replace HT7 := Lib.hid (HT7.out.later HD.out hb)
              replace K7 := Lib.hid (K7.out.then hb)
              clear hgz hb
              refine ⟨_, rfl, ?_⟩
              refine hK.out _ _ HT7.out.roww (fun _ => ?_)
              clear hK K
              refine wpAnyH_ready (rs := [14]) (by kernel_rfl) (by simp) (AllReadyH.cons rfl (fun K hK => ?_) AllReadyH.nil)
              rw [if_pos (by kernel_rfl)]
              refine wp_called 18 #[fz, gz] (by first | kernel_rfl | rfl) ((rsame_any (runsA (freeF s')) (runsA (freeF s')) fz gz _ HFZ.out HGZ.out HLF.out).mono ?_)
              rintro e u4 ⟨rfl, hb⟩
              rw [decide_eq_true rfl]
              replace HT7 := Lib.hid (HT7.out.later HD.out hb)
              replace K7 := Lib.hid (K7.out.then hb)
              clear hb HFZ HGZ
              refine ⟨_, rfl, ?_⟩
              refine hK.out _ _ HT7.out.roww (fun _ => ?_)
              clear hK K
              refine wpAnyH_take (i := 15) (v := ?_) rfl (by kernel_rfl) (by kernel_rfl) (by kernel_rfl) (fun _ _ _ h => h) (Or.inl ⟨by first | kernel_rfl | rfl, ?_⟩) (by assumption) ?_
              case refine_2 => intro w hSw; go_simp; try with_reducible rfl
              refine wpAnyH_take (i := 16) (v := ?_) rfl (by kernel_rfl) (by kernel_rfl) (by kernel_rfl) (fun _ _ _ h => h) (Or.inl ⟨by first | kernel_rfl | rfl, ?_⟩) (by assumption) ?_
              case refine_2 => intro w hSw; go_simp; try with_reducible rfl
              refine wpAnyH_take (i := 17) (v := ?_) rfl (by kernel_rfl) (by kernel_rfl) (by kernel_rfl) (fun _ _ _ h => h) (Or.inl ⟨by first | kernel_rfl | rfl, ?_⟩) (by assumption) ?_
              case refine_2 => intro w hSw; go_simp; try with_reducible rfl
              refine wpAnyH_take (i := 18) (v := ?_) rfl (by kernel_rfl) (by kernel_rfl) (by kernel_rfl) (fun _ _ _ h => h) (Or.inl ⟨by first | kernel_rfl | rfl, ?_⟩) (by assumption) ?_
              case refine_2 => intro w hSw; go_simp; try with_reducible rfl
              refine wpAnyH_take (i := 20) (v := .agg (mpC s' (.slice pw nw cw))) rfl (by kernel_rfl) (by kernel_rfl) (by kernel_rfl) (fun _ _ _ h => h) (yieldsIf_load_mid (by first | kernel_rfl | rfl) _ _ rfl bw 0 (by kernel_rfl) (mpC s' (.slice pw nw cw)).toList _ (fun _ h => range_of_row h) Try.underlying39 rfl sizeMp) (by assumption) ?_
              refine wpAnyH_ready (rs := [19]) (by kernel_rfl) (by simp) (AllReadyH.cons rfl (fun K hK => ?_) AllReadyH.nil)
              rw [if_pos (by kernel_rfl)]
              refine wp_called 37 #[.pointer (some ad)] (by first | kernel_rfl | rfl) ((HD.out.room s' Bs' _ HT7.out.hp OK'.out).mono ?_)
              rintro e u5 ⟨rfl, hb⟩
              rw [← HCN.out]
              replace HT7 := Lib.hid (HT7.out.later HD.out hb)
              replace K7 := Lib.hid (K7.out.then hb)
              clear hb
              refine ⟨_, rfl, ?_⟩
              refine hK.out _ _ HT7.out.roww (fun _ => ?_)
              clear hK K
              refine wpAnyH_ready (rs := [21]) (by kernel_rfl) (by simp) (AllReadyH.cons rfl (fun K hK => ?_) AllReadyH.nil)
              rw [if_pos (by kernel_rfl)]
              refine wp_called 36 #[mpV s' (.slice pw nw cw)] (by first | kernel_rfl | rfl) ((rfree_any s' OK'.out (mpV s' (.slice pw nw cw)) _ HT7.out.mpw).mono ?_)
              rintro e u6 ⟨hz6, rfl, hgz, hb⟩
              have HGZ := Lib.hid (hgz.at_ (runsA_wf _))
              replace HT7 := Lib.hid (HT7.out.later HD.out hb)
              replace K7 := Lib.hid (K7.out.then hb)
              clear hgz hb
              refine ⟨_, rfl, ?_⟩
              refine hK.out _ _ HT7.out.roww (fun _ => ?_)
              clear hK K
              refine wpAnyH_ready (rs := [22]) (by kernel_rfl) (by simp) (AllReadyH.cons rfl (fun K hK => ?_) AllReadyH.nil)
              rw [if_pos (by kernel_rfl)]
              refine wp_called 14 #[hz6] (by first | kernel_rfl | rfl) ((rcount_any (runsA (freeF s')) hz6 _ HGZ.out HLF.out).mono ?_)
              rintro e u7 ⟨rfl, hb⟩
              rw [cntA_again, ← HCN.out]
              replace HT7 := Lib.hid (HT7.out.later HD.out hb)
              replace K7 := Lib.hid (K7.out.then hb)
              clear hb HGZ
              refine ⟨_, rfl, ?_⟩
              refine hK.out _ _ HT7.out.roww (fun _ => ?_)
              clear hK K
              refine wpAnyH_take (i := 23) (v := ?_) rfl (by kernel_rfl) (by kernel_rfl) (by kernel_rfl) (fun _ _ _ h => h) (Or.inl ⟨by first | kernel_rfl | rfl, ?_⟩) (by assumption) ?_
              case refine_2 => intro w hSw; go_simp; try with_reducible rfl
              refine wpAnyH_take (i := 24) (v := ?_) rfl (by kernel_rfl) (by kernel_rfl) (by kernel_rfl) (fun _ _ _ h => h) (Or.inl ⟨by first | kernel_rfl | rfl, ?_⟩) (by assumption) ?_
              case refine_2 => intro w hSw; go_simp; try with_reducible rfl
              refine wpAnyH_done (by kernel_rfl) ?_ _
              go_simp
              go_wp2
              go_roundg (min n 14 - i1)
              case measure => omega
              case rel => exact ⟨i1, s', .slice pw nw cw, Bs', _, Ls, vs, by omega, rfl, by first | rfl | (congr 1; omega), OK', HLEN, Lib.hid HT7.out.done, K7⟩
          · have hmi0 : ¬ (m : Int) > 0 := by omega
            have ll_eq : True := trivial
            obtain ⟨ll, hll⟩ : ∃ ll, ll = lf := ⟨_, rfl⟩
            obtain ⟨lx, hlx⟩ : ∃ lx, lx = u := ⟨_, rfl⟩
            have HLL : Hid (LiveAt ll lx (CsOf Bs bw (WA.heap.size) (.slice pt m ct)) WX) := Lib.hid (by rw [hll, hlx]; exact HU1.out)
            have LL : Hid (ll.length ≤ 65536) := Lib.hid (by rw [hll]; exact HL30.out)
            rw [← hlx] at FW
            clear hll hlx ll_eq HU1
            go_wp2_with fail
            rw [← HWA.out]
            refine FW.mono ?_
            rintro e w' ⟨rfl, rfl⟩
            clear FW
            go_wp2_with fail
            rw [← HWX.out]
            refine (rgive_any s OK.out (mpV s (.slice pv nv cv)) WX HT.out.mpw ll lx HLL.out.at_ LL.out).mono ?_
            rintro e W2 ⟨u', rfl, hmp, hnew, hb⟩
            have hT2 := HT.out.later HD.out hb
            obtain ⟨t', rfl, hapt⟩ := MpNew.apart HD.out HT.out hnew hmp (giveS_fr _ _) (giveS_to _ _)
            obtain ⟨pw, nw, cw, htw⟩ := hmp.slice
            subst htw
            have OK' : Hid ((giveS s ll).ok) := Lib.hid (giveS_ok OK.out _)
            have K2 : Hid (Kept WX W2) := Lib.hid hb
            obtain ⟨s', hs'⟩ : ∃ s', s' = giveS s ll := ⟨_, rfl⟩
            rw [← hs'] at OK' hmp
            rw [← hs']
            have HS' := Lib.hid hs'
            have g0 : W2.cell? ⟨WA.heap.size, 0, none⟩ = some (.int .i64 (s.fr : Int)) := by rw [cell_of_row _ _ _ _ _ _ hT2.rowx]; rfl
            have g1 : W2.cell? ⟨WA.heap.size, 1, none⟩ = some (.int .i64 (s.to_ : Int)) := by rw [cell_of_row _ _ _ _ _ _ hT2.rowx]; rfl
            have g2 : W2.cell? ⟨WA.heap.size, 2, none⟩ = some (.slice pv nv cv) := by rw [cell_of_row _ _ _ _ _ _ hT2.rowx]; rfl
            have f0 := frozen_of_row W2 (WA.heap.size) 0 _ _ hT2.rowx
            have f1 := frozen_of_row W2 (WA.heap.size) 1 _ _ hT2.rowx
            have f2 := frozen_of_row W2 (WA.heap.size) 2 _ _ hT2.rowx
            have p1 : W2.cell? ⟨wr.heap.size, 1, none⟩ = some (.int .i64 nn) := K2.out.cell (by rw [HWX.out]; exact y1)
            have p0 : W2.cell? ⟨wr.heap.size, 0, none⟩ = some (.int .u8 (kq : Int)) := K2.out.cell (by rw [HWX.out]; exact y0)
            obtain ⟨hT3, hbx⟩ := hT2.setx HD.out hmp hapt
            have hF0 : W2.heap[wr.heap.size]? = some (.cells #[.int .u8 (kq : Int), .int .i64 nn, .slice pl nl cl] 42 (0, 0)) := by
              have h := KX.out.row HRA.out
              exact K2.out.row h
            obtain ⟨W3, hW3⟩ : ∃ W3, W3 = (((W2.setCell ⟨WA.heap.size, 0, none⟩ (.int .i64 (s'.fr : Int))).setCell ⟨WA.heap.size, 1, none⟩ (.int .i64 (s'.to_ : Int))).setCell ⟨WA.heap.size, 2, none⟩ (.slice pw nw cw)) := ⟨_, rfl⟩
            rw [← hW3] at hT3 hbx
            have HW3 := Lib.hid hW3
            have HT3 := Lib.hid hT3
            have hcs2 := hT2.cs HD.out
            have K3 : Hid (Kept w W3) := Lib.hid (ButBy.kept hbx (fun k hk => (hcs2 k hk).1) ((HKA.out.then KX.out).then K2.out) ((HKA.out.then KX.out).then K2.out).size)
            have HLX3 : Hid (LiveAt ll lx (CsOf Bs bw (WA.heap.size) (.slice pt m ct)) W3) := Lib.hid ((HLL.out.later K2.out).turn (fun k e => Or.inl e) hbx)
            have s0 : W3.cell? ⟨wr.heap.size, 1, none⟩ = some (.int .i64 nn) := by
              rw [hW3, cell_of_row _ _ _ _ _ _ ((set_other _ _ _ _ _ (by have := HSA.out; omega : wr.heap.size ≠ WA.heap.size)).trans ((set_other _ _ _ _ _ (by have := HSA.out; omega : wr.heap.size ≠ WA.heap.size)).trans ((set_other _ _ _ _ _ (by have := HSA.out; omega : wr.heap.size ≠ WA.heap.size)).trans hF0)))]; rfl
            rw [HW3.out] at s0
            obtain ⟨er, her⟩ : ∃ er, er = giveE s ll := ⟨_, rfl⟩
            have HERE := Lib.hid her
            rw [← her]
            have xer : (er != er) = false := by simp
            clear her
            clear hT2 hapt hmp hnew hb hs' hW3 hT3 hbx hcs2 hF0 x0 x1 x2 y0 y1 b0 b1 b2 a0 a1 a2
            unfold mpV
            go_wp2_with fail
            rw [← HW3.out]
            refine (HD.out.give s Bs W3 ll lx HT3.out.hp OK.out HLX3.out.at_ LL.out (HLX3.out.apart.sub (fun k e => Or.inl e))).mono ?_
            rintro e W5 ⟨Bs', rfl, hp, hsub, hbut⟩
            rw [← HERE.out]
            rw [← HS'.out] at hp
            obtain ⟨hT4, hcs4, hbc4⟩ := HT3.out.turn hp hsub hbut
            have hcs3 := HT3.out.cs HD.out
            have K5 : Hid (Kept w W5) := Lib.hid (ButBy.kept hbc4 (fun k hk => (hcs3 k hk).1) K3.out K3.out.size)
            have HT5 := Lib.hid hT4
            have HG : Hid (LiveAt [] (.slice none 0 0) (CsOf Bs' bw (WA.heap.size) (.slice pt m ct)) W5) := Lib.hid ⟨RunsAt.nil _ 0, fun a n c e => by simp at e⟩
            have HTD := HG
            have HLG : Hid (([] : List (Int × Int)).length ≤ 1048576) := Lib.hid (Nat.zero_le _)
            have HLEN : Hid (vs.length ≤ i1) := Lib.hid (by have := HVI.out; omega)
            clear hp hsub hbut hT4 hcs4 hbc4 hcs3 s0
            have hT5 := HT5.out
            have x0 : W5.cell? ⟨WA.heap.size, 0, none⟩ = some (.int .i64 (s'.fr : Int)) := by rw [cell_of_row _ _ _ _ _ _ hT5.rowx]; rfl
            have x1 : W5.cell? ⟨WA.heap.size, 1, none⟩ = some (.int .i64 (s'.to_ : Int)) := by rw [cell_of_row _ _ _ _ _ _ hT5.rowx]; rfl
            have x2 : W5.cell? ⟨WA.heap.size, 2, none⟩ = some (.slice pw nw cw) := by rw [cell_of_row _ _ _ _ _ _ hT5.rowx]; rfl
            have b0 : W5.cell? ⟨bw, 0, none⟩ = some (.int .i64 (s.fr : Int)) := by rw [cell_of_row _ _ _ _ _ _ hT5.roww]; rfl
            have b1 : W5.cell? ⟨bw, 1, none⟩ = some (.int .i64 (s.to_ : Int)) := by rw [cell_of_row _ _ _ _ _ _ hT5.roww]; rfl
            have b2 : W5.cell? ⟨bw, 2, none⟩ = some (.slice pv nv cv) := by rw [cell_of_row _ _ _ _ _ _ hT5.roww]; rfl
            have f0 := frozen_of_row W5 bw 0 _ _ hT5.roww
            have f1 := frozen_of_row W5 bw 1 _ _ hT5.roww
            have f2 := frozen_of_row W5 bw 2 _ _ hT5.roww
            obtain ⟨hT6, hb6⟩ := hT5.setw HD.out
            have hcs5 := hT5.cs HD.out
            have KW6 : Kept w (((W5.setCell ⟨bw, 0, none⟩ (.int .i64 (s'.fr : Int))).setCell ⟨bw, 1, none⟩ (.int .i64 (s'.to_ : Int))).setCell ⟨bw, 2, none⟩ (.slice pw nw cw)) := ButBy.kept hb6 (fun k hk => (hcs5 k hk).1) K5.out K5.out.size
            obtain ⟨W6, hW6⟩ : ∃ W6, W6 = (((W5.setCell ⟨bw, 0, none⟩ (.int .i64 (s'.fr : Int))).setCell ⟨bw, 1, none⟩ (.int .i64 (s'.to_ : Int))).setCell ⟨bw, 2, none⟩ (.slice pw nw cw)) := ⟨_, rfl⟩
            rw [← hW6] at hT6 hb6 KW6
            have HG6 := HG.out.turn (fun k e => Or.inl e) hb6
            have HTD6 := HTD.out.turn (fun k e => Or.inl e) hb6
            have hdr : Kept W6 W6.drew := (Below.refl _ _).drew
            have HW6 := Lib.hid hW6
            have HT7 := Lib.hid (hT6.later HD.out hdr)
            have K7 : Hid (Kept w W6.drew) := Lib.hid (KW6.then hdr)
            replace HG := Lib.hid (HG6.later hdr)
            replace HTD := Lib.hid (HTD6.later hdr)
            have HLF : Hid ((runsA (freeF s')).length ≤ 1048576) := Lib.hid (Nat.le_trans (runsA_len _) (by omega))
            obtain ⟨cn, hcn⟩ : ∃ cn, cn = cntA (freeF s') := ⟨_, rfl⟩
            have HCN := Lib.hid hcn
            have xcn : ((cn : Int) != (cn : Int)) = false := by simp
            clear hT5 hT6 hb6 hcs5 KW6 hW6 HG6 HTD6 hdr hcn HT5 K5
            go_wp2_with fail
            rw [← HW6.out]
            refine wp_region_held_drew (S := fun w' => w'.heap[bw]? = some (.cells (mpC s' (.slice pw nw cw)) 39 (0, 0))) (by kernel_rfl) (HT7.out.roww) (fun hHeld => ?_)
            refine wpAnyH_take (i := 0) (v := ?_) rfl (by kernel_rfl) (by kernel_rfl) (by kernel_rfl) (fun _ _ _ h => h) (Or.inl ⟨by first | kernel_rfl | rfl, ?_⟩) (by assumption) ?_
            case refine_2 => intro w hSw; go_simp; try with_reducible rfl
            refine wpAnyH_take (i := 1) (v := ?_) rfl (by kernel_rfl) (by kernel_rfl) (by kernel_rfl) (fun _ _ _ h => h) (Or.inl ⟨by first | kernel_rfl | rfl, ?_⟩) (by assumption) ?_
            case refine_2 => intro w hSw; go_simp; try with_reducible rfl
            refine wpAnyH_take (i := 2) (v := ?_) rfl (by kernel_rfl) (by kernel_rfl) (by kernel_rfl) (fun _ _ _ h => h) (Or.inl ⟨by first | kernel_rfl | rfl, ?_⟩) (by assumption) ?_
            case refine_2 => intro w hSw; go_simp; try with_reducible rfl
            refine wpAnyH_take (i := 3) (v := ?_) rfl (by kernel_rfl) (by kernel_rfl) (by kernel_rfl) (fun _ _ _ h => h) (Or.inl ⟨by first | kernel_rfl | rfl, ?_⟩) (by assumption) ?_
            case refine_2 => intro w hSw; go_simp; try with_reducible rfl
            refine wpAnyH_take (i := 4) (v := ?_) rfl (by kernel_rfl) (by kernel_rfl) (by kernel_rfl) (fun _ _ _ h => h) (Or.inl ⟨by first | kernel_rfl | rfl, ?_⟩) (by assumption) ?_
            case refine_2 => intro w hSw; go_simp; try with_reducible rfl
            refine wpAnyH_take (i := 5) (v := ?_) rfl (by kernel_rfl) (by kernel_rfl) (by kernel_rfl) (fun _ _ _ h => h) (Or.inl ⟨by first | kernel_rfl | rfl, ?_⟩) (by assumption) ?_
            case refine_2 => intro w hSw; go_simp; try with_reducible rfl
            refine wpAnyH_ready (rs := [6]) (by kernel_rfl) (by simp) (AllReadyH.cons rfl (fun K hK => ?_) AllReadyH.nil)
            rw [if_pos (by kernel_rfl)]
            refine wp_called 18 #[.slice none 0 0, .slice none 0 0] (by first | kernel_rfl | rfl) ((rsame_any [] [] (.slice none 0 0) (.slice none 0 0) _ HG.out.at_ HTD.out.at_ HLG.out).mono ?_)
            rintro e u1 ⟨rfl, hb⟩
            rw [decide_eq_true rfl]
            replace HT7 := Lib.hid (HT7.out.later HD.out hb)
            replace K7 := Lib.hid (K7.out.then hb)
            clear hb HG HTD
            refine ⟨_, rfl, ?_⟩
            refine hK.out _ _ HT7.out.roww (fun _ => ?_)
            clear hK K
            refine wpAnyH_take (i := 7) (v := ?_) rfl (by kernel_rfl) (by kernel_rfl) (by kernel_rfl) (fun _ _ _ h => h) (Or.inl ⟨by first | kernel_rfl | rfl, ?_⟩) (by assumption) ?_
            case refine_2 => intro w hSw; go_simp; try with_reducible rfl
            refine wpAnyH_take (i := 8) (v := ?_) rfl (by kernel_rfl) (by kernel_rfl) (by kernel_rfl) (fun _ _ _ h => h) (Or.inl ⟨by first | kernel_rfl | rfl, ?_⟩) (by assumption) ?_
            case refine_2 => intro w hSw; go_simp; try with_reducible rfl
            refine wpAnyH_take (i := 9) (v := ?_) rfl (by kernel_rfl) (by kernel_rfl) (by kernel_rfl) (fun _ _ _ h => h) (Or.inl ⟨by first | kernel_rfl | rfl, ?_⟩) (by assumption) ?_
            case refine_2 => intro w hSw; go_simp; try with_reducible rfl
            refine wpAnyH_take (i := 10) (v := ?_) rfl (by kernel_rfl) (by kernel_rfl) (by kernel_rfl) (fun _ _ _ h => h) (Or.inl ⟨by first | kernel_rfl | rfl, ?_⟩) (by assumption) ?_
            case refine_2 => intro w hSw; go_simp; try with_reducible rfl
            refine wpAnyH_take (i := 12) (v := .agg (mpC s' (.slice pw nw cw))) rfl (by kernel_rfl) (by kernel_rfl) (by kernel_rfl) (fun _ _ _ h => h) (yieldsIf_load_mid (by first | kernel_rfl | rfl) _ _ rfl bw 0 (by kernel_rfl) (mpC s' (.slice pw nw cw)).toList _ (fun _ h => range_of_row h) Try.underlying39 rfl sizeMp) (by assumption) ?_
            refine wpAnyH_ready (rs := [11]) (by kernel_rfl) (by simp) (AllReadyH.cons rfl (fun K hK => ?_) AllReadyH.nil)
            rw [if_pos (by kernel_rfl)]
            refine wp_called 35 #[.pointer (some ad)] (by first | kernel_rfl | rfl) ((HD.out.free s' Bs' _ HT7.out.hp OK'.out).mono ?_)
            rintro e u2 ⟨fz, rfl, hfz, -, hb⟩
            have HFZ := Lib.hid hfz
            replace HT7 := Lib.hid (HT7.out.later HD.out hb)
            replace K7 := Lib.hid (K7.out.then hb)
            clear hfz hb
            refine ⟨_, rfl, ?_⟩
            refine hK.out _ _ HT7.out.roww (fun _ => ?_)
            clear hK K
            refine wpAnyH_ready (rs := [13]) (by kernel_rfl) (by simp) (AllReadyH.cons rfl (fun K hK => ?_) AllReadyH.nil)
            rw [if_pos (by kernel_rfl)]
            refine wp_called 36 #[mpV s' (.slice pw nw cw)] (by first | kernel_rfl | rfl) ((rfree_any s' OK'.out (mpV s' (.slice pw nw cw)) _ HT7.out.mpw).mono ?_)
            rintro e u3 ⟨gz, rfl, hgz, hb⟩
            have HGZ := Lib.hid (hgz.at_ (runsA_wf _))
            replace HFZ := Lib.hid (HFZ.out.later hb)
            replace HT7 := Lib.hid (HT7.out.later HD.out hb)
            replace K7 := Lib.hid (K7.out.then hb)
            clear hgz hb
            refine ⟨_, rfl, ?_⟩
            refine hK.out _ _ HT7.out.roww (fun _ => ?_)
            clear hK K
            refine wpAnyH_ready (rs := [14]) (by kernel_rfl) (by simp) (AllReadyH.cons rfl (fun K hK => ?_) AllReadyH.nil)
            rw [if_pos (by kernel_rfl)]
            refine wp_called 18 #[fz, gz] (by first | kernel_rfl | rfl) ((rsame_any (runsA (freeF s')) (runsA (freeF s')) fz gz _ HFZ.out HGZ.out HLF.out).mono ?_)
            rintro e u4 ⟨rfl, hb⟩
            rw [decide_eq_true rfl]
            replace HT7 := Lib.hid (HT7.out.later HD.out hb)
            replace K7 := Lib.hid (K7.out.then hb)
            clear hb HFZ HGZ
            refine ⟨_, rfl, ?_⟩
            refine hK.out _ _ HT7.out.roww (fun _ => ?_)
            clear hK K
            refine wpAnyH_take (i := 15) (v := ?_) rfl (by kernel_rfl) (by kernel_rfl) (by kernel_rfl) (fun _ _ _ h => h) (Or.inl ⟨by first | kernel_rfl | rfl, ?_⟩) (by assumption) ?_
            case refine_2 => intro w hSw; go_simp; try with_reducible rfl
            refine wpAnyH_take (i := 16) (v := ?_) rfl (by kernel_rfl) (by kernel_rfl) (by kernel_rfl) (fun _ _ _ h => h) (Or.inl ⟨by first | kernel_rfl | rfl, ?_⟩) (by assumption) ?_
            case refine_2 => intro w hSw; go_simp; try with_reducible rfl
            refine wpAnyH_take (i := 17) (v := ?_) rfl (by kernel_rfl) (by kernel_rfl) (by kernel_rfl) (fun _ _ _ h => h) (Or.inl ⟨by first | kernel_rfl | rfl, ?_⟩) (by assumption) ?_
            case refine_2 => intro w hSw; go_simp; try with_reducible rfl
            refine wpAnyH_take (i := 18) (v := ?_) rfl (by kernel_rfl) (by kernel_rfl) (by kernel_rfl) (fun _ _ _ h => h) (Or.inl ⟨by first | kernel_rfl | rfl, ?_⟩) (by assumption) ?_
            case refine_2 => intro w hSw; go_simp; try with_reducible rfl
            refine wpAnyH_take (i := 20) (v := .agg (mpC s' (.slice pw nw cw))) rfl (by kernel_rfl) (by kernel_rfl) (by kernel_rfl) (fun _ _ _ h => h) (yieldsIf_load_mid (by first | kernel_rfl | rfl) _ _ rfl bw 0 (by kernel_rfl) (mpC s' (.slice pw nw cw)).toList _ (fun _ h => range_of_row h) Try.underlying39 rfl sizeMp) (by assumption) ?_
            refine wpAnyH_ready (rs := [19]) (by kernel_rfl) (by simp) (AllReadyH.cons rfl (fun K hK => ?_) AllReadyH.nil)
            rw [if_pos (by kernel_rfl)]
            refine wp_called 37 #[.pointer (some ad)] (by first | kernel_rfl | rfl) ((HD.out.room s' Bs' _ HT7.out.hp OK'.out).mono ?_)
            rintro e u5 ⟨rfl, hb⟩
            rw [← HCN.out]
            replace HT7 := Lib.hid (HT7.out.later HD.out hb)
            replace K7 := Lib.hid (K7.out.then hb)
            clear hb
            refine ⟨_, rfl, ?_⟩
            refine hK.out _ _ HT7.out.roww (fun _ => ?_)
            clear hK K
            refine wpAnyH_ready (rs := [21]) (by kernel_rfl) (by simp) (AllReadyH.cons rfl (fun K hK => ?_) AllReadyH.nil)
            rw [if_pos (by kernel_rfl)]
            refine wp_called 36 #[mpV s' (.slice pw nw cw)] (by first | kernel_rfl | rfl) ((rfree_any s' OK'.out (mpV s' (.slice pw nw cw)) _ HT7.out.mpw).mono ?_)
            rintro e u6 ⟨hz6, rfl, hgz, hb⟩
            have HGZ := Lib.hid (hgz.at_ (runsA_wf _))
            replace HT7 := Lib.hid (HT7.out.later HD.out hb)
            replace K7 := Lib.hid (K7.out.then hb)
            clear hgz hb
            refine ⟨_, rfl, ?_⟩
            refine hK.out _ _ HT7.out.roww (fun _ => ?_)
            clear hK K
            refine wpAnyH_ready (rs := [22]) (by kernel_rfl) (by simp) (AllReadyH.cons rfl (fun K hK => ?_) AllReadyH.nil)
            rw [if_pos (by kernel_rfl)]
            refine wp_called 14 #[hz6] (by first | kernel_rfl | rfl) ((rcount_any (runsA (freeF s')) hz6 _ HGZ.out HLF.out).mono ?_)
            rintro e u7 ⟨rfl, hb⟩
            rw [cntA_again, ← HCN.out]
            replace HT7 := Lib.hid (HT7.out.later HD.out hb)
            replace K7 := Lib.hid (K7.out.then hb)
            clear hb HGZ
            refine ⟨_, rfl, ?_⟩
            refine hK.out _ _ HT7.out.roww (fun _ => ?_)
            clear hK K
            refine wpAnyH_take (i := 23) (v := ?_) rfl (by kernel_rfl) (by kernel_rfl) (by kernel_rfl) (fun _ _ _ h => h) (Or.inl ⟨by first | kernel_rfl | rfl, ?_⟩) (by assumption) ?_
            case refine_2 => intro w hSw; go_simp; try with_reducible rfl
            refine wpAnyH_take (i := 24) (v := ?_) rfl (by kernel_rfl) (by kernel_rfl) (by kernel_rfl) (fun _ _ _ h => h) (Or.inl ⟨by first | kernel_rfl | rfl, ?_⟩) (by assumption) ?_
            case refine_2 => intro w hSw; go_simp; try with_reducible rfl
            refine wpAnyH_done (by kernel_rfl) ?_ _
            go_simp
            go_wp2
            go_roundg (min n 14 - i1)
            case measure => omega
            case rel => exact ⟨i1, s', .slice pw nw cw, Bs', _, Ls, vs, by omega, rfl, by first | rfl | (congr 1; omega), OK', HLEN, Lib.hid HT7.out.done, K7⟩
      · have hke : i = min n 14 := by omega
        by_cases h14 : i < n
        · have hin1 : (i : Int) < n := by omega
          have hin2 : ¬ (i : Int) < 14 := by omega
          have bk1 : decide ((i : Int) < (n : Int)) = true := by simpa using hin1
          have bk2 : decide ((i : Int) < 14) = false := by simpa using hin2
          clear hke h14
          go_wp2_with fail
          refine (AW.out wr).mono ?_
          rintro e w9 ⟨rfl, hb9⟩
          have KF := Lib.hid (K.out.then hb9)
          clear hb9
          go_wp2
          go_ret
          exact ⟨rfl, KF.out⟩
        · have hin1 : ¬ (i : Int) < n := by omega
          have bk1 : decide ((i : Int) < (n : Int)) = false := by simpa using hin1
          clear hke h14
          go_wp2_with fail
          refine (AW.out wr).mono ?_
          rintro e w9 ⟨rfl, hb9⟩
          have KF := Lib.hid (K.out.then hb9)
          clear hb9
          go_wp2
          go_ret
          exact ⟨rfl, KF.out⟩
  · have HBAD := Lib.hid hok
    have hcases : a < 0 ∨ (¬ a < 0 ∧ a > b) ∨ (¬ a < 0 ∧ ¬ a > b ∧ b > 8192) := by omega
    clear hok
    rcases hcases with h1 | ⟨h1, h2⟩ | ⟨h1, h2, h3⟩
    all_goals
      go_enter Try.func6, Try.ntmps6
      go_wp2_with fail
      refine NW.mono ?_
      rintro e w1 ⟨hb, hx⟩
      rcases hx with ⟨-, rfl⟩ | ⟨hgd, -⟩
      · have K := Lib.hid (show Kept w w1 from hb)
        clear hb NW
        go_wp2_with fail
        refine (AW.out w1).mono ?_
        rintro e w9 ⟨rfl, hb9⟩
        have KF := Lib.hid (K.out.then hb9)
        clear hb9
        go_wp2
        go_ret
        exact ⟨rfl, KF.out⟩
      · exact absurd hgd HBAD.out

end Go.Proofs.Ytkdodffnakdckaa
