/- The walk of SegAll, out of the contracts. -/
import Derived.Test.YtlmccnelhpnneaaSegH
namespace Go.Proofs.Ytlmccnelhpnneaa
open Go.RowKit


/-- The load of a slice out of a cell, in every world of the class. -/
theorem wpQuiet_load_slice {P : Program} {ops : Array Oper} {C : World → Prop} {Q : Act → Prop} {a : Act} {o : Oper} {rest : List Oper} (hw : Region.wanted o (yielded ops a.tmps) = true) (ty : TypeId) (x : Operand) (ho : o.op = .load ty x)
    (p : Addr) (hx : a.eval x = .pointer (some p)) (e : TypeId) (hu : P.underlying ty = some (.slice e)) (v : Value) (hg : ∀ W, C W → W.cell? p = some v)
    (h : ∀ K : Act → Prop, (∀ a, wpQuiet P ops C Q rest a → K a) → K (a.put o.dst v)) : wpQuiet P ops C Q (o :: rest) a := by
  refine wpQuiet_pure hw v (fun W hC => ?_) h
  have c := hg W hC
  have u := run_underlying hu
  simp [execOp, ho, hx, Instr.loadAt, Instr.sureAddr, loadVar, isAgg, u, c]

set_option maxRecDepth 100000 in
set_option maxHeartbeats 2000000 in
theorem segAll_of (HM : MayOk) (HC : CutOk) (HA : AllOk) (HS : SplitOk) (w : World) (v : Value) (ls0 : List (List UInt8)) (hv : FpsAt 32 ls0 v w ∧ CapOkF v) (_hl : ls0.length ≤ maxLen) (C : Array Value) (a b d : Int) (hC : IsSeg C a b d) :
    Calls Try.prog 4 #[v, .agg C] w (LawPost w) := by
  obtain ⟨hv, hcap⟩ := hv
  obtain ⟨p, c, rfl, -⟩ := hv.2
  have hc := hcap _ _ _ rfl
  have FE := fun W h => fews_any p c ls0.length ls0 rfl hc W h
  have FF := fun W h => fews_fps p c ls0.length ls0 rfl hc W h
  obtain ⟨ls, hls⟩ : ∃ l, l = ls0.take 600 := ⟨_, rfl⟩
  rw [← hls] at FE FF
  have hc2 := (FF w hv).2.1
  have h6 := (FF w hv).2.2
  have RM0 := fun W => rmays_any C a b d hC W
  have AL0 := fun W h => HA p c ls.length ls rfl (by omega) hc2 C a b d hC W h
  have SP0 := fun W h => HS p c ls.length ls rfl (by omega) hc2 C a b d hC W h
  have RA0 := fun W h => ralls_any p c ls.length ls rfl (by omega) hc2 C a b d hC W h
  have AW := fun W => awakes_of HM HC HA W
  have gC := heap_alloc_last w (.cells C 24)
  have K0 := box_below w (.cells C 24)
  have HCS : Hid ((Try.prog.info? 24).map (·.size) = some C.size) := by rw [hC.size]; exact info_conf
  have hv0 := hv.later K0
  have F0 : Hid (FpsAt 32 ls (.slice p ls.length c) (w.alloc (.cells C 24))) := (FF _ hv0).1
  have FE0 := FE _ hv0
  have hSl := allS_len a b d ls
  have HEACH := Lib.hid (allS_each a b d ls)
  have HJ : Hid (MayS a b d → (allS a b d ls).flatten = ls) := Lib.hid (allS_join a b d ls)
  have HZ : Hid (¬ MayS a b d → allS a b d ls = []) := Lib.hid (fun h => by unfold allS; rw [if_neg h])
  obtain ⟨S, hS⟩ : ∃ S, S = allS a b d ls := ⟨_, rfl⟩
  rw [← hS] at AL0 SP0 RA0 hSl HEACH HJ HZ
  have hN6 : S.length ≤ 600 := by omega
  have hns : (S.map List.length).length = S.length := List.length_map _
  obtain ⟨ns, hnse⟩ : ∃ ns, ns = S.map List.length := ⟨_, rfl⟩
  rw [← hnse] at AL0 RA0 hns
  have HNS := Lib.hid hnse
  have HNL := Lib.hid hns
  obtain ⟨m, hm⟩ : ∃ m, m = decide (MayS a b d) := ⟨_, rfl⟩
  rw [← hm] at RM0
  have HMM := Lib.hid hm
  have SM := fun v1 v2 W h1 h2 => sames_any ns ns (by omega) v1 v2 W h1 h2
  rw [show (ns == ns) = true by simp] at SM
  have HLS6 := Lib.hid h6
  have HFF := Lib.hid FF
  obtain ⟨n0, hn0⟩ : ∃ n, n = ls0.length := ⟨_, rfl⟩
  obtain ⟨n, hn⟩ : ∃ n, n = ls.length := ⟨_, rfl⟩
  have HN := Lib.hid hn
  rw [← hn] at F0 FE0 AL0 SP0 RA0
  rw [← hn0] at FE0 ⊢
  obtain ⟨W, hW⟩ : ∃ W, W = w.alloc (.cells C 24) := ⟨_, rfl⟩
  have gW : W.heap[w.heap.size]? = some (.cells C 24 (0, 0)) := by rw [hW]; exact gC
  have HG := Lib.hid gW
  have HK0 : Hid (Kept w W) := by rw [hW]; exact K0
  rw [← hW] at F0 FE0
  have HW := Lib.hid hW
  have HCC := Lib.hid hC
  clear HC hm hn hn0 hls hcap hc hc2 h6 FE FF hv hv0 gC K0 HM HA HS hW hC _hl hS hnse hns hSl
  go_enter Try.func4, Try.ntmps4
  go_wp2_with fail
  rw [← HW.out]
  refine FE0.mono ?_
  rintro e W ⟨rfl, rfl⟩
  clear FE0
  go_wp2_with (with_reducible refine wpList_load_row rfl _ _ rfl w.heap.size rfl 24 C (0, 0) _ gW Try.underlying24 rfl HCS.out ?_)
  refine (AL0 W F0.out).mono ?_
  rintro e w1 ⟨v1, rfl, hI, hb1⟩
  have K1 : Kept W w1 := hb1
  have g1 := K1.row HG.out
  have HI1 := Lib.hid hI
  clear AL0 gW hI hb1
  go_wp2_with (with_reducible refine wpList_load_row rfl _ _ rfl w.heap.size rfl 24 C (0, 0) _ g1 Try.underlying24 rfl HCS.out ?_)
  refine (SP0 w1 (F0.out.later K1)).mono ?_
  rintro e w2 ⟨v2, rfl, hP, hb2⟩
  have K2 : Kept W w2 := K1.then hb2
  have g2 := K2.row HG.out
  have HI2 : Hid (I64At ns v1 w2) := HI1.out.later hb2
  have HP2 := Lib.hid hP
  clear SP0 g1 hP hb2 K1 HI1
  go_wp2_with (with_reducible refine wpList_load_row rfl _ _ rfl w.heap.size rfl 24 C (0, 0) _ g2 Try.underlying24 rfl HCS.out ?_)
  refine (RA0 w2 (F0.out.later K2)).mono ?_
  rintro e w3 ⟨v3, rfl, hR, hb3⟩
  have K3 : Kept W w3 := K2.then hb3
  have HI3 : Hid (I64At ns v1 w3) := HI2.out.later hb3
  have HP3 : Hid (SegsAt S v2 w3) := HP2.out.later hb3
  clear RA0 g2 K2 HI2 HP2 hb3
  go_wp2_with fail
  refine (SM v1 v3 w3 HI3.out hR).mono ?_
  rintro e w4 ⟨rfl, hb4⟩
  have K4 : Kept W w4 := K3.then hb4
  have HI4 : Hid (I64At ns v1 w4) := HI3.out.later hb4
  have HP4 : Hid (SegsAt S v2 w4) := HP3.out.later hb4
  clear SM hR hb4 K3 HI3 HP3
  obtain ⟨p1, c1, rfl, hc1⟩ := HI4.out
  obtain ⟨p2, c2, vs, rfl, hvl, hc2, hf2⟩ := HP4.out
  rw [HNL.out]
  clear HI4 HP4
  have HC1 := Lib.hid hc1
  have HC2 := Lib.hid hc2
  have HF2 := Lib.hid hf2
  obtain ⟨N, hN⟩ : ∃ N, N = S.length := ⟨_, rfl⟩
  rw [← hN] at hvl hN6 ⊢
  have HNN := Lib.hid hN
  have HVL := Lib.hid hvl
  clear hc1 hc2 hf2 hN hvl
  go_wp2_with fail
  refine (AW _).mono ?_
  rintro e w5 ⟨rfl, hb5⟩
  have K5 : Hid (Kept W w5) := K4.then hb5
  have HK4 : Hid (Kept W w4) := K4
  have K45 : Hid (Kept w4 w5) := hb5
  have g4 := K4.row HG.out
  clear AW K4 hb5
  have HFL : Hid (S.flatten.length ≤ 600) := Lib.hid (by
    by_cases hM : MayS a b d
    · rw [HJ.out hM]; exact HLS6.out
    · rw [HZ.out hM]; simp)
  have HC4 : Hid (w4.heap[w.heap.size]? = some (.cells C 24 (0, 0))) := g4
  obtain ⟨ti, hi, hi1, hi2, tz, hz, hzs⟩ := info_fp
  have HC4' := HG
  clear g4 HG HFF
  go_wp2
  go_loopw [7, 8] (fun v x wr => ∃ (i : Nat) (Ls : List (List UInt8)), i ≤ N ∧ x = .int .i64 i ∧ Hid (Ls = (S.take i).flatten) ∧ Hid (OwnFps w4.heap.size Ls v wr) ∧ Hid (Kept w4 wr)) (fun _ x _ => N - (intOf x).toNat)
  case atStart => exact ⟨0, [], by omega, rfl, Lib.hid rfl, OwnFps.nil _ _, K45⟩
  case round =>
    clear K45 K5
    obtain ⟨i, Ls, hiN, rfl, HL, HO, K⟩ := hrel
    by_cases hlt : i < N
    · have hiS : i < S.length := by rw [← HNN.out]; exact hlt
      have hiV : i < vs.length := by rw [HVL.out]; exact hlt
      have hin : i < ns.length := by rw [HNL.out]; exact hiS
      rcases HC1.out with h | ⟨b1, o1, rfl, hcell1⟩
      · rw [h] at hin; simp at hin
      rcases HC2.out with h | ⟨b2, o2, rfl, hcell2⟩
      · rw [h] at hiS; simp at hiS
      have hF := HF2.out i hiV hiS
      obtain ⟨h32, pi, ci, hu, -⟩ := id hF
      have k2 := hcell2 i hiV
      have k1 := hcell1 i hin
      rw [show ns.getD i 0 = S[i].length by rw [HNS.out, List.getD_eq_getElem?_getD, List.getElem?_map, List.getElem?_eq_getElem hiS]; rfl] at k1
      have hE := HEACH.out i hiS
      rw [← HNN.out] at hE
      have hT : (S.take (i + 1)).flatten = (S.take i).flatten ++ S[i] := by rw [List.take_succ_eq_append_getElem hiS, List.flatten_append]; simp
      have hTl : (S.take (i + 1)).flatten.length ≤ 600 := by
        have h1 := congrArg (fun l => (List.flatten l).length) (List.take_append_drop (i + 1) S)
        simp only [List.flatten_append, List.length_append] at h1
        have := HFL.out
        omega
      obtain ⟨X, hX⟩ : ∃ X, X = S[i] := ⟨_, rfl⟩
      rw [← hX] at hF h32 hu k1 hE hT
      rw [hT, ← HL.out, List.length_append] at hTl
      rw [hu] at hF k2
      have HT : Hid (Ls ++ X = (S.take (i + 1)).flatten) := Lib.hid (by rw [hT, HL.out])
      have HF : Hid (FpsAt 32 X (.slice pi X.length ci) wr) := hF.later K.out
      have c2 : wr.cell? ⟨b2, o2 + i, none⟩ = some (.slice pi X.length ci) := K.out.cell k2
      have H2 : Hid (w4.cell? ⟨b2, o2 + i, none⟩ = some (.slice pi X.length ci)) := k2
      have H1 : Hid (w4.cell? ⟨b1, o1 + i, none⟩ = some (.int .i64 (X.length : Nat))) := k1
      have H32 := Lib.hid h32
      have HE := Lib.hid hE
      have hbase : w4.heap.size ≤ wr.heap.size := K.out.size
      have hti : (i : Int) < N := by omega
      have hXl : X.length ≤ 600 := by omega
      clear hF h32 hu hcell1 hcell2 k1 k2 hE hT hX hiS hiV hin
      go_wp2_with (at_builtin; refine wpList_append_fps rfl _ _ 22 rfl w4.heap.size 37 ti tz 32 Try.underlying22 hi hz hi1 hi2 hzs _ _ _ rfl HO.out.2 _ X rfl HF.out ?qc2 ?qc3 hbase ?_)
      case qc2 => unfold maxLen; omega
      case qc3 => omega
      intro v6 w6 hown hgrow
      have K6 : Hid (Kept w4 w6) := Below.grown K.out hgrow hbase (fun k hk => (HO.out.lt k hk).1)
      have HO6 : Hid (OwnFps w4.heap.size (Ls ++ X) v6 w6) := ⟨fun l hl => (List.mem_append.1 hl).elim (HO.out.1 l) (H32.out l), by rw [flatL_append, List.length_append]; exact hown⟩
      have c1 := K6.out.cell H1.out
      have c3 := K6.out.cell H2.out
      have g6 := K6.out.row HC4.out
      have c4 : w6.cell? ⟨w.heap.size, 4, none⟩ = some (.int .i64 a) := by rw [cell_of_row _ _ _ _ _ _ g6]; exact HCC.out.c4
      have c5 : w6.cell? ⟨w.heap.size, 5, none⟩ = some (.int .i64 b) := by rw [cell_of_row _ _ _ _ _ _ g6]; exact HCC.out.c5
      obtain ⟨q, hq⟩ : ∃ q, q = X.length := ⟨_, rfl⟩
      have hE := HE.out
      rw [← hq] at c1 c3 hE c2 hXl
      have t1 : ¬ (q : Int) < 1 := by omega
      have t2 : ¬ b < (q : Int) := by omega
      have v1 : IntKind.i64.wrap ((i : Int) + 1) = (i : Int) + 1 := by rw [show (i : Int) + 1 = ((i + 1 : Nat) : Int) by omega]; exact IntWalk.i64_in _ (by omega)
      have t0 : ((q : Int) != (q : Int)) = false := by simp
      by_cases hl : i + 1 < N
      · have t3 : (i : Int) + 1 < N := by omega
        have t5 : decide ((i : Int) + 1 < (N : Int)) = true := by simpa using t3
        have t4 : ¬ (q : Int) < a := by have := hE.2.2 hl; omega
        clear hE hq hown hgrow HO K g6 HF H1 H2 c2 HE
        have HN1 := Lib.hid c1
        have HN2 := Lib.hid c3
        have HN4 := Lib.hid c4
        have HN5 := Lib.hid c5
        clear c1 c3 c4 c5
        go_wp2_with fail
        refine wp_region_kept (by kernel_rfl) (by kernel_rfl) ?_
        refine wpQuiet_pure (v := ?_) (by kernel_rfl) ?_ (fun K hK => ?_)
        case refine_2 => intro W _; go_simp; try with_reducible rfl
        go_simp
        refine hK _ ?_; clear hK K
        refine wpQuiet_pure (v := ?_) (by kernel_rfl) ?_ (fun K hK => ?_)
        case refine_2 => intro W _; go_simp; try with_reducible rfl
        go_simp
        refine hK _ ?_; clear hK K
        refine wpQuiet_pure (v := ?_) (by kernel_rfl) ?_ (fun K hK => ?_)
        case refine_2 => intro W _; go_simp; try with_reducible rfl
        go_simp
        refine hK _ ?_; clear hK K
        refine wpQuiet_load_int (by kernel_rfl) _ _ rfl ⟨b1, o1 + i, none⟩ rfl _ Try.underlying3 _ (fun _ h => h.cell HN1.out) (fun K hK => ?_)
        go_simp
        refine hK _ ?_; clear hK K
        refine wpQuiet_pure (v := ?_) (by kernel_rfl) ?_ (fun K hK => ?_)
        case refine_2 => intro W _; go_simp; try with_reducible rfl
        go_simp
        refine hK _ ?_; clear hK K
        refine wpQuiet_pure (v := ?_) (by kernel_rfl) ?_ (fun K hK => ?_)
        case refine_2 => intro W _; go_simp; try with_reducible rfl
        go_simp
        refine hK _ ?_; clear hK K
        refine wpQuiet_pure (v := ?_) (by kernel_rfl) ?_ (fun K hK => ?_)
        case refine_2 => intro W _; go_simp; try with_reducible rfl
        go_simp
        refine hK _ ?_; clear hK K
        refine wpQuiet_load_slice (by kernel_rfl) _ _ rfl ⟨b2, o2 + i, none⟩ rfl _ Try.underlying22 _ (fun _ h => h.cell HN2.out) (fun K hK => ?_)
        go_simp
        refine hK _ ?_; clear hK K
        refine wpQuiet_pure (v := ?_) (by kernel_rfl) ?_ (fun K hK => ?_)
        case refine_2 => intro W _; go_simp; try with_reducible rfl
        go_simp
        refine hK _ ?_; clear hK K
        refine wpQuiet_pure (by kernel_rfl) (.bool false) (fun W _ => by go_simp) (fun K hK => ?_)
        go_simp
        refine hK _ ?_; clear hK K
        refine wpQuiet_pure (v := ?_) (by kernel_rfl) ?_ (fun K hK => ?_)
        case refine_2 => intro W _; go_simp; try with_reducible rfl
        go_simp
        refine hK _ ?_; clear hK K
        refine wpQuiet_pure (v := ?_) (by kernel_rfl) ?_ (fun K hK => ?_)
        case refine_2 => intro W _; go_simp; try with_reducible rfl
        go_simp
        refine hK _ ?_; clear hK K
        refine wpQuiet_pure (v := ?_) (by kernel_rfl) ?_ (fun K hK => ?_)
        case refine_2 => intro W _; go_simp; try with_reducible rfl
        go_simp
        refine hK _ ?_; clear hK K
        refine wpQuiet_pure (v := ?_) (by kernel_rfl) ?_ (fun K hK => ?_)
        case refine_2 => intro W _; go_simp; try with_reducible rfl
        go_simp
        refine hK _ ?_; clear hK K
        refine wpQuiet_load_int (by kernel_rfl) _ _ rfl ⟨b1, o1 + i, none⟩ rfl _ Try.underlying3 _ (fun _ h => h.cell HN1.out) (fun K hK => ?_)
        go_simp
        refine hK _ ?_; clear hK K
        refine wpQuiet_pure (by kernel_rfl) (.bool false) (fun W _ => by go_simp) (fun K hK => ?_)
        go_simp
        refine hK _ ?_; clear hK K
        refine wpQuiet_pure (v := ?_) (by kernel_rfl) ?_ (fun K hK => ?_)
        case refine_2 => intro W _; go_simp; try with_reducible rfl
        go_simp
        refine hK _ ?_; clear hK K
        refine wpQuiet_pure (v := ?_) (by kernel_rfl) ?_ (fun K hK => ?_)
        case refine_2 => intro W _; go_simp; try with_reducible rfl
        go_simp
        refine hK _ ?_; clear hK K
        refine wpQuiet_pure (v := ?_) (by kernel_rfl) ?_ (fun K hK => ?_)
        case refine_2 => intro W _; go_simp; try with_reducible rfl
        go_simp
        refine hK _ ?_; clear hK K
        refine wpQuiet_pure (v := ?_) (by kernel_rfl) ?_ (fun K hK => ?_)
        case refine_2 => intro W _; go_simp; try with_reducible rfl
        go_simp
        refine hK _ ?_; clear hK K
        refine wpQuiet_pure (v := ?_) (by kernel_rfl) ?_ (fun K hK => ?_)
        case refine_2 => intro W _; go_simp; try with_reducible rfl
        go_simp
        refine hK _ ?_; clear hK K
        refine wpQuiet_load_int (by kernel_rfl) _ _ rfl ⟨b1, o1 + i, none⟩ rfl _ Try.underlying3 _ (fun _ h => h.cell HN1.out) (fun K hK => ?_)
        go_simp
        refine hK _ ?_; clear hK K
        refine wpQuiet_pure (v := ?_) (by kernel_rfl) ?_ (fun K hK => ?_)
        case refine_2 => intro W _; go_simp; try with_reducible rfl
        go_simp
        refine hK _ ?_; clear hK K
        refine wpQuiet_load_int (by kernel_rfl) _ _ rfl ⟨w.heap.size, 5, none⟩ rfl _ Try.underlying3 _ (fun _ h => h.cell HN5.out) (fun K hK => ?_)
        go_simp
        refine hK _ ?_; clear hK K
        refine wpQuiet_pure (by kernel_rfl) (.bool false) (fun W _ => by go_simp) (fun K hK => ?_)
        go_simp
        refine hK _ ?_; clear hK K
        refine wpQuiet_pure (v := ?_) (by kernel_rfl) ?_ (fun K hK => ?_)
        case refine_2 => intro W _; go_simp; try with_reducible rfl
        go_simp
        refine hK _ ?_; clear hK K
        refine wpQuiet_pure (v := ?_) (by kernel_rfl) ?_ (fun K hK => ?_)
        case refine_2 => intro W _; go_simp; try with_reducible rfl
        go_simp
        refine hK _ ?_; clear hK K
        refine wpQuiet_pure (v := ?_) (by kernel_rfl) ?_ (fun K hK => ?_)
        case refine_2 => intro W _; go_simp; try with_reducible rfl
        go_simp
        refine hK _ ?_; clear hK K
        refine wpQuiet_pure (v := ?_) (by kernel_rfl) ?_ (fun K hK => ?_)
        case refine_2 => intro W _; go_simp; try with_reducible rfl
        go_simp
        refine hK _ ?_; clear hK K
        refine wpQuiet_pure (v := ?_) (by kernel_rfl) ?_ (fun K hK => ?_)
        case refine_2 => intro W _; go_simp; try with_reducible rfl
        go_simp
        refine hK _ ?_; clear hK K
        refine wpQuiet_pure (v := ?_) (by kernel_rfl) ?_ (fun K hK => ?_)
        case refine_2 => intro W _; go_simp; try with_reducible rfl
        go_simp
        refine hK _ ?_; clear hK K
        refine wpQuiet_pure (by kernel_rfl) (.bool true) (fun W _ => by go_simp) (fun K hK => ?_)
        go_simp
        refine hK _ ?_; clear hK K
        refine wpQuiet_pure (v := ?_) (by kernel_rfl) ?_ (fun K hK => ?_)
        case refine_2 => intro W _; go_simp; try with_reducible rfl
        go_simp
        refine hK _ ?_; clear hK K
        refine wpQuiet_pure (v := ?_) (by kernel_rfl) ?_ (fun K hK => ?_)
        case refine_2 => intro W _; go_simp; try with_reducible rfl
        go_simp
        refine hK _ ?_; clear hK K
        refine wpQuiet_pure (v := ?_) (by kernel_rfl) ?_ (fun K hK => ?_)
        case refine_2 => intro W _; go_simp; try with_reducible rfl
        go_simp
        refine hK _ ?_; clear hK K
        refine wpQuiet_pure (v := ?_) (by kernel_rfl) ?_ (fun K hK => ?_)
        case refine_2 => intro W _; go_simp; try with_reducible rfl
        go_simp
        refine hK _ ?_; clear hK K
        refine wpQuiet_load_int (by kernel_rfl) _ _ rfl ⟨b1, o1 + i, none⟩ rfl _ Try.underlying3 _ (fun _ h => h.cell HN1.out) (fun K hK => ?_)
        go_simp
        refine hK _ ?_; clear hK K
        refine wpQuiet_pure (v := ?_) (by kernel_rfl) ?_ (fun K hK => ?_)
        case refine_2 => intro W _; go_simp; try with_reducible rfl
        go_simp
        refine hK _ ?_; clear hK K
        refine wpQuiet_load_int (by kernel_rfl) _ _ rfl ⟨w.heap.size, 4, none⟩ rfl _ Try.underlying3 _ (fun _ h => h.cell HN4.out) (fun K hK => ?_)
        go_simp
        refine hK _ ?_; clear hK K
        refine wpQuiet_pure (by kernel_rfl) (.bool false) (fun W _ => by go_simp) (fun K hK => ?_)
        go_simp
        refine hK _ ?_; clear hK K
        refine wpQuiet_pure (v := ?_) (by kernel_rfl) ?_ (fun K hK => ?_)
        case refine_2 => intro W _; go_simp; try with_reducible rfl
        go_simp
        refine hK _ ?_; clear hK K
        refine wpQuiet_pure (v := ?_) (by kernel_rfl) ?_ (fun K hK => ?_)
        case refine_2 => intro W _; go_simp; try with_reducible rfl
        go_simp
        refine hK _ ?_; clear hK K
        refine wpQuiet_nil ?_
        intro w7 hk7
        go_wp2
        go_roundw
        case rel => exact ⟨i + 1, _, by omega, by go_num, HT, HO6.out.later hk7, K6.out.then hk7⟩
        case measure => simp [intOf]; omega
      · have t3 : ¬ (i : Int) + 1 < N := by omega
        have t5 : decide ((i : Int) + 1 < (N : Int)) = false := decide_eq_false t3
        clear hE hq hown hgrow HO K g6 HF H1 H2 c2 HE
        have HN1 := Lib.hid c1
        have HN2 := Lib.hid c3
        have HN4 := Lib.hid c4
        have HN5 := Lib.hid c5
        clear c1 c3 c4 c5
        go_wp2_with fail
        refine wp_region_kept (by kernel_rfl) (by kernel_rfl) ?_
        refine wpQuiet_pure (v := ?_) (by kernel_rfl) ?_ (fun K hK => ?_)
        case refine_2 => intro W _; go_simp; try with_reducible rfl
        go_simp
        refine hK _ ?_; clear hK K
        refine wpQuiet_pure (v := ?_) (by kernel_rfl) ?_ (fun K hK => ?_)
        case refine_2 => intro W _; go_simp; try with_reducible rfl
        go_simp
        refine hK _ ?_; clear hK K
        refine wpQuiet_pure (v := ?_) (by kernel_rfl) ?_ (fun K hK => ?_)
        case refine_2 => intro W _; go_simp; try with_reducible rfl
        go_simp
        refine hK _ ?_; clear hK K
        refine wpQuiet_load_int (by kernel_rfl) _ _ rfl ⟨b1, o1 + i, none⟩ rfl _ Try.underlying3 _ (fun _ h => h.cell HN1.out) (fun K hK => ?_)
        go_simp
        refine hK _ ?_; clear hK K
        refine wpQuiet_pure (v := ?_) (by kernel_rfl) ?_ (fun K hK => ?_)
        case refine_2 => intro W _; go_simp; try with_reducible rfl
        go_simp
        refine hK _ ?_; clear hK K
        refine wpQuiet_pure (v := ?_) (by kernel_rfl) ?_ (fun K hK => ?_)
        case refine_2 => intro W _; go_simp; try with_reducible rfl
        go_simp
        refine hK _ ?_; clear hK K
        refine wpQuiet_pure (v := ?_) (by kernel_rfl) ?_ (fun K hK => ?_)
        case refine_2 => intro W _; go_simp; try with_reducible rfl
        go_simp
        refine hK _ ?_; clear hK K
        refine wpQuiet_load_slice (by kernel_rfl) _ _ rfl ⟨b2, o2 + i, none⟩ rfl _ Try.underlying22 _ (fun _ h => h.cell HN2.out) (fun K hK => ?_)
        go_simp
        refine hK _ ?_; clear hK K
        refine wpQuiet_pure (v := ?_) (by kernel_rfl) ?_ (fun K hK => ?_)
        case refine_2 => intro W _; go_simp; try with_reducible rfl
        go_simp
        refine hK _ ?_; clear hK K
        refine wpQuiet_pure (by kernel_rfl) (.bool false) (fun W _ => by go_simp) (fun K hK => ?_)
        go_simp
        refine hK _ ?_; clear hK K
        refine wpQuiet_pure (v := ?_) (by kernel_rfl) ?_ (fun K hK => ?_)
        case refine_2 => intro W _; go_simp; try with_reducible rfl
        go_simp
        refine hK _ ?_; clear hK K
        refine wpQuiet_pure (v := ?_) (by kernel_rfl) ?_ (fun K hK => ?_)
        case refine_2 => intro W _; go_simp; try with_reducible rfl
        go_simp
        refine hK _ ?_; clear hK K
        refine wpQuiet_pure (v := ?_) (by kernel_rfl) ?_ (fun K hK => ?_)
        case refine_2 => intro W _; go_simp; try with_reducible rfl
        go_simp
        refine hK _ ?_; clear hK K
        refine wpQuiet_pure (v := ?_) (by kernel_rfl) ?_ (fun K hK => ?_)
        case refine_2 => intro W _; go_simp; try with_reducible rfl
        go_simp
        refine hK _ ?_; clear hK K
        refine wpQuiet_load_int (by kernel_rfl) _ _ rfl ⟨b1, o1 + i, none⟩ rfl _ Try.underlying3 _ (fun _ h => h.cell HN1.out) (fun K hK => ?_)
        go_simp
        refine hK _ ?_; clear hK K
        refine wpQuiet_pure (by kernel_rfl) (.bool false) (fun W _ => by go_simp) (fun K hK => ?_)
        go_simp
        refine hK _ ?_; clear hK K
        refine wpQuiet_pure (v := ?_) (by kernel_rfl) ?_ (fun K hK => ?_)
        case refine_2 => intro W _; go_simp; try with_reducible rfl
        go_simp
        refine hK _ ?_; clear hK K
        refine wpQuiet_pure (v := ?_) (by kernel_rfl) ?_ (fun K hK => ?_)
        case refine_2 => intro W _; go_simp; try with_reducible rfl
        go_simp
        refine hK _ ?_; clear hK K
        refine wpQuiet_pure (v := ?_) (by kernel_rfl) ?_ (fun K hK => ?_)
        case refine_2 => intro W _; go_simp; try with_reducible rfl
        go_simp
        refine hK _ ?_; clear hK K
        refine wpQuiet_pure (v := ?_) (by kernel_rfl) ?_ (fun K hK => ?_)
        case refine_2 => intro W _; go_simp; try with_reducible rfl
        go_simp
        refine hK _ ?_; clear hK K
        refine wpQuiet_pure (v := ?_) (by kernel_rfl) ?_ (fun K hK => ?_)
        case refine_2 => intro W _; go_simp; try with_reducible rfl
        go_simp
        refine hK _ ?_; clear hK K
        refine wpQuiet_load_int (by kernel_rfl) _ _ rfl ⟨b1, o1 + i, none⟩ rfl _ Try.underlying3 _ (fun _ h => h.cell HN1.out) (fun K hK => ?_)
        go_simp
        refine hK _ ?_; clear hK K
        refine wpQuiet_pure (v := ?_) (by kernel_rfl) ?_ (fun K hK => ?_)
        case refine_2 => intro W _; go_simp; try with_reducible rfl
        go_simp
        refine hK _ ?_; clear hK K
        refine wpQuiet_load_int (by kernel_rfl) _ _ rfl ⟨w.heap.size, 5, none⟩ rfl _ Try.underlying3 _ (fun _ h => h.cell HN5.out) (fun K hK => ?_)
        go_simp
        refine hK _ ?_; clear hK K
        refine wpQuiet_pure (by kernel_rfl) (.bool false) (fun W _ => by go_simp) (fun K hK => ?_)
        go_simp
        refine hK _ ?_; clear hK K
        refine wpQuiet_pure (v := ?_) (by kernel_rfl) ?_ (fun K hK => ?_)
        case refine_2 => intro W _; go_simp; try with_reducible rfl
        go_simp
        refine hK _ ?_; clear hK K
        refine wpQuiet_pure (v := ?_) (by kernel_rfl) ?_ (fun K hK => ?_)
        case refine_2 => intro W _; go_simp; try with_reducible rfl
        go_simp
        refine hK _ ?_; clear hK K
        refine wpQuiet_pure (v := ?_) (by kernel_rfl) ?_ (fun K hK => ?_)
        case refine_2 => intro W _; go_simp; try with_reducible rfl
        go_simp
        refine hK _ ?_; clear hK K
        refine wpQuiet_pure (v := ?_) (by kernel_rfl) ?_ (fun K hK => ?_)
        case refine_2 => intro W _; go_simp; try with_reducible rfl
        go_simp
        refine hK _ ?_; clear hK K
        refine wpQuiet_pure (v := ?_) (by kernel_rfl) ?_ (fun K hK => ?_)
        case refine_2 => intro W _; go_simp; try with_reducible rfl
        go_simp
        refine hK _ ?_; clear hK K
        refine wpQuiet_pure (v := ?_) (by kernel_rfl) ?_ (fun K hK => ?_)
        case refine_2 => intro W _; go_simp; try with_reducible rfl
        go_simp
        refine hK _ ?_; clear hK K
        refine wpQuiet_pure (by kernel_rfl) (.bool false) (fun W _ => by go_simp) (fun K hK => ?_)
        go_simp
        refine hK _ ?_; clear hK K
        refine wpQuiet_pure (v := ?_) (by kernel_rfl) ?_ (fun K hK => ?_)
        case refine_2 => intro W _; go_simp; try with_reducible rfl
        go_simp
        refine hK _ ?_; clear hK K
        go_big_quiet_skip
        go_big_quiet_skip
        go_big_quiet_skip
        go_big_quiet_skip
        go_big_quiet_skip
        go_big_quiet_skip
        go_big_quiet_skip
        refine wpQuiet_pure (v := ?_) (by kernel_rfl) ?_ (fun K hK => ?_)
        case refine_2 => intro W _; go_simp; try with_reducible rfl
        go_simp
        refine hK _ ?_; clear hK K
        refine wpQuiet_pure (v := ?_) (by kernel_rfl) ?_ (fun K hK => ?_)
        case refine_2 => intro W _; go_simp; try with_reducible rfl
        go_simp
        refine hK _ ?_; clear hK K
        refine wpQuiet_nil ?_
        intro w7 hk7
        go_wp2
        go_roundw
        case rel => exact ⟨i + 1, _, by omega, by go_num, HT, HO6.out.later hk7, K6.out.then hk7⟩
        case measure => simp [intOf]; omega
    · obtain rfl : i = N := by omega
      have hLs : Ls = S.flatten := by rw [HL.out, List.take_of_length_le (by rw [← HNN.out]; exact Nat.le_refl _)]
      have hlen : Ls.length ≤ 1000000 := by rw [hLs]; have := HFL.out; omega
      have K7 : Hid (Kept W wr) := HK4.out.then K.out
      have hFL := HO.out.fps
      obtain ⟨pu, cu, hu7, -⟩ := id hFL.2
      subst hu7
      have SA := same_n pu p cu c Ls.length n Ls ls rfl HN.out hlen wr hFL (F0.out.later K7.out)
      clear hFL
      obtain ⟨nL, hnL⟩ : ∃ x, x = Ls.length := ⟨_, rfl⟩
      rw [← hnL] at SA ⊢
      clear hnL
      have hti : ¬ (i : Int) < i := by omega
      have g7 := K7.out.row HC4'.out
      by_cases hM : MayS a b d
      · rw [hLs, HJ.out hM, show (ls == ls) = true by simp] at SA
        clear hM hLs hlen HO HL K
        go_wp2_with fail
        refine SA.mono ?_
        rintro e w7 ⟨rfl, hb7⟩
        clear SA
        go_wp2
        go_ret
        exact ⟨rfl, HK0.out.then (K7.out.then hb7)⟩
      · have hN0 : i = 0 := by rw [HNN.out, HZ.out hM]; rfl
        have hm : m = false := by rw [HMM.out]; exact decide_eq_false hM
        subst hm
        obtain ⟨q, hq⟩ : ∃ q, q = (Ls == ls) := ⟨_, rfl⟩
        rw [← hq] at SA
        subst hN0
        clear hM hLs hlen HO HL K hq
        cases q with
        | true =>
          go_wp2_with fail
          refine SA.mono ?_
          rintro e w7 ⟨rfl, hb7⟩
          clear SA
          go_wp2
          go_ret
          exact ⟨rfl, HK0.out.then (K7.out.then hb7)⟩
        | false =>
          go_wp2_with fail
          refine SA.mono ?_
          rintro e w7 ⟨rfl, hb7⟩
          have K8 : Kept W w7 := K7.out.then hb7
          have g8 := K8.row HC4'.out
          clear SA g7
          rename_i hK3
          refine hK3 _ _ ?_
          clear hK3
          refine BigFrame.wpList_want (by kernel_rfl) (fun K hK => ?_)
          go_simp
          refine hK _ _ ?_; clear hK K
          refine wpList_load_rowS (by kernel_rfl) _ _ rfl w.heap.size rfl 24 C (0, 0) _ g8 Try.underlying24 rfl HCS.out (fun K hK => ?_)
          go_simp
          refine hK _ _ ?_; clear hK K
          refine BigFrame.wpList_want (by kernel_rfl) (fun K hK => ?_)
          go_simp
          refine (RM0 _).mono ?_
          rintro e w8 ⟨rfl, hb8⟩
          refine hK _ _ ?_; clear hK K
          go_wp2
          go_ret
          exact ⟨rfl, HK0.out.then (K8.then hb8)⟩

end Go.Proofs.Ytlmccnelhpnneaa
