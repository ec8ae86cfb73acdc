/- The walk of SegPuts, out of the contracts. -/
import Derived.Test.YtlmccnelhpnneaaSegP
namespace Go.Proofs.Ytlmccnelhpnneaa
open Go.RowKit

set_option maxRecDepth 100000 in
set_option maxHeartbeats 2000000 in
theorem segPuts_of (HM : MayOk) (HC : CutOk) (HA : AllOk) (HNW : NewOk) (w : World) (v : Value) (ls0 : List (List UInt8)) (hv : FpsAt 32 ls0 v w ∧ CapOkF v) (_hl : ls0.length ≤ maxLen) (C : Array Value) (a b d : Int) (hC : IsSeg C a b d) (r : Int) (hr : (Lit.int .u16 r).wf = true) :
    Calls Try.prog 6 #[v, .agg C, .int .u16 r] w (LawPost w) := by
  obtain ⟨hv, hcap⟩ := hv
  obtain ⟨p, c, rfl, -⟩ := hv.2
  have hc := hcap _ _ _ rfl
  have FE := fun W h => fews_any p c ls0.length ls0 rfl hc W h
  have FF := fun W h => fews_fps p c ls0.length ls0 rfl hc W h
  obtain ⟨ls, hls⟩ : ∃ l, l = ls0.take 600 := ⟨_, rfl⟩
  rw [← hls] at FE FF
  have h6 := (FF w hv).2.2
  have RM0 := fun W => rmays_any C a b d hC W
  have NW0 := fun W => HNW C a b d hC W
  have RC0 := Lib.hid (fun p c n (l : List (List UInt8)) (hn : n = l.length) (hs : n ≤ 1000000) W h => rcuts_any p c n l hn hs C a b d hC W h)
  have AW := fun W => awakes_of HM HC HA W
  have gC := heap_alloc_last w (.cells C 24)
  have K0 := box_below w (.cells C 24)
  have HCS : Hid ((Try.prog.info? 24).map (·.size) = some C.size) := by rw [hC.size]; exact info_conf
  have hv0 := hv.later K0
  have F0 : Hid (FpsAt 32 ls (.slice p ls.length c) (w.alloc (.cells C 24))) := (FF _ hv0).1
  have FE0 := FE _ hv0
  obtain ⟨n0, hn0⟩ : ∃ n, n = ls0.length := ⟨_, rfl⟩
  obtain ⟨n, hn⟩ : ∃ n, n = ls.length := ⟨_, rfl⟩
  have HN := Lib.hid hn
  rw [← hn] at F0 FE0 h6
  rw [← hn0] at FE0 ⊢
  obtain ⟨W, hW⟩ : ∃ W, W = w.alloc (.cells C 24) := ⟨_, rfl⟩
  have gW : W.heap[w.heap.size]? = some (.cells C 24 (0, 0)) := by rw [hW]; exact gC
  have HG := Lib.hid gW
  have HK0 : Hid (Kept w W) := by rw [hW]; exact K0
  rw [← hW] at F0 FE0
  have HW := Lib.hid hW
  clear HC hn hn0 hls hcap hc FE FF hv hv0 gC K0 HM HA HNW hW _hl hC
  go_enter Try.func6, Try.ntmps6
  go_wp2_with fail
  rw [← HW.out]
  refine FE0.mono ?_
  rintro e W ⟨rfl, rfl⟩
  clear FE0
  go_wp2_with (with_reducible refine wpList_load_row rfl _ _ rfl w.heap.size rfl 24 C (0, 0) _ gW Try.underlying24 rfl HCS.out ?_)
  refine (NW0 W).mono ?_
  rintro e w1 ⟨hb1, ⟨hM, rfl⟩ | ⟨hM, ad, P, Bs0, rfl, hPO, hP⟩⟩
  · rw [decide_eq_false hM] at RM0
    have K1 : Kept W w1 := hb1
    have g1 := K1.row HG.out
    clear hb1 NW0 hM gW
    go_wp2_with (with_reducible refine wpList_load_row rfl _ _ rfl w.heap.size rfl 24 C (0, 0) _ g1 Try.underlying24 rfl HCS.out ?_)
    refine (RM0 w1).mono ?_
    rintro e w2 ⟨rfl, hb2⟩
    clear RM0 g1
    go_wp2_with fail
    refine (AW _).mono ?_
    rintro e w3 ⟨rfl, hb3⟩
    go_wp2
    go_ret
    exact ⟨rfl, HK0.out.then ((K1.then hb2).then hb3)⟩
  · rw [decide_eq_true hM] at RM0
    have K1 : Kept W w1 := hb1
    have g1 := K1.row HG.out
    have HMM := Lib.hid hM
    have PO := Lib.hid hPO
    clear hb1 NW0 hM gW hPO
    go_wp2_with (with_reducible refine wpList_load_row rfl _ _ rfl w.heap.size rfl 24 C (0, 0) _ g1 Try.underlying24 rfl HCS.out ?_)
    refine (RM0 w1).mono ?_
    rintro e w2 ⟨rfl, hb2⟩
    have K2 : Hid (Kept W w2) := K1.then hb2
    have HP2 : Hid (P [] Bs0 w2) := PO.out.stay _ _ _ _ hP hb2.size (fun k hk => hb2.block k (PO.out.above _ _ _ hP k hk).2)
    clear RM0 g1 hP hb2 K1
    obtain ⟨ti, hi, hi1, hi2, tz, hz, hzs⟩ := info_fp
    go_wp2
    go_loopw [9, 10] (fun vL x wr => ∃ (i : Nat) (L : List (List UInt8)) (Bs : Nat → Prop), i ≤ n ∧ x = .int .i64 i ∧ L.length ≤ i ∧ Hid (segI a b d L = 0) ∧ Hid (P L Bs wr) ∧ Hid (OwnFps W.heap.size L vL wr) ∧ Hid (Kept W wr)) (fun _ x _ => n - (intOf x).toNat)
    case atStart => exact ⟨0, [], Bs0, by omega, rfl, by simp, Lib.hid (segI_nil a b d), HP2, OwnFps.nil _ _, K2⟩
    case round =>
      clear K2 HP2
      obtain ⟨i, L, Bs, hin, rfl, hLi, HZ, HP, HO, K⟩ := hrel
      by_cases hlt : i < n
      · have hti : (i : Int) < n := by omega
        have hrb := bounds_u16 hr
        have vr : IntKind.i64.wrap r = r := IntWalk.i64_in _ (by omega)
        by_cases hir : (i : Int) = r
        · have bir : ((i : Int) == r) = true := by rw [hir]; simp
          have RS := PO.out.reset _ _ _ HP.out
          have HTT := Lib.hid (PO.out.above _ _ _ HP.out)
          clear hir
          go_wp2_with fail
          refine RS.mono ?_
          rintro e w7 ⟨rfl, ⟨Bs7, hP7, -⟩, hbb7⟩
          have K7 : Hid (Kept W w7) := hbb7.kept (fun k hk => (HTT.out k hk).1) K.out K.out.size
          have HP7 := Lib.hid hP7
          have HO7 : Hid (OwnFps W.heap.size [] (.slice none 0 0) w7) := OwnFps.nil _ _
          have HZ7 : Hid (segI a b d [] = 0) := Lib.hid (segI_nil a b d)
          have hL7 : ([] : List (List UInt8)).length ≤ i := by simp
          clear RS hP7 hbb7 HP HO K HZ hLi
          have hkl : i < ls.length := by rw [← HN.out]; exact hlt
          have hFF : FpsAt 32 ls (.slice p ls.length c) W := by rw [← HN.out]; exact F0.out
          obtain ⟨bl, off, cs, t, fr, hp, hg, E1⟩ := hFF.elem hkl
          subst hp
          have HGL := Lib.hid hg
          have gw : w7.heap[bl]? = some (.cells cs t fr) := K7.out.row hg
          have hx32 := hFF.1 _ (List.getElem_mem hkl)
          have HONE := Lib.hid (fun (V : World) => fps_one V ls[i] hx32 1)
          have HXS : Hid ((fpA ls[i]).size = 32) := by rw [fpA_size]; exact hx32
          have HPUT := Lib.hid (fun w' Bs' h => PO.out.put [] Bs' w' ls[i] h HZ7.out hx32)
          have HX32 := Lib.hid hx32
          have IX1 := fun w' => idx_at bl off n c i hlt w'
          obtain ⟨f, hf⟩ : ∃ f, f = ls[i] := ⟨_, rfl⟩
          rw [← hf] at E1 HONE HXS HPUT HX32
          obtain ⟨X, hX⟩ : ∃ X, X = fpA f := ⟨_, rfl⟩
          rw [← hX] at E1 HONE HXS HPUT
          clear hX hf hx32 hg hFF hkl
          obtain ⟨E1a, E1b⟩ := E1
          have hbase : W.heap.size ≤ w7.heap.size := K7.out.size
          go_wp2_with (first
            | (with_reducible refine wpList_load_sub rfl _ _ rfl bl (off + i * 32) 32 rfl t cs fr _ gw Try.underlying37 rfl infoFp E1a X E1b ?_)
            | (with_reducible refine wpList_build1 rfl _ rfl X rfl HXS.out ?_)
            | (at_builtin; refine wpList_append_fps rfl _ _ 22 rfl W.heap.size 37 ti tz 32 Try.underlying22 hi hz hi1 hi2 hzs _ _ _ rfl (HO7.out.2.alloc _) _ [f] rfl (HONE.out _) ?qc2 ?qc3 ?qc4 ?_))
          case qc2 => simp only [List.length_singleton]; unfold maxLen; omega
          case qc3 => simp only [List.length_singleton]; omega
          case qc4 => simp only [World.size_alloc]; omega
          intro v3 w3 hown hgrow
          have HO3 : OwnFps W.heap.size ([] ++ [f]) v3 w3 := own_snoc HO7.out.1 HX32.out hown
          have K3 : Kept W w3 := Below.grown (Below.alloc K7.out hbase _) hgrow (by simp only [World.size_alloc]; omega) (fun k hk => (HO7.out.lt k hk).1)
          have HP3 : P [] Bs7 w3 := PO.out.stay _ _ _ _ HP7.out (by have := hgrow.size; simp only [World.size_alloc] at this; omega) (fun k hk => by
            have h1 := (PO.out.above _ _ _ HP7.out k hk).2
            rw [hgrow.block k (by simp only [World.size_alloc]; omega) (HO7.out.apart (PO.out.typ _ _ _ HP7.out) k hk), heap_alloc_old _ _ h1])
          obtain ⟨p3, c3, e3, -⟩ := id HO3.fps.2
          have HF3 := HO3.fps
          rw [e3] at HO3 HF3
          have hml : ([] ++ [f]).length ≤ i + 1 := by rw [List.length_append, List.length_singleton]; omega
          obtain ⟨L1, hL1⟩ : ∃ l, l = [] ++ [f] := ⟨_, rfl⟩
          rw [← hL1] at HO3 HF3 hml e3 HPUT
          subst e3
          have RC := RC0.out p3 c3 L1.length L1 rfl (by omega) w3 HF3
          obtain ⟨s, hs⟩ : ∃ s, s = segI a b d L1 := ⟨_, rfl⟩
          rw [← hs] at RC HPUT
          have HS := Lib.hid hs
          have HL1 := Lib.hid hL1
          obtain ⟨m1, hm1⟩ : ∃ m, m = L1.length := ⟨_, rfl⟩
          rw [← hm1] at RC hml HO3 ⊢
          have HM1 := Lib.hid hm1
          have HO3 := Lib.hid HO3
          have g3 := K3.row HG.out
          clear hs hL1 hm1 hown hgrow HONE gw HF3 HP7 HO7
          go_wp2_with (with_reducible refine wpList_load_row rfl _ _ rfl w.heap.size rfl 24 C (0, 0) _ g3 Try.underlying24 rfl HCS.out ?_)
          refine RC.mono ?_
          rintro e w4 ⟨rfl, hb4⟩
          have K4 : Kept W w4 := K3.then hb4
          have HP4 : P [] Bs7 w4 := PO.out.stay _ _ _ _ HP3 hb4.size (fun k hk => hb4.block k (PO.out.above _ _ _ HP3 k hk).2)
          have HO4 := Lib.hid (HO3.out.later hb4)
          have g4 : w4.heap[bl]? = some (.cells cs t fr) := K4.row HGL.out
          have HT4 := Lib.hid (PO.out.typ _ _ _ HP4)
          have HA4 := Lib.hid (PO.out.above _ _ _ HP4)
          have PU := HPUT.out w4 _ HP4
          clear RC HPUT hb4 K3 g3 HP3 HO3 HP4
          by_cases hs0 : 0 < s
          · have hsi : (0 : Int) < s := by omega
            rw [decide_eq_true hs0, if_pos hs0] at PU
            go_wp2_with (with_reducible refine wpList_load_sub rfl _ _ rfl bl (off + i * 32) 32 rfl t cs fr _ g4 Try.underlying37 rfl infoFp E1a X E1b ?_)
            refine PU.mono ?_
            rintro e w5 ⟨rfl, ⟨Bs5, hP5, -⟩, hbb5⟩
            have K5 : Hid (Kept W w5) := hbb5.kept (fun k hk => (HA4.out k hk).1) K4 K4.size
            have LE := PO.out.len _ _ _ hP5
            have HP5 := Lib.hid hP5
            clear PU hP5 hbb5 K4 g4 HO4
            go_wp2_with fail
            refine LE.mono ?_
            rintro e w6 ⟨rfl, hb6⟩
            have K6 : Hid (Kept W w6) := K5.out.then hb6
            have HP6 : Hid (P [] Bs5 w6) := PO.out.stay _ _ _ _ HP5.out hb6.size (fun k hk => hb6.block k (PO.out.above _ _ _ HP5.out k hk).2)
            clear LE hb6
            go_wp2
            go_roundw
            case rel => exact ⟨i + 1, [], Bs5, by omega, by go_num, by simp, Lib.hid (segI_nil a b d), HP6, OwnFps.nil _ _, K6⟩
            case measure => simp [intOf]; omega
          · have hsi : ¬ (0 : Int) < s := by omega
            rw [decide_eq_false hs0, if_neg hs0] at PU
            have HZ1 : Hid (segI a b d L1 = 0) := Lib.hid (by rw [← HS.out]; omega)
            go_wp2_with (with_reducible refine wpList_load_sub rfl _ _ rfl bl (off + i * 32) 32 rfl t cs fr _ g4 Try.underlying37 rfl infoFp E1a X E1b ?_)
            refine PU.mono ?_
            rintro e w5 ⟨rfl, ⟨Bs5, hP5, -⟩, hbb5⟩
            have K5 : Hid (Kept W w5) := hbb5.kept (fun k hk => (HA4.out k hk).1) K4 K4.size
            have HO5 := Lib.hid (HO4.out.but hbb5 HT4.out)
            have LE := PO.out.len _ _ _ hP5
            rw [← HM1.out] at LE
            have HP5 := Lib.hid hP5
            clear PU hP5 hbb5 K4 g4 HO4
            go_wp2_with fail
            refine LE.mono ?_
            rintro e w6 ⟨rfl, hb6⟩
            have K6 : Hid (Kept W w6) := K5.out.then hb6
            have HO6 : Hid (OwnFps W.heap.size L1 (.slice p3 m1 c3) w6) := HO5.out.later hb6
            have HP6 : Hid (P L1 Bs5 w6) := PO.out.stay _ _ _ _ HP5.out hb6.size (fun k hk => hb6.block k (PO.out.above _ _ _ HP5.out k hk).2)
            clear LE hb6
            go_wp2
            go_roundw
            case rel => exact ⟨i + 1, L1, Bs5, by omega, by go_num, by rw [← HM1.out]; exact hml, HZ1, HP6, HO6, K6⟩
            case measure => simp [intOf]; omega
        · have bir : ((i : Int) == r) = false := beq_eq_false_iff_ne.2 hir
          clear hir
          have hkl : i < ls.length := by rw [← HN.out]; exact hlt
          have hFF : FpsAt 32 ls (.slice p ls.length c) W := by rw [← HN.out]; exact F0.out
          obtain ⟨bl, off, cs, t, fr, hp, hg, E1⟩ := hFF.elem hkl
          subst hp
          have HGL := Lib.hid hg
          have gw : wr.heap[bl]? = some (.cells cs t fr) := K.out.row hg
          have hx32 := hFF.1 _ (List.getElem_mem hkl)
          have HONE := Lib.hid (fun (V : World) => fps_one V ls[i] hx32 1)
          have HXS : Hid ((fpA ls[i]).size = 32) := by rw [fpA_size]; exact hx32
          have HPUT := Lib.hid (fun w' Bs' h => PO.out.put L Bs' w' ls[i] h HZ.out hx32)
          have HX32 := Lib.hid hx32
          have IX1 := fun w' => idx_at bl off n c i hlt w'
          obtain ⟨f, hf⟩ : ∃ f, f = ls[i] := ⟨_, rfl⟩
          rw [← hf] at E1 HONE HXS HPUT HX32
          obtain ⟨X, hX⟩ : ∃ X, X = fpA f := ⟨_, rfl⟩
          rw [← hX] at E1 HONE HXS HPUT
          clear hX hf hx32 hg hFF hkl
          obtain ⟨E1a, E1b⟩ := E1
          have hbase : W.heap.size ≤ wr.heap.size := K.out.size
          go_wp2_with (first
            | (with_reducible refine wpList_load_sub rfl _ _ rfl bl (off + i * 32) 32 rfl t cs fr _ gw Try.underlying37 rfl infoFp E1a X E1b ?_)
            | (with_reducible refine wpList_build1 rfl _ rfl X rfl HXS.out ?_)
            | (at_builtin; refine wpList_append_fps rfl _ _ 22 rfl W.heap.size 37 ti tz 32 Try.underlying22 hi hz hi1 hi2 hzs _ _ _ rfl (HO.out.2.alloc _) _ [f] rfl (HONE.out _) ?qc2 ?qc3 ?qc4 ?_))
          case qc2 => simp only [List.length_singleton]; unfold maxLen; omega
          case qc3 => simp only [List.length_singleton]; omega
          case qc4 => simp only [World.size_alloc]; omega
          intro v3 w3 hown hgrow
          have HO3 : OwnFps W.heap.size (L ++ [f]) v3 w3 := own_snoc HO.out.1 HX32.out hown
          have K3 : Kept W w3 := Below.grown (Below.alloc K.out hbase _) hgrow (by simp only [World.size_alloc]; omega) (fun k hk => (HO.out.lt k hk).1)
          have HP3 : P L Bs w3 := PO.out.stay _ _ _ _ HP.out (by have := hgrow.size; simp only [World.size_alloc] at this; omega) (fun k hk => by
            have h1 := (PO.out.above _ _ _ HP.out k hk).2
            rw [hgrow.block k (by simp only [World.size_alloc]; omega) (HO.out.apart (PO.out.typ _ _ _ HP.out) k hk), heap_alloc_old _ _ h1])
          obtain ⟨p3, c3, e3, -⟩ := id HO3.fps.2
          have HF3 := HO3.fps
          rw [e3] at HO3 HF3
          have hml : (L ++ [f]).length ≤ i + 1 := by rw [List.length_append, List.length_singleton]; omega
          obtain ⟨L1, hL1⟩ : ∃ l, l = L ++ [f] := ⟨_, rfl⟩
          rw [← hL1] at HO3 HF3 hml e3 HPUT
          subst e3
          have RC := RC0.out p3 c3 L1.length L1 rfl (by omega) w3 HF3
          obtain ⟨s, hs⟩ : ∃ s, s = segI a b d L1 := ⟨_, rfl⟩
          rw [← hs] at RC HPUT
          have HS := Lib.hid hs
          have HL1 := Lib.hid hL1
          obtain ⟨m1, hm1⟩ : ∃ m, m = L1.length := ⟨_, rfl⟩
          rw [← hm1] at RC hml HO3 ⊢
          have HM1 := Lib.hid hm1
          have HO3 := Lib.hid HO3
          have g3 := K3.row HG.out
          clear hs hL1 hm1 hown hgrow HONE gw HF3 HP HO
          go_wp2_with (with_reducible refine wpList_load_row rfl _ _ rfl w.heap.size rfl 24 C (0, 0) _ g3 Try.underlying24 rfl HCS.out ?_)
          refine RC.mono ?_
          rintro e w4 ⟨rfl, hb4⟩
          have K4 : Kept W w4 := K3.then hb4
          have HP4 : P L Bs w4 := PO.out.stay _ _ _ _ HP3 hb4.size (fun k hk => hb4.block k (PO.out.above _ _ _ HP3 k hk).2)
          have HO4 := Lib.hid (HO3.out.later hb4)
          have g4 : w4.heap[bl]? = some (.cells cs t fr) := K4.row HGL.out
          have HT4 := Lib.hid (PO.out.typ _ _ _ HP4)
          have HA4 := Lib.hid (PO.out.above _ _ _ HP4)
          have PU := HPUT.out w4 _ HP4
          clear RC HPUT hb4 K3 g3 HP3 HO3 HP4
          by_cases hs0 : 0 < s
          · have hsi : (0 : Int) < s := by omega
            rw [decide_eq_true hs0, if_pos hs0] at PU
            go_wp2_with (with_reducible refine wpList_load_sub rfl _ _ rfl bl (off + i * 32) 32 rfl t cs fr _ g4 Try.underlying37 rfl infoFp E1a X E1b ?_)
            refine PU.mono ?_
            rintro e w5 ⟨rfl, ⟨Bs5, hP5, -⟩, hbb5⟩
            have K5 : Hid (Kept W w5) := hbb5.kept (fun k hk => (HA4.out k hk).1) K4 K4.size
            have LE := PO.out.len _ _ _ hP5
            have HP5 := Lib.hid hP5
            clear PU hP5 hbb5 K4 g4 HO4
            go_wp2_with fail
            refine LE.mono ?_
            rintro e w6 ⟨rfl, hb6⟩
            have K6 : Hid (Kept W w6) := K5.out.then hb6
            have HP6 : Hid (P [] Bs5 w6) := PO.out.stay _ _ _ _ HP5.out hb6.size (fun k hk => hb6.block k (PO.out.above _ _ _ HP5.out k hk).2)
            clear LE hb6
            go_wp2
            go_roundw
            case rel => exact ⟨i + 1, [], Bs5, by omega, by go_num, by simp, Lib.hid (segI_nil a b d), HP6, OwnFps.nil _ _, K6⟩
            case measure => simp [intOf]; omega
          · have hsi : ¬ (0 : Int) < s := by omega
            rw [decide_eq_false hs0, if_neg hs0] at PU
            have HZ1 : Hid (segI a b d L1 = 0) := Lib.hid (by rw [← HS.out]; omega)
            go_wp2_with (with_reducible refine wpList_load_sub rfl _ _ rfl bl (off + i * 32) 32 rfl t cs fr _ g4 Try.underlying37 rfl infoFp E1a X E1b ?_)
            refine PU.mono ?_
            rintro e w5 ⟨rfl, ⟨Bs5, hP5, -⟩, hbb5⟩
            have K5 : Hid (Kept W w5) := hbb5.kept (fun k hk => (HA4.out k hk).1) K4 K4.size
            have HO5 := Lib.hid (HO4.out.but hbb5 HT4.out)
            have LE := PO.out.len _ _ _ hP5
            rw [← HM1.out] at LE
            have HP5 := Lib.hid hP5
            clear PU hP5 hbb5 K4 g4 HO4
            go_wp2_with fail
            refine LE.mono ?_
            rintro e w6 ⟨rfl, hb6⟩
            have K6 : Hid (Kept W w6) := K5.out.then hb6
            have HO6 : Hid (OwnFps W.heap.size L1 (.slice p3 m1 c3) w6) := HO5.out.later hb6
            have HP6 : Hid (P L1 Bs5 w6) := PO.out.stay _ _ _ _ HP5.out hb6.size (fun k hk => hb6.block k (PO.out.above _ _ _ HP5.out k hk).2)
            clear LE hb6
            go_wp2
            go_roundw
            case rel => exact ⟨i + 1, L1, Bs5, by omega, by go_num, by rw [← HM1.out]; exact hml, HZ1, HP6, HO6, K6⟩
            case measure => simp [intOf]; omega
      · have hti : ¬ (i : Int) < n := by omega
        go_wp2_with fail
        refine (AW _).mono ?_
        rintro e w3 ⟨rfl, hb3⟩
        go_wp2
        go_ret
        exact ⟨rfl, HK0.out.then (K.out.then hb3)⟩

end Go.Proofs.Ytlmccnelhpnneaa
