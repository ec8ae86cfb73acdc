/- The law SuperNewer out of the contracts. -/
import Derived.Test.YtlfmmhalheohdaaDoorGF
namespace Go.Proofs.YtlfmmhalheohdaaDoor
open Go.RowKit

theorem nextS_is (sq : Nat) (s1 s2 s3 s4 : Int) (sr : List (Int × Int)) (q1 : Nat) (h : sq ≤ 9223372036854775808) (hq : q1 = sq + 1) : nextS ⟨sq, s1, s2, s3, s4, sr⟩ = ⟨q1, s1, s2, s3, s4, sr⟩ := by
  unfold nextS
  simp only
  rw [show (sq + 1) % 2 ^ 64 = q1 by omega]

set_option maxRecDepth 100000 in
set_option maxHeartbeats 8000000 in
theorem superNewer_of (HC : YCheckOk) (HP : YPutOk) (HG : YGetOk) (HK : YPickOk) (HX : YNextOk) (HS : YSameOk) (HN : YNeedOk) (HL : YSlotOk) (s : Sb) (u : Value) (us : Int) (hus : I64 us) (t : ByteArray) (w : World) (hu : SbAt s u w) (hT : TabAt w) :
    Calls Tryd.prog 6 #[u, .int .i64 us, .string t] w (LawPost w) := by
  have HT := Lib.hid hT
  have AW := Lib.hid (fun W (h : TabAt W) => sawake_any HC HP HG HK HX HS HN HL W h)
  have HPH := Lib.hid HP
  have HKH := Lib.hid HK
  have HXH := Lib.hid HX
  have HLH := Lib.hid HL
  obtain ⟨tvs, rfl, hrs, hws⟩ := hu
  obtain ⟨ps, ns, cs, rfl⟩ := hrs.sliced
  have hb1 := BoxAt.new hrs hws
  obtain ⟨W1, hW1⟩ : ∃ W, W = w.alloc (.cells (sbC s (.slice ps ns cs)) 25) := ⟨_, rfl⟩
  rw [← hW1] at hb1
  have B3 := Lib.hid hb1.1
  have K := Lib.hid hb1.2
  have HWS := Lib.hid hws
  have HUS := Lib.hid hus
  obtain ⟨fs, hfs⟩ : ∃ x, x = decide (s.runs.length ≤ 30) := ⟨_, rfl⟩
  have HFS := Lib.hid hfs
  clear hT HC HP HG HK HX HS HN HL hrs hfs hb1 hus
  obtain ⟨sq, s1, s2, s3, s4, sr⟩ := s
  have hsq : sq < 2 ^ 64 := hws.seq
  have HW1 : Hid (W1 = w.alloc (.cells #[.int .u64 sq, .int .i64 s1, .int .i64 s2, .int .i64 s3, .int .i64 s4, .slice ps ns cs] 25)) := Lib.hid (by rw [hW1]; rfl)
  clear hws hW1
  unfold sbV sbC
  go_enter Tryd.func6, Tryd.ntmps6
  go_wp2_with fail
  rw [← HW1.out]
  refine (few11_any _ _ W1 B3.out.at_).mono ?_
  rintro e W2a ⟨rfl, hb⟩
  rw [← HFS.out]
  replace B3 := Lib.hid (B3.out.later hb)
  replace K := Lib.hid (K.out.then hb)
  clear hb HW1
  cases fs with
  | false =>
    go_wp2_with fail
    refine (AW.out W2a (HT.out.later K.out)).mono ?_
    rintro e W99 ⟨rfl, hb⟩
    replace K := Lib.hid (K.out.then hb)
    clear hb
    go_wp2
    go_ret
    exact ⟨rfl, K.out⟩
  | true =>
    by_cases z1 : (t.size : Int) > 1000
    · go_wp2_with fail
      refine (AW.out W2a (HT.out.later K.out)).mono ?_
      rintro e W99 ⟨rfl, hb⟩
      replace K := Lib.hid (K.out.then hb)
      clear hb
      go_wp2
      go_ret
      exact ⟨rfl, K.out⟩

    have c0 : W2a.cell? ⟨w.heap.size, 0, none⟩ = some (.int .u64 sq) := by rw [B3.out.cell]; rfl
    have c1 : W2a.cell? ⟨w.heap.size, 1, none⟩ = some (.int .i64 s1) := by rw [B3.out.cell]; rfl
    have c2 : W2a.cell? ⟨w.heap.size, 2, none⟩ = some (.int .i64 s2) := by rw [B3.out.cell]; rfl
    have c3 : W2a.cell? ⟨w.heap.size, 3, none⟩ = some (.int .i64 s3) := by rw [B3.out.cell]; rfl
    have c4 : W2a.cell? ⟨w.heap.size, 4, none⟩ = some (.int .i64 s4) := by rw [B3.out.cell]; rfl
    have c5 : W2a.cell? ⟨w.heap.size, 5, none⟩ = some (.slice ps ns cs) := by rw [B3.out.cell]; rfl
    by_cases z2 : (sq : Int) > 9223372036854775808
    · go_wp2_with fail
      refine (AW.out W2a (HT.out.later K.out)).mono ?_
      rintro e W99 ⟨rfl, hb⟩
      replace K := Lib.hid (K.out.then hb)
      clear hb
      go_wp2
      go_ret
      exact ⟨rfl, K.out⟩

    have hls : sr.length ≤ 30 := of_decide_eq_true HFS.out.symm
    have HLS : Hid (sr.length ≤ 65536) := Lib.hid (by omega)
    have HLS2 : Hid (sr.length ≤ 1048576) := Lib.hid (by omega)
    obtain ⟨q1, hq1⟩ : ∃ q1, q1 = sq + 1 := ⟨_, rfl⟩
    have HQ1 := Lib.hid hq1
    have hq64 : q1 < 2 ^ 64 := by omega
    have HNX : Hid (nextS ⟨sq, s1, s2, s3, s4, sr⟩ = ⟨q1, s1, s2, s3, s4, sr⟩) := Lib.hid (nextS_is sq s1 s2 s3 s4 sr q1 (by omega) hq1)
    have v1 : IntKind.u64.wrap ((sq : Int) + 1) = (q1 : Int) := by rw [show (sq : Int) + 1 = (q1 : Int) by omega]; exact IntWalk.u64_in _ (by omega)
    have HQS : Hid (sq < 2 ^ 64 ∧ q1 < 2 ^ 64 ∧ ¬ (sq : Int) > 9223372036854775808) := Lib.hid ⟨hsq, hq64, z2⟩
    clear hls hq1 hsq hq64
    go_wp2_with fail
    refine (HXH.out ⟨sq, s1, s2, s3, s4, sr⟩ _ W2a B3.out.at_ HLS.out).mono ?_
    rintro e W2 ⟨⟨v2, rfl, h2⟩, hb⟩
    rw [HNX.out] at h2
    obtain ⟨tvt, rfl, hrt, hwt⟩ := h2
    obtain ⟨pt, nt, ct, rfl⟩ := hrt.sliced
    replace B3 := Lib.hid (B3.out.later hb)
    replace K := Lib.hid (K.out.then hb)
    clear hb c0 c1 c2 c3 c4 c5
    have HRT := Lib.hid hrt
    have HWT := Lib.hid hwt
    have hb7 := BoxAt.new hrt hwt
    obtain ⟨W3, hW3⟩ : ∃ W, W = W2.alloc (.cells #[.int .u64 q1, .int .i64 s1, .int .i64 s2, .int .i64 s3, .int .i64 s4, .slice pt nt ct] 25) := ⟨_, rfl⟩
    obtain ⟨b7, h7⟩ : ∃ b, b = W2.heap.size := ⟨_, rfl⟩
    have k23 : Kept W2 W3 := by rw [hW3]; exact hb7.2
    have b73 : BoxAt ⟨q1, s1, s2, s3, s4, sr⟩ b7 (.slice pt nt ct) W3 := by rw [hW3, h7]; exact hb7.1
    have b33 := B3.out.later k23
    have hb8 := BoxAt.new (s := ⟨q1, s1, s2, s3, s4, sr⟩) b33.runs hwt
    obtain ⟨W5, hW5⟩ : ∃ W, W = W3.alloc (.cells #[.int .u64 q1, .int .i64 s1, .int .i64 s2, .int .i64 s3, .int .i64 s4, .slice ps ns cs] 25) := ⟨_, rfl⟩
    obtain ⟨b8, h8⟩ : ∃ b, b = W3.heap.size := ⟨_, rfl⟩
    have k35 : Kept W3 W5 := by rw [hW5]; exact hb8.2
    have b85 : BoxAt ⟨q1, s1, s2, s3, s4, sr⟩ b8 (.slice ps ns cs) W5 := by rw [hW5, h8]; exact hb8.1
    have B35 := Lib.hid (b33.later k35)
    have B7 := Lib.hid (b73.later k35)
    have B8 := Lib.hid b85
    have K25 : Hid (Kept W2 W5) := Lib.hid (k23.then k35)
    have HB7 : Hid (b7 = W2.heap.size ∧ b8 = b7 + 1) := Lib.hid ⟨h7, by rw [h8, hW3, h7]; simp⟩
    have HW5 : Hid (W5 = (W2.alloc (.cells #[.int .u64 q1, .int .i64 s1, .int .i64 s2, .int .i64 s3, .int .i64 s4, .slice pt nt ct] 25)).alloc (.cells #[.int .u64 q1, .int .i64 s1, .int .i64 s2, .int .i64 s3, .int .i64 s4, .slice ps ns cs] 25)) := Lib.hid (by rw [hW5, hW3])
    have e0 : (W3.alloc (.cells #[.int .u64 sq, .int .i64 s1, .int .i64 s2, .int .i64 s3, .int .i64 s4, .slice ps ns cs] 25)).cell? ⟨w.heap.size, 0, none⟩ = some (.int .u64 sq) := by rw [(b33.later (box_below W3 _)).cell]; rfl
    have c0 : W2.cell? ⟨w.heap.size, 0, none⟩ = some (.int .u64 sq) := by rw [B3.out.cell]; rfl
    have c1 : W2.cell? ⟨w.heap.size, 1, none⟩ = some (.int .i64 s1) := by rw [B3.out.cell]; rfl
    have c2 : W2.cell? ⟨w.heap.size, 2, none⟩ = some (.int .i64 s2) := by rw [B3.out.cell]; rfl
    have c3 : W2.cell? ⟨w.heap.size, 3, none⟩ = some (.int .i64 s3) := by rw [B3.out.cell]; rfl
    have c4 : W2.cell? ⟨w.heap.size, 4, none⟩ = some (.int .i64 s4) := by rw [B3.out.cell]; rfl
    have c5 : W2.cell? ⟨w.heap.size, 5, none⟩ = some (.slice ps ns cs) := by rw [B3.out.cell]; rfl
    have d0 : W3.cell? ⟨w.heap.size, 0, none⟩ = some (.int .u64 sq) := by rw [b33.cell]; rfl
    have d1 : W3.cell? ⟨w.heap.size, 1, none⟩ = some (.int .i64 s1) := by rw [b33.cell]; rfl
    have d2 : W3.cell? ⟨w.heap.size, 2, none⟩ = some (.int .i64 s2) := by rw [b33.cell]; rfl
    have d3 : W3.cell? ⟨w.heap.size, 3, none⟩ = some (.int .i64 s3) := by rw [b33.cell]; rfl
    have d4 : W3.cell? ⟨w.heap.size, 4, none⟩ = some (.int .i64 s4) := by rw [b33.cell]; rfl
    have d5 : W3.cell? ⟨w.heap.size, 5, none⟩ = some (.slice ps ns cs) := by rw [b33.cell]; rfl
    have f0 : W5.cell? ⟨b7, 0, none⟩ = some (.int .u64 q1) := by rw [B7.out.cell]; rfl
    have f1 : W5.cell? ⟨b7, 1, none⟩ = some (.int .i64 s1) := by rw [B7.out.cell]; rfl
    have f2 : W5.cell? ⟨b7, 2, none⟩ = some (.int .i64 s2) := by rw [B7.out.cell]; rfl
    have f3 : W5.cell? ⟨b7, 3, none⟩ = some (.int .i64 s3) := by rw [B7.out.cell]; rfl
    have f4 : W5.cell? ⟨b7, 4, none⟩ = some (.int .i64 s4) := by rw [B7.out.cell]; rfl
    have f5 : W5.cell? ⟨b7, 5, none⟩ = some (.slice pt nt ct) := by rw [B7.out.cell]; rfl
    have g0 : W5.cell? ⟨b8, 0, none⟩ = some (.int .u64 q1) := by rw [B8.out.cell]; rfl
    have g1 : W5.cell? ⟨b8, 1, none⟩ = some (.int .i64 s1) := by rw [B8.out.cell]; rfl
    have g2 : W5.cell? ⟨b8, 2, none⟩ = some (.int .i64 s2) := by rw [B8.out.cell]; rfl
    have g3 : W5.cell? ⟨b8, 3, none⟩ = some (.int .i64 s3) := by rw [B8.out.cell]; rfl
    have g4 : W5.cell? ⟨b8, 4, none⟩ = some (.int .i64 s4) := by rw [B8.out.cell]; rfl
    have g5 : W5.cell? ⟨b8, 5, none⟩ = some (.slice ps ns cs) := by rw [B8.out.cell]; rfl
    rw [hW3] at d0 d1 d2 d3 d4 d5 e0
    rw [HW5.out] at f0 f1 f2 f3 f4 f5 g0 g1 g2 g3 g4 g5
    rw [HB7.out.1] at f0 f1 f2 f3 f4 f5
    rw [HB7.out.2, HB7.out.1] at g0 g1 g2 g3 g4 g5
    clear hrt hwt hb7 hW3 h7 k23 b73 b33 hb8 h8 k35 b85 hW5
    unfold sbV sbC
    go_wp2_with fail
    rw [← HW5.out]
    refine (rsame11_any ⟨q1, s1, s2, s3, s4, sr⟩ ⟨q1, s1, s2, s3, s4, sr⟩ _ _ W5 B7.out.at_ B8.out.at_ HLS2.out).mono ?_
    rw [decide_eq_true rfl]
    rintro e W6 ⟨rfl, hb⟩
    have hk6 : Kept W5 W6 := hb
    have K26 : Hid (Kept W2 W6) := Lib.hid (K25.out.then hb)
    have b76 := B7.out.later hk6
    have K27 : Kept W2 (W6.setCell ⟨b7, 3, none⟩ (.int .i64 us)) := below_touch K26.out (grown_set _ _ _ _) K26.out.size (by rw [HB7.out.1]; exact Nat.le_refl _)
    have hwt' : Sb.wf ⟨q1, s1, s2, us, s4, sr⟩ := ⟨HWT.out.seq, HWT.out.sec, HWT.out.jou, HUS.out, HWT.out.siz⟩
    have b77 : BoxAt ⟨q1, s1, s2, us, s4, sr⟩ b7 (.slice pt nt ct) (W6.setCell ⟨b7, 3, none⟩ (.int .i64 us)) := ⟨heap_setCell_same _ _ _ _ _ _ b76.row, HRT.out.later K27, hwt'⟩
    have b37 := B3.out.later K27
    have x3 : W6.cell? ⟨b7, 3, none⟩ = some (.int .i64 s3) := by rw [b76.cell]; rfl
    have y3 : W6.frozen? ⟨b7, 3, none⟩ = false := frozen_of_row _ _ _ _ _ b76.row
    obtain ⟨W7, hW7⟩ : ∃ W, W = W6.setCell ⟨b7, 3, none⟩ (.int .i64 us) := ⟨_, rfl⟩
    rw [← hW7] at K27 b77 b37
    replace B7 := Lib.hid b77
    replace B3 := Lib.hid b37
    replace K := Lib.hid ((show Kept w W2 from K.out).then K27)
    have HWT' := Lib.hid hwt'
    have HW7 := Lib.hid hW7
    clear hb hk6 b76 K27 b77 b37 hwt' f0 f1 f2 f3 f4 f5 g0 g1 g2 g3 g4 g5 d0 d1 d2 d3 d4 d5 e0 c0 c1 c2 c3 c4 c5 B8 B35 K25 K26 HRT HWT HW5
    have c0 : W7.cell? ⟨w.heap.size, 0, none⟩ = some (.int .u64 sq) := by rw [B3.out.cell]; rfl
    have c1 : W7.cell? ⟨w.heap.size, 1, none⟩ = some (.int .i64 s1) := by rw [B3.out.cell]; rfl
    have c2 : W7.cell? ⟨w.heap.size, 2, none⟩ = some (.int .i64 s2) := by rw [B3.out.cell]; rfl
    have c3 : W7.cell? ⟨w.heap.size, 3, none⟩ = some (.int .i64 s3) := by rw [B3.out.cell]; rfl
    have c4 : W7.cell? ⟨w.heap.size, 4, none⟩ = some (.int .i64 s4) := by rw [B3.out.cell]; rfl
    have c5 : W7.cell? ⟨w.heap.size, 5, none⟩ = some (.slice ps ns cs) := by rw [B3.out.cell]; rfl
    rw [HW7.out] at c0 c1 c2 c3 c4 c5
    rw [HB7.out.1] at x3 y3 c0 c1 c2 c3 c4 c5
    have hw7 := HW7.out
    rw [HB7.out.1] at hw7
    replace HW7 := Lib.hid hw7
    clear hw7 hW7
    obtain ⟨ms, hms⟩ : ∃ x, x = mayS ⟨sq, s1, s2, s3, s4, sr⟩ := ⟨_, rfl⟩
    obtain ⟨mt, hmt⟩ : ∃ x, x = mayS ⟨q1, s1, s2, us, s4, sr⟩ := ⟨_, rfl⟩
    have HMS := Lib.hid hms
    have HMT := Lib.hid hmt
    clear hms hmt
    go_wp2_with fail
    rw [← HW7.out]
    refine (rmay11_any ⟨sq, s1, s2, s3, s4, sr⟩ _ W7 B3.out.at_ HLS2.out).mono ?_
    rintro e W8 ⟨rfl, hb⟩
    rw [← HMS.out]
    replace B3 := Lib.hid (B3.out.later hb)
    replace B7 := Lib.hid (B7.out.later hb)
    replace K := Lib.hid (K.out.then hb)
    clear hb
    clear c0 c1 c2 c3 c4 c5 x3 y3
    cases ms with
    | false =>
      go_wp2_with fail
      refine (AW.out W8 (HT.out.later K.out)).mono ?_
      rintro e W99 ⟨rfl, hb⟩
      replace K := Lib.hid (K.out.then hb)
      clear hb
      go_wp2
      go_ret
      exact ⟨rfl, K.out⟩
    | true =>
      have c0 : W8.cell? ⟨b7, 0, none⟩ = some (.int .u64 q1) := by rw [B7.out.cell]; rfl
      have c1 : W8.cell? ⟨b7, 1, none⟩ = some (.int .i64 s1) := by rw [B7.out.cell]; rfl
      have c2 : W8.cell? ⟨b7, 2, none⟩ = some (.int .i64 s2) := by rw [B7.out.cell]; rfl
      have c3 : W8.cell? ⟨b7, 3, none⟩ = some (.int .i64 us) := by rw [B7.out.cell]; rfl
      have c4 : W8.cell? ⟨b7, 4, none⟩ = some (.int .i64 s4) := by rw [B7.out.cell]; rfl
      have c5 : W8.cell? ⟨b7, 5, none⟩ = some (.slice pt nt ct) := by rw [B7.out.cell]; rfl
      rw [HB7.out.1] at c0 c1 c2 c3 c4 c5
      go_wp2_with fail
      refine (rmay11_any ⟨q1, s1, s2, us, s4, sr⟩ _ W8 B7.out.at_ HLS2.out).mono ?_
      rintro e W9 ⟨rfl, hb⟩
      rw [← HMT.out]
      replace B3 := Lib.hid (B3.out.later hb)
      replace B7 := Lib.hid (B7.out.later hb)
      replace K := Lib.hid (K.out.then hb)
      clear hb
      clear c0 c1 c2 c3 c4 c5
      cases mt with
      | false =>
        go_wp2_with fail
        refine (AW.out W9 (HT.out.later K.out)).mono ?_
        rintro e W99 ⟨rfl, hb⟩
        replace K := Lib.hid (K.out.then hb)
        clear hb
        go_wp2
        go_ret
        exact ⟨rfl, K.out⟩
      | true =>
        have ms := of_decide_eq_true HMS.out.symm
        have mt := of_decide_eq_true HMT.out.symm
        have e1 : putV ⟨sq, s1, s2, s3, s4, sr⟩ = str (putS ⟨sq, s1, s2, s3, s4, sr⟩) := by unfold putV; rw [← HMS.out]; rfl
        have e2 : putV ⟨q1, s1, s2, us, s4, sr⟩ = str (putS ⟨q1, s1, s2, us, s4, sr⟩) := by unfold putV; rw [← HMT.out]; rfl
        have e3 : chkE ⟨sq, s1, s2, s3, s4, sr⟩ = 0 := by unfold chkE; rw [← HMS.out]; rfl
        have e4 : chkE ⟨q1, s1, s2, us, s4, sr⟩ = 0 := by unfold chkE; rw [← HMT.out]; rfl
        have C1 := HPH.out ⟨sq, s1, s2, s3, s4, sr⟩ _ W9 B3.out.at_ HLS.out (HT.out.later K.out)
        rw [e1, e3] at C1
        have C2 : ∀ W, Kept W9 W → Calls Tryd.prog 10 #[.agg #[.int .u64 q1, .int .i64 s1, .int .i64 s2, .int .i64 us, .int .i64 s4, .slice pt nt ct]] W fun e w' => e = .returned (.tuple #[.string (str (putS ⟨q1, s1, s2, us, s4, sr⟩)), .int .i64 0]) ∧ Kept W w' := fun W k => by
          have h := HPH.out ⟨q1, s1, s2, us, s4, sr⟩ _ W (B7.out.later k).at_ HLS.out (HT.out.later ((show Kept w W9 from K.out).then k))
          rw [e2, e4] at h
          exact h
        obtain ⟨X, hX⟩ : ∃ X, X = str (putS ⟨sq, s1, s2, s3, s4, sr⟩) := ⟨_, rfl⟩
        obtain ⟨Y, hY⟩ : ∃ Y, Y = str (putS ⟨q1, s1, s2, us, s4, sr⟩) := ⟨_, rfl⟩
        rw [← hX] at C1
        rw [← hY] at C2
        have zX : X.size = 128 := by rw [hX, str_size]; exact putS_len _ ms.len
        have zY : Y.size = 128 := by rw [hY, str_size]; exact putS_len _ mt.len
        have HXL : Hid (X.data.toList = putS ⟨sq, s1, s2, s3, s4, sr⟩) := Lib.hid (by rw [hX, str_list])
        have HYL : Hid (Y.data.toList = putS ⟨q1, s1, s2, us, s4, sr⟩) := Lib.hid (by rw [hY, str_list])
        have HM := Lib.hid (And.intro ms mt)
        have HZ := Lib.hid (And.intro zX zY)
        have HC2 := Lib.hid C2
        clear ms mt e1 e2 e3 e4 hX hY C2 zX zY
        have c0 : W9.cell? ⟨w.heap.size, 0, none⟩ = some (.int .u64 sq) := by rw [B3.out.cell]; rfl
        have c1 : W9.cell? ⟨w.heap.size, 1, none⟩ = some (.int .i64 s1) := by rw [B3.out.cell]; rfl
        have c2 : W9.cell? ⟨w.heap.size, 2, none⟩ = some (.int .i64 s2) := by rw [B3.out.cell]; rfl
        have c3 : W9.cell? ⟨w.heap.size, 3, none⟩ = some (.int .i64 s3) := by rw [B3.out.cell]; rfl
        have c4 : W9.cell? ⟨w.heap.size, 4, none⟩ = some (.int .i64 s4) := by rw [B3.out.cell]; rfl
        have c5 : W9.cell? ⟨w.heap.size, 5, none⟩ = some (.slice ps ns cs) := by rw [B3.out.cell]; rfl
        go_wp2_with fail
        refine C1.mono ?_
        rintro e WA ⟨rfl, hb⟩
        have C2 := HC2.out WA hb
        replace B3 := Lib.hid (B3.out.later hb)
        replace B7 := Lib.hid (B7.out.later hb)
        replace K := Lib.hid (K.out.then hb)
        clear hb
        clear c0 c1 c2 c3 c4 c5 C1 HC2
        have c0 : WA.cell? ⟨b7, 0, none⟩ = some (.int .u64 q1) := by rw [B7.out.cell]; rfl
        have c1 : WA.cell? ⟨b7, 1, none⟩ = some (.int .i64 s1) := by rw [B7.out.cell]; rfl
        have c2 : WA.cell? ⟨b7, 2, none⟩ = some (.int .i64 s2) := by rw [B7.out.cell]; rfl
        have c3 : WA.cell? ⟨b7, 3, none⟩ = some (.int .i64 us) := by rw [B7.out.cell]; rfl
        have c4 : WA.cell? ⟨b7, 4, none⟩ = some (.int .i64 s4) := by rw [B7.out.cell]; rfl
        have c5 : WA.cell? ⟨b7, 5, none⟩ = some (.slice pt nt ct) := by rw [B7.out.cell]; rfl
        rw [HB7.out.1] at c0 c1 c2 c3 c4 c5
        go_wp2_with fail
        refine C2.mono ?_
        rintro e WB ⟨rfl, hb⟩
        replace B3 := Lib.hid (B3.out.later hb)
        replace B7 := Lib.hid (B7.out.later hb)
        replace K := Lib.hid (K.out.then hb)
        clear hb
        clear c0 c1 c2 c3 c4 c5 C2
        go_wp2_with fail
        refine (rget11_any t WB).mono ?_
        rintro e WC ⟨⟨v9, rfl, h9⟩, hb⟩
        obtain ⟨D, hD⟩ : ∃ D, D = getD t.data.toList := ⟨_, rfl⟩
        rw [← hD] at h9
        clear hD
        obtain ⟨dq, d1, d2, d3, d4, dr⟩ := D
        obtain ⟨tv9, rfl, hr9, -, -⟩ := h9
        obtain ⟨p9, n9, cp9, rfl⟩ := hr9.sliced
        obtain ⟨is, his⟩ : ∃ x, x = (getS t.data.toList).isSome := ⟨_, rfl⟩
        rw [← his]
        have HIS := Lib.hid his
        have kd : Kept WC (WC.alloc (.cells #[.int .u64 dq, .int .i64 d1, .int .i64 d2, .int .i64 d3, .int .i64 d4, .slice p9 n9 cp9] 25)) := box_below _ _
        obtain ⟨WD, hWD⟩ : ∃ W, W = WC.alloc (.cells #[.int .u64 dq, .int .i64 d1, .int .i64 d2, .int .i64 d3, .int .i64 d4, .slice p9 n9 cp9] 25) := ⟨_, rfl⟩
        rw [← hWD] at kd
        have HWD := Lib.hid hWD
        replace B3 := Lib.hid ((B3.out.later hb).later kd)
        replace B7 := Lib.hid ((B7.out.later hb).later kd)
        replace K := Lib.hid ((K.out.then hb).then kd)
        clear hb hr9 his hWD kd
        unfold sbV sbC
        cases is with
        | true =>
          have HNS : Hid (getS (⟨#[]⟩ : ByteArray).data.toList = none) := Lib.hid (by
            unfold getS; rw [if_neg (fun z => absurd z.1 (by decide))])
          have hsz : (⟨#[]⟩ : ByteArray).size ≤ 1000 := by decide
          have HSZ := Lib.hid hsz
          have hpar : sq % 2 = 0 ∨ sq % 2 = 1 := by omega
          clear hsz
          rcases hpar with hp | hp
          · have C1 := HLH.out sq WD HQS.out.1
            rw [hp] at C1
            have hpn := pick_newer HM.out.1 HWS.out HM.out.2 HWT'.out HQ1.out
            have hpa := pick_alone (t := (⟨#[]⟩ : ByteArray).data.toList) HM.out.1 HWS.out HNS.out
            simp only [hp] at hpn hpa
            simp only [show ¬ (0 : Nat) = 1 from by decide, if_false] at hpn hpa
            rw [← HXL.out, ← HYL.out] at hpn
            rw [← HXL.out] at hpa
            have hn1 : pickE X.data.toList Y.data.toList = 0 ∧ pickD X.data.toList Y.data.toList = ⟨q1, s1, s2, us, s4, sr⟩ := by unfold pickE pickD; rw [hpn]; exact ⟨rfl, rfl⟩
            have ha1 : pickE (X : ByteArray).data.toList (⟨#[]⟩ : ByteArray).data.toList = 0 ∧ pickD (X : ByteArray).data.toList (⟨#[]⟩ : ByteArray).data.toList = ⟨sq, s1, s2, s3, s4, sr⟩ := by unfold pickE pickD; rw [hpa]; exact ⟨rfl, rfl⟩
            have HN1 := Lib.hid hn1
            have HA1 := Lib.hid ha1
            clear hpn hpa hn1 ha1
            have c0 : WD.cell? ⟨w.heap.size, 0, none⟩ = some (.int .u64 sq) := by rw [B3.out.cell]; rfl
            rw [HWD.out] at c0
            go_wp2_with fail
            rw [← HWD.out]
            refine C1.mono ?_
            rintro e WE ⟨rfl, hb⟩
            replace B3 := Lib.hid (B3.out.later hb)
            replace B7 := Lib.hid (B7.out.later hb)
            replace K := Lib.hid (K.out.then hb)
            clear hb
            clear C1 c0
            go_wp2_with fail
            refine (HKH.out X Y WE (by have := HZ.out; omega) (by have := HZ.out; omega) (HT.out.later K.out)).mono ?_
            rintro e WF ⟨⟨v5, rfl, h5⟩, hb⟩
            rw [HN1.out.1]
            rw [HN1.out.2] at h5
            obtain ⟨tv5, rfl, hr5, hw5⟩ := h5
            obtain ⟨p5, n5, cp5, rfl⟩ := hr5.sliced
            have hb2 := BoxAt.new hr5 hw5
            obtain ⟨WG, hWG⟩ : ∃ W, W = WF.alloc (.cells #[.int .u64 q1, .int .i64 s1, .int .i64 s2, .int .i64 us, .int .i64 s4, .slice p5 n5 cp5] 25) := ⟨_, rfl⟩
            obtain ⟨b19, h19⟩ : ∃ b, b = WF.heap.size := ⟨_, rfl⟩
            have B19 : Hid (BoxAt ⟨q1, s1, s2, us, s4, sr⟩ b19 (.slice p5 n5 cp5) WG) := Lib.hid (by rw [hWG, h19]; exact hb2.1)
            have hb3 : Kept WF WG := by rw [hWG]; exact hb2.2
            replace B3 := Lib.hid ((B3.out.later hb).later hb3)
            replace B7 := Lib.hid ((B7.out.later hb).later hb3)
            replace K := Lib.hid ((K.out.then hb).then hb3)
            have HWG := Lib.hid hWG
            have H19 := Lib.hid h19
            clear hb hb2 hb3 hr5 hw5 hWG h19 HN1
            unfold sbV sbC
            go_wp2_with fail
            rw [← H19.out]
            rw [← HWG.out]
            refine (HKH.out X ⟨#[]⟩ WG (by have := HZ.out; have := HSZ.out; omega) (by have := HZ.out; have := HSZ.out; omega) (HT.out.later K.out)).mono ?_
            rintro e WH ⟨⟨v6, rfl, h6⟩, hb⟩
            rw [HA1.out.1]
            rw [HA1.out.2] at h6
            obtain ⟨tv6, rfl, hr6, hw6⟩ := h6
            obtain ⟨p6, n6, cp6, rfl⟩ := hr6.sliced
            have hb2 := BoxAt.new hr6 hw6
            obtain ⟨WI, hWI⟩ : ∃ W, W = WH.alloc (.cells #[.int .u64 sq, .int .i64 s1, .int .i64 s2, .int .i64 s3, .int .i64 s4, .slice p6 n6 cp6] 25) := ⟨_, rfl⟩
            obtain ⟨b21, h21⟩ : ∃ b, b = WH.heap.size := ⟨_, rfl⟩
            have B21 : Hid (BoxAt ⟨sq, s1, s2, s3, s4, sr⟩ b21 (.slice p6 n6 cp6) WI) := Lib.hid (by rw [hWI, h21]; exact hb2.1)
            have hb3 : Kept WH WI := by rw [hWI]; exact hb2.2
            replace B3 := Lib.hid ((B3.out.later hb).later hb3)
            replace B7 := Lib.hid ((B7.out.later hb).later hb3)
            replace B19 := Lib.hid ((B19.out.later hb).later hb3)
            replace K := Lib.hid ((K.out.then hb).then hb3)
            have HWI := Lib.hid hWI
            have H21 := Lib.hid h21
            have c0 : WI.cell? ⟨b19, 0, none⟩ = some (.int .u64 q1) := by rw [B19.out.cell]; rfl
            have c1 : WI.cell? ⟨b19, 1, none⟩ = some (.int .i64 s1) := by rw [B19.out.cell]; rfl
            have c2 : WI.cell? ⟨b19, 2, none⟩ = some (.int .i64 s2) := by rw [B19.out.cell]; rfl
            have c3 : WI.cell? ⟨b19, 3, none⟩ = some (.int .i64 us) := by rw [B19.out.cell]; rfl
            have c4 : WI.cell? ⟨b19, 4, none⟩ = some (.int .i64 s4) := by rw [B19.out.cell]; rfl
            have c5 : WI.cell? ⟨b19, 5, none⟩ = some (.slice p5 n5 cp5) := by rw [B19.out.cell]; rfl
            have e0 : WI.cell? ⟨b7, 0, none⟩ = some (.int .u64 q1) := by rw [B7.out.cell]; rfl
            have e1 : WI.cell? ⟨b7, 1, none⟩ = some (.int .i64 s1) := by rw [B7.out.cell]; rfl
            have e2 : WI.cell? ⟨b7, 2, none⟩ = some (.int .i64 s2) := by rw [B7.out.cell]; rfl
            have e3 : WI.cell? ⟨b7, 3, none⟩ = some (.int .i64 us) := by rw [B7.out.cell]; rfl
            have e4 : WI.cell? ⟨b7, 4, none⟩ = some (.int .i64 s4) := by rw [B7.out.cell]; rfl
            have e5 : WI.cell? ⟨b7, 5, none⟩ = some (.slice pt nt ct) := by rw [B7.out.cell]; rfl
            rw [HB7.out.1] at e0 e1 e2 e3 e4 e5
            rw [HWI.out] at c0 c1 c2 c3 c4 c5 e0 e1 e2 e3 e4 e5
            clear hb hb2 hb3 hr6 hw6 hWI h21 HA1
            unfold sbV sbC
            go_wp2_with fail
            rw [← H21.out]
            rw [← HWI.out]
            refine (rsame11_any ⟨q1, s1, s2, us, s4, sr⟩ ⟨q1, s1, s2, us, s4, sr⟩ _ _ WI B19.out.at_ B7.out.at_ HLS2.out).mono ?_
            rw [decide_eq_true rfl]
            rintro e WJ ⟨rfl, hb⟩
            replace B3 := Lib.hid (B3.out.later hb)
            replace B21 := Lib.hid (B21.out.later hb)
            replace K := Lib.hid (K.out.then hb)
            clear hb
            clear c0 c1 c2 c3 c4 c5 e0 e1 e2 e3 e4 e5
            have c0 : WJ.cell? ⟨b21, 0, none⟩ = some (.int .u64 sq) := by rw [B21.out.cell]; rfl
            have c1 : WJ.cell? ⟨b21, 1, none⟩ = some (.int .i64 s1) := by rw [B21.out.cell]; rfl
            have c2 : WJ.cell? ⟨b21, 2, none⟩ = some (.int .i64 s2) := by rw [B21.out.cell]; rfl
            have c3 : WJ.cell? ⟨b21, 3, none⟩ = some (.int .i64 s3) := by rw [B21.out.cell]; rfl
            have c4 : WJ.cell? ⟨b21, 4, none⟩ = some (.int .i64 s4) := by rw [B21.out.cell]; rfl
            have c5 : WJ.cell? ⟨b21, 5, none⟩ = some (.slice p6 n6 cp6) := by rw [B21.out.cell]; rfl
            have e0 : WJ.cell? ⟨w.heap.size, 0, none⟩ = some (.int .u64 sq) := by rw [B3.out.cell]; rfl
            have e1 : WJ.cell? ⟨w.heap.size, 1, none⟩ = some (.int .i64 s1) := by rw [B3.out.cell]; rfl
            have e2 : WJ.cell? ⟨w.heap.size, 2, none⟩ = some (.int .i64 s2) := by rw [B3.out.cell]; rfl
            have e3 : WJ.cell? ⟨w.heap.size, 3, none⟩ = some (.int .i64 s3) := by rw [B3.out.cell]; rfl
            have e4 : WJ.cell? ⟨w.heap.size, 4, none⟩ = some (.int .i64 s4) := by rw [B3.out.cell]; rfl
            have e5 : WJ.cell? ⟨w.heap.size, 5, none⟩ = some (.slice ps ns cs) := by rw [B3.out.cell]; rfl
            go_wp2_with fail
            refine (rsame11_any ⟨sq, s1, s2, s3, s4, sr⟩ ⟨sq, s1, s2, s3, s4, sr⟩ _ _ WJ B21.out.at_ B3.out.at_ HLS2.out).mono ?_
            rw [decide_eq_true rfl]
            rintro e WK ⟨rfl, hb⟩
            replace K := Lib.hid (K.out.then hb)
            clear hb
            clear c0 c1 c2 c3 c4 c5 e0 e1 e2 e3 e4 e5
            go_wp2_with fail
            refine (AW.out WK (HT.out.later K.out)).mono ?_
            rintro e W99 ⟨rfl, hb⟩
            replace K := Lib.hid (K.out.then hb)
            clear hb
            go_wp2
            go_ret
            exact ⟨rfl, K.out⟩

          · have C1 := HLH.out sq WD HQS.out.1
            rw [hp] at C1
            have hpn := pick_newer HM.out.1 HWS.out HM.out.2 HWT'.out HQ1.out
            have hpa := pick_alone (t := (⟨#[]⟩ : ByteArray).data.toList) HM.out.1 HWS.out HNS.out
            simp only [hp] at hpn hpa
            simp only [if_true] at hpn hpa
            rw [← HXL.out, ← HYL.out] at hpn
            rw [← HXL.out] at hpa
            have hn1 : pickE Y.data.toList X.data.toList = 0 ∧ pickD Y.data.toList X.data.toList = ⟨q1, s1, s2, us, s4, sr⟩ := by unfold pickE pickD; rw [hpn]; exact ⟨rfl, rfl⟩
            have ha1 : pickE (⟨#[]⟩ : ByteArray).data.toList (X : ByteArray).data.toList = 0 ∧ pickD (⟨#[]⟩ : ByteArray).data.toList (X : ByteArray).data.toList = ⟨sq, s1, s2, s3, s4, sr⟩ := by unfold pickE pickD; rw [hpa]; exact ⟨rfl, rfl⟩
            have HN1 := Lib.hid hn1
            have HA1 := Lib.hid ha1
            clear hpn hpa hn1 ha1
            have c0 : WD.cell? ⟨w.heap.size, 0, none⟩ = some (.int .u64 sq) := by rw [B3.out.cell]; rfl
            rw [HWD.out] at c0
            go_wp2_with fail
            rw [← HWD.out]
            refine C1.mono ?_
            rintro e WE ⟨rfl, hb⟩
            replace B3 := Lib.hid (B3.out.later hb)
            replace B7 := Lib.hid (B7.out.later hb)
            replace K := Lib.hid (K.out.then hb)
            clear hb
            clear C1 c0
            go_wp2_with fail
            refine (HKH.out Y X WE (by have := HZ.out; omega) (by have := HZ.out; omega) (HT.out.later K.out)).mono ?_
            rintro e WF ⟨⟨v5, rfl, h5⟩, hb⟩
            rw [HN1.out.1]
            rw [HN1.out.2] at h5
            obtain ⟨tv5, rfl, hr5, hw5⟩ := h5
            obtain ⟨p5, n5, cp5, rfl⟩ := hr5.sliced
            have hb2 := BoxAt.new hr5 hw5
            obtain ⟨WG, hWG⟩ : ∃ W, W = WF.alloc (.cells #[.int .u64 q1, .int .i64 s1, .int .i64 s2, .int .i64 us, .int .i64 s4, .slice p5 n5 cp5] 25) := ⟨_, rfl⟩
            obtain ⟨b19, h19⟩ : ∃ b, b = WF.heap.size := ⟨_, rfl⟩
            have B19 : Hid (BoxAt ⟨q1, s1, s2, us, s4, sr⟩ b19 (.slice p5 n5 cp5) WG) := Lib.hid (by rw [hWG, h19]; exact hb2.1)
            have hb3 : Kept WF WG := by rw [hWG]; exact hb2.2
            replace B3 := Lib.hid ((B3.out.later hb).later hb3)
            replace B7 := Lib.hid ((B7.out.later hb).later hb3)
            replace K := Lib.hid ((K.out.then hb).then hb3)
            have HWG := Lib.hid hWG
            have H19 := Lib.hid h19
            clear hb hb2 hb3 hr5 hw5 hWG h19 HN1
            unfold sbV sbC
            go_wp2_with fail
            rw [← H19.out]
            rw [← HWG.out]
            refine (HKH.out ⟨#[]⟩ X WG (by have := HZ.out; have := HSZ.out; omega) (by have := HZ.out; have := HSZ.out; omega) (HT.out.later K.out)).mono ?_
            rintro e WH ⟨⟨v6, rfl, h6⟩, hb⟩
            rw [HA1.out.1]
            rw [HA1.out.2] at h6
            obtain ⟨tv6, rfl, hr6, hw6⟩ := h6
            obtain ⟨p6, n6, cp6, rfl⟩ := hr6.sliced
            have hb2 := BoxAt.new hr6 hw6
            obtain ⟨WI, hWI⟩ : ∃ W, W = WH.alloc (.cells #[.int .u64 sq, .int .i64 s1, .int .i64 s2, .int .i64 s3, .int .i64 s4, .slice p6 n6 cp6] 25) := ⟨_, rfl⟩
            obtain ⟨b21, h21⟩ : ∃ b, b = WH.heap.size := ⟨_, rfl⟩
            have B21 : Hid (BoxAt ⟨sq, s1, s2, s3, s4, sr⟩ b21 (.slice p6 n6 cp6) WI) := Lib.hid (by rw [hWI, h21]; exact hb2.1)
            have hb3 : Kept WH WI := by rw [hWI]; exact hb2.2
            replace B3 := Lib.hid ((B3.out.later hb).later hb3)
            replace B7 := Lib.hid ((B7.out.later hb).later hb3)
            replace B19 := Lib.hid ((B19.out.later hb).later hb3)
            replace K := Lib.hid ((K.out.then hb).then hb3)
            have HWI := Lib.hid hWI
            have H21 := Lib.hid h21
            have c0 : WI.cell? ⟨b19, 0, none⟩ = some (.int .u64 q1) := by rw [B19.out.cell]; rfl
            have c1 : WI.cell? ⟨b19, 1, none⟩ = some (.int .i64 s1) := by rw [B19.out.cell]; rfl
            have c2 : WI.cell? ⟨b19, 2, none⟩ = some (.int .i64 s2) := by rw [B19.out.cell]; rfl
            have c3 : WI.cell? ⟨b19, 3, none⟩ = some (.int .i64 us) := by rw [B19.out.cell]; rfl
            have c4 : WI.cell? ⟨b19, 4, none⟩ = some (.int .i64 s4) := by rw [B19.out.cell]; rfl
            have c5 : WI.cell? ⟨b19, 5, none⟩ = some (.slice p5 n5 cp5) := by rw [B19.out.cell]; rfl
            have e0 : WI.cell? ⟨b7, 0, none⟩ = some (.int .u64 q1) := by rw [B7.out.cell]; rfl
            have e1 : WI.cell? ⟨b7, 1, none⟩ = some (.int .i64 s1) := by rw [B7.out.cell]; rfl
            have e2 : WI.cell? ⟨b7, 2, none⟩ = some (.int .i64 s2) := by rw [B7.out.cell]; rfl
            have e3 : WI.cell? ⟨b7, 3, none⟩ = some (.int .i64 us) := by rw [B7.out.cell]; rfl
            have e4 : WI.cell? ⟨b7, 4, none⟩ = some (.int .i64 s4) := by rw [B7.out.cell]; rfl
            have e5 : WI.cell? ⟨b7, 5, none⟩ = some (.slice pt nt ct) := by rw [B7.out.cell]; rfl
            rw [HB7.out.1] at e0 e1 e2 e3 e4 e5
            rw [HWI.out] at c0 c1 c2 c3 c4 c5 e0 e1 e2 e3 e4 e5
            clear hb hb2 hb3 hr6 hw6 hWI h21 HA1
            unfold sbV sbC
            go_wp2_with fail
            rw [← H21.out]
            rw [← HWI.out]
            refine (rsame11_any ⟨q1, s1, s2, us, s4, sr⟩ ⟨q1, s1, s2, us, s4, sr⟩ _ _ WI B19.out.at_ B7.out.at_ HLS2.out).mono ?_
            rw [decide_eq_true rfl]
            rintro e WJ ⟨rfl, hb⟩
            replace B3 := Lib.hid (B3.out.later hb)
            replace B21 := Lib.hid (B21.out.later hb)
            replace K := Lib.hid (K.out.then hb)
            clear hb
            clear c0 c1 c2 c3 c4 c5 e0 e1 e2 e3 e4 e5
            have c0 : WJ.cell? ⟨b21, 0, none⟩ = some (.int .u64 sq) := by rw [B21.out.cell]; rfl
            have c1 : WJ.cell? ⟨b21, 1, none⟩ = some (.int .i64 s1) := by rw [B21.out.cell]; rfl
            have c2 : WJ.cell? ⟨b21, 2, none⟩ = some (.int .i64 s2) := by rw [B21.out.cell]; rfl
            have c3 : WJ.cell? ⟨b21, 3, none⟩ = some (.int .i64 s3) := by rw [B21.out.cell]; rfl
            have c4 : WJ.cell? ⟨b21, 4, none⟩ = some (.int .i64 s4) := by rw [B21.out.cell]; rfl
            have c5 : WJ.cell? ⟨b21, 5, none⟩ = some (.slice p6 n6 cp6) := by rw [B21.out.cell]; rfl
            have e0 : WJ.cell? ⟨w.heap.size, 0, none⟩ = some (.int .u64 sq) := by rw [B3.out.cell]; rfl
            have e1 : WJ.cell? ⟨w.heap.size, 1, none⟩ = some (.int .i64 s1) := by rw [B3.out.cell]; rfl
            have e2 : WJ.cell? ⟨w.heap.size, 2, none⟩ = some (.int .i64 s2) := by rw [B3.out.cell]; rfl
            have e3 : WJ.cell? ⟨w.heap.size, 3, none⟩ = some (.int .i64 s3) := by rw [B3.out.cell]; rfl
            have e4 : WJ.cell? ⟨w.heap.size, 4, none⟩ = some (.int .i64 s4) := by rw [B3.out.cell]; rfl
            have e5 : WJ.cell? ⟨w.heap.size, 5, none⟩ = some (.slice ps ns cs) := by rw [B3.out.cell]; rfl
            go_wp2_with fail
            refine (rsame11_any ⟨sq, s1, s2, s3, s4, sr⟩ ⟨sq, s1, s2, s3, s4, sr⟩ _ _ WJ B21.out.at_ B3.out.at_ HLS2.out).mono ?_
            rw [decide_eq_true rfl]
            rintro e WK ⟨rfl, hb⟩
            replace K := Lib.hid (K.out.then hb)
            clear hb
            clear c0 c1 c2 c3 c4 c5 e0 e1 e2 e3 e4 e5
            go_wp2_with fail
            refine (AW.out WK (HT.out.later K.out)).mono ?_
            rintro e W99 ⟨rfl, hb⟩
            replace K := Lib.hid (K.out.then hb)
            clear hb
            go_wp2
            go_ret
            exact ⟨rfl, K.out⟩

        | false =>
          have HNS : Hid (getS (t : ByteArray).data.toList = none) := Lib.hid (by
            have h := HIS.out; cases hg : getS t.data.toList with
            | none => rfl
            | some x => rw [hg] at h; cases h)
          have hsz : (t : ByteArray).size ≤ 1000 := by omega
          have HSZ := Lib.hid hsz
          have hpar : sq % 2 = 0 ∨ sq % 2 = 1 := by omega
          clear hsz
          rcases hpar with hp | hp
          · have C1 := HLH.out sq WD HQS.out.1
            rw [hp] at C1
            have hpn := pick_newer HM.out.1 HWS.out HM.out.2 HWT'.out HQ1.out
            have hpa := pick_alone (t := (t : ByteArray).data.toList) HM.out.1 HWS.out HNS.out
            simp only [hp] at hpn hpa
            simp only [show ¬ (0 : Nat) = 1 from by decide, if_false] at hpn hpa
            rw [← HXL.out, ← HYL.out] at hpn
            rw [← HXL.out] at hpa
            have hn1 : pickE X.data.toList Y.data.toList = 0 ∧ pickD X.data.toList Y.data.toList = ⟨q1, s1, s2, us, s4, sr⟩ := by unfold pickE pickD; rw [hpn]; exact ⟨rfl, rfl⟩
            have ha1 : pickE (X : ByteArray).data.toList (t : ByteArray).data.toList = 0 ∧ pickD (X : ByteArray).data.toList (t : ByteArray).data.toList = ⟨sq, s1, s2, s3, s4, sr⟩ := by unfold pickE pickD; rw [hpa]; exact ⟨rfl, rfl⟩
            have HN1 := Lib.hid hn1
            have HA1 := Lib.hid ha1
            clear hpn hpa hn1 ha1
            have c0 : WD.cell? ⟨w.heap.size, 0, none⟩ = some (.int .u64 sq) := by rw [B3.out.cell]; rfl
            rw [HWD.out] at c0
            go_wp2_with fail
            rw [← HWD.out]
            refine C1.mono ?_
            rintro e WE ⟨rfl, hb⟩
            replace B3 := Lib.hid (B3.out.later hb)
            replace B7 := Lib.hid (B7.out.later hb)
            replace K := Lib.hid (K.out.then hb)
            clear hb
            clear C1 c0
            go_wp2_with fail
            refine (HKH.out X Y WE (by have := HZ.out; omega) (by have := HZ.out; omega) (HT.out.later K.out)).mono ?_
            rintro e WF ⟨⟨v5, rfl, h5⟩, hb⟩
            rw [HN1.out.1]
            rw [HN1.out.2] at h5
            obtain ⟨tv5, rfl, hr5, hw5⟩ := h5
            obtain ⟨p5, n5, cp5, rfl⟩ := hr5.sliced
            have hb2 := BoxAt.new hr5 hw5
            obtain ⟨WG, hWG⟩ : ∃ W, W = WF.alloc (.cells #[.int .u64 q1, .int .i64 s1, .int .i64 s2, .int .i64 us, .int .i64 s4, .slice p5 n5 cp5] 25) := ⟨_, rfl⟩
            obtain ⟨b19, h19⟩ : ∃ b, b = WF.heap.size := ⟨_, rfl⟩
            have B19 : Hid (BoxAt ⟨q1, s1, s2, us, s4, sr⟩ b19 (.slice p5 n5 cp5) WG) := Lib.hid (by rw [hWG, h19]; exact hb2.1)
            have hb3 : Kept WF WG := by rw [hWG]; exact hb2.2
            replace B3 := Lib.hid ((B3.out.later hb).later hb3)
            replace B7 := Lib.hid ((B7.out.later hb).later hb3)
            replace K := Lib.hid ((K.out.then hb).then hb3)
            have HWG := Lib.hid hWG
            have H19 := Lib.hid h19
            clear hb hb2 hb3 hr5 hw5 hWG h19 HN1
            unfold sbV sbC
            go_wp2_with fail
            rw [← H19.out]
            rw [← HWG.out]
            refine (HKH.out X t WG (by have := HZ.out; have := HSZ.out; omega) (by have := HZ.out; have := HSZ.out; omega) (HT.out.later K.out)).mono ?_
            rintro e WH ⟨⟨v6, rfl, h6⟩, hb⟩
            rw [HA1.out.1]
            rw [HA1.out.2] at h6
            obtain ⟨tv6, rfl, hr6, hw6⟩ := h6
            obtain ⟨p6, n6, cp6, rfl⟩ := hr6.sliced
            have hb2 := BoxAt.new hr6 hw6
            obtain ⟨WI, hWI⟩ : ∃ W, W = WH.alloc (.cells #[.int .u64 sq, .int .i64 s1, .int .i64 s2, .int .i64 s3, .int .i64 s4, .slice p6 n6 cp6] 25) := ⟨_, rfl⟩
            obtain ⟨b21, h21⟩ : ∃ b, b = WH.heap.size := ⟨_, rfl⟩
            have B21 : Hid (BoxAt ⟨sq, s1, s2, s3, s4, sr⟩ b21 (.slice p6 n6 cp6) WI) := Lib.hid (by rw [hWI, h21]; exact hb2.1)
            have hb3 : Kept WH WI := by rw [hWI]; exact hb2.2
            replace B3 := Lib.hid ((B3.out.later hb).later hb3)
            replace B7 := Lib.hid ((B7.out.later hb).later hb3)
            replace B19 := Lib.hid ((B19.out.later hb).later hb3)
            replace K := Lib.hid ((K.out.then hb).then hb3)
            have HWI := Lib.hid hWI
            have H21 := Lib.hid h21
            have c0 : WI.cell? ⟨b19, 0, none⟩ = some (.int .u64 q1) := by rw [B19.out.cell]; rfl
            have c1 : WI.cell? ⟨b19, 1, none⟩ = some (.int .i64 s1) := by rw [B19.out.cell]; rfl
            have c2 : WI.cell? ⟨b19, 2, none⟩ = some (.int .i64 s2) := by rw [B19.out.cell]; rfl
            have c3 : WI.cell? ⟨b19, 3, none⟩ = some (.int .i64 us) := by rw [B19.out.cell]; rfl
            have c4 : WI.cell? ⟨b19, 4, none⟩ = some (.int .i64 s4) := by rw [B19.out.cell]; rfl
            have c5 : WI.cell? ⟨b19, 5, none⟩ = some (.slice p5 n5 cp5) := by rw [B19.out.cell]; rfl
            have e0 : WI.cell? ⟨b7, 0, none⟩ = some (.int .u64 q1) := by rw [B7.out.cell]; rfl
            have e1 : WI.cell? ⟨b7, 1, none⟩ = some (.int .i64 s1) := by rw [B7.out.cell]; rfl
            have e2 : WI.cell? ⟨b7, 2, none⟩ = some (.int .i64 s2) := by rw [B7.out.cell]; rfl
            have e3 : WI.cell? ⟨b7, 3, none⟩ = some (.int .i64 us) := by rw [B7.out.cell]; rfl
            have e4 : WI.cell? ⟨b7, 4, none⟩ = some (.int .i64 s4) := by rw [B7.out.cell]; rfl
            have e5 : WI.cell? ⟨b7, 5, none⟩ = some (.slice pt nt ct) := by rw [B7.out.cell]; rfl
            rw [HB7.out.1] at e0 e1 e2 e3 e4 e5
            rw [HWI.out] at c0 c1 c2 c3 c4 c5 e0 e1 e2 e3 e4 e5
            clear hb hb2 hb3 hr6 hw6 hWI h21 HA1
            unfold sbV sbC
            go_wp2_with fail
            rw [← H21.out]
            rw [← HWI.out]
            refine (rsame11_any ⟨q1, s1, s2, us, s4, sr⟩ ⟨q1, s1, s2, us, s4, sr⟩ _ _ WI B19.out.at_ B7.out.at_ HLS2.out).mono ?_
            rw [decide_eq_true rfl]
            rintro e WJ ⟨rfl, hb⟩
            replace B3 := Lib.hid (B3.out.later hb)
            replace B21 := Lib.hid (B21.out.later hb)
            replace K := Lib.hid (K.out.then hb)
            clear hb
            clear c0 c1 c2 c3 c4 c5 e0 e1 e2 e3 e4 e5
            have c0 : WJ.cell? ⟨b21, 0, none⟩ = some (.int .u64 sq) := by rw [B21.out.cell]; rfl
            have c1 : WJ.cell? ⟨b21, 1, none⟩ = some (.int .i64 s1) := by rw [B21.out.cell]; rfl
            have c2 : WJ.cell? ⟨b21, 2, none⟩ = some (.int .i64 s2) := by rw [B21.out.cell]; rfl
            have c3 : WJ.cell? ⟨b21, 3, none⟩ = some (.int .i64 s3) := by rw [B21.out.cell]; rfl
            have c4 : WJ.cell? ⟨b21, 4, none⟩ = some (.int .i64 s4) := by rw [B21.out.cell]; rfl
            have c5 : WJ.cell? ⟨b21, 5, none⟩ = some (.slice p6 n6 cp6) := by rw [B21.out.cell]; rfl
            have e0 : WJ.cell? ⟨w.heap.size, 0, none⟩ = some (.int .u64 sq) := by rw [B3.out.cell]; rfl
            have e1 : WJ.cell? ⟨w.heap.size, 1, none⟩ = some (.int .i64 s1) := by rw [B3.out.cell]; rfl
            have e2 : WJ.cell? ⟨w.heap.size, 2, none⟩ = some (.int .i64 s2) := by rw [B3.out.cell]; rfl
            have e3 : WJ.cell? ⟨w.heap.size, 3, none⟩ = some (.int .i64 s3) := by rw [B3.out.cell]; rfl
            have e4 : WJ.cell? ⟨w.heap.size, 4, none⟩ = some (.int .i64 s4) := by rw [B3.out.cell]; rfl
            have e5 : WJ.cell? ⟨w.heap.size, 5, none⟩ = some (.slice ps ns cs) := by rw [B3.out.cell]; rfl
            go_wp2_with fail
            refine (rsame11_any ⟨sq, s1, s2, s3, s4, sr⟩ ⟨sq, s1, s2, s3, s4, sr⟩ _ _ WJ B21.out.at_ B3.out.at_ HLS2.out).mono ?_
            rw [decide_eq_true rfl]
            rintro e WK ⟨rfl, hb⟩
            replace K := Lib.hid (K.out.then hb)
            clear hb
            clear c0 c1 c2 c3 c4 c5 e0 e1 e2 e3 e4 e5
            go_wp2_with fail
            refine (AW.out WK (HT.out.later K.out)).mono ?_
            rintro e W99 ⟨rfl, hb⟩
            replace K := Lib.hid (K.out.then hb)
            clear hb
            go_wp2
            go_ret
            exact ⟨rfl, K.out⟩

          · have C1 := HLH.out sq WD HQS.out.1
            rw [hp] at C1
            have hpn := pick_newer HM.out.1 HWS.out HM.out.2 HWT'.out HQ1.out
            have hpa := pick_alone (t := (t : ByteArray).data.toList) HM.out.1 HWS.out HNS.out
            simp only [hp] at hpn hpa
            simp only [if_true] at hpn hpa
            rw [← HXL.out, ← HYL.out] at hpn
            rw [← HXL.out] at hpa
            have hn1 : pickE Y.data.toList X.data.toList = 0 ∧ pickD Y.data.toList X.data.toList = ⟨q1, s1, s2, us, s4, sr⟩ := by unfold pickE pickD; rw [hpn]; exact ⟨rfl, rfl⟩
            have ha1 : pickE (t : ByteArray).data.toList (X : ByteArray).data.toList = 0 ∧ pickD (t : ByteArray).data.toList (X : ByteArray).data.toList = ⟨sq, s1, s2, s3, s4, sr⟩ := by unfold pickE pickD; rw [hpa]; exact ⟨rfl, rfl⟩
            have HN1 := Lib.hid hn1
            have HA1 := Lib.hid ha1
            clear hpn hpa hn1 ha1
            have c0 : WD.cell? ⟨w.heap.size, 0, none⟩ = some (.int .u64 sq) := by rw [B3.out.cell]; rfl
            rw [HWD.out] at c0
            go_wp2_with fail
            rw [← HWD.out]
            refine C1.mono ?_
            rintro e WE ⟨rfl, hb⟩
            replace B3 := Lib.hid (B3.out.later hb)
            replace B7 := Lib.hid (B7.out.later hb)
            replace K := Lib.hid (K.out.then hb)
            clear hb
            clear C1 c0
            go_wp2_with fail
            refine (HKH.out Y X WE (by have := HZ.out; omega) (by have := HZ.out; omega) (HT.out.later K.out)).mono ?_
            rintro e WF ⟨⟨v5, rfl, h5⟩, hb⟩
            rw [HN1.out.1]
            rw [HN1.out.2] at h5
            obtain ⟨tv5, rfl, hr5, hw5⟩ := h5
            obtain ⟨p5, n5, cp5, rfl⟩ := hr5.sliced
            have hb2 := BoxAt.new hr5 hw5
            obtain ⟨WG, hWG⟩ : ∃ W, W = WF.alloc (.cells #[.int .u64 q1, .int .i64 s1, .int .i64 s2, .int .i64 us, .int .i64 s4, .slice p5 n5 cp5] 25) := ⟨_, rfl⟩
            obtain ⟨b19, h19⟩ : ∃ b, b = WF.heap.size := ⟨_, rfl⟩
            have B19 : Hid (BoxAt ⟨q1, s1, s2, us, s4, sr⟩ b19 (.slice p5 n5 cp5) WG) := Lib.hid (by rw [hWG, h19]; exact hb2.1)
            have hb3 : Kept WF WG := by rw [hWG]; exact hb2.2
            replace B3 := Lib.hid ((B3.out.later hb).later hb3)
            replace B7 := Lib.hid ((B7.out.later hb).later hb3)
            replace K := Lib.hid ((K.out.then hb).then hb3)
            have HWG := Lib.hid hWG
            have H19 := Lib.hid h19
            clear hb hb2 hb3 hr5 hw5 hWG h19 HN1
            unfold sbV sbC
            go_wp2_with fail
            rw [← H19.out]
            rw [← HWG.out]
            refine (HKH.out t X WG (by have := HZ.out; have := HSZ.out; omega) (by have := HZ.out; have := HSZ.out; omega) (HT.out.later K.out)).mono ?_
            rintro e WH ⟨⟨v6, rfl, h6⟩, hb⟩
            rw [HA1.out.1]
            rw [HA1.out.2] at h6
            obtain ⟨tv6, rfl, hr6, hw6⟩ := h6
            obtain ⟨p6, n6, cp6, rfl⟩ := hr6.sliced
            have hb2 := BoxAt.new hr6 hw6
            obtain ⟨WI, hWI⟩ : ∃ W, W = WH.alloc (.cells #[.int .u64 sq, .int .i64 s1, .int .i64 s2, .int .i64 s3, .int .i64 s4, .slice p6 n6 cp6] 25) := ⟨_, rfl⟩
            obtain ⟨b21, h21⟩ : ∃ b, b = WH.heap.size := ⟨_, rfl⟩
            have B21 : Hid (BoxAt ⟨sq, s1, s2, s3, s4, sr⟩ b21 (.slice p6 n6 cp6) WI) := Lib.hid (by rw [hWI, h21]; exact hb2.1)
            have hb3 : Kept WH WI := by rw [hWI]; exact hb2.2
            replace B3 := Lib.hid ((B3.out.later hb).later hb3)
            replace B7 := Lib.hid ((B7.out.later hb).later hb3)
            replace B19 := Lib.hid ((B19.out.later hb).later hb3)
            replace K := Lib.hid ((K.out.then hb).then hb3)
            have HWI := Lib.hid hWI
            have H21 := Lib.hid h21
            have c0 : WI.cell? ⟨b19, 0, none⟩ = some (.int .u64 q1) := by rw [B19.out.cell]; rfl
            have c1 : WI.cell? ⟨b19, 1, none⟩ = some (.int .i64 s1) := by rw [B19.out.cell]; rfl
            have c2 : WI.cell? ⟨b19, 2, none⟩ = some (.int .i64 s2) := by rw [B19.out.cell]; rfl
            have c3 : WI.cell? ⟨b19, 3, none⟩ = some (.int .i64 us) := by rw [B19.out.cell]; rfl
            have c4 : WI.cell? ⟨b19, 4, none⟩ = some (.int .i64 s4) := by rw [B19.out.cell]; rfl
            have c5 : WI.cell? ⟨b19, 5, none⟩ = some (.slice p5 n5 cp5) := by rw [B19.out.cell]; rfl
            have e0 : WI.cell? ⟨b7, 0, none⟩ = some (.int .u64 q1) := by rw [B7.out.cell]; rfl
            have e1 : WI.cell? ⟨b7, 1, none⟩ = some (.int .i64 s1) := by rw [B7.out.cell]; rfl
            have e2 : WI.cell? ⟨b7, 2, none⟩ = some (.int .i64 s2) := by rw [B7.out.cell]; rfl
            have e3 : WI.cell? ⟨b7, 3, none⟩ = some (.int .i64 us) := by rw [B7.out.cell]; rfl
            have e4 : WI.cell? ⟨b7, 4, none⟩ = some (.int .i64 s4) := by rw [B7.out.cell]; rfl
            have e5 : WI.cell? ⟨b7, 5, none⟩ = some (.slice pt nt ct) := by rw [B7.out.cell]; rfl
            rw [HB7.out.1] at e0 e1 e2 e3 e4 e5
            rw [HWI.out] at c0 c1 c2 c3 c4 c5 e0 e1 e2 e3 e4 e5
            clear hb hb2 hb3 hr6 hw6 hWI h21 HA1
            unfold sbV sbC
            go_wp2_with fail
            rw [← H21.out]
            rw [← HWI.out]
            refine (rsame11_any ⟨q1, s1, s2, us, s4, sr⟩ ⟨q1, s1, s2, us, s4, sr⟩ _ _ WI B19.out.at_ B7.out.at_ HLS2.out).mono ?_
            rw [decide_eq_true rfl]
            rintro e WJ ⟨rfl, hb⟩
            replace B3 := Lib.hid (B3.out.later hb)
            replace B21 := Lib.hid (B21.out.later hb)
            replace K := Lib.hid (K.out.then hb)
            clear hb
            clear c0 c1 c2 c3 c4 c5 e0 e1 e2 e3 e4 e5
            have c0 : WJ.cell? ⟨b21, 0, none⟩ = some (.int .u64 sq) := by rw [B21.out.cell]; rfl
            have c1 : WJ.cell? ⟨b21, 1, none⟩ = some (.int .i64 s1) := by rw [B21.out.cell]; rfl
            have c2 : WJ.cell? ⟨b21, 2, none⟩ = some (.int .i64 s2) := by rw [B21.out.cell]; rfl
            have c3 : WJ.cell? ⟨b21, 3, none⟩ = some (.int .i64 s3) := by rw [B21.out.cell]; rfl
            have c4 : WJ.cell? ⟨b21, 4, none⟩ = some (.int .i64 s4) := by rw [B21.out.cell]; rfl
            have c5 : WJ.cell? ⟨b21, 5, none⟩ = some (.slice p6 n6 cp6) := by rw [B21.out.cell]; rfl
            have e0 : WJ.cell? ⟨w.heap.size, 0, none⟩ = some (.int .u64 sq) := by rw [B3.out.cell]; rfl
            have e1 : WJ.cell? ⟨w.heap.size, 1, none⟩ = some (.int .i64 s1) := by rw [B3.out.cell]; rfl
            have e2 : WJ.cell? ⟨w.heap.size, 2, none⟩ = some (.int .i64 s2) := by rw [B3.out.cell]; rfl
            have e3 : WJ.cell? ⟨w.heap.size, 3, none⟩ = some (.int .i64 s3) := by rw [B3.out.cell]; rfl
            have e4 : WJ.cell? ⟨w.heap.size, 4, none⟩ = some (.int .i64 s4) := by rw [B3.out.cell]; rfl
            have e5 : WJ.cell? ⟨w.heap.size, 5, none⟩ = some (.slice ps ns cs) := by rw [B3.out.cell]; rfl
            go_wp2_with fail
            refine (rsame11_any ⟨sq, s1, s2, s3, s4, sr⟩ ⟨sq, s1, s2, s3, s4, sr⟩ _ _ WJ B21.out.at_ B3.out.at_ HLS2.out).mono ?_
            rw [decide_eq_true rfl]
            rintro e WK ⟨rfl, hb⟩
            replace K := Lib.hid (K.out.then hb)
            clear hb
            clear c0 c1 c2 c3 c4 c5 e0 e1 e2 e3 e4 e5
            go_wp2_with fail
            refine (AW.out WK (HT.out.later K.out)).mono ?_
            rintro e W99 ⟨rfl, hb⟩
            replace K := Lib.hid (K.out.then hb)
            clear hb
            go_wp2
            go_ret
            exact ⟨rfl, K.out⟩




end Go.Proofs.YtlfmmhalheohdaaDoor
