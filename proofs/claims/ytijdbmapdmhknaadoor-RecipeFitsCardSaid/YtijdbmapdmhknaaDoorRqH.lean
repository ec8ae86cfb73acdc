/- RecipeFits out of the contracts. -/
import Derived.Test.YtijdbmapdmhknaaDoorRqE
namespace Go.Proofs.YtijdbmapdmhknaaDoor
open Go.RowKit

set_option maxRecDepth 100000 in
set_option maxHeartbeats 32000000 in
theorem recipeFits_of (CO : ROfAt) (CF : RFitsOk) (AW : AwakeQ) (name s t : ByteArray) (l : List Nat) (v : Value) (w : World) (hU : UsAt l v w) (hT : TabAt w) :
    Calls Tryd.prog 6 #[.string name, .string s, .string t, v] w fun e w' => e = .returned (.bool true) ∧ Kept w w' := by
  have HT := Lib.hid hT
  have HAW := Lib.hid AW
  have HCF := Lib.hid CF
  have C1 := fun W => cut16_any s W
  have C2 := fun W => cut16_any t W
  obtain ⟨S, hS⟩ : ∃ S, S = s.extract 0 400 := ⟨_, rfl⟩
  obtain ⟨T, hT'⟩ : ∃ S, S = t.extract 0 400 := ⟨_, rfl⟩
  rw [← hS] at C1
  rw [← hT'] at C2
  have hSl : S.size ≤ 100000 := by rw [hS, ByteArray.size_extract]; omega
  have hTl : T.size ≤ 100000 := by rw [hT', ByteArray.size_extract]; omega
  have HSZ : Hid (S.size ≤ 100000 ∧ T.size ≤ 100000) := Lib.hid ⟨hSl, hTl⟩
  have HC1 := Lib.hid C1
  have HC2 := Lib.hid C2
  obtain ⟨NL, hNL⟩ : ∃ N, N = name.data.toList.take 60 := ⟨_, rfl⟩
  obtain ⟨L, hL⟩ : ∃ L, L = l.take 1030 := ⟨_, rfl⟩
  have hNl : NL.length ≤ 1000 := by rw [hNL, List.length_take]; omega
  have hLl : L.length ≤ 100000 := by rw [hL, List.length_take]; omega
  have hLl' : L.length ≤ 1030 := by rw [hL, List.length_take]; omega
  obtain ⟨p, c, rfl, hcap, -⟩ := hU.out encU
  have hIX : ∀ (b off : Nat), p = some ⟨b, off, none⟩ → 1030 ≤ c → 0 < c → ∀ W, (Instr.sliceAt 22 (.slice p l.length c) none (some (.int .i64 1030)) none).run Tryd.prog W = .ok (.slice p 1030 c) W := fun b off h h1 h2 W => by
    rw [h]
    exact cut_hiR (P := Tryd.prog) Tryd.underlying22 (fun w => Tryd.sizeOf53 w) b off l.length c 1030 h1 h2 W
  have hname : str name.data.toList = name := str_data name
  have hns : name.data.toList.length = name.size := data_len name
  clear hT C1 C2 hS hT' hTl AW CF
  by_cases h1 : 1030 < l.length
  · by_cases h2 : 60 < name.size
    · obtain ⟨b, off, c2, e, hnc, htk⟩ := hU.takeV (i := 1030) h1
      simp only [Value.slice.injEq] at e
      obtain ⟨rfl, -, rfl⟩ := e
      have CUT := hIX b off rfl (by omega) (by omega)
      have hUL : UsAt L (.slice (some ⟨b, off, none⟩) 1030 c) w := by rw [hL]; exact htk
      obtain ⟨ln, hln⟩ : ∃ n, n = l.length := ⟨_, rfl⟩
      rw [← hln] at CUT ⊢
      have b1 : decide ((ln : Int) > 1030) = true := decide_eq_true (by omega)
      have b1i : (1030 : Int) < ln := by omega
      clear hIX hnc htk hU hcap hL h1 hln
      obtain ⟨NM, hNMx⟩ : ∃ N, N = name.extract 0 60 := ⟨_, rfl⟩
      have hNM : NM = str NL := by rw [hNMx, hNL, ← str_takeQ, hname]
      have ex : name.extract 0 60 = NM := hNMx.symm
      have b2 : decide ((name.size : Int) > 60) = true := decide_eq_true (by omega)
      have b2i : (60 : Int) < name.size := by omega
      have b2j : (60 : Int) ≤ name.size := by omega
      clear hNMx hNL h2 hname hns
      obtain ⟨G, hG⟩ : ∃ G, G = ofQ NL S.data.toList L := ⟨_, rfl⟩
      obtain ⟨R, hR⟩ : ∃ R, R = G.getD Rp.zero := ⟨_, rfl⟩
      obtain ⟨GE, hge⟩ : ∃ e, e = okV G := ⟨_, rfl⟩
      obtain ⟨GO, hgo⟩ : ∃ e, e = G.isSome := ⟨_, rfl⟩
      have hco := CO NL S L _ w hNl hSl hUL hLl
      have hcd := fun W (h : Kept w W) => rof16_any NL (by unfold maxLen; omega) S (by omega) L _ W (hUL.later h) (by omega)
      rw [← hG, ← hR, ← hge, ← hNM] at hco
      rw [← hG, ← hR, ← hgo, ← hNM] at hcd
      have hrl : R.mans.length ≤ 1030 := by
        rw [hR, hG]
        unfold ofQ
        split
        · exact hLl'
        · exact Nat.zero_le _
      have HRL : Hid (R.mans.length ≤ 100000) := Lib.hid (by omega)
      have HRL2 : Hid (R.mans.length ≤ 1000000) := Lib.hid (by omega)
      have HF1 : Hid (decide (fitsQ R S.data.toList) = GO) := Lib.hid (by
        rw [hgo, hR, hG]
        unfold ofQ
        split
        · rename_i hm
          exact decide_eq_true ⟨hm, rfl, rfl, rfl⟩
        · exact decide_eq_false (fun h => absurd h.1 (by decide)))
      have HGE : Hid (GE = (if GO then 0 else 1) ∧ True) := Lib.hid ⟨by rw [hge, hgo]; rfl, trivial⟩
      obtain ⟨nm, hnm⟩ : ∃ x, x = str R.name := ⟨_, rfl⟩
      obtain ⟨z, hz⟩ : ∃ x, x = R.size := ⟨_, rfl⟩
      obtain ⟨x, hx⟩ : ∃ x, x = R.re := ⟨_, rfl⟩
      obtain ⟨y, hy⟩ : ∃ x, x = R.im := ⟨_, rfl⟩
      obtain ⟨n, hn⟩ : ∃ x, x = R.mans.length := ⟨_, rfl⟩
      have HCR : Hid (∀ u W, RpIs R u W → ∃ p c, u = .agg #[.string nm, .int .i64 z, .int .i64 x, .int .i64 y, .slice p n c]) := Lib.hid (fun u W h => by
        obtain ⟨p, c, e⟩ := h.cutQ
        exact ⟨p, c, by rw [e, hnm, hz, hx, hy, hn]⟩)
      have HCO := Lib.hid hco
      have HCD := Lib.hid hcd
      clear hG hR hge hgo hco hcd hrl hnm hz hx hy hn hNl hSl hUL hLl hLl' hNM
      clear CO
      cases GO with
      | false =>
        go_enter Tryd.func6, Tryd.ntmps6
        go_wp2_with fail
        refine (HC1.out _).mono ?_
        rintro e w' ⟨rfl, rfl⟩
        go_wp2_with fail
        refine (HC2.out _).mono ?_
        rintro e w' ⟨rfl, rfl⟩
        go_wp2_with fail
        refine (HCO.out).mono ?_
        rintro e w1 ⟨⟨u, rfl, hu⟩, hk1⟩
        obtain ⟨p1, c1, rfl⟩ := HCR.out _ _ hu
        obtain ⟨W2, hW2⟩ : ∃ W, W = w1.alloc (.cells #[.string nm, .int .i64 z, .int .i64 x, .int .i64 y, .slice p1 n c1] 24) := ⟨_, rfl⟩
        have hk2 : Kept w1 W2 := by rw [hW2]; exact box_below _ _
        have H02 : Hid (Kept w W2) := Lib.hid (hk1.then hk2)
        have HR2 : Hid (Row5 w1.heap.size (.string nm) (.int .i64 z) (.int .i64 x) (.int .i64 y) (.slice p1 n c1) W2) := Lib.hid ⟨by rw [hW2]; exact heap_alloc_last w1 _⟩
        have HU2 := Lib.hid (hu.later hk2)
        have HW2 := Lib.hid hW2
        clear hk1 hu hk2 hW2
        go_wp2_with (with_reducible refine wpList_halt (d := 38) rfl ?_)
        unfold Halted
        rw [← HW2.out]
        go_wp2_with fail
        refine (HCD.out W2 H02.out).mono ?_
        rintro e w3 ⟨⟨u, rfl, hu⟩, hk3⟩
        obtain ⟨p2, c2, rfl⟩ := HCR.out _ _ hu
        obtain ⟨W4, hW4⟩ : ∃ W, W = w3.alloc (.cells #[.string nm, .int .i64 z, .int .i64 x, .int .i64 y, .slice p2 n c2] 24) := ⟨_, rfl⟩
        have hk4 : Kept w3 W4 := by rw [hW4]; exact box_below _ _
        have H04 : Hid (Kept w W4) := Lib.hid ((H02.out.then hk3).then hk4)
        have HR4 : Hid (Row5 w1.heap.size (.string nm) (.int .i64 z) (.int .i64 x) (.int .i64 y) (.slice p1 n c1) W4) := Lib.hid ((HR2.out.later hk3).later hk4)
        have HX4 : Hid (Row5 w3.heap.size (.string nm) (.int .i64 z) (.int .i64 x) (.int .i64 y) (.slice p2 n c2) W4) := Lib.hid ⟨by rw [hW4]; exact heap_alloc_last w3 _⟩
        have HU4 := Lib.hid ((HU2.out.later hk3).later hk4)
        have HV4 := Lib.hid (hu.later hk4)
        have HW4 := Lib.hid hW4
        clear hk3 hu hk4 hW4 HW2 H02 HR2 HU2
        have a0 := HR4.out.c0
        have a1 := HR4.out.c1
        have a2 := HR4.out.c2
        have a3 := HR4.out.c3
        have a4 := HR4.out.c4
        have d0 := HX4.out.c0
        have d1 := HX4.out.c1
        have d2 := HX4.out.c2
        have d3 := HX4.out.c3
        have d4 := HX4.out.c4
        have CS := rsame16_any R R _ _ W4 HU4.out HV4.out HRL2.out HRL2.out
        rw [decide_eq_true (rfl : R = R)] at CS
        go_wp2_with (with_reducible refine wpList_halt (d := 41) rfl ?_)
        unfold Halted
        rw [← HW4.out]
        go_wp2_with fail
        refine CS.mono ?_
        rintro e w5 ⟨rfl, hk5⟩
        have H05 := Lib.hid (H04.out.then hk5)
        have HR5 := Lib.hid (HR4.out.later hk5)
        have HX5 := Lib.hid (HX4.out.later hk5)
        have HU5 := Lib.hid (HU4.out.later hk5)
        have HV5 := Lib.hid (HV4.out.later hk5)
        clear hk5 CS HW4 H04 HR4 HX4 HU4 HV4 a0 a1 a2 a3 a4 d0 d1 d2 d3 d4
        have AW1 := HAW.out w5 (HT.out.later H05.out)
        have e1 : (GE == 0) = false := by rw [HGE.out.1]; rfl
        have e2 : (GE != 1) = false := by rw [HGE.out.1]; rfl
        have e3 : (GE == 1) = true := by rw [HGE.out.1]; rfl
        go_wp2_with fail
        refine AW1.mono ?_
        rintro e w7 ⟨rfl, hk7⟩
        have H07 := Lib.hid (H05.out.then hk7)
        have HR7 := Lib.hid (HR5.out.later hk7)
        have HX7 := Lib.hid (HX5.out.later hk7)
        have HU7 := Lib.hid (HU5.out.later hk7)
        have HV7 := Lib.hid (HV5.out.later hk7)
        clear hk7 AW1 H05 HR5 HX5 HU5 HV5
        have CF1 := fun W (h : Kept w7 W) => Calls.kept_of' h (HCF.out R _ S W (HU7.out.later h) HRL.out HSZ.out.1)
        have CF2 := fun W (h : Kept w7 W) => Calls.kept_of' h (HCF.out R _ T W (HU7.out.later h) HRL.out HSZ.out.2)
        have CF3 := fun W (h : Kept w7 W) => Calls.kept_of' h (rfits16_any R _ T (by have := HSZ.out.2; omega) W (HV7.out.later h) HRL2.out)
        obtain ⟨q, hq⟩ : ∃ q, q = decide (fitsQ R T.data.toList) := ⟨_, rfl⟩
        rw [← hq] at CF2 CF3
        rw [HF1.out] at CF1
        have qq : (q == q) = true := by simp
        clear hq
        go_wp2_with fail
        refine wp_region_kept (by kernel_rfl) (by kernel_rfl) ?_
        refine wpQuiet_load_row (by kernel_rfl) _ _ rfl w1.heap.size rfl 24 _ (0, 0) _ (fun _ h => h.row HR7.out.row) Tryd.underlying24 rfl infoRp (fun K hK => ?_)
        go_simp
        refine hK _ ?_; clear hK K
        refine wpQuiet_pure (v := ?_) (by kernel_rfl) ?_ (fun K hK => ?_)
        case refine_2 => intro W _; go_simp; try with_reducible rfl
        go_simp
        refine hK _ ?_; clear hK K
        refine wpQuiet_call (by kernel_rfl) _ _ _ (fun W => by go_simp) (fun W h => CF1 W h) (fun K hK => ?_)
        go_simp
        refine hK _ ?_; clear hK K
        refine wpQuiet_pure (v := ?_) (by kernel_rfl) ?_ (fun K hK => ?_)
        case refine_2 => intro W _; go_simp; try with_reducible rfl
        go_simp
        refine hK _ ?_; clear hK K
        refine wpQuiet_pure (by kernel_rfl) (.bool true) (fun W _ => by go_simp) (fun K hK => ?_)
        go_simp
        refine hK _ ?_; clear hK K
        refine wpQuiet_pure (v := ?_) (by kernel_rfl) ?_ (fun K hK => ?_)
        case refine_2 => intro W _; go_simp; try with_reducible rfl
        go_simp
        refine hK _ ?_; clear hK K
        refine wpQuiet_load_row (by kernel_rfl) _ _ rfl w1.heap.size rfl 24 _ (0, 0) _ (fun _ h => h.row HR7.out.row) Tryd.underlying24 rfl infoRp (fun K hK => ?_)
        go_simp
        refine hK _ ?_; clear hK K
        refine wpQuiet_pure (v := ?_) (by kernel_rfl) ?_ (fun K hK => ?_)
        case refine_2 => intro W _; go_simp; try with_reducible rfl
        go_simp
        refine hK _ ?_; clear hK K
        refine wpQuiet_call (by kernel_rfl) _ _ _ (fun W => by go_simp) (fun W h => CF2 W h) (fun K hK => ?_)
        go_simp
        refine hK _ ?_; clear hK K
        refine wpQuiet_load_row (by kernel_rfl) _ _ rfl w3.heap.size rfl 24 _ (0, 0) _ (fun _ h => h.row HX7.out.row) Tryd.underlying24 rfl infoRp (fun K hK => ?_)
        go_simp
        refine hK _ ?_; clear hK K
        refine wpQuiet_pure (v := ?_) (by kernel_rfl) ?_ (fun K hK => ?_)
        case refine_2 => intro W _; go_simp; try with_reducible rfl
        go_simp
        refine hK _ ?_; clear hK K
        refine wpQuiet_call (by kernel_rfl) _ _ _ (fun W => by go_simp) (fun W h => CF3 W h) (fun K hK => ?_)
        go_simp
        refine hK _ ?_; clear hK K
        refine wpQuiet_pure (by kernel_rfl) (.bool true) (fun W _ => by go_simp) (fun K hK => ?_)
        go_simp
        refine hK _ ?_; clear hK K
        refine wpQuiet_pure (v := ?_) (by kernel_rfl) ?_ (fun K hK => ?_)
        case refine_2 => intro W _; go_simp; try with_reducible rfl
        go_simp
        refine hK _ ?_; clear hK K
        refine wpQuiet_pure (v := ?_) (by kernel_rfl) ?_ (fun K hK => ?_)
        case refine_2 => intro W _; go_simp; try with_reducible rfl
        go_simp
        refine hK _ ?_; clear hK K
        refine wpQuiet_nil ?_
        intro w9 hk9
        go_wp2
        go_ret
        exact ⟨by first | rfl | simp, H07.out.then hk9⟩
      | true =>
        go_enter Tryd.func6, Tryd.ntmps6
        go_wp2_with fail
        refine (HC1.out _).mono ?_
        rintro e w' ⟨rfl, rfl⟩
        go_wp2_with fail
        refine (HC2.out _).mono ?_
        rintro e w' ⟨rfl, rfl⟩
        go_wp2_with fail
        refine (HCO.out).mono ?_
        rintro e w1 ⟨⟨u, rfl, hu⟩, hk1⟩
        obtain ⟨p1, c1, rfl⟩ := HCR.out _ _ hu
        obtain ⟨W2, hW2⟩ : ∃ W, W = w1.alloc (.cells #[.string nm, .int .i64 z, .int .i64 x, .int .i64 y, .slice p1 n c1] 24) := ⟨_, rfl⟩
        have hk2 : Kept w1 W2 := by rw [hW2]; exact box_below _ _
        have H02 : Hid (Kept w W2) := Lib.hid (hk1.then hk2)
        have HR2 : Hid (Row5 w1.heap.size (.string nm) (.int .i64 z) (.int .i64 x) (.int .i64 y) (.slice p1 n c1) W2) := Lib.hid ⟨by rw [hW2]; exact heap_alloc_last w1 _⟩
        have HU2 := Lib.hid (hu.later hk2)
        have HW2 := Lib.hid hW2
        clear hk1 hu hk2 hW2
        go_wp2_with (with_reducible refine wpList_halt (d := 38) rfl ?_)
        unfold Halted
        rw [← HW2.out]
        go_wp2_with fail
        refine (HCD.out W2 H02.out).mono ?_
        rintro e w3 ⟨⟨u, rfl, hu⟩, hk3⟩
        obtain ⟨p2, c2, rfl⟩ := HCR.out _ _ hu
        obtain ⟨W4, hW4⟩ : ∃ W, W = w3.alloc (.cells #[.string nm, .int .i64 z, .int .i64 x, .int .i64 y, .slice p2 n c2] 24) := ⟨_, rfl⟩
        have hk4 : Kept w3 W4 := by rw [hW4]; exact box_below _ _
        have H04 : Hid (Kept w W4) := Lib.hid ((H02.out.then hk3).then hk4)
        have HR4 : Hid (Row5 w1.heap.size (.string nm) (.int .i64 z) (.int .i64 x) (.int .i64 y) (.slice p1 n c1) W4) := Lib.hid ((HR2.out.later hk3).later hk4)
        have HX4 : Hid (Row5 w3.heap.size (.string nm) (.int .i64 z) (.int .i64 x) (.int .i64 y) (.slice p2 n c2) W4) := Lib.hid ⟨by rw [hW4]; exact heap_alloc_last w3 _⟩
        have HU4 := Lib.hid ((HU2.out.later hk3).later hk4)
        have HV4 := Lib.hid (hu.later hk4)
        have HW4 := Lib.hid hW4
        clear hk3 hu hk4 hW4 HW2 H02 HR2 HU2
        have a0 := HR4.out.c0
        have a1 := HR4.out.c1
        have a2 := HR4.out.c2
        have a3 := HR4.out.c3
        have a4 := HR4.out.c4
        have d0 := HX4.out.c0
        have d1 := HX4.out.c1
        have d2 := HX4.out.c2
        have d3 := HX4.out.c3
        have d4 := HX4.out.c4
        have CS := rsame16_any R R _ _ W4 HU4.out HV4.out HRL2.out HRL2.out
        rw [decide_eq_true (rfl : R = R)] at CS
        go_wp2_with (with_reducible refine wpList_halt (d := 41) rfl ?_)
        unfold Halted
        rw [← HW4.out]
        go_wp2_with fail
        refine CS.mono ?_
        rintro e w5 ⟨rfl, hk5⟩
        have H05 := Lib.hid (H04.out.then hk5)
        have HR5 := Lib.hid (HR4.out.later hk5)
        have HX5 := Lib.hid (HX4.out.later hk5)
        have HU5 := Lib.hid (HU4.out.later hk5)
        have HV5 := Lib.hid (HV4.out.later hk5)
        clear hk5 CS HW4 H04 HR4 HX4 HU4 HV4 a0 a1 a2 a3 a4 d0 d1 d2 d3 d4
        have AW1 := HAW.out w5 (HT.out.later H05.out)
        have e1 : (GE == 0) = true := by rw [HGE.out.1]; rfl
        have e2 : (GE != 0) = false := by rw [HGE.out.1]; rfl
        go_wp2_with fail
        refine AW1.mono ?_
        rintro e w7 ⟨rfl, hk7⟩
        have H07 := Lib.hid (H05.out.then hk7)
        have HR7 := Lib.hid (HR5.out.later hk7)
        have HX7 := Lib.hid (HX5.out.later hk7)
        have HU7 := Lib.hid (HU5.out.later hk7)
        have HV7 := Lib.hid (HV5.out.later hk7)
        clear hk7 AW1 H05 HR5 HX5 HU5 HV5
        have CF1 := fun W (h : Kept w7 W) => Calls.kept_of' h (HCF.out R _ S W (HU7.out.later h) HRL.out HSZ.out.1)
        have CF2 := fun W (h : Kept w7 W) => Calls.kept_of' h (HCF.out R _ T W (HU7.out.later h) HRL.out HSZ.out.2)
        have CF3 := fun W (h : Kept w7 W) => Calls.kept_of' h (rfits16_any R _ T (by have := HSZ.out.2; omega) W (HV7.out.later h) HRL2.out)
        obtain ⟨q, hq⟩ : ∃ q, q = decide (fitsQ R T.data.toList) := ⟨_, rfl⟩
        rw [← hq] at CF2 CF3
        rw [HF1.out] at CF1
        have qq : (q == q) = true := by simp
        clear hq
        go_wp2_with fail
        refine wp_region_kept (by kernel_rfl) (by kernel_rfl) ?_
        refine wpQuiet_load_row (by kernel_rfl) _ _ rfl w1.heap.size rfl 24 _ (0, 0) _ (fun _ h => h.row HR7.out.row) Tryd.underlying24 rfl infoRp (fun K hK => ?_)
        go_simp
        refine hK _ ?_; clear hK K
        refine wpQuiet_pure (v := ?_) (by kernel_rfl) ?_ (fun K hK => ?_)
        case refine_2 => intro W _; go_simp; try with_reducible rfl
        go_simp
        refine hK _ ?_; clear hK K
        refine wpQuiet_call (by kernel_rfl) _ _ _ (fun W => by go_simp) (fun W h => CF1 W h) (fun K hK => ?_)
        go_simp
        refine hK _ ?_; clear hK K
        refine wpQuiet_pure (v := ?_) (by kernel_rfl) ?_ (fun K hK => ?_)
        case refine_2 => intro W _; go_simp; try with_reducible rfl
        go_simp
        refine hK _ ?_; clear hK K
        refine wpQuiet_pure (by kernel_rfl) (.bool true) (fun W _ => by go_simp) (fun K hK => ?_)
        go_simp
        refine hK _ ?_; clear hK K
        refine wpQuiet_pure (v := ?_) (by kernel_rfl) ?_ (fun K hK => ?_)
        case refine_2 => intro W _; go_simp; try with_reducible rfl
        go_simp
        refine hK _ ?_; clear hK K
        refine wpQuiet_load_row (by kernel_rfl) _ _ rfl w1.heap.size rfl 24 _ (0, 0) _ (fun _ h => h.row HR7.out.row) Tryd.underlying24 rfl infoRp (fun K hK => ?_)
        go_simp
        refine hK _ ?_; clear hK K
        refine wpQuiet_pure (v := ?_) (by kernel_rfl) ?_ (fun K hK => ?_)
        case refine_2 => intro W _; go_simp; try with_reducible rfl
        go_simp
        refine hK _ ?_; clear hK K
        refine wpQuiet_call (by kernel_rfl) _ _ _ (fun W => by go_simp) (fun W h => CF2 W h) (fun K hK => ?_)
        go_simp
        refine hK _ ?_; clear hK K
        refine wpQuiet_load_row (by kernel_rfl) _ _ rfl w3.heap.size rfl 24 _ (0, 0) _ (fun _ h => h.row HX7.out.row) Tryd.underlying24 rfl infoRp (fun K hK => ?_)
        go_simp
        refine hK _ ?_; clear hK K
        refine wpQuiet_pure (v := ?_) (by kernel_rfl) ?_ (fun K hK => ?_)
        case refine_2 => intro W _; go_simp; try with_reducible rfl
        go_simp
        refine hK _ ?_; clear hK K
        refine wpQuiet_call (by kernel_rfl) _ _ _ (fun W => by go_simp) (fun W h => CF3 W h) (fun K hK => ?_)
        go_simp
        refine hK _ ?_; clear hK K
        refine wpQuiet_pure (by kernel_rfl) (.bool true) (fun W _ => by go_simp) (fun K hK => ?_)
        go_simp
        refine hK _ ?_; clear hK K
        refine wpQuiet_pure (v := ?_) (by kernel_rfl) ?_ (fun K hK => ?_)
        case refine_2 => intro W _; go_simp; try with_reducible rfl
        go_simp
        refine hK _ ?_; clear hK K
        refine wpQuiet_pure (v := ?_) (by kernel_rfl) ?_ (fun K hK => ?_)
        case refine_2 => intro W _; go_simp; try with_reducible rfl
        go_simp
        refine hK _ ?_; clear hK K
        refine wpQuiet_nil ?_
        intro w9 hk9
        go_wp2
        go_ret
        exact ⟨by first | rfl | simp, H07.out.then hk9⟩
    · obtain ⟨b, off, c2, e, hnc, htk⟩ := hU.takeV (i := 1030) h1
      simp only [Value.slice.injEq] at e
      obtain ⟨rfl, -, rfl⟩ := e
      have CUT := hIX b off rfl (by omega) (by omega)
      have hUL : UsAt L (.slice (some ⟨b, off, none⟩) 1030 c) w := by rw [hL]; exact htk
      obtain ⟨ln, hln⟩ : ∃ n, n = l.length := ⟨_, rfl⟩
      rw [← hln] at CUT ⊢
      have b1 : decide ((ln : Int) > 1030) = true := decide_eq_true (by omega)
      have b1i : (1030 : Int) < ln := by omega
      clear hIX hnc htk hU hcap hL h1 hln
      have hNM : name = str NL := by rw [hNL, List.take_of_length_le (by omega)]; exact hname.symm
      have b2 : decide ((name.size : Int) > 60) = false := decide_eq_false (by omega)
      have b2i : ¬ (60 : Int) < name.size := by omega
      clear hNL h2 hname hns
      obtain ⟨G, hG⟩ : ∃ G, G = ofQ NL S.data.toList L := ⟨_, rfl⟩
      obtain ⟨R, hR⟩ : ∃ R, R = G.getD Rp.zero := ⟨_, rfl⟩
      obtain ⟨GE, hge⟩ : ∃ e, e = okV G := ⟨_, rfl⟩
      obtain ⟨GO, hgo⟩ : ∃ e, e = G.isSome := ⟨_, rfl⟩
      have hco := CO NL S L _ w hNl hSl hUL hLl
      have hcd := fun W (h : Kept w W) => rof16_any NL (by unfold maxLen; omega) S (by omega) L _ W (hUL.later h) (by omega)
      rw [← hG, ← hR, ← hge, ← hNM] at hco
      rw [← hG, ← hR, ← hgo, ← hNM] at hcd
      have hrl : R.mans.length ≤ 1030 := by
        rw [hR, hG]
        unfold ofQ
        split
        · exact hLl'
        · exact Nat.zero_le _
      have HRL : Hid (R.mans.length ≤ 100000) := Lib.hid (by omega)
      have HRL2 : Hid (R.mans.length ≤ 1000000) := Lib.hid (by omega)
      have HF1 : Hid (decide (fitsQ R S.data.toList) = GO) := Lib.hid (by
        rw [hgo, hR, hG]
        unfold ofQ
        split
        · rename_i hm
          exact decide_eq_true ⟨hm, rfl, rfl, rfl⟩
        · exact decide_eq_false (fun h => absurd h.1 (by decide)))
      have HGE : Hid (GE = (if GO then 0 else 1) ∧ True) := Lib.hid ⟨by rw [hge, hgo]; rfl, trivial⟩
      obtain ⟨nm, hnm⟩ : ∃ x, x = str R.name := ⟨_, rfl⟩
      obtain ⟨z, hz⟩ : ∃ x, x = R.size := ⟨_, rfl⟩
      obtain ⟨x, hx⟩ : ∃ x, x = R.re := ⟨_, rfl⟩
      obtain ⟨y, hy⟩ : ∃ x, x = R.im := ⟨_, rfl⟩
      obtain ⟨n, hn⟩ : ∃ x, x = R.mans.length := ⟨_, rfl⟩
      have HCR : Hid (∀ u W, RpIs R u W → ∃ p c, u = .agg #[.string nm, .int .i64 z, .int .i64 x, .int .i64 y, .slice p n c]) := Lib.hid (fun u W h => by
        obtain ⟨p, c, e⟩ := h.cutQ
        exact ⟨p, c, by rw [e, hnm, hz, hx, hy, hn]⟩)
      have HCO := Lib.hid hco
      have HCD := Lib.hid hcd
      clear hG hR hge hgo hco hcd hrl hnm hz hx hy hn hNl hSl hUL hLl hLl' hNM
      clear CO
      cases GO with
      | false =>
        go_enter Tryd.func6, Tryd.ntmps6
        go_wp2_with fail
        refine (HC1.out _).mono ?_
        rintro e w' ⟨rfl, rfl⟩
        go_wp2_with fail
        refine (HC2.out _).mono ?_
        rintro e w' ⟨rfl, rfl⟩
        go_wp2_with fail
        refine (HCO.out).mono ?_
        rintro e w1 ⟨⟨u, rfl, hu⟩, hk1⟩
        obtain ⟨p1, c1, rfl⟩ := HCR.out _ _ hu
        obtain ⟨W2, hW2⟩ : ∃ W, W = w1.alloc (.cells #[.string nm, .int .i64 z, .int .i64 x, .int .i64 y, .slice p1 n c1] 24) := ⟨_, rfl⟩
        have hk2 : Kept w1 W2 := by rw [hW2]; exact box_below _ _
        have H02 : Hid (Kept w W2) := Lib.hid (hk1.then hk2)
        have HR2 : Hid (Row5 w1.heap.size (.string nm) (.int .i64 z) (.int .i64 x) (.int .i64 y) (.slice p1 n c1) W2) := Lib.hid ⟨by rw [hW2]; exact heap_alloc_last w1 _⟩
        have HU2 := Lib.hid (hu.later hk2)
        have HW2 := Lib.hid hW2
        clear hk1 hu hk2 hW2
        go_wp2_with (with_reducible refine wpList_halt (d := 38) rfl ?_)
        unfold Halted
        rw [← HW2.out]
        go_wp2_with fail
        refine (HCD.out W2 H02.out).mono ?_
        rintro e w3 ⟨⟨u, rfl, hu⟩, hk3⟩
        obtain ⟨p2, c2, rfl⟩ := HCR.out _ _ hu
        obtain ⟨W4, hW4⟩ : ∃ W, W = w3.alloc (.cells #[.string nm, .int .i64 z, .int .i64 x, .int .i64 y, .slice p2 n c2] 24) := ⟨_, rfl⟩
        have hk4 : Kept w3 W4 := by rw [hW4]; exact box_below _ _
        have H04 : Hid (Kept w W4) := Lib.hid ((H02.out.then hk3).then hk4)
        have HR4 : Hid (Row5 w1.heap.size (.string nm) (.int .i64 z) (.int .i64 x) (.int .i64 y) (.slice p1 n c1) W4) := Lib.hid ((HR2.out.later hk3).later hk4)
        have HX4 : Hid (Row5 w3.heap.size (.string nm) (.int .i64 z) (.int .i64 x) (.int .i64 y) (.slice p2 n c2) W4) := Lib.hid ⟨by rw [hW4]; exact heap_alloc_last w3 _⟩
        have HU4 := Lib.hid ((HU2.out.later hk3).later hk4)
        have HV4 := Lib.hid (hu.later hk4)
        have HW4 := Lib.hid hW4
        clear hk3 hu hk4 hW4 HW2 H02 HR2 HU2
        have a0 := HR4.out.c0
        have a1 := HR4.out.c1
        have a2 := HR4.out.c2
        have a3 := HR4.out.c3
        have a4 := HR4.out.c4
        have d0 := HX4.out.c0
        have d1 := HX4.out.c1
        have d2 := HX4.out.c2
        have d3 := HX4.out.c3
        have d4 := HX4.out.c4
        have CS := rsame16_any R R _ _ W4 HU4.out HV4.out HRL2.out HRL2.out
        rw [decide_eq_true (rfl : R = R)] at CS
        go_wp2_with (with_reducible refine wpList_halt (d := 41) rfl ?_)
        unfold Halted
        rw [← HW4.out]
        go_wp2_with fail
        refine CS.mono ?_
        rintro e w5 ⟨rfl, hk5⟩
        have H05 := Lib.hid (H04.out.then hk5)
        have HR5 := Lib.hid (HR4.out.later hk5)
        have HX5 := Lib.hid (HX4.out.later hk5)
        have HU5 := Lib.hid (HU4.out.later hk5)
        have HV5 := Lib.hid (HV4.out.later hk5)
        clear hk5 CS HW4 H04 HR4 HX4 HU4 HV4 a0 a1 a2 a3 a4 d0 d1 d2 d3 d4
        have AW1 := HAW.out w5 (HT.out.later H05.out)
        have e1 : (GE == 0) = false := by rw [HGE.out.1]; rfl
        have e2 : (GE != 1) = false := by rw [HGE.out.1]; rfl
        have e3 : (GE == 1) = true := by rw [HGE.out.1]; rfl
        go_wp2_with fail
        refine AW1.mono ?_
        rintro e w7 ⟨rfl, hk7⟩
        have H07 := Lib.hid (H05.out.then hk7)
        have HR7 := Lib.hid (HR5.out.later hk7)
        have HX7 := Lib.hid (HX5.out.later hk7)
        have HU7 := Lib.hid (HU5.out.later hk7)
        have HV7 := Lib.hid (HV5.out.later hk7)
        clear hk7 AW1 H05 HR5 HX5 HU5 HV5
        have CF1 := fun W (h : Kept w7 W) => Calls.kept_of' h (HCF.out R _ S W (HU7.out.later h) HRL.out HSZ.out.1)
        have CF2 := fun W (h : Kept w7 W) => Calls.kept_of' h (HCF.out R _ T W (HU7.out.later h) HRL.out HSZ.out.2)
        have CF3 := fun W (h : Kept w7 W) => Calls.kept_of' h (rfits16_any R _ T (by have := HSZ.out.2; omega) W (HV7.out.later h) HRL2.out)
        obtain ⟨q, hq⟩ : ∃ q, q = decide (fitsQ R T.data.toList) := ⟨_, rfl⟩
        rw [← hq] at CF2 CF3
        rw [HF1.out] at CF1
        have qq : (q == q) = true := by simp
        clear hq
        go_wp2_with fail
        refine wp_region_kept (by kernel_rfl) (by kernel_rfl) ?_
        refine wpQuiet_load_row (by kernel_rfl) _ _ rfl w1.heap.size rfl 24 _ (0, 0) _ (fun _ h => h.row HR7.out.row) Tryd.underlying24 rfl infoRp (fun K hK => ?_)
        go_simp
        refine hK _ ?_; clear hK K
        refine wpQuiet_pure (v := ?_) (by kernel_rfl) ?_ (fun K hK => ?_)
        case refine_2 => intro W _; go_simp; try with_reducible rfl
        go_simp
        refine hK _ ?_; clear hK K
        refine wpQuiet_call (by kernel_rfl) _ _ _ (fun W => by go_simp) (fun W h => CF1 W h) (fun K hK => ?_)
        go_simp
        refine hK _ ?_; clear hK K
        refine wpQuiet_pure (v := ?_) (by kernel_rfl) ?_ (fun K hK => ?_)
        case refine_2 => intro W _; go_simp; try with_reducible rfl
        go_simp
        refine hK _ ?_; clear hK K
        refine wpQuiet_pure (by kernel_rfl) (.bool true) (fun W _ => by go_simp) (fun K hK => ?_)
        go_simp
        refine hK _ ?_; clear hK K
        refine wpQuiet_pure (v := ?_) (by kernel_rfl) ?_ (fun K hK => ?_)
        case refine_2 => intro W _; go_simp; try with_reducible rfl
        go_simp
        refine hK _ ?_; clear hK K
        refine wpQuiet_load_row (by kernel_rfl) _ _ rfl w1.heap.size rfl 24 _ (0, 0) _ (fun _ h => h.row HR7.out.row) Tryd.underlying24 rfl infoRp (fun K hK => ?_)
        go_simp
        refine hK _ ?_; clear hK K
        refine wpQuiet_pure (v := ?_) (by kernel_rfl) ?_ (fun K hK => ?_)
        case refine_2 => intro W _; go_simp; try with_reducible rfl
        go_simp
        refine hK _ ?_; clear hK K
        refine wpQuiet_call (by kernel_rfl) _ _ _ (fun W => by go_simp) (fun W h => CF2 W h) (fun K hK => ?_)
        go_simp
        refine hK _ ?_; clear hK K
        refine wpQuiet_load_row (by kernel_rfl) _ _ rfl w3.heap.size rfl 24 _ (0, 0) _ (fun _ h => h.row HX7.out.row) Tryd.underlying24 rfl infoRp (fun K hK => ?_)
        go_simp
        refine hK _ ?_; clear hK K
        refine wpQuiet_pure (v := ?_) (by kernel_rfl) ?_ (fun K hK => ?_)
        case refine_2 => intro W _; go_simp; try with_reducible rfl
        go_simp
        refine hK _ ?_; clear hK K
        refine wpQuiet_call (by kernel_rfl) _ _ _ (fun W => by go_simp) (fun W h => CF3 W h) (fun K hK => ?_)
        go_simp
        refine hK _ ?_; clear hK K
        refine wpQuiet_pure (by kernel_rfl) (.bool true) (fun W _ => by go_simp) (fun K hK => ?_)
        go_simp
        refine hK _ ?_; clear hK K
        refine wpQuiet_pure (v := ?_) (by kernel_rfl) ?_ (fun K hK => ?_)
        case refine_2 => intro W _; go_simp; try with_reducible rfl
        go_simp
        refine hK _ ?_; clear hK K
        refine wpQuiet_pure (v := ?_) (by kernel_rfl) ?_ (fun K hK => ?_)
        case refine_2 => intro W _; go_simp; try with_reducible rfl
        go_simp
        refine hK _ ?_; clear hK K
        refine wpQuiet_nil ?_
        intro w9 hk9
        go_wp2
        go_ret
        exact ⟨by first | rfl | simp, H07.out.then hk9⟩
      | true =>
        go_enter Tryd.func6, Tryd.ntmps6
        go_wp2_with fail
        refine (HC1.out _).mono ?_
        rintro e w' ⟨rfl, rfl⟩
        go_wp2_with fail
        refine (HC2.out _).mono ?_
        rintro e w' ⟨rfl, rfl⟩
        go_wp2_with fail
        refine (HCO.out).mono ?_
        rintro e w1 ⟨⟨u, rfl, hu⟩, hk1⟩
        obtain ⟨p1, c1, rfl⟩ := HCR.out _ _ hu
        obtain ⟨W2, hW2⟩ : ∃ W, W = w1.alloc (.cells #[.string nm, .int .i64 z, .int .i64 x, .int .i64 y, .slice p1 n c1] 24) := ⟨_, rfl⟩
        have hk2 : Kept w1 W2 := by rw [hW2]; exact box_below _ _
        have H02 : Hid (Kept w W2) := Lib.hid (hk1.then hk2)
        have HR2 : Hid (Row5 w1.heap.size (.string nm) (.int .i64 z) (.int .i64 x) (.int .i64 y) (.slice p1 n c1) W2) := Lib.hid ⟨by rw [hW2]; exact heap_alloc_last w1 _⟩
        have HU2 := Lib.hid (hu.later hk2)
        have HW2 := Lib.hid hW2
        clear hk1 hu hk2 hW2
        go_wp2_with (with_reducible refine wpList_halt (d := 38) rfl ?_)
        unfold Halted
        rw [← HW2.out]
        go_wp2_with fail
        refine (HCD.out W2 H02.out).mono ?_
        rintro e w3 ⟨⟨u, rfl, hu⟩, hk3⟩
        obtain ⟨p2, c2, rfl⟩ := HCR.out _ _ hu
        obtain ⟨W4, hW4⟩ : ∃ W, W = w3.alloc (.cells #[.string nm, .int .i64 z, .int .i64 x, .int .i64 y, .slice p2 n c2] 24) := ⟨_, rfl⟩
        have hk4 : Kept w3 W4 := by rw [hW4]; exact box_below _ _
        have H04 : Hid (Kept w W4) := Lib.hid ((H02.out.then hk3).then hk4)
        have HR4 : Hid (Row5 w1.heap.size (.string nm) (.int .i64 z) (.int .i64 x) (.int .i64 y) (.slice p1 n c1) W4) := Lib.hid ((HR2.out.later hk3).later hk4)
        have HX4 : Hid (Row5 w3.heap.size (.string nm) (.int .i64 z) (.int .i64 x) (.int .i64 y) (.slice p2 n c2) W4) := Lib.hid ⟨by rw [hW4]; exact heap_alloc_last w3 _⟩
        have HU4 := Lib.hid ((HU2.out.later hk3).later hk4)
        have HV4 := Lib.hid (hu.later hk4)
        have HW4 := Lib.hid hW4
        clear hk3 hu hk4 hW4 HW2 H02 HR2 HU2
        have a0 := HR4.out.c0
        have a1 := HR4.out.c1
        have a2 := HR4.out.c2
        have a3 := HR4.out.c3
        have a4 := HR4.out.c4
        have d0 := HX4.out.c0
        have d1 := HX4.out.c1
        have d2 := HX4.out.c2
        have d3 := HX4.out.c3
        have d4 := HX4.out.c4
        have CS := rsame16_any R R _ _ W4 HU4.out HV4.out HRL2.out HRL2.out
        rw [decide_eq_true (rfl : R = R)] at CS
        go_wp2_with (with_reducible refine wpList_halt (d := 41) rfl ?_)
        unfold Halted
        rw [← HW4.out]
        go_wp2_with fail
        refine CS.mono ?_
        rintro e w5 ⟨rfl, hk5⟩
        have H05 := Lib.hid (H04.out.then hk5)
        have HR5 := Lib.hid (HR4.out.later hk5)
        have HX5 := Lib.hid (HX4.out.later hk5)
        have HU5 := Lib.hid (HU4.out.later hk5)
        have HV5 := Lib.hid (HV4.out.later hk5)
        clear hk5 CS HW4 H04 HR4 HX4 HU4 HV4 a0 a1 a2 a3 a4 d0 d1 d2 d3 d4
        have AW1 := HAW.out w5 (HT.out.later H05.out)
        have e1 : (GE == 0) = true := by rw [HGE.out.1]; rfl
        have e2 : (GE != 0) = false := by rw [HGE.out.1]; rfl
        go_wp2_with fail
        refine AW1.mono ?_
        rintro e w7 ⟨rfl, hk7⟩
        have H07 := Lib.hid (H05.out.then hk7)
        have HR7 := Lib.hid (HR5.out.later hk7)
        have HX7 := Lib.hid (HX5.out.later hk7)
        have HU7 := Lib.hid (HU5.out.later hk7)
        have HV7 := Lib.hid (HV5.out.later hk7)
        clear hk7 AW1 H05 HR5 HX5 HU5 HV5
        have CF1 := fun W (h : Kept w7 W) => Calls.kept_of' h (HCF.out R _ S W (HU7.out.later h) HRL.out HSZ.out.1)
        have CF2 := fun W (h : Kept w7 W) => Calls.kept_of' h (HCF.out R _ T W (HU7.out.later h) HRL.out HSZ.out.2)
        have CF3 := fun W (h : Kept w7 W) => Calls.kept_of' h (rfits16_any R _ T (by have := HSZ.out.2; omega) W (HV7.out.later h) HRL2.out)
        obtain ⟨q, hq⟩ : ∃ q, q = decide (fitsQ R T.data.toList) := ⟨_, rfl⟩
        rw [← hq] at CF2 CF3
        rw [HF1.out] at CF1
        have qq : (q == q) = true := by simp
        clear hq
        go_wp2_with fail
        refine wp_region_kept (by kernel_rfl) (by kernel_rfl) ?_
        refine wpQuiet_load_row (by kernel_rfl) _ _ rfl w1.heap.size rfl 24 _ (0, 0) _ (fun _ h => h.row HR7.out.row) Tryd.underlying24 rfl infoRp (fun K hK => ?_)
        go_simp
        refine hK _ ?_; clear hK K
        refine wpQuiet_pure (v := ?_) (by kernel_rfl) ?_ (fun K hK => ?_)
        case refine_2 => intro W _; go_simp; try with_reducible rfl
        go_simp
        refine hK _ ?_; clear hK K
        refine wpQuiet_call (by kernel_rfl) _ _ _ (fun W => by go_simp) (fun W h => CF1 W h) (fun K hK => ?_)
        go_simp
        refine hK _ ?_; clear hK K
        refine wpQuiet_pure (v := ?_) (by kernel_rfl) ?_ (fun K hK => ?_)
        case refine_2 => intro W _; go_simp; try with_reducible rfl
        go_simp
        refine hK _ ?_; clear hK K
        refine wpQuiet_pure (by kernel_rfl) (.bool true) (fun W _ => by go_simp) (fun K hK => ?_)
        go_simp
        refine hK _ ?_; clear hK K
        refine wpQuiet_pure (v := ?_) (by kernel_rfl) ?_ (fun K hK => ?_)
        case refine_2 => intro W _; go_simp; try with_reducible rfl
        go_simp
        refine hK _ ?_; clear hK K
        refine wpQuiet_load_row (by kernel_rfl) _ _ rfl w1.heap.size rfl 24 _ (0, 0) _ (fun _ h => h.row HR7.out.row) Tryd.underlying24 rfl infoRp (fun K hK => ?_)
        go_simp
        refine hK _ ?_; clear hK K
        refine wpQuiet_pure (v := ?_) (by kernel_rfl) ?_ (fun K hK => ?_)
        case refine_2 => intro W _; go_simp; try with_reducible rfl
        go_simp
        refine hK _ ?_; clear hK K
        refine wpQuiet_call (by kernel_rfl) _ _ _ (fun W => by go_simp) (fun W h => CF2 W h) (fun K hK => ?_)
        go_simp
        refine hK _ ?_; clear hK K
        refine wpQuiet_load_row (by kernel_rfl) _ _ rfl w3.heap.size rfl 24 _ (0, 0) _ (fun _ h => h.row HX7.out.row) Tryd.underlying24 rfl infoRp (fun K hK => ?_)
        go_simp
        refine hK _ ?_; clear hK K
        refine wpQuiet_pure (v := ?_) (by kernel_rfl) ?_ (fun K hK => ?_)
        case refine_2 => intro W _; go_simp; try with_reducible rfl
        go_simp
        refine hK _ ?_; clear hK K
        refine wpQuiet_call (by kernel_rfl) _ _ _ (fun W => by go_simp) (fun W h => CF3 W h) (fun K hK => ?_)
        go_simp
        refine hK _ ?_; clear hK K
        refine wpQuiet_pure (by kernel_rfl) (.bool true) (fun W _ => by go_simp) (fun K hK => ?_)
        go_simp
        refine hK _ ?_; clear hK K
        refine wpQuiet_pure (v := ?_) (by kernel_rfl) ?_ (fun K hK => ?_)
        case refine_2 => intro W _; go_simp; try with_reducible rfl
        go_simp
        refine hK _ ?_; clear hK K
        refine wpQuiet_pure (v := ?_) (by kernel_rfl) ?_ (fun K hK => ?_)
        case refine_2 => intro W _; go_simp; try with_reducible rfl
        go_simp
        refine hK _ ?_; clear hK K
        refine wpQuiet_nil ?_
        intro w9 hk9
        go_wp2
        go_ret
        exact ⟨by first | rfl | simp, H07.out.then hk9⟩
  · by_cases h2 : 60 < name.size
    · have hUL : UsAt L (.slice p l.length c) w := by rw [hL, List.take_of_length_le (by omega)]; exact hU
      obtain ⟨ln, hln⟩ : ∃ n, n = l.length := ⟨_, rfl⟩
      rw [← hln] at hUL ⊢
      have b1 : decide ((ln : Int) > 1030) = false := decide_eq_false (by omega)
      have b1i : ¬ (1030 : Int) < ln := by omega
      clear hIX hU hcap hL h1 hln
      obtain ⟨NM, hNMx⟩ : ∃ N, N = name.extract 0 60 := ⟨_, rfl⟩
      have hNM : NM = str NL := by rw [hNMx, hNL, ← str_takeQ, hname]
      have ex : name.extract 0 60 = NM := hNMx.symm
      have b2 : decide ((name.size : Int) > 60) = true := decide_eq_true (by omega)
      have b2i : (60 : Int) < name.size := by omega
      have b2j : (60 : Int) ≤ name.size := by omega
      clear hNMx hNL h2 hname hns
      obtain ⟨G, hG⟩ : ∃ G, G = ofQ NL S.data.toList L := ⟨_, rfl⟩
      obtain ⟨R, hR⟩ : ∃ R, R = G.getD Rp.zero := ⟨_, rfl⟩
      obtain ⟨GE, hge⟩ : ∃ e, e = okV G := ⟨_, rfl⟩
      obtain ⟨GO, hgo⟩ : ∃ e, e = G.isSome := ⟨_, rfl⟩
      have hco := CO NL S L _ w hNl hSl hUL hLl
      have hcd := fun W (h : Kept w W) => rof16_any NL (by unfold maxLen; omega) S (by omega) L _ W (hUL.later h) (by omega)
      rw [← hG, ← hR, ← hge, ← hNM] at hco
      rw [← hG, ← hR, ← hgo, ← hNM] at hcd
      have hrl : R.mans.length ≤ 1030 := by
        rw [hR, hG]
        unfold ofQ
        split
        · exact hLl'
        · exact Nat.zero_le _
      have HRL : Hid (R.mans.length ≤ 100000) := Lib.hid (by omega)
      have HRL2 : Hid (R.mans.length ≤ 1000000) := Lib.hid (by omega)
      have HF1 : Hid (decide (fitsQ R S.data.toList) = GO) := Lib.hid (by
        rw [hgo, hR, hG]
        unfold ofQ
        split
        · rename_i hm
          exact decide_eq_true ⟨hm, rfl, rfl, rfl⟩
        · exact decide_eq_false (fun h => absurd h.1 (by decide)))
      have HGE : Hid (GE = (if GO then 0 else 1) ∧ True) := Lib.hid ⟨by rw [hge, hgo]; rfl, trivial⟩
      obtain ⟨nm, hnm⟩ : ∃ x, x = str R.name := ⟨_, rfl⟩
      obtain ⟨z, hz⟩ : ∃ x, x = R.size := ⟨_, rfl⟩
      obtain ⟨x, hx⟩ : ∃ x, x = R.re := ⟨_, rfl⟩
      obtain ⟨y, hy⟩ : ∃ x, x = R.im := ⟨_, rfl⟩
      obtain ⟨n, hn⟩ : ∃ x, x = R.mans.length := ⟨_, rfl⟩
      have HCR : Hid (∀ u W, RpIs R u W → ∃ p c, u = .agg #[.string nm, .int .i64 z, .int .i64 x, .int .i64 y, .slice p n c]) := Lib.hid (fun u W h => by
        obtain ⟨p, c, e⟩ := h.cutQ
        exact ⟨p, c, by rw [e, hnm, hz, hx, hy, hn]⟩)
      have HCO := Lib.hid hco
      have HCD := Lib.hid hcd
      clear hG hR hge hgo hco hcd hrl hnm hz hx hy hn hNl hSl hUL hLl hLl' hNM
      clear CO
      cases GO with
      | false =>
        go_enter Tryd.func6, Tryd.ntmps6
        go_wp2_with fail
        refine (HC1.out _).mono ?_
        rintro e w' ⟨rfl, rfl⟩
        go_wp2_with fail
        refine (HC2.out _).mono ?_
        rintro e w' ⟨rfl, rfl⟩
        go_wp2_with fail
        refine (HCO.out).mono ?_
        rintro e w1 ⟨⟨u, rfl, hu⟩, hk1⟩
        obtain ⟨p1, c1, rfl⟩ := HCR.out _ _ hu
        obtain ⟨W2, hW2⟩ : ∃ W, W = w1.alloc (.cells #[.string nm, .int .i64 z, .int .i64 x, .int .i64 y, .slice p1 n c1] 24) := ⟨_, rfl⟩
        have hk2 : Kept w1 W2 := by rw [hW2]; exact box_below _ _
        have H02 : Hid (Kept w W2) := Lib.hid (hk1.then hk2)
        have HR2 : Hid (Row5 w1.heap.size (.string nm) (.int .i64 z) (.int .i64 x) (.int .i64 y) (.slice p1 n c1) W2) := Lib.hid ⟨by rw [hW2]; exact heap_alloc_last w1 _⟩
        have HU2 := Lib.hid (hu.later hk2)
        have HW2 := Lib.hid hW2
        clear hk1 hu hk2 hW2
        go_wp2_with (with_reducible refine wpList_halt (d := 38) rfl ?_)
        unfold Halted
        rw [← HW2.out]
        go_wp2_with fail
        refine (HCD.out W2 H02.out).mono ?_
        rintro e w3 ⟨⟨u, rfl, hu⟩, hk3⟩
        obtain ⟨p2, c2, rfl⟩ := HCR.out _ _ hu
        obtain ⟨W4, hW4⟩ : ∃ W, W = w3.alloc (.cells #[.string nm, .int .i64 z, .int .i64 x, .int .i64 y, .slice p2 n c2] 24) := ⟨_, rfl⟩
        have hk4 : Kept w3 W4 := by rw [hW4]; exact box_below _ _
        have H04 : Hid (Kept w W4) := Lib.hid ((H02.out.then hk3).then hk4)
        have HR4 : Hid (Row5 w1.heap.size (.string nm) (.int .i64 z) (.int .i64 x) (.int .i64 y) (.slice p1 n c1) W4) := Lib.hid ((HR2.out.later hk3).later hk4)
        have HX4 : Hid (Row5 w3.heap.size (.string nm) (.int .i64 z) (.int .i64 x) (.int .i64 y) (.slice p2 n c2) W4) := Lib.hid ⟨by rw [hW4]; exact heap_alloc_last w3 _⟩
        have HU4 := Lib.hid ((HU2.out.later hk3).later hk4)
        have HV4 := Lib.hid (hu.later hk4)
        have HW4 := Lib.hid hW4
        clear hk3 hu hk4 hW4 HW2 H02 HR2 HU2
        have a0 := HR4.out.c0
        have a1 := HR4.out.c1
        have a2 := HR4.out.c2
        have a3 := HR4.out.c3
        have a4 := HR4.out.c4
        have d0 := HX4.out.c0
        have d1 := HX4.out.c1
        have d2 := HX4.out.c2
        have d3 := HX4.out.c3
        have d4 := HX4.out.c4
        have CS := rsame16_any R R _ _ W4 HU4.out HV4.out HRL2.out HRL2.out
        rw [decide_eq_true (rfl : R = R)] at CS
        go_wp2_with (with_reducible refine wpList_halt (d := 41) rfl ?_)
        unfold Halted
        rw [← HW4.out]
        go_wp2_with fail
        refine CS.mono ?_
        rintro e w5 ⟨rfl, hk5⟩
        have H05 := Lib.hid (H04.out.then hk5)
        have HR5 := Lib.hid (HR4.out.later hk5)
        have HX5 := Lib.hid (HX4.out.later hk5)
        have HU5 := Lib.hid (HU4.out.later hk5)
        have HV5 := Lib.hid (HV4.out.later hk5)
        clear hk5 CS HW4 H04 HR4 HX4 HU4 HV4 a0 a1 a2 a3 a4 d0 d1 d2 d3 d4
        have AW1 := HAW.out w5 (HT.out.later H05.out)
        have e1 : (GE == 0) = false := by rw [HGE.out.1]; rfl
        have e2 : (GE != 1) = false := by rw [HGE.out.1]; rfl
        have e3 : (GE == 1) = true := by rw [HGE.out.1]; rfl
        go_wp2_with fail
        refine AW1.mono ?_
        rintro e w7 ⟨rfl, hk7⟩
        have H07 := Lib.hid (H05.out.then hk7)
        have HR7 := Lib.hid (HR5.out.later hk7)
        have HX7 := Lib.hid (HX5.out.later hk7)
        have HU7 := Lib.hid (HU5.out.later hk7)
        have HV7 := Lib.hid (HV5.out.later hk7)
        clear hk7 AW1 H05 HR5 HX5 HU5 HV5
        have CF1 := fun W (h : Kept w7 W) => Calls.kept_of' h (HCF.out R _ S W (HU7.out.later h) HRL.out HSZ.out.1)
        have CF2 := fun W (h : Kept w7 W) => Calls.kept_of' h (HCF.out R _ T W (HU7.out.later h) HRL.out HSZ.out.2)
        have CF3 := fun W (h : Kept w7 W) => Calls.kept_of' h (rfits16_any R _ T (by have := HSZ.out.2; omega) W (HV7.out.later h) HRL2.out)
        obtain ⟨q, hq⟩ : ∃ q, q = decide (fitsQ R T.data.toList) := ⟨_, rfl⟩
        rw [← hq] at CF2 CF3
        rw [HF1.out] at CF1
        have qq : (q == q) = true := by simp
        clear hq
        go_wp2_with fail
        refine wp_region_kept (by kernel_rfl) (by kernel_rfl) ?_
        refine wpQuiet_load_row (by kernel_rfl) _ _ rfl w1.heap.size rfl 24 _ (0, 0) _ (fun _ h => h.row HR7.out.row) Tryd.underlying24 rfl infoRp (fun K hK => ?_)
        go_simp
        refine hK _ ?_; clear hK K
        refine wpQuiet_pure (v := ?_) (by kernel_rfl) ?_ (fun K hK => ?_)
        case refine_2 => intro W _; go_simp; try with_reducible rfl
        go_simp
        refine hK _ ?_; clear hK K
        refine wpQuiet_call (by kernel_rfl) _ _ _ (fun W => by go_simp) (fun W h => CF1 W h) (fun K hK => ?_)
        go_simp
        refine hK _ ?_; clear hK K
        refine wpQuiet_pure (v := ?_) (by kernel_rfl) ?_ (fun K hK => ?_)
        case refine_2 => intro W _; go_simp; try with_reducible rfl
        go_simp
        refine hK _ ?_; clear hK K
        refine wpQuiet_pure (by kernel_rfl) (.bool true) (fun W _ => by go_simp) (fun K hK => ?_)
        go_simp
        refine hK _ ?_; clear hK K
        refine wpQuiet_pure (v := ?_) (by kernel_rfl) ?_ (fun K hK => ?_)
        case refine_2 => intro W _; go_simp; try with_reducible rfl
        go_simp
        refine hK _ ?_; clear hK K
        refine wpQuiet_load_row (by kernel_rfl) _ _ rfl w1.heap.size rfl 24 _ (0, 0) _ (fun _ h => h.row HR7.out.row) Tryd.underlying24 rfl infoRp (fun K hK => ?_)
        go_simp
        refine hK _ ?_; clear hK K
        refine wpQuiet_pure (v := ?_) (by kernel_rfl) ?_ (fun K hK => ?_)
        case refine_2 => intro W _; go_simp; try with_reducible rfl
        go_simp
        refine hK _ ?_; clear hK K
        refine wpQuiet_call (by kernel_rfl) _ _ _ (fun W => by go_simp) (fun W h => CF2 W h) (fun K hK => ?_)
        go_simp
        refine hK _ ?_; clear hK K
        refine wpQuiet_load_row (by kernel_rfl) _ _ rfl w3.heap.size rfl 24 _ (0, 0) _ (fun _ h => h.row HX7.out.row) Tryd.underlying24 rfl infoRp (fun K hK => ?_)
        go_simp
        refine hK _ ?_; clear hK K
        refine wpQuiet_pure (v := ?_) (by kernel_rfl) ?_ (fun K hK => ?_)
        case refine_2 => intro W _; go_simp; try with_reducible rfl
        go_simp
        refine hK _ ?_; clear hK K
        refine wpQuiet_call (by kernel_rfl) _ _ _ (fun W => by go_simp) (fun W h => CF3 W h) (fun K hK => ?_)
        go_simp
        refine hK _ ?_; clear hK K
        refine wpQuiet_pure (by kernel_rfl) (.bool true) (fun W _ => by go_simp) (fun K hK => ?_)
        go_simp
        refine hK _ ?_; clear hK K
        refine wpQuiet_pure (v := ?_) (by kernel_rfl) ?_ (fun K hK => ?_)
        case refine_2 => intro W _; go_simp; try with_reducible rfl
        go_simp
        refine hK _ ?_; clear hK K
        refine wpQuiet_pure (v := ?_) (by kernel_rfl) ?_ (fun K hK => ?_)
        case refine_2 => intro W _; go_simp; try with_reducible rfl
        go_simp
        refine hK _ ?_; clear hK K
        refine wpQuiet_nil ?_
        intro w9 hk9
        go_wp2
        go_ret
        exact ⟨by first | rfl | simp, H07.out.then hk9⟩
      | true =>
        go_enter Tryd.func6, Tryd.ntmps6
        go_wp2_with fail
        refine (HC1.out _).mono ?_
        rintro e w' ⟨rfl, rfl⟩
        go_wp2_with fail
        refine (HC2.out _).mono ?_
        rintro e w' ⟨rfl, rfl⟩
        go_wp2_with fail
        refine (HCO.out).mono ?_
        rintro e w1 ⟨⟨u, rfl, hu⟩, hk1⟩
        obtain ⟨p1, c1, rfl⟩ := HCR.out _ _ hu
        obtain ⟨W2, hW2⟩ : ∃ W, W = w1.alloc (.cells #[.string nm, .int .i64 z, .int .i64 x, .int .i64 y, .slice p1 n c1] 24) := ⟨_, rfl⟩
        have hk2 : Kept w1 W2 := by rw [hW2]; exact box_below _ _
        have H02 : Hid (Kept w W2) := Lib.hid (hk1.then hk2)
        have HR2 : Hid (Row5 w1.heap.size (.string nm) (.int .i64 z) (.int .i64 x) (.int .i64 y) (.slice p1 n c1) W2) := Lib.hid ⟨by rw [hW2]; exact heap_alloc_last w1 _⟩
        have HU2 := Lib.hid (hu.later hk2)
        have HW2 := Lib.hid hW2
        clear hk1 hu hk2 hW2
        go_wp2_with (with_reducible refine wpList_halt (d := 38) rfl ?_)
        unfold Halted
        rw [← HW2.out]
        go_wp2_with fail
        refine (HCD.out W2 H02.out).mono ?_
        rintro e w3 ⟨⟨u, rfl, hu⟩, hk3⟩
        obtain ⟨p2, c2, rfl⟩ := HCR.out _ _ hu
        obtain ⟨W4, hW4⟩ : ∃ W, W = w3.alloc (.cells #[.string nm, .int .i64 z, .int .i64 x, .int .i64 y, .slice p2 n c2] 24) := ⟨_, rfl⟩
        have hk4 : Kept w3 W4 := by rw [hW4]; exact box_below _ _
        have H04 : Hid (Kept w W4) := Lib.hid ((H02.out.then hk3).then hk4)
        have HR4 : Hid (Row5 w1.heap.size (.string nm) (.int .i64 z) (.int .i64 x) (.int .i64 y) (.slice p1 n c1) W4) := Lib.hid ((HR2.out.later hk3).later hk4)
        have HX4 : Hid (Row5 w3.heap.size (.string nm) (.int .i64 z) (.int .i64 x) (.int .i64 y) (.slice p2 n c2) W4) := Lib.hid ⟨by rw [hW4]; exact heap_alloc_last w3 _⟩
        have HU4 := Lib.hid ((HU2.out.later hk3).later hk4)
        have HV4 := Lib.hid (hu.later hk4)
        have HW4 := Lib.hid hW4
        clear hk3 hu hk4 hW4 HW2 H02 HR2 HU2
        have a0 := HR4.out.c0
        have a1 := HR4.out.c1
        have a2 := HR4.out.c2
        have a3 := HR4.out.c3
        have a4 := HR4.out.c4
        have d0 := HX4.out.c0
        have d1 := HX4.out.c1
        have d2 := HX4.out.c2
        have d3 := HX4.out.c3
        have d4 := HX4.out.c4
        have CS := rsame16_any R R _ _ W4 HU4.out HV4.out HRL2.out HRL2.out
        rw [decide_eq_true (rfl : R = R)] at CS
        go_wp2_with (with_reducible refine wpList_halt (d := 41) rfl ?_)
        unfold Halted
        rw [← HW4.out]
        go_wp2_with fail
        refine CS.mono ?_
        rintro e w5 ⟨rfl, hk5⟩
        have H05 := Lib.hid (H04.out.then hk5)
        have HR5 := Lib.hid (HR4.out.later hk5)
        have HX5 := Lib.hid (HX4.out.later hk5)
        have HU5 := Lib.hid (HU4.out.later hk5)
        have HV5 := Lib.hid (HV4.out.later hk5)
        clear hk5 CS HW4 H04 HR4 HX4 HU4 HV4 a0 a1 a2 a3 a4 d0 d1 d2 d3 d4
        have AW1 := HAW.out w5 (HT.out.later H05.out)
        have e1 : (GE == 0) = true := by rw [HGE.out.1]; rfl
        have e2 : (GE != 0) = false := by rw [HGE.out.1]; rfl
        go_wp2_with fail
        refine AW1.mono ?_
        rintro e w7 ⟨rfl, hk7⟩
        have H07 := Lib.hid (H05.out.then hk7)
        have HR7 := Lib.hid (HR5.out.later hk7)
        have HX7 := Lib.hid (HX5.out.later hk7)
        have HU7 := Lib.hid (HU5.out.later hk7)
        have HV7 := Lib.hid (HV5.out.later hk7)
        clear hk7 AW1 H05 HR5 HX5 HU5 HV5
        have CF1 := fun W (h : Kept w7 W) => Calls.kept_of' h (HCF.out R _ S W (HU7.out.later h) HRL.out HSZ.out.1)
        have CF2 := fun W (h : Kept w7 W) => Calls.kept_of' h (HCF.out R _ T W (HU7.out.later h) HRL.out HSZ.out.2)
        have CF3 := fun W (h : Kept w7 W) => Calls.kept_of' h (rfits16_any R _ T (by have := HSZ.out.2; omega) W (HV7.out.later h) HRL2.out)
        obtain ⟨q, hq⟩ : ∃ q, q = decide (fitsQ R T.data.toList) := ⟨_, rfl⟩
        rw [← hq] at CF2 CF3
        rw [HF1.out] at CF1
        have qq : (q == q) = true := by simp
        clear hq
        go_wp2_with fail
        refine wp_region_kept (by kernel_rfl) (by kernel_rfl) ?_
        refine wpQuiet_load_row (by kernel_rfl) _ _ rfl w1.heap.size rfl 24 _ (0, 0) _ (fun _ h => h.row HR7.out.row) Tryd.underlying24 rfl infoRp (fun K hK => ?_)
        go_simp
        refine hK _ ?_; clear hK K
        refine wpQuiet_pure (v := ?_) (by kernel_rfl) ?_ (fun K hK => ?_)
        case refine_2 => intro W _; go_simp; try with_reducible rfl
        go_simp
        refine hK _ ?_; clear hK K
        refine wpQuiet_call (by kernel_rfl) _ _ _ (fun W => by go_simp) (fun W h => CF1 W h) (fun K hK => ?_)
        go_simp
        refine hK _ ?_; clear hK K
        refine wpQuiet_pure (v := ?_) (by kernel_rfl) ?_ (fun K hK => ?_)
        case refine_2 => intro W _; go_simp; try with_reducible rfl
        go_simp
        refine hK _ ?_; clear hK K
        refine wpQuiet_pure (by kernel_rfl) (.bool true) (fun W _ => by go_simp) (fun K hK => ?_)
        go_simp
        refine hK _ ?_; clear hK K
        refine wpQuiet_pure (v := ?_) (by kernel_rfl) ?_ (fun K hK => ?_)
        case refine_2 => intro W _; go_simp; try with_reducible rfl
        go_simp
        refine hK _ ?_; clear hK K
        refine wpQuiet_load_row (by kernel_rfl) _ _ rfl w1.heap.size rfl 24 _ (0, 0) _ (fun _ h => h.row HR7.out.row) Tryd.underlying24 rfl infoRp (fun K hK => ?_)
        go_simp
        refine hK _ ?_; clear hK K
        refine wpQuiet_pure (v := ?_) (by kernel_rfl) ?_ (fun K hK => ?_)
        case refine_2 => intro W _; go_simp; try with_reducible rfl
        go_simp
        refine hK _ ?_; clear hK K
        refine wpQuiet_call (by kernel_rfl) _ _ _ (fun W => by go_simp) (fun W h => CF2 W h) (fun K hK => ?_)
        go_simp
        refine hK _ ?_; clear hK K
        refine wpQuiet_load_row (by kernel_rfl) _ _ rfl w3.heap.size rfl 24 _ (0, 0) _ (fun _ h => h.row HX7.out.row) Tryd.underlying24 rfl infoRp (fun K hK => ?_)
        go_simp
        refine hK _ ?_; clear hK K
        refine wpQuiet_pure (v := ?_) (by kernel_rfl) ?_ (fun K hK => ?_)
        case refine_2 => intro W _; go_simp; try with_reducible rfl
        go_simp
        refine hK _ ?_; clear hK K
        refine wpQuiet_call (by kernel_rfl) _ _ _ (fun W => by go_simp) (fun W h => CF3 W h) (fun K hK => ?_)
        go_simp
        refine hK _ ?_; clear hK K
        refine wpQuiet_pure (by kernel_rfl) (.bool true) (fun W _ => by go_simp) (fun K hK => ?_)
        go_simp
        refine hK _ ?_; clear hK K
        refine wpQuiet_pure (v := ?_) (by kernel_rfl) ?_ (fun K hK => ?_)
        case refine_2 => intro W _; go_simp; try with_reducible rfl
        go_simp
        refine hK _ ?_; clear hK K
        refine wpQuiet_pure (v := ?_) (by kernel_rfl) ?_ (fun K hK => ?_)
        case refine_2 => intro W _; go_simp; try with_reducible rfl
        go_simp
        refine hK _ ?_; clear hK K
        refine wpQuiet_nil ?_
        intro w9 hk9
        go_wp2
        go_ret
        exact ⟨by first | rfl | simp, H07.out.then hk9⟩
    · have hUL : UsAt L (.slice p l.length c) w := by rw [hL, List.take_of_length_le (by omega)]; exact hU
      obtain ⟨ln, hln⟩ : ∃ n, n = l.length := ⟨_, rfl⟩
      rw [← hln] at hUL ⊢
      have b1 : decide ((ln : Int) > 1030) = false := decide_eq_false (by omega)
      have b1i : ¬ (1030 : Int) < ln := by omega
      clear hIX hU hcap hL h1 hln
      have hNM : name = str NL := by rw [hNL, List.take_of_length_le (by omega)]; exact hname.symm
      have b2 : decide ((name.size : Int) > 60) = false := decide_eq_false (by omega)
      have b2i : ¬ (60 : Int) < name.size := by omega
      clear hNL h2 hname hns
      obtain ⟨G, hG⟩ : ∃ G, G = ofQ NL S.data.toList L := ⟨_, rfl⟩
      obtain ⟨R, hR⟩ : ∃ R, R = G.getD Rp.zero := ⟨_, rfl⟩
      obtain ⟨GE, hge⟩ : ∃ e, e = okV G := ⟨_, rfl⟩
      obtain ⟨GO, hgo⟩ : ∃ e, e = G.isSome := ⟨_, rfl⟩
      have hco := CO NL S L _ w hNl hSl hUL hLl
      have hcd := fun W (h : Kept w W) => rof16_any NL (by unfold maxLen; omega) S (by omega) L _ W (hUL.later h) (by omega)
      rw [← hG, ← hR, ← hge, ← hNM] at hco
      rw [← hG, ← hR, ← hgo, ← hNM] at hcd
      have hrl : R.mans.length ≤ 1030 := by
        rw [hR, hG]
        unfold ofQ
        split
        · exact hLl'
        · exact Nat.zero_le _
      have HRL : Hid (R.mans.length ≤ 100000) := Lib.hid (by omega)
      have HRL2 : Hid (R.mans.length ≤ 1000000) := Lib.hid (by omega)
      have HF1 : Hid (decide (fitsQ R S.data.toList) = GO) := Lib.hid (by
        rw [hgo, hR, hG]
        unfold ofQ
        split
        · rename_i hm
          exact decide_eq_true ⟨hm, rfl, rfl, rfl⟩
        · exact decide_eq_false (fun h => absurd h.1 (by decide)))
      have HGE : Hid (GE = (if GO then 0 else 1) ∧ True) := Lib.hid ⟨by rw [hge, hgo]; rfl, trivial⟩
      obtain ⟨nm, hnm⟩ : ∃ x, x = str R.name := ⟨_, rfl⟩
      obtain ⟨z, hz⟩ : ∃ x, x = R.size := ⟨_, rfl⟩
      obtain ⟨x, hx⟩ : ∃ x, x = R.re := ⟨_, rfl⟩
      obtain ⟨y, hy⟩ : ∃ x, x = R.im := ⟨_, rfl⟩
      obtain ⟨n, hn⟩ : ∃ x, x = R.mans.length := ⟨_, rfl⟩
      have HCR : Hid (∀ u W, RpIs R u W → ∃ p c, u = .agg #[.string nm, .int .i64 z, .int .i64 x, .int .i64 y, .slice p n c]) := Lib.hid (fun u W h => by
        obtain ⟨p, c, e⟩ := h.cutQ
        exact ⟨p, c, by rw [e, hnm, hz, hx, hy, hn]⟩)
      have HCO := Lib.hid hco
      have HCD := Lib.hid hcd
      clear hG hR hge hgo hco hcd hrl hnm hz hx hy hn hNl hSl hUL hLl hLl' hNM
      clear CO
      cases GO with
      | false =>
        go_enter Tryd.func6, Tryd.ntmps6
        go_wp2_with fail
        refine (HC1.out _).mono ?_
        rintro e w' ⟨rfl, rfl⟩
        go_wp2_with fail
        refine (HC2.out _).mono ?_
        rintro e w' ⟨rfl, rfl⟩
        go_wp2_with fail
        refine (HCO.out).mono ?_
        rintro e w1 ⟨⟨u, rfl, hu⟩, hk1⟩
        obtain ⟨p1, c1, rfl⟩ := HCR.out _ _ hu
        obtain ⟨W2, hW2⟩ : ∃ W, W = w1.alloc (.cells #[.string nm, .int .i64 z, .int .i64 x, .int .i64 y, .slice p1 n c1] 24) := ⟨_, rfl⟩
        have hk2 : Kept w1 W2 := by rw [hW2]; exact box_below _ _
        have H02 : Hid (Kept w W2) := Lib.hid (hk1.then hk2)
        have HR2 : Hid (Row5 w1.heap.size (.string nm) (.int .i64 z) (.int .i64 x) (.int .i64 y) (.slice p1 n c1) W2) := Lib.hid ⟨by rw [hW2]; exact heap_alloc_last w1 _⟩
        have HU2 := Lib.hid (hu.later hk2)
        have HW2 := Lib.hid hW2
        clear hk1 hu hk2 hW2
        go_wp2_with (with_reducible refine wpList_halt (d := 38) rfl ?_)
        unfold Halted
        rw [← HW2.out]
        go_wp2_with fail
        refine (HCD.out W2 H02.out).mono ?_
        rintro e w3 ⟨⟨u, rfl, hu⟩, hk3⟩
        obtain ⟨p2, c2, rfl⟩ := HCR.out _ _ hu
        obtain ⟨W4, hW4⟩ : ∃ W, W = w3.alloc (.cells #[.string nm, .int .i64 z, .int .i64 x, .int .i64 y, .slice p2 n c2] 24) := ⟨_, rfl⟩
        have hk4 : Kept w3 W4 := by rw [hW4]; exact box_below _ _
        have H04 : Hid (Kept w W4) := Lib.hid ((H02.out.then hk3).then hk4)
        have HR4 : Hid (Row5 w1.heap.size (.string nm) (.int .i64 z) (.int .i64 x) (.int .i64 y) (.slice p1 n c1) W4) := Lib.hid ((HR2.out.later hk3).later hk4)
        have HX4 : Hid (Row5 w3.heap.size (.string nm) (.int .i64 z) (.int .i64 x) (.int .i64 y) (.slice p2 n c2) W4) := Lib.hid ⟨by rw [hW4]; exact heap_alloc_last w3 _⟩
        have HU4 := Lib.hid ((HU2.out.later hk3).later hk4)
        have HV4 := Lib.hid (hu.later hk4)
        have HW4 := Lib.hid hW4
        clear hk3 hu hk4 hW4 HW2 H02 HR2 HU2
        have a0 := HR4.out.c0
        have a1 := HR4.out.c1
        have a2 := HR4.out.c2
        have a3 := HR4.out.c3
        have a4 := HR4.out.c4
        have d0 := HX4.out.c0
        have d1 := HX4.out.c1
        have d2 := HX4.out.c2
        have d3 := HX4.out.c3
        have d4 := HX4.out.c4
        have CS := rsame16_any R R _ _ W4 HU4.out HV4.out HRL2.out HRL2.out
        rw [decide_eq_true (rfl : R = R)] at CS
        go_wp2_with (with_reducible refine wpList_halt (d := 41) rfl ?_)
        unfold Halted
        rw [← HW4.out]
        go_wp2_with fail
        refine CS.mono ?_
        rintro e w5 ⟨rfl, hk5⟩
        have H05 := Lib.hid (H04.out.then hk5)
        have HR5 := Lib.hid (HR4.out.later hk5)
        have HX5 := Lib.hid (HX4.out.later hk5)
        have HU5 := Lib.hid (HU4.out.later hk5)
        have HV5 := Lib.hid (HV4.out.later hk5)
        clear hk5 CS HW4 H04 HR4 HX4 HU4 HV4 a0 a1 a2 a3 a4 d0 d1 d2 d3 d4
        have AW1 := HAW.out w5 (HT.out.later H05.out)
        have e1 : (GE == 0) = false := by rw [HGE.out.1]; rfl
        have e2 : (GE != 1) = false := by rw [HGE.out.1]; rfl
        have e3 : (GE == 1) = true := by rw [HGE.out.1]; rfl
        go_wp2_with fail
        refine AW1.mono ?_
        rintro e w7 ⟨rfl, hk7⟩
        have H07 := Lib.hid (H05.out.then hk7)
        have HR7 := Lib.hid (HR5.out.later hk7)
        have HX7 := Lib.hid (HX5.out.later hk7)
        have HU7 := Lib.hid (HU5.out.later hk7)
        have HV7 := Lib.hid (HV5.out.later hk7)
        clear hk7 AW1 H05 HR5 HX5 HU5 HV5
        have CF1 := fun W (h : Kept w7 W) => Calls.kept_of' h (HCF.out R _ S W (HU7.out.later h) HRL.out HSZ.out.1)
        have CF2 := fun W (h : Kept w7 W) => Calls.kept_of' h (HCF.out R _ T W (HU7.out.later h) HRL.out HSZ.out.2)
        have CF3 := fun W (h : Kept w7 W) => Calls.kept_of' h (rfits16_any R _ T (by have := HSZ.out.2; omega) W (HV7.out.later h) HRL2.out)
        obtain ⟨q, hq⟩ : ∃ q, q = decide (fitsQ R T.data.toList) := ⟨_, rfl⟩
        rw [← hq] at CF2 CF3
        rw [HF1.out] at CF1
        have qq : (q == q) = true := by simp
        clear hq
        go_wp2_with fail
        refine wp_region_kept (by kernel_rfl) (by kernel_rfl) ?_
        refine wpQuiet_load_row (by kernel_rfl) _ _ rfl w1.heap.size rfl 24 _ (0, 0) _ (fun _ h => h.row HR7.out.row) Tryd.underlying24 rfl infoRp (fun K hK => ?_)
        go_simp
        refine hK _ ?_; clear hK K
        refine wpQuiet_pure (v := ?_) (by kernel_rfl) ?_ (fun K hK => ?_)
        case refine_2 => intro W _; go_simp; try with_reducible rfl
        go_simp
        refine hK _ ?_; clear hK K
        refine wpQuiet_call (by kernel_rfl) _ _ _ (fun W => by go_simp) (fun W h => CF1 W h) (fun K hK => ?_)
        go_simp
        refine hK _ ?_; clear hK K
        refine wpQuiet_pure (v := ?_) (by kernel_rfl) ?_ (fun K hK => ?_)
        case refine_2 => intro W _; go_simp; try with_reducible rfl
        go_simp
        refine hK _ ?_; clear hK K
        refine wpQuiet_pure (by kernel_rfl) (.bool true) (fun W _ => by go_simp) (fun K hK => ?_)
        go_simp
        refine hK _ ?_; clear hK K
        refine wpQuiet_pure (v := ?_) (by kernel_rfl) ?_ (fun K hK => ?_)
        case refine_2 => intro W _; go_simp; try with_reducible rfl
        go_simp
        refine hK _ ?_; clear hK K
        refine wpQuiet_load_row (by kernel_rfl) _ _ rfl w1.heap.size rfl 24 _ (0, 0) _ (fun _ h => h.row HR7.out.row) Tryd.underlying24 rfl infoRp (fun K hK => ?_)
        go_simp
        refine hK _ ?_; clear hK K
        refine wpQuiet_pure (v := ?_) (by kernel_rfl) ?_ (fun K hK => ?_)
        case refine_2 => intro W _; go_simp; try with_reducible rfl
        go_simp
        refine hK _ ?_; clear hK K
        refine wpQuiet_call (by kernel_rfl) _ _ _ (fun W => by go_simp) (fun W h => CF2 W h) (fun K hK => ?_)
        go_simp
        refine hK _ ?_; clear hK K
        refine wpQuiet_load_row (by kernel_rfl) _ _ rfl w3.heap.size rfl 24 _ (0, 0) _ (fun _ h => h.row HX7.out.row) Tryd.underlying24 rfl infoRp (fun K hK => ?_)
        go_simp
        refine hK _ ?_; clear hK K
        refine wpQuiet_pure (v := ?_) (by kernel_rfl) ?_ (fun K hK => ?_)
        case refine_2 => intro W _; go_simp; try with_reducible rfl
        go_simp
        refine hK _ ?_; clear hK K
        refine wpQuiet_call (by kernel_rfl) _ _ _ (fun W => by go_simp) (fun W h => CF3 W h) (fun K hK => ?_)
        go_simp
        refine hK _ ?_; clear hK K
        refine wpQuiet_pure (by kernel_rfl) (.bool true) (fun W _ => by go_simp) (fun K hK => ?_)
        go_simp
        refine hK _ ?_; clear hK K
        refine wpQuiet_pure (v := ?_) (by kernel_rfl) ?_ (fun K hK => ?_)
        case refine_2 => intro W _; go_simp; try with_reducible rfl
        go_simp
        refine hK _ ?_; clear hK K
        refine wpQuiet_pure (v := ?_) (by kernel_rfl) ?_ (fun K hK => ?_)
        case refine_2 => intro W _; go_simp; try with_reducible rfl
        go_simp
        refine hK _ ?_; clear hK K
        refine wpQuiet_nil ?_
        intro w9 hk9
        go_wp2
        go_ret
        exact ⟨by first | rfl | simp, H07.out.then hk9⟩
      | true =>
        go_enter Tryd.func6, Tryd.ntmps6
        go_wp2_with fail
        refine (HC1.out _).mono ?_
        rintro e w' ⟨rfl, rfl⟩
        go_wp2_with fail
        refine (HC2.out _).mono ?_
        rintro e w' ⟨rfl, rfl⟩
        go_wp2_with fail
        refine (HCO.out).mono ?_
        rintro e w1 ⟨⟨u, rfl, hu⟩, hk1⟩
        obtain ⟨p1, c1, rfl⟩ := HCR.out _ _ hu
        obtain ⟨W2, hW2⟩ : ∃ W, W = w1.alloc (.cells #[.string nm, .int .i64 z, .int .i64 x, .int .i64 y, .slice p1 n c1] 24) := ⟨_, rfl⟩
        have hk2 : Kept w1 W2 := by rw [hW2]; exact box_below _ _
        have H02 : Hid (Kept w W2) := Lib.hid (hk1.then hk2)
        have HR2 : Hid (Row5 w1.heap.size (.string nm) (.int .i64 z) (.int .i64 x) (.int .i64 y) (.slice p1 n c1) W2) := Lib.hid ⟨by rw [hW2]; exact heap_alloc_last w1 _⟩
        have HU2 := Lib.hid (hu.later hk2)
        have HW2 := Lib.hid hW2
        clear hk1 hu hk2 hW2
        go_wp2_with (with_reducible refine wpList_halt (d := 38) rfl ?_)
        unfold Halted
        rw [← HW2.out]
        go_wp2_with fail
        refine (HCD.out W2 H02.out).mono ?_
        rintro e w3 ⟨⟨u, rfl, hu⟩, hk3⟩
        obtain ⟨p2, c2, rfl⟩ := HCR.out _ _ hu
        obtain ⟨W4, hW4⟩ : ∃ W, W = w3.alloc (.cells #[.string nm, .int .i64 z, .int .i64 x, .int .i64 y, .slice p2 n c2] 24) := ⟨_, rfl⟩
        have hk4 : Kept w3 W4 := by rw [hW4]; exact box_below _ _
        have H04 : Hid (Kept w W4) := Lib.hid ((H02.out.then hk3).then hk4)
        have HR4 : Hid (Row5 w1.heap.size (.string nm) (.int .i64 z) (.int .i64 x) (.int .i64 y) (.slice p1 n c1) W4) := Lib.hid ((HR2.out.later hk3).later hk4)
        have HX4 : Hid (Row5 w3.heap.size (.string nm) (.int .i64 z) (.int .i64 x) (.int .i64 y) (.slice p2 n c2) W4) := Lib.hid ⟨by rw [hW4]; exact heap_alloc_last w3 _⟩
        have HU4 := Lib.hid ((HU2.out.later hk3).later hk4)
        have HV4 := Lib.hid (hu.later hk4)
        have HW4 := Lib.hid hW4
        clear hk3 hu hk4 hW4 HW2 H02 HR2 HU2
        have a0 := HR4.out.c0
        have a1 := HR4.out.c1
        have a2 := HR4.out.c2
        have a3 := HR4.out.c3
        have a4 := HR4.out.c4
        have d0 := HX4.out.c0
        have d1 := HX4.out.c1
        have d2 := HX4.out.c2
        have d3 := HX4.out.c3
        have d4 := HX4.out.c4
        have CS := rsame16_any R R _ _ W4 HU4.out HV4.out HRL2.out HRL2.out
        rw [decide_eq_true (rfl : R = R)] at CS
        go_wp2_with (with_reducible refine wpList_halt (d := 41) rfl ?_)
        unfold Halted
        rw [← HW4.out]
        go_wp2_with fail
        refine CS.mono ?_
        rintro e w5 ⟨rfl, hk5⟩
        have H05 := Lib.hid (H04.out.then hk5)
        have HR5 := Lib.hid (HR4.out.later hk5)
        have HX5 := Lib.hid (HX4.out.later hk5)
        have HU5 := Lib.hid (HU4.out.later hk5)
        have HV5 := Lib.hid (HV4.out.later hk5)
        clear hk5 CS HW4 H04 HR4 HX4 HU4 HV4 a0 a1 a2 a3 a4 d0 d1 d2 d3 d4
        have AW1 := HAW.out w5 (HT.out.later H05.out)
        have e1 : (GE == 0) = true := by rw [HGE.out.1]; rfl
        have e2 : (GE != 0) = false := by rw [HGE.out.1]; rfl
        go_wp2_with fail
        refine AW1.mono ?_
        rintro e w7 ⟨rfl, hk7⟩
        have H07 := Lib.hid (H05.out.then hk7)
        have HR7 := Lib.hid (HR5.out.later hk7)
        have HX7 := Lib.hid (HX5.out.later hk7)
        have HU7 := Lib.hid (HU5.out.later hk7)
        have HV7 := Lib.hid (HV5.out.later hk7)
        clear hk7 AW1 H05 HR5 HX5 HU5 HV5
        have CF1 := fun W (h : Kept w7 W) => Calls.kept_of' h (HCF.out R _ S W (HU7.out.later h) HRL.out HSZ.out.1)
        have CF2 := fun W (h : Kept w7 W) => Calls.kept_of' h (HCF.out R _ T W (HU7.out.later h) HRL.out HSZ.out.2)
        have CF3 := fun W (h : Kept w7 W) => Calls.kept_of' h (rfits16_any R _ T (by have := HSZ.out.2; omega) W (HV7.out.later h) HRL2.out)
        obtain ⟨q, hq⟩ : ∃ q, q = decide (fitsQ R T.data.toList) := ⟨_, rfl⟩
        rw [← hq] at CF2 CF3
        rw [HF1.out] at CF1
        have qq : (q == q) = true := by simp
        clear hq
        go_wp2_with fail
        refine wp_region_kept (by kernel_rfl) (by kernel_rfl) ?_
        refine wpQuiet_load_row (by kernel_rfl) _ _ rfl w1.heap.size rfl 24 _ (0, 0) _ (fun _ h => h.row HR7.out.row) Tryd.underlying24 rfl infoRp (fun K hK => ?_)
        go_simp
        refine hK _ ?_; clear hK K
        refine wpQuiet_pure (v := ?_) (by kernel_rfl) ?_ (fun K hK => ?_)
        case refine_2 => intro W _; go_simp; try with_reducible rfl
        go_simp
        refine hK _ ?_; clear hK K
        refine wpQuiet_call (by kernel_rfl) _ _ _ (fun W => by go_simp) (fun W h => CF1 W h) (fun K hK => ?_)
        go_simp
        refine hK _ ?_; clear hK K
        refine wpQuiet_pure (v := ?_) (by kernel_rfl) ?_ (fun K hK => ?_)
        case refine_2 => intro W _; go_simp; try with_reducible rfl
        go_simp
        refine hK _ ?_; clear hK K
        refine wpQuiet_pure (by kernel_rfl) (.bool true) (fun W _ => by go_simp) (fun K hK => ?_)
        go_simp
        refine hK _ ?_; clear hK K
        refine wpQuiet_pure (v := ?_) (by kernel_rfl) ?_ (fun K hK => ?_)
        case refine_2 => intro W _; go_simp; try with_reducible rfl
        go_simp
        refine hK _ ?_; clear hK K
        refine wpQuiet_load_row (by kernel_rfl) _ _ rfl w1.heap.size rfl 24 _ (0, 0) _ (fun _ h => h.row HR7.out.row) Tryd.underlying24 rfl infoRp (fun K hK => ?_)
        go_simp
        refine hK _ ?_; clear hK K
        refine wpQuiet_pure (v := ?_) (by kernel_rfl) ?_ (fun K hK => ?_)
        case refine_2 => intro W _; go_simp; try with_reducible rfl
        go_simp
        refine hK _ ?_; clear hK K
        refine wpQuiet_call (by kernel_rfl) _ _ _ (fun W => by go_simp) (fun W h => CF2 W h) (fun K hK => ?_)
        go_simp
        refine hK _ ?_; clear hK K
        refine wpQuiet_load_row (by kernel_rfl) _ _ rfl w3.heap.size rfl 24 _ (0, 0) _ (fun _ h => h.row HX7.out.row) Tryd.underlying24 rfl infoRp (fun K hK => ?_)
        go_simp
        refine hK _ ?_; clear hK K
        refine wpQuiet_pure (v := ?_) (by kernel_rfl) ?_ (fun K hK => ?_)
        case refine_2 => intro W _; go_simp; try with_reducible rfl
        go_simp
        refine hK _ ?_; clear hK K
        refine wpQuiet_call (by kernel_rfl) _ _ _ (fun W => by go_simp) (fun W h => CF3 W h) (fun K hK => ?_)
        go_simp
        refine hK _ ?_; clear hK K
        refine wpQuiet_pure (by kernel_rfl) (.bool true) (fun W _ => by go_simp) (fun K hK => ?_)
        go_simp
        refine hK _ ?_; clear hK K
        refine wpQuiet_pure (v := ?_) (by kernel_rfl) ?_ (fun K hK => ?_)
        case refine_2 => intro W _; go_simp; try with_reducible rfl
        go_simp
        refine hK _ ?_; clear hK K
        refine wpQuiet_pure (v := ?_) (by kernel_rfl) ?_ (fun K hK => ?_)
        case refine_2 => intro W _; go_simp; try with_reducible rfl
        go_simp
        refine hK _ ?_; clear hK K
        refine wpQuiet_nil ?_
        intro w9 hk9
        go_wp2
        go_ret
        exact ⟨by first | rfl | simp, H07.out.then hk9⟩

end Go.Proofs.YtijdbmapdmhknaaDoor
