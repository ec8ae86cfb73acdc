/- The landed blob's Get. -/
import Derived.Test.YtppbknlhknadbaaBmG
import Derived.Test.YtppbknlhknadbaaBlV
namespace Go.Proofs.Ytppbknlhknadbaa
open Go.RowKit Go.Shelf
attribute [local go_sem] Oper.semAt_some

set_option maxRecDepth 100000 in
set_option maxHeartbeats 4000000 in
theorem bget_any (HE : BEachOk) (HF : BFitOk) : BGetOk := by
  intro B x P D s Bs w l v size hp hok hlo hv hl hsz
  obtain ⟨ad, rfl⟩ := D.ptr
  obtain ⟨pv, cv, rfl, -, -⟩ := hv.out
  have hk0 : Kept w (((w.alloc (.cells #[.pointer (some ad)] 33)).alloc (.cells #[.string ⟨#[]⟩] 9)).alloc (.cells #[.int .i64 0] 34)) := ((show Kept w _ from box_below w _).then (show Kept _ _ from box_below _ _)).then (show Kept _ _ from box_below _ _)
  have hb0 : Boxed (((w.alloc (.cells #[.pointer (some ad)] 33)).alloc (.cells #[.string ⟨#[]⟩] 9)).alloc (.cells #[.int .i64 0] 34)) w.heap.size 33 (.pointer (some ad)) := ((Boxed.new w _ _).alloc _).alloc _
  have hb1 : Boxed (((w.alloc (.cells #[.pointer (some ad)] 33)).alloc (.cells #[.string ⟨#[]⟩] 9)).alloc (.cells #[.int .i64 0] 34)) (w.heap.size + 1) 9 (.string ⟨#[]⟩) := by
    have := Boxed.new (w.alloc (.cells #[.pointer (some ad)] 33)) 9 (.string ⟨#[]⟩)
    rw [World.size_alloc] at this
    exact this.alloc _
  have hb2 : Boxed (((w.alloc (.cells #[.pointer (some ad)] 33)).alloc (.cells #[.string ⟨#[]⟩] 9)).alloc (.cells #[.int .i64 0] 34)) (w.heap.size + 2) 34 (.int .i64 0) := by
    have := Boxed.new ((w.alloc (.cells #[.pointer (some ad)] 33)).alloc (.cells #[.string ⟨#[]⟩] 9)) 34 (.int .i64 0)
    rw [World.size_alloc, World.size_alloc] at this
    exact this
  obtain ⟨W0, hW0⟩ : ∃ W0, W0 = (((w.alloc (.cells #[.pointer (some ad)] 33)).alloc (.cells #[.string ⟨#[]⟩] 9)).alloc (.cells #[.int .i64 0] 34)) := ⟨_, rfl⟩
  have HW0 := Lib.hid hW0
  rw [← hW0] at hk0 hb0 hb1 hb2
  have hp0 := D.kept hp hk0
  obtain ⟨fb, hfb⟩ : ∃ fb, fb = decide (fitB l s.stands.length size) := ⟨_, rfl⟩
  have LEN := fun W (k : Kept W0 W) => D.len s Bs W (D.kept hp0 k) hok
  have FIT := fun W (k : Kept W0 W) => HF l (.slice pv l.length cv) W s.stands.length size (hv.later (hk0.then k)) hl (by have := hok.pos; have := hok.most; unfold I64; omega) hsz
  rw [← hfb] at FIT
  have REF := fun W (k : Kept W0 W) => brefuses_any D (D.kept hp0 k) hok fb
  obtain ⟨R, hR⟩ : ∃ R, R = bGet s l size := ⟨_, rfl⟩
  have HR : Hid (R = bGet s l size) := Lib.hid hR
  rw [← hR]
  have HFB : Hid (fb = decide (fitB l s.stands.length size)) := Lib.hid hfb
  have HD := Lib.hid D
  have HOK := Lib.hid hok
  have HV := Lib.hid hv
  have HP := Lib.hid hp
  have HLO := Lib.hid hlo
  have HHE := Lib.hid HE
  obtain ⟨er, her⟩ : ∃ er, er = refE s fb := ⟨_, rfl⟩
  have HER := Lib.hid her
  rw [← her] at REF
  obtain ⟨N, hN⟩ : ∃ N, N = s.stands.length := ⟨_, rfl⟩
  have HN := Lib.hid hN
  rw [← hN] at LEN FIT
  obtain ⟨n, hn⟩ : ∃ n, n = l.length := ⟨_, rfl⟩
  have HNL := Lib.hid hn
  have HLL := Lib.hid hl
  rw [← hn] at HV FIT ⊢
  clear D hok hv hp hlo hR hN hn hfb her HE HF hW0 hl
  refine (callsIn_wide (n := 9)).1 ?_
  refine callsIn_of_wp_marks Try.func26 rfl trivial ?_ rfl
  simp only [Try.ntmps26, List.size_toArray, List.length_cons, List.length_nil, Nat.reduceAdd, Nat.reduceSub, Array.replicate_succ, Array.replicate_zero, List.push_toArray, List.append_toArray, List.nil_append, List.cons_append]
  gi_wp2_with fail
  rw [← HW0.out]
  refine wpIn_wide.2 ?_
  refine wp_region_kept (by kernel_rfl) (by kernel_rfl) ?_
  refine wpQuiet_load_cell (by kernel_rfl) _ _ rfl ⟨w.heap.size, 0, none⟩ rfl _ Try.underlying33 rfl _ (fun _ h => h.cell hb0.cell) (fun K hK => ?_)
  go_simp
  refine hK _ ?_; clear hK K
  refine wpQuiet_pure (v := ?_) (by kernel_rfl) ?_ (fun K hK => ?_)
  case refine_2 => intro W _; go_simp; try with_reducible rfl
  go_simp
  refine hK _ ?_; clear hK K
  refine wpQuiet_load_cell (by kernel_rfl) _ _ rfl ⟨w.heap.size, 0, none⟩ rfl _ Try.underlying33 rfl _ (fun _ h => h.cell hb0.cell) (fun K hK => ?_)
  go_simp
  refine hK _ ?_; clear hK K
  refine wpQuiet_call (by kernel_rfl) _ _ _ (fun W => by go_simp) (fun W h => Calls.kept_of h (LEN W h)) (fun K hK => ?_)
  go_simp
  refine hK _ ?_; clear hK K
  refine wpQuiet_pure (v := ?_) (by kernel_rfl) ?_ (fun K hK => ?_)
  case refine_2 => intro W _; go_simp; try with_reducible rfl
  go_simp
  refine hK _ ?_; clear hK K
  refine wpQuiet_call (by kernel_rfl) _ _ _ (fun W => by go_simp) (fun W h => Calls.kept_of h (FIT W h)) (fun K hK => ?_)
  go_simp
  refine hK _ ?_; clear hK K
  refine wpQuiet_call (by kernel_rfl) _ _ _ (fun W => by go_simp) (fun W h => Calls.kept_of h (REF W h)) (fun K hK => ?_)
  go_simp
  refine hK _ ?_; clear hK K
  refine wpQuiet_pure (v := ?_) (by kernel_rfl) ?_ (fun K hK => ?_)
  case refine_2 => intro W _; go_simp; try with_reducible rfl
  go_simp
  refine hK _ ?_; clear hK K
  refine wpQuiet_nil ?_
  intro W4 hk4
  have K4 : Hid (Kept w W4) := Lib.hid (hk0.then hk4)
  have hp4 := HD.out.kept hp0 hk4
  have hB0 : Boxed W4 w.heap.size 33 (.pointer (some ad)) := Kept.row hk4 hb0
  have hB1 : Boxed W4 (w.heap.size + 1) 9 (.string ⟨#[]⟩) := Kept.row hk4 hb1
  have hB2 : Boxed W4 (w.heap.size + 2) 34 (.int .i64 0) := Kept.row hk4 hb2
  clear LEN FIT REF hp0 hb0 hb1 hb2 hk0 HW0 hk4
  by_cases h0 : er = 0
  · subst h0
    have hfb : fb = true := by
      have h := HER.out
      unfold refE at h
      cases fb with
      | true => rfl
      | false => rw [if_pos rfl] at h; omega
    have hdn : s.down = false := by
      have h := HER.out
      unfold refE at h
      rw [hfb, if_neg (by decide)] at h
      cases hd : s.down with
      | false => rfl
      | true => rw [hd, if_pos rfl] at h; omega
    have hf : fitB l s.stands.length size := of_decide_eq_true (HFB.out.symm.trans hfb)
    obtain ⟨zn, rfl⟩ : ∃ zn : Nat, size = zn := ⟨size.toNat, by have := hf.1; omega⟩
    have HDN := Lib.hid hdn
    have HFT := Lib.hid hf
    have h8 : (allR l).length ≤ 8192 := allR_len8 hf
    have hby := needN_bytes (fitB_list hf).2.1
    have hzn : zn ≤ 1048576 := by omega
    obtain ⟨W1, hmk, hrow1, hk1⟩ := made_rowN zn (by omega) W4
    have HROW1 := Lib.hid hrow1
    have HK1 := Lib.hid hk1
    have HZN := Lib.hid hzn
    clear hdn hf hrow1 hk1 hby hzn
    have HE5 := HHE.out l (.slice pv n cv) ((W1.alloc (.cells #[.slice (some ⟨W4.heap.size, 0, none⟩) zn zn] 49)).alloc (.cells #[.int .i64 0] 3)) (HV.out.later (K4.out.then ((show Kept W4 W1 from HK1.out).then ((show Kept W1 _ from box_below W1 _).then (show Kept _ _ from box_below _ _))))) HLL.out
    gi_wp2_with fail
    refine ⟨trivial, (callsIn_wide.2 HE5).mono ?_⟩
    rintro e W5 ⟨⟨g, lb, Rd, rfl, hent, hit, hrd⟩, hk5⟩
    have hka : Kept W1 ((W1.alloc (.cells #[.slice (some ⟨W4.heap.size, 0, none⟩) zn zn] 49)).alloc (.cells #[.int .i64 0] 3)) := (show Kept W1 _ from box_below W1 _).then (show Kept _ _ from box_below _ _)
    have hbb0 : Boxed ((W1.alloc (.cells #[.slice (some ⟨W4.heap.size, 0, none⟩) zn zn] 49)).alloc (.cells #[.int .i64 0] 3)) W1.heap.size 49 (.slice (some ⟨W4.heap.size, 0, none⟩) zn zn) := (Boxed.new W1 _ _).alloc _
    have hbn0 : Boxed ((W1.alloc (.cells #[.slice (some ⟨W4.heap.size, 0, none⟩) zn zn] 49)).alloc (.cells #[.int .i64 0] 3)) (W1.heap.size + 1) 3 (.int .i64 0) := by
      have := Boxed.new (W1.alloc (.cells #[.slice (some ⟨W4.heap.size, 0, none⟩) zn zn] 49)) 3 (.int .i64 0)
      rw [World.size_alloc] at this
      exact this
    have k15 : Kept W1 W5 := hka.then hk5
    have k45 : Kept W4 W5 := (show Kept W4 W1 from HK1.out).then k15
    have K5 : Hid (Kept w W5) := Lib.hid (K4.out.then k45)
    have hB05 : Boxed W5 w.heap.size 33 (.pointer (some ad)) := Kept.row k45 hB0
    have hB15 : Boxed W5 (w.heap.size + 1) 9 (.string ⟨#[]⟩) := Kept.row k45 hB1
    have hB25 : Boxed W5 (w.heap.size + 2) 34 (.int .i64 0) := Kept.row k45 hB2
    have hbb5 : Boxed W5 W1.heap.size 49 (.slice (some ⟨W4.heap.size, 0, none⟩) zn zn) := Kept.row hk5 hbb0
    have hbn5 : Boxed W5 (W1.heap.size + 1) 3 (.int .i64 0) := Kept.row hk5 hbn0
    have hw14 : W4.heap.size < W1.heap.size := (Array.getElem?_eq_some_iff.1 HROW1.out).1
    have hrow5 : RowB W4.heap.size 5 (rowG zn (accG s [])) W5 := by
      have h1 : rowG zn (accG s []) = List.replicate zn 0 := by
        show patch (List.replicate zn 0) 0 (([] : List UInt8).take zn) = _
        rw [List.take_nil]
        rfl
      rw [h1]
      refine Kept.row k15 (HROW1.out.trans ?_)
      rw [List.map_replicate]
    clear hka hbb0 hbn0
    gi_wp2
    have HHP := HP.out
    have hw4 : w.heap.size ≤ W4.heap.size := K4.out.size
    have hw43 : w.heap.size + 2 < W4.heap.size := hB2.lt
    have hbn5l : W1.heap.size + 1 < W5.heap.size := hbn5.lt
    have hXR : ∀ k, (k = W4.heap.size ∨ k = W1.heap.size + 1) → ¬ Rd k := fun k e hk => by
      rcases (hrd _ hk).2 with y | ⟨a, n', c', e', hn, ha⟩
      · rw [World.size_alloc, World.size_alloc] at y; omega
      · have := HV.out
        rw [e'] at this
        have := this.block hn
        omega
    have hsz5 : w.heap.size ≤ W5.heap.size := K5.out.size
    have hva : validL 0 8192 l := validL_mono HFT.out.2.2.1 (Int.min_le_right _ _)
    have hlen : (secF l).length = (allR l).length := by unfold secF; rw [List.length_map, show secsL l = allR l from if_pos hva]
    refine wpIn_rangeFunc_ownG rfl (by omega) (gf := g) (lb := lb) rfl trivial hent (hit W5 (fun _ k => k = W4.heap.size ∨ k = W1.heap.size + 1) (fun W => ∀ k, (k = W4.heap.size ∨ k = W1.heap.size + 1) → k < W.heap.size) (Kept.refl W5) (fun k hk => by omega) (footX (fun k => k = W4.heap.size ∨ k = W1.heap.size + 1) hXR) 8 (by omega)) KpF.trans (fun W l o o' _ ho hc _ => kpX_put (fun k => k = W4.heap.size ∨ k = W1.heap.size + 1) W l o o' ho hc) (Below.refl _ _) (fun _ => rfl)
      (GetJ s zn w.heap.size W4.heap.size W1.heap.size (W1.heap.size + 1) (.pointer (some ad)) w) (GetX s)
      (getJ_own _ hsz5) (fun c xs W W' row hs _ _ => hs) ⟨hrow5, hbb5, by rw [show min zn (128 * ([] : List (Fin 8192)).length) = 0 by simp]; exact hbn5, rfl, hB05, hB15, hB25, K5.out⟩
      (fun x => { tmps := #[.pointer (some ad), .slice pv n cv, .int .i64 zn, .pointer (some ⟨w.heap.size, 0, none⟩), undef, undef, .pointer (some ⟨w.heap.size + 1, 0, none⟩), .pointer (some ⟨w.heap.size + 1 + 1, 0, none⟩), .int .i64 0, .pointer (some ⟨W1.heap.size, 0, none⟩), .pointer (some ⟨W1.heap.size + 1, 0, none⟩), .int .i64 (x.val : Int), undef, undef, .pointer (some ad), .slice pv n cv, .pointer (some ad), .int .i64 N, .int .i64 zn, .bool true, .int .i64 0, .int .i64 0, .bool false, undef, .int .i64 zn, .slice (some ⟨W4.heap.size, 0, none⟩) zn zn, .slice pv n cv, .func (.func g) #[] lb, .int .i64 (x.val : Int), undef, undef, undef, undef, undef, undef, undef, undef, undef, undef, undef, undef, undef, undef, undef, undef, undef, undef], defers := [] }) ?assign ?body ?done ?stop
    case assign =>
      intro l x W K hK
      gi_wp2
      exact hK
    case body =>
      rintro l' pre x W ⟨hRow, hBb, hBn, hlenA, hB0, hB1, hB2, hKW⟩ hlt
      have HB0 := Lib.hid hB0
      have HB1 := Lib.hid hB1
      have HB2 := Lib.hid hB2
      have hxw : (Lit.int .i64 (x.val : Int)).wf = true := by
        have := x.isLt
        simp [Lit.wf, IntKind.min, IntKind.max, IntKind.signed, IntKind.bits]
        omega
      have RD := HD.out.read s Bs W (x.val : Int) (HD.out.kept HHP hKW) HOK.out (by have := HLO.out; omega) hxw
      have hc0 := hB0.cell
      clear hxw
      by_cases hx : x.val < N
      · have ho : ¬ s.out (x.val : Int) := by unfold Dk.out; rw [← HN.out]; omega
        have h1 : s.readT (x.val : Int) = s.vis x.val := by unfold Dk.readT; rw [if_neg (by rw [HDN.out]; simp; exact ho), Int.toNat_natCast]
        have h2 : s.readE (x.val : Int) = 0 := by unfold Dk.readE; rw [if_neg (by rw [HDN.out]; simp), if_neg ho]
        have hvl := HOK.out.vis_len x.val (by rw [← HN.out]; exact hx)
        rw [h1, h2] at RD
        obtain ⟨V, hV⟩ : ∃ V, V = str (s.vis x.val) := ⟨_, rfl⟩
        rw [← hV] at RD
        have zV : V.size = 128 := by rw [hV, str_size]; exact hvl
        have hVl : V.data.toList = s.vis x.val := by rw [hV, str_list]
        obtain ⟨k, hkk⟩ : ∃ k, k = pre.length := ⟨_, rfl⟩
        have hk8 : 128 * k < zn := by
          have h3 := (needN_bytes (fitB_list HFT.out).2.1).2
          omega
        obtain ⟨n0, hn0⟩ : ∃ n0, n0 = 128 * k := ⟨_, rfl⟩
        have hmin : min zn (128 * pre.length) = n0 := by rw [← hkk]; omega
        have hlA : (accG s pre).length = n0 := by rw [hlenA, ← hkk, hn0]
        rw [hmin] at hBn
        obtain ⟨q, hq⟩ : ∃ q, q = zn - n0 := ⟨_, rfl⟩
        obtain ⟨m, hm⟩ : ∃ m, m = min q V.size := ⟨_, rfl⟩
        obtain ⟨n1, hn1⟩ : ∃ n1, n1 = n0 + m := ⟨_, rfl⟩
        have hZN := HZN.out
        have v1 : IntKind.i64.wrap ((n0 : Int) + (m : Int)) = (n1 : Int) := by rw [show (n0 : Int) + (m : Int) = (n1 : Int) by omega]; exact IntWalk.i64_in _ (by omega)
        have HMIN : Hid (min zn (128 * (pre ++ [x]).length) = n1) := Lib.hid (by rw [List.length_append, ← hkk, hn1, hm, zV, hq]; simp; omega)
        have HLA2 : Hid ((accG s (pre ++ [x])).length = 128 * (pre ++ [x]).length) := Lib.hid (by rw [accG_snoc, List.length_append, hlA, hvl, List.length_append, ← hkk, hn0]; simp; omega)
        have FI := fun W' (h : RowB W4.heap.size 5 (rowG zn (accG s pre)) W') => bfill_any W4.heap.size n0 q q 5 (rowG zn (accG s pre)) V W' h (by rw [rowG_len]; omega) (by rw [rowG_len]; omega) (by omega)
        have hpt : patch (rowG zn (accG s pre)) n0 (V.data.toList.take q) = rowG zn (accG s (pre ++ [x])) := by
          rw [accG_snoc, ← rowG_more zn _ _ (by omega), hlA, hq, hVl]
        rw [hpt, ← hm] at FI
        have hq2 : (zn : Int) - (n0 : Int) = (q : Int) := by omega
        have hq3 : zn - n0 = q := hq.symm
        have hne : ¬ zn = n0 := by omega
        have hne2 : ¬ n0 = zn := by omega
        have g1 : (0 : Int) ≤ (n0 : Int) := by omega
        have g2 : (n0 : Int) ≤ (zn : Int) := by omega
        have HROW := Lib.hid hRow
        have HBB := Lib.hid hBb
        have HBN := Lib.hid hBn
        have HKW : Hid (Below w.heap.size w W) := Lib.hid hKW
        have hmx : Try.prog.follows .mixedOrders = true := by kernel_rfl
        clear ho h1 h2 hvl hV hkk hk8 hn0 hmin hlA hq hm hn1 hVl zV hpt hRow hBb hBn hlenA hZN
        gi_wp2_with (refine ⟨trivial, ?_⟩; gi_at_call 36; refine (CallsIn.inRound l' (callsIn_wide.2 RD)).mono ?_; rintro e W6 ⟨rfl, hb6⟩; have hcb : W6.cell? ⟨W1.heap.size, 0, none⟩ = _ := Kept.cell hb6 HBB.out.cell; have hcn : W6.cell? ⟨W1.heap.size + 1, 0, none⟩ = _ := Kept.cell hb6 HBN.out.cell)
        have hk6 : Kept W W6 := hb6
        have hk6d : Kept W W6.drew := (show Below W.heap.size W W6 from hk6).drew
        have hrow6 := HROW.out.kept hk6d
        have hbn6 : Boxed W6.drew (W1.heap.size + 1) 3 (.int .i64 (n0 : Int)) := Kept.row hk6d HBN.out
        have hbl6 := hbn6.lt
        clear RD hB0 hB1 hB2 hc0
        gi_region_with_o (refine ⟨trivial, ?_⟩; gi_at_call 48; refine (CallsIn.inRound l' (callsIn_wide.2 (FI _ hrow6))).mono ?_; rintro e W7 ⟨rfl, hrow7, hbut7, hsz7⟩; have hBN7 : Boxed W7 (W1.heap.size + 1) 3 (.int .i64 (n0 : Int)) := (hbut7.block _ hbl6 (by omega)).trans hbn6; have hcn7 := hBN7.cell; have hfn7 := hBN7.frozen)
        all_goals (
          gi_wp2
          exact get_round _ hw4 ⟨Nat.le_refl _, hw43⟩ hw14 rfl HROW.out HBB.out HBN.out HB0.out HB1.out HB2.out HKW.out hk6d hrow7 hbut7 hBN7 HMIN.out HLA2.out)
      · have ho : s.out (x.val : Int) := by unfold Dk.out; rw [← HN.out]; omega
        have h1 : s.readT (x.val : Int) = [] := by unfold Dk.readT; rw [if_pos (Or.inr ho)]
        have h2 : s.readE (x.val : Int) = 5 := by unfold Dk.readE; rw [if_neg (by rw [HDN.out]; simp), if_pos ho]
        rw [h1, h2] at RD
        have hx2 : ¬ x.val < s.stands.length := by rw [← HN.out]; exact hx
        have HX2 := Lib.hid hx2
        clear ho h1 h2 hx2 hRow hBb hBn hlenA
        gi_wp2_with (refine ⟨trivial, ?_⟩; gi_at_call 36; refine (CallsIn.inRound l' (callsIn_wide.2 RD)).mono ?_; rintro e W6 ⟨rfl, hb6⟩; have hB16 : Boxed W6 (w.heap.size + 1) 9 (.string ⟨#[]⟩) := Kept.row hb6 HB1.out; have hB26 : Boxed W6 (w.heap.size + 1 + 1) 34 (.int .i64 0) := Kept.row hb6 HB2.out; have hc1 := hB16.cell; have hf1 := hB16.frozen; have hc2 := hB26.cell; have hf2 := hB26.frozen)
        have hK6 : Kept W W6 := hb6
        exact ⟨(((keeps_kept hK6).trans (KeepsOthers.setCell _ _ _)).trans (KeepsOthers.setCell _ _ _)).from _, rfl, pre, x, rfl, HX2.out⟩
    case done =>
      rintro Df ys W hDf rfl ⟨hRow, hBb, hBn, hlenA, hB0, hB1, hB2, hKW⟩ hK
      have hcb := hBb.cell
      have hc1 := hB1.cell
      have hf1 := hB1.frozen
      have hc2 := hB2.cell
      have hf2 := hB2.frozen
      have hby := needN_bytes (fitB_list HFT.out).2.1
      rw [hlen] at hlenA
      have hra : rowG zn (accG s (secF l)) = ((allR l).flatMap s.vis).take zn := by
        rw [rowG_all _ _ (by omega)]
        unfold accG
        rw [accG_all hva]
      rw [hra] at hRow
      have hrl : (((allR l).flatMap s.vis).take zn).length = zn := by rw [← hra, rowG_len]
      have hcv := hRow.conv 0 zn zn (by omega)
      rw [List.drop_zero, List.take_of_length_le (Nat.le_of_eq hrl)] at hcv
      have hRe : R = (((allR l).flatMap s.vis).take zn, 0) := by rw [HR.out]; unfold bGet; rw [if_neg (not_not_intro HFT.out), if_neg (by rw [HDN.out]; simp), Int.toNat_natCast]
      obtain ⟨Z, hZ⟩ : ∃ Z, Z = str (((allR l).flatMap s.vis).take zn) := ⟨_, rfl⟩
      rw [← hZ] at hcv
      have HZ : Hid (Z = str R.1) := Lib.hid (by rw [hZ, hRe])
      have HRE := Lib.hid hRe
      have HK := Lib.hid hK
      clear hZ hRe hra hrl hby hlenA hK hRow
      gi_wp2
      have HX2 := boxes2 hB1 hB2 (by omega) (.string Z) (.int .i64 0)
      have hK2 : ((W.setCell ⟨w.heap.size + 1, 0, none⟩ (.string Z)).setCell ⟨w.heap.size + 1 + 1, 0, none⟩ (.int .i64 0)).heap[Df]? = some (.deferred (some [])) := ((KeepsOthers.setCell _ _ _).trans (KeepsOthers.setCell _ _ _)).same Df _ HK.out rfl
      have hg := grownBy_putObj' ((W.setCell ⟨w.heap.size + 1, 0, none⟩ (.string Z)).setCell ⟨w.heap.size + 1 + 1, 0, none⟩ (.int .i64 0)) Df (.deferred none)
      have hne : ∀ r, some Df = some r → ∃ o : Obj, ((W.setCell ⟨w.heap.size + 1, 0, none⟩ (.string Z)).setCell ⟨w.heap.size + 1 + 1, 0, none⟩ (.int .i64 0)).heap[r]? = some o ∧ o.isCells = false := fun r e => by cases e; exact ⟨_, hK2, rfl⟩
      refine ⟨by simp, .inl ⟨_, _, rfl, run_takeDeferred hK2, ?_⟩⟩
      refine ⟨_, results_cellA2 Try.results26 _ _ ⟨w.heap.size + 1, 0, none⟩ ⟨w.heap.size + 1 + 1, 0, none⟩ rfl rfl Try.underlying9 Try.underlying34 _ _ (cell_kept HX2.1.cell hg hne) (cell_kept HX2.2.cell hg hne), ?_⟩
      have hR2 : R.2 = 0 := by rw [HRE.out]
      rw [hR2, HZ.out]
      refine ⟨rfl, ?_⟩
      have h1 : Kept w ((W.setCell ⟨w.heap.size + 1, 0, none⟩ (.string Z)).setCell ⟨w.heap.size + 1 + 1, 0, none⟩ (.int .i64 0)) := ((show Kept w W from hKW).setCell (p := ⟨w.heap.size + 1, 0, none⟩) (by simp) _).setCell (p := ⟨w.heap.size + 1 + 1, 0, none⟩) (by simp; omega) _
      rw [HZ.out] at h1 hK2
      exact Below.trans h1 (belowK_b (w := W5) hsz5 _ Df _ _ hDf hK2 rfl rfl)
    case stop =>
      rintro Df c pre W hDf hpre ⟨rfl, pr, x, rfl, hx⟩ hK
      exfalso
      obtain ⟨r, hr⟩ := hpre
      have hm : x ∈ secF l := by rw [← hr]; simp
      unfold secF at hm
      rw [show secsL l = allR l from if_pos hva] at hm
      obtain ⟨k, hk, rfl⟩ := List.mem_map.1 hm
      have h1 := ((fitB_list HFT.out).2.2.2.1 k hk)
      have h2 : (Fin.ofNat 8192 k).val = k := Nat.mod_eq_of_lt h1.2
      rw [h2] at hx
      omega
  · have hne : (er == 0) = false := beq_eq_false_iff_ne.2 h0
    have hne2 : (er != 0) = true := bne_iff_ne.2 h0
    have hc1 := hB1.cell
    have hf1 := hB1.frozen
    have hc2 := hB2.cell
    have hf2 := hB2.frozen
    gi_wp2_with fail
    have HX2 := boxes2 hB1 hB2 (by omega) (.string ⟨#[]⟩) (.int .i64 er)
    have KR : Kept w ((W4.setCell ⟨w.heap.size + 1, 0, none⟩ (.string ⟨#[]⟩)).setCell ⟨w.heap.size + 1 + 1, 0, none⟩ (.int .i64 er)) := ((K4.out).setCell (p := ⟨w.heap.size + 1, 0, none⟩) (by simp) _).setCell (p := ⟨w.heap.size + 1 + 1, 0, none⟩) (by simp; omega) _
    have hRe : R = ([], er) := by
      rw [HR.out]
      unfold bGet
      have h := HER.out
      unfold refE at h
      cases fb with
      | false =>
        rw [if_pos rfl] at h
        rw [if_pos (of_decide_eq_false HFB.out.symm), h]
      | true =>
        rw [if_neg (by decide)] at h
        by_cases hd : s.down = true
        · rw [if_pos hd] at h
          rw [if_neg (not_not_intro (of_decide_eq_true HFB.out.symm)), if_pos hd, h]
        · rw [if_neg hd] at h; exact absurd h h0
    refine ⟨_, results_cellA2 Try.results26 _ _ ⟨w.heap.size + 1, 0, none⟩ ⟨w.heap.size + 1 + 1, 0, none⟩ rfl rfl Try.underlying9 Try.underlying34 _ _ HX2.1.cell HX2.2.cell, ?_⟩
    rw [hRe]
    exact ⟨rfl, KR⟩

end Go.Proofs.Ytppbknlhknadbaa
