/- The landed blob's Put. -/
import Derived.Test.YtppbknlhknadbaaBmP
namespace Go.Proofs.Ytppbknlhknadbaa
open Go.RowKit Go.Shelf
attribute [local go_sem] Oper.semAt_some

set_option maxRecDepth 100000 in
set_option maxHeartbeats 4000000 in
theorem bput_any (HE : BEachOk) (HF : BFitOk) : BPutOk := by
  intro B x P D s Bs w l v t hp hok hlo hv hl ht
  obtain ⟨ad, rfl⟩ := D.ptr
  obtain ⟨pv, cv, rfl, -, -⟩ := hv.at_.out
  have hk0 : Kept w (((w.alloc (.cells #[.pointer (some ad)] 33)).alloc (.cells #[.string t] 9)).alloc (.cells #[.int .i64 0] 34)) := ((show Kept w _ from box_below w _).then (show Kept _ _ from box_below _ _)).then (show Kept _ _ from box_below _ _)
  have hb0 : Boxed (((w.alloc (.cells #[.pointer (some ad)] 33)).alloc (.cells #[.string t] 9)).alloc (.cells #[.int .i64 0] 34)) w.heap.size 33 (.pointer (some ad)) := ((Boxed.new w _ _).alloc _).alloc _
  have hb1 : Boxed (((w.alloc (.cells #[.pointer (some ad)] 33)).alloc (.cells #[.string t] 9)).alloc (.cells #[.int .i64 0] 34)) (w.heap.size + 1) 9 (.string t) := by
    have := Boxed.new (w.alloc (.cells #[.pointer (some ad)] 33)) 9 (.string t)
    rw [World.size_alloc] at this
    exact this.alloc _
  have hb2 : Boxed (((w.alloc (.cells #[.pointer (some ad)] 33)).alloc (.cells #[.string t] 9)).alloc (.cells #[.int .i64 0] 34)) (w.heap.size + 2) 34 (.int .i64 0) := by
    have := Boxed.new ((w.alloc (.cells #[.pointer (some ad)] 33)).alloc (.cells #[.string t] 9)) 34 (.int .i64 0)
    rw [World.size_alloc, World.size_alloc] at this
    exact this
  obtain ⟨W0, hW0⟩ : ∃ W0, W0 = (((w.alloc (.cells #[.pointer (some ad)] 33)).alloc (.cells #[.string t] 9)).alloc (.cells #[.int .i64 0] 34)) := ⟨_, rfl⟩
  have HW0 := Lib.hid hW0
  rw [← hW0] at hk0 hb0 hb1 hb2
  have hp0 := D.kept hp hk0
  have hdl : t.data.toList.length = t.size := by rw [Array.length_toList]; rfl
  obtain ⟨fb, hfb⟩ : ∃ fb, fb = decide (fitB l s.stands.length t.size) := ⟨_, rfl⟩
  have LEN := fun W (k : Kept W0 W) => D.len s Bs W (D.kept hp0 k) hok
  have FIT := fun W (k : Kept W0 W) => HF l (.slice pv l.length cv) W s.stands.length t.size (hv.at_.later (hk0.then k)) hl (by have := hok.pos; have := hok.most; unfold I64; omega) (by unfold I64; simp only [maxLen] at ht; omega)
  rw [← hfb] at FIT
  have REF := fun W (k : Kept W0 W) => brefuses_any D (D.kept hp0 k) hok fb
  obtain ⟨R, hR⟩ : ∃ R, R = bPut s l t.data.toList := ⟨_, rfl⟩
  have HR : Hid (R = bPut s l t.data.toList) := Lib.hid hR
  rw [← hR]
  have HFB : Hid (fb = decide (fitB l s.stands.length t.size)) := Lib.hid hfb
  have HDL := Lib.hid hdl
  have HD := Lib.hid D
  have HOK := Lib.hid hok
  have HV := Lib.hid hv
  have HP := Lib.hid hp
  have HLO := Lib.hid hlo
  have HHE := Lib.hid HE
  have HTZ := Lib.hid ht
  obtain ⟨er, her⟩ : ∃ er, er = refE s fb := ⟨_, rfl⟩
  have HER := Lib.hid her
  rw [← her] at REF
  obtain ⟨N, hN⟩ : ∃ N, N = s.stands.length := ⟨_, rfl⟩
  have HN := Lib.hid hN
  rw [← hN] at LEN FIT
  obtain ⟨n, hn⟩ : ∃ n, n = l.length := ⟨_, rfl⟩
  have HNL := Lib.hid hn
  have HLL := Lib.hid hl
  rw [← hn] at HV FIT ⊢
  clear D hok hv hp hlo hR hN hn hfb hdl her HE HF ht hW0 hl
  refine (callsIn_wide (n := 9)).1 ?_
  refine callsIn_of_wp_marks Try.func22 rfl trivial ?_ rfl
  simp only [Try.ntmps22, List.size_toArray, List.length_cons, List.length_nil, Nat.reduceAdd, Nat.reduceSub, Array.replicate_succ, Array.replicate_zero, List.push_toArray, List.append_toArray, List.nil_append, List.cons_append]
  gi_wp2_with fail
  rw [← HW0.out]
  refine wpIn_wide.2 ?_
  refine wp_region_kept (by kernel_rfl) (by kernel_rfl) ?_
  refine wpQuiet_load_cell (by kernel_rfl) _ _ rfl ⟨w.heap.size, 0, none⟩ rfl _ Try.underlying33 rfl _ (fun _ h => h.cell hb0.cell) (fun K hK => ?_)
  go_simp
  refine hK _ ?_; clear hK K
  refine wpQuiet_pure (v := ?_) (by kernel_rfl) ?_ (fun K hK => ?_)
  case refine_2 => intro W _; go_simp; try with_reducible rfl
  go_simp
  refine hK _ ?_; clear hK K
  refine wpQuiet_load_cell (by kernel_rfl) _ _ rfl ⟨w.heap.size, 0, none⟩ rfl _ Try.underlying33 rfl _ (fun _ h => h.cell hb0.cell) (fun K hK => ?_)
  go_simp
  refine hK _ ?_; clear hK K
  refine wpQuiet_call (by kernel_rfl) _ _ _ (fun W => by go_simp) (fun W h => Calls.kept_of h (LEN W h)) (fun K hK => ?_)
  go_simp
  refine hK _ ?_; clear hK K
  refine wpQuiet_load_cell (by kernel_rfl) _ _ rfl ⟨w.heap.size + 1, 0, none⟩ rfl _ Try.underlying9 rfl _ (fun _ h => h.cell hb1.cell) (fun K hK => ?_)
  go_simp
  refine hK _ ?_; clear hK K
  refine wpQuiet_pure (v := ?_) (by kernel_rfl) ?_ (fun K hK => ?_)
  case refine_2 => intro W _; go_simp; try with_reducible rfl
  go_simp
  refine hK _ ?_; clear hK K
  refine wpQuiet_call (by kernel_rfl) _ _ _ (fun W => by go_simp) (fun W h => Calls.kept_of h (FIT W h)) (fun K hK => ?_)
  go_simp
  refine hK _ ?_; clear hK K
  refine wpQuiet_call (by kernel_rfl) _ _ _ (fun W => by go_simp) (fun W h => Calls.kept_of h (REF W h)) (fun K hK => ?_)
  go_simp
  refine hK _ ?_; clear hK K
  refine wpQuiet_pure (v := ?_) (by kernel_rfl) ?_ (fun K hK => ?_)
  case refine_2 => intro W _; go_simp; try with_reducible rfl
  go_simp
  refine hK _ ?_; clear hK K
  refine wpQuiet_nil ?_
  intro W4 hk4
  have K4 : Hid (Kept w W4) := Lib.hid (hk0.then hk4)
  have hp4 := HD.out.kept hp0 hk4
  have hB0 : Boxed W4 w.heap.size 33 (.pointer (some ad)) := Kept.row hk4 hb0
  have hB1 : Boxed W4 (w.heap.size + 1) 9 (.string t) := Kept.row hk4 hb1
  have hB2 : Boxed W4 (w.heap.size + 2) 34 (.int .i64 0) := Kept.row hk4 hb2
  clear LEN FIT REF hp0 hb0 hb1 hb2 hk0 HW0 hk4
  have hc2 := hB2.cell
  have hf2 := hB2.frozen
  by_cases h0 : er = 0
  · subst h0
    have hc0 := hB0.cell
    have hc1 := hB1.cell
    have hfb : fb = true := by
      have h := HER.out
      unfold refE at h
      cases fb with
      | true => rfl
      | false => rw [if_pos rfl] at h; omega
    have hdn : s.down = false := by
      have h := HER.out
      unfold refE at h
      rw [hfb, if_neg (by decide)] at h
      cases hd : s.down with
      | false => rfl
      | true => rw [hd, if_pos rfl] at h; omega
    have hf : fitB l s.stands.length t.size := of_decide_eq_true (HFB.out.symm.trans hfb)
    have HDN := Lib.hid hdn
    have HFT := Lib.hid hf
    have HE5 := HHE.out l (.slice pv n cv) W4 (HV.out.at_.later K4.out) HLL.out
    clear hdn hf
    gi_wp2_with fail
    refine ⟨trivial, (callsIn_wide.2 HE5).mono ?_⟩
    rintro e W5 ⟨⟨g, lb, Rd, rfl, hent, hit, hrd⟩, hk5⟩
    have K5 : Hid (Kept w W5) := Lib.hid (K4.out.then hk5)
    have hB05 : Boxed W5 w.heap.size 33 (.pointer (some ad)) := Kept.row hk5 hB0
    have hB15 : Boxed W5 (w.heap.size + 1) 9 (.string t) := Kept.row hk5 hB1
    have hB25 : Boxed W5 (w.heap.size + 2) 34 (.int .i64 0) := Kept.row hk5 hB2
    have hp5 := HD.out.kept hp4 hk5
    gi_wp2
    have HHP := HP.out
    have hw4 : w.heap.size ≤ W4.heap.size := K4.out.size
    have hw43 : w.heap.size + 2 < W4.heap.size := hB2.lt
    have hRb : ∀ k, Rd k → k < W5.heap.size := fun k hk => (hrd k hk).1
    have hXR : ∀ k, k = w.heap.size + 1 → ¬ Rd k := fun k e hk => by
      rw [e] at hk
      rcases (hrd _ hk).2 with y | ⟨a, n', c', e, hn, ha⟩
      · omega
      · have := HV.out.at_
        rw [e] at this
        have := this.block hn
        omega
    have hBR : ∀ k, Bs k → ¬ Rd k := fun k hb hk => by
      rcases (hrd k hk).2 with y | ⟨a, n', c', e, hn, ha⟩
      · have := (HD.out.above _ _ _ HHP k hb).2
        omega
      · exact HV.out.apart a n' c' e hn (ha ▸ hb)
    have hsz5 : w.heap.size ≤ W5.heap.size := K5.out.size
    have hb5 : w.heap.size + 2 < W5.heap.size := hB25.lt
    have hG5 : GD P Rd (fun k => k = w.heap.size + 1) W5 := ⟨⟨s, Bs, hp5, hBR⟩, fun k hk => by omega⟩
    have hva : validL 0 8192 l := validL_mono HFT.out.2.2.1 (Int.min_le_right _ _)
    refine wpIn_rangeFunc_ownG rfl (by omega) (gf := g) (lb := lb) rfl trivial hent (hit W5 (FtD P (fun k => k = w.heap.size + 1)) (GD P Rd (fun k => k = w.heap.size + 1)) (Kept.refl W5) hG5 (footD HD.out hXR) 8 (by omega)) KpF.trans (fun W l o o' hl ho hc _ => kpD_put HD.out hp5 W l o o' hl ho hc) (Below.refl _ _) (fun _ => rfl)
      (PutJ P t.data.toList s Bs W5.heap.size w.heap.size (.pointer (some ad)) w) (PutX P t.data.toList s Bs W5.heap.size w.heap.size w)
      (putJ_own HD.out hp5 hsz5) (putX_own HD.out hp5 hsz5) ⟨⟨s, Bs, hp5, rfl, trivial, HOK.out, Nat.le_refl _, fun k hk => Or.inl hk⟩, hB05, ⟨t, hB15, rfl⟩, hB25, ButBy.below K5.out, Nat.le_refl _⟩
      (fun x => { tmps := #[.pointer (some ad), .slice pv n cv, .string t, .pointer (some ⟨w.heap.size, 0, none⟩), undef, .pointer (some ⟨w.heap.size + 1, 0, none⟩), .pointer (some ⟨w.heap.size + 1 + 1, 0, none⟩), .int .i64 0, .int .i64 (x.val : Int), undef, undef, undef, .pointer (some ad), .slice pv n cv, .pointer (some ad), .int .i64 N, .string t, .int .i64 t.size, .bool true, .int .i64 0, .int .i64 0, .bool false, undef, .slice pv n cv, .func (.func g) #[] lb, .int .i64 (x.val : Int), undef, undef, undef, undef, undef, undef, undef, undef, undef, undef, undef, undef, undef, undef], defers := [] }) ?assign ?body ?done ?stop
    case assign =>
      intro l x W K hK
      gi_wp2
      exact hK
    case body =>
      rintro l' pre x W ⟨⟨sk, Bk, hk, hsk, hok', hsok, hops, hBk⟩, hB0, ⟨r, hB1, hr⟩, hB2, hBy, h5W⟩ hlt
      have HSK := Lib.hid hsk
      clear hsk
      have hks : 128 * pre.length ≤ t.size ∧ pre.length < 8192 ∧ t.size ≤ 1048576 := by
        have h1 := needN_bytes (size := t.size) (n := (allR l).length) (by rw [(fitB_list HFT.out).2.1])
        have h2 : (secF l).length = (allR l).length := by unfold secF; rw [List.length_map, show secsL l = allR l from if_pos hva]
        have h3 := allR_len8 HFT.out
        omega
      obtain ⟨k, hkk⟩ : ∃ k, k = pre.length := ⟨_, rfl⟩
      rw [← hkk] at hks hops hr
      have hrl : r.data.toList.length = r.size := data_len r
      have hrz : r.size = t.size - 128 * k := by rw [← hrl, hr, List.length_drop, HDL.out]
      obtain ⟨m, hm⟩ : ∃ m, m = min 128 r.size := ⟨_, rfl⟩
      obtain ⟨Z, hZ, hZr⟩ : ∃ Z, Z = (List.replicate 128 (Value.int .u8 0)).toArray ∧ ∀ w, (zeroValue 81).run Try.prog w = .ok (.agg Z) w := ⟨_, rfl, zeroSec⟩
      have hrow : RowB W.heap.size 81 (List.replicate 128 0) (W.alloc (.cells Z 81)) := by rw [hZ]; exact rowB_zero W
      have FI := fun W' (k' : Kept (W.alloc (.cells Z 81)) W') => bfill_any W.heap.size 0 128 128 81 (List.replicate 128 0) r W' (hrow.kept k') (by rw [List.length_replicate]; omega) (by rw [List.length_replicate]; omega) (by omega)
      have hpart : patch (List.replicate 128 0) 0 (r.data.toList.take 128) = partB t.data.toList k := by
        rw [patch_zero _ (by rw [List.length_take]; omega), hr]
        rfl
      rw [hpart, ← hm] at FI
      obtain ⟨F, hF⟩ : ∃ F, F = str (partB t.data.toList k) := ⟨_, rfl⟩
      have HFL : Hid (F.data.toList = partB t.data.toList k) := Lib.hid (by rw [hF, str_list])
      have CV := fun W' (h : RowB W.heap.size 81 (partB t.data.toList k) W') => h.conv 0 128 128 (by rw [partB_len]; omega)
      rw [List.drop_zero, List.take_of_length_le (by rw [partB_len]; omega), ← hF] at CV
      obtain ⟨r2, hr2⟩ : ∃ r2, r2 = r.extract m r.size := ⟨_, rfl⟩
      have HR2 : Hid (r2.data.toList = t.data.toList.drop (128 * (pre ++ [x]).length)) := Lib.hid (by
        rw [hr2, rest_list, hr, List.drop_drop, List.length_append, ← hkk]
        by_cases h : 128 ≤ r.size
        · rw [hm, Nat.min_eq_left h]; rfl
        · rw [List.drop_of_length_le (by rw [HDL.out]; omega), List.drop_of_length_le (by rw [HDL.out]; simp; omega)])
      have hPe : r.extract m r.size = r2 := hr2.symm
      have b1 : (0 : Int) ≤ m := by omega
      have b2 : (m : Int) ≤ r.size := by omega
      have hxw : (Lit.int .i64 (x.val : Int)).wf = true := by
        have := x.isLt
        simp [Lit.wf, IntKind.min, IntKind.max, IntKind.signed, IntKind.bits]
        omega
      have hFz : F.size ≤ maxLen := by
        have h1 := partB_len t.data.toList k
        rw [← HFL.out, Array.length_toList] at h1
        have h2 : F.size = 128 := h1
        rw [h2]; decide
      have hop4 : sk.ops ≤ 4294967295 := by have := HLO.out; omega
      have HFZ := Lib.hid hFz
      have HXW := Lib.hid hxw
      have HOP4 := Lib.hid hop4
      have HKK := Lib.hid hkk
      have hmx : Try.prog.follows .mixedOrders = true := by kernel_rfl
      have hK1 : Kept W (W.alloc (.cells Z 81)) := box_below W _
      have HB0 := Lib.hid hB0
      have HB1 := Lib.hid hB1
      have HB2 := Lib.hid hB2
      have hc1 : (W.alloc (.cells Z 81)).cell? ⟨w.heap.size + 1, 0, none⟩ = some (.string r) := Kept.cell hK1 hB1.cell
      clear hxw hFz hop4 hr hrl hrz hm hZ hrow hpart hF hr2 hkk hB0 hB1 hB2 hks
      gi_wp2
      gi_region_with_o (refine ⟨trivial, ?_⟩; gi_at_call 48; refine (CallsIn.inRound l' (callsIn_wide.2 (FI _ (Below.drew (Below.refl _ _))))).mono ?_; rintro e W6 ⟨rfl, hrow6, hbut6, hsz6⟩)
      all_goals (
        have hkW6 : Kept W W6 := ButBy.kept hbut6 (fun k hk => Nat.le_of_eq hk.symm) (show Below W.heap.size W (W.alloc (.cells Z 81)).drew from (show Below W.heap.size W _ from hK1).drew) (by simp)
        have hkW6d : Kept W W6.drew := (show Below W.heap.size W W6 from hkW6).drew
        have hcv := CV W6.drew (hrow6.kept (Below.drew (Below.refl _ _)))
        have hc0 : W6.cell? ⟨w.heap.size, 0, none⟩ = some (.pointer (some ad)) := Kept.cell hkW6 HB0.out.cell
        have hk6 : P sk Bk W6.drew := HD.out.kept hk hkW6d
        clear hbut6 hsz6 hrow6 FI CV hK1
        gi_wp2
        gi_region_with_o (refine ⟨trivial, ?_⟩; gi_at_call 49; refine (CallsIn.inRound l' (callsIn_wide.2 (HD.out.write sk Bk _ (x.val : Int) F hk6 hsok HOP4.out HXW.out HFZ.out))).mono ?_; rintro e W7 ⟨rfl, ⟨Bk', hk7, hs7⟩, hb7⟩)
        all_goals (
          have hr1 := put_rows HD.out HHP hBk hkW6d hb7 (c := w.heap.size + 1) (by omega) (by omega) HB1.out
          have hr2 := put_rows HD.out HHP hBk hkW6d hb7 (c := w.heap.size + 1 + 1) (by omega) (by omega) HB2.out
          have hc1 := hr1.cell
          have hf1 := hr1.frozen
          have hc2 := hr2.cell
          have hf2 := hr2.frozen
          obtain ⟨er, her⟩ : ∃ er, er = sk.writeE (x.val : Int) F.data.toList := ⟨_, rfl⟩
          have HER := Lib.hid her
          rw [← her]
          have hsn : sk.writeS (x.val : Int) F.data.toList = putR t.data.toList 0 s (pre ++ [x]) := by rw [putR_snoc, ← HSK.out, HFL.out, Nat.zero_add, ← HKK.out]
          have hen : (putR t.data.toList 0 s pre).writeE (x.val : Int) (partB t.data.toList (0 + pre.length)) = er := by rw [← HSK.out, Nat.zero_add, ← HKK.out, ← HFL.out]; exact HER.out.symm
          clear her
          by_cases h0 : er = 0
          · subst h0
            gi_wp2
            obtain ⟨p1, p2, p3, p4, p5, p6, p7, p8⟩ := put_round HD.out HHP hp5 hk hBk hBy h5W hsz5 hkW6d hk7 hs7 hb7 (b := w.heap.size + 1) (by omega) (by omega) _ (.string r2) _ HB1.out _ rfl
            refine ⟨p8, kpD_step HD.out hk p2 p3 p5 (fun k hk => Nat.lt_of_lt_of_le (hRb k hk) h5W), ⟨_, _, p2, hsn, (okR_snoc _ _ _ _ _).2 ⟨hok', hen⟩, hsok.write _ _, ?_, p4⟩, p7 _ _ _ (by omega) (by omega) (by omega) HB0.out, ⟨r2, p1, HR2.out⟩, p7 _ _ _ (by omega) (by omega) (by omega) HB2.out, p6, Nat.le_trans h5W p5.size⟩
            have h1 := writeS_ops sk (x.val : Int) F.data.toList
            rw [List.length_append, ← HKK.out]
            show _ ≤ s.ops + (k + 1)
            omega
          · have hne : (er == 0) = false := beq_eq_false_iff_ne.2 h0
            have hne2 : (er != 0) = true := bne_iff_ne.2 h0
            gi_wp2
            obtain ⟨p1, p2, p3, p4, p5, p6, p7, p8⟩ := put_round HD.out HHP hp5 hk hBk hBy h5W hsz5 hkW6d hk7 hs7 hb7 (b := w.heap.size + 1 + 1) (by omega) (by omega) _ (.int .i64 er) _ HB2.out _ rfl
            exact ⟨p8, rfl, pre, x, er, rfl, hok', h0, hen, ⟨_, _, p2, hsn, p4⟩, p1, p6⟩))
    case done =>
      rintro Df ys W hDf rfl ⟨⟨sk, Bk, hk, rfl, hok', hsok, hops, hBk⟩, hB0, -, hB2, hBy, -⟩ hK
      have hc2 := hB2.cell
      have hf2 := hB2.frozen
      gi_wp2
      have hK2 : (W.setCell ⟨w.heap.size + 1 + 1, 0, none⟩ (.int .i64 0)).heap[Df]? = some (.deferred (some [])) := (KeepsOthers.setCell _ _ _).same Df _ hK rfl
      refine ⟨by simp, .inl ⟨_, _, rfl, run_takeDeferred hK2, ?_⟩⟩
      refine ⟨_, results_cellA1 Try.results22 _ _ ⟨w.heap.size + 1 + 1, 0, none⟩ rfl Try.underlying34 _ (cell_kept (World.cell?_setCell_same' _ _ _ (by rw [hc2]; rfl)) (grownBy_putObj' _ Df (.deferred none)) (fun r e => by cases e; exact ⟨_, hK2, rfl⟩)), ?_⟩
      have hlen : (secF l).length = (allR l).length := by unfold secF; rw [List.length_map, show secsL l = allR l from if_pos hva]
      have hRe : R = (putR t.data.toList 0 s (secF l), 0) := by
        rw [HR.out]
        unfold bPut
        rw [if_neg (by rw [HDL.out]; exact not_not_intro HFT.out), if_neg (by rw [HDN.out]; decide), ← hlen]
        exact putG_all _ _ _ 0 s hok' (secF_head hva (List.prefix_refl _))
      rw [hRe]
      exact put_end (b := w.heap.size + 1 + 1) HD.out HHP hp5 hk hBk hsz5 (by omega) (by omega) hBy ((Below.refl _ W).setCell (p := ⟨w.heap.size + 1 + 1, 0, none⟩) (by simp; omega) _) (fun k hne => heap_setCell_other _ _ _ _ hne) hDf hK2 rfl rfl _ _
    case stop =>
      rintro Df c pre W hDf hpre ⟨rfl, pr, x, er, rfl, hok', her, hwe, ⟨sk, Bk, hk, rfl, hBk⟩, hB2, hBy⟩ hK
      have hc2 := hB2.cell
      gi_wp2
      refine ⟨by simp, .inl ⟨_, _, rfl, run_takeDeferred hK, ?_⟩⟩
      refine ⟨_, results_cellA1 Try.results22 _ _ ⟨w.heap.size + 1 + 1, 0, none⟩ rfl Try.underlying34 _ (cell_kept hc2 (grownBy_putObj' _ Df (.deferred none)) (fun r e => by cases e; exact ⟨_, hK, rfl⟩)), ?_⟩
      have hlen : (secF l).length = (allR l).length := by unfold secF; rw [List.length_map, show secsL l = allR l from if_pos hva]
      have hRe : R = (putR t.data.toList 0 s (pr ++ [x]), er) := by
        rw [HR.out]
        unfold bPut
        rw [if_neg (by rw [HDL.out]; exact not_not_intro HFT.out), if_neg (by rw [HDN.out]; decide), ← hlen]
        exact putG_stop _ _ x er her pr 0 s hok' hwe (secF_head hva hpre) _ (by have := hpre.length_le; simpa using this)
      rw [hRe]
      exact put_end (b := w.heap.size + 1 + 1) HD.out HHP hp5 hk hBk hsz5 (by omega) (by omega) hBy (Below.refl _ W) (fun k _ => rfl) hDf hK rfl rfl _ _
  · have hne : (er == 0) = false := beq_eq_false_iff_ne.2 h0
    have hne2 : (er != 0) = true := bne_iff_ne.2 h0
    gi_wp2_with fail
    have KR : Kept w (W4.setCell ⟨w.heap.size + 1 + 1, 0, none⟩ (.int .i64 er)) := K4.out.setCell (p := ⟨w.heap.size + 1 + 1, 0, none⟩) (by simp; omega) _
    have hRe : R = (s, er) := by
      rw [HR.out]
      unfold bPut
      have h := HER.out
      unfold refE at h
      cases fb with
      | false =>
        rw [if_pos rfl] at h
        rw [if_pos (by rw [HDL.out]; exact of_decide_eq_false HFB.out.symm), h]
      | true =>
        rw [if_neg (by decide)] at h
        by_cases hd : s.down = true
        · rw [if_pos hd] at h
          rw [if_neg (by rw [HDL.out]; exact not_not_intro (of_decide_eq_true HFB.out.symm)), if_pos hd, h]
        · rw [if_neg hd] at h; exact absurd h h0
    refine ⟨_, results_cellA1 Try.results22 _ _ ⟨w.heap.size + 1 + 1, 0, none⟩ rfl Try.underlying34 _ (World.cell?_setCell_same' _ _ _ (by rw [hc2]; rfl)), ?_⟩
    rw [hRe]
    exact ⟨rfl, ⟨Bs, HD.out.kept HP.out KR, fun k h => Or.inl h⟩, ButBy.below KR⟩

end Go.Proofs.Ytppbknlhknadbaa
