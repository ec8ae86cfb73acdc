/- The landed blob's Copy; a disk that nobody made; the law BlobNobody. -/
import Derived.Test.YtppbknlhknadbaaBmQ
import Derived.Test.YtppbknlhknadbaaBmH
import Derived.Test.YtppbknlhknadbaaGN
namespace Go.Proofs.Ytppbknlhknadbaa
open Go.RowKit Go.Shelf
attribute [local go_sem] Oper.semAt_some

theorem runsA_zero (f : Nat → Bool) : (runsA f).length = 0 ↔ cntA f = 0 := by
  constructor
  · intro h
    have h0 : runsA f = [] := List.eq_nil_of_length_eq_zero h
    refine cntF_none fun k hk => ?_
    have := runsA_has f k hk
    rw [h0] at this
    rw [← this]
    rfl
  · intro h
    rw [runsA_none (fun k hk => cntF_zero h k hk)]
    rfl
theorem dpost_of_kept {P : Dk → (Nat → Prop) → World → Prop} {Bs : Nat → Prop} {s' : Dk} {ret : Value} {w w2 : World} {e : Ending} {w' : World} (k : Kept w w2) (h : DPost P Bs s' ret w2 e w') : DPost P Bs s' ret w e w' := by
  obtain ⟨he, ⟨Bs', hp, hs⟩, hb⟩ := h
  exact ⟨he, ⟨Bs', hp, fun j hj => (hs j hj).imp id (fun z => Nat.le_trans k.size z)⟩, (ButBy.below k).trans hb⟩

set_option maxRecDepth 100000 in
set_option maxHeartbeats 4000000 in
theorem bcopy_any (HCM : XCommonOk) (HF : BFitOk) (HPU : BPutOk) (HGE : BGetOk) : BCopyOk := by
  intro B x P D s Bs w la lb u v size hp hok hlo ha hb hla hlb hsz
  obtain ⟨ad, rfl⟩ := D.ptr
  obtain ⟨fa, hfa⟩ : ∃ fa, fa = decide (fitB la s.stands.length size) := ⟨_, rfl⟩
  obtain ⟨fb, hfb⟩ : ∃ fb, fb = decide (fitB lb s.stands.length size) := ⟨_, rfl⟩
  have LEN := fun W (k : Kept w W) => D.len s Bs W (D.kept hp k) hok
  have hst : I64 s.stands.length := by have := hok.pos; have := hok.most; unfold I64; omega
  have FA := fun W (k : Kept w W) => HF la u W s.stands.length size (ha.at_.later k) hla hst hsz
  have FB := fun W (k : Kept w W) => HF lb v W s.stands.length size (hb.at_.later k) hlb hst hsz
  have CM := fun W (k : Kept w W) => HCM la lb u v W (ha.at_.later k) (hb.at_.later k) hla hlb
  have REF := fun W (k : Kept w W) (b : Bool) => brefuses_any D (D.kept hp k) hok b
  have GE := fun W (k : Kept w W) => HGE B _ P D s Bs W la u size (D.kept hp k) hok hlo (ha.at_.later k) hla hsz
  rw [← hfa] at FA
  rw [← hfb] at FB
  have HR : ∀ d : Bool, d = decide (0 < cntA (fun k => hasR la k && hasR lb k)) → bCopy s la lb size = if fa = false ∨ fb = false ∨ d = true then (s, 1) else if s.down = true then (s, 90) else bPut s lb (bGet s la size).1 := by
    intro d hd
    unfold bCopy
    have e1 : (¬ fitB la s.stands.length size ∨ ¬ fitB lb s.stands.length size ∨ 0 < cntA (fun k => hasR la k && hasR lb k)) ↔ (fa = false ∨ fb = false ∨ d = true) := by
      rw [hfa, hfb, hd]
      simp
    by_cases h : fa = false ∨ fb = false ∨ d = true
    · rw [if_pos h, if_pos (e1.2 h)]
    · rw [if_neg h, if_neg (fun y => h (e1.1 y))]
  have HGL : Hid ((bGet s la size).1.length ≤ 1048576) := Lib.hid (by
    unfold bGet
    split
    · simp
    · rename_i hf
      have hf := Classical.not_not.1 hf
      split
      · simp
      · show (List.take _ _).length ≤ _
        have h1 := (needN_bytes (size := size.toNat) (n := (allR la).length) (by rw [Int.toNat_of_nonneg hf.1]; exact (fitB_list hf).2.1)).1
        have h2 := allR_len8 (n := s.stands.length) (size := size) hf
        rw [List.length_take]
        omega)
  have HG2 : Hid (fa = true → s.down = false → (bGet s la size).2 = 0) := Lib.hid (fun h1 h2 => by
    unfold bGet
    rw [if_neg (not_not_intro (of_decide_eq_true (hfa.symm.trans h1))), if_neg (by rw [h2]; decide)])
  obtain ⟨G, hG⟩ : ∃ G, G = bGet s la size := ⟨_, rfl⟩
  rw [← hG] at HR HGL HG2 GE
  have HHR := Lib.hid HR
  have HRUN := Lib.hid (runsA_zero (fun k => hasR la k && hasR lb k))
  obtain ⟨dd, hdd⟩ : ∃ dd, dd = decide (0 < cntA (fun k => hasR la k && hasR lb k)) := ⟨_, rfl⟩
  have HDD := Lib.hid hdd
  obtain ⟨C, hC⟩ : ∃ C, C = runsA (fun k => hasR la k && hasR lb k) := ⟨_, rfl⟩
  rw [← hC] at CM HRUN
  obtain ⟨N, hN⟩ : ∃ N, N = s.stands.length := ⟨_, rfl⟩
  rw [← hN] at LEN FA FB
  obtain ⟨R, hR⟩ : ∃ R, R = bCopy s la lb size := ⟨_, rfl⟩
  rw [← hR] at HHR ⊢
  have HD := Lib.hid D
  have HP := Lib.hid hp
  have HOK := Lib.hid hok
  have HLO := Lib.hid hlo
  have HB := Lib.hid hb
  have HLB := Lib.hid hlb
  have HHP := Lib.hid HPU
  obtain ⟨pa, ca, rfl, -, -⟩ := ha.at_.out
  obtain ⟨pb, cb, rfl, -, -⟩ := hb.at_.out
  obtain ⟨na, hna⟩ : ∃ na, na = la.length := ⟨_, rfl⟩
  obtain ⟨nb, hnb⟩ : ∃ nb, nb = lb.length := ⟨_, rfl⟩
  rw [← hna] at FA CM GE ⊢
  rw [← hnb] at FB CM HB ⊢
  clear hfa hfb hst HR hG hdd hC hN hR hna hnb ha hb hla hlb hsz hp hok hlo D HPU HF HGE HCM
  go_enter Try.func28, Try.ntmps28
  go_wp2_with fail
  refine (LEN _ (Kept.refl w)).mono ?_
  rintro e w1 ⟨rfl, hb1⟩
  have K1 : Hid (Kept w w1) := Lib.hid hb1
  clear hb1
  go_wp2_with fail
  refine (FA _ K1.out).mono ?_
  rintro e w2 ⟨rfl, hb2⟩
  have K2 : Hid (Kept w w2) := Lib.hid ((show Kept w w1 from K1.out).then hb2)
  clear hb2 FA K1
  cases fa with
  | false =>
    obtain rfl : R = (s, 1) := by rw [HHR.out dd HDD.out, if_pos (Or.inl rfl)]
    go_wp2_with fail
    refine (REF _ K2.out false).mono ?_
    rintro e w3 ⟨rfl, hb3⟩
    have K3 : Hid (Kept w w3) := Lib.hid ((show Kept w w2 from K2.out).then hb3)
    have hr1 : refE s false = 1 := rfl
    rw [hr1]
    clear hb3 hr1 REF CM GE LEN FB
    go_wp2
    go_ret
    exact ⟨rfl, ⟨Bs, HD.out.kept HP.out K3.out, fun k h => Or.inl h⟩, ButBy.below K3.out⟩
  | true =>
    go_wp2_with fail
    refine (LEN _ K2.out).mono ?_
    rintro e w3 ⟨rfl, hb3⟩
    have K3 : Hid (Kept w w3) := Lib.hid ((show Kept w w2 from K2.out).then hb3)
    clear hb3 K2 LEN
    go_wp2_with fail
    refine (FB _ K3.out).mono ?_
    rintro e w4 ⟨rfl, hb4⟩
    have K4 : Hid (Kept w w4) := Lib.hid ((show Kept w w3 from K3.out).then hb4)
    clear hb4 K3 FB
    cases fb with
    | false =>
      obtain rfl : R = (s, 1) := by rw [HHR.out dd HDD.out, if_pos (Or.inr (Or.inl rfl))]
      go_wp2_with fail
      refine (REF _ K4.out false).mono ?_
      rintro e w3 ⟨rfl, hb3⟩
      have K3 : Hid (Kept w w3) := Lib.hid ((show Kept w w4 from K4.out).then hb3)
      have hr1 : refE s false = 1 := rfl
      rw [hr1]
      clear hb3 hr1 REF CM GE
      go_wp2
      go_ret
      exact ⟨rfl, ⟨Bs, HD.out.kept HP.out K3.out, fun k h => Or.inl h⟩, ButBy.below K3.out⟩
    | true =>
      go_wp2_with fail
      refine (CM _ K4.out).mono ?_
      rintro e w5 ⟨y, rfl, hy, hb5⟩
      have K5 : Hid (Kept w w5) := Lib.hid ((show Kept w w4 from K4.out).then hb5)
      obtain ⟨py, cy, rfl, -, -⟩ := hy.out
      obtain ⟨nc, hnc⟩ : ∃ nc, nc = C.length := ⟨_, rfl⟩
      have HNC := Lib.hid hnc
      rw [← hnc]
      clear hb5 K4 CM hy hnc
      have hdn : dd = false ↔ nc = 0 := by
        rw [HDD.out, HNC.out, decide_eq_false_iff_not, HRUN.out]
        omega
      by_cases h0 : nc = 0
      · have hdf : dd = false := hdn.2 h0
        have b1 : ((nc : Int) == 0) = true := by rw [beq_iff_eq]; omega
        have HNC0 := Lib.hid h0
        clear h0 hdn
        go_wp2_with fail
        refine (REF _ K5.out true).mono ?_
        rintro e w6 ⟨rfl, hb6⟩
        have K6 : Hid (Kept w w6) := Lib.hid ((show Kept w w5 from K5.out).then hb6)
        clear hb6 K5 REF
        cases hd : s.down with
        | true =>
          have hr1 : refE s true = 90 := by unfold refE; rw [if_neg (by decide), if_pos hd]
          obtain rfl : R = (s, 90) := by rw [HHR.out dd HDD.out, if_neg (by rw [hdf]; simp), if_pos hd]
          rw [hr1]
          clear GE hr1 hd hdf
          go_wp2
          go_ret
          exact ⟨rfl, ⟨Bs, HD.out.kept HP.out K6.out, fun k h => Or.inl h⟩, ButBy.below K6.out⟩
        | false =>
          have hr1 : refE s true = 0 := by unfold refE; rw [if_neg (by decide), if_neg (by rw [hd]; decide)]
          have hRe : R = bPut s lb G.1 := by rw [HHR.out dd HDD.out, if_neg (by rw [hdf]; simp), if_neg (by rw [hd]; decide)]
          have hg2 := HG2.out (by first | rfl | trivial) hd
          have GE6 := GE _ K6.out
          rw [hg2] at GE6
          rw [hr1]
          have HRE := Lib.hid hRe
          clear GE hr1 hd hdf hg2 hRe
          go_wp2_with fail
          refine GE6.mono ?_
          rintro e w7 ⟨rfl, hb7⟩
          have K7 : Hid (Kept w w7) := Lib.hid ((show Kept w w6 from K6.out).then hb7)
          have PU := HHP.out B _ P HD.out s Bs w7 lb (.slice pb nb cb) (str G.1) (HD.out.kept HP.out K7.out) HOK.out HLO.out (HB.out.later K7.out) HLB.out (by rw [str_size]; have := HGL.out; simp only [maxLen]; omega)
          rw [str_list, ← HRE.out] at PU
          obtain ⟨X, hX⟩ : ∃ X, X = str G.1 := ⟨_, rfl⟩
          rw [← hX] at PU ⊢
          clear hb7 K6 GE6 hX
          go_wp2_with fail
          refine PU.mono ?_
          intro e w8 hpost
          have HQ := Lib.hid (dpost_of_kept K7.out hpost)
          obtain ⟨rfl, -, -⟩ := hpost
          clear PU
          go_wp2
          go_ret
          exact HQ.out
      · have hdf : dd = true := by
          cases dd with
          | true => rfl
          | false => exact absurd (hdn.1 rfl) h0
        have b1 : ((nc : Int) == 0) = false := by rw [beq_eq_false_iff_ne]; omega
        obtain rfl : R = (s, 1) := by rw [HHR.out dd HDD.out, if_pos (Or.inr (Or.inr hdf))]
        clear hdn hdf h0
        go_wp2_with fail
        refine (REF _ K5.out false).mono ?_
        rintro e w3 ⟨rfl, hb3⟩
        have K3 : Hid (Kept w w3) := Lib.hid ((show Kept w w5 from K5.out).then hb3)
        have hr1 : refE s false = 1 := rfl
        rw [hr1]
        clear hb3 hr1 REF GE
        go_wp2
        go_ret
        exact ⟨rfl, ⟨Bs, HD.out.kept HP.out K3.out, fun k h => Or.inl h⟩, ButBy.below K3.out⟩

/-! ### A disk that nobody made -/
set_option maxRecDepth 100000 in
theorem dlen_nil (w : World) : Calls Try.prog 47 #[.pointer none] w fun e w' => e = .returned (.int .i64 0) ∧ w = w' := by
  go_enter Try.func47, Try.ntmps47
  go_wp2_with fail
  refine (dmade_nil _).mono ?_
  rintro e w' ⟨rfl, rfl⟩
  go_wp2
  go_ret
  exact ⟨rfl, rfl⟩
set_option maxRecDepth 100000 in
theorem brefuses_nil (b : Bool) (w : World) : Calls Try.prog 46 #[.pointer none, .bool b] w fun e w' => e = .returned (.int .i64 4) ∧ w = w' := by
  go_enter Try.func46, Try.ntmps46
  go_wp2_with fail
  refine (dlen_nil _).mono ?_
  rintro e w' ⟨rfl, rfl⟩
  go_wp2
  go_ret
  exact ⟨rfl, rfl⟩
theorem kept_same {f : FuncId} {args : Array Value} {v : Value} {w : World} (h : Calls Try.prog f args w fun e w' => e = .returned v ∧ w = w') : Calls Try.prog f args w fun e w' => e = .returned v ∧ Below w.heap.size w w' := h.mono fun _ _ ⟨a, b⟩ => ⟨a, b ▸ Kept.refl _⟩

set_option maxRecDepth 100000 in
set_option maxHeartbeats 4000000 in
theorem bput_nil (HF : BFitOk) (l : List (Int × Int)) (v : Value) (t : ByteArray) (w : World) (hv : RunsAt l v w) (hl : l.length ≤ 65536) (ht : t.size ≤ maxLen) : Calls Try.prog 22 #[.pointer none, v, .string t] w fun e w' => e = .returned (.int .i64 4) ∧ Kept w w' := by
  have hk0 : Kept w (((w.alloc (.cells #[.pointer none] 33)).alloc (.cells #[.string t] 9)).alloc (.cells #[.int .i64 0] 34)) := ((show Kept w _ from box_below w _).then (show Kept _ _ from box_below _ _)).then (show Kept _ _ from box_below _ _)
  have hb0 : Boxed (((w.alloc (.cells #[.pointer none] 33)).alloc (.cells #[.string t] 9)).alloc (.cells #[.int .i64 0] 34)) w.heap.size 33 (.pointer none) := ((Boxed.new w _ _).alloc _).alloc _
  have hb1 : Boxed (((w.alloc (.cells #[.pointer none] 33)).alloc (.cells #[.string t] 9)).alloc (.cells #[.int .i64 0] 34)) (w.heap.size + 1) 9 (.string t) := by
    have := Boxed.new (w.alloc (.cells #[.pointer none] 33)) 9 (.string t)
    rw [World.size_alloc] at this
    exact this.alloc _
  have hb2 : Boxed (((w.alloc (.cells #[.pointer none] 33)).alloc (.cells #[.string t] 9)).alloc (.cells #[.int .i64 0] 34)) (w.heap.size + 2) 34 (.int .i64 0) := by
    have := Boxed.new ((w.alloc (.cells #[.pointer none] 33)).alloc (.cells #[.string t] 9)) 34 (.int .i64 0)
    rw [World.size_alloc, World.size_alloc] at this
    exact this
  obtain ⟨W0, hW0⟩ : ∃ W0, W0 = (((w.alloc (.cells #[.pointer none] 33)).alloc (.cells #[.string t] 9)).alloc (.cells #[.int .i64 0] 34)) := ⟨_, rfl⟩
  have HW0 := Lib.hid hW0
  rw [← hW0] at hk0 hb0 hb1 hb2
  obtain ⟨fb, hfb⟩ : ∃ fb, fb = decide (fitB l 0 t.size) := ⟨_, rfl⟩
  have LEN := fun W (_ : Kept W0 W) => kept_same (dlen_nil W)
  have FIT := fun W (k : Kept W0 W) => HF l v W 0 t.size (hv.later (hk0.then k)) hl (by unfold I64; omega) (by unfold I64; simp only [maxLen] at ht; omega)
  rw [← hfb] at FIT
  have REF := fun W (_ : Kept W0 W) => kept_same (brefuses_nil fb W)
  obtain ⟨pv, cv, rfl, -, -⟩ := hv.out
  obtain ⟨n, hn⟩ : ∃ n, n = l.length := ⟨_, rfl⟩
  rw [← hn] at FIT ⊢
  clear hfb hn hv hl ht HF hW0
  refine (callsIn_wide (n := 9)).1 ?_
  refine callsIn_of_wp_marks Try.func22 rfl trivial ?_ rfl
  simp only [Try.ntmps22, List.size_toArray, List.length_cons, List.length_nil, Nat.reduceAdd, Nat.reduceSub, Array.replicate_succ, Array.replicate_zero, List.push_toArray, List.append_toArray, List.nil_append, List.cons_append]
  gi_wp2_with fail
  rw [← HW0.out]
  refine wpIn_wide.2 ?_
  refine wp_region_kept (by kernel_rfl) (by kernel_rfl) ?_
  refine wpQuiet_load_cell (by kernel_rfl) _ _ rfl ⟨w.heap.size, 0, none⟩ rfl _ Try.underlying33 rfl _ (fun _ h => h.cell hb0.cell) (fun K hK => ?_)
  go_simp
  refine hK _ ?_; clear hK K
  refine wpQuiet_pure (v := ?_) (by kernel_rfl) ?_ (fun K hK => ?_)
  case refine_2 => intro W _; go_simp; try with_reducible rfl
  go_simp
  refine hK _ ?_; clear hK K
  refine wpQuiet_load_cell (by kernel_rfl) _ _ rfl ⟨w.heap.size, 0, none⟩ rfl _ Try.underlying33 rfl _ (fun _ h => h.cell hb0.cell) (fun K hK => ?_)
  go_simp
  refine hK _ ?_; clear hK K
  refine wpQuiet_call (by kernel_rfl) _ _ _ (fun W => by go_simp) (fun W h => Calls.kept_of h (LEN W h)) (fun K hK => ?_)
  go_simp
  refine hK _ ?_; clear hK K
  refine wpQuiet_load_cell (by kernel_rfl) _ _ rfl ⟨w.heap.size + 1, 0, none⟩ rfl _ Try.underlying9 rfl _ (fun _ h => h.cell hb1.cell) (fun K hK => ?_)
  go_simp
  refine hK _ ?_; clear hK K
  refine wpQuiet_pure (v := ?_) (by kernel_rfl) ?_ (fun K hK => ?_)
  case refine_2 => intro W _; go_simp; try with_reducible rfl
  go_simp
  refine hK _ ?_; clear hK K
  refine wpQuiet_call (by kernel_rfl) _ _ _ (fun W => by go_simp) (fun W h => Calls.kept_of h (FIT W h)) (fun K hK => ?_)
  go_simp
  refine hK _ ?_; clear hK K
  refine wpQuiet_call (by kernel_rfl) _ _ _ (fun W => by go_simp) (fun W h => Calls.kept_of h (REF W h)) (fun K hK => ?_)
  go_simp
  refine hK _ ?_; clear hK K
  refine wpQuiet_pure (v := ?_) (by kernel_rfl) ?_ (fun K hK => ?_)
  case refine_2 => intro W _; go_simp; try with_reducible rfl
  go_simp
  refine hK _ ?_; clear hK K
  refine wpQuiet_nil ?_
  intro W4 hk4
  have K4 : Hid (Kept w W4) := Lib.hid (hk0.then hk4)
  have hB2 : Boxed W4 (w.heap.size + 2) 34 (.int .i64 0) := Kept.row hk4 hb2
  clear LEN FIT REF hb0 hb1 hb2 hk0 HW0 hk4
  have hc2 := hB2.cell
  have hf2 := hB2.frozen
  gi_wp2_with fail
  have KR : Kept w (W4.setCell ⟨w.heap.size + 1 + 1, 0, none⟩ (.int .i64 4)) := K4.out.setCell (p := ⟨w.heap.size + 1 + 1, 0, none⟩) (by simp; omega) _
  exact ⟨_, results_cellA1 Try.results22 _ _ ⟨w.heap.size + 1 + 1, 0, none⟩ rfl Try.underlying34 _ (World.cell?_setCell_same' _ _ _ (by rw [hc2]; rfl)), rfl, KR⟩

set_option maxRecDepth 100000 in
set_option maxHeartbeats 4000000 in
theorem bget_nil (HF : BFitOk) (l : List (Int × Int)) (v : Value) (size : Int) (w : World) (hv : RunsAt l v w) (hl : l.length ≤ 65536) (hs : I64 size) : Calls Try.prog 26 #[.pointer none, v, .int .i64 size] w fun e w' => e = .returned (.tuple #[.string ⟨#[]⟩, .int .i64 4]) ∧ Kept w w' := by
  have hk0 : Kept w (((w.alloc (.cells #[.pointer none] 33)).alloc (.cells #[.string ⟨#[]⟩] 9)).alloc (.cells #[.int .i64 0] 34)) := ((show Kept w _ from box_below w _).then (show Kept _ _ from box_below _ _)).then (show Kept _ _ from box_below _ _)
  have hb0 : Boxed (((w.alloc (.cells #[.pointer none] 33)).alloc (.cells #[.string ⟨#[]⟩] 9)).alloc (.cells #[.int .i64 0] 34)) w.heap.size 33 (.pointer none) := ((Boxed.new w _ _).alloc _).alloc _
  have hb1 : Boxed (((w.alloc (.cells #[.pointer none] 33)).alloc (.cells #[.string ⟨#[]⟩] 9)).alloc (.cells #[.int .i64 0] 34)) (w.heap.size + 1) 9 (.string ⟨#[]⟩) := by
    have := Boxed.new (w.alloc (.cells #[.pointer none] 33)) 9 (.string ⟨#[]⟩)
    rw [World.size_alloc] at this
    exact this.alloc _
  have hb2 : Boxed (((w.alloc (.cells #[.pointer none] 33)).alloc (.cells #[.string ⟨#[]⟩] 9)).alloc (.cells #[.int .i64 0] 34)) (w.heap.size + 2) 34 (.int .i64 0) := by
    have := Boxed.new ((w.alloc (.cells #[.pointer none] 33)).alloc (.cells #[.string ⟨#[]⟩] 9)) 34 (.int .i64 0)
    rw [World.size_alloc, World.size_alloc] at this
    exact this
  obtain ⟨W0, hW0⟩ : ∃ W0, W0 = (((w.alloc (.cells #[.pointer none] 33)).alloc (.cells #[.string ⟨#[]⟩] 9)).alloc (.cells #[.int .i64 0] 34)) := ⟨_, rfl⟩
  have HW0 := Lib.hid hW0
  rw [← hW0] at hk0 hb0 hb1 hb2
  obtain ⟨fb, hfb⟩ : ∃ fb, fb = decide (fitB l 0 size) := ⟨_, rfl⟩
  have LEN := fun W (_ : Kept W0 W) => kept_same (dlen_nil W)
  have FIT := fun W (k : Kept W0 W) => HF l v W 0 size (hv.later (hk0.then k)) hl (by unfold I64; omega) hs
  rw [← hfb] at FIT
  have REF := fun W (_ : Kept W0 W) => kept_same (brefuses_nil fb W)
  obtain ⟨pv, cv, rfl, -, -⟩ := hv.out
  obtain ⟨n, hn⟩ : ∃ n, n = l.length := ⟨_, rfl⟩
  rw [← hn] at FIT ⊢
  clear hfb hn hv hl hs HF hW0
  refine (callsIn_wide (n := 9)).1 ?_
  refine callsIn_of_wp_marks Try.func26 rfl trivial ?_ rfl
  simp only [Try.ntmps26, List.size_toArray, List.length_cons, List.length_nil, Nat.reduceAdd, Nat.reduceSub, Array.replicate_succ, Array.replicate_zero, List.push_toArray, List.append_toArray, List.nil_append, List.cons_append]
  gi_wp2_with fail
  rw [← HW0.out]
  refine wpIn_wide.2 ?_
  refine wp_region_kept (by kernel_rfl) (by kernel_rfl) ?_
  refine wpQuiet_load_cell (by kernel_rfl) _ _ rfl ⟨w.heap.size, 0, none⟩ rfl _ Try.underlying33 rfl _ (fun _ h => h.cell hb0.cell) (fun K hK => ?_)
  go_simp
  refine hK _ ?_; clear hK K
  refine wpQuiet_pure (v := ?_) (by kernel_rfl) ?_ (fun K hK => ?_)
  case refine_2 => intro W _; go_simp; try with_reducible rfl
  go_simp
  refine hK _ ?_; clear hK K
  refine wpQuiet_load_cell (by kernel_rfl) _ _ rfl ⟨w.heap.size, 0, none⟩ rfl _ Try.underlying33 rfl _ (fun _ h => h.cell hb0.cell) (fun K hK => ?_)
  go_simp
  refine hK _ ?_; clear hK K
  refine wpQuiet_call (by kernel_rfl) _ _ _ (fun W => by go_simp) (fun W h => Calls.kept_of h (LEN W h)) (fun K hK => ?_)
  go_simp
  refine hK _ ?_; clear hK K
  refine wpQuiet_pure (v := ?_) (by kernel_rfl) ?_ (fun K hK => ?_)
  case refine_2 => intro W _; go_simp; try with_reducible rfl
  go_simp
  refine hK _ ?_; clear hK K
  refine wpQuiet_call (by kernel_rfl) _ _ _ (fun W => by go_simp) (fun W h => Calls.kept_of h (FIT W h)) (fun K hK => ?_)
  go_simp
  refine hK _ ?_; clear hK K
  refine wpQuiet_call (by kernel_rfl) _ _ _ (fun W => by go_simp) (fun W h => Calls.kept_of h (REF W h)) (fun K hK => ?_)
  go_simp
  refine hK _ ?_; clear hK K
  refine wpQuiet_pure (v := ?_) (by kernel_rfl) ?_ (fun K hK => ?_)
  case refine_2 => intro W _; go_simp; try with_reducible rfl
  go_simp
  refine hK _ ?_; clear hK K
  refine wpQuiet_nil ?_
  intro W4 hk4
  have K4 : Hid (Kept w W4) := Lib.hid (hk0.then hk4)
  have hB1 : Boxed W4 (w.heap.size + 1) 9 (.string ⟨#[]⟩) := Kept.row hk4 hb1
  have hB2 : Boxed W4 (w.heap.size + 2) 34 (.int .i64 0) := Kept.row hk4 hb2
  clear LEN FIT REF hb0 hb1 hb2 hk0 HW0 hk4
  have hc1 := hB1.cell
  have hf1 := hB1.frozen
  have hc2 := hB2.cell
  have hf2 := hB2.frozen
  gi_wp2_with fail
  have HX2 := boxes2 hB1 hB2 (by omega) (.string ⟨#[]⟩) (.int .i64 4)
  have KR : Kept w ((W4.setCell ⟨w.heap.size + 1, 0, none⟩ (.string ⟨#[]⟩)).setCell ⟨w.heap.size + 1 + 1, 0, none⟩ (.int .i64 4)) := ((K4.out).setCell (p := ⟨w.heap.size + 1, 0, none⟩) (by simp) _).setCell (p := ⟨w.heap.size + 1 + 1, 0, none⟩) (by simp; omega) _
  exact ⟨_, results_cellA2 Try.results26 _ _ ⟨w.heap.size + 1, 0, none⟩ ⟨w.heap.size + 1 + 1, 0, none⟩ rfl rfl Try.underlying9 Try.underlying34 _ _ HX2.1.cell HX2.2.cell, rfl, KR⟩

set_option maxRecDepth 100000 in
set_option maxHeartbeats 4000000 in
theorem bcopy_nil (HF : BFitOk) (HCM : XCommonOk) (l : List (Int × Int)) (v : Value) (size : Int) (w : World) (hv : RunsAt l v w) (hl : l.length ≤ 65536) (hs : I64 size) : Calls Try.prog 28 #[.pointer none, v, v, .int .i64 size] w fun e w' => e = .returned (.int .i64 4) ∧ Kept w w' := by
  obtain ⟨fb, hfb⟩ : ∃ fb, fb = decide (fitB l 0 size) := ⟨_, rfl⟩
  have FIT := fun W (k : Kept w W) => HF l v W 0 size (hv.later k) hl (by unfold I64; omega) hs
  have CM := fun W (k : Kept w W) => HCM l l v v W (hv.later k) (hv.later k) hl hl
  rw [← hfb] at FIT
  obtain ⟨pv, cv, rfl, -, -⟩ := hv.out
  obtain ⟨n, hn⟩ : ∃ n, n = l.length := ⟨_, rfl⟩
  rw [← hn] at FIT CM ⊢
  obtain ⟨C, hC⟩ : ∃ C, C = runsA (fun k => hasR l k && hasR l k) := ⟨_, rfl⟩
  rw [← hC] at CM
  clear hfb hn hv hl hs HF HCM hC
  go_enter Try.func28, Try.ntmps28
  go_wp2_with fail
  refine (dlen_nil _).mono ?_
  rintro e w1 ⟨rfl, hw1⟩
  subst hw1
  go_wp2_with fail
  refine (FIT _ (Kept.refl w)).mono ?_
  rintro e w2 ⟨rfl, hb2⟩
  have K2 : Hid (Kept w w2) := Lib.hid hb2
  clear hb2
  cases fb with
  | false =>
    go_wp2_with fail
    refine (brefuses_nil _ _).mono ?_
    rintro e w3 ⟨rfl, hw3⟩
    subst hw3
    go_wp2
    go_ret
    exact ⟨rfl, K2.out⟩
  | true =>
    go_wp2_with fail
    refine (dlen_nil _).mono ?_
    rintro e w3 ⟨rfl, hw3⟩
    subst hw3
    go_wp2_with fail
    refine (FIT _ K2.out).mono ?_
    rintro e w4 ⟨rfl, hb4⟩
    have K4 : Hid (Kept w w4) := Lib.hid ((show Kept w w2 from K2.out).then hb4)
    clear hb4 K2 FIT
    go_wp2_with fail
    refine (CM _ K4.out).mono ?_
    rintro e w5 ⟨y, rfl, hy, hb5⟩
    have K5 : Hid (Kept w w5) := Lib.hid ((show Kept w w4 from K4.out).then hb5)
    obtain ⟨py, cy, rfl, -, -⟩ := hy.out
    obtain ⟨nc, hnc⟩ : ∃ nc, nc = C.length := ⟨_, rfl⟩
    rw [← hnc]
    clear hb5 K4 CM hy hnc
    go_wp2_with fail
    refine (brefuses_nil _ _).mono ?_
    rintro e w6 ⟨rfl, hw6⟩
    subst hw6
    go_wp2
    go_ret
    exact ⟨rfl, K5.out⟩

end Go.Proofs.Ytppbknlhknadbaa
