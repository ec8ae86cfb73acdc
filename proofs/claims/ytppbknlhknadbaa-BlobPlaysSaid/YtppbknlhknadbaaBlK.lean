/- The walk of BlobPlays, out of the contracts. -/
import Derived.Test.YtppbknlhknadbaaGH
import Derived.Test.YtppbknlhknadbaaGE
import Derived.Deep.RegionHeld
namespace Go.Proofs.Ytppbknlhknadbaa
open Go.RowKit Go.ChangeShapes

set_option maxRecDepth 100000 in
set_option maxHeartbeats 8000000 in
theorem blobPlays_of (ND : NewDisk) (PU : BPutOk) (GE : BGetOk) (CO : BCopyOk) (w : World) (n : Int) (hn : (Lit.int .u8 n).wf = true) (v : Value) (acs : List ActB12) (hv : ActsB acs v w) (_hl : acs.length ≤ maxLen) :
    Calls Try.prog 4 #[.int .u8 n, v] w (LawPost w) := by
  have AW := fun W => bawake_of ND PU GE W
  have hn0 : 0 ≤ n ∧ n ≤ 255 := by
    have := hn
    simp [Lit.wf, IntKind.min, IntKind.max, IntKind.signed, IntKind.bits] at this
    omega
  obtain ⟨q, hq, hq40⟩ : ∃ q : Nat, n.tmod 40 = (q : Int) ∧ q < 40 := by
    refine ⟨(n.tmod 40).toNat, ?_, ?_⟩ <;> rw [Int.tmod_eq_emod_of_nonneg hn0.1] <;> omega
  obtain ⟨m, hm⟩ : ∃ m : Nat, m = 1 + q := ⟨_, rfl⟩
  have q1 : IntKind.u8.wrap (q : Int) = (q : Int) := IntWalk.u8_in _ (by omega)
  have q2 : IntKind.i64.wrap (q : Int) = (q : Int) := IntWalk.i64_in _ (by omega)
  have q3 : IntKind.i64.wrap (1 + (q : Int)) = (m : Int) := by rw [show 1 + (q : Int) = (m : Int) by omega]; exact IntWalk.i64_in _ (by omega)
  have NN := ND m w
  obtain ⟨p, c, rfl, -⟩ := hv.2
  have HV := Lib.hid hv
  obtain ⟨N, hN⟩ : ∃ N, N = acs.length := ⟨_, rfl⟩
  rw [← hN]
  have HN := Lib.hid hN
  have hNb : N ≤ 9223372036854775807 := by rw [hN]; simp only [maxLen] at _hl; omega
  have HXI : Hid ((Try.prog.info? 41).map (·.size) = some 6) := Lib.hid (by kernel_rfl)
  have HPU := Lib.hid PU
  have HGE := Lib.hid GE
  have HCO := Lib.hid CO
  have hm40 : m ≤ 40 := by omega
  have hm1 : 1 ≤ m := by omega
  clear ND PU GE CO hv hN hm hn hn0
  go_enter Try.func4, Try.ntmps4
  go_wp2_with fail
  refine NN.mono ?_
  rintro e w1 ⟨hb1, ⟨hn, _⟩ | ⟨-, ad, P, Bs0, rfl, D, hd0⟩⟩
  · exact absurd ⟨by omega, by omega⟩ hn
  rw [Int.toNat_natCast] at hd0
  have RN := rnew_any m (by omega) w1
  have HOK0 : Hid (Dk.new m).ok := Lib.hid (Dk.ok.new (by omega) (by omega))
  have HD := Lib.hid D
  have HD0 := Lib.hid hd0
  have K1 : Hid (Kept w w1) := hb1
  clear D hd0 hb1 NN
  go_wp2_with fail
  refine RN.mono ?_
  rintro e w2 ⟨vs0, rfl, hr2, hb2⟩
  have K2 : Hid (Kept w w2) := K1.out.then hb2
  have hlt0 := HD.out.above _ _ _ HD0.out
  have PR0 : Hid (Pair w.heap.size w1.heap.size w1.heap.size P (Dk.new m) Bs0 vs0 (.slice none 0 0) w2) := Lib.hid
    ⟨HD.out.kept HD0.out hb2, hr2, fun k hk hk2 => by
      have h1 := (hlt0 k hk).2
      rcases hk2 with e | e | e
      · omega
      · have := (hr2.st.lt k e).1; omega
      · simp [Value.ownBlock] at e, hb2.size, fun k hk => ⟨(hlt0 k hk).1, Nat.lt_of_lt_of_le (hlt0 k hk).2 hb2.size⟩, HOK0.out⟩
  have HBr : Hid (w.heap.size ≤ w1.heap.size) := K1.out.size
  have HOP0 : Hid ((Dk.new m).ops ≤ 0) := Lib.hid (Nat.le_refl _)
  obtain ⟨s0', hs0'⟩ : ∃ s, s = Dk.new m := ⟨_, rfl⟩
  rw [← hs0'] at PR0 HOP0
  obtain ⟨g, hg⟩ : ∃ g, g = w1.heap.size := ⟨_, rfl⟩
  rw [← hg] at PR0 HBr ⊢
  clear hr2 hb2 RN hlt0 hs0' hg
  go_wp2
  go_loopg [9] N (fun gh s8 wx => ∃ (i : Nat) (s : Dk) (Bs : Nat → Prop) (vs vw : Value), i + gh = N ∧ i ≤ 16 ∧ s8 = .int .i64 i ∧ Hid (s.ops ≤ i * 8192) ∧ Hid (Pair w.heap.size g g P s Bs vs vw wx) ∧ Hid (Kept w wx))
  case atStart => exact ⟨0, s0', Bs0, vs0, _, by omega, by omega, rfl, Lib.hid (by rw [Nat.zero_mul]; exact HOP0.out), PR0, K2⟩
  case round =>
    clear PR0 K2 HOP0 HD0 HOK0 K1 q1 q2 q3 hq
    obtain ⟨i, s, Bs, vs, vw, hig, hi16, rfl, HOP, HPR, HK⟩ := hrel
    obtain ⟨i1, hi1⟩ : ∃ i1, i1 = i + 1 := ⟨_, rfl⟩
    have v1 : IntKind.i64.wrap ((i : Int) + 1) = (i1 : Int) := by rw [show (i : Int) + 1 = (i1 : Int) by omega]; exact IntWalk.i64_in _ (by omega)
    by_cases hin : i < N
    · by_cases hi6 : i < 16
      · have hii : (i : Int) < N := by omega
        have hi6i : (i : Int) < 16 := by omega
        have hil : i < acs.length := by rw [← HN.out]; exact hin
        have HK0 : Kept wr wr.drew := below_drewN (Below.refl _ wr) 1
        have HKd : Hid (Kept w wr.drew) := Lib.hid (HK.out.then HK0)
        have hva := HV.out
        obtain ⟨hgood, p', c', hpe, hc'⟩ := hva
        simp only [Value.slice.injEq] at hpe
        obtain ⟨rfl, -, -⟩ := hpe
        rcases hc' with h0 | ⟨b, off, rfl, hcell⟩
        · omega
        have hRw := hcell i hil
        have hR : wr.drew.rangeAt b (off + i * 6) acs[i].cells.toList := fun j u hu => HKd.out.cell (hRw j u hu)
        have ha0 := HV.out.1 _ (List.getElem_mem hil)
        obtain ⟨a, hae⟩ : ∃ a, a = acs[i] := ⟨_, rfl⟩
        rw [← hae] at hR hRw ha0
        have hbs : ∀ k, PBs Bs g vs vw k → w.heap.size ≤ k := fun k hk => by
          rcases hk with y | y
          · exact (HPR.out.lt k y).1
          · exact Nat.le_trans HBr.out (HPR.out.r.lt k y).1
        obtain ⟨s1, DO, hs1⟩ := does12_of HPU.out HGE.out HCO.out HD.out (HPR.out.kept HD.out HK0) (Nat.le_trans HOP.out (by omega)) a.kd ha0.kd a.lr a.lt a.rv a.tv (live_of ha0.rv HKd.out hbs) (live_of ha0.tv HKd.out hbs) a.sz ha0.sz a.c a.fz ha0.fz
        unfold Does12 at DO
        have HOP1 : Hid (s1.ops ≤ i1 * 8192) := Lib.hid (by have h2 := HOP.out; rw [hi1, Nat.add_mul]; omega)
        obtain ⟨X, hX⟩ : ∃ X, X = a.cells := ⟨_, rfl⟩
        rw [show actB a.kd a.rv a.tv a.sz (a.c.toNat : Int) a.fz = X from hX.symm] at DO
        rw [← hX] at hR hRw
        have HXL : Hid ((Try.prog.info? 41).map (·.size) = some X.toList.length) := Lib.hid (by rw [hX]; exact HXI.out)
        have HR0 : Hid (w.rangeAt b (off + i * 6) X.toList) := Lib.hid hRw
        clear hRw hae ha0 hbs hs1 hX hcell hgood hil HK0
        go_wp2_with fail
        refine wp_region_held_drew (S := fun w' => w'.rangeAt b (off + i * 6) X.toList) (by kernel_rfl) hR (fun hHeld => ?_)
        refine wpAnyH_take (i := 0) (v := ?_) rfl (by kernel_rfl) (by kernel_rfl) (by kernel_rfl) (fun _ _ _ h => h) (Or.inl ⟨by first | kernel_rfl | rfl, ?_⟩) (by assumption) ?_
        case refine_2 => intro w hSw; go_simp; try with_reducible rfl
        refine wpAnyH_take (i := 1) (v := ?_) rfl (by kernel_rfl) (by kernel_rfl) (by kernel_rfl) (fun _ _ _ h => h) (Or.inl ⟨by first | kernel_rfl | rfl, ?_⟩) (by assumption) ?_
        case refine_2 => intro w hSw; go_simp; try with_reducible rfl
        refine wpAnyH_take (i := 2) (v := ?_) rfl (by kernel_rfl) (by kernel_rfl) (by kernel_rfl) (fun _ _ _ h => h) (Or.inl ⟨by first | kernel_rfl | rfl, ?_⟩) (by assumption) ?_
        case refine_2 => intro w hSw; go_simp; try with_reducible rfl
        refine wpAnyH_take (i := 3) (v := ?_) rfl (by kernel_rfl) (by kernel_rfl) (by kernel_rfl) (fun _ _ _ h => h) (Or.inl ⟨by first | kernel_rfl | rfl, ?_⟩) (by assumption) ?_
        case refine_2 => intro w hSw; go_simp; try with_reducible rfl
        refine wpAnyH_take (i := 4) (v := ?_) rfl (by kernel_rfl) (by kernel_rfl) (by kernel_rfl) (fun _ _ _ h => h) (Or.inl ⟨by first | kernel_rfl | rfl, ?_⟩) (by assumption) ?_
        case refine_2 => intro w hSw; go_simp; try with_reducible rfl
        refine wpAnyH_take (i := 5) (v := .agg X) rfl (by kernel_rfl) (by kernel_rfl) (by kernel_rfl) (fun _ _ _ h => h) (yieldsIf_load_mid (by first | kernel_rfl | rfl) _ _ rfl b (off + i * 6) (by kernel_rfl) X.toList _ (fun _ h => h) Try.underlying41 rfl HXL.out) (by assumption) ?_
        refine wpAnyH_ready (rs := [6]) (by kernel_rfl) (by simp) (AllReadyH.cons rfl (fun K hK => ?_) AllReadyH.nil)
        go_simp
        refine DO.mono ?_
        rintro e w3 ⟨rfl, ⟨Bs', vs', vw', hp', -⟩, hbut⟩
        have K3 : Hid (Kept w w3) := Lib.hid (hbut.kept (fun k hk => by
          rcases hk with y | y
          · exact (HPR.out.lt k y).1
          · exact Nat.le_trans HBr.out (HPR.out.r.lt k y).1) HKd.out HKd.out.size)
        have HPR3 := Lib.hid hp'
        have R3 : w3.rangeAt b (off + i * 6) X.toList := fun j v hv => K3.out.cell (HR0.out j v hv)
        refine hK.out _ _ R3 (fun _ => ?_)
        clear hK K
        have CI := fun W (h : Kept w3 W) => Calls.kept_of h (HD.out.image s1 Bs' W (HD.out.kept HPR3.out.d h) HPR3.out.ok)
        have CR : ∀ W, Kept w3 W → Calls Try.prog 18 #[.pointer (some ⟨g, 0, none⟩)] W fun e w' => e = .returned (.string (str s1.image)) ∧ Kept w3 w' := fun W h => (rimage_any (HPR3.out.r.kept h) HPR3.out.ok).mono fun e w' ⟨a, b⟩ => ⟨a, b ▸ h⟩
        have CD := fun W (h : Kept w3 W) => Calls.kept_of h (HD.out.down s1 Bs' W (HD.out.kept HPR3.out.d h))
        have CW := fun W (h : Kept w3 W) => Calls.kept_of h (HD.out.waits s1 Bs' W (HD.out.kept HPR3.out.d h))
        obtain ⟨pw, cw, hvw, -, -⟩ := own_slice HPR3.out.r.wt
        have H1 : Hid (w3.cell? ⟨g, 1, none⟩ = some vw') := Lib.hid (HPR3.out.r.cell 1 _ rfl)
        have H4 : Hid (w3.cell? ⟨g, 4, none⟩ = some (.bool s1.down)) := Lib.hid (HPR3.out.r.cell 4 _ rfl)
        rw [hvw] at H1
        obtain ⟨im, him⟩ : ∃ im, im = str s1.image := ⟨_, rfl⟩
        rw [← him] at CI CR
        obtain ⟨nw, hnw⟩ : ∃ nw, nw = s1.waits.length := ⟨_, rfl⟩
        rw [← hnw] at CW H1
        obtain ⟨dn, hdn⟩ : ∃ dn, dn = s1.down := ⟨_, rfl⟩
        rw [← hdn] at CD H4
        have n1 : (im.toList != im.toList) = false := by simp
        have n1b : (im.toList == im.toList) = true := by simp
        have n2 : (dn != dn) = false := by simp
        have n2b : (dn == dn) = true := by simp
        have n3 : ((nw : Int) != (nw : Int)) = false := by simp
        have n3b : ((nw : Int) == (nw : Int)) = true := by simp
        clear him hnw hdn hvw hp' hbut DO HPR HK hHeld hR
        refine wpAnyH_rest 7 (C := Kept w3) (by kernel_rfl) (by kernel_rfl) rfl (fun W hW j v hv => hW.cell (R3 j v hv)) (Below.refl _ _) ?_
        simp only [List.drop_succ_cons, List.drop_zero]
        refine wpQuiet_pure (v := ?_) (by kernel_rfl) ?_ (fun K hK => ?_)
        case refine_2 => intro W _; go_simp; try with_reducible rfl
        go_simp
        refine hK _ ?_; clear hK K
        refine wpQuiet_pure (v := ?_) (by kernel_rfl) ?_ (fun K hK => ?_)
        case refine_2 => intro W _; go_simp; try with_reducible rfl
        go_simp
        refine hK _ ?_; clear hK K
        refine wpQuiet_pure (v := ?_) (by kernel_rfl) ?_ (fun K hK => ?_)
        case refine_2 => intro W _; go_simp; try with_reducible rfl
        go_simp
        refine hK _ ?_; clear hK K
        refine wpQuiet_call (by kernel_rfl) _ _ _ (fun W => by go_simp) (fun W h => CI W h) (fun K hK => ?_)
        go_simp
        refine hK _ ?_; clear hK K
        refine wpQuiet_pure (v := ?_) (by kernel_rfl) ?_ (fun K hK => ?_)
        case refine_2 => intro W _; go_simp; try with_reducible rfl
        go_simp
        refine hK _ ?_; clear hK K
        refine wpQuiet_call (by kernel_rfl) _ _ _ (fun W => by go_simp) (fun W h => CR W h) (fun K hK => ?_)
        go_simp
        refine hK _ ?_; clear hK K
        refine wpQuiet_pure (by kernel_rfl) (.bool false) (fun W _ => by go_simp) (fun K hK => ?_)
        go_simp
        refine hK _ ?_; clear hK K
        refine wpQuiet_pure (v := ?_) (by kernel_rfl) ?_ (fun K hK => ?_)
        case refine_2 => intro W _; go_simp; try with_reducible rfl
        go_simp
        refine hK _ ?_; clear hK K
        refine wpQuiet_pure (v := ?_) (by kernel_rfl) ?_ (fun K hK => ?_)
        case refine_2 => intro W _; go_simp; try with_reducible rfl
        go_simp
        refine hK _ ?_; clear hK K
        refine wpQuiet_pure (v := ?_) (by kernel_rfl) ?_ (fun K hK => ?_)
        case refine_2 => intro W _; go_simp; try with_reducible rfl
        go_simp
        refine hK _ ?_; clear hK K
        refine wpQuiet_call (by kernel_rfl) _ _ _ (fun W => by go_simp) (fun W h => CD W h) (fun K hK => ?_)
        go_simp
        refine hK _ ?_; clear hK K
        refine wpQuiet_pure (v := ?_) (by kernel_rfl) ?_ (fun K hK => ?_)
        case refine_2 => intro W _; go_simp; try with_reducible rfl
        go_simp
        refine hK _ ?_; clear hK K
        refine wpQuiet_pure (v := ?_) (by kernel_rfl) ?_ (fun K hK => ?_)
        case refine_2 => intro W _; go_simp; try with_reducible rfl
        go_simp
        refine hK _ ?_; clear hK K
        refine wpQuiet_pure (v := ?_) (by kernel_rfl) ?_ (fun K hK => ?_)
        case refine_2 => intro W _; go_simp; try with_reducible rfl
        go_simp
        refine hK _ ?_; clear hK K
        refine wpQuiet_load_cell (by kernel_rfl) _ _ rfl ⟨g, 4, none⟩ rfl _ Try.underlying4 rfl _ (fun _ h => h.cell H4.out) (fun K hK => ?_)
        go_simp
        refine hK _ ?_; clear hK K
        refine wpQuiet_pure (by kernel_rfl) (.bool false) (fun W _ => by go_simp) (fun K hK => ?_)
        go_simp
        refine hK _ ?_; clear hK K
        refine wpQuiet_pure (v := ?_) (by kernel_rfl) ?_ (fun K hK => ?_)
        case refine_2 => intro W _; go_simp; try with_reducible rfl
        go_simp
        refine hK _ ?_; clear hK K
        refine wpQuiet_pure (v := ?_) (by kernel_rfl) ?_ (fun K hK => ?_)
        case refine_2 => intro W _; go_simp; try with_reducible rfl
        go_simp
        refine hK _ ?_; clear hK K
        refine wpQuiet_pure (v := ?_) (by kernel_rfl) ?_ (fun K hK => ?_)
        case refine_2 => intro W _; go_simp; try with_reducible rfl
        go_simp
        refine hK _ ?_; clear hK K
        refine wpQuiet_call (by kernel_rfl) _ _ _ (fun W => by go_simp) (fun W h => CW W h) (fun K hK => ?_)
        go_simp
        refine hK _ ?_; clear hK K
        refine wpQuiet_pure (v := ?_) (by kernel_rfl) ?_ (fun K hK => ?_)
        case refine_2 => intro W _; go_simp; try with_reducible rfl
        go_simp
        refine hK _ ?_; clear hK K
        refine wpQuiet_pure (v := ?_) (by kernel_rfl) ?_ (fun K hK => ?_)
        case refine_2 => intro W _; go_simp; try with_reducible rfl
        go_simp
        refine hK _ ?_; clear hK K
        refine wpQuiet_pure (v := ?_) (by kernel_rfl) ?_ (fun K hK => ?_)
        case refine_2 => intro W _; go_simp; try with_reducible rfl
        go_simp
        refine hK _ ?_; clear hK K
        refine wpQuiet_load_cell (by kernel_rfl) _ _ rfl ⟨g, 1, none⟩ rfl _ Try.underlying44 rfl _ (fun _ h => h.cell H1.out) (fun K hK => ?_)
        go_simp
        refine hK _ ?_; clear hK K
        refine wpQuiet_pure (v := ?_) (by kernel_rfl) ?_ (fun K hK => ?_)
        case refine_2 => intro W _; go_simp; try with_reducible rfl
        go_simp
        refine hK _ ?_; clear hK K
        refine wpQuiet_pure (by kernel_rfl) (.bool false) (fun W _ => by go_simp) (fun K hK => ?_)
        go_simp
        refine hK _ ?_; clear hK K
        refine wpQuiet_pure (v := ?_) (by kernel_rfl) ?_ (fun K hK => ?_)
        case refine_2 => intro W _; go_simp; try with_reducible rfl
        go_simp
        refine hK _ ?_; clear hK K
        refine wpQuiet_nil ?_
        intro w4 hk4
        have K4 : Hid (Kept w w4) := K3.out.then hk4
        have HPR4 := Lib.hid (HPR3.out.kept HD.out hk4)
        clear hk4 HPR3 K3 CI CR CD CW H1 H4 R3 n1 n1b n2 n2b n3 n3b HR0 HXL
        go_wp2
        go_roundg (N - i1)
        case measure => omega
        case rel => exact ⟨i1, s1, Bs', vs', vw', by omega, by omega, by first | rfl | (congr 1; omega), HOP1, HPR4, K4⟩
      · have hii : (i : Int) < N := by omega
        have hi6i : ¬ (i : Int) < 16 := by omega
        go_wp2_with fail
        refine (AW wr).mono ?_
        rintro e w3 ⟨rfl, hb⟩
        have K3 : Hid (Kept w w3) := HK.out.then hb
        clear hb HK
        go_wp2
        go_ret
        exact ⟨rfl, K3.out⟩
    · have hii : ¬ (i : Int) < N := by omega
      go_wp2_with fail
      refine (AW wr).mono ?_
      rintro e w3 ⟨rfl, hb⟩
      have K3 : Hid (Kept w w3) := HK.out.then hb
      clear hb HK
      go_wp2
      go_ret
      exact ⟨rfl, K3.out⟩

end Go.Proofs.Ytppbknlhknadbaa
