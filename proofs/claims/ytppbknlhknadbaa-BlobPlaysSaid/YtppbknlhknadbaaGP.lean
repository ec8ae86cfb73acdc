/- The landed extent's Join, Minus; slices.Grow, slices.Concat. The landed extent's Count, Has. The landed extent's May. -/
import Derived.Test.YtppbknlhknadbaaEcC
import Derived.Lib.AppendZerosOnto
namespace Go.Proofs.Ytppbknlhknadbaa
open Go.RowKit

def fstL (la lb : List (Int × Int)) : Nat → List (Int × Int)
  | 0 => []
  | 1 => la
  | _ => la ++ lb

end Go.Proofs.Ytppbknlhknadbaa
namespace Go.Proofs.Ytppbknlhknadbaa
open Go.RowKit

theorem crop_in (r : Int × Int) (a : Int) : decide ((cropI r).1 ≤ a ∧ a < (cropI r).1 + (cropI r).2) = (decide (0 ≤ a ∧ a < 8192) && inR r a.toNat) := by
  have hb := crop_bound r
  by_cases h : 0 ≤ a ∧ a < 8192
  · rw [decide_eq_true h, Bool.true_and, ← crop_has r a.toNat (by omega)]
    unfold inR
    refine decide_eq_decide.2 ?_
    rw [Int.toNat_of_nonneg h.1]
  · rw [decide_eq_false h, Bool.false_and]
    exact decide_eq_false (by omega)
theorem hasSec_any (l : List (Int × Int)) (a : Int) : hasSec l a = l.any fun r => decide ((cropI r).1 ≤ a ∧ a < (cropI r).1 + (cropI r).2) := by
  unfold hasSec hasR
  simp only [crop_in]
  cases h : decide (0 ≤ a ∧ a < 8192) with
  | false => simp
  | true => simp

def IdxP (l : List (Int × Int)) (q : Int × Int → Bool) (w : World) (e : Ending) (w' : World) : Prop :=
  ∃ i : Int, e = .returned (.int .i64 i) ∧ decide (i ≥ 0) = l.any q ∧ Below w.heap.size w w'

set_option maxRecDepth 100000 in
set_option maxHeartbeats 4000000 in
theorem ecount_any (l : List (Int × Int)) (v : Value) (w : World) (h : RunsAt l v w) (hl : l.length ≤ 1048576) :
    Calls Try.prog 32 #[v] w fun e w' => e = .returned (.int .i64 (cntA (hasR l) : Nat)) ∧ Below w.heap.size w w' := by
  have PL := eplain_any l v w h hl
  obtain ⟨p, c, rfl, -, -⟩ := h.out
  have HPP : Hid (PlainL (runsA (hasR l))) := Lib.hid (runsA_plain _)
  have HCN : Hid (((cntA (hasR l) : Nat) : Int) = sumR (runsA (hasR l))) := Lib.hid (by rw [← (runsA_plain (hasR l)).count, cntA_again])
  have hlen := runsA_len (hasR l)
  obtain ⟨P, hP⟩ : ∃ P, P = runsA (hasR l) := ⟨_, rfl⟩
  rw [← hP] at PL HPP HCN hlen
  obtain ⟨nl, hnl⟩ : ∃ nl, nl = l.length := ⟨_, rfl⟩
  rw [← hnl] at PL ⊢
  obtain ⟨ct, hct⟩ : ∃ ct, ct = cntA (hasR l) := ⟨_, rfl⟩
  rw [← hct] at HCN ⊢
  clear h hl hP hnl hct
  go_enter Try.func32, Try.ntmps32
  go_wp2_with fail
  refine PL.mono ?_
  rintro e w1 ⟨u, rfl, ho, hb1⟩
  obtain ⟨pu, cu, rfl, hcu, hcell⟩ := own_slice ho
  obtain ⟨n, hn⟩ : ∃ n, n = P.length := ⟨_, rfl⟩
  rw [← hn] at hcu hlen ⊢
  have HC := Lib.hid hcell
  have HN := Lib.hid hn
  have HB1 := Lib.hid hb1
  clear PL ho hcell hn hb1
  go_wp2
  go_loopg [3, 9] n (fun gh s3 s9 wx => ∃ (i : Nat), i + gh = n ∧ s9 = .int .i64 i ∧ s3 = .int .i64 (sumR (P.take i)) ∧ Hid (Kept w1 wx))
  case atStart => exact ⟨0, by omega, rfl, rfl, Lib.hid (Kept.refl w1)⟩
  case round =>
    obtain ⟨i, hi, rfl, rfl, HK⟩ := hrel
    obtain ⟨i1, hi1⟩ : ∃ i1, i1 = i + 1 := ⟨_, rfl⟩
    have v1 : IntKind.i64.wrap ((i : Int) + 1) = (i1 : Int) := by rw [show (i : Int) + 1 = (i1 : Int) by omega]; exact IntWalk.i64_in _ (by omega)
    by_cases hin : i < n
    · have hki : (i : Int) < n := by omega
      have bk : decide ((i : Int) < (n : Int)) = true := by simpa using hki
      have hki0 : (0 : Int) ≤ i := by omega
      have hil : i < P.length := by rw [← HN.out]; exact hin
      rcases HC.out with h0 | ⟨g, rfl, hgb, hcell⟩
      · omega
      have hgc := runC_get P i hil
      have d1 := HK.out.cell (hcell _ _ hgc.1)
      have d2 := HK.out.cell (hcell _ _ hgc.2)
      have hst := sumR_takeE P i hil
      have hb1 := (HPP.out.take i).sum_le
      have hb2 := (HPP.out.take (i + 1)).sum_le
      obtain ⟨r, hr⟩ : ∃ r, r = P[i] := ⟨_, rfl⟩
      rw [← hr] at d1 d2 hst
      obtain ⟨x, y⟩ := r
      rw [← hi1] at hst hb2
      simp only at hst d1 d2
      obtain ⟨s0, hs0⟩ : ∃ s0, s0 = sumR (P.take i) := ⟨_, rfl⟩
      obtain ⟨s1, hs1⟩ : ∃ s1, s1 = sumR (P.take i1) := ⟨_, rfl⟩
      rw [← hs0] at hst hb1 ⊢
      rw [← hs1] at hst hb2
      have HS1 := Lib.hid hs1
      have v2 : IntKind.i64.wrap (s0 + y) = s1 := by rw [← hst]; exact IntWalk.i64_in _ (by omega)
      have HK2 : Hid (Kept w1 (wr.alloc (.cells #[.int .i64 x, .int .i64 y] 66))) := Lib.hid (HK.out.then (box_below wr _))
      clear hgc hr hcell hgb hst hb1 hb2 hs0 hs1 hil
      go_wp2
      go_roundg (n - i1)
      case measure => omega
      case rel => exact ⟨i1, by omega, by first | rfl | (congr 1; omega), by rw [HS1.out], HK2⟩
    · have hki : ¬ (i : Int) < n := by omega
      have bk : decide ((i : Int) < (n : Int)) = false := by simpa using hki
      have HE : Hid (sumR (P.take i) = (ct : Nat)) := Lib.hid (by rw [HCN.out, List.take_of_length_le (by rw [← HN.out]; omega)])
      have HKE : Hid (Kept w wr) := Lib.hid ((show Kept w w1 from HB1.out).then HK.out)
      obtain ⟨s0, hs0⟩ : ∃ s0, s0 = sumR (P.take i) := ⟨_, rfl⟩
      rw [← hs0] at HE ⊢
      clear hs0
      go_wp2
      go_ret
      exact ⟨by rw [HE.out]; rfl, HKE.out⟩

end Go.Proofs.Ytppbknlhknadbaa
namespace Go.Proofs.Ytppbknlhknadbaa
open Go.RowKit

theorem validL_fit {fr te : Int} {l : List (Int × Int)} (h : validL fr te l) (i : Nat) (hi : i < l.length) : fitR fr te l[i] := by
  have := (h i hi).1
  rwa [List.getD_eq_getElem?_getD, List.getElem?_eq_getElem hi] at this

set_option maxRecDepth 100000 in
set_option maxHeartbeats 8000000 in
theorem emay_any (l : List (Int × Int)) (v : Value) (w : World) (fr te : Int) (h : RunsAt l v w) (hl : l.length ≤ 1048576) (hfr : I64 fr) (hte : I64 te) :
    Calls Try.prog 31 #[v, .int .i64 fr, .int .i64 te] w fun e w' => e = .returned (.bool (decide (validL fr te l))) ∧ Below w.heap.size w w' := by
  obtain ⟨p, c, rfl, hcap, hc⟩ := h.out
  have HH := Lib.hid h
  have HWF := Lib.hid h.wf
  have HC := Lib.hid hc
  have HTE := Lib.hid hte
  have HFR := Lib.hid hfr
  have OR := fun W (k : Kept w W) => ordered_any l (.slice p l.length c) W (h.later k) hl
  obtain ⟨n, hn⟩ : ∃ n, n = l.length := ⟨_, rfl⟩
  obtain ⟨res, hres⟩ : ∃ res, res = decide (validL fr te l) := ⟨_, rfl⟩
  rw [← hn] at OR hl ⊢
  rw [← hres]
  have HN := Lib.hid hn
  have HRES := Lib.hid hres
  have HOR := Lib.hid OR
  clear h hcap hc hn hres hfr hte OR
  go_enter Try.func31, Try.ntmps31
  go_wp2
  go_loopg [13] n (fun gh s13 wx => ∃ (i : Nat), i + gh = n ∧ s13 = .int .i64 i ∧ Hid (∀ j, ∀ h : j < l.length, j < i → fitR fr te l[j]) ∧ Hid (Kept w wx))
  case atStart => exact ⟨0, by omega, rfl, Lib.hid (fun j _ h => by omega), Lib.hid (Kept.refl w)⟩
  case round =>
    obtain ⟨i, hi, rfl, HF, HK⟩ := hrel
    obtain ⟨i1, hi1⟩ : ∃ i1, i1 = i + 1 := ⟨_, rfl⟩
    have v1 : IntKind.i64.wrap ((i : Int) + 1) = (i1 : Int) := by rw [show (i : Int) + 1 = (i1 : Int) by omega]; exact IntWalk.i64_in _ (by omega)
    by_cases hin : i < n
    · have hki : (i : Int) < n := by omega
      have bk : decide ((i : Int) < (n : Int)) = true := by simpa using hki
      have hki0 : (0 : Int) ≤ i := by omega
      have hil : i < l.length := by rw [← HN.out]; exact hin
      rcases HC.out with h0 | ⟨b, off, rfl, hcell⟩
      · omega
      have d1 := HK.out.cell (hcell i hil).1
      have d2 := HK.out.cell (hcell i hil).2
      have hw := HWF.out _ (List.getElem_mem hil)
      have HNO : Hid (¬ fitR fr te l[i] → res = false) := Lib.hid (fun hn => by rw [HRES.out]; exact decide_eq_false (fun hv => hn (validL_fit hv i hil)))
      have HYES : Hid (fitR fr te l[i] → ∀ j, ∀ h : j < l.length, j < i1 → fitR fr te l[j]) := Lib.hid (fun hy j hj hji => by
        by_cases e : j = i
        · subst e; exact hy
        · exact HF.out j hj (by omega))
      obtain ⟨r, hr⟩ : ∃ r, r = l[i] := ⟨_, rfl⟩
      rw [← hr] at d1 d2 hw HNO HYES
      obtain ⟨x, y⟩ := r
      have LI := fun W => lies_any x y fr te hw.1 hw.2 HTE.out W
      have HK2 : Hid (Kept w (wr.alloc (.cells #[.int .i64 x, .int .i64 y] 66))) := Lib.hid (HK.out.then (box_below wr _))
      simp only at d1 d2
      clear hw hr hil hcell
      by_cases hf : fitR fr te (x, y)
      · rw [decide_eq_true hf] at LI
        have HY2 := Lib.hid (HYES.out hf)
        clear hf HNO HYES
        go_wp2_with fail
        refine (LI _).mono ?_
        rintro e w2 ⟨rfl, hb2⟩
        have HK3 : Hid (Kept w w2) := Lib.hid (HK2.out.then hb2)
        clear LI hb2 d1 d2
        go_wp2
        go_roundg (n - i1)
        case measure => omega
        case rel => exact ⟨i1, by omega, by first | rfl | (congr 1; omega), HY2, HK3⟩
      · rw [decide_eq_false hf] at LI
        have HR0 := Lib.hid (HNO.out hf)
        clear hf HNO HYES
        go_wp2_with fail
        refine (LI _).mono ?_
        rintro e w2 ⟨rfl, hb2⟩
        have HK3 : Hid (Kept w w2) := Lib.hid (HK2.out.then hb2)
        clear LI hb2 d1 d2
        go_wp2
        go_ret
        exact ⟨by rw [HR0.out]; rfl, HK3.out⟩
    · have hki : ¬ (i : Int) < n := by omega
      have bk : decide ((i : Int) < (n : Int)) = false := by simpa using hki
      have HALL : Hid (∀ r ∈ l, fitR fr te r) := Lib.hid (fun r hr => by
        obtain ⟨j, hj, rfl⟩ := List.mem_iff_getElem.1 hr
        exact HF.out j hj (by have := HN.out; omega))
      have OR := HOR.out wr HK.out
      clear HOR HF
      go_wp2_with fail
      refine OR.mono ?_
      rintro e w3 ⟨s, u, rfl, hp, hpw, ho, hb3⟩
      have VS := valid_sorted hp hpw HALL.out
      have hsl := hp.length_eq
      have HFS : Hid (∀ r ∈ s, fitR fr te r) := Lib.hid (fun r hr => HALL.out r (hp.mem_iff.1 hr))
      have HWS : Hid (wfR s) := Lib.hid (fun r hr => HWF.out r (hp.mem_iff.1 hr))
      obtain ⟨pu, cu, rfl, hcu, hcell⟩ := own_slice ho
      have hns : s.length = n := by rw [hsl]; exact HN.out.symm
      rw [hns] at hcu ⊢
      have HNS := Lib.hid hns
      have HCS := Lib.hid hcell
      have HVS := Lib.hid VS
      have HK3 : Hid (Kept w w3) := Lib.hid (HK.out.then hb3)
      clear OR hp hpw ho hb3 VS hsl hns hcell
      go_wp2
      go_loopg [10] n (fun gh s10 wx => ∃ (j : Nat), j + gh = n + 1 ∧ 1 ≤ j ∧ s10 = .int .i64 j ∧ Hid (∀ k, ∀ h : k + 1 < s.length, k + 1 < j → s[k].1 + s[k].2 ≤ s[k + 1].1) ∧ Hid (Kept w3 wx))
      case atStart => exact ⟨1, by omega, by omega, by first | rfl | (congr 1), Lib.hid (fun k _ h => by omega), Lib.hid (Kept.refl w3)⟩
      case round =>
        obtain ⟨j, hj, hj1, rfl, HO, HKX⟩ := hrel
        obtain ⟨j1, hj1e⟩ : ∃ j1, j1 = j + 1 := ⟨_, rfl⟩
        have u1 : IntKind.i64.wrap ((j : Int) + 1) = (j1 : Int) := by rw [show (j : Int) + 1 = (j1 : Int) by omega]; exact IntWalk.i64_in _ (by omega)
        by_cases hjn : j < n
        · have hkj : (j : Int) < n := by omega
          have bj : decide ((j : Int) < (n : Int)) = true := by simpa using hkj
          have hkj0 : (0 : Int) ≤ j := by omega
          obtain ⟨jm, hjm⟩ : ∃ jm, jm = j - 1 := ⟨_, rfl⟩
          have u2 : IntKind.i64.wrap ((j : Int) - 1) = (jm : Int) := by rw [show (j : Int) - 1 = (jm : Int) by omega]; exact IntWalk.i64_in _ (by omega)
          have i1' : (0 : Int) ≤ jm := by omega
          have i2' : (jm : Int) < n := by omega
          have hjl : j < s.length := by rw [HNS.out]; exact hjn
          have hml : jm < s.length := by omega
          rcases HCS.out with h0 | ⟨g, rfl, hgb, hcell⟩
          · have := HNS.out; omega
          have hgj := runC_get s j hjl
          have hgm := runC_get s jm hml
          have c1 := HKX.out.cell (hcell _ _ hgm.1)
          have c2 := HKX.out.cell (hcell _ _ hgm.2)
          have c3 := HKX.out.cell (hcell _ _ hgj.1)
          have hfm := HFS.out _ (List.getElem_mem hml)
          have hwm := HWS.out _ (List.getElem_mem hml)
          have HST : Hid (s[jm].1 + s[jm].2 ≤ s[j].1 → ∀ k, ∀ h : k + 1 < s.length, k + 1 < j1 → s[k].1 + s[k].2 ≤ s[k + 1].1) := Lib.hid (fun hy k hk hkj => by
            by_cases e : k = jm
            · subst e
              have e2 : k + 1 = j := by omega
              subst e2
              exact hy
            · exact HO.out k hk (by omega))
          have HBAD : Hid (¬ s[jm].1 + s[jm].2 ≤ s[j].1 → res = false) := Lib.hid (fun hn => by
            rw [HRES.out]
            refine decide_eq_false (fun hv => hn ?_)
            have h5 := HVS.out.1 hv jm (by omega)
            have e2 : jm + 1 = j := by omega
            subst e2
            exact h5)
          obtain ⟨r, hr⟩ : ∃ r, r = s[jm] := ⟨_, rfl⟩
          obtain ⟨x3, hx3⟩ : ∃ x3, x3 = s[j].1 := ⟨_, rfl⟩
          rw [← hr] at c1 c2 hfm hwm HST HBAD
          rw [← hx3] at c3 HST HBAD
          obtain ⟨x, y⟩ := r
          simp only at c1 c2
          have hf2 : fr ≤ x ∧ 1 ≤ y ∧ x + y ≤ te := hfm
          obtain ⟨z, hz⟩ : ∃ z, z = x + y := ⟨_, rfl⟩
          have EN := fun W => eend_any x y ⟨by have := hwm.1; simp only at this; omega, by have := HTE.out.2; omega⟩ W
          simp only at HST HBAD
          rw [← hz] at EN HST HBAD
          clear hgj hgm hcell hgb hfm hwm hf2 hr hx3 hz hjm
          by_cases hzx : z > x3
          · have bz : decide (z > x3) = true := decide_eq_true hzx
            have HR0 := Lib.hid (HBAD.out (by omega))
            clear HST HBAD
            go_wp2_with fail
            refine wp_region_kept (by kernel_rfl) (by kernel_rfl) ?_
            refine wpQuiet_pure (v := ?_) (by kernel_rfl) ?_ (fun K hK => ?_)
            case refine_2 => intro W _; go_simp; try with_reducible rfl
            go_simp
            refine hK _ ?_; clear hK K
            refine wpQuiet_pure (v := ?_) (by kernel_rfl) ?_ (fun K hK => ?_)
            case refine_2 => intro W _; go_simp; try with_reducible rfl
            go_simp
            refine hK _ ?_; clear hK K
            refine wpQuiet_pure (v := ?_) (by kernel_rfl) ?_ (fun K hK => ?_)
            case refine_2 => intro W _; go_simp; try with_reducible rfl
            go_simp
            refine hK _ ?_; clear hK K
            refine wpQuiet_pure (v := ?_) (by kernel_rfl) ?_ (fun K hK => ?_)
            case refine_2 => intro W _; go_simp; try with_reducible rfl
            go_simp
            refine hK _ ?_; clear hK K
            refine wpQuiet_pure (v := ?_) (by kernel_rfl) ?_ (fun K hK => ?_)
            case refine_2 => intro W hW; have e0 := hW.cell c1; have e1 := hW.cell c2; go_simp; try with_reducible rfl
            go_simp
            refine hK _ ?_; clear hK K
            refine wpQuiet_call (by kernel_rfl) _ _ _ (fun W => by go_simp) (fun W h => Calls.kept_of h (EN W)) (fun K hK => ?_)
            go_simp
            refine hK _ ?_; clear hK K
            refine wpQuiet_pure (v := ?_) (by kernel_rfl) ?_ (fun K hK => ?_)
            case refine_2 => intro W _; go_simp; try with_reducible rfl
            go_simp
            refine hK _ ?_; clear hK K
            refine wpQuiet_pure (v := ?_) (by kernel_rfl) ?_ (fun K hK => ?_)
            case refine_2 => intro W _; go_simp; try with_reducible rfl
            go_simp
            refine hK _ ?_; clear hK K
            refine wpQuiet_pure (v := ?_) (by kernel_rfl) ?_ (fun K hK => ?_)
            case refine_2 => intro W _; go_simp; try with_reducible rfl
            go_simp
            refine hK _ ?_; clear hK K
            refine wpQuiet_pure (v := ?_) (by kernel_rfl) ?_ (fun K hK => ?_)
            case refine_2 => intro W _; go_simp; try with_reducible rfl
            go_simp
            refine hK _ ?_; clear hK K
            refine wpQuiet_pure (v := ?_) (by kernel_rfl) ?_ (fun K hK => ?_)
            case refine_2 => intro W hW; have e0 := hW.cell c3; go_simp; try with_reducible rfl
            go_simp
            refine hK _ ?_; clear hK K
            refine wpQuiet_pure (v := ?_) (by kernel_rfl) ?_ (fun K hK => ?_)
            case refine_2 => intro W _; go_simp; try with_reducible rfl
            go_simp
            refine hK _ ?_; clear hK K
            refine wpQuiet_nil ?_
            intro w9 hk9

            have HK9 : Hid (Kept w w9) := Lib.hid ((HK3.out.then HKX.out).then hk9)
            clear hk9 EN c1 c2 c3
            go_wp2
            go_ret
            exact ⟨by rw [HR0.out]; rfl, HK9.out⟩
          · have bz : decide (z > x3) = false := decide_eq_false hzx
            have HS2 := Lib.hid (HST.out (by omega))
            clear HST HBAD
            go_wp2_with fail
            refine wp_region_kept (by kernel_rfl) (by kernel_rfl) ?_
            refine wpQuiet_pure (v := ?_) (by kernel_rfl) ?_ (fun K hK => ?_)
            case refine_2 => intro W _; go_simp; try with_reducible rfl
            go_simp
            refine hK _ ?_; clear hK K
            refine wpQuiet_pure (v := ?_) (by kernel_rfl) ?_ (fun K hK => ?_)
            case refine_2 => intro W _; go_simp; try with_reducible rfl
            go_simp
            refine hK _ ?_; clear hK K
            refine wpQuiet_pure (v := ?_) (by kernel_rfl) ?_ (fun K hK => ?_)
            case refine_2 => intro W _; go_simp; try with_reducible rfl
            go_simp
            refine hK _ ?_; clear hK K
            refine wpQuiet_pure (v := ?_) (by kernel_rfl) ?_ (fun K hK => ?_)
            case refine_2 => intro W _; go_simp; try with_reducible rfl
            go_simp
            refine hK _ ?_; clear hK K
            refine wpQuiet_pure (v := ?_) (by kernel_rfl) ?_ (fun K hK => ?_)
            case refine_2 => intro W hW; have e0 := hW.cell c1; have e1 := hW.cell c2; go_simp; try with_reducible rfl
            go_simp
            refine hK _ ?_; clear hK K
            refine wpQuiet_call (by kernel_rfl) _ _ _ (fun W => by go_simp) (fun W h => Calls.kept_of h (EN W)) (fun K hK => ?_)
            go_simp
            refine hK _ ?_; clear hK K
            refine wpQuiet_pure (v := ?_) (by kernel_rfl) ?_ (fun K hK => ?_)
            case refine_2 => intro W _; go_simp; try with_reducible rfl
            go_simp
            refine hK _ ?_; clear hK K
            refine wpQuiet_pure (v := ?_) (by kernel_rfl) ?_ (fun K hK => ?_)
            case refine_2 => intro W _; go_simp; try with_reducible rfl
            go_simp
            refine hK _ ?_; clear hK K
            refine wpQuiet_pure (v := ?_) (by kernel_rfl) ?_ (fun K hK => ?_)
            case refine_2 => intro W _; go_simp; try with_reducible rfl
            go_simp
            refine hK _ ?_; clear hK K
            refine wpQuiet_pure (v := ?_) (by kernel_rfl) ?_ (fun K hK => ?_)
            case refine_2 => intro W _; go_simp; try with_reducible rfl
            go_simp
            refine hK _ ?_; clear hK K
            refine wpQuiet_pure (v := ?_) (by kernel_rfl) ?_ (fun K hK => ?_)
            case refine_2 => intro W hW; have e0 := hW.cell c3; go_simp; try with_reducible rfl
            go_simp
            refine hK _ ?_; clear hK K
            refine wpQuiet_pure (v := ?_) (by kernel_rfl) ?_ (fun K hK => ?_)
            case refine_2 => intro W _; go_simp; try with_reducible rfl
            go_simp
            refine hK _ ?_; clear hK K
            refine wpQuiet_nil ?_
            intro w9 hk9

            have HK9 : Hid (Kept w3 w9) := Lib.hid (HKX.out.then hk9)
            clear hk9 EN c1 c2 c3
            go_wp2
            go_roundg (n + 1 - j1)
            case measure => omega
            case rel => exact ⟨j1, by omega, by omega, by first | rfl | (congr 1; omega), HS2, HK9⟩
        · have hkj : ¬ (j : Int) < n := by omega
          have bj : decide ((j : Int) < (n : Int)) = false := by simpa using hkj
          have HT : Hid (res = true) := Lib.hid (by
            rw [HRES.out]
            exact decide_eq_true (HVS.out.2 (fun k hk => HO.out k hk (by have := HNS.out; omega))))
          have HKE : Hid (Kept w wr) := Lib.hid (HK3.out.then HKX.out)
          go_wp2
          go_ret
          exact ⟨by rw [HT.out]; rfl, HKE.out⟩

end Go.Proofs.Ytppbknlhknadbaa
