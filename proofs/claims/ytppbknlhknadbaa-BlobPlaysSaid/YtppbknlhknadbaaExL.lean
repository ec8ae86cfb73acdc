/- The document's Lowest, May. -/
import Derived.Test.YtppbknlhknadbaaExU
namespace Go.Proofs.Ytppbknlhknadbaa
open Go.RowKit

/-- What Lowest answers. -/
def lowE (f : Nat → Bool) (n : Int) : Int := if n < 0 then 1 else if cntA f < n.toNat ∨ 16 < (runsA (lowF f n.toNat)).length then 100 else 0
def lowL (f : Nat → Bool) (n : Int) : List (Int × Int) := if lowE f n = 0 then runsA (lowF f n.toNat) else []

set_option maxRecDepth 100000 in
set_option maxHeartbeats 4000000 in
theorem rmay_any (l : List (Int × Int)) (v : Value) (w : World) (h : RunsAt l v w) (hl : l.length ≤ 1048576) (fr te : Int) (_ : -9223372036854775808 ≤ fr ∧ fr ≤ 9223372036854775807) (hto : -9223372036854775808 ≤ te ∧ te ≤ 9223372036854775807) :
    Calls Try.prog 30 #[v, .int .i64 fr, .int .i64 te] w fun e w' => e = .returned (.bool (decide (validL fr te l))) ∧ Below w.heap.size w w' := by
  obtain ⟨p, c, rfl, -, hc⟩ := h.out
  have HC := Lib.hid hc
  have HWF := Lib.hid h.wf
  have V0 : Hid (validK fr te l 0) := Lib.hid (fun j hj => by omega)
  have K0 : Hid (Kept w w) := Lib.hid (Kept.refl w)
  have HVL : Hid (validL fr te l = validK fr te l l.length) := Lib.hid rfl
  obtain ⟨n, hn⟩ : ∃ n, n = l.length := ⟨_, rfl⟩
  have HN := Lib.hid hn
  obtain ⟨res, hres⟩ : ∃ res, res = decide (validL fr te l) := ⟨_, rfl⟩
  have HRES := Lib.hid hres
  rw [← hn] at hl HVL ⊢
  rw [← hres]
  clear hc h hn hres
  go_enter Try.func30, Try.ntmps30
  go_wp2
  go_loopg [7] n (fun gh s7 wx => ∃ i : Nat, i + gh = n ∧ s7 = .int .i64 i ∧ Hid (validK fr te l i) ∧ Hid (Kept w wx))
  case atStart => exact ⟨0, by omega, rfl, V0, K0⟩
  case round =>
    clear V0 K0
    obtain ⟨i, hi, rfl, HV, HK⟩ := hrel
    obtain ⟨i1, hi1⟩ : ∃ i1, i1 = i + 1 := ⟨_, rfl⟩
    have v1 : IntKind.i64.wrap ((i : Int) + 1) = (i1 : Int) := by rw [show (i : Int) + 1 = (i1 : Int) by omega]; exact IntWalk.i64_in _ (by omega)
    by_cases hin : i < n
    · have hki : (i : Int) < n := by omega
      have bk : decide ((i : Int) < (n : Int)) = true := by simpa using hki
      have hki0 : (0 : Int) ≤ i := by omega
      have hil : i < l.length := by rw [← HN.out]; exact hin
      rcases HC.out with h0 | ⟨bb, ob, rfl, hcell⟩
      · have := HN.out; omega
      have HCELL := Lib.hid hcell
      have hci := hcell i hil
      have hw := HWF.out _ (List.getElem_mem hil)
      have hgd : l.getD i (0, 0) = l[i] := by rw [List.getD_eq_getElem?_getD, List.getElem?_eq_getElem hil]; rfl
      obtain ⟨r, hr⟩ : ∃ r, r = l[i] := ⟨_, rfl⟩
      rw [← hr] at hci hw hgd
      obtain ⟨a, m⟩ := r
      have HGD := Lib.hid hgd
      have HW := Lib.hid hw
      have d1 := HK.out.cell hci.1
      have d2 := HK.out.cell hci.2
      have HKA : Hid (Kept w (wr.alloc (.cells #[.int .i64 a, .int .i64 m] 66))) := Lib.hid (HK.out.then (box_below _ _))
      have HNF : Hid (¬ fitR fr te (a, m) → res = false) := Lib.hid (fun hf => by
        rw [HRES.out]
        exact decide_eq_false (fun hv => hf (by have h := (show validK fr te l l.length from hv) i hil; rw [HGD.out] at h; exact h.1)))
      clear hr hci hw hcell hgd hil
      by_cases hA : a < fr
      · have HF : Hid (res = false) := Lib.hid (HNF.out (fun y => by unfold fitR at y; have y1 : fr ≤ a := y.1; have y2 : 1 ≤ m := y.2.1; have y3 : a + m ≤ te := y.2.2; omega))
        clear HV HNF
        go_wp2
        go_ret
        exact ⟨by rw [HF.out]; rfl, HKA.out⟩
      · by_cases hB : m < 1
        · have HF : Hid (res = false) := Lib.hid (HNF.out (fun y => by unfold fitR at y; have y1 : fr ≤ a := y.1; have y2 : 1 ≤ m := y.2.1; have y3 : a + m ≤ te := y.2.2; omega))
          clear HV HNF
          go_wp2
          go_ret
          exact ⟨by rw [HF.out]; rfl, HKA.out⟩
        · by_cases hC : a ≥ te
          · have HF : Hid (res = false) := Lib.hid (HNF.out (fun y => by unfold fitR at y; have y1 : fr ≤ a := y.1; have y2 : 1 ≤ m := y.2.1; have y3 : a + m ≤ te := y.2.2; omega))
            clear HV HNF
            go_wp2
            go_ret
            exact ⟨by rw [HF.out]; rfl, HKA.out⟩
          · have hmain : (∃ d : Int, d = te - a ∧ a ≥ 0 ∧ IntKind.i64.wrap (te - a) = d ∧ m > d) ∨ (∃ s : Int, s = a + m ∧ a < 0 ∧ IntKind.i64.wrap (a + m) = s ∧ s > te) ∨ ((∃ d : Int, d = te - a ∧ a ≥ 0 ∧ IntKind.i64.wrap (te - a) = d ∧ ¬ m > d) ∨ (∃ s : Int, s = a + m ∧ a < 0 ∧ IntKind.i64.wrap (a + m) = s ∧ ¬ s > te)) := by
              have hw := HW.out
              simp only at hw
              by_cases h0 : a ≥ 0
              · by_cases h1 : m > te - a
                · exact Or.inl ⟨_, rfl, h0, IntWalk.i64_in _ (by omega), h1⟩
                · exact Or.inr (Or.inr (Or.inl ⟨_, rfl, h0, IntWalk.i64_in _ (by omega), h1⟩))
              · by_cases h1 : a + m > te
                · exact Or.inr (Or.inl ⟨_, rfl, by omega, IntWalk.i64_in _ (by omega), h1⟩)
                · exact Or.inr (Or.inr (Or.inr ⟨_, rfl, by omega, IntWalk.i64_in _ (by omega), h1⟩))
            rcases hmain with ⟨d, hd, h0, vd, hm⟩ | ⟨s, hs, h0, vs, hm⟩ | hmain
            · have HF : Hid (res = false) := Lib.hid (HNF.out (fun y => by unfold fitR at y; have y1 : fr ≤ a := y.1; have y2 : 1 ≤ m := y.2.1; have y3 : a + m ≤ te := y.2.2; omega))
              have hn0 : ¬ a < 0 := by omega
              clear HV HNF hd
              go_wp2
              go_ret
              exact ⟨by rw [HF.out]; rfl, HKA.out⟩
            · have HF : Hid (res = false) := Lib.hid (HNF.out (fun y => by unfold fitR at y; have y1 : fr ≤ a := y.1; have y2 : 1 ≤ m := y.2.1; have y3 : a + m ≤ te := y.2.2; omega))
              have hn0 : ¬ a ≥ 0 := by omega
              clear HV HNF hs
              go_wp2
              go_ret
              exact ⟨by rw [HF.out]; rfl, HKA.out⟩
            · have HFIT : Hid (fitR fr te (a, m)) := Lib.hid (by
                unfold fitR
                refine ⟨by show fr ≤ a; omega, by show 1 ≤ m; omega, ?_⟩
                show a + m ≤ te
                rcases hmain with ⟨d, hd, h0, vd, hm⟩ | ⟨s, hs, h0, vs, hm⟩ <;> omega)
              have hm1 : 1 ≤ m ∧ m ≤ 9223372036854775807 := ⟨by omega, HW.out.2.2⟩
              have HM1 := Lib.hid hm1
              clear hm1
              have hW0 : (wr.alloc (.cells #[.int .i64 a, .int .i64 m] 66)).heap[wr.heap.size]? = some (.cells #[.int .i64 a, .int .i64 m] 66 (0, 0)) := heap_alloc_last wr _
              obtain ⟨W0, hW0e⟩ : ∃ W0, W0 = wr.alloc (.cells #[.int .i64 a, .int .i64 m] 66) := ⟨_, rfl⟩
              rw [← hW0e] at hW0 HKA
              have HW0 := Lib.hid hW0
              have HW0E := Lib.hid hW0e
              have P0 : Hid (∀ j, j < 0 → ¬ overR (l.getD i (0, 0)) (l.getD j (0, 0)) ∧ ¬ overR (l.getD j (0, 0)) (l.getD i (0, 0))) := Lib.hid (fun j hj => by omega)
              have KW0 : Hid (Kept W0 W0) := Lib.hid (Kept.refl W0)
              clear hW0 hW0e
              rcases hmain with ⟨d, hd, h0, vd, hm⟩ | ⟨s, hs, h0, vs, hm⟩
              · have hn0 : ¬ a < 0 := by omega
                clear hd
                go_wp2
                rw [← HW0E.out]
                obtain ⟨wo, hwo⟩ : ∃ wo : World, wo = wr := ⟨_, rfl⟩
                subst hwo
                obtain ⟨go, hgo⟩ : ∃ go : Nat, go = gk := ⟨_, rfl⟩
                subst hgo
                go_loopg [9] i (fun gh s9 wx => ∃ k : Nat, k + gh = i ∧ s9 = .int .i64 k ∧ Hid (∀ j, j < k → ¬ overR (l.getD i (0, 0)) (l.getD j (0, 0)) ∧ ¬ overR (l.getD j (0, 0)) (l.getD i (0, 0))) ∧ Hid (Kept W0 wx))
                case atStart => exact ⟨0, by omega, rfl, P0, KW0⟩
                case round =>
                  clear P0 KW0 d1 d2
                  obtain ⟨k, hk, rfl, HP, HKX⟩ := hrel
                  obtain ⟨k1, hk1⟩ : ∃ k1, k1 = k + 1 := ⟨_, rfl⟩
                  have v2 : IntKind.i64.wrap ((k : Int) + 1) = (k1 : Int) := by rw [show (k : Int) + 1 = (k1 : Int) by omega]; exact IntWalk.i64_in _ (by omega)
                  by_cases hkn : k < i
                  · have hkk : (k : Int) < i := by omega
                    have bq : decide ((k : Int) < (i : Int)) = true := by simpa using hkk
                    have hk0 : (0 : Int) ≤ k := by omega
                    have hkn2 : (k : Int) < n := by omega
                    have hkl : k < l.length := by rw [← HN.out]; omega
                    have hck := HCELL.out k hkl
                    have hwk := HWF.out _ (List.getElem_mem hkl)
                    have hgk : l.getD k (0, 0) = l[k] := by rw [List.getD_eq_getElem?_getD, List.getElem?_eq_getElem hkl]; rfl
                    obtain ⟨rk, hrk⟩ : ∃ rk, rk = l[k] := ⟨_, rfl⟩
                    rw [← hrk] at hck hwk hgk
                    obtain ⟨x, y⟩ := rk
                    have hfk : fitR fr te (x, y) := by have h := (HV.out k hkn).1; rw [hgk] at h; exact h
                    have hy1 : 1 ≤ y ∧ y ≤ 9223372036854775807 := ⟨hfk.2.1, hwk.2.2⟩
                    have HGK := Lib.hid hgk
                    have HKW : Hid (Kept w wr) := Lib.hid ((show Kept w W0 from HKA.out).then HKX.out)
                    have e1 := HKW.out.cell hck.1
                    have e2 := HKW.out.cell hck.2
                    have hrow := HKX.out.row HW0.out
                    have HROW := Lib.hid hrow
                    have O1 := fun W => rover_any a m x y HW.out.1 HM1.out hwk.1 W
                    have O2 := fun W => rover_any x y a m hwk.1 hy1 HW.out.1 W
                    have HOV : Hid (overR (a, m) (x, y) ∨ overR (x, y) (a, m) → res = false) := Lib.hid (fun ho => by
                      rw [HRES.out]
                      refine decide_eq_false (fun hv => ?_)
                      have h := ((show validK fr te l l.length from hv) i (by rw [← HN.out]; omega)).2 k hkn
                      rw [HGD.out, HGK.out] at h
                      exact ho.elim h.1 h.2)
                    have HNV : Hid (¬ overR (a, m) (x, y) → ¬ overR (x, y) (a, m) → ∀ j, j < k1 → ¬ overR (l.getD i (0, 0)) (l.getD j (0, 0)) ∧ ¬ overR (l.getD j (0, 0)) (l.getD i (0, 0))) := Lib.hid (fun h1 h2 j hj => by
                      by_cases e : j = k
                      · subst e; rw [HGD.out, HGK.out]; exact ⟨h1, h2⟩
                      · exact HP.out j (by omega))
                    clear hck hwk hgk hrk hfk hkl hrow
                    by_cases ho1 : overR (a, m) (x, y)
                    · rw [decide_eq_true ho1] at O1
                      have HF : Hid (res = false) := Lib.hid (HOV.out (Or.inl ho1))
                      clear ho1 HOV HNV O2
                      go_wp2_with fail
                      refine wp_region_kept (by kernel_rfl) (by kernel_rfl) ?_
                      refine wpQuiet_load_row (by kernel_rfl) _ _ rfl wo.heap.size rfl 66 #[.int .i64 a, .int .i64 m] (0, 0) _ (fun _ h => h.row HROW.out) Try.underlying66 rfl (by kernel_rfl) (fun K hK => ?_)
                      go_simp
                      refine hK _ ?_; clear hK K
                      refine wpQuiet_pure (v := ?_) (by kernel_rfl) ?_ (fun K hK => ?_)
                      case refine_2 => intro W _; go_simp; try with_reducible rfl
                      go_simp
                      refine hK _ ?_; clear hK K
                      refine wpQuiet_pure (v := ?_) (by kernel_rfl) ?_ (fun K hK => ?_)
                      case refine_2 => intro W _; go_simp; try with_reducible rfl
                      go_simp
                      refine hK _ ?_; clear hK K
                      refine wpQuiet_pure (v := ?_) (by kernel_rfl) ?_ (fun K hK => ?_)
                      case refine_2 => intro W _; go_simp; try with_reducible rfl
                      go_simp
                      refine hK _ ?_; clear hK K
                      refine wpQuiet_pure (v := ?_) (by kernel_rfl) ?_ (fun K hK => ?_)
                      case refine_2 => intro W hW; have e0 := hW.cell e1; have e1 := hW.cell e2; go_simp; try with_reducible rfl
                      go_simp
                      refine hK _ ?_; clear hK K
                      refine wpQuiet_call (by kernel_rfl) _ _ _ (fun W => by go_simp) (fun W h => Calls.kept_of h (O1 W)) (fun K hK => ?_)
                      go_simp
                      refine hK _ ?_; clear hK K
                      refine wpQuiet_pure (v := ?_) (by kernel_rfl) ?_ (fun K hK => ?_)
                      case refine_2 => intro W _; go_simp; try with_reducible rfl
                      go_simp
                      refine hK _ ?_; clear hK K
                      go_big_quiet_skip
                      go_big_quiet_skip
                      go_big_quiet_skip
                      go_big_quiet_skip
                      go_big_quiet_skip
                      go_big_quiet_skip
                      refine wpQuiet_pure (v := ?_) (by kernel_rfl) ?_ (fun K hK => ?_)
                      case refine_2 => intro W _; go_simp; try with_reducible rfl
                      go_simp
                      refine hK _ ?_; clear hK K
                      refine wpQuiet_nil ?_
                      intro w9 hk9
                      go_wp2
                      go_ret
                      exact ⟨by rw [HF.out]; rfl, (show Kept w wr from HKW.out).then hk9⟩
                    · rw [decide_eq_false ho1] at O1
                      by_cases ho2 : overR (x, y) (a, m)
                      · rw [decide_eq_true ho2] at O2
                        have HF : Hid (res = false) := Lib.hid (HOV.out (Or.inr ho2))
                        clear ho1 ho2 HOV HNV
                        go_wp2_with fail
                        refine wp_region_kept (by kernel_rfl) (by kernel_rfl) ?_
                        refine wpQuiet_load_row (by kernel_rfl) _ _ rfl wo.heap.size rfl 66 #[.int .i64 a, .int .i64 m] (0, 0) _ (fun _ h => h.row HROW.out) Try.underlying66 rfl (by kernel_rfl) (fun K hK => ?_)
                        go_simp
                        refine hK _ ?_; clear hK K
                        refine wpQuiet_pure (v := ?_) (by kernel_rfl) ?_ (fun K hK => ?_)
                        case refine_2 => intro W _; go_simp; try with_reducible rfl
                        go_simp
                        refine hK _ ?_; clear hK K
                        refine wpQuiet_pure (v := ?_) (by kernel_rfl) ?_ (fun K hK => ?_)
                        case refine_2 => intro W _; go_simp; try with_reducible rfl
                        go_simp
                        refine hK _ ?_; clear hK K
                        refine wpQuiet_pure (v := ?_) (by kernel_rfl) ?_ (fun K hK => ?_)
                        case refine_2 => intro W _; go_simp; try with_reducible rfl
                        go_simp
                        refine hK _ ?_; clear hK K
                        refine wpQuiet_pure (v := ?_) (by kernel_rfl) ?_ (fun K hK => ?_)
                        case refine_2 => intro W hW; have e0 := hW.cell e1; have e1 := hW.cell e2; go_simp; try with_reducible rfl
                        go_simp
                        refine hK _ ?_; clear hK K
                        refine wpQuiet_call (by kernel_rfl) _ _ _ (fun W => by go_simp) (fun W h => Calls.kept_of h (O1 W)) (fun K hK => ?_)
                        go_simp
                        refine hK _ ?_; clear hK K
                        refine wpQuiet_pure (v := ?_) (by kernel_rfl) ?_ (fun K hK => ?_)
                        case refine_2 => intro W _; go_simp; try with_reducible rfl
                        go_simp
                        refine hK _ ?_; clear hK K
                        refine wpQuiet_pure (v := ?_) (by kernel_rfl) ?_ (fun K hK => ?_)
                        case refine_2 => intro W _; go_simp; try with_reducible rfl
                        go_simp
                        refine hK _ ?_; clear hK K
                        refine wpQuiet_pure (v := ?_) (by kernel_rfl) ?_ (fun K hK => ?_)
                        case refine_2 => intro W _; go_simp; try with_reducible rfl
                        go_simp
                        refine hK _ ?_; clear hK K
                        refine wpQuiet_pure (v := ?_) (by kernel_rfl) ?_ (fun K hK => ?_)
                        case refine_2 => intro W _; go_simp; try with_reducible rfl
                        go_simp
                        refine hK _ ?_; clear hK K
                        refine wpQuiet_pure (v := ?_) (by kernel_rfl) ?_ (fun K hK => ?_)
                        case refine_2 => intro W hW; have e0 := hW.cell e1; have e1 := hW.cell e2; go_simp; try with_reducible rfl
                        go_simp
                        refine hK _ ?_; clear hK K
                        refine wpQuiet_load_row (by kernel_rfl) _ _ rfl wo.heap.size rfl 66 #[.int .i64 a, .int .i64 m] (0, 0) _ (fun _ h => h.row HROW.out) Try.underlying66 rfl (by kernel_rfl) (fun K hK => ?_)
                        go_simp
                        refine hK _ ?_; clear hK K
                        refine wpQuiet_call (by kernel_rfl) _ _ _ (fun W => by go_simp) (fun W h => Calls.kept_of h (O2 W)) (fun K hK => ?_)
                        go_simp
                        refine hK _ ?_; clear hK K
                        refine wpQuiet_pure (v := ?_) (by kernel_rfl) ?_ (fun K hK => ?_)
                        case refine_2 => intro W _; go_simp; try with_reducible rfl
                        go_simp
                        refine hK _ ?_; clear hK K
                        refine wpQuiet_nil ?_
                        intro w9 hk9
                        go_wp2
                        go_ret
                        exact ⟨by rw [HF.out]; rfl, (show Kept w wr from HKW.out).then hk9⟩
                      · rw [decide_eq_false ho2] at O2
                        have HP2 := Lib.hid (HNV.out ho1 ho2)
                        clear ho1 ho2 HOV HNV
                        go_wp2_with fail
                        refine wp_region_kept (by kernel_rfl) (by kernel_rfl) ?_
                        refine wpQuiet_load_row (by kernel_rfl) _ _ rfl wo.heap.size rfl 66 #[.int .i64 a, .int .i64 m] (0, 0) _ (fun _ h => h.row HROW.out) Try.underlying66 rfl (by kernel_rfl) (fun K hK => ?_)
                        go_simp
                        refine hK _ ?_; clear hK K
                        refine wpQuiet_pure (v := ?_) (by kernel_rfl) ?_ (fun K hK => ?_)
                        case refine_2 => intro W _; go_simp; try with_reducible rfl
                        go_simp
                        refine hK _ ?_; clear hK K
                        refine wpQuiet_pure (v := ?_) (by kernel_rfl) ?_ (fun K hK => ?_)
                        case refine_2 => intro W _; go_simp; try with_reducible rfl
                        go_simp
                        refine hK _ ?_; clear hK K
                        refine wpQuiet_pure (v := ?_) (by kernel_rfl) ?_ (fun K hK => ?_)
                        case refine_2 => intro W _; go_simp; try with_reducible rfl
                        go_simp
                        refine hK _ ?_; clear hK K
                        refine wpQuiet_pure (v := ?_) (by kernel_rfl) ?_ (fun K hK => ?_)
                        case refine_2 => intro W hW; have e0 := hW.cell e1; have e1 := hW.cell e2; go_simp; try with_reducible rfl
                        go_simp
                        refine hK _ ?_; clear hK K
                        refine wpQuiet_call (by kernel_rfl) _ _ _ (fun W => by go_simp) (fun W h => Calls.kept_of h (O1 W)) (fun K hK => ?_)
                        go_simp
                        refine hK _ ?_; clear hK K
                        refine wpQuiet_pure (v := ?_) (by kernel_rfl) ?_ (fun K hK => ?_)
                        case refine_2 => intro W _; go_simp; try with_reducible rfl
                        go_simp
                        refine hK _ ?_; clear hK K
                        refine wpQuiet_pure (v := ?_) (by kernel_rfl) ?_ (fun K hK => ?_)
                        case refine_2 => intro W _; go_simp; try with_reducible rfl
                        go_simp
                        refine hK _ ?_; clear hK K
                        refine wpQuiet_pure (v := ?_) (by kernel_rfl) ?_ (fun K hK => ?_)
                        case refine_2 => intro W _; go_simp; try with_reducible rfl
                        go_simp
                        refine hK _ ?_; clear hK K
                        refine wpQuiet_pure (v := ?_) (by kernel_rfl) ?_ (fun K hK => ?_)
                        case refine_2 => intro W _; go_simp; try with_reducible rfl
                        go_simp
                        refine hK _ ?_; clear hK K
                        refine wpQuiet_pure (v := ?_) (by kernel_rfl) ?_ (fun K hK => ?_)
                        case refine_2 => intro W hW; have e0 := hW.cell e1; have e1 := hW.cell e2; go_simp; try with_reducible rfl
                        go_simp
                        refine hK _ ?_; clear hK K
                        refine wpQuiet_load_row (by kernel_rfl) _ _ rfl wo.heap.size rfl 66 #[.int .i64 a, .int .i64 m] (0, 0) _ (fun _ h => h.row HROW.out) Try.underlying66 rfl (by kernel_rfl) (fun K hK => ?_)
                        go_simp
                        refine hK _ ?_; clear hK K
                        refine wpQuiet_call (by kernel_rfl) _ _ _ (fun W => by go_simp) (fun W h => Calls.kept_of h (O2 W)) (fun K hK => ?_)
                        go_simp
                        refine hK _ ?_; clear hK K
                        refine wpQuiet_pure (v := ?_) (by kernel_rfl) ?_ (fun K hK => ?_)
                        case refine_2 => intro W _; go_simp; try with_reducible rfl
                        go_simp
                        refine hK _ ?_; clear hK K
                        refine wpQuiet_nil ?_
                        intro w9 hk9
                        have HK9 : Hid (Kept W0 w9) := Lib.hid (HKX.out.then hk9)
                        clear hk9
                        go_wp2
                        go_roundg (i - k1)
                        case measure => omega
                        case rel => exact ⟨k1, by omega, by first | rfl | (congr 1; omega), HP2, HK9⟩
                  · have hkk : ¬ (k : Int) < i := by omega
                    have bq : decide ((k : Int) < (i : Int)) = false := by simpa using hkk
                    have HV2 : Hid (validK fr te l i1) := Lib.hid (by
                      rw [hi1]
                      refine validK_succ HV.out (by rw [HGD.out]; exact HFIT.out) (fun j hj => HP.out j (by omega)))
                    have HK4 : Hid (Kept w wr) := Lib.hid ((show Kept w W0 from HKA.out).then HKX.out)
                    go_wp2
                    go_roundg (n - i1)
                    case measure => omega
                    case rel => exact ⟨i1, by omega, by first | rfl | (congr 1; omega), HV2, HK4⟩
              · have hn0 : ¬ a ≥ 0 := by omega
                clear hs
                go_wp2
                rw [← HW0E.out]
                obtain ⟨wo, hwo⟩ : ∃ wo : World, wo = wr := ⟨_, rfl⟩
                subst hwo
                obtain ⟨go, hgo⟩ : ∃ go : Nat, go = gk := ⟨_, rfl⟩
                subst hgo
                go_loopg [9] i (fun gh s9 wx => ∃ k : Nat, k + gh = i ∧ s9 = .int .i64 k ∧ Hid (∀ j, j < k → ¬ overR (l.getD i (0, 0)) (l.getD j (0, 0)) ∧ ¬ overR (l.getD j (0, 0)) (l.getD i (0, 0))) ∧ Hid (Kept W0 wx))
                case atStart => exact ⟨0, by omega, rfl, P0, KW0⟩
                case round =>
                  clear P0 KW0 d1 d2
                  obtain ⟨k, hk, rfl, HP, HKX⟩ := hrel
                  obtain ⟨k1, hk1⟩ : ∃ k1, k1 = k + 1 := ⟨_, rfl⟩
                  have v2 : IntKind.i64.wrap ((k : Int) + 1) = (k1 : Int) := by rw [show (k : Int) + 1 = (k1 : Int) by omega]; exact IntWalk.i64_in _ (by omega)
                  by_cases hkn : k < i
                  · have hkk : (k : Int) < i := by omega
                    have bq : decide ((k : Int) < (i : Int)) = true := by simpa using hkk
                    have hk0 : (0 : Int) ≤ k := by omega
                    have hkn2 : (k : Int) < n := by omega
                    have hkl : k < l.length := by rw [← HN.out]; omega
                    have hck := HCELL.out k hkl
                    have hwk := HWF.out _ (List.getElem_mem hkl)
                    have hgk : l.getD k (0, 0) = l[k] := by rw [List.getD_eq_getElem?_getD, List.getElem?_eq_getElem hkl]; rfl
                    obtain ⟨rk, hrk⟩ : ∃ rk, rk = l[k] := ⟨_, rfl⟩
                    rw [← hrk] at hck hwk hgk
                    obtain ⟨x, y⟩ := rk
                    have hfk : fitR fr te (x, y) := by have h := (HV.out k hkn).1; rw [hgk] at h; exact h
                    have hy1 : 1 ≤ y ∧ y ≤ 9223372036854775807 := ⟨hfk.2.1, hwk.2.2⟩
                    have HGK := Lib.hid hgk
                    have HKW : Hid (Kept w wr) := Lib.hid ((show Kept w W0 from HKA.out).then HKX.out)
                    have e1 := HKW.out.cell hck.1
                    have e2 := HKW.out.cell hck.2
                    have hrow := HKX.out.row HW0.out
                    have HROW := Lib.hid hrow
                    have O1 := fun W => rover_any a m x y HW.out.1 HM1.out hwk.1 W
                    have O2 := fun W => rover_any x y a m hwk.1 hy1 HW.out.1 W
                    have HOV : Hid (overR (a, m) (x, y) ∨ overR (x, y) (a, m) → res = false) := Lib.hid (fun ho => by
                      rw [HRES.out]
                      refine decide_eq_false (fun hv => ?_)
                      have h := ((show validK fr te l l.length from hv) i (by rw [← HN.out]; omega)).2 k hkn
                      rw [HGD.out, HGK.out] at h
                      exact ho.elim h.1 h.2)
                    have HNV : Hid (¬ overR (a, m) (x, y) → ¬ overR (x, y) (a, m) → ∀ j, j < k1 → ¬ overR (l.getD i (0, 0)) (l.getD j (0, 0)) ∧ ¬ overR (l.getD j (0, 0)) (l.getD i (0, 0))) := Lib.hid (fun h1 h2 j hj => by
                      by_cases e : j = k
                      · subst e; rw [HGD.out, HGK.out]; exact ⟨h1, h2⟩
                      · exact HP.out j (by omega))
                    clear hck hwk hgk hrk hfk hkl hrow
                    by_cases ho1 : overR (a, m) (x, y)
                    · rw [decide_eq_true ho1] at O1
                      have HF : Hid (res = false) := Lib.hid (HOV.out (Or.inl ho1))
                      clear ho1 HOV HNV O2
                      go_wp2_with fail
                      refine wp_region_kept (by kernel_rfl) (by kernel_rfl) ?_
                      refine wpQuiet_load_row (by kernel_rfl) _ _ rfl wo.heap.size rfl 66 #[.int .i64 a, .int .i64 m] (0, 0) _ (fun _ h => h.row HROW.out) Try.underlying66 rfl (by kernel_rfl) (fun K hK => ?_)
                      go_simp
                      refine hK _ ?_; clear hK K
                      refine wpQuiet_pure (v := ?_) (by kernel_rfl) ?_ (fun K hK => ?_)
                      case refine_2 => intro W _; go_simp; try with_reducible rfl
                      go_simp
                      refine hK _ ?_; clear hK K
                      refine wpQuiet_pure (v := ?_) (by kernel_rfl) ?_ (fun K hK => ?_)
                      case refine_2 => intro W _; go_simp; try with_reducible rfl
                      go_simp
                      refine hK _ ?_; clear hK K
                      refine wpQuiet_pure (v := ?_) (by kernel_rfl) ?_ (fun K hK => ?_)
                      case refine_2 => intro W _; go_simp; try with_reducible rfl
                      go_simp
                      refine hK _ ?_; clear hK K
                      refine wpQuiet_pure (v := ?_) (by kernel_rfl) ?_ (fun K hK => ?_)
                      case refine_2 => intro W hW; have e0 := hW.cell e1; have e1 := hW.cell e2; go_simp; try with_reducible rfl
                      go_simp
                      refine hK _ ?_; clear hK K
                      refine wpQuiet_call (by kernel_rfl) _ _ _ (fun W => by go_simp) (fun W h => Calls.kept_of h (O1 W)) (fun K hK => ?_)
                      go_simp
                      refine hK _ ?_; clear hK K
                      refine wpQuiet_pure (v := ?_) (by kernel_rfl) ?_ (fun K hK => ?_)
                      case refine_2 => intro W _; go_simp; try with_reducible rfl
                      go_simp
                      refine hK _ ?_; clear hK K
                      go_big_quiet_skip
                      go_big_quiet_skip
                      go_big_quiet_skip
                      go_big_quiet_skip
                      go_big_quiet_skip
                      go_big_quiet_skip
                      refine wpQuiet_pure (v := ?_) (by kernel_rfl) ?_ (fun K hK => ?_)
                      case refine_2 => intro W _; go_simp; try with_reducible rfl
                      go_simp
                      refine hK _ ?_; clear hK K
                      refine wpQuiet_nil ?_
                      intro w9 hk9
                      go_wp2
                      go_ret
                      exact ⟨by rw [HF.out]; rfl, (show Kept w wr from HKW.out).then hk9⟩
                    · rw [decide_eq_false ho1] at O1
                      by_cases ho2 : overR (x, y) (a, m)
                      · rw [decide_eq_true ho2] at O2
                        have HF : Hid (res = false) := Lib.hid (HOV.out (Or.inr ho2))
                        clear ho1 ho2 HOV HNV
                        go_wp2_with fail
                        refine wp_region_kept (by kernel_rfl) (by kernel_rfl) ?_
                        refine wpQuiet_load_row (by kernel_rfl) _ _ rfl wo.heap.size rfl 66 #[.int .i64 a, .int .i64 m] (0, 0) _ (fun _ h => h.row HROW.out) Try.underlying66 rfl (by kernel_rfl) (fun K hK => ?_)
                        go_simp
                        refine hK _ ?_; clear hK K
                        refine wpQuiet_pure (v := ?_) (by kernel_rfl) ?_ (fun K hK => ?_)
                        case refine_2 => intro W _; go_simp; try with_reducible rfl
                        go_simp
                        refine hK _ ?_; clear hK K
                        refine wpQuiet_pure (v := ?_) (by kernel_rfl) ?_ (fun K hK => ?_)
                        case refine_2 => intro W _; go_simp; try with_reducible rfl
                        go_simp
                        refine hK _ ?_; clear hK K
                        refine wpQuiet_pure (v := ?_) (by kernel_rfl) ?_ (fun K hK => ?_)
                        case refine_2 => intro W _; go_simp; try with_reducible rfl
                        go_simp
                        refine hK _ ?_; clear hK K
                        refine wpQuiet_pure (v := ?_) (by kernel_rfl) ?_ (fun K hK => ?_)
                        case refine_2 => intro W hW; have e0 := hW.cell e1; have e1 := hW.cell e2; go_simp; try with_reducible rfl
                        go_simp
                        refine hK _ ?_; clear hK K
                        refine wpQuiet_call (by kernel_rfl) _ _ _ (fun W => by go_simp) (fun W h => Calls.kept_of h (O1 W)) (fun K hK => ?_)
                        go_simp
                        refine hK _ ?_; clear hK K
                        refine wpQuiet_pure (v := ?_) (by kernel_rfl) ?_ (fun K hK => ?_)
                        case refine_2 => intro W _; go_simp; try with_reducible rfl
                        go_simp
                        refine hK _ ?_; clear hK K
                        refine wpQuiet_pure (v := ?_) (by kernel_rfl) ?_ (fun K hK => ?_)
                        case refine_2 => intro W _; go_simp; try with_reducible rfl
                        go_simp
                        refine hK _ ?_; clear hK K
                        refine wpQuiet_pure (v := ?_) (by kernel_rfl) ?_ (fun K hK => ?_)
                        case refine_2 => intro W _; go_simp; try with_reducible rfl
                        go_simp
                        refine hK _ ?_; clear hK K
                        refine wpQuiet_pure (v := ?_) (by kernel_rfl) ?_ (fun K hK => ?_)
                        case refine_2 => intro W _; go_simp; try with_reducible rfl
                        go_simp
                        refine hK _ ?_; clear hK K
                        refine wpQuiet_pure (v := ?_) (by kernel_rfl) ?_ (fun K hK => ?_)
                        case refine_2 => intro W hW; have e0 := hW.cell e1; have e1 := hW.cell e2; go_simp; try with_reducible rfl
                        go_simp
                        refine hK _ ?_; clear hK K
                        refine wpQuiet_load_row (by kernel_rfl) _ _ rfl wo.heap.size rfl 66 #[.int .i64 a, .int .i64 m] (0, 0) _ (fun _ h => h.row HROW.out) Try.underlying66 rfl (by kernel_rfl) (fun K hK => ?_)
                        go_simp
                        refine hK _ ?_; clear hK K
                        refine wpQuiet_call (by kernel_rfl) _ _ _ (fun W => by go_simp) (fun W h => Calls.kept_of h (O2 W)) (fun K hK => ?_)
                        go_simp
                        refine hK _ ?_; clear hK K
                        refine wpQuiet_pure (v := ?_) (by kernel_rfl) ?_ (fun K hK => ?_)
                        case refine_2 => intro W _; go_simp; try with_reducible rfl
                        go_simp
                        refine hK _ ?_; clear hK K
                        refine wpQuiet_nil ?_
                        intro w9 hk9
                        go_wp2
                        go_ret
                        exact ⟨by rw [HF.out]; rfl, (show Kept w wr from HKW.out).then hk9⟩
                      · rw [decide_eq_false ho2] at O2
                        have HP2 := Lib.hid (HNV.out ho1 ho2)
                        clear ho1 ho2 HOV HNV
                        go_wp2_with fail
                        refine wp_region_kept (by kernel_rfl) (by kernel_rfl) ?_
                        refine wpQuiet_load_row (by kernel_rfl) _ _ rfl wo.heap.size rfl 66 #[.int .i64 a, .int .i64 m] (0, 0) _ (fun _ h => h.row HROW.out) Try.underlying66 rfl (by kernel_rfl) (fun K hK => ?_)
                        go_simp
                        refine hK _ ?_; clear hK K
                        refine wpQuiet_pure (v := ?_) (by kernel_rfl) ?_ (fun K hK => ?_)
                        case refine_2 => intro W _; go_simp; try with_reducible rfl
                        go_simp
                        refine hK _ ?_; clear hK K
                        refine wpQuiet_pure (v := ?_) (by kernel_rfl) ?_ (fun K hK => ?_)
                        case refine_2 => intro W _; go_simp; try with_reducible rfl
                        go_simp
                        refine hK _ ?_; clear hK K
                        refine wpQuiet_pure (v := ?_) (by kernel_rfl) ?_ (fun K hK => ?_)
                        case refine_2 => intro W _; go_simp; try with_reducible rfl
                        go_simp
                        refine hK _ ?_; clear hK K
                        refine wpQuiet_pure (v := ?_) (by kernel_rfl) ?_ (fun K hK => ?_)
                        case refine_2 => intro W hW; have e0 := hW.cell e1; have e1 := hW.cell e2; go_simp; try with_reducible rfl
                        go_simp
                        refine hK _ ?_; clear hK K
                        refine wpQuiet_call (by kernel_rfl) _ _ _ (fun W => by go_simp) (fun W h => Calls.kept_of h (O1 W)) (fun K hK => ?_)
                        go_simp
                        refine hK _ ?_; clear hK K
                        refine wpQuiet_pure (v := ?_) (by kernel_rfl) ?_ (fun K hK => ?_)
                        case refine_2 => intro W _; go_simp; try with_reducible rfl
                        go_simp
                        refine hK _ ?_; clear hK K
                        refine wpQuiet_pure (v := ?_) (by kernel_rfl) ?_ (fun K hK => ?_)
                        case refine_2 => intro W _; go_simp; try with_reducible rfl
                        go_simp
                        refine hK _ ?_; clear hK K
                        refine wpQuiet_pure (v := ?_) (by kernel_rfl) ?_ (fun K hK => ?_)
                        case refine_2 => intro W _; go_simp; try with_reducible rfl
                        go_simp
                        refine hK _ ?_; clear hK K
                        refine wpQuiet_pure (v := ?_) (by kernel_rfl) ?_ (fun K hK => ?_)
                        case refine_2 => intro W _; go_simp; try with_reducible rfl
                        go_simp
                        refine hK _ ?_; clear hK K
                        refine wpQuiet_pure (v := ?_) (by kernel_rfl) ?_ (fun K hK => ?_)
                        case refine_2 => intro W hW; have e0 := hW.cell e1; have e1 := hW.cell e2; go_simp; try with_reducible rfl
                        go_simp
                        refine hK _ ?_; clear hK K
                        refine wpQuiet_load_row (by kernel_rfl) _ _ rfl wo.heap.size rfl 66 #[.int .i64 a, .int .i64 m] (0, 0) _ (fun _ h => h.row HROW.out) Try.underlying66 rfl (by kernel_rfl) (fun K hK => ?_)
                        go_simp
                        refine hK _ ?_; clear hK K
                        refine wpQuiet_call (by kernel_rfl) _ _ _ (fun W => by go_simp) (fun W h => Calls.kept_of h (O2 W)) (fun K hK => ?_)
                        go_simp
                        refine hK _ ?_; clear hK K
                        refine wpQuiet_pure (v := ?_) (by kernel_rfl) ?_ (fun K hK => ?_)
                        case refine_2 => intro W _; go_simp; try with_reducible rfl
                        go_simp
                        refine hK _ ?_; clear hK K
                        refine wpQuiet_nil ?_
                        intro w9 hk9
                        have HK9 : Hid (Kept W0 w9) := Lib.hid (HKX.out.then hk9)
                        clear hk9
                        go_wp2
                        go_roundg (i - k1)
                        case measure => omega
                        case rel => exact ⟨k1, by omega, by first | rfl | (congr 1; omega), HP2, HK9⟩
                  · have hkk : ¬ (k : Int) < i := by omega
                    have bq : decide ((k : Int) < (i : Int)) = false := by simpa using hkk
                    have HV2 : Hid (validK fr te l i1) := Lib.hid (by
                      rw [hi1]
                      refine validK_succ HV.out (by rw [HGD.out]; exact HFIT.out) (fun j hj => HP.out j (by omega)))
                    have HK4 : Hid (Kept w wr) := Lib.hid ((show Kept w W0 from HKA.out).then HKX.out)
                    go_wp2
                    go_roundg (n - i1)
                    case measure => omega
                    case rel => exact ⟨i1, by omega, by first | rfl | (congr 1; omega), HV2, HK4⟩
    · have hki : ¬ (i : Int) < n := by omega
      have bk : decide ((i : Int) < (n : Int)) = false := by simpa using hki
      have HT : Hid (res = true) := Lib.hid (by
        rw [HRES.out]
        refine decide_eq_true ?_
        rw [HVL.out]
        have : i = n := by omega
        rw [← this]; exact HV.out)
      go_wp2
      go_ret
      exact ⟨by rw [HT.out]; rfl, HK.out⟩

end Go.Proofs.Ytppbknlhknadbaa
