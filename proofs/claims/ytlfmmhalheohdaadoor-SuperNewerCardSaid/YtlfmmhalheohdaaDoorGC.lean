/- The document's Need, Runs, Sum, SameRuns. The document's May, Same: superblocks in memory. The document's Same; what is few. -/
import Derived.Test.YtlfmmhalheohdaaDoorGB
import Derived.Deep.LoopGhost
import Derived.Deep.CutBlock
import Derived.BigQuiet
namespace Go.Proofs.YtlfmmhalheohdaaDoor
open Go.RowKit

theorem rneed_any (n : Int) (hn : -9223372036854775808 ≤ n ∧ n ≤ 9223372036854775807) (w : World) :
    Calls Tryd.prog 23 #[.int .i64 n] w fun e w' => e = .returned (.int .i64 (needN n)) ∧ w = w' := by
  by_cases h1 : n < 1
  · have e1 : needN n = 0 := if_pos h1
    rw [e1]
    go_enter Tryd.func23, Tryd.ntmps23
    go_wp2
    go_ret
    exact ⟨rfl, rfl⟩
  · have e1 : needN n = (n - 1) / 128 + 1 := if_neg h1
    obtain ⟨d, hd⟩ : ∃ d, d = n - 1 := ⟨_, rfl⟩
    have hd0 : 0 ≤ d ∧ d ≤ 9223372036854775806 := by omega
    have v1 : IntKind.i64.wrap (n - 1) = d := by rw [← hd]; exact IntWalk.i64_in _ (by omega)
    have v2 : IntKind.i64.wrap (d.tdiv 128) = d / 128 := by rw [Int.tdiv_eq_ediv_of_nonneg hd0.1]; exact IntWalk.i64_in _ (by omega)
    have v3 : IntKind.i64.wrap (d / 128 + 1) = d / 128 + 1 := IntWalk.i64_in _ (by omega)
    have v4 : IntKind.i64.wrap (d / 128) = d / 128 := IntWalk.i64_in _ (by omega)
    rw [e1, ← hd]
    have V5 : Hid (wrap64 (wrap64 (d.tdiv 128) + 1) = d / 128 + 1) := Lib.hid (by rw [← IntWalk.i64_left, ← IntWalk.i64_left, v2, v3])
    clear hd hd0 v2 v3 v4
    go_enter Tryd.func23, Tryd.ntmps23
    go_wp2
    go_ret
    exact ⟨congrArg (fun z => Ending.returned (Value.int .i64 z)) V5.out, rfl⟩

set_option maxRecDepth 100000 in
set_option maxHeartbeats 1000000 in
/-- Are two lists the same? -/
theorem rsameRuns_any (la lb : List (Int × Int)) (u v : Value) (w : World) (ha : RunsAt la u w) (hb : RunsAt lb v w) (hla : la.length ≤ 1048576) :
    Calls Tryd.prog 34 #[u, v] w fun e w' => e = .returned (.bool (decide (la = lb))) ∧ Below w.heap.size w w' := by
  obtain ⟨pa, ca, rfl, -, hca⟩ := ha.out
  obtain ⟨pb, cb, rfl, -, hcb⟩ := hb.out
  by_cases hlen : la.length = lb.length
  · have b1 : ((la.length : Int) != (lb.length : Int)) = false := by rw [bne_eq_false_iff_eq]; omega
    have HCA := Lib.hid hca
    have HCB := Lib.hid hcb
    have HLEN := Lib.hid hlen
    obtain ⟨n, hn⟩ : ∃ n, n = la.length := ⟨_, rfl⟩
    have hm : lb.length = n := by omega
    rw [← hn] at b1 hla ⊢
    rw [hm] at b1 ⊢
    have HN := Lib.hid hn
    clear ha hb hca hcb hlen hn hm
    go_enter Tryd.func34, Tryd.ntmps34
    go_wp2
    go_loopg [5] n (fun gh s5 wx => ∃ k : Nat, k + gh = n ∧ s5 = .int .i64 k ∧ Hid (la.take k = lb.take k) ∧ Hid (Kept w wx))
    case atStart => exact ⟨0, by omega, rfl, Lib.hid rfl, Lib.hid (Kept.refl w)⟩
    case round =>
      obtain ⟨k, hk, rfl, HE, HK⟩ := hrel
      by_cases hkn : k < n
      · have hki : (k : Int) < n := by omega
        have bk : decide ((k : Int) < (n : Int)) = true := by simpa using hki
        have hki0 : (0 : Int) ≤ k := by omega
        have hka : k < la.length := by rw [← HN.out]; exact hkn
        have hkb : k < lb.length := by rw [← HLEN.out]; exact hka
        rcases HCA.out with h0 | ⟨ba, oa, rfl, hcella⟩
        · omega
        rcases HCB.out with h0 | ⟨bb, ob, rfl, hcellb⟩
        · omega
        have d1 := HK.out.cell (hcella k hka).1
        have d2 := HK.out.cell (hcella k hka).2
        have d3 := HK.out.cell (hcellb k hkb).1
        have d4 := HK.out.cell (hcellb k hkb).2
        have hne := neq_run la[k].1 la[k].2 lb[k].1 lb[k].2
        have htk := List.take_succ_eq_append_getElem hka
        have htl := List.take_succ_eq_append_getElem hkb
        have hd : (decide (la[k].1 = lb[k].1) && decide (la[k].2 = lb[k].2)) = decide (la[k] = lb[k]) := by
          rw [Bool.eq_iff_iff]; simp only [Bool.and_eq_true, decide_eq_true_eq, Prod.ext_iff]
        rw [hd] at hne
        obtain ⟨a1, ha1⟩ : ∃ a1, a1 = la[k].1 := ⟨_, rfl⟩
        obtain ⟨a2, ha2⟩ : ∃ a2, a2 = la[k].2 := ⟨_, rfl⟩
        obtain ⟨b1', hb1⟩ : ∃ b1', b1' = lb[k].1 := ⟨_, rfl⟩
        obtain ⟨b2', hb2⟩ : ∃ b2', b2' = lb[k].2 := ⟨_, rfl⟩
        rw [← ha1] at d1 hne
        rw [← ha2] at d2 hne
        rw [← hb1] at d3 hne
        rw [← hb2] at d4 hne
        obtain ⟨k1, hk1⟩ : ∃ k1, k1 = k + 1 := ⟨_, rfl⟩
        have v1 : IntKind.i64.wrap ((k : Int) + 1) = (k1 : Int) := by rw [show (k : Int) + 1 = (k1 : Int) by omega]; exact IntWalk.i64_in _ (by omega)
        by_cases heq : la[k] = lb[k]
        · have hnx : Hid (la.take k1 = lb.take k1) := Lib.hid (by rw [hk1, htk, htl, HE.out, heq])
          rw [decide_eq_true heq, Bool.not_true] at hne
          have HK2 : Hid (∀ j, Kept w (wr.drewN j)) := Lib.hid (fun j => HK.out.then (below_drewN (Below.refl _ wr) j))
          clear ha1 ha2 hb1 hb2 hd htk htl heq hcella hcellb
          go_wp2
          go_quiet (fail)
          go_wp2
          go_roundg (n - k1)
          case measure => omega
          case rel => exact ⟨k1, by omega, by first | rfl | (congr 1; omega), hnx, Lib.hid (HK2.out _)⟩
        · have hne2 : Hid (decide (la = lb) = false) := Lib.hid (decide_eq_false (fun e => heq (by subst e; rfl)))
          rw [decide_eq_false heq, Bool.not_false] at hne
          have HK2 : Hid (∀ j, Kept w (wr.drewN j)) := Lib.hid (fun j => HK.out.then (below_drewN (Below.refl _ wr) j))
          clear ha1 ha2 hb1 hb2 hd htk htl heq hcella hcellb
          go_wp2
          go_quiet (fail)
          go_wp2
          go_ret
          exact ⟨by rw [hne2.out]; rfl, HK2.out _⟩
      · have hki : ¬ (k : Int) < n := by omega
        have bk : decide ((k : Int) < (n : Int)) = false := by simpa using hki
        have hee : Hid (decide (la = lb) = true) := Lib.hid (decide_eq_true (by
          have h := HE.out
          rw [List.take_of_length_le (by rw [← HN.out]; omega), List.take_of_length_le (by rw [← HLEN.out, ← HN.out]; omega)] at h
          exact h))
        go_wp2
        go_ret
        exact ⟨by rw [hee.out]; rfl, HK.out⟩
  · have b1 : ((la.length : Int) != (lb.length : Int)) = true := by rw [bne_iff_ne]; omega
    have hne2 : Hid (decide (la = lb) = false) := Lib.hid (decide_eq_false (fun e => hlen (by rw [e])))
    obtain ⟨n, hn⟩ : ∃ n, n = la.length := ⟨_, rfl⟩
    obtain ⟨m, hm⟩ : ∃ m, m = lb.length := ⟨_, rfl⟩
    rw [← hn, ← hm] at b1 ⊢
    clear ha hb hca hcb hlen hn hm hla
    go_enter Tryd.func34, Tryd.ntmps34
    go_wp2
    go_ret
    exact ⟨by rw [hne2.out]; rfl, Below.refl _ _⟩


theorem sumR_take (l : List (Int × Int)) (k : Nat) (h : k < l.length) : sumR (l.take (k + 1)) = sumR (l.take k) + l[k].2 := by
  rw [List.take_succ_eq_append_getElem h, sumR_append]
  unfold sumR
  simp

set_option maxRecDepth 100000 in
set_option maxHeartbeats 1000000 in
/-- How many sectors runs have, each at most 8192. -/
theorem rsum11_any (l : List (Int × Int)) (v : Value) (w : World) (h : RunsAt l v w) (hl : l.length ≤ 1048576) (hb : ∀ r ∈ l, 0 ≤ r.2 ∧ r.2 ≤ 8192) :
    Calls Tryd.prog 30 #[v] w fun e w' => e = .returned (.int .i64 (sumR l)) ∧ w = w' := by
  obtain ⟨p, c, rfl, -, hc⟩ := h.out
  have HC := Lib.hid hc
  have HB := Lib.hid hb
  obtain ⟨n, hn⟩ : ∃ n, n = l.length := ⟨_, rfl⟩
  have HN := Lib.hid hn
  obtain ⟨res, hres⟩ : ∃ res, res = sumR l := ⟨_, rfl⟩
  have HRES := Lib.hid hres
  rw [← hn] at hl ⊢
  rw [← hres]
  clear hc h hn hres hb
  go_enter Tryd.func30, Tryd.ntmps30
  go_wp2
  go_loopg [3, 4] n (fun gh s3 s4 wx => ∃ (k : Nat) (z : Int), k + gh = n ∧ s3 = .int .i64 z ∧ s4 = .int .i64 k ∧ Hid (z = sumR (l.take k)) ∧ Hid (0 ≤ z ∧ z ≤ 8192 * k) ∧ w = wx)
  case atStart => exact ⟨0, 0, by omega, rfl, rfl, Lib.hid rfl, Lib.hid (by omega), rfl⟩
  case round =>
    obtain ⟨k, z, hk, rfl, rfl, HZ, HZB, rfl⟩ := hrel
    by_cases hkn : k < n
    · have hki : (k : Int) < n := by omega
      have bk : decide ((k : Int) < (n : Int)) = true := by simpa using hki
      have hki0 : (0 : Int) ≤ k := by omega
      have hka : k < l.length := by rw [← HN.out]; exact hkn
      rcases HC.out with h0 | ⟨ba, oa, rfl, hcell⟩
      · omega
      have d2 := (hcell k hka).2
      have hbk := HB.out _ (List.getElem_mem hka)
      have hst := sumR_take l k hka
      obtain ⟨y, hy⟩ : ∃ y, y = l[k].2 := ⟨_, rfl⟩
      rw [← hy] at d2 hbk hst
      obtain ⟨k1, hk1⟩ : ∃ k1, k1 = k + 1 := ⟨_, rfl⟩
      have v1 : IntKind.i64.wrap ((k : Int) + 1) = (k1 : Int) := by rw [show (k : Int) + 1 = (k1 : Int) by omega]; exact IntWalk.i64_in _ (by omega)
      obtain ⟨z1, hz1⟩ : ∃ z1, z1 = z + y := ⟨_, rfl⟩
      have hzb := HZB.out
      have v2 : IntKind.i64.wrap (z + y) = z1 := by rw [← hz1]; exact IntWalk.i64_in _ (by omega)
      have HZ1 : Hid (z1 = sumR (l.take k1)) := Lib.hid (by rw [hk1, hst, hz1, HZ.out])
      have HZB1 : Hid (0 ≤ z1 ∧ z1 ≤ 8192 * k1) := Lib.hid (by omega)
      clear hy hbk hst hz1 hzb hcell
      go_wp2
      try go_quiet (fail)
      try go_wp2
      go_roundg (n - k1)
      case measure => omega
      case rel => exact ⟨k1, z1, by omega, rfl, by first | rfl | (congr 1; omega), HZ1, HZB1, rfl⟩
    · have hki : ¬ (k : Int) < n := by omega
      have bk : decide ((k : Int) < (n : Int)) = false := by simpa using hki
      have hzz : z = res := by rw [HZ.out, HRES.out, List.take_of_length_le (by rw [← HN.out]; omega)]
      go_wp2
      go_ret
      exact ⟨by first | rfl | rw [hzz], rfl⟩

theorem over_iff (a m x y : Int) (hm : 1 ≤ m) (hy : 1 ≤ y) : (overR (a, m) (x, y) ∨ overR (x, y) (a, m)) ↔ (a < x + y ∧ x < a + m) := by
  unfold overR
  simp only
  omega

set_option maxRecDepth 100000 in
set_option maxHeartbeats 2000000 in
theorem rruns11_any (l : List (Int × Int)) (v : Value) (w : World) (h : RunsAt l v w) (hl : l.length ≤ 1048576) (fr te : Int) (hfr : 0 ≤ fr ∧ fr ≤ 100000) (hto : 0 ≤ te ∧ te ≤ 100000) :
    Calls Tryd.prog 29 #[v, .int .i64 fr, .int .i64 te] w fun e w' => e = .returned (.bool (decide (validL fr te l ∧ l.length ≤ 16))) ∧ Below w.heap.size w w' := by
  obtain ⟨p, c, rfl, -, hc⟩ := h.out
  have HC := Lib.hid hc
  have HWF := Lib.hid h.wf
  have V0 : Hid (validK fr te l 0) := Lib.hid (fun j hj => by omega)
  have K0 : Hid (Kept w w) := Lib.hid (Kept.refl w)
  have HVL : Hid (validL fr te l = validK fr te l l.length) := Lib.hid rfl
  obtain ⟨n, hn⟩ : ∃ n, n = l.length := ⟨_, rfl⟩
  have HN := Lib.hid hn
  obtain ⟨res, hres⟩ : ∃ res, res = decide (validL fr te l ∧ l.length ≤ 16) := ⟨_, rfl⟩
  have HRES := Lib.hid hres
  have HFT := Lib.hid (And.intro hfr hto)
  rw [← hres, ← hn]
  rw [← hn] at hl HVL
  clear hc h hn hres
  go_enter Tryd.func29, Tryd.ntmps29
  go_wp2
  go_loopg [7] n (fun gh s7 wx => ∃ i : Nat, i + gh = n ∧ s7 = .int .i64 i ∧ Hid (validK fr te l i) ∧ Hid (Kept w wx))
  case atStart => exact ⟨0, by omega, rfl, V0, K0⟩
  case round =>
    clear V0 K0
    obtain ⟨i, hi, rfl, HV, HK⟩ := hrel
    obtain ⟨i1, hi1⟩ : ∃ i1, i1 = i + 1 := ⟨_, rfl⟩
    have v1 : IntKind.i64.wrap ((i : Int) + 1) = (i1 : Int) := by rw [show (i : Int) + 1 = (i1 : Int) by omega]; exact IntWalk.i64_in _ (by omega)
    by_cases hin : i < n
    · have hki : (i : Int) < n := by omega
      have bk : decide ((i : Int) < (n : Int)) = true := by simpa using hki
      have hki0 : (0 : Int) ≤ i := by omega
      have hil : i < l.length := by rw [← HN.out]; exact hin
      rcases HC.out with h0 | ⟨bb, ob, rfl, hcell⟩
      · have := HN.out; omega
      have HCELL := Lib.hid hcell
      have hci := hcell i hil
      have hgd : l.getD i (0, 0) = l[i] := by rw [List.getD_eq_getElem?_getD, List.getElem?_eq_getElem hil]; rfl
      have hw := HWF.out _ (List.getElem_mem hil)
      obtain ⟨r, hr⟩ : ∃ r, r = l[i] := ⟨_, rfl⟩
      rw [← hr] at hci hgd hw
      obtain ⟨a, m⟩ := r
      have HGD := Lib.hid hgd
      have HWR := Lib.hid hw
      have d1 := HK.out.cell hci.1
      have d2 := HK.out.cell hci.2
      have HKA : Hid (Kept w (wr.alloc (.cells #[.int .i64 a, .int .i64 m] 48))) := Lib.hid (HK.out.then (box_below _ _))
      have HNF : Hid (¬ fitR fr te (a, m) → res = false) := Lib.hid (fun hf => by
        rw [HRES.out]
        exact decide_eq_false (fun hv => hf (by have h := (show validK fr te l l.length from hv.1) i hil; rw [HGD.out] at h; exact h.1)))
      clear hr hci hcell hgd hil hw hfr hto
      by_cases hA : a < fr
      · have HF : Hid (res = false) := Lib.hid (HNF.out (fun y => by unfold fitR at y; have y1 : fr ≤ a := y.1; omega))
        clear HV HNF
        go_wp2
        go_ret
        exact ⟨by rw [HF.out]; rfl, HKA.out⟩
      · by_cases hB : m < 1
        · have HF : Hid (res = false) := Lib.hid (HNF.out (fun y => by unfold fitR at y; have y2 : 1 ≤ m := y.2.1; omega))
          clear HV HNF
          go_wp2
          go_ret
          exact ⟨by rw [HF.out]; rfl, HKA.out⟩
        · by_cases hC : a > te
          · have HF : Hid (res = false) := Lib.hid (HNF.out (fun y => by unfold fitR at y; have y2 : 1 ≤ m := y.2.1; have y3 : a + m ≤ te := y.2.2; omega))
            clear HV HNF
            go_wp2
            go_ret
            exact ⟨by rw [HF.out]; rfl, HKA.out⟩
          · obtain ⟨d, hd⟩ : ∃ d, d = te - a := ⟨_, rfl⟩
            have hft := HFT.out
            have vd : IntKind.i64.wrap (te - a) = d := by rw [← hd]; exact IntWalk.i64_in _ (by omega)
            by_cases hm : m > d
            · have HF : Hid (res = false) := Lib.hid (HNF.out (fun y => by unfold fitR at y; have y3 : a + m ≤ te := y.2.2; omega))
              clear HV HNF hd hft
              go_wp2
              go_ret
              exact ⟨by rw [HF.out]; rfl, HKA.out⟩
            · have HFIT : Hid (fitR fr te (a, m)) := Lib.hid (by
                unfold fitR
                exact ⟨by show fr ≤ a; omega, by show 1 ≤ m; omega, by show a + m ≤ te; omega⟩)
              obtain ⟨s2, hs2⟩ : ∃ s2, s2 = a + m := ⟨_, rfl⟩
              have vs2 : IntKind.i64.wrap (a + m) = s2 := by rw [← hs2]; exact IntWalk.i64_in _ (by omega)
              have HS2 := Lib.hid hs2
              have hW0 : (wr.alloc (.cells #[.int .i64 a, .int .i64 m] 48)).heap[wr.heap.size]? = some (.cells #[.int .i64 a, .int .i64 m] 48 (0, 0)) := heap_alloc_last wr _
              obtain ⟨W0, hW0e⟩ : ∃ W0, W0 = wr.alloc (.cells #[.int .i64 a, .int .i64 m] 48) := ⟨_, rfl⟩
              rw [← hW0e] at hW0 HKA
              have HW0 := Lib.hid hW0
              have HW0E := Lib.hid hW0e
              have P0 : Hid (∀ j, j < 0 → ¬ overR (l.getD i (0, 0)) (l.getD j (0, 0)) ∧ ¬ overR (l.getD j (0, 0)) (l.getD i (0, 0))) := Lib.hid (fun j hj => by omega)
              have KW0 : Hid (Kept W0 W0) := Lib.hid (Kept.refl W0)
              have HMB : Hid (fr ≤ a ∧ 1 ≤ m ∧ a + m ≤ te ∧ 0 ≤ fr ∧ te ≤ 100000) := Lib.hid (by omega)
              clear hW0 hW0e hd hft hs2
              go_wp2
              rw [← HW0E.out]
              obtain ⟨wo, hwo⟩ : ∃ wo : World, wo = wr := ⟨_, rfl⟩
              subst hwo
              obtain ⟨go, hgo⟩ : ∃ go : Nat, go = gk := ⟨_, rfl⟩
              subst hgo
              go_loopg [9] i (fun gh s9 wx => ∃ k : Nat, k + gh = i ∧ s9 = .int .i64 k ∧ Hid (∀ j, j < k → ¬ overR (l.getD i (0, 0)) (l.getD j (0, 0)) ∧ ¬ overR (l.getD j (0, 0)) (l.getD i (0, 0))) ∧ Hid (Kept W0 wx))
              case atStart => exact ⟨0, by omega, rfl, P0, KW0⟩
              case round =>
                clear P0 KW0 d1 d2
                obtain ⟨k, hk, rfl, HP, HKX⟩ := hrel
                obtain ⟨k1, hk1⟩ : ∃ k1, k1 = k + 1 := ⟨_, rfl⟩
                have v2 : IntKind.i64.wrap ((k : Int) + 1) = (k1 : Int) := by rw [show (k : Int) + 1 = (k1 : Int) by omega]; exact IntWalk.i64_in _ (by omega)
                by_cases hkn : k < i
                · have hkk : (k : Int) < i := by omega
                  have bq : decide ((k : Int) < (i : Int)) = true := by simpa using hkk
                  have hk0 : (0 : Int) ≤ k := by omega
                  have hkn2 : (k : Int) < n := by omega
                  have hkl : k < l.length := by rw [← HN.out]; omega
                  have hck := HCELL.out k hkl
                  have hgk : l.getD k (0, 0) = l[k] := by rw [List.getD_eq_getElem?_getD, List.getElem?_eq_getElem hkl]; rfl
                  obtain ⟨rk, hrk⟩ : ∃ rk, rk = l[k] := ⟨_, rfl⟩
                  rw [← hrk] at hck hgk
                  obtain ⟨x, y⟩ := rk
                  have hfk : fitR fr te (x, y) := by have h := (HV.out k hkn).1; rw [hgk] at h; exact h
                  have hmb := HMB.out
                  have hx1 : fr ≤ x ∧ 1 ≤ y ∧ x + y ≤ te := ⟨hfk.1, hfk.2.1, hfk.2.2⟩
                  have HGK := Lib.hid hgk
                  have HKW : Hid (Kept w wr) := Lib.hid ((show Kept w W0 from HKA.out).then HKX.out)
                  have e1 := HKW.out.cell hck.1
                  have e2 := HKW.out.cell hck.2
                  have hrow := HKX.out.row HW0.out
                  have ba : Kept wr (wr.alloc (.cells #[.int .i64 x, .int .i64 y] 48)) := box_below _ _
                  have g1 : (wr.alloc (.cells #[.int .i64 x, .int .i64 y] 48)).cell? ⟨wo.heap.size, 0, none⟩ = some (.int .i64 a) := by rw [cell_of_row _ _ _ _ _ _ (ba.row hrow)]; rfl
                  have g2 : (wr.alloc (.cells #[.int .i64 x, .int .i64 y] 48)).cell? ⟨wo.heap.size, 1, none⟩ = some (.int .i64 m) := by rw [cell_of_row _ _ _ _ _ _ (ba.row hrow)]; rfl
                  have HKF : Hid (Kept W0 (wr.alloc (.cells #[.int .i64 x, .int .i64 y] 48))) := Lib.hid (HKX.out.then ba)
                  have HKG : Hid (Kept w (wr.alloc (.cells #[.int .i64 x, .int .i64 y] 48))) := Lib.hid (HKW.out.then ba)
                  have HOV : Hid ((a < x + y ∧ x < a + m) → res = false) := Lib.hid (fun ho => by
                    rw [HRES.out]
                    refine decide_eq_false (fun hv => ?_)
                    have h := ((show validK fr te l l.length from hv.1) i (by rw [← HN.out]; omega)).2 k hkn
                    rw [HGD.out, HGK.out] at h
                    exact ((over_iff a m x y (by omega) (by omega)).2 ho).elim h.1 h.2)
                  have HNV : Hid (¬ (a < x + y ∧ x < a + m) → ∀ j, j < k1 → ¬ overR (l.getD i (0, 0)) (l.getD j (0, 0)) ∧ ¬ overR (l.getD j (0, 0)) (l.getD i (0, 0))) := Lib.hid (fun h1 j hj => by
                    by_cases e : j = k
                    · subst e
                      rw [HGD.out, HGK.out]
                      have h2 := fun z => h1 ((over_iff a m x y (by omega) (by omega)).1 z)
                      exact ⟨fun z => h2 (Or.inl z), fun z => h2 (Or.inr z)⟩
                    · exact HP.out j (by omega))
                  obtain ⟨s1, hs1⟩ : ∃ s1, s1 = x + y := ⟨_, rfl⟩
                  have vs1 : IntKind.i64.wrap (x + y) = s1 := by rw [← hs1]; exact IntWalk.i64_in _ (by omega)
                  by_cases ho1 : a < s1
                  · by_cases ho2 : x < s2
                    · have HF : Hid (res = false) := Lib.hid (HOV.out ⟨by omega, by rw [← HS2.out]; exact ho2⟩)
                      clear hck hgk hrk hfk hkl hrow hmb hx1 ba HOV HNV hs1
                      go_wp2
                      go_ret
                      exact ⟨by rw [HF.out]; rfl, HKG.out⟩
                    · have HP2 := Lib.hid (HNV.out (fun z => ho2 (by rw [HS2.out]; exact z.2)))
                      clear hck hgk hrk hfk hkl hrow hmb hx1 ba HOV HNV hs1
                      go_wp2
                      go_roundg (i - k1)
                      case measure => omega
                      case rel => exact ⟨k1, by omega, by first | rfl | (congr 1; omega), HP2, HKF⟩
                  · have HP2 := Lib.hid (HNV.out (fun z => ho1 (by omega)))
                    clear hck hgk hrk hfk hkl hrow hmb hx1 ba HOV HNV hs1
                    go_wp2
                    go_roundg (i - k1)
                    case measure => omega
                    case rel => exact ⟨k1, by omega, by first | rfl | (congr 1; omega), HP2, HKF⟩
                · have hkk : ¬ (k : Int) < i := by omega
                  have bq : decide ((k : Int) < (i : Int)) = false := by simpa using hkk
                  have HV2 : Hid (validK fr te l i1) := Lib.hid (by
                    rw [hi1]
                    refine validK_succ HV.out (by rw [HGD.out]; exact HFIT.out) (fun j hj => HP.out j (by omega)))
                  have HK4 : Hid (Kept w wr) := Lib.hid ((show Kept w W0 from HKA.out).then HKX.out)
                  go_wp2
                  go_roundg (n - i1)
                  case measure => omega
                  case rel => exact ⟨i1, by omega, by first | rfl | (congr 1; omega), HV2, HK4⟩
    · have hki : ¬ (i : Int) < n := by omega
      have bk : decide ((i : Int) < (n : Int)) = false := by simpa using hki
      have HT : Hid (validL fr te l) := Lib.hid (by
        rw [HVL.out]
        have : i = n := by omega
        rw [← this]; exact HV.out)
      by_cases h16 : n ≤ 16
      · have h16' : (n : Int) ≤ 16 := by omega
        have HF : Hid (res = true) := Lib.hid (by rw [HRES.out]; exact decide_eq_true ⟨HT.out, by rw [← HN.out]; exact h16⟩)
        clear h16
        go_wp2
        go_ret
        exact ⟨by rw [HF.out]; first | rfl | (rw [decide_eq_true h16']), HK.out⟩
      · have h16' : ¬ (n : Int) ≤ 16 := by omega
        have HF : Hid (res = false) := Lib.hid (by rw [HRES.out]; exact decide_eq_false (fun y => h16 (by rw [HN.out]; exact y.2)))
        clear h16
        go_wp2
        go_ret
        exact ⟨by rw [HF.out]; first | rfl | (rw [decide_eq_false h16']), HK.out⟩

end Go.Proofs.YtlfmmhalheohdaaDoor
namespace Go.Proofs.YtlfmmhalheohdaaDoor
open Go.RowKit

def sbC (s : Sb) (tv : Value) : Array Value := #[.int .u64 s.seq, .int .i64 s.sec, .int .i64 s.jou, .int .i64 s.use, .int .i64 s.siz, tv]
def sbV (s : Sb) (tv : Value) : Value := .agg (sbC s tv)
/-- A superblock, as a value. -/
def SbAt (s : Sb) (v : Value) (w : World) : Prop := ∃ tv, v = sbV s tv ∧ RunsAt s.runs tv w ∧ s.wf
theorem SbAt.later {s : Sb} {v : Value} {w w' : World} (h : SbAt s v w) (k : Kept w w') : SbAt s v w' := by
  obtain ⟨tv, e, hr, hw⟩ := h
  exact ⟨tv, e, hr.later k, hw⟩
/-- .. whose runs lie in new memory. -/
def SbNew (s : Sb) (v : Value) (w w' : World) : Prop := ∃ tv, v = sbV s tv ∧ RunsAt s.runs tv w' ∧ s.wf ∧ NewAt tv w
theorem SbNew.at_ {s : Sb} {v : Value} {w w' : World} (h : SbNew s v w w') : SbAt s v w' := by
  obtain ⟨tv, e, hr, hw, _⟩ := h
  exact ⟨tv, e, hr, hw⟩
theorem infoSb : (Tryd.prog.info? 25).map (·.size) = some 6 := by kernel_rfl

theorem rneed_kept (n : Int) (hn : -9223372036854775808 ≤ n ∧ n ≤ 9223372036854775807) (w : World) :
    Calls Tryd.prog 23 #[.int .i64 n] w fun e w' => e = .returned (.int .i64 (needN n)) ∧ Below w.heap.size w w' :=
  (rneed_any n hn w).mono fun _ _ ⟨a, b⟩ => ⟨a, b ▸ Below.refl _ _⟩
theorem rsum11_kept (l : List (Int × Int)) (v : Value) (w : World) (h : RunsAt l v w) (hl : l.length ≤ 1048576) (hb : ∀ r ∈ l, 0 ≤ r.2 ∧ r.2 ≤ 8192) :
    Calls Tryd.prog 30 #[v] w fun e w' => e = .returned (.int .i64 (sumR l)) ∧ Below w.heap.size w w' :=
  (rsum11_any l v w h hl hb).mono fun _ _ ⟨a, b⟩ => ⟨a, b ▸ Below.refl _ _⟩

theorem validL_len {fr te : Int} {l : List (Int × Int)} (h : validL fr te l) (hf : 0 ≤ fr) (ht : te ≤ 8192) : ∀ r ∈ l, 0 ≤ r.2 ∧ r.2 ≤ 8192 := by
  intro r hr
  obtain ⟨i, hi, rfl⟩ := List.mem_iff_getElem.1 hr
  have hv := (h i hi).1
  have hd : l.getD i (0, 0) = l[i] := by rw [List.getD_eq_getElem?_getD, List.getElem?_eq_getElem hi]; rfl
  rw [hd] at hv
  unfold fitR at hv
  omega

set_option maxRecDepth 100000 in
set_option maxHeartbeats 4000000 in
theorem rmay11_any (s : Sb) (v : Value) (w : World) (h : SbAt s v w) (hl : s.runs.length ≤ 1048576) :
    Calls Tryd.prog 11 #[v] w fun e w' => e = .returned (.bool (mayS s)) ∧ Below w.heap.size w w' := by
  obtain ⟨tv, rfl, hr, hwf⟩ := h
  obtain ⟨p, c, htv, -, -⟩ := hr.out
  subst htv
  obtain ⟨q, se, jo, us, si, rn⟩ := s
  simp only at hr hl
  obtain ⟨-, hse, hjo, hus, hsi⟩ := hwf
  simp only at hse hjo hus hsi
  obtain ⟨res, hres⟩ : ∃ res, res = mayS ⟨q, se, jo, us, si, rn⟩ := ⟨_, rfl⟩
  rw [← hres]
  have HR := Lib.hid hr
  have HRES := Lib.hid hres
  have HSI := Lib.hid hsi
  unfold sbV sbC
  simp only
  obtain ⟨n, hn⟩ : ∃ n, n = rn.length := ⟨_, rfl⟩
  have HN := Lib.hid hn
  rw [← hn] at hl HR
  have HRV : Hid (RunsAt rn (.slice p n c) w) := Lib.hid (by rw [hn]; exact hr)
  rw [← hn]
  have HFA : Hid (¬ maySP ⟨q, se, jo, us, si, rn⟩ → res = false) := Lib.hid (fun x => by rw [hres]; exact decide_eq_false x)
  have HKA : Hid (Kept w (w.alloc (.cells #[.int .u64 q, .int .i64 se, .int .i64 jo, .int .i64 us, .int .i64 si, .slice p n c] 25))) := Lib.hid (box_below _ _)
  clear hr hres hn HR
  have hd2 : -9223372036854775806 ≤ se → IntKind.i64.wrap (se - 2) = se - 2 := fun _ => IntWalk.i64_in _ (by omega)
  have hc : ((q : Int) < 1) ∨ (¬ (q : Int) < 1 ∧ se < 4) ∨ (¬ (q : Int) < 1 ∧ ¬ se < 4 ∧ se > 8192) ∨ (¬ (q : Int) < 1 ∧ ¬ se < 4 ∧ ¬ se > 8192 ∧ jo < 1) ∨ (¬ (q : Int) < 1 ∧ ¬ se < 4 ∧ ¬ se > 8192 ∧ ¬ jo < 1) := by omega
  rcases hc with h1 | ⟨h1, h2⟩ | ⟨h1, h2, h3⟩ | ⟨h1, h2, h3, h4⟩ | ⟨h1, h2, h3, h4⟩
  · have HF : Hid (res = false) := Lib.hid (HFA.out (fun y => by have y0 := y.seq; have y1 := y.sec; have y2 := y.jou; simp only at y0 y1 y2; omega))
    clear hse hjo hus hsi hd2 HFA HRV HN HSI HRES
    go_enter Tryd.func11, Tryd.ntmps11
    go_wp2
    go_ret
    exact ⟨by rw [HF.out]; rfl, HKA.out⟩

  · have HF : Hid (res = false) := Lib.hid (HFA.out (fun y => by have y0 := y.seq; have y1 := y.sec; have y2 := y.jou; simp only at y0 y1 y2; omega))
    clear hse hjo hus hsi hd2 HFA HRV HN HSI HRES
    go_enter Tryd.func11, Tryd.ntmps11
    go_wp2
    go_ret
    exact ⟨by rw [HF.out]; rfl, HKA.out⟩

  · have HF : Hid (res = false) := Lib.hid (HFA.out (fun y => by have y0 := y.seq; have y1 := y.sec; have y2 := y.jou; simp only at y0 y1 y2; omega))
    clear hse hjo hus hsi hd2 HFA HRV HN HSI HRES
    go_enter Tryd.func11, Tryd.ntmps11
    go_wp2
    go_ret
    exact ⟨by rw [HF.out]; rfl, HKA.out⟩

  · have HF : Hid (res = false) := Lib.hid (HFA.out (fun y => by have y0 := y.seq; have y1 := y.sec; have y2 := y.jou; simp only at y0 y1 y2; omega))
    clear hse hjo hus hsi hd2 HFA HRV HN HSI HRES
    go_enter Tryd.func11, Tryd.ntmps11
    go_wp2
    go_ret
    exact ⟨by rw [HF.out]; rfl, HKA.out⟩

  · obtain ⟨d, hd⟩ : ∃ d, d = se - 2 := ⟨_, rfl⟩
    have vd : IntKind.i64.wrap (se - 2) = d := by rw [← hd]; exact IntWalk.i64_in _ (by omega)
    by_cases h5 : jo > d
    · have HF : Hid (res = false) := Lib.hid (HFA.out (fun y => by have y2 := y.jou; simp only at y2; omega))
      clear hd hse hjo hus hsi hd2 HFA HRV HN HSI HRES
      go_enter Tryd.func11, Tryd.ntmps11
      go_wp2
      go_ret
      exact ⟨by rw [HF.out]; rfl, HKA.out⟩
    · obtain ⟨e, he⟩ : ∃ e, e = jo * 128 := ⟨_, rfl⟩
      have ve : IntKind.i64.wrap (jo * 128) = e := by rw [← he]; exact IntWalk.i64_in _ (by omega)
      have hc : (us < 0) ∨ (¬ us < 0 ∧ us > e) ∨ (¬ us < 0 ∧ ¬ us > e ∧ si < 0) ∨ (¬ us < 0 ∧ ¬ us > e ∧ ¬ si < 0 ∧ si > 1048576) ∨ (¬ us < 0 ∧ ¬ us > e ∧ ¬ si < 0 ∧ ¬ si > 1048576 ∧ (n : Int) > 16) ∨ (¬ us < 0 ∧ ¬ us > e ∧ ¬ si < 0 ∧ ¬ si > 1048576 ∧ ¬ (n : Int) > 16) := by omega
      rcases hc with h6 | ⟨h6, h7⟩ | ⟨h6, h7, h8⟩ | ⟨h6, h7, h8, h9⟩ | ⟨h6, h7, h8, h9, h10⟩ | ⟨h6, h7, h8, h9, h10⟩
      · have HF : Hid (res = false) := Lib.hid (HFA.out (fun y => by have y0 := y.use; have y1 := y.siz; have y2 := y.len; simp only at y0 y1 y2; have := HN.out; omega))
        clear hd he hse hjo hus hsi hd2 HFA HRV HN HSI HRES
        go_enter Tryd.func11, Tryd.ntmps11
        go_wp2
        go_ret
        exact ⟨by rw [HF.out]; rfl, HKA.out⟩

      · have HF : Hid (res = false) := Lib.hid (HFA.out (fun y => by have y0 := y.use; have y1 := y.siz; have y2 := y.len; simp only at y0 y1 y2; have := HN.out; omega))
        clear hd he hse hjo hus hsi hd2 HFA HRV HN HSI HRES
        go_enter Tryd.func11, Tryd.ntmps11
        go_wp2
        go_ret
        exact ⟨by rw [HF.out]; rfl, HKA.out⟩

      · have HF : Hid (res = false) := Lib.hid (HFA.out (fun y => by have y0 := y.use; have y1 := y.siz; have y2 := y.len; simp only at y0 y1 y2; have := HN.out; omega))
        clear hd he hse hjo hus hsi hd2 HFA HRV HN HSI HRES
        go_enter Tryd.func11, Tryd.ntmps11
        go_wp2
        go_ret
        exact ⟨by rw [HF.out]; rfl, HKA.out⟩

      · have HF : Hid (res = false) := Lib.hid (HFA.out (fun y => by have y0 := y.use; have y1 := y.siz; have y2 := y.len; simp only at y0 y1 y2; have := HN.out; omega))
        clear hd he hse hjo hus hsi hd2 HFA HRV HN HSI HRES
        go_enter Tryd.func11, Tryd.ntmps11
        go_wp2
        go_ret
        exact ⟨by rw [HF.out]; rfl, HKA.out⟩

      · have HF : Hid (res = false) := Lib.hid (HFA.out (fun y => by have y0 := y.use; have y1 := y.siz; have y2 := y.len; simp only at y0 y1 y2; have := HN.out; omega))
        clear hd he hse hjo hus hsi hd2 HFA HRV HN HSI HRES
        go_enter Tryd.func11, Tryd.ntmps11
        go_wp2
        go_ret
        exact ⟨by rw [HF.out]; rfl, HKA.out⟩

      · obtain ⟨fr, hfr⟩ : ∃ fr, fr = 2 + jo := ⟨_, rfl⟩
        have vf : IntKind.i64.wrap (2 + jo) = fr := by rw [← hfr]; exact IntWalk.i64_in _ (by omega)
        have hfb : (0 ≤ fr ∧ fr ≤ 100000) ∧ (0 ≤ se ∧ se ≤ 100000) := by omega
        have HFB := Lib.hid hfb
        have HFR := Lib.hid hfr
        obtain ⟨W0, hW0⟩ : ∃ W0, W0 = w.alloc (.cells #[.int .u64 q, .int .i64 se, .int .i64 jo, .int .i64 us, .int .i64 si, .slice p n c] 25) := ⟨_, rfl⟩
        have HW0 := Lib.hid hW0
        have hrow : W0.heap[w.heap.size]? = some (.cells #[.int .u64 q, .int .i64 se, .int .i64 jo, .int .i64 us, .int .i64 si, .slice p n c] 25 (0, 0)) := by rw [hW0]; exact heap_alloc_last w _
        have g1 : W0.cell? ⟨w.heap.size, 1, none⟩ = some (.int .i64 se) := by rw [cell_of_row _ _ _ _ _ _ hrow]; rfl
        have g2 : W0.cell? ⟨w.heap.size, 2, none⟩ = some (.int .i64 jo) := by rw [cell_of_row _ _ _ _ _ _ hrow]; rfl
        have g4 : W0.cell? ⟨w.heap.size, 4, none⟩ = some (.int .i64 si) := by rw [cell_of_row _ _ _ _ _ _ hrow]; rfl
        have g5 : W0.cell? ⟨w.heap.size, 5, none⟩ = some (.slice p n c) := by rw [cell_of_row _ _ _ _ _ _ hrow]; rfl
        have HW : Hid (RunsAt rn (.slice p n c) W0) := Lib.hid (HRV.out.later (by rw [hW0]; exact box_below _ _))
        rw [← hW0] at HKA
        have hln : rn.length ≤ 1048576 := by rw [← HN.out]; exact hl
        have HLN := Lib.hid hln
        have C1 : ∀ W, Kept W0 W → Calls Tryd.prog 29 #[.slice p n c, .int .i64 fr, .int .i64 se] W fun e w' => e = .returned (.bool (decide (validL fr se rn ∧ rn.length ≤ 16))) ∧ Below W.heap.size W w' := fun W k => rruns11_any rn _ W (HW.out.later k) HLN.out fr se HFB.out.1 HFB.out.2
        by_cases hv : validL fr se rn
        · have hb := validL_len hv HFB.out.1.1 (by omega)
          have C2 : ∀ W, Kept W0 W → Calls Tryd.prog 30 #[.slice p n c] W fun e w' => e = .returned (.int .i64 (sumR rn)) ∧ Below W.heap.size W w' := fun W k => rsum11_kept rn _ W (HW.out.later k) HLN.out hb
          have C3 := fun W => rneed_kept si HSI.out W
          have ht : decide (validL fr se rn ∧ rn.length ≤ 16) = true := decide_eq_true ⟨hv, by rw [← HN.out]; omega⟩
          rw [ht] at C1
          have HF : Hid (res = decide (sumR rn = needN si)) := Lib.hid (by
            rw [HRES.out]
            refine decide_eq_decide.2 ⟨fun y => y.sum, fun y => ⟨by show 1 ≤ q; omega, by show 4 ≤ se ∧ se ≤ 8192; omega, by show 1 ≤ jo ∧ jo ≤ se - 2; omega, by show 0 ≤ us ∧ us ≤ jo * 128; omega, by show 0 ≤ si ∧ si ≤ 1048576; omega, by show rn.length ≤ 16; rw [← HN.out]; omega, by show validL (2 + jo) se rn; rw [← hfr]; exact hv, y⟩⟩)
          obtain ⟨x, hx⟩ : ∃ x, x = sumR rn := ⟨_, rfl⟩
          obtain ⟨y, hy⟩ : ∃ y, y = needN si := ⟨_, rfl⟩
          rw [← hx] at C2 HF
          rw [← hy] at C3 HF
          clear hd he hse hjo hus hsi hd2 HFA HRV HN HSI HRES hfr hfb hW0 hrow hln hv hb ht hx hy HFB HFR
          go_enter Tryd.func11, Tryd.ntmps11
          go_wp2_with fail
          rw [← HW0.out]
          refine wp_region_kept (by kernel_rfl) (by kernel_rfl) ?_
          refine wpQuiet_pure (v := ?_) (by kernel_rfl) ?_ (fun K hK => ?_)
          case refine_2 => intro W _; go_simp; try with_reducible rfl
          go_simp
          refine hK _ ?_; clear hK K
          refine wpQuiet_pure (v := ?_) (by kernel_rfl) ?_ (fun K hK => ?_)
          case refine_2 => intro W hW; have e0 := hW.cell g5; go_simp; try with_reducible rfl
          go_simp
          refine hK _ ?_; clear hK K
          refine wpQuiet_pure (v := ?_) (by kernel_rfl) ?_ (fun K hK => ?_)
          case refine_2 => intro W _; go_simp; try with_reducible rfl
          go_simp
          refine hK _ ?_; clear hK K
          refine wpQuiet_pure (v := ?_) (by kernel_rfl) ?_ (fun K hK => ?_)
          case refine_2 => intro W hW; have e0 := hW.cell g2; go_simp; try with_reducible rfl
          go_simp
          refine hK _ ?_; clear hK K
          refine wpQuiet_pure (v := ?_) (by kernel_rfl) ?_ (fun K hK => ?_)
          case refine_2 => intro W _; go_simp; try with_reducible rfl
          go_simp
          refine hK _ ?_; clear hK K
          refine wpQuiet_pure (v := ?_) (by kernel_rfl) ?_ (fun K hK => ?_)
          case refine_2 => intro W _; go_simp; try with_reducible rfl
          go_simp
          refine hK _ ?_; clear hK K
          refine wpQuiet_pure (v := ?_) (by kernel_rfl) ?_ (fun K hK => ?_)
          case refine_2 => intro W hW; have e0 := hW.cell g1; go_simp; try with_reducible rfl
          go_simp
          refine hK _ ?_; clear hK K
          refine wpQuiet_call (by kernel_rfl) _ _ _ (fun W => by go_simp) (fun W h => Calls.kept_of h (C1 W h)) (fun K hK => ?_)
          go_simp
          refine hK _ ?_; clear hK K
          refine wpQuiet_pure (v := ?_) (by kernel_rfl) ?_ (fun K hK => ?_)
          case refine_2 => intro W _; go_simp; try with_reducible rfl
          go_simp
          refine hK _ ?_; clear hK K
          refine wpQuiet_pure (v := ?_) (by kernel_rfl) ?_ (fun K hK => ?_)
          case refine_2 => intro W _; go_simp; try with_reducible rfl
          go_simp
          refine hK _ ?_; clear hK K
          refine wpQuiet_pure (v := ?_) (by kernel_rfl) ?_ (fun K hK => ?_)
          case refine_2 => intro W hW; have e0 := hW.cell g5; go_simp; try with_reducible rfl
          go_simp
          refine hK _ ?_; clear hK K
          refine wpQuiet_call (by kernel_rfl) _ _ _ (fun W => by go_simp) (fun W h => Calls.kept_of h (C2 W h)) (fun K hK => ?_)
          go_simp
          refine hK _ ?_; clear hK K
          refine wpQuiet_pure (v := ?_) (by kernel_rfl) ?_ (fun K hK => ?_)
          case refine_2 => intro W _; go_simp; try with_reducible rfl
          go_simp
          refine hK _ ?_; clear hK K
          refine wpQuiet_pure (v := ?_) (by kernel_rfl) ?_ (fun K hK => ?_)
          case refine_2 => intro W hW; have e0 := hW.cell g4; go_simp; try with_reducible rfl
          go_simp
          refine hK _ ?_; clear hK K
          refine wpQuiet_call (by kernel_rfl) _ _ _ (fun W => by go_simp) (fun W h => Calls.kept_of h (C3 W)) (fun K hK => ?_)
          go_simp
          refine hK _ ?_; clear hK K
          refine wpQuiet_pure (v := ?_) (by kernel_rfl) ?_ (fun K hK => ?_)
          case refine_2 => intro W _; go_simp; try with_reducible rfl
          go_simp
          refine hK _ ?_; clear hK K
          refine wpQuiet_pure (v := ?_) (by kernel_rfl) ?_ (fun K hK => ?_)
          case refine_2 => intro W _; go_simp; try with_reducible rfl
          go_simp
          refine hK _ ?_; clear hK K
          refine wpQuiet_pure (v := ?_) (by kernel_rfl) ?_ (fun K hK => ?_)
          case refine_2 => intro W _; go_simp; try with_reducible rfl
          go_simp
          refine hK _ ?_; clear hK K
          refine wpQuiet_nil ?_
          intro w9 hk9

          go_wp2
          go_ret
          exact ⟨by rw [HF.out]; rfl, (show Kept w W0 from HKA.out).then hk9⟩
        · have ht : decide (validL fr se rn ∧ rn.length ≤ 16) = false := decide_eq_false (fun y => hv y.1)
          rw [ht] at C1
          have HF : Hid (res = false) := Lib.hid (HFA.out (fun y => hv (by have := y.runs; simp only at this; rw [hfr]; exact this)))
          clear hd he hse hjo hus hsi hd2 HFA HRV HN HSI HRES hfr hfb hW0 hrow hln hv ht HFB HFR
          go_enter Tryd.func11, Tryd.ntmps11
          go_wp2_with fail
          rw [← HW0.out]
          refine wp_region_kept (by kernel_rfl) (by kernel_rfl) ?_
          refine wpQuiet_pure (v := ?_) (by kernel_rfl) ?_ (fun K hK => ?_)
          case refine_2 => intro W _; go_simp; try with_reducible rfl
          go_simp
          refine hK _ ?_; clear hK K
          refine wpQuiet_pure (v := ?_) (by kernel_rfl) ?_ (fun K hK => ?_)
          case refine_2 => intro W hW; have e0 := hW.cell g5; go_simp; try with_reducible rfl
          go_simp
          refine hK _ ?_; clear hK K
          refine wpQuiet_pure (v := ?_) (by kernel_rfl) ?_ (fun K hK => ?_)
          case refine_2 => intro W _; go_simp; try with_reducible rfl
          go_simp
          refine hK _ ?_; clear hK K
          refine wpQuiet_pure (v := ?_) (by kernel_rfl) ?_ (fun K hK => ?_)
          case refine_2 => intro W hW; have e0 := hW.cell g2; go_simp; try with_reducible rfl
          go_simp
          refine hK _ ?_; clear hK K
          refine wpQuiet_pure (v := ?_) (by kernel_rfl) ?_ (fun K hK => ?_)
          case refine_2 => intro W _; go_simp; try with_reducible rfl
          go_simp
          refine hK _ ?_; clear hK K
          refine wpQuiet_pure (v := ?_) (by kernel_rfl) ?_ (fun K hK => ?_)
          case refine_2 => intro W _; go_simp; try with_reducible rfl
          go_simp
          refine hK _ ?_; clear hK K
          refine wpQuiet_pure (v := ?_) (by kernel_rfl) ?_ (fun K hK => ?_)
          case refine_2 => intro W hW; have e0 := hW.cell g1; go_simp; try with_reducible rfl
          go_simp
          refine hK _ ?_; clear hK K
          refine wpQuiet_call (by kernel_rfl) _ _ _ (fun W => by go_simp) (fun W h => Calls.kept_of h (C1 W h)) (fun K hK => ?_)
          go_simp
          refine hK _ ?_; clear hK K
          refine wpQuiet_pure (v := ?_) (by kernel_rfl) ?_ (fun K hK => ?_)
          case refine_2 => intro W _; go_simp; try with_reducible rfl
          go_simp
          refine hK _ ?_; clear hK K
          go_big_quiet_skip
          go_big_quiet_skip
          go_big_quiet_skip
          go_big_quiet_skip
          go_big_quiet_skip
          go_big_quiet_skip
          go_big_quiet_skip
          refine wpQuiet_pure (v := ?_) (by kernel_rfl) ?_ (fun K hK => ?_)
          case refine_2 => intro W _; go_simp; try with_reducible rfl
          go_simp
          refine hK _ ?_; clear hK K
          refine wpQuiet_pure (v := ?_) (by kernel_rfl) ?_ (fun K hK => ?_)
          case refine_2 => intro W _; go_simp; try with_reducible rfl
          go_simp
          refine hK _ ?_; clear hK K
          refine wpQuiet_nil ?_
          intro w9 hk9

          go_wp2
          go_ret
          exact ⟨by rw [HF.out]; rfl, (show Kept w W0 from HKA.out).then hk9⟩


end Go.Proofs.YtlfmmhalheohdaaDoor
namespace Go.Proofs.YtlfmmhalheohdaaDoor
open Go.RowKit

set_option maxRecDepth 100000 in
set_option maxHeartbeats 4000000 in
theorem rsame11_any (s o : Sb) (u v : Value) (w : World) (h : SbAt s u w) (k : SbAt o v w) (hl : s.runs.length ≤ 1048576) :
    Calls Tryd.prog 14 #[u, v] w fun e w' => e = .returned (.bool (decide (s = o))) ∧ Below w.heap.size w w' := by
  obtain ⟨tu, rfl, hr, -⟩ := h
  obtain ⟨tv, rfl, kr, -⟩ := k
  obtain ⟨q, se, jo, us, si, rn⟩ := s
  obtain ⟨q', se', jo', us', si', rn'⟩ := o
  simp only at hr kr hl
  obtain ⟨p, c, htu, -, -⟩ := hr.out
  obtain ⟨p', c', htv, -, -⟩ := kr.out
  subst htu htv
  have HR := Lib.hid hr
  have KR := Lib.hid kr
  obtain ⟨res, hres⟩ : ∃ res, res = decide ((⟨q, se, jo, us, si, rn⟩ : Sb) = ⟨q', se', jo', us', si', rn'⟩) := ⟨_, rfl⟩
  have HRES := Lib.hid hres
  rw [← hres]
  have HFA : Hid (¬ (q = q' ∧ se = se' ∧ jo = jo' ∧ us = us' ∧ si = si' ∧ rn = rn') → res = false) := Lib.hid (fun x => by rw [hres]; exact decide_eq_false (fun y => x ((Sb.ext_iff' _ _).1 y)))
  have HTR : Hid (q = q' → se = se' → jo = jo' → us = us' → si = si' → res = decide (rn = rn')) := Lib.hid (fun h0 h1 h2 h3 h4 => by
    rw [hres]; refine decide_eq_decide.2 ⟨fun y => ((Sb.ext_iff' _ _).1 y).2.2.2.2.2, fun y => (Sb.ext_iff' _ _).2 ⟨h0, h1, h2, h3, h4, y⟩⟩)
  clear hres
  unfold sbV sbC
  simp only
  obtain ⟨n, hn⟩ : ∃ n, n = rn.length := ⟨_, rfl⟩
  obtain ⟨n', hn'⟩ : ∃ n', n' = rn'.length := ⟨_, rfl⟩
  rw [← hn] at HR ⊢
  rw [← hn'] at KR ⊢
  have HN := Lib.hid hn
  clear hr kr hn hn'
  have HKA : ∀ A B : Array Value, Hid (Kept w ((w.alloc (.cells A 25)).alloc (.cells B 25))) := fun A B => Lib.hid ((show Kept w _ from box_below w _).then (box_below _ _))
  by_cases c0 : q = q'
  case neg =>
    have b0 : ((q : Int) == (q' : Int)) = false := by rw [beq_eq_false_iff_ne]; omega
    have HF : Hid (res = false) := Lib.hid (HFA.out (fun y => c0 y.1))
    clear c0 HFA HTR HR KR HN HRES hl
    go_enter Tryd.func14, Tryd.ntmps14
    go_wp2
    go_ret
    exact ⟨by rw [HF.out]; rfl, (HKA _ _).out⟩
  obtain rfl := c0
  by_cases c1 : se = se'
  case neg =>
    have b1 : ((se : Int) == (se' : Int)) = false := by rw [beq_eq_false_iff_ne]; omega
    have HF : Hid (res = false) := Lib.hid (HFA.out (fun y => c1 y.2.1))
    clear c1 HFA HTR HR KR HN HRES hl
    go_enter Tryd.func14, Tryd.ntmps14
    go_wp2
    go_ret
    exact ⟨by rw [HF.out]; rfl, (HKA _ _).out⟩
  obtain rfl := c1
  by_cases c2 : jo = jo'
  case neg =>
    have b2 : ((jo : Int) == (jo' : Int)) = false := by rw [beq_eq_false_iff_ne]; omega
    have HF : Hid (res = false) := Lib.hid (HFA.out (fun y => c2 y.2.2.1))
    clear c2 HFA HTR HR KR HN HRES hl
    go_enter Tryd.func14, Tryd.ntmps14
    go_wp2
    go_ret
    exact ⟨by rw [HF.out]; rfl, (HKA _ _).out⟩
  obtain rfl := c2
  by_cases c3 : us = us'
  case neg =>
    have b3 : ((us : Int) == (us' : Int)) = false := by rw [beq_eq_false_iff_ne]; omega
    have HF : Hid (res = false) := Lib.hid (HFA.out (fun y => c3 y.2.2.2.1))
    clear c3 HFA HTR HR KR HN HRES hl
    go_enter Tryd.func14, Tryd.ntmps14
    go_wp2
    go_ret
    exact ⟨by rw [HF.out]; rfl, (HKA _ _).out⟩
  obtain rfl := c3
  by_cases c4 : si = si'
  case neg =>
    have b4 : ((si : Int) == (si' : Int)) = false := by rw [beq_eq_false_iff_ne]; omega
    have HF : Hid (res = false) := Lib.hid (HFA.out (fun y => c4 y.2.2.2.2.1))
    clear c4 HFA HTR HR KR HN HRES hl
    go_enter Tryd.func14, Tryd.ntmps14
    go_wp2
    go_ret
    exact ⟨by rw [HF.out]; rfl, (HKA _ _).out⟩
  obtain rfl := c4
  have CS := fun W (k : Kept w W) => rsameRuns_any rn rn' _ _ W (HR.out.later k) (KR.out.later k) hl
  have HF := Lib.hid (HTR.out rfl rfl rfl rfl rfl)
  clear HFA HTR HR KR HN HRES hl
  go_enter Tryd.func14, Tryd.ntmps14
  go_wp2_with (go_at_call 34; refine (CS _ (HKA _ _).out).mono ?_; rintro e w9 ⟨rfl, hb9⟩)
  go_ret
  exact ⟨by rw [HF.out]; rfl, (show Kept w _ from (HKA _ _).out).then hb9⟩

end Go.Proofs.YtlfmmhalheohdaaDoor
