/- The landed extent's Count, Has. -/
import Derived.Test.YtkdodffnakdckaaEcJ
namespace Go.Proofs.Ytkdodffnakdckaa
open Go.RowKit

theorem crop_in (r : Int × Int) (a : Int) : decide ((cropI r).1 ≤ a ∧ a < (cropI r).1 + (cropI r).2) = (decide (0 ≤ a ∧ a < 8192) && inR r a.toNat) := by
  have hb := crop_bound r
  by_cases h : 0 ≤ a ∧ a < 8192
  · rw [decide_eq_true h, Bool.true_and, ← crop_has r a.toNat (by omega)]
    unfold inR
    refine decide_eq_decide.2 ?_
    rw [Int.toNat_of_nonneg h.1]
  · rw [decide_eq_false h, Bool.false_and]
    exact decide_eq_false (by omega)
theorem hasSec_any (l : List (Int × Int)) (a : Int) : hasSec l a = l.any fun r => decide ((cropI r).1 ≤ a ∧ a < (cropI r).1 + (cropI r).2) := by
  unfold hasSec hasR
  simp only [crop_in]
  cases h : decide (0 ≤ a ∧ a < 8192) with
  | false => simp
  | true => simp

set_option maxRecDepth 100000 in
set_option maxHeartbeats 4000000 in
theorem has1_any (a n s : Int) (ha : I64 a) (hn : I64 n) (bx : Nat) (W : World) (hs : W.cell? ⟨bx, 0, none⟩ = some (.int .i64 s)) :
    Calls Try.prog 45 #[.agg #[.int .i64 a, .int .i64 n], .pointer (some ⟨bx, 0, none⟩)] W fun e w' => e = .returned (.bool (decide ((cropI (a, n)).1 ≤ s ∧ s < (cropI (a, n)).1 + (cropI (a, n)).2))) ∧ Below W.heap.size W w' := by
  have CR := fun W => cropped_any a n ha hn W
  have hb := crop_bound (a, n)
  obtain ⟨c1, hc1⟩ : ∃ c1, c1 = (cropI (a, n)).1 := ⟨_, rfl⟩
  obtain ⟨c2, hc2⟩ : ∃ c2, c2 = (cropI (a, n)).2 := ⟨_, rfl⟩
  rw [← hc1, ← hc2] at CR hb ⊢
  have hb1 := hb.1
  have hb2 := hb.2.1
  have hb3 := hb.2.2
  obtain ⟨z, hz⟩ : ∃ z, z = c1 + c2 := ⟨_, rfl⟩
  have EN := fun W => eend_any c1 c2 ⟨by omega, by omega⟩ W
  rw [← hz] at EN ⊢
  clear hc1 hc2 hb ha hn hz
  by_cases h1 : c1 ≤ s
  · have b1 : decide (c1 ≤ s) = true := decide_eq_true h1
    obtain ⟨r, hr⟩ : ∃ r, r = decide (s < z) := ⟨_, rfl⟩
    have hre : decide (c1 ≤ s ∧ s < z) = r := by rw [hr]; exact decide_eq_decide.2 ⟨fun h => h.2, fun h => ⟨h1, h⟩⟩
    rw [hre]
    have br := hr.symm
    clear hr hre
    go_enter Try.func45, Try.ntmps45
    go_wp2_with fail
    refine (CR _).mono ?_
    rintro e w1 ⟨rfl, hb1⟩
    have K1 : Kept W w1 := (show Kept W _ from box_below W _).then hb1
    have s1 := K1.cell hs
    have K2 : Kept W (w1.alloc (.cells #[.int .i64 c1, .int .i64 c2] 57)) := K1.then (box_below w1 _)
    have s2 := (show Kept w1 _ from box_below w1 (.cells #[.int .i64 c1, .int .i64 c2] 57)).cell s1
    have r2 := heap_alloc_last w1 (.cells #[.int .i64 c1, .int .i64 c2] 57)
    have q1 : (w1.alloc (.cells #[.int .i64 c1, .int .i64 c2] 57)).cell? ⟨w1.heap.size, 0, none⟩ = some (.int .i64 c1) := by rw [cell_of_row _ _ _ _ _ _ r2]; rfl
    have q2 : (w1.alloc (.cells #[.int .i64 c1, .int .i64 c2] 57)).cell? ⟨w1.heap.size, 1, none⟩ = some (.int .i64 c2) := by rw [cell_of_row _ _ _ _ _ _ r2]; rfl
    have HK2 := Lib.hid K2
    clear CR hb1 K1 s1 hs r2 K2
    go_wp2_with fail
    refine wp_region_kept (by kernel_rfl) (by kernel_rfl) ?_
    refine wpQuiet_pure (v := ?_) (by kernel_rfl) ?_ (fun K hK => ?_)
    case refine_2 => intro W _; go_simp; try with_reducible rfl
    go_simp
    refine hK _ ?_; clear hK K
    refine wpQuiet_pure (v := ?_) (by kernel_rfl) ?_ (fun K hK => ?_)
    case refine_2 => intro W hW; have e0 := hW.cell q1; go_simp; try with_reducible rfl
    go_simp
    refine hK _ ?_; clear hK K
    refine wpQuiet_pure (v := ?_) (by kernel_rfl) ?_ (fun K hK => ?_)
    case refine_2 => intro W hW; have e0 := hW.cell s2; go_simp; try with_reducible rfl
    go_simp
    refine hK _ ?_; clear hK K
    refine wpQuiet_pure (by kernel_rfl) (.bool true) (fun W _ => by go_simp) (fun K hK => ?_)
    go_simp
    refine hK _ ?_; clear hK K
    refine wpQuiet_pure (v := ?_) (by kernel_rfl) ?_ (fun K hK => ?_)
    case refine_2 => intro W _; go_simp; try with_reducible rfl
    go_simp
    refine hK _ ?_; clear hK K
    refine wpQuiet_pure (v := ?_) (by kernel_rfl) ?_ (fun K hK => ?_)
    case refine_2 => intro W hW; have e0 := hW.cell s2; go_simp; try with_reducible rfl
    go_simp
    refine hK _ ?_; clear hK K
    refine wpQuiet_pure (v := ?_) (by kernel_rfl) ?_ (fun K hK => ?_)
    case refine_2 => intro W hW; have e0 := hW.cell q1; have e1 := hW.cell q2; go_simp; try with_reducible rfl
    go_simp
    refine hK _ ?_; clear hK K
    refine wpQuiet_call (by kernel_rfl) _ _ _ (fun W => by go_simp) (fun W h => Calls.kept_of h (EN W)) (fun K hK => ?_)
    go_simp
    refine hK _ ?_; clear hK K
    refine wpQuiet_pure (by kernel_rfl) (.bool r) (fun W _ => by go_simp) (fun K hK => ?_)
    go_simp
    refine hK _ ?_; clear hK K
    refine wpQuiet_pure (v := ?_) (by kernel_rfl) ?_ (fun K hK => ?_)
    case refine_2 => intro W _; go_simp; try with_reducible rfl
    go_simp
    refine hK _ ?_; clear hK K
    refine wpQuiet_pure (v := ?_) (by kernel_rfl) ?_ (fun K hK => ?_)
    case refine_2 => intro W _; go_simp; try with_reducible rfl
    go_simp
    refine hK _ ?_; clear hK K
    refine wpQuiet_nil ?_
    intro w3 hk3

    go_wp2
    go_ret
    exact ⟨rfl, HK2.out.then hk3⟩
  · have b1 : decide (c1 ≤ s) = false := decide_eq_false h1
    rw [decide_eq_false (fun h => h1 h.1)]
    go_enter Try.func45, Try.ntmps45
    go_wp2_with fail
    refine (CR _).mono ?_
    rintro e w1 ⟨rfl, hb1⟩
    have K1 : Kept W w1 := (show Kept W _ from box_below W _).then hb1
    have s1 := K1.cell hs
    have K2 : Kept W (w1.alloc (.cells #[.int .i64 c1, .int .i64 c2] 57)) := K1.then (box_below w1 _)
    have s2 := (show Kept w1 _ from box_below w1 (.cells #[.int .i64 c1, .int .i64 c2] 57)).cell s1
    have r2 := heap_alloc_last w1 (.cells #[.int .i64 c1, .int .i64 c2] 57)
    have q1 : (w1.alloc (.cells #[.int .i64 c1, .int .i64 c2] 57)).cell? ⟨w1.heap.size, 0, none⟩ = some (.int .i64 c1) := by rw [cell_of_row _ _ _ _ _ _ r2]; rfl
    have q2 : (w1.alloc (.cells #[.int .i64 c1, .int .i64 c2] 57)).cell? ⟨w1.heap.size, 1, none⟩ = some (.int .i64 c2) := by rw [cell_of_row _ _ _ _ _ _ r2]; rfl
    have HK2 := Lib.hid K2
    clear CR hb1 K1 s1 hs r2 K2
    go_wp2_with fail
    refine wp_region_kept (by kernel_rfl) (by kernel_rfl) ?_
    refine wpQuiet_pure (v := ?_) (by kernel_rfl) ?_ (fun K hK => ?_)
    case refine_2 => intro W _; go_simp; try with_reducible rfl
    go_simp
    refine hK _ ?_; clear hK K
    refine wpQuiet_pure (v := ?_) (by kernel_rfl) ?_ (fun K hK => ?_)
    case refine_2 => intro W hW; have e0 := hW.cell q1; go_simp; try with_reducible rfl
    go_simp
    refine hK _ ?_; clear hK K
    refine wpQuiet_pure (v := ?_) (by kernel_rfl) ?_ (fun K hK => ?_)
    case refine_2 => intro W hW; have e0 := hW.cell s2; go_simp; try with_reducible rfl
    go_simp
    refine hK _ ?_; clear hK K
    refine wpQuiet_pure (by kernel_rfl) (.bool false) (fun W _ => by go_simp) (fun K hK => ?_)
    go_simp
    refine hK _ ?_; clear hK K
    refine wpQuiet_pure (v := ?_) (by kernel_rfl) ?_ (fun K hK => ?_)
    case refine_2 => intro W _; go_simp; try with_reducible rfl
    go_simp
    refine hK _ ?_; clear hK K
    go_big_quiet_skip
    go_big_quiet_skip
    go_big_quiet_skip
    go_big_quiet_skip
    refine wpQuiet_pure (v := ?_) (by kernel_rfl) ?_ (fun K hK => ?_)
    case refine_2 => intro W _; go_simp; try with_reducible rfl
    go_simp
    refine hK _ ?_; clear hK K
    refine wpQuiet_pure (v := ?_) (by kernel_rfl) ?_ (fun K hK => ?_)
    case refine_2 => intro W _; go_simp; try with_reducible rfl
    go_simp
    refine hK _ ?_; clear hK K
    refine wpQuiet_nil ?_
    intro w3 hk3

    go_wp2
    go_ret
    exact ⟨rfl, HK2.out.then hk3⟩

def IdxP (l : List (Int × Int)) (q : Int × Int → Bool) (w : World) (e : Ending) (w' : World) : Prop :=
  ∃ i : Int, e = .returned (.int .i64 i) ∧ decide (i ≥ 0) = l.any q ∧ Below w.heap.size w w'

set_option maxRecDepth 100000 in
set_option maxHeartbeats 4000000 in
theorem ridx_any (q : Int × Int → Bool) (bx : Nat) (p : Option Addr) (c n : Nat) (l : List (Int × Int)) (hn : n = l.length) (hs : n ≤ 1048576) (w : World) (h : RunsAt l (.slice p n c) w)
    (hd : ∀ W, Kept w W → ∀ r ∈ l, Calls Try.prog 45 #[.agg #[.int .i64 r.1, .int .i64 r.2], .pointer (some ⟨bx, 0, none⟩)] W fun e w' => e = .returned (.bool (q r)) ∧ Below W.heap.size W w') :
    Calls Try.prog 56 #[.slice p n c, .func (.func 45) #[] #[.pointer (some ⟨bx, 0, none⟩)]] w (IdxP l q w) := by
  have hout := h.out
  rw [hn] at hout
  obtain ⟨p', c', he, hcap, hc⟩ := hout
  simp only [Value.slice.injEq] at he
  obtain ⟨rfl, -, rfl⟩ := he
  have HC := Lib.hid hc
  have HN := Lib.hid hn
  have HD := Lib.hid hd
  clear hn h hd hc hcap
  go_enter Try.func56, Try.ntmps56
  go_wp2
  go_loopg [8] n (fun gh s8 wx => ∃ k : Nat, k + gh = n ∧ s8 = .int .i64 k ∧ Hid (∀ r ∈ l.take k, q r = false) ∧ Hid (Kept w wx))
  case atStart => exact ⟨0, by omega, rfl, Lib.hid (fun r hr => by simp at hr), Lib.hid (Kept.refl w)⟩
  case round =>
    obtain ⟨k, hk, rfl, HQ, HK⟩ := hrel
    obtain ⟨k1, hk1⟩ : ∃ k1, k1 = k + 1 := ⟨_, rfl⟩
    have v1 : IntKind.i64.wrap ((k : Int) + 1) = (k1 : Int) := by rw [show (k : Int) + 1 = (k1 : Int) by omega]; exact IntWalk.i64_in _ (by omega)
    by_cases hlt : k < n
    · have hki : (k : Int) < n := by omega
      have bk : decide ((k : Int) < (n : Int)) = true := by simpa using hki
      have hki0 : (0 : Int) ≤ k := by omega
      have hkl : k < l.length := by rw [← HN.out]; exact hlt
      rcases HC.out with h0 | ⟨b, off, rfl, hcell⟩
      · omega
      have d1 := HK.out.cell (hcell k hkl).1
      have d2 := HK.out.cell (hcell k hkl).2
      have CL := HD.out wr HK.out l[k] (List.getElem_mem hkl)
      have HNX : Hid (q l[k] = false → ∀ r ∈ l.take k1, q r = false) := Lib.hid (fun h0 r hr => by
        rw [hk1, List.take_succ_eq_append_getElem hkl] at hr
        rcases List.mem_append.1 hr with h | h
        · exact HQ.out r h
        · rw [List.mem_singleton.1 h]; exact h0)
      have HFD : Hid (q l[k] = true → l.any q = true) := Lib.hid (fun h0 => List.any_eq_true.2 ⟨_, List.getElem_mem hkl, h0⟩)
      obtain ⟨t, ht⟩ : ∃ t, t = q l[k] := ⟨_, rfl⟩
      obtain ⟨r, hr⟩ : ∃ r, r = l[k] := ⟨_, rfl⟩
      rw [← ht] at CL HNX HFD
      rw [← hr] at CL d1 d2
      obtain ⟨x, y⟩ := r
      simp only at CL d1 d2
      clear ht hr hkl hcell
      cases t with
      | false =>
        have HN2 := Lib.hid (HNX.out rfl)
        clear HNX HFD
        go_wp2_with fail
        refine CL.mono ?_
        rintro e w2 ⟨rfl, hb⟩
        have HK2 := Lib.hid (HK.out.then hb)
        clear CL hb d1 d2
        go_wp2
        go_roundg (n - k1)
        case measure => omega
        case rel => exact ⟨k1, by omega, by first | rfl | (congr 1; omega), HN2, HK2⟩
      | true =>
        have HT := Lib.hid (HFD.out rfl)
        clear HNX HFD
        go_wp2_with fail
        refine CL.mono ?_
        rintro e w2 ⟨rfl, hb⟩
        have HK2 := Lib.hid (HK.out.then hb)
        clear CL hb d1 d2
        go_wp2
        go_ret
        exact ⟨_, rfl, by rw [HT.out]; exact decide_eq_true (by omega), HK2.out⟩
    · have hki : ¬ (k : Int) < n := by omega
      have bk : decide ((k : Int) < (n : Int)) = false := by simpa using hki
      have HA : Hid (l.any q = false) := Lib.hid (by
        rw [List.any_eq_false]
        intro r hr
        rw [HQ.out r (by rw [List.take_of_length_le (by rw [← HN.out]; omega)]; exact hr)]
        decide)
      go_wp2
      go_ret
      exact ⟨_, rfl, by rw [HA.out]; rfl, HK.out⟩

set_option maxRecDepth 100000 in
set_option maxHeartbeats 1000000 in
theorem rcontains_any (q : Int × Int → Bool) (bx : Nat) (p : Option Addr) (c n : Nat) (l : List (Int × Int)) (hn : n = l.length) (hs : n ≤ 1048576) (w : World) (h : RunsAt l (.slice p n c) w)
    (hd : ∀ W, Kept w W → ∀ r ∈ l, Calls Try.prog 45 #[.agg #[.int .i64 r.1, .int .i64 r.2], .pointer (some ⟨bx, 0, none⟩)] W fun e w' => e = .returned (.bool (q r)) ∧ Below W.heap.size W w') :
    Calls Try.prog 44 #[.slice p n c, .func (.func 45) #[] #[.pointer (some ⟨bx, 0, none⟩)]] w fun e w' => e = .returned (.bool (l.any q)) ∧ Below w.heap.size w w' := by
  have IX := ridx_any q bx p c n l hn hs w h hd
  obtain ⟨t, ht⟩ : ∃ t, t = l.any q := ⟨_, rfl⟩
  rw [← ht]
  have HT := Lib.hid ht
  clear hn hs h hd ht
  go_enter Try.func44, Try.ntmps44
  go_wp2_with fail
  refine IX.mono ?_
  rintro e w1 ⟨i, rfl, hi, hb⟩
  rw [← HT.out] at hi
  have HB := Lib.hid hb
  clear IX hb HT
  go_wp2
  go_ret
  exact ⟨rfl, HB.out⟩

set_option maxRecDepth 100000 in
set_option maxHeartbeats 1000000 in
theorem ehas_any (l : List (Int × Int)) (v : Value) (w : World) (a : Int) (h : RunsAt l v w) (hl : l.length ≤ 1048576) :
    Calls Try.prog 15 #[v, .int .i64 a] w fun e w' => e = .returned (.bool (hasSec l a)) ∧ Below w.heap.size w w' := by
  obtain ⟨p, c, hv, -, -⟩ := h.out
  obtain ⟨n, hn⟩ : ∃ n, n = l.length := ⟨_, rfl⟩
  rw [← hn] at hv
  subst hv
  have K1 := box_below w (.cells #[.int .i64 a] 3)
  have hr := heap_alloc_last w (.cells #[.int .i64 a] 3)
  have hc : (w.alloc (.cells #[.int .i64 a] 3)).cell? ⟨w.heap.size, 0, none⟩ = some (.int .i64 a) := by rw [cell_of_row _ _ _ _ _ _ hr]; rfl
  have CF := rcontains_any (fun r => decide ((cropI r).1 ≤ a ∧ a < (cropI r).1 + (cropI r).2)) w.heap.size p c n l hn (by omega) _ (h.later K1) (fun W k r hr => has1_any r.1 r.2 a (h.wf r hr).1 (h.wf r hr).2 w.heap.size W (k.cell hc))
  rw [← hasSec_any] at CF
  obtain ⟨t, ht⟩ : ∃ t, t = hasSec l a := ⟨_, rfl⟩
  rw [← ht] at CF ⊢
  have HK1 := Lib.hid K1
  clear h hn hl K1 hr hc ht
  go_enter Try.func15, Try.ntmps15
  go_wp2_with fail
  refine CF.mono ?_
  rintro e w1 ⟨rfl, hb⟩
  have HK2 : Hid (Kept w w1) := Lib.hid ((show Kept w _ from HK1.out).then hb)
  clear CF hb
  go_wp2
  go_ret
  exact ⟨rfl, HK2.out⟩

set_option maxRecDepth 100000 in
set_option maxHeartbeats 4000000 in
theorem ecount_any (l : List (Int × Int)) (v : Value) (w : World) (h : RunsAt l v w) (hl : l.length ≤ 1048576) :
    Calls Try.prog 13 #[v] w fun e w' => e = .returned (.int .i64 (cntA (hasR l) : Nat)) ∧ Below w.heap.size w w' := by
  have PL := eplain_any l v w h hl
  obtain ⟨p, c, rfl, -, -⟩ := h.out
  have HPP : Hid (PlainL (runsA (hasR l))) := Lib.hid (runsA_plain _)
  have HCN : Hid (((cntA (hasR l) : Nat) : Int) = sumR (runsA (hasR l))) := Lib.hid (by rw [← (runsA_plain (hasR l)).count, cntA_again])
  have hlen := runsA_len (hasR l)
  obtain ⟨P, hP⟩ : ∃ P, P = runsA (hasR l) := ⟨_, rfl⟩
  rw [← hP] at PL HPP HCN hlen
  obtain ⟨nl, hnl⟩ : ∃ nl, nl = l.length := ⟨_, rfl⟩
  rw [← hnl] at PL ⊢
  obtain ⟨ct, hct⟩ : ∃ ct, ct = cntA (hasR l) := ⟨_, rfl⟩
  rw [← hct] at HCN ⊢
  clear h hl hP hnl hct
  go_enter Try.func13, Try.ntmps13
  go_wp2_with fail
  refine PL.mono ?_
  rintro e w1 ⟨u, rfl, ho, hb1⟩
  obtain ⟨pu, cu, rfl, hcu, hcell⟩ := own_slice ho
  obtain ⟨n, hn⟩ : ∃ n, n = P.length := ⟨_, rfl⟩
  rw [← hn] at hcu hlen ⊢
  have HC := Lib.hid hcell
  have HN := Lib.hid hn
  have HB1 := Lib.hid hb1
  clear PL ho hcell hn hb1
  go_wp2
  go_loopg [3, 9] n (fun gh s3 s9 wx => ∃ (i : Nat), i + gh = n ∧ s9 = .int .i64 i ∧ s3 = .int .i64 (sumR (P.take i)) ∧ Hid (Kept w1 wx))
  case atStart => exact ⟨0, by omega, rfl, rfl, Lib.hid (Kept.refl w1)⟩
  case round =>
    obtain ⟨i, hi, rfl, rfl, HK⟩ := hrel
    obtain ⟨i1, hi1⟩ : ∃ i1, i1 = i + 1 := ⟨_, rfl⟩
    have v1 : IntKind.i64.wrap ((i : Int) + 1) = (i1 : Int) := by rw [show (i : Int) + 1 = (i1 : Int) by omega]; exact IntWalk.i64_in _ (by omega)
    by_cases hin : i < n
    · have hki : (i : Int) < n := by omega
      have bk : decide ((i : Int) < (n : Int)) = true := by simpa using hki
      have hki0 : (0 : Int) ≤ i := by omega
      have hil : i < P.length := by rw [← HN.out]; exact hin
      rcases HC.out with h0 | ⟨g, rfl, hgb, hcell⟩
      · omega
      have hgc := runC_get P i hil
      have d1 := HK.out.cell (hcell _ _ hgc.1)
      have d2 := HK.out.cell (hcell _ _ hgc.2)
      have hst := sumR_take P i hil
      have hb1 := (HPP.out.take i).sum_le
      have hb2 := (HPP.out.take (i + 1)).sum_le
      obtain ⟨r, hr⟩ : ∃ r, r = P[i] := ⟨_, rfl⟩
      rw [← hr] at d1 d2 hst
      obtain ⟨x, y⟩ := r
      rw [← hi1] at hst hb2
      simp only at hst d1 d2
      obtain ⟨s0, hs0⟩ : ∃ s0, s0 = sumR (P.take i) := ⟨_, rfl⟩
      obtain ⟨s1, hs1⟩ : ∃ s1, s1 = sumR (P.take i1) := ⟨_, rfl⟩
      rw [← hs0] at hst hb1 ⊢
      rw [← hs1] at hst hb2
      have HS1 := Lib.hid hs1
      have v2 : IntKind.i64.wrap (s0 + y) = s1 := by rw [← hst]; exact IntWalk.i64_in _ (by omega)
      have HK2 : Hid (Kept w1 (wr.alloc (.cells #[.int .i64 x, .int .i64 y] 57))) := Lib.hid (HK.out.then (box_below wr _))
      clear hgc hr hcell hgb hst hb1 hb2 hs0 hs1 hil
      go_wp2
      go_roundg (n - i1)
      case measure => omega
      case rel => exact ⟨i1, by omega, by first | rfl | (congr 1; omega), by rw [HS1.out], HK2⟩
    · have hki : ¬ (i : Int) < n := by omega
      have bk : decide ((i : Int) < (n : Int)) = false := by simpa using hki
      have HE : Hid (sumR (P.take i) = (ct : Nat)) := Lib.hid (by rw [HCN.out, List.take_of_length_le (by rw [← HN.out]; omega)])
      have HKE : Hid (Kept w wr) := Lib.hid ((show Kept w w1 from HB1.out).then HK.out)
      obtain ⟨s0, hs0⟩ : ∃ s0, s0 = sumR (P.take i) := ⟨_, rfl⟩
      rw [← hs0] at HE ⊢
      clear hs0
      go_wp2
      go_ret
      exact ⟨by rw [HE.out]; rfl, HKE.out⟩

end Go.Proofs.Ytkdodffnakdckaa
