/- The document's Fit, List. -/
import Derived.Test.YtppbknlhknadbaaGA
import Derived.Test.YtppbknlhknadbaaGB
import Derived.Test.YtppbknlhknadbaaExL
import Derived.Deep.LoopGhost
import Derived.Deep.CutBlock
namespace Go.Proofs.Ytppbknlhknadbaa
open Go.RowKit

set_option maxRecDepth 100000 in
set_option maxHeartbeats 4000000 in
theorem rfit12_any (l : List (Int × Int)) (v : Value) (w : World) (h : RunsAt l v w) (hl : l.length ≤ 65536) (n size : Int) (hn : I64 n) (hs : I64 size) :
    Calls Try.prog 11 #[v, .int .i64 n, .int .i64 size] w fun e w' => e = .returned (.bool (decide (fitB l n size))) ∧ Below w.heap.size w w' := by
  obtain ⟨res, hres⟩ : ∃ x, x = decide (fitB l n size) := ⟨_, rfl⟩
  rw [← hres]
  obtain ⟨m, hm⟩ : ∃ m, m = min n 8192 := ⟨_, rfl⟩
  have hmb : I64 m := by unfold I64 at *; omega
  have CM := rmay_any l v w h (by omega) 0 m (by omega) hmb
  have CC := fun W (k : Kept w W) => rcount_any l v W (h.later k) (by omega)
  have CN := fun W => rneed_kept size hs W
  have HRES : Hid (res = decide (fitB l n size)) := Lib.hid hres
  have HM := Lib.hid hm
  have hmm : ((8192 : Int) < n ∧ m = 8192) ∨ (¬ (8192 : Int) < n ∧ m = n) := by omega
  obtain ⟨p, c, rfl, -, -⟩ := h.out
  obtain ⟨k, hk⟩ : ∃ k, k = l.length := ⟨_, rfl⟩
  have HK := Lib.hid hk
  rw [← hk] at CM CC ⊢
  clear hres hm hmb h hn hs hk
  by_cases z1 : size < 0
  · have HF : Hid (res = false) := Lib.hid (by rw [HRES.out]; exact decide_eq_false (fun y => by have := y.1; omega))
    clear CM CC CN hmm
    go_enter Try.func11, Try.ntmps11
    go_wp2
    go_ret
    exact ⟨by rw [HF.out]; rfl, Below.refl _ _⟩
  · by_cases z2 : (k : Int) > 16
    · have HF : Hid (res = false) := Lib.hid (by rw [HRES.out]; exact decide_eq_false (fun y => by have := y.2.1; have := HK.out; omega))
      clear CM CC CN hmm
      go_enter Try.func11, Try.ntmps11
      go_wp2
      go_ret
      exact ⟨by rw [HF.out]; rfl, Below.refl _ _⟩
    · obtain ⟨b, hb⟩ : ∃ b, b = decide (validL 0 m l) := ⟨_, rfl⟩
      rw [← hb] at CM
      have HB := Lib.hid hb
      obtain ⟨cn, hcn⟩ : ∃ cn, cn = cntA (hasR l) := ⟨_, rfl⟩
      obtain ⟨nn, hnn⟩ : ∃ nn, nn = needN size := ⟨_, rfl⟩
      rw [← hcn] at CC
      rw [← hnn] at CN
      have HCN := Lib.hid hcn
      have HNN := Lib.hid hnn
      have HZ : Hid (0 ≤ size ∧ k ≤ 16) := Lib.hid (by omega)
      clear hb hcn hnn
      rcases hmm with ⟨hq, rfl⟩ | ⟨hq, rfl⟩
      all_goals
        cases b with
        | false =>
          have HF : Hid (res = false) := Lib.hid (by rw [HRES.out]; exact decide_eq_false (fun y => by have h2 := y.2.2.1; rw [← HM.out] at h2; exact absurd h2 (of_decide_eq_false HB.out.symm)))
          go_enter Try.func11, Try.ntmps11
          go_wp2_with fail
          refine CM.mono ?_
          rintro e W1 ⟨rfl, hb1⟩
          have K := Lib.hid hb1
          clear CM CC CN hb1
          go_wp2
          go_ret
          exact ⟨by rw [HF.out]; rfl, K.out⟩
        | true =>
          have HF : Hid (res = decide ((cn : Int) = nn)) := Lib.hid (by
            rw [HRES.out]
            refine decide_eq_decide.2 ⟨fun y => by rw [HCN.out, HNN.out]; exact y.2.2.2, fun y => ⟨HZ.out.1, by rw [← HK.out]; exact HZ.out.2, by rw [← HM.out]; exact of_decide_eq_true HB.out.symm, by rw [← HCN.out, ← HNN.out]; exact y⟩⟩)
          go_enter Try.func11, Try.ntmps11
          go_wp2_with fail
          refine CM.mono ?_
          rintro e W1 ⟨rfl, hb1⟩
          have K := Lib.hid hb1
          have C2 := CC W1 hb1
          clear CM CC hb1
          go_wp2_with fail
          refine C2.mono ?_
          rintro e W2 ⟨rfl, hb2⟩
          replace K := Lib.hid ((show Kept w W1 from K.out).then hb2)
          clear C2 hb2
          go_wp2_with fail
          refine (CN W2).mono ?_
          rintro e W3 ⟨rfl, hb3⟩
          replace K := Lib.hid ((show Kept w W2 from K.out).then hb3)
          clear CN hb3
          by_cases hqq : (cn : Int) = nn
          · have hb : ((cn : Int) == nn) = true := by simpa using hqq
            have HF2 : Hid (res = true) := Lib.hid (by rw [HF.out]; exact decide_eq_true hqq)
            clear hqq
            go_wp2
            go_ret
            exact ⟨by rw [HF2.out]; rfl, K.out⟩
          · have hb : ((cn : Int) == nn) = false := by simpa using hqq
            have HF2 : Hid (res = false) := Lib.hid (by rw [HF.out]; exact decide_eq_false hqq)
            clear hqq
            go_wp2
            go_ret
            exact ⟨by rw [HF2.out]; rfl, K.out⟩

/-! ### List -/
def intC (l : List Nat) : List Value := l.map fun (k : Nat) => Value.int .i64 (k : Int)
theorem intC_append (a b : List Nat) : intC (a ++ b) = intC a ++ intC b := List.map_append
theorem intC_get (l : List Nat) (k : Nat) (h : k < l.length) : (intC l)[k]? = some (.int .i64 (l[k] : Int)) := by simp [intC, h]
theorem infoIn : (Try.prog.info? 3).map (fun i => (i.zero, i.size, i.bytes)) = some (some (.int .i64 0), 1, 8) := by kernel_rfl
theorem secR_take (r : Int × Int) (k : Nat) (h : k < r.2.toNat) : (secR r).take (k + 1) = (secR r).take k ++ [r.1.toNat + k] := by
  have hl : k < (secR r).length := by rw [secR_len]; exact h
  rw [List.take_succ_eq_append_getElem hl]
  have e : (secR r)[k]'hl = r.1.toNat + k := by simp [secR]
  rw [e]
theorem allR_take (l : List (Int × Int)) (i : Nat) (h : i < l.length) : allR (l.take (i + 1)) = allR (l.take i) ++ secR l[i] := by
  rw [List.take_succ_eq_append_getElem h]
  unfold allR
  rw [List.flatMap_append]
  simp
theorem allR_take_len (l : List (Int × Int)) (i : Nat) : (allR (l.take i)).length ≤ (allR l).length := by
  have h := List.take_append_drop i l
  have e : allR l = allR (l.take i) ++ allR (l.drop i) := by
    conv => lhs; rw [← h]
    unfold allR
    exact List.flatMap_append
  rw [e, List.length_append]; omega
theorem int_flat (w : World) (a : Int) : FlatAt 1 1 [.int .i64 a] (.slice (some ⟨w.heap.size, 0, none⟩) 1 1) (w.alloc (.cells #[.int .i64 a] 3)) :=
  FlatAt.new w 3 1 1 1 #[.int .i64 a] rfl (by intro x hx; simp at hx; subst hx; rfl)

set_option maxRecDepth 100000 in
set_option maxHeartbeats 8000000 in
theorem rlist12_any (l : List (Int × Int)) (v : Value) (w : World) (h : RunsAt l v w) (hl : l.length ≤ 65536) :
    Calls Try.prog 9 #[v] w fun e w' => (∃ x, e = .returned x ∧ w'.ownsRow w.heap.size 3 1 x (secsL l).length (intC (secsL l))) ∧ Below w.heap.size w w' := by
  have CM := rmay_any l v w h (by omega) 0 8192 (by omega) (by omega)
  by_cases hv : validL 0 8192 l
  · have hL : secsL l = allR l := if_pos hv
    rw [decide_eq_true hv] at CM
    have hnn := validL_nonneg hv
    have hcnt := cntA_allR hnn (validL_apart hv)
    have hle := cntA_le (hasR l)
    rw [hcnt] at hle
    have HLE := Lib.hid hle
    have HNN := Lib.hid hnn
    rw [hL]
    obtain ⟨p, c, rfl, -, hc⟩ := h.out
    have HC := Lib.hid hc
    obtain ⟨n, hn⟩ : ∃ n, n = l.length := ⟨_, rfl⟩
    have HN := Lib.hid hn
    obtain ⟨ir, hir, hzz⟩ := Option.map_eq_some_iff.1 infoIn
    simp only [Prod.mk.injEq] at hzz
    obtain ⟨hz0, hz1, hz2⟩ := hzz
    have HIR := Lib.hid hir
    have HZ0 := Lib.hid hz0
    have HZ1 := Lib.hid hz1
    have HZ2 := Lib.hid hz2
    rw [← hn] at hl CM ⊢
    clear h hc hn hL hnn hcnt hle hv hir hz0 hz1 hz2
    go_enter Try.func9, Try.ntmps9
    go_wp2_with fail
    refine CM.mono ?_
    rintro e W1 ⟨rfl, hb1⟩
    have K1 : Hid (Kept w W1) := Lib.hid hb1
    have OW0 : Hid (W1.ownsRow w.heap.size 3 1 (.slice none 0 0) 0 (intC (allR (l.take 0)))) := Lib.hid (World.ownsRow_nil _ _ _ _)
    clear CM hb1
    go_wp2
    go_loopg [3, 4] n (fun gh s3 s4 wx => ∃ (i : Nat) (tk : Value), i + gh = n ∧ tk = s3 ∧ s4 = .int .i64 i ∧ Hid (wx.ownsRow w.heap.size 3 1 tk (allR (l.take i)).length (intC (allR (l.take i)))) ∧ Hid (Kept w wx))
    case atStart => exact ⟨0, _, by omega, rfl, rfl, OW0, K1⟩
    case round =>
      clear OW0 K1
      obtain ⟨i, tk, hi, rfl, rfl, HO, HK⟩ := hrel
      obtain ⟨i1, hi1⟩ : ∃ i1, i1 = i + 1 := ⟨_, rfl⟩
      have v1 : IntKind.i64.wrap ((i : Int) + 1) = (i1 : Int) := by rw [show (i : Int) + 1 = (i1 : Int) by omega]; exact IntWalk.i64_in _ (by omega)
      by_cases hin : i < n
      · have hki : (i : Int) < n := by omega
        have bk : decide ((i : Int) < (n : Int)) = true := by simpa using hki
        have hki0 : (0 : Int) ≤ i := by omega
        have hil : i < l.length := by rw [← HN.out]; exact hin
        rcases HC.out with h0 | ⟨bb, ob, rfl, hcell⟩
        · have := HN.out; omega
        have hci := hcell i hil
        have hnr := HNN.out _ (List.getElem_mem hil)
        have hat := allR_take l i hil
        obtain ⟨r, hr⟩ : ∃ r, r = l[i] := ⟨_, rfl⟩
        rw [← hr] at hci hnr hat
        obtain ⟨a, m⟩ := r
        simp only at hci hnr
        obtain ⟨an, rfl⟩ : ∃ k : Nat, a = k := ⟨a.toNat, by omega⟩
        obtain ⟨mn, rfl⟩ : ∃ k : Nat, m = k := ⟨m.toNat, by omega⟩
        have HCI := Lib.hid hci
        have HNR : Hid (an + mn ≤ 8192) := Lib.hid (by omega)
        have HAT := Lib.hid hat
        have HI1 := Lib.hid hi1
        have OW1 : Hid (wr.ownsRow w.heap.size 3 1 tk (allR (l.take i) ++ (secR ((an : Int), (mn : Int))).take 0).length (intC (allR (l.take i) ++ (secR ((an : Int), (mn : Int))).take 0))) := Lib.hid (by
          rw [List.take_zero, List.append_nil]; exact HO.out)
        clear hr hci hnr hat hcell
        go_wp2
        obtain ⟨wo, hwo⟩ : ∃ wo : World, wo = wr := ⟨_, rfl⟩
        subst hwo
        obtain ⟨go, hgo⟩ : ∃ go : Nat, go = gk := ⟨_, rfl⟩
        subst hgo
        go_loopg [3, 5] mn (fun gh s3 s5 wx => ∃ (k : Nat) (tq : Value), k + gh = mn ∧ tq = s3 ∧ s5 = .int .i64 k ∧ Hid (wx.ownsRow w.heap.size 3 1 tq (allR (l.take i) ++ (secR ((an : Int), (mn : Int))).take k).length (intC (allR (l.take i) ++ (secR ((an : Int), (mn : Int))).take k))) ∧ Hid (Kept w wx))
        case atStart => exact ⟨0, _, by omega, rfl, rfl, OW1, HK⟩
        case round =>
          clear OW1 HO HK
          obtain ⟨k, tq, hk, rfl, rfl, HO, HK⟩ := hrel
          have q1 := HK.out.cell HCI.out.1
          have q2 := HK.out.cell HCI.out.2
          by_cases hkn : k < mn
          · have hkk : (k : Int) < mn := by omega
            have bq : decide ((k : Int) < (mn : Int)) = true := by simpa using hkk
            have hnr := HNR.out
            obtain ⟨k1, hk1⟩ : ∃ k1, k1 = k + 1 := ⟨_, rfl⟩
            have v2 : IntKind.i64.wrap ((k : Int) + 1) = (k1 : Int) := by rw [show (k : Int) + 1 = (k1 : Int) by omega]; exact IntWalk.i64_in _ (by omega)
            obtain ⟨x, hx⟩ : ∃ x, x = an + k := ⟨_, rfl⟩
            have v3' : IntKind.i64.wrap ((an : Int) + (k : Int)) = (x : Int) := by rw [show (an : Int) + (k : Int) = (x : Int) by omega]; exact IntWalk.i64_in _ (by omega)
            have hst : (secR ((an : Int), (mn : Int))).take k1 = (secR ((an : Int), (mn : Int))).take k ++ [x] := by
              rw [hk1, secR_take _ _ (by show k < (mn : Int).toNat; omega), hx]
              show _ ++ [(an : Int).toNat + k] = _
              rw [Int.toNat_natCast]
            have hlen : (allR (l.take i) ++ (secR ((an : Int), (mn : Int))).take k).length + 1 ≤ 8192 := by
              have h1 := allR_take_len l i1
              rw [HI1.out, HAT.out, List.length_append, secR_len] at h1
              have h2 : ((secR ((an : Int), (mn : Int))).take k).length ≤ k := by rw [List.length_take]; omega
              have h3 := HLE.out
              rw [List.length_append]
              simp only [Int.toNat_natCast] at h1
              omega
            obtain ⟨L, hL⟩ : ∃ L, L = allR (l.take i) ++ (secR ((an : Int), (mn : Int))).take k := ⟨_, rfl⟩
            rw [← hL] at hlen
            have HO2 : Hid (wr.ownsRow w.heap.size 3 1 tq L.length (intC L)) := Lib.hid (by rw [hL]; exact HO.out)
            have HLL : Hid (allR (l.take i) ++ (secR ((an : Int), (mn : Int))).take k1 = L ++ [x]) := Lib.hid (by rw [hst, ← List.append_assoc, hL])
            obtain ⟨pv, cv, htv, -, -⟩ := own_slice HO2.out
            obtain ⟨nL, hnL⟩ : ∃ nL, nL = L.length := ⟨_, rfl⟩
            rw [← hnL] at htv hlen
            have HNL := Lib.hid hnL
            have HOWN : Hid ((wr.alloc (.cells #[.int .i64 (x : Int)] 3)).ownsRow w.heap.size 3 1 tq nL (intC L)) := Lib.hid (by rw [hnL]; exact HO2.out.alloc _)
            have HSZ : Hid (w.heap.size ≤ (wr.alloc (.cells #[.int .i64 (x : Int)] 3)).heap.size) := Lib.hid (HK.out.then (box_below _ _)).size
            have HKA : Hid (Kept w (wr.alloc (.cells #[.int .i64 (x : Int)] 3))) := Lib.hid (HK.out.then (box_below _ _))
            subst htv
            clear hst hx hL hnL HO HO2 hnr
            go_wp2_with (at_builtin; refine wpList_append_flat rfl _ _ 24 rfl w.heap.size 3 ir (.int .i64 0) 1 8 Try.underlying24 HIR.out HZ0.out HZ1.out HZ2.out rfl (by decide) _ nL _ rfl HOWN.out _ 1 _ rfl (int_flat _ (x : Int)) ?wa1 ?wa2 ?wa3 ?_)
            case wa1 => unfold maxLen; omega
            case wa2 => omega
            case wa3 => exact HSZ.out
            intro v' w6 hown hgrw hwh
            have HO6 : Hid (w6.ownsRow w.heap.size 3 1 v' (allR (l.take i) ++ (secR ((an : Int), (mn : Int))).take k1).length (intC (allR (l.take i) ++ (secR ((an : Int), (mn : Int))).take k1))) := Lib.hid (by
              rw [HLL.out, intC_append, List.length_append, ← HNL.out]; exact hown)
            have HK6 : Hid (Kept w w6) := Lib.hid ((show Below w.heap.size w _ from HKA.out).grown hgrw HSZ.out (fun j hj => (HOWN.out.lt j hj).1))
            obtain ⟨pv', cv', htv', -, -⟩ := own_slice hown
            subst htv'
            clear hown hgrw hwh
            go_wp2
            go_roundg (mn - k1)
            case measure => omega
            case rel => exact ⟨k1, _, by omega, rfl, by first | rfl | (congr 1; omega), HO6, HK6⟩
          · have hkk : ¬ (k : Int) < mn := by omega
            have bq : decide ((k : Int) < (mn : Int)) = false := by simpa using hkk
            have hke : k = mn := by omega
            have HO6 : Hid (wr.ownsRow w.heap.size 3 1 tq (allR (l.take i1)).length (intC (allR (l.take i1)))) := Lib.hid (by
              rw [HI1.out, HAT.out]
              have h := HO.out
              rw [hke, List.take_of_length_le (l := secR ((an : Int), (mn : Int))) (by rw [secR_len]; show (mn : Int).toNat ≤ mn; omega)] at h
              exact h)
            obtain ⟨nq, hnq⟩ : ∃ nq, nq = (allR (l.take i1)).length := ⟨_, rfl⟩
            rw [← hnq] at HO6
            have HNQ := Lib.hid hnq
            clear hnq
            obtain ⟨pv', cv', htv', -, -⟩ := own_slice HO6.out
            subst htv'
            clear HO hi1
            go_wp2
            go_roundg (n - i1)
            case measure => have := HI1.out; omega
            case rel => exact ⟨i1, _, by have := HI1.out; omega, rfl, by first | rfl | (congr 1; have := HI1.out; omega), Lib.hid (by rw [← HNQ.out]; exact HO6.out), HK⟩
      · have hki : ¬ (i : Int) < n := by omega
        have bk : decide ((i : Int) < (n : Int)) = false := by simpa using hki
        have hie : i = n := by omega
        have HO6 : Hid (wr.ownsRow w.heap.size 3 1 tk (allR l).length (intC (allR l))) := Lib.hid (by
          have h := HO.out
          rw [hie, List.take_of_length_le (by rw [← HN.out]; exact Nat.le_refl _)] at h
          exact h)
        go_wp2
        go_ret
        exact ⟨⟨_, rfl, HO6.out⟩, HK.out⟩
  · have hL : secsL l = [] := if_neg hv
    rw [decide_eq_false hv] at CM
    rw [hL]
    obtain ⟨p, c, rfl, -, -⟩ := h.out
    clear h hL hv
    go_enter Try.func9, Try.ntmps9
    go_wp2_with fail
    refine CM.mono ?_
    rintro e W1 ⟨rfl, hb1⟩
    have K1 : Hid (Kept w W1) := Lib.hid hb1
    clear CM hb1
    go_wp2
    go_ret
    exact ⟨⟨_, rfl, World.ownsRow_nil _ _ _ _⟩, K1.out⟩

end Go.Proofs.Ytppbknlhknadbaa
