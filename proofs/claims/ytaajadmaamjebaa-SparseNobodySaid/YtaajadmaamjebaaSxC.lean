/- SparseDoes out of the contracts. -/
import Derived.Test.YtaajadmaamjebaaSxY
namespace Go.Proofs.Ytaajadmaamjebaa
open Go.RowKit

theorem rmay17_any (per most : Int) (w : World) :
    Calls Try.prog 7 #[.int .i64 per, .int .i64 most] w fun e w' => e = .returned (.bool (decide ((0 ≤ per ∧ per ≤ 64) ∧ 0 ≤ most ∧ most ≤ 65536))) ∧ w = w' := by
  obtain ⟨r, hr⟩ : ∃ r, r = decide ((0 ≤ per ∧ per ≤ 64) ∧ 0 ≤ most ∧ most ≤ 65536) := ⟨_, rfl⟩
  rw [← hr]
  by_cases h1 : 0 ≤ per
  case neg =>
    have b1 : decide (per ≥ 0) = false := decide_eq_false h1
    obtain rfl : r = false := by rw [hr]; exact decide_eq_false (fun x => h1 x.1.1)
    clear hr h1
    go_enter Try.func7, Try.ntmps7
    go_wp2
    go_ret
    exact ⟨rfl, rfl⟩
  have b1 : decide (per ≥ 0) = true := decide_eq_true h1
  by_cases h2 : per ≤ 64
  case neg =>
    have b2 : decide (per ≤ 64) = false := decide_eq_false h2
    obtain rfl : r = false := by rw [hr]; exact decide_eq_false (fun x => h2 x.1.2)
    clear hr h1 h2
    go_enter Try.func7, Try.ntmps7
    go_wp2
    go_ret
    exact ⟨rfl, rfl⟩
  have b2 : decide (per ≤ 64) = true := decide_eq_true h2
  by_cases h3 : 0 ≤ most
  case neg =>
    have b3 : decide (most ≥ 0) = false := decide_eq_false h3
    obtain rfl : r = false := by rw [hr]; exact decide_eq_false (fun x => h3 x.2.1)
    clear hr h1 h2 h3
    go_enter Try.func7, Try.ntmps7
    go_wp2
    go_ret
    exact ⟨rfl, rfl⟩
  have b3 : decide (most ≥ 0) = true := decide_eq_true h3
  by_cases h4 : most ≤ 65536
  case neg =>
    have b4 : decide (most ≤ 65536) = false := decide_eq_false h4
    obtain rfl : r = false := by rw [hr]; exact decide_eq_false (fun x => h4 x.2.2)
    clear hr h1 h2 h3 h4
    go_enter Try.func7, Try.ntmps7
    go_wp2
    go_ret
    exact ⟨rfl, rfl⟩
  have b4 : decide (most ≤ 65536) = true := decide_eq_true h4
  obtain rfl : r = true := by rw [hr]; exact decide_eq_true ⟨⟨h1, h2⟩, h3, h4⟩
  clear hr h1 h2 h3 h4
  go_enter Try.func7, Try.ntmps7
  go_wp2
  go_ret
  exact ⟨rfl, rfl⟩
/-- What is told of an act: where it lies, its slice of hooks. -/
theorem AcsIn.act {A : List (AcS × Value)} {p : Option Addr} {n c k : Nat} {w : World} (h : AcsIn A (.slice p n c) w) (hn : n = A.length) (hk : k < n) :
    ∃ b off cs t fr, p = some ⟨b, off, none⟩ ∧ w.heap[b]? = some (.cells cs t fr) ∧ off + k * 3 + 3 ≤ cs.size ∧ cs.extract (off + k * 3) (off + k * 3 + 3) = (acL (A[k]'(by omega))).toArray ∧
      cs[off + k * 3 + 2]? = some (A[k]'(by omega)).2 ∧ cs[off + k * 3 + 1]? = some (.int .u32 ((A[k]'(by omega)).1.man : Nat)) := by
  subst hn
  obtain ⟨b, off, cs, t, fr, hp, hg, hs, hx, hc⟩ := h.rows.elem encAc hk
  have h2 := hc 2 _ rfl
  have h1 := hc 1 _ rfl
  rw [cell_of_row _ _ _ _ _ _ hg] at h2 h1
  exact ⟨b, off, cs, t, fr, hp, hg, hs, hx, h2, h1⟩

set_option maxRecDepth 100000 in
set_option maxHeartbeats 32000000 in
theorem sparseDoes_of (CN : NewIdx) (AW : AwakeS) (per most : Int) (wp : (Lit.int .i64 per).wf = true) (wm : (Lit.int .i64 most).wf = true) (l : List AcS) (v : Value) (w : World) (H : AcsAt l v w) :
    Calls Try.prog 3 #[.int .i64 per, .int .i64 most, v] w fun e w' => e = .returned (.bool true) ∧ Kept w w' := by
  have CN0 := CN per most w wp wm
  have CM := fun W => rmay17_any per most W
  obtain ⟨AA, hA, hin⟩ := H
  obtain ⟨pa, ca, rfl, -, -⟩ := hin.rows.out encAc
  obtain ⟨n, hn⟩ : ∃ n, n = AA.length := ⟨_, rfl⟩
  rw [← hn] at hin ⊢
  have HIN := Lib.hid hin
  have HN := Lib.hid hn
  clear CN wp wm hA hin hn
  go_enter Try.func3, Try.ntmps3
  go_wp2_with fail
  refine CN0.mono ?_
  rintro e w1 ⟨hk1, h⟩
  have HK1 : Hid (Kept w w1) := Lib.hid hk1
  clear hk1 CN0
  rcases h with ⟨hno, rfl⟩ | ⟨hyes, ad, P, Bs, rfl, D, hp⟩
  · have CM1 := CM w1
    rw [decide_eq_false hno] at CM1
    clear hno CM
    go_wp2_with fail
    refine CM1.mono ?_
    rintro e w2 ⟨rfl, rfl⟩
    have CA := AW w1
    clear CM1 AW
    go_wp2_with fail
    refine CA.mono ?_
    rintro e w3 ⟨rfl, hb⟩
    have HK3 : Hid (Kept w w3) := Lib.hid ((show Kept w w1 from HK1.out).then hb)
    clear hb CA
    go_wp2
    go_ret
    exact ⟨rfl, HK3.out⟩
  · have CM1 := CM w1
    rw [decide_eq_true hyes] at CM1
    have HYES := Lib.hid hyes
    have HPP := Lib.hid hp
    obtain ⟨W2, hW2⟩ : ∃ W, W = w1.alloc (.cells #[.int .i64 per, .int .i64 most, .slice none 0 0] 32) := ⟨_, rfl⟩
    have HW2 := Lib.hid hW2
    have hk2 : Kept w1 W2 := by rw [hW2]; exact box_below _ _
    obtain ⟨g, hg⟩ : ∃ g, g = w1.heap.size := ⟨_, rfl⟩
    have HG := Lib.hid hg
    have hgs : W2.heap.size = g + 1 := by rw [hW2, hg]; simp
    have HDU : Hid (∃ Bs' A' tv' R', Duo w (.pointer (some ad)) g per most P Bs' A' tv' R' W2) := Lib.hid ⟨Bs, [], .slice none 0 0, [], D.kept hp hk2,
      ⟨by rw [hW2, hg]; exact heap_alloc_last w1 _, fun W _ => ⟨fun a ha => (by cases ha), RowsAt.nil W 0⟩, Or.inl rfl, fun k hk => by
        rcases hk with e | e
        · omega
        · have := (D.above _ _ _ hp k e).2; omega⟩,
      rfl, OkI.nil hyes.1 hyes.2, fun e => by have := (D.above _ _ _ hp g e).2; omega, (show Kept w w1 from HK1.out).then hk2, fun m hm => by
        rcases hm with e | e
        · have := HK1.out.size; omega
        · exact (D.above _ _ _ hp m e).1⟩
    have HKW2 : Hid (Kept w W2) := Lib.hid ((show Kept w w1 from HK1.out).then hk2)
    clear hyes hp hW2 hk2 hg hgs CM
    go_wp2_with fail
    refine CM1.mono ?_
    rintro e w2 ⟨rfl, rfl⟩
    clear CM1
    go_wp2
    rw [← HW2.out]
    try rw [← HG.out]
    clear HW2 HG HPP HK1
    go_loopg [10] n (fun gh y wr => ∃ (k : Nat), k + gh = n ∧ y = .int .i64 k ∧ k ≤ 40 ∧ Hid (∃ Bs' A' tv' R', Duo w (.pointer (some ad)) g per most P Bs' A' tv' R' wr) ∧ Hid (Kept w wr))
    case atStart => exact ⟨0, by omega, rfl, by omega, HDU, HKW2⟩
    case round =>
      clear HDU HKW2
      obtain ⟨k, hk, rfl, hk40, HDR, HKR⟩ := hrel
      by_cases hlt : k < n ∧ k < 40
      · obtain ⟨hlt, h40⟩ := hlt
        have hki : (k : Int) < n := by omega
        have bk : decide ((k : Int) < (n : Int)) = true := by simpa using hki
        have bq : decide ((k : Int) < 40) = true := decide_eq_true (by omega)
        have hki0 : (0 : Int) ≤ k := by omega
        have hkA : k < AA.length := by rw [← HN.out]; exact hlt
        obtain ⟨b, off, cs, t, fr, hp, hg0, hsz, hex, h2, -⟩ := HIN.out.act HN.out hlt
        subst hp
        have hat := HIN.out.each _ (List.getElem_mem hkA)
        obtain ⟨AC, hAC⟩ : ∃ a, a = AA[k] := ⟨_, rfl⟩
        rw [← hAC] at hat hex h2
        have h32 := hat.hooks
        obtain ⟨-, pt, ct, htv, -⟩ := hat.hooks
        have IX := fun W => idx_rec (P := Try.prog) (k := 3) Try.underlying22 (fun w => Try.sizeOf36 w) b off n ca k hlt W
        obtain ⟨k1, hk1⟩ : ∃ k1, k1 = k + 1 := ⟨_, rfl⟩
        have v1 : IntKind.i64.wrap ((k : Int) + 1) = (k1 : Int) := by rw [show (k : Int) + 1 = (k1 : Int) by omega]; exact IntWalk.i64_in _ (by omega)
        have HKK : Hid (k1 = k + 1 ∧ k + gk = n ∧ k < n ∧ k < 40) := Lib.hid ⟨hk1, hk, hlt, h40⟩
        have g2 := HKR.out.row hg0
        obtain ⟨m, hm⟩ : ∃ m, m = AC.1.hooks.length := ⟨_, rfl⟩
        have c2 : wr.cell? ⟨b, off + k * 3 + 2, none⟩ = some (.slice pt m ct) := by rw [cell_of_row _ _ _ _ _ _ g2, h2, htv, hm]
        by_cases hm20 : 20 < m
        · have bm : decide ((m : Int) > 20) = true := decide_eq_true (by omega)
          have bmi : (20 : Int) < m := by omega
          have CA := AW wr
          clear hk1 hk hlt h40 hk40 hkA hg0 hsz hex h2 hat hAC h32 htv g2 hm hm20 AW
          go_wp2_with fail
          refine CA.mono ?_
          rintro e w3 ⟨rfl, hb⟩
          have HK3 : Hid (Kept w w3) := Lib.hid ((show Kept w wr from HKR.out).then hb)
          clear hb CA
          go_wp2
          go_ret
          exact ⟨rfl, HK3.out⟩
        · have bm : decide ((m : Int) > 20) = false := decide_eq_false (by omega)
          have bmi : ¬ (20 : Int) < m := by omega
          obtain ⟨Bs', A', tv', R', hd⟩ := HDR.out
          have CD := does17_of D wr hd AC.1 AC.2 hat (by rw [← hm]; omega)
          obtain ⟨X, hX⟩ : ∃ X, X = (acL AC).toArray := ⟨_, rfl⟩
          rw [show (acL (AC.1, AC.2)).toArray = X from hX.symm] at CD
          rw [← hX] at hex
          have HES : Hid (off + k * 3 + 3 ≤ cs.size ∧ cs.extract (off + k * 3) (off + k * 3 + 3) = X) := Lib.hid ⟨hsz, hex⟩
          clear hk1 hk hlt h40 hk40 hkA hg0 hsz hex h2 hat hAC h32 htv hm hm20 hX hd HDR
          go_wp2_with (with_reducible refine wpList_load_sub rfl _ _ rfl b (off + k * 3) 3 rfl t cs fr _ g2 Try.underlying36 rfl infoAc HES.out.1 X HES.out.2 ?_)
          refine CD.mono ?_
          rintro e w3 ⟨rfl, Bs3, A3, tv3, hd3⟩
          have HD3 := Lib.hid hd3
          have CS := same17_of D w3 hd3
          clear hd3 CD g2 c2
          go_wp2_with fail
          refine CS.mono ?_
          rintro e w4 ⟨rfl, hb4⟩
          have HD4 := Lib.hid (HD3.out.later D hb4)
          have CL := D.len _ _ w4 HD4.out.p HD4.out.ok
          have hle := HD4.out.ok.len
          obtain ⟨ll, hll⟩ : ∃ q, q = lenS (actR per most R' AC.1) := ⟨_, rfl⟩
          rw [← hll] at CL hle
          have bl : decide ((ll : Int) > most) = false := decide_eq_false (by omega)
          have bli : ¬ most < (ll : Int) := by omega
          clear hb4 CS hle hll HD3
          go_wp2_with fail
          refine CL.mono ?_
          rintro e w5 ⟨rfl, hb5⟩
          have HD5 := Lib.hid (HD4.out.later D hb5)
          clear hb5 CL HD4
          go_wp2
          go_roundg (n - k1)
          · exact ⟨k1, by have := HKK.out; omega, by first | rfl | (have := HKK.out; congr 1; omega), by have := HKK.out; omega, Lib.hid ⟨_, _, _, _, HD5.out⟩, Lib.hid HD5.out.kept⟩
          · have := HKK.out; omega
      · have CA := AW wr
        by_cases hlt2 : k < n
        · have bk : decide ((k : Int) < (n : Int)) = true := decide_eq_true (by omega)
          have hki : (k : Int) < n := by omega
          have bq : decide ((k : Int) < 40) = false := decide_eq_false (by omega)
          have bqi : ¬ (k : Int) < 40 := by omega
          clear hlt hlt2 hk hk40 HDR AW
          go_wp2_with fail
          refine CA.mono ?_
          rintro e w3 ⟨rfl, hb⟩
          have HK3 : Hid (Kept w w3) := Lib.hid ((show Kept w wr from HKR.out).then hb)
          clear hb CA
          go_wp2
          go_ret
          exact ⟨rfl, HK3.out⟩
        · have bk : decide ((k : Int) < (n : Int)) = false := decide_eq_false (by omega)
          have hki : ¬ (k : Int) < n := by omega
          clear hlt hlt2 hk hk40 HDR AW
          go_wp2_with fail
          refine CA.mono ?_
          rintro e w3 ⟨rfl, hb⟩
          have HK3 : Hid (Kept w w3) := Lib.hid ((show Kept w wr from HKR.out).then hb)
          clear hb CA
          go_wp2
          go_ret
          exact ⟨rfl, HK3.out⟩

end Go.Proofs.Ytaajadmaamjebaa
