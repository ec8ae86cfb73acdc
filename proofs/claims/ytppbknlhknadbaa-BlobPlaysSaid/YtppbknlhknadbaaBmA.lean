/- The landed blob's Fit, refuses; super.Need. -/
import Derived.Test.YtppbknlhknadbaaGE
import Derived.Test.YtppbknlhknadbaaGJ
import Derived.BigFrame
namespace Go.Proofs.Ytppbknlhknadbaa
open Go.RowKit

theorem bneed_any (n : Int) (hn : I64 n) (w : World) :
    Calls Try.prog 33 #[.int .i64 n] w fun e w' => e = .returned (.int .i64 (needN n)) ∧ w = w' := by
  unfold I64 at hn
  by_cases h1 : n < 1
  · have e1 : needN n = 0 := if_pos h1
    rw [e1]
    go_enter Try.func33, Try.ntmps33
    go_wp2
    go_ret
    exact ⟨rfl, rfl⟩
  · have e1 : needN n = (n - 1) / 128 + 1 := if_neg h1
    obtain ⟨d, hd⟩ : ∃ d, d = n - 1 := ⟨_, rfl⟩
    have hd0 : 0 ≤ d ∧ d ≤ 9223372036854775806 := by omega
    have v1 : IntKind.i64.wrap (n - 1) = d := by rw [← hd]; exact IntWalk.i64_in _ (by omega)
    have v2 : IntKind.i64.wrap (d.tdiv 128) = d / 128 := by rw [Int.tdiv_eq_ediv_of_nonneg hd0.1]; exact IntWalk.i64_in _ (by omega)
    have v3 : IntKind.i64.wrap (d / 128 + 1) = d / 128 + 1 := IntWalk.i64_in _ (by omega)
    have v4 : IntKind.i64.wrap (d / 128) = d / 128 := IntWalk.i64_in _ (by omega)
    rw [e1, ← hd]
    have V5 : Hid (wrap64 (wrap64 (d.tdiv 128) + 1) = d / 128 + 1) := Lib.hid (by rw [← IntWalk.i64_left, ← IntWalk.i64_left, v2, v3])
    clear hd hd0 v2 v3 v4
    go_enter Try.func33, Try.ntmps33
    go_wp2
    go_ret
    exact ⟨congrArg (fun z => Ending.returned (Value.int .i64 z)) V5.out, rfl⟩

set_option maxRecDepth 100000 in
set_option maxHeartbeats 4000000 in
theorem bfit_of (HMY : XMayOk) (HCT : XCountOk) : BFitOk := by
  intro l v w n size h hl hn hs
  obtain ⟨res, hres⟩ : ∃ x, x = decide (fitB l n size) := ⟨_, rfl⟩
  rw [← hres]
  obtain ⟨m, hm⟩ : ∃ m, m = min n 8192 := ⟨_, rfl⟩
  have hmb : I64 m := by unfold I64 at *; omega
  have CM := HMY l v w 0 m h hl (by unfold I64; omega) hmb
  have CC := fun W (k : Kept w W) => HCT l v W (h.later k) hl
  have CN := fun W => bneed_any size hs W
  have HRES : Hid (res = decide (fitB l n size)) := Lib.hid hres
  have HM := Lib.hid hm
  have hmi : Hid ((if (8192 : Int) < n then 8192 else n) = m) := Lib.hid (by split <;> omega)
  obtain ⟨p, c, rfl, -, -⟩ := h.out
  obtain ⟨k, hk⟩ : ∃ k, k = l.length := ⟨_, rfl⟩
  have HK := Lib.hid hk
  rw [← hk] at CM CC ⊢
  have hmm : ((8192 : Int) < n ∧ m = 8192) ∨ (¬ (8192 : Int) < n ∧ m = n) := by omega
  clear hres hm hmb h hn hs hk hl
  by_cases z1 : size < 0
  · have HF : Hid (res = false) := Lib.hid (by rw [HRES.out]; exact decide_eq_false (fun y => by have := y.1; omega))
    have b1 : decide (size ≥ 0) = false := decide_eq_false (by omega)
    clear CM CC CN hmm
    go_enter Try.func10, Try.ntmps10
    go_wp2
    go_ret
    exact ⟨by rw [HF.out]; rfl, Kept.refl _⟩
  · have b1 : decide (size ≥ 0) = true := decide_eq_true (by omega)
    by_cases z2 : (k : Int) > 16
    · have HF : Hid (res = false) := Lib.hid (by rw [HRES.out]; exact decide_eq_false (fun y => by have := y.2.1; have := HK.out; omega))
      have b2 : decide ((k : Int) ≤ 16) = false := decide_eq_false (by omega)
      clear CM CC CN hmm
      go_enter Try.func10, Try.ntmps10
      go_wp2
      go_ret
      exact ⟨by rw [HF.out]; rfl, Kept.refl _⟩
    · have b2 : decide ((k : Int) ≤ 16) = true := decide_eq_true (by omega)
      obtain ⟨b, hb⟩ : ∃ b, b = decide (validL 0 m l) := ⟨_, rfl⟩
      rw [← hb] at CM
      have HB := Lib.hid hb
      obtain ⟨cn, hcn⟩ : ∃ cn, cn = cntA (hasR l) := ⟨_, rfl⟩
      obtain ⟨nn, hnn⟩ : ∃ nn, nn = needN size := ⟨_, rfl⟩
      rw [← hcn] at CC
      rw [← hnn] at CN
      have HCN := Lib.hid hcn
      have HNN := Lib.hid hnn
      have HZ : Hid (0 ≤ size ∧ k ≤ 16) := Lib.hid (by omega)
      clear hb hcn hnn z1 z2
      rcases hmm with ⟨hq, rfl⟩ | ⟨hq, rfl⟩
      all_goals
        cases b with
        | false =>
          have HF : Hid (res = false) := Lib.hid (by rw [HRES.out]; exact decide_eq_false (fun y => by have h2 := y.2.2.1; rw [← HM.out] at h2; exact absurd h2 (of_decide_eq_false HB.out.symm)))
          go_enter Try.func10, Try.ntmps10
          go_wp2_with fail
          refine CM.mono ?_
          rintro e W1 ⟨rfl, hb1⟩
          have K := Lib.hid hb1
          clear CM CC CN hb1
          go_wp2
          go_ret
          exact ⟨by rw [HF.out]; rfl, K.out⟩
        | true =>
          have HF : Hid (res = decide ((cn : Int) = nn)) := Lib.hid (by
            rw [HRES.out]
            refine decide_eq_decide.2 ⟨fun y => by rw [HCN.out, HNN.out]; exact y.2.2.2, fun y => ⟨HZ.out.1, by rw [← HK.out]; exact HZ.out.2, by rw [← HM.out]; exact of_decide_eq_true HB.out.symm, by rw [← HCN.out, ← HNN.out]; exact y⟩⟩)
          go_enter Try.func10, Try.ntmps10
          go_wp2_with fail
          refine CM.mono ?_
          rintro e W1 ⟨rfl, hb1⟩
          have K := Lib.hid hb1
          have C2 := CC W1 hb1
          clear CM CC hb1
          go_wp2_with fail
          refine C2.mono ?_
          rintro e W2 ⟨rfl, hb2⟩
          replace K := Lib.hid ((show Kept w W1 from K.out).then hb2)
          clear C2 hb2
          go_wp2_with fail
          refine (CN W2).mono ?_
          rintro e W3 ⟨rfl, hw3⟩
          subst hw3
          clear CN
          by_cases hqq : (cn : Int) = nn
          · have hb : ((cn : Int) == nn) = true := by simpa using hqq
            have HF2 : Hid (res = true) := Lib.hid (by rw [HF.out]; exact decide_eq_true hqq)
            clear hqq
            go_wp2
            go_ret
            exact ⟨by rw [HF2.out]; rfl, K.out⟩
          · have hb : ((cn : Int) == nn) = false := by simpa using hqq
            have HF2 : Hid (res = false) := Lib.hid (by rw [HF.out]; exact decide_eq_false hqq)
            clear hqq
            go_wp2
            go_ret
            exact ⟨by rw [HF2.out]; rfl, K.out⟩

/-- What refuses answers of a disk that was made. -/
def refE (s : Dk) (b : Bool) : Int := if b = false then 1 else if s.down = true then 90 else 0

set_option maxRecDepth 100000 in
set_option maxHeartbeats 4000000 in
theorem brefuses_any {B : Nat} {x : Value} {P : Dk → (Nat → Prop) → World → Prop} (D : DiskOk B x P) {s : Dk} {Bs : Nat → Prop} {w : World} (hp : P s Bs w) (hok : s.ok) (b : Bool) :
    Calls Try.prog 46 #[x, .bool b] w fun e w' => e = .returned (.int .i64 (refE s b)) ∧ Kept w w' := by
  obtain ⟨ad, rfl⟩ := D.ptr
  have LEN := D.len s Bs w hp hok
  have DN := fun W (k : Kept w W) => D.down s Bs W (D.kept hp k)
  have hN1 := hok.pos
  obtain ⟨N, hN⟩ : ∃ N, N = s.stands.length := ⟨_, rfl⟩
  rw [← hN] at LEN hN1
  have n1 : ((N : Int) == 0) = false := beq_eq_false_iff_ne.2 (by omega)
  obtain ⟨dn, hdn⟩ : ∃ dn, dn = s.down := ⟨_, rfl⟩
  have HR : Hid (refE s b = if b = false then 1 else if dn = true then 90 else 0) := Lib.hid (by unfold refE; rw [← hdn])
  rw [← hdn] at DN
  obtain ⟨r, hr⟩ : ∃ r, r = refE s b := ⟨_, rfl⟩
  rw [← hr] at HR ⊢
  clear hN hdn hr hp hok D hN1
  go_enter Try.func46, Try.ntmps46
  go_wp2_with fail
  refine LEN.mono ?_
  rintro e w1 ⟨rfl, hb1⟩
  have K := Lib.hid hb1
  have D1 := DN w1 hb1
  clear LEN DN hb1
  cases b with
  | false =>
    obtain rfl : r = 1 := HR.out
    clear D1
    go_wp2
    go_ret
    exact ⟨rfl, K.out⟩
  | true =>
    go_wp2_with fail
    refine D1.mono ?_
    rintro e w2 ⟨rfl, hb2⟩
    have K2 := Lib.hid ((show Kept w w1 from K.out).then hb2)
    clear D1 hb2
    cases dn with
    | true =>
      obtain rfl : r = 90 := HR.out
      go_wp2
      go_ret
      exact ⟨rfl, K2.out⟩
    | false =>
      obtain rfl : r = 0 := HR.out
      go_wp2
      go_ret
      exact ⟨rfl, K2.out⟩

end Go.Proofs.Ytppbknlhknadbaa
