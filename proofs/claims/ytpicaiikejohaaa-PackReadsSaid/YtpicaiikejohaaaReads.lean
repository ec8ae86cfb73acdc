/- The walk of PackReads. -/
import Derived.Test.YtpicaiikejohaaaRows
import Derived.Test.YtpicaiikejohaaaAwake
import Derived.Test.YtpicaiikejohaaaRef
import Derived.Test.YtpicaiikejohaaaRRList
import Derived.WalkKit
import Derived.WalkSpells
import Derived.WalkLawsBesides
import Derived.OpenShut
import Derived.RegionTactic
import Derived.BigRegion
import Derived.Lib.Hide
namespace Go.Proofs.Ytpicaiikejohaaa
open Go.RowKit

/-- Both readers answer alike, and stand alike behind it. -/
def StepPost (B b c : Nat) (w : World) (e : Ending) (w' : World) : Prop :=
  e = .returned (.bool true) ∧ ∃ s', RdAt b s' w' ∧ RfAt c s' w' ∧ Below B w w'

theorem step_close {B b c : Nat} {s : RdSt} {w w1 w2 : World} (hB : B ≤ w.heap.size) (hb : B ≤ b) (hc : B ≤ c) (hbc : b ≠ c) (h1 : RdAt b s w1) (g1 : w.grownBy w1 (some b)) (h2 : RfAt c s w2) (g2 : w1.grownBy w2 (some c)) :
    ∃ s', RdAt b s' w2 ∧ RfAt c s' w2 ∧ Below B w w2 :=
  ⟨s, h1.later g2 (by simpa using hbc), h2, below_touch (below_touch (Below.refl _ _) g1 hB hb) g2 (Nat.le_trans hB g1.size) hc⟩

theorem rnumL (b : Nat) (s : RdSt) (k : Nat) (i : Int) (hi : i = k) (hk : k ≤ 8) (w : World) (h : RfAt b s w) : Calls Try.prog 41 #[.pointer (some ⟨b, 0, none⟩), .int .i64 i] w (RfPost b (.int .u64 (numR s k).1) (numR s k).2 w) := by
  subst hi
  exact rnum_any b s k hk w h

theorem textsR_len : ∀ (k : Nat) (s : RdSt) (acc : List (List UInt8)), (textsR k s acc).1.length ≤ acc.length + k
  | 0, s, acc => by simp [textsR]
  | k + 1, s, acc => by
    unfold textsR
    split
    · have h := textsR_len k (textR s).2 (acc ++ [(textR s).1])
      rw [List.length_append, List.length_singleton] at h
      omega
    · simp

theorem listR_len (s : RdSt) : (listR s).1.length ≤ 65536 := by
  have h := textsR_len (lenR s 65536).1 (lenR s 65536).2 []
  have h2 := lenR_le s
  unfold listR
  simp only [List.length_nil] at h
  omega

set_option maxHeartbeats 2000000 in
theorem step_any (B b c : Nat) (s : RdSt) (n : Int) (hn : (Lit.int .i64 n).wf = true) (w : World) (hB : B ≤ w.heap.size) (hb : B ≤ b) (hc : B ≤ c) (hbc : b ≠ c) (h1 : RdAt b s w) (h2 : RfAt c s w) :
    Calls Try.prog 27 #[.pointer (some ⟨b, 0, none⟩), .pointer (some ⟨c, 0, none⟩), .int .i64 n] w (StepPost B b c w) := by
  have hl := h2.len
  have hcb : some c ≠ some b := fun e => hbc (by cases e; rfl)
  obtain ⟨n0, n1⟩ := bounds_i64 hn
  by_cases c0 : n = 0
  · subst c0
    have hm : (numR s 1).1 < 256 := numR_lt s 1
    go_enter Try.func27, Try.ntmps27
    go_wp2_with (first
      | (go_at_call 19; refine (u8r_any b s _ h1 hl).mono ?_; rintro e w1 ⟨rfl, R1, g1⟩)
      | (go_at_call 41; refine (rnumL c s 1 1 rfl (by omega) _ (h2.later g1 hcb)).mono ?_; rintro e w2 ⟨rfl, R2, g2⟩))
    go_ret
    exact ⟨rfl, step_close hB hb hc hbc R1 g1 R2 g2⟩
  by_cases c1 : n = 1
  · subst c1
    have hm : (numR s 2).1 < 65536 := numR_lt s 2
    go_enter Try.func27, Try.ntmps27
    go_wp2_with (first
      | (go_at_call 20; refine (u16r_any b s _ h1 hl).mono ?_; rintro e w1 ⟨rfl, R1, g1⟩)
      | (go_at_call 41; refine (rnumL c s 2 2 rfl (by omega) _ (h2.later g1 hcb)).mono ?_; rintro e w2 ⟨rfl, R2, g2⟩))
    go_ret
    exact ⟨rfl, step_close hB hb hc hbc R1 g1 R2 g2⟩
  by_cases c2 : n = 2
  · subst c2
    have hm : (numR s 4).1 < 4294967296 := numR_lt s 4
    go_enter Try.func27, Try.ntmps27
    go_wp2_with (first
      | (go_at_call 21; refine (u32r_any b s _ h1 hl).mono ?_; rintro e w1 ⟨rfl, R1, g1⟩)
      | (go_at_call 41; refine (rnumL c s 4 4 rfl (by omega) _ (h2.later g1 hcb)).mono ?_; rintro e w2 ⟨rfl, R2, g2⟩))
    go_ret
    exact ⟨rfl, step_close hB hb hc hbc R1 g1 R2 g2⟩
  by_cases c3 : n = 3
  · subst c3
    go_enter Try.func27, Try.ntmps27
    go_wp2_with (first
      | (go_at_call 22; refine (u64r_any b s _ h1 hl).mono ?_; rintro e w1 ⟨rfl, R1, g1⟩)
      | (go_at_call 41; refine (rnumL c s 8 8 rfl (by omega) _ (h2.later g1 hcb)).mono ?_; rintro e w2 ⟨rfl, R2, g2⟩))
    go_ret
    exact ⟨rfl, step_close hB hb hc hbc R1 g1 R2 g2⟩
  by_cases c4 : n = 4
  · subst c4
    go_enter Try.func27, Try.ntmps27
    go_wp2_with (first
      | (go_at_call 23; refine (textr_any b s _ h1 hl).mono ?_; rintro e w1 ⟨rfl, R1, g1⟩)
      | (go_at_call 42; refine (rtext_any c s _ (h2.later g1 hcb)).mono ?_; rintro e w2 ⟨rfl, R2, g2⟩))
    go_ret
    exact ⟨rfl, step_close hB hb hc hbc R1 g1 R2 g2⟩
  by_cases c5 : n = 5
  · subst c5
    have hcw := h2.lt
    go_enter Try.func27, Try.ntmps27
    go_wp2_with (first
      | (go_at_call 25; refine (listr_own b s _ h1 hl).mono ?_; rintro e w1 ⟨v, rfl, V1, R1, g1⟩)
      | (go_at_call 43; refine (rlist_any c s _ (h2.later g1 hcb)).mono ?_; rintro e w2 ⟨u, rfl, V2, R2, g2⟩))
    have V3 := strAt_own (V1.kept g2 (own_ne V1 hcw))
    have hlen := listR_len s
    have S3 := same_any _ _ _ _ V3 V2 (by rw [List.length_map]; omega)
    have K3 := step_close hB hb hc hbc R1 g1 R2 g2
    have KB := Nat.le_trans hB (Nat.le_trans g1.size g2.size)
    clear V1 V2 V3 R1 R2 g1 g2 hlen
    go_wp2_with (go_at_call 24; refine S3.mono ?_; rintro e w4 ⟨rfl, hb4⟩)
    go_ret
    obtain ⟨s', q1, q2, q3⟩ := K3
    exact ⟨rfl, s', q1.later (grown_below hb4 none) (by simp), q2.later (grown_below hb4 none) (by simp), Below.then' q3 hb4 KB⟩
  by_cases c6 : 6 ≤ n
  · have hn6 : (Lit.int .i64 (n - 6)).wf = true := by
      simp [Lit.wf, IntKind.min, IntKind.max, IntKind.signed, IntKind.bits]; omega
    have q0 : (n == 0) = false := by simpa using c0
    have q1 : (n == 1) = false := by simpa using c1
    have q2 : (n == 2) = false := by simpa using c2
    have q3 : (n == 3) = false := by simpa using c3
    have q4 : (n == 4) = false := by simpa using c4
    have q5 : (n == 5) = false := by simpa using c5
    clear hn c0 c1 c2 c3 c4 c5
    go_enter Try.func27, Try.ntmps27
    go_wp2_with (first
      | (go_at_call 32; refine (take_any b s (n - 6) _ h1 hl).mono ?_; rintro e w1 ⟨rfl, R1, g1⟩)
      | (go_at_call 44; refine (rtake_any c s (n - 6) hn6 _ (h2.later g1 hcb)).mono ?_; rintro e w2 ⟨rfl, R2, g2⟩))
    go_ret
    exact ⟨rfl, step_close hB hb hc hbc R1 g1 R2 g2⟩
  · have c6' : n < 0 := by omega
    have q0 : (n == 0) = false := by simpa using c0
    have q1 : (n == 1) = false := by simpa using c1
    have q2 : (n == 2) = false := by simpa using c2
    have q3 : (n == 3) = false := by simpa using c3
    have q4 : (n == 4) = false := by simpa using c4
    have q5 : (n == 5) = false := by simpa using c5
    clear c0 c1 c2 c3 c4 c5
    go_enter Try.func27, Try.ntmps27
    go_wp2_with (first
      | (go_at_call 32; refine (take_any b s n _ h1 hl).mono ?_; rintro e w1 ⟨rfl, R1, g1⟩)
      | (go_at_call 44; refine (rtake_any c s n hn _ (h2.later g1 hcb)).mono ?_; rintro e w2 ⟨rfl, R2, g2⟩))
    go_ret
    exact ⟨rfl, step_close hB hb hc hbc R1 g1 R2 g2⟩

end Go.Proofs.Ytpicaiikejohaaa
