/- The walk of the document's reader's List. -/
import Derived.Test.YtpicaiikejohaaaRows
import Derived.Test.YtpicaiikejohaaaRRead
import Derived.WalkKit
import Derived.WalkSpells
import Derived.WalkLawsBesides
import Derived.Deep.OwnRows
import Derived.Deep.LoopGhost
import Derived.Lib.Hide
import Derived.Lib.Builder
namespace Go.Proofs.Ytpicaiikejohaaa
open Go.RowKit

def RListPost (b : Nat) (s : RdSt) (w : World) (e : Ending) (w' : World) : Prop :=
  ∃ v, e = .returned v ∧ StrAt ((listR s).1.map str) v w' ∧ RfAt b (listR s).2 w' ∧ w.grownBy w' (some b)

/-- What the loop comes to from a state, so many rounds on. -/
def goR (k : Nat) (s : RdSt) (acc : List (List UInt8)) : List (List UInt8) × RdSt := if s.2 = 0 then textsR k s acc else ([], s)

theorem goR_start (s : RdSt) : ∃ (t : RdSt) (N : Nat), ((65536 < (numR s 4).1 ∧ t = ([], 2)) ∨ (¬ 65536 < (numR s 4).1 ∧ t = (numR s 4).2)) ∧ N = (numR s 4).1 ∧ goR N t [] = listR s := by
  unfold listR lenR goR
  by_cases hm : 65536 < (numR s 4).1
  · refine ⟨([], 2), _, Or.inl ⟨hm, rfl⟩, rfl, ?_⟩
    rw [if_pos hm, if_neg (by simp)]
    rfl
  · refine ⟨(numR s 4).2, _, Or.inr ⟨hm, rfl⟩, rfl, ?_⟩
    rw [if_neg hm]
    by_cases he : (numR s 4).2.2 = 0
    · rw [if_pos he]
    · rw [if_neg he]
      have hz : (numR s 4).1 = 0 := by
        rcases Nat.eq_zero_or_pos (numR s 4).1 with h | h
        · exact h
        · exact absurd (numR_pos h) he
      rw [hz]
      rfl

theorem goR_step (k : Nat) (s : RdSt) (acc : List (List UInt8)) (h : s.2 = 0) : goR (k + 1) s acc = goR k (textR s).2 (acc ++ [(textR s).1]) := by
  unfold goR
  rw [if_pos h]
  rfl

theorem own_ne {w : World} {B e size n b : Nat} {v : Value} {xs : List Value} (h : w.ownsRow B e size v n xs) (hb : b < B) : v.ownBlock = none ∨ v.ownBlock ≠ some b :=
  Or.inr fun e => by have := (h.lt b e).1; omega

set_option maxHeartbeats 1000000 in
theorem rlist_any (b : Nat) (s : RdSt) (w : World) (h : RfAt b s w) :
    Calls Try.prog 43 #[.pointer (some ⟨b, 0, none⟩)] w (RListPost b s w) := by
  obtain ⟨i0, hi, hz0, hz1, hz2⟩ := info_parts infoStr
  have hb : (numR s 4).1 < 4294967296 := numR_lt s 4
  have hbw := h.lt
  have CN := rnum4 b s w h
  obtain ⟨t, N, htN, hN, hgo⟩ := goR_start s
  have hpos : 0 < (numR s 4).1 → (numR s 4).2.2 = 0 := numR_pos
  rw [← hN] at hb htN CN hpos
  have HG := Lib.hid hgo
  clear hgo hN h
  rcases htN with ⟨hm, rfl⟩ | ⟨hm, rfl⟩
  · have hm' : (65536 : Int) < (N : Int) := by omega
    have h0 : (numR s 4).2.2 = 0 := hpos (by omega)
    have H0 := Lib.hid h0
    clear h0
    clear hpos
    go_enter Try.func43, Try.ntmps43
    go_wp2_with (go_at_call 41; refine CN.mono ?_; rintro e w1 ⟨rfl, h3, h4⟩)
    go_wp2_with (go_at_call 48; refine (rfail_at b _ 2 _ h3 H0.out).mono ?_; rintro e w2 ⟨rfl, h1, h5⟩)
    have h2 := grown_trans h4 h5
    obtain ⟨t, ht⟩ : ∃ t : RdSt, ([], 2) = t := ⟨_, rfl⟩
    rw [ht] at h1 HG
    clear ht CN H0 h4 h5 h3
    go_wp2
    go_loopw [4, 5] (fun v y wr => ∃ (k : Nat) (acc : List (List UInt8)) (s' : RdSt), k ≤ N ∧ y = .int .u64 k ∧ acc.length ≤ k ∧ wr.ownsRow w.heap.size 9 1 v acc.length (acc.map fun l => Value.string (str l)) ∧ RfAt b s' wr ∧ w.grownBy wr (some b) ∧ Hid (goR (N - k) s' acc = listR s)) (fun _ y _ => N - (intOf y).toNat)
    case atStart => exact ⟨0, [], t, Nat.zero_le _, rfl, Nat.le_refl _, World.ownsRow_nil _ _ _ _, h1, h2, HG⟩
    case round =>
      clear h1 h2 HG
      obtain ⟨k, acc, s', hk, rfl, hacc, hown, h1, h2, HG⟩ := hrel
      have hc2 : wr.cell? ⟨b, 2, none⟩ = some (.int .i64 s'.2) := by obtain ⟨_, _, hin, _⟩ := h1; exact hin.c2
      obtain ⟨e', he'⟩ : ∃ e', s'.2 = e' := ⟨_, rfl⟩
      rw [he'] at hc2
      by_cases he : e' = 0
      · subst he
        by_cases hlt : k < N
        · have HS : goR (N - k) s' acc = goR (N - (k + 1)) (textR s').2 (acc ++ [(textR s').1]) := by
            have e : N - k = (N - (k + 1)) + 1 := by omega
            rw [e, goR_step _ _ _ he']
          rw [HS] at HG
          clear HS he'
          go_wp2_with fail
          refine (rtext_any b s' _ h1).mono ?_
          rintro e w3 ⟨rfl, h3, h4⟩
          clear h1
          have h24 := grown_trans h2 h4
          have hne := own_ne hown hbw
          have hown3 := hown.kept h4 hne
          clear h4 h2 hown
          obtain ⟨x, t', hx⟩ : ∃ x t', textR s' = (x, t') := ⟨_, _, rfl⟩
          rw [hx] at HG h3 ⊢
          simp only at HG h3
          clear hx hc2
          go_wp2_with (at_builtin; refine wpList_append_own _ rfl _ _ 23 rfl w.heap.size 9 i0 (.string ⟨#[]⟩) 1 16 Try.underlying23 hi hz0 hz1 hz2 rfl (by decide) _ _ _ rfl (hown3.alloc _) ⟨w3.heap.size, 0, none⟩ 1 1 [.string (str x)] rfl rfl ?c1 ?c2 ?c3 ?c4 ?c5 ?_)
          case c1 => exact cell_one_new _ _ _
          case c2 => intro u hu; obtain rfl := List.mem_singleton.1 hu; rfl
          case c3 => unfold maxLen; omega
          case c4 => omega
          case c5 => have := h24.size; simp; omega
          intro v' w4 hown4 hg4 _
          have h5 : RfAt b t' w4 := by
            refine RfAt.later (h3.later (w' := w3.alloc _) (r := none) (grown_below ((Below.refl _ _).alloc (Nat.le_refl _) _) none) (by simp)) hg4 ?_
            rcases hne with h | h
            · rw [h]; simp
            · exact fun e => h e.symm
          have h6 : w.grownBy w4 (some b) := by
            refine ⟨hg4.os.trans h24.os, hg4.tape.trans h24.tape, hg4.output.trans h24.output, ?_, fun i hi hr => ?_⟩
            · have h1 := h24.size
              have h2 := hg4.size
              simp at h2
              omega
            · have hown' := hown3.lt
              have hs := h24.size
              rw [hg4.block i (by simp; omega) (fun e => by have := (hown' i e.symm).1; omega), Below.heap_alloc _ _ _ (by omega), h24.block i hi hr]
          clear hown3 hg4 hne h3 h24
          go_wp2
          go_roundw
          case rel =>
            refine ⟨k + 1, acc ++ [x], t', by omega, by go_num, by simp; omega, ?_, h5, h6, HG⟩
            simpa using hown4
          case measure => simp [intOf]; omega
        · obtain rfl : k = N := by omega
          rw [Nat.sub_self] at HG
          unfold goR at HG
          rw [if_pos he'] at HG
          clear he'
          go_wp2
          go_ret
          refine ⟨_, rfl, ?_, ?_, h2⟩
          · rw [← HG.out]; exact strAt_own hown
          · rw [← HG.out]; exact h1
      · have he2 : (e' == 0) = false := by simpa using he
        have he3 : (e' != 0) = true := by simpa using he
        unfold goR at HG
        rw [if_neg (by rw [he']; exact he)] at HG
        clear he he'
        by_cases hlt : k < N
        all_goals
          go_wp2
          go_ret
          refine ⟨_, rfl, ?_, ?_, h2⟩
          · rw [← HG.out]; exact ⟨none, 0, rfl, Or.inl rfl⟩
          · rw [← HG.out]; exact h1
  · have hm' : ¬ (65536 : Int) < (N : Int) := by omega
    clear hpos
    go_enter Try.func43, Try.ntmps43
    go_wp2_with (go_at_call 41; refine CN.mono ?_; rintro e w1 ⟨rfl, h1, h2⟩)
    obtain ⟨t, ht⟩ : ∃ t, (numR s 4).2 = t := ⟨_, rfl⟩
    rw [ht] at h1 HG
    clear ht CN
    go_loopw [4, 5] (fun v y wr => ∃ (k : Nat) (acc : List (List UInt8)) (s' : RdSt), k ≤ N ∧ y = .int .u64 k ∧ acc.length ≤ k ∧ wr.ownsRow w.heap.size 9 1 v acc.length (acc.map fun l => Value.string (str l)) ∧ RfAt b s' wr ∧ w.grownBy wr (some b) ∧ Hid (goR (N - k) s' acc = listR s)) (fun _ y _ => N - (intOf y).toNat)
    case atStart => exact ⟨0, [], t, Nat.zero_le _, rfl, Nat.le_refl _, World.ownsRow_nil _ _ _ _, h1, h2, HG⟩
    case round =>
      clear h1 h2 HG
      obtain ⟨k, acc, s', hk, rfl, hacc, hown, h1, h2, HG⟩ := hrel
      have hc2 : wr.cell? ⟨b, 2, none⟩ = some (.int .i64 s'.2) := by obtain ⟨_, _, hin, _⟩ := h1; exact hin.c2
      obtain ⟨e', he'⟩ : ∃ e', s'.2 = e' := ⟨_, rfl⟩
      rw [he'] at hc2
      by_cases he : e' = 0
      · subst he
        by_cases hlt : k < N
        · have HS : goR (N - k) s' acc = goR (N - (k + 1)) (textR s').2 (acc ++ [(textR s').1]) := by
            have e : N - k = (N - (k + 1)) + 1 := by omega
            rw [e, goR_step _ _ _ he']
          rw [HS] at HG
          clear HS he'
          go_wp2_with fail
          refine (rtext_any b s' _ h1).mono ?_
          rintro e w3 ⟨rfl, h3, h4⟩
          clear h1
          have h24 := grown_trans h2 h4
          have hne := own_ne hown hbw
          have hown3 := hown.kept h4 hne
          clear h4 h2 hown
          obtain ⟨x, t', hx⟩ : ∃ x t', textR s' = (x, t') := ⟨_, _, rfl⟩
          rw [hx] at HG h3 ⊢
          simp only at HG h3
          clear hx hc2
          go_wp2_with (at_builtin; refine wpList_append_own _ rfl _ _ 23 rfl w.heap.size 9 i0 (.string ⟨#[]⟩) 1 16 Try.underlying23 hi hz0 hz1 hz2 rfl (by decide) _ _ _ rfl (hown3.alloc _) ⟨w3.heap.size, 0, none⟩ 1 1 [.string (str x)] rfl rfl ?c1 ?c2 ?c3 ?c4 ?c5 ?_)
          case c1 => exact cell_one_new _ _ _
          case c2 => intro u hu; obtain rfl := List.mem_singleton.1 hu; rfl
          case c3 => unfold maxLen; omega
          case c4 => omega
          case c5 => have := h24.size; simp; omega
          intro v' w4 hown4 hg4 _
          have h5 : RfAt b t' w4 := by
            refine RfAt.later (h3.later (w' := w3.alloc _) (r := none) (grown_below ((Below.refl _ _).alloc (Nat.le_refl _) _) none) (by simp)) hg4 ?_
            rcases hne with h | h
            · rw [h]; simp
            · exact fun e => h e.symm
          have h6 : w.grownBy w4 (some b) := by
            refine ⟨hg4.os.trans h24.os, hg4.tape.trans h24.tape, hg4.output.trans h24.output, ?_, fun i hi hr => ?_⟩
            · have h1 := h24.size
              have h2 := hg4.size
              simp at h2
              omega
            · have hown' := hown3.lt
              have hs := h24.size
              rw [hg4.block i (by simp; omega) (fun e => by have := (hown' i e.symm).1; omega), Below.heap_alloc _ _ _ (by omega), h24.block i hi hr]
          clear hown3 hg4 hne h3 h24
          go_wp2
          go_roundw
          case rel =>
            refine ⟨k + 1, acc ++ [x], t', by omega, by go_num, by simp; omega, ?_, h5, h6, HG⟩
            simpa using hown4
          case measure => simp [intOf]; omega
        · obtain rfl : k = N := by omega
          rw [Nat.sub_self] at HG
          unfold goR at HG
          rw [if_pos he'] at HG
          clear he'
          go_wp2
          go_ret
          refine ⟨_, rfl, ?_, ?_, h2⟩
          · rw [← HG.out]; exact strAt_own hown
          · rw [← HG.out]; exact h1
      · have he2 : (e' == 0) = false := by simpa using he
        have he3 : (e' != 0) = true := by simpa using he
        unfold goR at HG
        rw [if_neg (by rw [he']; exact he)] at HG
        clear he he'
        by_cases hlt : k < N
        all_goals
          go_wp2
          go_ret
          refine ⟨_, rfl, ?_, ?_, h2⟩
          · rw [← HG.out]; exact ⟨none, 0, rfl, Or.inl rfl⟩
          · rw [← HG.out]; exact h1

end Go.Proofs.Ytpicaiikejohaaa
