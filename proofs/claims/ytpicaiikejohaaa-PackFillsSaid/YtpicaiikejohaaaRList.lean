/- The walk of pack's reader's List. -/
import Derived.Test.YtpicaiikejohaaaRows
import Derived.Test.YtpicaiikejohaaaPlain
import Derived.Test.YtpicaiikejohaaaReader
import Derived.WalkKit
import Derived.WalkSpells
import Derived.WalkLawsBesides
import Derived.Deep.OwnRows
import Derived.Deep.LoopGhost
import Derived.Lib.Hide
import Derived.Lib.Builder
namespace Go.Proofs.Ytpicaiikejohaaa
open Go.RowKit

theorem infoStr : (Try.prog.info? 9).map (fun i => (i.zero, i.size, i.bytes)) = some (some (.string ⟨#[]⟩), 1, 16) := by kernel_rfl

theorem lenR_le (s : RdSt) : (lenR s 65536).1 ≤ 65536 := by
  unfold lenR
  split
  · simp
  · omega

def ListPost (b : Nat) (s : RdSt) (w : World) (e : Ending) (w' : World) : Prop :=
  ∃ v, e = .returned v ∧ StrAt ((listR s).1.map str) v w' ∧ RdAt b (listR s).2 w' ∧ w.grownBy w' (some b)

/-- A row of the call's own that holds texts is a slice of them. -/
theorem strAt_own {w : World} {B : Nat} {v : Value} {acc : List (List UInt8)} (h : w.ownsRow B 9 1 v acc.length (acc.map fun l => Value.string (str l))) : StrAt (acc.map str) v w := by
  rcases h.2 with ⟨rfl, h0⟩ | ⟨g, cap, cur, rfl, _, hg, _, _, hcs, htake⟩
  · have : acc = [] := List.length_eq_zero_iff.1 h0
    subst this
    exact ⟨none, 0, rfl, Or.inl rfl⟩
  · refine ⟨some ⟨g, 0, none⟩, cap, by simp, Or.inr ⟨g, 0, rfl, fun i hi => ?_⟩⟩
    have hi' : i < acc.length := by simpa using hi
    have := h.cells (g := g) rfl i (.string (str acc[i])) (by simp [hi'])
    have e : (⟨g, 0, none⟩ : Addr).add i = ⟨g, 0 + i, none⟩ := by unfold Addr.add; split <;> simp_all
    rw [e] at this
    rw [this]; simp

/-- .. the list in new memory. -/
def ListOwn (b : Nat) (s : RdSt) (w : World) (e : Ending) (w' : World) : Prop :=
  ∃ v, e = .returned v ∧ w'.ownsRow w.heap.size 9 1 v (listR s).1.length ((listR s).1.map fun l => Value.string (str l)) ∧ RdAt b (listR s).2 w' ∧ w.grownBy w' (some b)

set_option maxHeartbeats 1000000 in
theorem listr_own (b : Nat) (s : RdSt) (w : World) (h : RdAt b s w) (hl : s.1.length ≤ 1000000) :
    Calls Try.prog 25 #[.pointer (some ⟨b, 0, none⟩)] w (ListOwn b s w) := by
  obtain ⟨i0, hi, hz0, hz1, hz2⟩ := info_parts infoStr
  have hN := lenR_le s
  have hl2 := lenR_len s 65536
  have hbw := h.lt
  go_enter Try.func25, Try.ntmps25
  go_wp2
  go_step3
  go_wp2
  go_step3
  go_wp2_with (go_at_call 40; refine (length_any b s _ h hl).mono ?_; rintro e w' ⟨rfl, h1, h2⟩)
  obtain ⟨N, hNN⟩ : ∃ N, (lenR s 65536).1 = N := ⟨_, rfl⟩
  obtain ⟨t, ht⟩ : ∃ t, (lenR s 65536).2 = t := ⟨_, rfl⟩
  have HL : Hid (textsR N t [] = listR s) := by subst hNN; subst ht; rfl
  rw [hNN] at hN
  rw [ht] at hl2 h1
  rw [hNN]
  clear hNN ht h
  go_loopw [3, 7] (fun v y wr => ∃ (k : Nat) (acc : List (List UInt8)) (s' : RdSt), k ≤ N ∧ y = .int .i64 k ∧ acc.length ≤ k ∧ wr.ownsRow w.heap.size 9 1 v acc.length (acc.map fun l => Value.string (str l)) ∧ RdAt b s' wr ∧ w.grownBy wr (some b) ∧ s'.1.length ≤ 1000000 ∧ Hid (textsR (N - k) s' acc = listR s)) (fun _ y _ => N - (intOf y).toNat)
  case atStart => exact ⟨0, [], t, Nat.zero_le _, rfl, Nat.le_refl _, World.ownsRow_nil _ _ _ _, h1, h2, by omega, HL⟩
  case round =>
    clear h1 h2 HL hl2
    obtain ⟨k, acc, s', hk, rfl, hacc, hown, h1, h2, hl2, HL⟩ := hrel
    by_cases hlt : k < N
    · have hl3 : (textR s').2.1.length ≤ 1000000 := Nat.le_trans (textR_len s') hl2
      have HE : textsR (N - k) s' acc = if (textR s').2.2 = 0 then textsR (N - (k + 1)) (textR s').2 (acc ++ [(textR s').1]) else ([], (textR s').2) := by
        have e : N - k = (N - (k + 1)) + 1 := by omega
        rw [e]; rfl
      rw [HE] at HL
      clear HE
      go_wp2_with (go_at_call 23; refine (textr_any b s' _ h1 hl2).mono ?_)
      rintro e w3 ⟨rfl, h3, h4⟩
      have c1 := h3.c1
      have h24 := grown_trans h2 h4
      have hne : u3.ownBlock = none ∨ u3.ownBlock ≠ some b := Or.inr fun e => by have := (hown.lt b e).1; omega
      have hown3 := hown.kept h4 hne
      clear h4 h2 hown h1
      obtain ⟨x, t', hx⟩ : ∃ x t', textR s' = (x, t') := ⟨_, _, rfl⟩
      rw [hx] at HL hl3 h3 c1 ⊢
      simp only at HL hl3 h3 c1
      clear hx hl2
      obtain ⟨l', e'⟩ := t'
      simp only at c1 hl3 HL
      by_cases he : e' = 0
      · subst he
        rw [if_pos rfl] at HL
        go_wp2_with (at_builtin; refine wpList_append_own _ rfl _ _ 23 rfl w.heap.size 9 i0 (.string ⟨#[]⟩) 1 16 Try.underlying23 hi hz0 hz1 hz2 rfl (by decide) _ _ _ rfl (hown3.alloc _) ⟨w3.heap.size, 0, none⟩ 1 1 [.string (str x)] rfl rfl ?c1 ?c2 ?c3 ?c4 ?c5 ?_)
        case c1 => exact cell_one_new _ _ _
        case c2 => intro u hu; obtain rfl := List.mem_singleton.1 hu; rfl
        case c3 => unfold maxLen; omega
        case c4 => omega
        case c5 => have := h24.size; simp; omega
        intro v' w4 hown4 hg4 _
        have h5 : RdAt b (l', 0) w4 := by
          refine RdAt.later (h3.later (w' := w3.alloc _) (r := none) (grown_below ((Below.refl _ _).alloc (Nat.le_refl _) _) none) (by simp)) hg4 ?_
          rcases hne with h | h
          · rw [h]; simp
          · exact fun e => h e.symm
        have h6 : w.grownBy w4 (some b) := by
          refine ⟨hg4.os.trans h24.os, hg4.tape.trans h24.tape, hg4.output.trans h24.output, ?_, fun i hi hr => ?_⟩
          · have h1 := h24.size
            have h2 := hg4.size
            simp at h2
            omega
          · have hown' := hown3.lt
            have hs := h24.size
            rw [hg4.block i (by simp; omega) (fun e => by have := (hown' i e.symm).1; omega), Below.heap_alloc _ _ _ (by omega), h24.block i hi hr]
        clear hown3 hg4 hne h3 h24 c1
        go_wp2
        go_roundw
        case rel =>
          refine ⟨k + 1, acc ++ [x], (l', 0), by omega, by go_num, by simp; omega, ?_, h5, h6, hl3, HL⟩
          simpa using hown4
        case measure => simp [intOf]; omega
      · rw [if_neg he] at HL
        have he' : (e' == 0) = false := by simpa using he
        have HE := Lib.hid he
        clear he
        go_wp2
        try rw [Exit.noGoto_ret]
        go_ret
        refine ⟨_, rfl, ?_, ?_, h24⟩
        · rw [← HL.out]; exact World.ownsRow_nil _ _ _ _
        · rw [← HL.out]; exact h3
    · obtain rfl : k = N := by omega
      rw [Nat.sub_self] at HL
      go_wp2
      try rw [Exit.noGoto_ret]
      go_ret
      refine ⟨_, rfl, ?_, ?_, h2⟩
      · rw [← HL.out]; exact hown
      · rw [← HL.out]; exact h1

theorem listr_any (b : Nat) (s : RdSt) (w : World) (h : RdAt b s w) (hl : s.1.length ≤ 1000000) :
    Calls Try.prog 25 #[.pointer (some ⟨b, 0, none⟩)] w (ListPost b s w) :=
  (listr_own b s w h hl).mono fun _ _ ⟨v, he, h1, h2, h3⟩ => ⟨v, he, strAt_own h1, h2, h3⟩

end Go.Proofs.Ytpicaiikejohaaa
