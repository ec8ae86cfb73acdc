/- The walk of PackBack. -/
import Derived.Test.YtpicaiikejohaaaRows
import Derived.Test.YtpicaiikejohaaaAwake
import Derived.Test.YtpicaiikejohaaaPlain2
import Derived.WalkKit
import Derived.WalkSpells
import Derived.WalkLawsBesides
import Derived.Lib.Hide
namespace Go.Proofs.Ytpicaiikejohaaa
open Go.RowKit

/-- The bytes ahead of what is left. -/
theorem ahead_eq (s : ByteArray) (x l : List UInt8) (h : s.data.toList = x ++ l) : s.extract 0 (s.size - l.length) = str x := by
  have e : s = str (x ++ l) := by rw [← h, str_data]
  subst e
  rw [str_size, str_take, List.length_append, Nat.add_sub_cancel, List.take_left]

/-- What the second part of PackBack answers, on either way. -/
theorem text_back (s : ByteArray) (h : s.size ≤ 2000) (he : (textR (s.data.toList, 0)).2.2 = 0) :
    s.extract 0 (s.size - (textR (s.data.toList, 0)).2.1.length) = str (textB (str (textR (s.data.toList, 0)).1)) ∧ (str (textR (s.data.toList, 0)).1).size ≤ 2000 ∧ (textR (s.data.toList, 0)).2.1.length ≤ s.size := by
  obtain ⟨x, l, e, hx⟩ : ∃ x l e, textR (s.data.toList, 0) = (x, (l, e)) := ⟨_, _, _, rfl⟩
  rw [hx] at he ⊢
  simp only at he ⊢
  subst he
  obtain ⟨_, h2⟩ := textR_ok hx
  have hlen := congrArg List.length h2
  simp only [List.length_append, textB_len, data_len] at hlen
  exact ⟨ahead_eq s _ _ h2, by omega, by omega⟩

theorem list_back (s : ByteArray) (h : s.size ≤ 2000) (he : (listR (s.data.toList, 0)).2.2 = 0) :
    s.extract 0 (s.size - (listR (s.data.toList, 0)).2.1.length) = str (listB ((listR (s.data.toList, 0)).1.map str)) ∧ (listB ((listR (s.data.toList, 0)).1.map str)).length ≤ 2000 ∧ (listR (s.data.toList, 0)).2.1.length ≤ s.size := by
  obtain ⟨x, l, e, hx⟩ : ∃ x l e, listR (s.data.toList, 0) = (x, (l, e)) := ⟨_, _, _, rfl⟩
  rw [hx] at he ⊢
  simp only at he ⊢
  subst he
  obtain ⟨_, h2⟩ := listR_ok hx
  have hlen := congrArg List.length h2
  simp only [List.length_append, data_len] at hlen
  exact ⟨ahead_eq s _ _ h2, by omega, by omega⟩

set_option maxHeartbeats 1000000 in
theorem walk_packBack (s : ByteArray) (_hs : s.size ≤ maxLen) (w : World) :
    Calls Try.prog 5 #[.string s] w (LawPost w) := by
  unfold maxLen at _hs
  by_cases h1 : (2000 : Int) < s.size
  · go_enter Try.func5, Try.ntmps5
    go_wp2_with (go_at_call 8; refine (awake_any _).mono ?_; rintro e w' ⟨rfl, hb⟩)
    go_ret
    exact ⟨rfl, hb⟩
  · have hs2 : s.size ≤ 2000 := by omega
    have hd : s.data.toList.length ≤ 1000000 := by rw [data_len]; omega
    have TB := Lib.hid (text_back s hs2)
    have LB := Lib.hid (list_back s hs2)
    go_enter Try.func5, Try.ntmps5
    go_wp2_with (go_at_call 18; refine (read_any s _).mono ?_; rintro e w1 ⟨rfl, R1, hb1⟩)
    go_wp2_with (go_at_call 25; refine (listr_any _ _ _ R1 hd).mono ?_; rintro e w2 ⟨v, rfl, V2, R2, hg2⟩)
    have K1 := below_touch hb1 hg2 hb1.size (Nat.le_refl _)
    clear hb1 hg2 R1
    obtain ⟨ts, l, er, hx⟩ : ∃ ts l er, listR (s.data.toList, 0) = (ts, (l, er)) := ⟨_, _, _, rfl⟩
    rw [hx] at V2 R2 LB
    simp only at V2 R2 LB
    clear hx
    have C1 := err_any _ _ _ R2
    simp only at C1
    have hsplit : er = 0 ∨ (er == 0) = false := by
      by_cases he : er = 0
      · exact Or.inl he
      · exact Or.inr (by simpa using he)
    rcases hsplit with he | he
    · subst he
      obtain ⟨q1, q2, q3⟩ := LB.out rfl
      have C3 := list_any _ _ _ V2 (by omega)
      clear LB V2
      go_wp2_with (first
        | (go_at_call 30; refine C1.mono ?_; rintro e w' ⟨rfl, rfl⟩)
        | (go_at_call 16; refine C3.mono ?_; rintro e w3 ⟨rfl, hb3⟩))
      have R3 := R2.later (grown_below hb3 none) (by simp)
      have K3 := Below.then' K1 hb3 K1.size
      have C2 := left_any _ _ _ R3
      clear C1 C3 R2 hb3 K1
      simp only at C2
      go_wp2_with (first
        | (go_at_call 28; refine C2.mono ?_; rintro e w' ⟨rfl, rfl⟩))
      clear C2 R3 q1 q2 q3
      go_wp2_with (go_at_call 18; refine (read_any s _).mono ?_; rintro e w4 ⟨rfl, R4, hb4⟩)
      have hge := K3.size
      have K4 := Below.then' K3 hb4 K3.size
      clear hb4
      go_wp2_with (go_at_call 23; refine (textr_any _ _ _ R4 hd).mono ?_; rintro e w5 ⟨rfl, R5, hg5⟩)
      have K5 := below_touch K4 hg5 K4.size hge
      clear hg5 R4 K4 K3 hge
      obtain ⟨x, l2, er2, hx2⟩ : ∃ x l er, textR (s.data.toList, 0) = (x, (l, er)) := ⟨_, _, _, rfl⟩
      rw [hx2] at R5 TB ⊢
      simp only at R5 TB
      clear hx2
      have C1 := err_any _ _ _ R5
      simp only at C1
      have hsplit2 : er2 = 0 ∨ (er2 != 0) = true := by
        by_cases he : er2 = 0
        · exact Or.inl he
        · exact Or.inr (by simpa using he)
      rcases hsplit2 with he2 | he2
      · subst he2
        obtain ⟨q1, q2, q3⟩ := TB.out rfl
        have C3 := text_any (str x) (by omega)
        rw [str_text] at C3
        clear TB
        go_wp2_with (first
          | (go_at_call 30; refine C1.mono ?_; rintro e w' ⟨rfl, rfl⟩)
          | (go_at_call 14; refine (C3 _).mono ?_; rintro e w6 ⟨rfl, hb6⟩))
        have R6 := R5.later (grown_below hb6 none) (by simp)
        have K6 := Below.then' K5 hb6 K5.size
        have C2 := left_any _ _ _ R6
        clear C1 C3 R5 hb6 K5
        simp only at C2
        go_wp2_with (first
          | (go_at_call 28; refine C2.mono ?_; rintro e w' ⟨rfl, rfl⟩)
          | (go_at_call 8; refine (awake_any _).mono ?_; rintro e w7 ⟨rfl, hb7⟩))
        go_ret
        exact ⟨rfl, Below.then' K6 hb7 K6.size⟩
      · clear TB
        go_wp2_with (first
          | (go_at_call 30; refine C1.mono ?_; rintro e w' ⟨rfl, rfl⟩)
          | (go_at_call 8; refine (awake_any _).mono ?_; rintro e w7 ⟨rfl, hb7⟩))
        go_ret
        exact ⟨rfl, Below.then' K5 hb7 K5.size⟩
    · go_wp2_with (first
        | (go_at_call 30; refine C1.mono ?_; rintro e w' ⟨rfl, rfl⟩))
      have K3 := K1
      clear C1 R2 V2 LB K1 he
      go_wp2_with (go_at_call 18; refine (read_any s _).mono ?_; rintro e w4 ⟨rfl, R4, hb4⟩)
      have hge := K3.size
      have K4 := Below.then' K3 hb4 K3.size
      clear hb4
      go_wp2_with (go_at_call 23; refine (textr_any _ _ _ R4 hd).mono ?_; rintro e w5 ⟨rfl, R5, hg5⟩)
      have K5 := below_touch K4 hg5 K4.size hge
      clear hg5 R4 K4 K3 hge
      obtain ⟨x, l2, er2, hx2⟩ : ∃ x l er, textR (s.data.toList, 0) = (x, (l, er)) := ⟨_, _, _, rfl⟩
      rw [hx2] at R5 TB ⊢
      simp only at R5 TB
      clear hx2
      have C1 := err_any _ _ _ R5
      simp only at C1
      have hsplit2 : er2 = 0 ∨ (er2 != 0) = true := by
        by_cases he : er2 = 0
        · exact Or.inl he
        · exact Or.inr (by simpa using he)
      rcases hsplit2 with he2 | he2
      · subst he2
        obtain ⟨q1, q2, q3⟩ := TB.out rfl
        have C3 := text_any (str x) (by omega)
        rw [str_text] at C3
        clear TB
        go_wp2_with (first
          | (go_at_call 30; refine C1.mono ?_; rintro e w' ⟨rfl, rfl⟩)
          | (go_at_call 14; refine (C3 _).mono ?_; rintro e w6 ⟨rfl, hb6⟩))
        have R6 := R5.later (grown_below hb6 none) (by simp)
        have K6 := Below.then' K5 hb6 K5.size
        have C2 := left_any _ _ _ R6
        clear C1 C3 R5 hb6 K5
        simp only at C2
        go_wp2_with (first
          | (go_at_call 28; refine C2.mono ?_; rintro e w' ⟨rfl, rfl⟩)
          | (go_at_call 8; refine (awake_any _).mono ?_; rintro e w7 ⟨rfl, hb7⟩))
        go_ret
        exact ⟨rfl, Below.then' K6 hb7 K6.size⟩
      · clear TB
        go_wp2_with (first
          | (go_at_call 30; refine C1.mono ?_; rintro e w' ⟨rfl, rfl⟩)
          | (go_at_call 8; refine (awake_any _).mono ?_; rintro e w7 ⟨rfl, hb7⟩))
        go_ret
        exact ⟨rfl, Below.then' K5 hb7 K5.size⟩

end Go.Proofs.Ytpicaiikejohaaa
