/- The walk of the document's size: digits as a number. -/
import Derived.Test.YtmobkjdncfdokaaDoorRefT2
namespace Go.Proofs.YtmobkjdncfdokaaDoor
open Go.RowKit

/-- Only digits. -/
def digs (l : List UInt8) : Bool := l.all fun c => decide (48 ≤ c.toNat ∧ c.toNat ≤ 57)

/-- What size answers. -/
def sizeR (l : List UInt8) : Nat × Bool :=
  if l.length < 1 ∨ 16 < l.length ∨ (1 < l.length ∧ (l.getD 0 0).toNat = 48) ∨ digs l = false then (0, false) else (numOf l, decide (numOf l ≤ 9007199254740992))

theorem digs_dec (u : Nat) : digs (Lib.decDigits u) = true := by
  unfold digs
  rw [List.all_eq_true]
  intro c hc
  exact decide_eq_true (dec_digits u c hc)

theorem sizeR_dec (u : Nat) (h : u ≤ 9007199254740992) : sizeR (Lib.decDigits u) = (u, true) := by
  unfold sizeR
  have h1 := List.length_pos_iff.2 (dec_ne u)
  have h2 := dec16 u h
  have h3 : ¬ (1 < (Lib.decDigits u).length ∧ ((Lib.decDigits u).getD 0 0).toNat = 48) := by
    rintro ⟨a, b⟩
    by_cases c : u < 10
    · rw [dec_small c] at a; simp at a
    · obtain ⟨x, r, e, hx⟩ := dec_head u (by omega)
      rw [e] at b
      exact hx b
  rw [if_neg (by rw [digs_dec]; simp only [Bool.true_eq_false, or_false]; rintro (q | q | q); omega; omega; exact h3 q), numOf_dec]
  rw [decide_eq_true h]

theorem sizeR_bound (l : List UInt8) (h : (sizeR l).2 = true) : (sizeR l).1 ≤ 9007199254740992 := by
  unfold sizeR at h ⊢
  split
  · simp
  · rename_i hn
    rw [if_neg hn] at h
    exact of_decide_eq_true h

theorem digs_take (l : List UInt8) (h : digs l = true) (i : Nat) (hi : i < l.length) : 48 ≤ l[i].toNat ∧ l[i].toNat ≤ 57 :=
  of_decide_eq_true (List.all_eq_true.1 h l[i] (List.getElem_mem hi))

theorem digs_prefix {l : List UInt8} {i : Nat} (h : digs (l.take i) = true) (hi : i < l.length) (hd : 48 ≤ l[i].toNat ∧ l[i].toNat ≤ 57) : digs (l.take (i + 1)) = true := by
  rw [List.take_succ_eq_append_getElem hi]
  unfold digs at h ⊢
  rw [List.all_append, h]
  simp [hd]

theorem digs_not {l : List UInt8} {i : Nat} (hi : i < l.length) (hd : ¬ (48 ≤ l[i].toNat ∧ l[i].toNat ≤ 57)) : digs l = false := by
  cases h : digs l with
  | false => rfl
  | true => exact absurd (digs_take l h i hi) hd

theorem numOf_small (l : List UInt8) (i : Nat) (hi : i ≤ l.length) (h : digs (l.take i) = true) (h16 : i ≤ 16) : numOf (l.take i) < 10000000000000000 := by
  have h1 := numOf_lt (l.take i) (fun c hc => by
    have := List.all_eq_true.1 h c hc
    exact (of_decide_eq_true this).2) i (by rw [List.length_take]; omega)
  rw [List.take_take, Nat.min_self] at h1
  have : 10 ^ i ≤ 10 ^ 16 := Nat.pow_le_pow_right (by omega) h16
  omega

set_option maxRecDepth 100000 in
set_option maxHeartbeats 4000000 in
theorem size_any (s : ByteArray) (hs : s.size ≤ 60) (w : World) :
    Calls Tryd.prog 19 #[.string s] w fun e w' => e = .returned (.tuple #[.int .i64 (sizeR s.data.toList).1, .bool (sizeR s.data.toList).2]) ∧ w = w' := by
  have hl := data_len s
  obtain ⟨l, hle⟩ : ∃ l, l = s.data.toList := ⟨_, rfl⟩
  have hat : ∀ i (hi : i < s.size), (s[i]'hi).toNat = (l.getD i 0).toNat ∧ (s.data[i]'hi).toNat = (l.getD i 0).toNat := by
    intro i hi
    have : l.getD i 0 = s[i]'hi := by
      rw [hle, List.getD_eq_getElem?_getD, Lib.data_getElem? s i hi]; rfl
    rw [this]
    exact ⟨rfl, rfl⟩
  rw [← hle] at hl ⊢
  clear hle
  have HAT := Lib.hid hat
  have HL := Lib.hid hl
  clear hat hl
  by_cases c1 : s.size < 1
  · have e : sizeR l = (0, false) := by unfold sizeR; rw [if_pos (by rw [HL.out]; exact Or.inl c1)]
    rw [e]
    have d1 : (s.size : Int) < 1 := by omega
    clear e
    go_enter Tryd.func19, Tryd.ntmps19
    go_wp2
    go_ret2
    exact ⟨rfl, rfl⟩
  have d1 : ¬ ((s.size : Int) < 1) := by omega
  by_cases c2 : 16 < s.size
  · have e : sizeR l = (0, false) := by unfold sizeR; rw [if_pos (by rw [HL.out]; exact Or.inr (Or.inl c2))]
    rw [e]
    have d2 : (16 : Int) < s.size := by omega
    clear e
    go_enter Tryd.func19, Tryd.ntmps19
    go_wp2
    go_ret2
    exact ⟨rfl, rfl⟩
  have d2 : ¬ ((16 : Int) < s.size) := by omega
  have hpos : (0 : Int) < s.size := by omega
  obtain ⟨q1, q2⟩ := HAT.out 0 (by omega)
  obtain ⟨b, hb⟩ : ∃ b, (l.getD 0 0).toNat = b := ⟨_, rfl⟩
  rw [hb] at q1 q2
  by_cases c3 : 1 < s.size ∧ b = 48
  · have e : sizeR l = (0, false) := by unfold sizeR; rw [if_pos (by rw [HL.out, hb]; exact Or.inr (Or.inr (Or.inl c3)))]
    rw [e]
    have d3 : (1 : Int) < s.size := by omega
    obtain ⟨_, rfl⟩ := c3
    clear e
    go_enter Tryd.func19, Tryd.ntmps19
    go_wp2
    go_ret2
    exact ⟨rfl, rfl⟩
  have HE : Hid (digs l = true → sizeR l = (numOf l, decide (numOf l ≤ 9007199254740992))) := fun h => by
    unfold sizeR
    rw [if_neg]
    rw [HL.out, hb, h]
    simp only [Bool.true_eq_false, or_false]
    rintro (q | q | q)
    · omega
    · omega
    · exact c3 q
  have HE2 : Hid (digs l = false → sizeR l = (0, false)) := fun h => by
    unfold sizeR
    rw [if_pos (Or.inr (Or.inr (Or.inr h)))]
  have c3' : (1 : Int) < s.size ∧ ((b : Int) == 48) = false ∨ ¬ ((1 : Int) < s.size) := by
    by_cases d : 1 < s.size
    · left; refine ⟨by omega, ?_⟩; simp; omega
    · right; omega
  have h16 : s.size ≤ 16 := by omega
  clear c3 hb
  rcases c3' with ⟨d3, d4⟩ | d3
  all_goals
    go_enter Tryd.func19, Tryd.ntmps19
    go_wp2
    go_loopw [4, 5] (fun x y wr => ∃ (i : Nat), i ≤ s.size ∧ y = .int .i64 i ∧ x = .int .i64 (numOf (l.take i) : Nat) ∧ digs (l.take i) = true ∧ wr = w) (fun _ y _ => s.size - (intOf y).toNat)
    case atStart => exact ⟨0, Nat.zero_le _, rfl, rfl, rfl, rfl⟩
    case round =>
      obtain ⟨i, hi, rfl, rfl, hdg, rfl⟩ := hrel
      have hsm := numOf_small l i (by rw [HL.out]; exact hi) hdg (by omega)
      have HDG := Lib.hid hdg
      clear hdg q1 q2
      by_cases hlt : i < s.size
      · have hil : i < l.length := by rw [HL.out]; exact hlt
        obtain ⟨q1, q2⟩ := HAT.out i hlt
        have hg : l.getD i 0 = l[i] := by rw [List.getD_eq_getElem?_getD, List.getElem?_eq_getElem hil]; rfl
        have hnx := numOf_take l i hil
        obtain ⟨n, hn⟩ : ∃ n, n = numOf (l.take i) := ⟨_, rfl⟩
        rw [← hn] at hsm hnx ⊢
        obtain ⟨d, hd⟩ : ∃ d, l[i].toNat = d := ⟨_, rfl⟩
        rw [hg, hd] at q1 q2
        rw [hd] at hnx
        have hd256 : d < 256 := by rw [← hd]; exact l[i].toNat_lt
        have hdi : (d : Int) < 256 := by omega
        have hni : (n : Int) < 10000000000000000 := by omega
        have hlti : (i : Int) < s.size := by omega
        by_cases hdg : 48 ≤ d ∧ d ≤ 57
        · have HN := Lib.hid (digs_prefix HDG.out hil (by rw [hd]; exact hdg))
          have HX := Lib.hid hnx
          have g1 : ¬ ((d : Int) < 48) := by omega
          have g2 : ¬ ((57 : Int) < d) := by omega
          have g3 : (48 : Int) ≤ d := by omega
          have g4 : (d : Int) ≤ 57 := by omega
          clear hnx hg hd hn hdg
          go_wp2
          go_roundw
          case rel => exact ⟨i + 1, by omega, by go_num, by rw [HX.out]; congr 1; omega, HN.out, trivial⟩
          case measure => simp [intOf]; omega
        · have HR := Lib.hid (HE2.out (digs_not hil (by rw [hd]; exact hdg)))
          have g : (d : Int) < 48 ∨ ¬ ((d : Int) < 48) ∧ (57 : Int) < d := by omega
          clear hnx hg hd hn hdg
          rcases g with g1 | ⟨g1, g2⟩
          all_goals
            go_wp2
            go_ret2
            rw [HR.out]
            exact ⟨rfl, rfl⟩
      · obtain rfl : i = s.size := by omega
        have hT : l.take s.size = l := List.take_of_length_le (by rw [HL.out]; exact Nat.le_refl _)
        have hdg := HDG.out
        rw [hT] at hdg hsm ⊢
        have HR := Lib.hid (HE.out hdg)
        clear hT hdg HDG
        obtain ⟨n, hn⟩ : ∃ n, n = numOf l := ⟨_, rfl⟩
        have HN := Lib.hid hn
        rw [← hn] at hsm ⊢
        clear hn hlt
        by_cases hle : n ≤ 9007199254740992
        · have hli : (n : Int) ≤ 9007199254740992 := by omega
          have HDd := Lib.hid (decide_eq_true hle)
          go_wp2
          go_ret2
          rw [HR.out, ← HN.out, HDd.out]
          exact ⟨rfl, rfl⟩
        · have hli : ¬ ((n : Int) ≤ 9007199254740992) := by omega
          have HDd := Lib.hid (decide_eq_false hle)
          go_wp2
          go_ret2
          rw [HR.out, ← HN.out, HDd.out]
          exact ⟨rfl, rfl⟩

end Go.Proofs.YtmobkjdncfdokaaDoor
