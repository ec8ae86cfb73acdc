/- Clone, Compact of any slice, Set. -/
import Derived.Test.YthgjooacapodnaaHkL
namespace Go.Proofs.Ythgjooacapodnaa
open Go.RowKit

theorem info_fp : ∃ i : TypeInfo, Try.prog.info? 23 = some i ∧ i.size = 32 ∧ i.bytes = 32 ∧ ∃ z, i.zero = some z ∧ z.cells.size = 32 := by
  refine ⟨_, rfl, ?_, ?_, _, rfl, ?_⟩ <;> kernel_rfl

set_option maxRecDepth 100000 in
set_option maxHeartbeats 1000000 in
theorem clone_some (a : Addr) (c : Nat) (ls : List (List UInt8)) (hs : ls.length ≤ 1000000) (w : World) (h : FpsAt 32 ls (.slice (some a) ls.length c) w) :
    Calls Try.prog 36 #[.slice (some a) ls.length c] w fun e w' => ∃ v', e = .returned v' ∧ OwnFps w.heap.size ls v' w' ∧ Below w.heap.size w w' := by
  obtain ⟨i, hi, h1, h2, z, hz, hzs⟩ := info_fp
  have q22 : ∀ (w : World) (a : Option Addr) (n c n' c' : Nat), (binOp .eql 37 (.slice a n c) (.slice none n' c')).run Try.prog w = .ok (.bool a.isNone) w := fun w a n c n' c' => Lib.run_eql_slice_nil w _ _ a n c n' c' Try.underlying37
  have HF : Hid (FpsAt 32 ls (.slice (some a) ls.length c) w) := h
  have h32 := Lib.hid h.1
  obtain ⟨n, hn⟩ : ∃ n, n = ls.length := ⟨_, rfl⟩
  have HN := Lib.hid hn
  rw [← hn] at hs HF ⊢
  clear hn h
  go_enter Try.func36, Try.ntmps36
  go_wp2_with (at_builtin; refine wpList_append_fps rfl _ _ 37 rfl w.heap.size 23 i z 32 Try.underlying37 hi hz h1 h2 hzs _ _ _ rfl (World.ownsRow_made w #[] 0 (Nat.le_refl _) (Nat.zero_le _) (by simp)) _ ls rfl ?qc1 ?qc2 ?qc3 ?qc4 ?_)
  case qc1 =>
    have := HF.out.later ((Below.refl _ w).alloc (Nat.le_refl _) (.cells #[] 23))
    exact this
  case qc2 => rw [← HN.out]; unfold maxLen; omega
  case qc3 => rw [← HN.out]; omega
  case qc4 => simp
  intro v' w1 hown hgrow
  go_wp2
  go_ret
  refine ⟨_, rfl, ⟨h32.out, ?_⟩, ?_⟩
  · exact hown
  · exact ((Below.refl _ w).alloc (Nat.le_refl _) _).grown hgrow (by simp) (by intro k hk; simp [Value.ownBlock] at hk; omega)

set_option maxRecDepth 100000 in
theorem clone_none (n c : Nat) (w : World) :
    Calls Try.prog 36 #[.slice none n c] w fun e w' => e = .returned (.slice none 0 0) ∧ w' = w := by
  have q22 : ∀ (w : World) (a : Option Addr) (n c n' c' : Nat), (binOp .eql 37 (.slice a n c) (.slice none n' c')).run Try.prog w = .ok (.bool a.isNone) w := fun w a n c n' c' => Lib.run_eql_slice_nil w _ _ a n c n' c' Try.underlying37
  go_enter Try.func36, Try.ntmps36
  go_wp2
  go_ret
  exact ⟨rfl, rfl⟩

/-- slices.Clone of any slice of fingerprints. -/
theorem clone_any (v : Value) (ls : List (List UInt8)) (hs : ls.length ≤ 1000000) (w : World) (h : FpsAt 32 ls v w) :
    Calls Try.prog 36 #[v] w fun e w' => ∃ v', e = .returned v' ∧ OwnFps w.heap.size ls v' w' ∧ Below w.heap.size w w' := by
  obtain ⟨p, c, rfl, hc⟩ := h.2
  cases p with
  | some a => exact clone_some a c ls hs w h
  | none =>
    have h0 : ls = [] := by
      rcases hc with h0 | ⟨b, off, h0, _⟩
      · exact h0
      · cases h0
    subst h0
    refine (clone_none _ c w).mono ?_
    rintro e w' ⟨he, rfl⟩
    exact ⟨_, he, OwnFps.nil _ _, Below.refl _ _⟩

set_option maxRecDepth 100000 in
theorem compact_short (p : Option Addr) (n c : Nat) (h : n < 2) (w : World) :
    Calls Try.prog 38 #[.slice p n c] w fun e w' => e = .returned (.slice p n c) ∧ w' = w := by
  have h2' : (n : Int) < 2 := by omega
  have b2 : decide ((n : Int) < 2) = true := by simpa using h2'
  go_enter Try.func38, Try.ntmps38
  go_wp2
  go_ret
  exact ⟨rfl, rfl⟩

/-- slices.Compact of an own slice of fingerprints. -/
theorem compact_any (B : Nat) (ls : List (List UInt8)) (hs : ls.length ≤ 1000000) (v : Value) (w : World) (h : OwnFps B ls v w) :
    Calls Try.prog 38 #[v] w fun e w' => ∃ v', e = .returned v' ∧ OwnFps B (onceL ls) v' w' ∧ w.grownBy w' v.ownBlock ∧ v'.ownBlock = v.ownBlock := by
  rcases h.parts with ⟨rfl, rfl⟩ | ⟨g, cap, rest, rfl, hB, hr, hc, hm, hsz⟩
  · refine (compact_short none 0 0 (by decide) w).mono ?_
    rintro e w' ⟨he, rfl⟩
    exact ⟨_, he, h, grown_same _ _, rfl⟩
  · by_cases h2 : ls.length < 2
    · refine (compact_short _ _ cap h2 w).mono ?_
      rintro e w' ⟨he, rfl⟩
      have e1 : onceL ls = ls := by
        match ls, h2 with
        | [], _ => rfl
        | [a], _ => rfl
      rw [e1]
      exact ⟨_, he, h, grown_same _ _, rfl⟩
    · refine (compact_two g cap ls rest hs (by omega) hc w hr).mono ?_
      rintro e w' ⟨ms, rest', he, hms, hle, hr', hsz', hg⟩
      subst hms
      exact ⟨_, he, OwnFps.of_row hB hr' (by omega) hm (by omega), hg, rfl⟩

set_option maxRecDepth 100000 in
/-- Set. -/
theorem set_any (v : Value) (ls : List (List UInt8)) (hs : ls.length ≤ 1000000) (w : World) (h : FpsAt 32 ls v w) :
    Calls Try.prog 22 #[v] w fun e w' => ∃ v', e = .returned v' ∧ OwnFps w.heap.size (setL ls) v' w' ∧ Below w.heap.size w w' := by
  have h32 : All32 ls := h.1
  have C := clone_any v ls hs w h
  clear h
  go_enter Try.func22, Try.ntmps22
  go_wp2_with fail
  refine C.mono ?_
  rintro e w1 ⟨v1, rfl, ho1, hb1⟩
  have S := sort_any w.heap.size ls hs v1 w1 ho1
  have l1 := ho1.lt
  clear ho1 C
  go_wp2_with fail
  refine S.mono ?_
  rintro e w2 ⟨rfl, ms, hp, hpw, ho2, hg2⟩
  have hlen := hp.length_eq
  have K := compact_any w.heap.size ms (by omega) v1 w2 ho2
  have hset := once_set 32 ls ms h32 hp hpw
  rw [hset] at K
  have hb2 : Below w.heap.size w w2 := hb1.grown hg2 hb1.size (fun k hk => (l1 k hk).1)
  clear hset hpw hp S ho2 hg2 hb1
  go_wp2_with fail
  refine K.mono ?_
  rintro e w3 ⟨v3, rfl, ho3, hg3, hbl⟩
  go_wp2
  go_ret
  exact ⟨_, rfl, ho3, hb2.grown hg3 hb2.size (fun k hk => (l1 k hk).1)⟩

end Go.Proofs.Ythgjooacapodnaa
