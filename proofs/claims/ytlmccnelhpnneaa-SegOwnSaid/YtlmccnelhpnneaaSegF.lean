/- The walks of few and same (segments). -/
import Derived.Test.YtlmccnelhpnneaaSegL
namespace Go.Proofs.Ytlmccnelhpnneaa
open Go.RowKit

set_option maxRecDepth 100000 in
set_option maxHeartbeats 1000000 in
theorem fews_any (p : Option Addr) (c n : Nat) (ls : List (List UInt8)) (hn : n = ls.length) (hcap : n ≤ c) (w : World) (h : FpsAt 32 ls (.slice p n c) w) :
    Calls Try.prog 8 #[.slice p n c] w fun e w' => e = .returned (.slice p (ls.take 600).length c) ∧ w' = w := by
  by_cases h6 : 600 < n
  · obtain ⟨hcut, _⟩ := fps_take h hn hcap 600 (by omega) (by omega)
    have hl : (ls.take 600).length = 600 := by rw [List.length_take]; omega
    rw [hl]
    have hi : (600 : Int) < n := by omega
    clear h hn hl
    go_enter Try.func8, Try.ntmps8
    go_wp2
    go_ret
    exact ⟨rfl, rfl⟩
  · have hl : (ls.take 600).length = n := by rw [List.length_take]; omega
    rw [hl]
    have hi : ¬ (600 : Int) < n := by omega
    clear h hn hl
    go_enter Try.func8, Try.ntmps8
    go_wp2
    go_ret
    exact ⟨rfl, rfl⟩

theorem fews_fps (p : Option Addr) (c n : Nat) (ls : List (List UInt8)) (hn : n = ls.length) (hcap : n ≤ c) (w : World) (h : FpsAt 32 ls (.slice p n c) w) :
    FpsAt 32 (ls.take 600) (.slice p (ls.take 600).length c) w ∧ (ls.take 600).length ≤ c ∧ (ls.take 600).length ≤ 600 := by
  have h3 : (ls.take 600).length ≤ 600 := by rw [List.length_take]; omega
  by_cases h6 : 600 < n
  · obtain ⟨_, hf⟩ := fps_take h hn hcap 600 (by omega) (by omega)
    have hl : (ls.take 600).length = 600 := by rw [List.length_take]; omega
    rw [hl]
    exact ⟨hf, by omega, by omega⟩
  · have hl : ls.take 600 = ls := List.take_of_length_le (by omega)
    rw [hl] at h3 ⊢
    rw [← hn] at h3 ⊢
    exact ⟨h, hcap, h3⟩

set_option maxRecDepth 100000 in
set_option maxHeartbeats 1000000 in
/-- Are two rows of numbers the same? -/
theorem sames_any (xs ys : List Nat) (hs : xs.length ≤ 1000000) (v u : Value) (w : World) (h1 : I64At xs v w) (h2 : I64At ys u w) :
    Calls Try.prog 16 #[v, u] w fun e w' => e = .returned (.bool (xs == ys)) ∧ Kept w w' := by
  obtain ⟨p, c, rfl, hc1⟩ := h1
  obtain ⟨p2, c2, rfl, hc2⟩ := h2
  have HC := Lib.hid hc1
  have HC2 := Lib.hid hc2
  clear hc1 hc2
  by_cases hnm : xs.length = ys.length
  · obtain ⟨n, hn⟩ : ∃ n, n = xs.length := ⟨_, rfl⟩
    rw [← hnm, ← hn]
    have hn1 : n ≤ 1000000 := by omega
    have HN := Lib.hid hn
    have HM := Lib.hid (hn.trans hnm)
    clear hn hnm hs
    go_enter Try.func16, Try.ntmps16
    go_wp2
    go_loopw [5] (fun x wr => ∃ (k : Nat), k ≤ n ∧ x = .int .i64 k ∧ Hid (xs.take k = ys.take k) ∧ Hid (Kept w wr)) (fun x _ => n - (intOf x).toNat)
    case atStart => exact ⟨0, by omega, rfl, Lib.hid rfl, Kept.refl w⟩
    case round =>
      obtain ⟨k, hkn, rfl, HE, HK⟩ := hrel
      by_cases hlt : k < n
      · have hkx : k < xs.length := by rw [← HN.out]; exact hlt
        have hky : k < ys.length := by rw [← HM.out]; exact hlt
        rcases HC.out with h | ⟨b, off, rfl, hcell⟩
        · rw [h] at hkx; simp at hkx
        rcases HC2.out with h | ⟨b2, off2, rfl, hcell2⟩
        · rw [h] at hky; simp at hky
        have k1 : wr.cell? ⟨b, off + k, none⟩ = some (.int .i64 (xs.getD k 0 : Nat)) := HK.out.cell (hcell k hkx)
        have k2 : wr.cell? ⟨b2, off2 + k, none⟩ = some (.int .i64 (ys.getD k 0 : Nat)) := HK.out.cell (hcell2 k hky)
        have hti : (k : Int) < n := by omega
        have hnext : xs.getD k 0 = ys.getD k 0 → xs.take (k + 1) = ys.take (k + 1) := fun e => by
          rw [List.take_succ_eq_append_getElem hkx, List.take_succ_eq_append_getElem hky, HE.out]
          rw [List.getD_eq_getElem?_getD, List.getD_eq_getElem?_getD, List.getElem?_eq_getElem hkx, List.getElem?_eq_getElem hky] at e
          simp only [Option.getD_some] at e
          rw [e]
        have hdiff : xs.getD k 0 ≠ ys.getD k 0 → (xs == ys) = false := fun e => by
          rw [beq_eq_false_iff_ne]; intro e2; exact e (by rw [e2])
        obtain ⟨a, ha⟩ : ∃ a, a = xs.getD k 0 := ⟨_, rfl⟩
        obtain ⟨b', hb⟩ : ∃ b, b = ys.getD k 0 := ⟨_, rfl⟩
        rw [← ha] at k1 hnext hdiff
        rw [← hb] at k2 hnext hdiff
        have HNX := Lib.hid hnext
        have HDF := Lib.hid hdiff
        clear hcell hcell2 ha hb hnext hdiff HC HC2
        by_cases hab : a = b'
        · have bb : ((a : Int) != (b' : Int)) = false := by rw [hab]; simp
          have bb2 : ((a : Int) == (b' : Int)) = true := by rw [hab]; simp
          have HX := Lib.hid (HNX.out hab)
          clear HDF HNX hab
          go_wp2
          go_quiet (fail)
          go_wp2
          go_roundw
          case rel => exact ⟨k + 1, by omega, by go_num, HX, below_drewN' HK.out _⟩
          case measure => simp [intOf]; omega
        · have bb : ((a : Int) != (b' : Int)) = true := by simp; omega
          have bb2 : ((a : Int) == (b' : Int)) = false := beq_eq_false_iff_ne.2 (by omega)
          have HR := Lib.hid (HDF.out hab)
          clear HDF HNX hab
          go_wp2
          go_quiet (fail)
          go_wp2
          go_ret
          exact ⟨by rw [HR.out]; rfl, below_drewN' HK.out _⟩
      · obtain rfl : k = n := by omega
        have hti : ¬ (k : Int) < k := by omega
        have HR : Hid ((xs == ys) = true) := Lib.hid <| by
          have e := HE.out
          rw [List.take_of_length_le (by rw [← HN.out]; exact Nat.le_refl _), List.take_of_length_le (by rw [← HM.out]; exact Nat.le_refl _)] at e
          rw [e]; simp
        go_wp2
        go_ret
        exact ⟨by rw [HR.out]; rfl, HK.out⟩
  · have hne : (xs == ys) = false := by rw [beq_eq_false_iff_ne]; intro e; exact hnm (by rw [e])
    rw [hne]
    have bb : ((xs.length : Int) != (ys.length : Int)) = true := by simp; omega
    have bb2 : ((xs.length : Int) == (ys.length : Int)) = false := beq_eq_false_iff_ne.2 (by omega)
    clear hne
    go_enter Try.func16, Try.ntmps16
    go_wp2
    go_ret
    exact ⟨rfl, Kept.refl w⟩

end Go.Proofs.Ytlmccnelhpnneaa
