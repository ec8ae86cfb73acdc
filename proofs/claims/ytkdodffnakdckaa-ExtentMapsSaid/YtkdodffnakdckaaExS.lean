/- The document's over, Same. -/
import Derived.Test.YtkdodffnakdckaaExG
import Derived.Laws.StructEq
import Derived.Deep.LoopGhost
import Derived.Deep.CutBlock
namespace Go.Proofs.Ytkdodffnakdckaa
open Go.RowKit

theorem neq_run (a n b m : Int) (w : World) : (binOp .neq 57 (.agg #[.int .i64 a, .int .i64 n]) (.agg #[.int .i64 b, .int .i64 m])).run Try.prog w = .ok (.bool (!(decide (a = b) && decide (n = m)))) w := by
  have h := run_equalIn_struct (P := Try.prog) w 9999 57 #[.int .i64 a, .int .i64 n] #[.int .i64 b, .int .i64 m] (by kernel_rfl) (by kernel_rfl)
  have hq : (Op.equalIn 10000 57 (.agg #[.int .i64 a, .int .i64 n]) (.agg #[.int .i64 b, .int .i64 m])).run Try.prog w = .ok (decide (a = b) && decide (n = m)) w := by
    rw [h]
    by_cases h1 : a = b
    · by_cases h2 : n = m
      · subst h1 h2
        go_simp
      · subst h1
        go_simp
    · go_simp
  rw [run_neq_struct, hq]
  rfl

set_option maxRecDepth 100000 in
set_option maxHeartbeats 1000000 in
/-- Runs that overlap. -/
theorem rover_any (a n b m : Int) (ha : -9223372036854775808 ≤ a ∧ a ≤ 9223372036854775807) (hn : 1 ≤ n ∧ n ≤ 9223372036854775807) (hb : -9223372036854775808 ≤ b ∧ b ≤ 9223372036854775807) (w : World) :
    Calls Try.prog 42 #[.agg #[.int .i64 a, .int .i64 n], .agg #[.int .i64 b, .int .i64 m]] w fun e w' => e = .returned (.bool (decide (overR (a, n) (b, m)))) ∧ Below w.heap.size w w' := by
  obtain ⟨x, hx⟩ : ∃ x, x = decide (overR (a, n) (b, m)) := ⟨_, rfl⟩
  rw [← hx]
  unfold overR at hx
  have hbel : ∀ o o', Below w.heap.size w ((w.alloc o).alloc o') := fun o o' => (box_below w o).alloc (by simp) o'
  by_cases h1 : b ≥ a
  · by_cases h2 : a ≥ 0
    · have h3 : ¬ a < 0 := by omega
      obtain ⟨d, hd⟩ : ∃ d, d = b - a := ⟨_, rfl⟩
      have v1 : IntKind.i64.wrap (b - a) = d := by rw [← hd]; exact IntWalk.i64_in _ (by omega)
      by_cases h4 : d < n
      · obtain rfl : x = true := by rw [hx]; exact decide_eq_true ⟨h1, by show b < a + n; omega⟩
        clear hx hd
        go_enter Try.func42, Try.ntmps42
        go_wp2
        go_ret
        exact ⟨rfl, hbel _ _⟩
      · obtain rfl : x = false := by rw [hx]; exact decide_eq_false (fun y => by have y2 : b < a + n := y.2; omega)
        clear hx hd
        go_enter Try.func42, Try.ntmps42
        go_wp2
        go_ret
        exact ⟨rfl, hbel _ _⟩
    · have h3 : a < 0 := by omega
      obtain ⟨s, hs⟩ : ∃ s, s = a + n := ⟨_, rfl⟩
      have v1 : IntKind.i64.wrap (a + n) = s := by rw [← hs]; exact IntWalk.i64_in _ (by omega)
      by_cases h4 : b < s
      · obtain rfl : x = true := by rw [hx]; exact decide_eq_true ⟨h1, by show b < a + n; omega⟩
        clear hx hs
        go_enter Try.func42, Try.ntmps42
        go_wp2
        go_ret
        exact ⟨rfl, hbel _ _⟩
      · obtain rfl : x = false := by rw [hx]; exact decide_eq_false (fun y => by have y2 : b < a + n := y.2; omega)
        clear hx hs
        go_enter Try.func42, Try.ntmps42
        go_wp2
        go_ret
        exact ⟨rfl, hbel _ _⟩
  · obtain rfl : x = false := by rw [hx]; exact decide_eq_false (fun y => h1 y.1)
    clear hx
    go_enter Try.func42, Try.ntmps42
    go_wp2
    go_ret
    exact ⟨rfl, hbel _ _⟩

set_option maxRecDepth 100000 in
set_option maxHeartbeats 1000000 in
/-- Are two lists the same? -/
theorem rsame_any (la lb : List (Int × Int)) (u v : Value) (w : World) (ha : RunsAt la u w) (hb : RunsAt lb v w) (hla : la.length ≤ 1048576) :
    Calls Try.prog 18 #[u, v] w fun e w' => e = .returned (.bool (decide (la = lb))) ∧ Below w.heap.size w w' := by
  obtain ⟨pa, ca, rfl, -, hca⟩ := ha.out
  obtain ⟨pb, cb, rfl, -, hcb⟩ := hb.out
  by_cases hlen : la.length = lb.length
  · have b1 : ((la.length : Int) != (lb.length : Int)) = false := by rw [bne_eq_false_iff_eq]; omega
    have HCA := Lib.hid hca
    have HCB := Lib.hid hcb
    have HLEN := Lib.hid hlen
    obtain ⟨n, hn⟩ : ∃ n, n = la.length := ⟨_, rfl⟩
    have hm : lb.length = n := by omega
    rw [← hn] at b1 hla ⊢
    rw [hm] at b1 ⊢
    have HN := Lib.hid hn
    clear ha hb hca hcb hlen hn hm
    go_enter Try.func18, Try.ntmps18
    go_wp2
    go_loopg [5] n (fun gh s5 wx => ∃ k : Nat, k + gh = n ∧ s5 = .int .i64 k ∧ Hid (la.take k = lb.take k) ∧ Hid (Kept w wx))
    case atStart => exact ⟨0, by omega, rfl, Lib.hid rfl, Lib.hid (Kept.refl w)⟩
    case round =>
      obtain ⟨k, hk, rfl, HE, HK⟩ := hrel
      by_cases hkn : k < n
      · have hki : (k : Int) < n := by omega
        have bk : decide ((k : Int) < (n : Int)) = true := by simpa using hki
        have hki0 : (0 : Int) ≤ k := by omega
        have hka : k < la.length := by rw [← HN.out]; exact hkn
        have hkb : k < lb.length := by rw [← HLEN.out]; exact hka
        rcases HCA.out with h0 | ⟨ba, oa, rfl, hcella⟩
        · omega
        rcases HCB.out with h0 | ⟨bb, ob, rfl, hcellb⟩
        · omega
        have d1 := HK.out.cell (hcella k hka).1
        have d2 := HK.out.cell (hcella k hka).2
        have d3 := HK.out.cell (hcellb k hkb).1
        have d4 := HK.out.cell (hcellb k hkb).2
        have hne := neq_run la[k].1 la[k].2 lb[k].1 lb[k].2
        have htk := List.take_succ_eq_append_getElem hka
        have htl := List.take_succ_eq_append_getElem hkb
        have hd : (decide (la[k].1 = lb[k].1) && decide (la[k].2 = lb[k].2)) = decide (la[k] = lb[k]) := by
          rw [Bool.eq_iff_iff]; simp only [Bool.and_eq_true, decide_eq_true_eq, Prod.ext_iff]
        rw [hd] at hne
        obtain ⟨a1, ha1⟩ : ∃ a1, a1 = la[k].1 := ⟨_, rfl⟩
        obtain ⟨a2, ha2⟩ : ∃ a2, a2 = la[k].2 := ⟨_, rfl⟩
        obtain ⟨b1', hb1⟩ : ∃ b1', b1' = lb[k].1 := ⟨_, rfl⟩
        obtain ⟨b2', hb2⟩ : ∃ b2', b2' = lb[k].2 := ⟨_, rfl⟩
        rw [← ha1] at d1 hne
        rw [← ha2] at d2 hne
        rw [← hb1] at d3 hne
        rw [← hb2] at d4 hne
        obtain ⟨k1, hk1⟩ : ∃ k1, k1 = k + 1 := ⟨_, rfl⟩
        have v1 : IntKind.i64.wrap ((k : Int) + 1) = (k1 : Int) := by rw [show (k : Int) + 1 = (k1 : Int) by omega]; exact IntWalk.i64_in _ (by omega)
        by_cases heq : la[k] = lb[k]
        · have hnx : Hid (la.take k1 = lb.take k1) := Lib.hid (by rw [hk1, htk, htl, HE.out, heq])
          rw [decide_eq_true heq, Bool.not_true] at hne
          have HK2 : Hid (∀ j, Kept w (wr.drewN j)) := Lib.hid (fun j => HK.out.then (below_drewN (Below.refl _ wr) j))
          clear ha1 ha2 hb1 hb2 hd htk htl heq hcella hcellb
          go_wp2
          go_quiet (fail)
          go_wp2
          go_roundg (n - k1)
          case measure => omega
          case rel => exact ⟨k1, by omega, by first | rfl | (congr 1; omega), hnx, Lib.hid (HK2.out _)⟩
        · have hne2 : Hid (decide (la = lb) = false) := Lib.hid (decide_eq_false (fun e => heq (by subst e; rfl)))
          rw [decide_eq_false heq, Bool.not_false] at hne
          have HK2 : Hid (∀ j, Kept w (wr.drewN j)) := Lib.hid (fun j => HK.out.then (below_drewN (Below.refl _ wr) j))
          clear ha1 ha2 hb1 hb2 hd htk htl heq hcella hcellb
          go_wp2
          go_quiet (fail)
          go_wp2
          go_ret
          exact ⟨by rw [hne2.out]; rfl, HK2.out _⟩
      · have hki : ¬ (k : Int) < n := by omega
        have bk : decide ((k : Int) < (n : Int)) = false := by simpa using hki
        have hee : Hid (decide (la = lb) = true) := Lib.hid (decide_eq_true (by
          have h := HE.out
          rw [List.take_of_length_le (by rw [← HN.out]; omega), List.take_of_length_le (by rw [← HLEN.out, ← HN.out]; omega)] at h
          exact h))
        go_wp2
        go_ret
        exact ⟨by rw [hee.out]; rfl, HK.out⟩
  · have b1 : ((la.length : Int) != (lb.length : Int)) = true := by rw [bne_iff_ne]; omega
    have hne2 : Hid (decide (la = lb) = false) := Lib.hid (decide_eq_false (fun e => hlen (by rw [e])))
    obtain ⟨n, hn⟩ : ∃ n, n = la.length := ⟨_, rfl⟩
    obtain ⟨m, hm⟩ : ∃ m, m = lb.length := ⟨_, rfl⟩
    rw [← hn, ← hm] at b1 ⊢
    clear ha hb hca hcb hlen hn hm hla
    go_enter Try.func18, Try.ntmps18
    go_wp2
    go_ret
    exact ⟨by rw [hne2.out]; rfl, Below.refl _ _⟩

end Go.Proofs.Ytkdodffnakdckaa
