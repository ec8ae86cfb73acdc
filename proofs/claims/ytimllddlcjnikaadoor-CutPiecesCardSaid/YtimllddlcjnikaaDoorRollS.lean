/- The walks of a Roll: add, Sum, Push; the hash of a text. -/
import Derived.Test.YtimllddlcjnikaaDoorRollR
namespace Go.Proofs.YtimllddlcjnikaaDoor
open Go.RowKit

theorem below_drewN' {B : Nat} {a w : World} (h : Below B a w) (n : Nat) : Below B a (w.drewN n) := ⟨h.os, h.tape, h.output, h.size, h.block⟩

set_option maxRecDepth 100000 in
set_option maxHeartbeats 4000000 in
theorem add_any (B rb : Nat) (hB : B ≤ rb) (l : List UInt8) (hl : l.length ≤ 1000000000000000) (b : UInt8) (w : World) (hw : B ≤ w.heap.size) (hR : IsRoll rb l w) :
    Calls Tryd.prog 47 #[.pointer (some ⟨rb, 0, none⟩), .int .u8 (b.toNat : Int)] w fun e w' => e = .returned (.tuple #[]) ∧ IsRoll rb (l ++ [b]) w' ∧ Below B w w' := by
  obtain ⟨A, hA, ga⟩ := hR
  obtain ⟨n, hn⟩ : ∃ n, n = l.length := ⟨_, rfl⟩
  obtain ⟨q, hq⟩ : ∃ q, q = n % 16 := ⟨_, rfl⟩
  have hq16 : q < 16 := by omega
  have hA2 := hA.push b
  rw [← hn] at ga hl
  rw [← hn, ← hq] at hA2
  have ga2 : (w.setCell ⟨rb, q, none⟩ (.int .u8 (b.toNat : Int))).heap[rb]? = some (.cells (rollA (A.set q b) n) 82 (0, 0)) := by
    rw [← rollA_set A n q b hA.1 hq16]; exact heap_setCell_same _ _ _ _ _ _ ga
  have ga3 : ((w.setCell ⟨rb, q, none⟩ (.int .u8 (b.toNat : Int))).drew.setCell ⟨rb, 16, none⟩ (.int .i64 ((n : Int) + 1))).heap[rb]? = some (.cells (rollA (A.set q b) (n + 1)) 82 (0, 0)) := by
    rw [← rollA_count (A.set q b) n (n + 1) hA2.1]; exact heap_setCell_same _ _ _ _ _ _ ga2
  have hI : IsRoll rb (l ++ [b]) ((w.setCell ⟨rb, q, none⟩ (.int .u8 (b.toNat : Int))).drew.setCell ⟨rb, 16, none⟩ (.int .i64 ((n : Int) + 1))) :=
    ⟨A.set q b, hA2, by rw [List.length_append, List.length_singleton, ← hn]; exact ga3⟩
  have c1 : w.cell? ⟨rb, 16, none⟩ = some (.int .i64 n) := (cell_of_row w _ _ _ _ _ ga).trans (rollA_last A _ hA.1)
  have f1 : w.frozen? ⟨rb, q, none⟩ = false := frozen_of_row _ _ _ _ _ ga
  have k1 : w.cell? ⟨rb, q, none⟩ = some (.int .u8 ((A.getD q 0).toNat : Int)) := (cell_of_row w _ _ _ _ _ ga).trans (rollA_get A _ _ hA.1 hq16)
  have c2 : (w.setCell ⟨rb, q, none⟩ (.int .u8 (b.toNat : Int))).cell? ⟨rb, 16, none⟩ = some (.int .i64 n) := (cell_of_row _ _ _ _ _ _ ga2).trans (rollA_last _ _ hA2.1)
  have f2 : (w.setCell ⟨rb, q, none⟩ (.int .u8 (b.toNat : Int))).frozen? ⟨rb, 16, none⟩ = false := frozen_of_row _ _ _ _ _ ga2
  have HI := Lib.hid hI
  have K : Below B w ((w.setCell ⟨rb, q, none⟩ (.int .u8 (b.toNat : Int))).drew.setCell ⟨rb, 16, none⟩ (.int .i64 ((n : Int) + 1))) := ((((Below.refl _ _).mono hw).setCell hB _).drew).setCell hB _
  have HK := Lib.hid K
  have em : (n : Int) % 16 = (q : Int) := by omega
  have hq2 : (q : Int) < 16 := by omega
  clear hI K ga2 ga3 hA2 hA ga hn hq
  go_enter Tryd.func47, Tryd.ntmps47
  go_wp2
  go_region
  go_wp2
  go_end0
  exact ⟨rfl, HI.out, HK.out⟩

set_option maxRecDepth 100000 in
set_option maxHeartbeats 1000000 in
theorem sumr_any (rb : Nat) (l : List UInt8) (hl : l.length ≤ 1000000000000000) (w : World) (hR : IsRoll rb l w) (hT : TabAt w) :
    Calls Tryd.prog 48 #[.pointer (some ⟨rb, 0, none⟩)] w fun e w' => e = .returned (.int .u32 (rsum l : Nat)) ∧ Below w.heap.size w w' := by
  have hs := bk_rsum l
  obtain ⟨m, hm⟩ : ∃ m, m = min l.length 16 := ⟨_, rfl⟩
  rw [← hm] at hs
  obtain ⟨n, hn⟩ : ∃ n, n = l.length := ⟨_, rfl⟩
  have hmin : (if (16 : Int) < n then (16 : Int) else (n : Int)) = (m : Int) := by split <;> omega
  have hmn : m ≤ n := by omega
  have hm16 : m ≤ 16 := by omega
  have HR := Lib.hid hR
  obtain ⟨A, hA, ga⟩ := hR
  have c16 : w.cell? ⟨rb, 16, none⟩ = some (.int .i64 n) := by rw [hn]; exact (cell_of_row w _ _ _ _ _ ga).trans (rollA_last A _ hA.1)
  have hrb : rb < w.heap.size := (Array.getElem?_eq_some_iff.1 ga).1
  have HN := Lib.hid hn
  have HS := Lib.hid hs
  have hlt31 := rsum_lt l
  obtain ⟨r, hr⟩ : ∃ r, r = rsum l := ⟨_, rfl⟩
  rw [← hr] at HS hlt31 ⊢
  have hnb : n ≤ 1000000000000000 := by omega
  have HM := Lib.hid hm
  clear hA ga hn hm hs hl hr
  go_enter Tryd.func48, Tryd.ntmps48
  go_wp2
  go_loopw [3, 12] (fun h x wr => ∃ (i : Nat), i ≤ m ∧ x = .int .i64 i ∧ h = .int .u64 (bk l i : Nat) ∧ Below w.heap.size w wr) (fun _ x _ => m - (intOf x).toNat)
  case atStart => exact ⟨0, Nat.zero_le _, rfl, rfl, Below.refl _ _⟩
  case round =>
    obtain ⟨i, hi, rfl, rfl, K⟩ := hrel
    have hb := bk_le l i (by omega)
    by_cases hlt : i < m
    · obtain ⟨A, hA, ga⟩ := HR.out.later K
      have c16' : wr.cell? ⟨rb, 16, none⟩ = some (.int .i64 n) := by rw [HN.out]; exact (cell_of_row wr _ _ _ _ _ ga).trans (rollA_last A _ hA.1)
      have hg := hA.get i (by rw [← HN.out]; omega) (by omega)
      rw [← HN.out] at hg
      obtain ⟨q, hq⟩ : ∃ q, q = (n - 1 - i) % 16 := ⟨_, rfl⟩
      have hq16 : q < 16 := by omega
      rw [← hq] at hg
      have cq : wr.cell? ⟨rb, q, none⟩ = some (.int .u8 ((A.getD q 0).toNat : Int)) := (cell_of_row wr _ _ _ _ _ ga).trans (rollA_get A _ _ hA.1 hq16)
      have hnx : bk l (i + 1) = bk l i + rterm (l.getD (n - 1 - i) 0) i := by rw [HN.out]; rfl
      rw [← hg] at hnx
      obtain ⟨c, hc⟩ : ∃ c, c = A.getD q 0 := ⟨_, rfl⟩
      rw [← hc] at cq hnx
      have TE := fun w' h => term_any c i (by omega) w' h
      have htl := rterm_le c i (by omega)
      obtain ⟨t, ht⟩ : ∃ t, t = rterm c i := ⟨_, rfl⟩
      rw [← ht] at TE htl hnx
      obtain ⟨cn, hcn⟩ : ∃ x, x = c.toNat := ⟨_, rfl⟩
      rw [← hcn] at TE cq
      obtain ⟨s, hs⟩ : ∃ s, s = bk l i := ⟨_, rfl⟩
      rw [← hs] at hb hnx ⊢
      obtain ⟨p1, hp1⟩ : ∃ p, p = n - 1 := ⟨_, rfl⟩
      obtain ⟨p2, hp2⟩ : ∃ p, p = p1 - i := ⟨_, rfl⟩
      have v1 : IntKind.i64.wrap ((n : Int) - 1) = (p1 : Int) := by rw [show (n : Int) - 1 = (p1 : Int) by omega]; exact IntWalk.i64_in _ (by omega)
      have v2 : IntKind.i64.wrap ((p1 : Int) - (i : Int)) = (p2 : Int) := by rw [show (p1 : Int) - (i : Int) = (p2 : Int) by omega]; exact IntWalk.i64_in _ (by omega)
      have em : ((p2 : Int)).tmod 16 = (q : Int) := by rw [Int.tmod_eq_emod_of_nonneg (by omega)]; omega
      have hq2 : (q : Int) < 16 := by omega
      have hq0 : (0 : Int) ≤ (q : Int) := by omega
      have hqn : ((q : Int)).toNat = q := by omega
      have hi2 : (i : Int) < m := by omega
      have hin : (i : Int) < n := by omega
      have TQ := fun k => TE (wr.drewN k) (hT.later (below_drewN' K k))
      have HX := Lib.hid hnx
      clear hg hA ga hc ht hcn hs hq hnx TE hp1 hp2
      go_wp2
      go_quiet ((go_at_call 50; exact Calls.quiet_of_same ((TQ _).mono fun _ _ h => ⟨h.1, h.2.symm⟩)))
      go_wp2
      go_roundw
      case rel => exact ⟨i + 1, by omega, by go_num, by rw [HX.out]; go_num, below_drewN' K _⟩
      case measure => simp [intOf]; omega
    · obtain rfl : i = m := by omega
      have hi2 : ¬ (i : Int) < i := by omega
      have e2 : ((bk l i : Nat) : Int) % 2147483647 = (r : Int) := by have := HS.out; omega
      obtain ⟨s, hs⟩ : ∃ s, s = bk l i := ⟨_, rfl⟩
      rw [← hs] at e2 hb ⊢
      clear hs HS HM
      go_wp2
      go_ret
      exact ⟨rfl, K⟩

end Go.Proofs.YtimllddlcjnikaaDoor
