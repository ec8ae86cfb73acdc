/- The document's part, signed, May, Same of recipes. The document's May of recipes. The document's Same of recipes. -/
import Derived.Test.YtijdbmapdmhknaaDoorRqR
import Derived.Test.YtijdbmapdmhknaaDoorRqW
import Derived.BigQuiet
import Derived.Deep.LoopGhost
namespace Go.Proofs.YtijdbmapdmhknaaDoor
open Go.RowKit

theorem rpart_any (z : Int) (w : World) :
    Calls Tryd.prog 35 #[.int .i64 z] w fun e w' => e = .returned (.bool (decide (partQ z))) ∧ w = w' := by
  by_cases h1 : -2147483648 ≤ z
  · have b1 : decide (z ≥ -2147483648) = true := decide_eq_true h1
    by_cases h2 : z ≤ 2147483647
    · have b2 : decide (z ≤ 2147483647) = true := decide_eq_true h2
      rw [decide_eq_true (show partQ z from ⟨h1, h2⟩)]
      clear h1 h2
      go_enter Tryd.func35, Tryd.ntmps35
      go_wp2
      go_ret
      exact ⟨rfl, rfl⟩
    · have b2 : decide (z ≤ 2147483647) = false := decide_eq_false h2
      rw [decide_eq_false (show ¬ partQ z from fun x => h2 x.2)]
      clear h1 h2
      go_enter Tryd.func35, Tryd.ntmps35
      go_wp2
      go_ret
      exact ⟨rfl, rfl⟩
  · have b1 : decide (z ≥ -2147483648) = false := decide_eq_false h1
    rw [decide_eq_false (show ¬ partQ z from fun x => h1 x.1)]
    clear h1
    go_enter Tryd.func35, Tryd.ntmps35
    go_wp2
    go_ret
    exact ⟨rfl, rfl⟩

theorem rsigned_any (n : Nat) (hn : n < 4294967296) (w : World) :
    Calls Tryd.prog 44 #[.int .u64 (n : Nat)] w fun e w' => e = .returned (.int .i64 (sgnQ n)) ∧ w = w' := by
  have hi := IntWalk.i64_in (n : Int) (by omega)
  unfold sgnQ
  by_cases h : 2147483647 < n
  · have b1 : decide ((n : Int) > 2147483647) = true := decide_eq_true (by omega)
    have hi2 := IntWalk.i64_in ((n : Int) - 4294967296) (by omega)
    rw [if_pos h]
    go_enter Tryd.func44, Tryd.ntmps44
    go_wp2
    go_ret
    exact ⟨rfl, rfl⟩
  · have b1 : decide ((n : Int) > 2147483647) = false := decide_eq_false (by omega)
    rw [if_neg h]
    go_enter Tryd.func44, Tryd.ntmps44
    go_wp2
    go_ret
    exact ⟨rfl, rfl⟩

end Go.Proofs.YtijdbmapdmhknaaDoor
namespace Go.Proofs.YtijdbmapdmhknaaDoor
open Go.RowKit

/-- A recipe put into a block of its own. -/
theorem rp_row (X : Array Value) (w : World) : (w.alloc (.cells X 24)).heap[w.heap.size]? = some (.cells X 24 (0, 0)) := heap_alloc_last w _

set_option maxRecDepth 100000 in
set_option maxHeartbeats 16000000 in
theorem rmay16_any (r : Rp) (v : Value) (w : World) (H : RpIs r v w) (hl : r.mans.length ≤ 1000000) :
    Calls Tryd.prog 14 #[v] w fun e w' => e = .returned (.bool (decide (mayQ r))) ∧ Kept w w' := by
  obtain ⟨tv, rfl, hm, hwf⟩ := H
  obtain ⟨p, c, rfl, hcap, hc⟩ := hm.out encU
  have HG : Hid (∀ x ∈ r.mans, x < 4294967296) := Lib.hid hm.good
  have HC := Lib.hid hc
  have hmay : mayQ r ↔ (1 ≤ r.name.length ∧ r.name.length ≤ 48) ∧ (0 ≤ r.size ∧ r.size ≤ 1048576) ∧ (partQ r.re ∧ partQ r.im) ∧ r.mans.length ≤ 1024 ∧ ∀ m ∈ r.mans, manQ m := Iff.rfl
  have hss : (str r.name).size = r.name.length := str_size _
  unfold rpC
  obtain ⟨res, hres⟩ : ∃ x, x = decide (mayQ r) := ⟨_, rfl⟩
  obtain ⟨s, hs⟩ : ∃ s, s = str r.name := ⟨_, rfl⟩
  obtain ⟨z, hz⟩ : ∃ z, z = r.size := ⟨_, rfl⟩
  obtain ⟨x, hx⟩ : ∃ x, x = r.re := ⟨_, rfl⟩
  obtain ⟨y, hy⟩ : ∃ y, y = r.im := ⟨_, rfl⟩
  obtain ⟨n, hn⟩ : ∃ n, n = r.mans.length := ⟨_, rfl⟩
  rw [← hs] at hss ⊢
  rw [← hss, ← hz, ← hx, ← hy, ← hn] at hmay
  rw [← hres, ← hz, ← hx, ← hy, ← hn]
  rw [← hn] at hl
  have HN := Lib.hid hn
  have HL := Lib.hid hl
  have HR : Hid (res = true ↔ (1 ≤ s.size ∧ s.size ≤ 48) ∧ (0 ≤ z ∧ z ≤ 1048576) ∧ (partQ x ∧ partQ y) ∧ n ≤ 1024 ∧ ∀ m ∈ r.mans, manQ m) := Lib.hid (by rw [hres, decide_eq_true_iff, hmay])
  have RF : Hid (¬ ((1 ≤ s.size ∧ s.size ≤ 48) ∧ (0 ≤ z ∧ z ≤ 1048576) ∧ (partQ x ∧ partQ y) ∧ n ≤ 1024 ∧ ∀ m ∈ r.mans, manQ m) → res = false) := Lib.hid (fun h => by
    cases res with
    | false => rfl
    | true => exact absurd (HR.out.1 rfl) h)
  obtain ⟨X, hX⟩ : ∃ X : Array Value, X = #[.string s, .int .i64 z, .int .i64 x, .int .i64 y, .slice p n c] := ⟨_, rfl⟩
  obtain ⟨W1, hW1⟩ : ∃ W1, W1 = w.alloc (.cells #[.string s, .int .i64 z, .int .i64 x, .int .i64 y, .slice p n c] 24) := ⟨_, rfl⟩
  have hrow := rp_row X w
  rw [hX, ← hW1] at hrow
  have HW1 := Lib.hid hW1
  have HROW := Lib.hid hrow
  have HK1 : Hid (Kept w W1) := Lib.hid (by rw [hW1]; exact box_below _ _)
  have c0 : W1.cell? ⟨w.heap.size, 0, none⟩ = some (.string s) := by rw [cell_of_row _ _ _ _ _ _ hrow]; rfl
  have c1 : W1.cell? ⟨w.heap.size, 1, none⟩ = some (.int .i64 z) := by rw [cell_of_row _ _ _ _ _ _ hrow]; rfl
  have c2 : W1.cell? ⟨w.heap.size, 2, none⟩ = some (.int .i64 x) := by rw [cell_of_row _ _ _ _ _ _ hrow]; rfl
  have c3 : W1.cell? ⟨w.heap.size, 3, none⟩ = some (.int .i64 y) := by rw [cell_of_row _ _ _ _ _ _ hrow]; rfl
  have c4 : W1.cell? ⟨w.heap.size, 4, none⟩ = some (.slice p n c) := by rw [cell_of_row _ _ _ _ _ _ hrow]; rfl
  have HC4 := Lib.hid c4
  rw [hW1] at c0 c1 c2 c3 c4
  have PX := fun W => rpart_any x W
  have PY := fun W => rpart_any y W
  clear hm hc hmay hss hs hz hx hy hn hX hres hl hcap hrow hW1 hwf HROW
  by_cases h1 : 1 ≤ s.size
  case neg =>
    have b1 : decide ((s.size : Int) < 1) = true := decide_eq_true (by omega)
    obtain rfl : res = false := RF.out (fun q => h1 q.1.1)
    clear h1 PX PY HR RF
    go_enter Tryd.func14, Tryd.ntmps14
    go_wp2
    go_ret
    exact ⟨rfl, by rw [← HW1.out]; exact HK1.out⟩
  have b1 : decide ((s.size : Int) < 1) = false := decide_eq_false (by omega)
  by_cases h2 : s.size ≤ 48
  case neg =>
    have b2 : decide ((s.size : Int) > 48) = true := decide_eq_true (by omega)
    obtain rfl : res = false := RF.out (fun q => h2 q.1.2)
    clear h1 h2 PX PY HR RF
    go_enter Tryd.func14, Tryd.ntmps14
    go_wp2
    go_ret
    exact ⟨rfl, by rw [← HW1.out]; exact HK1.out⟩
  have b2 : decide ((s.size : Int) > 48) = false := decide_eq_false (by omega)
  by_cases h3 : 0 ≤ z
  case neg =>
    have b3 : decide (z < 0) = true := decide_eq_true (by omega)
    obtain rfl : res = false := RF.out (fun q => h3 q.2.1.1)
    clear h1 h2 h3 PX PY HR RF
    go_enter Tryd.func14, Tryd.ntmps14
    go_wp2
    go_ret
    exact ⟨rfl, by rw [← HW1.out]; exact HK1.out⟩
  have b3 : decide (z < 0) = false := decide_eq_false (by omega)
  by_cases h4 : z ≤ 1048576
  case neg =>
    have b4 : decide (z > 1048576) = true := decide_eq_true (by omega)
    obtain rfl : res = false := RF.out (fun q => h4 q.2.1.2)
    clear h1 h2 h3 h4 PX PY HR RF
    go_enter Tryd.func14, Tryd.ntmps14
    go_wp2
    go_ret
    exact ⟨rfl, by rw [← HW1.out]; exact HK1.out⟩
  have b4 : decide (z > 1048576) = false := decide_eq_false (by omega)
  by_cases h5 : partQ x
  case neg =>
    obtain rfl : res = false := RF.out (fun q => h5 q.2.2.1.1)
    rw [decide_eq_false h5] at PX
    clear h1 h2 h3 h4 h5 PY HR RF
    go_enter Tryd.func14, Tryd.ntmps14
    go_wp2_with fail
    refine (PX _).mono ?_
    rintro e w2 ⟨rfl, rfl⟩
    go_wp2
    go_ret
    exact ⟨rfl, by rw [← HW1.out]; exact HK1.out⟩
  rw [decide_eq_true h5] at PX
  by_cases h6 : partQ y
  case neg =>
    obtain rfl : res = false := RF.out (fun q => h6 q.2.2.1.2)
    rw [decide_eq_false h6] at PY
    clear h1 h2 h3 h4 h5 h6 HR RF
    go_enter Tryd.func14, Tryd.ntmps14
    go_wp2_with fail
    refine (PX _).mono ?_
    rintro e w2 ⟨rfl, rfl⟩
    go_wp2_with fail
    refine (PY _).mono ?_
    rintro e w2 ⟨rfl, rfl⟩
    go_wp2
    go_ret
    exact ⟨rfl, by rw [← HW1.out]; exact HK1.out⟩
  rw [decide_eq_true h6] at PY
  by_cases h7 : n ≤ 1024
  case neg =>
    have b7 : decide ((n : Int) > 1024) = true := decide_eq_true (by omega)
    obtain rfl : res = false := RF.out (fun q => h7 q.2.2.2.1)
    clear h1 h2 h3 h4 h5 h6 h7 HR RF
    go_enter Tryd.func14, Tryd.ntmps14
    go_wp2_with fail
    refine (PX _).mono ?_
    rintro e w2 ⟨rfl, rfl⟩
    go_wp2_with fail
    refine (PY _).mono ?_
    rintro e w2 ⟨rfl, rfl⟩
    go_wp2
    go_ret
    exact ⟨rfl, by rw [← HW1.out]; exact HK1.out⟩
  have b7 : decide ((n : Int) > 1024) = false := decide_eq_false (by omega)
  have HY : Hid ((∀ m ∈ r.mans, manQ m) → res = true) := Lib.hid (fun q => HR.out.2 ⟨⟨h1, h2⟩, ⟨h3, h4⟩, ⟨h5, h6⟩, h7, q⟩)
  have HNO : Hid ((¬ ∀ m ∈ r.mans, manQ m) → res = false) := Lib.hid (fun q => RF.out (fun u => q u.2.2.2.2))
  clear h1 h2 h3 h4 h5 h6 h7 HR RF
  go_enter Tryd.func14, Tryd.ntmps14
  go_wp2_with fail
  refine (PX _).mono ?_
  rintro e w2 ⟨rfl, rfl⟩
  go_wp2_with fail
  refine (PY _).mono ?_
  rintro e w2 ⟨rfl, rfl⟩
  go_wp2
  rw [← HW1.out]
  clear PX PY c0 c1 c2 c3 c4 b1 b2 b3 b4 b7
  go_loopg [3] n (fun gh q wr => ∃ (k : Nat), k + gh = n ∧ q = .int .i64 k ∧ Hid (∀ m ∈ r.mans.take k, manQ m) ∧ Hid (Kept W1 wr))
  case atStart => exact ⟨0, by omega, rfl, Lib.hid (fun e he => by simp at he), Lib.hid (Kept.refl W1)⟩
  case round =>
    obtain ⟨k, hk, rfl, HA, HK⟩ := hrel
    have e4 := Kept.cell HK.out HC4.out
    have HKW : Hid (Kept w wr) := Lib.hid ((show Kept w W1 from HK1.out).then HK.out)
    by_cases hlt : k < n
    · have hki : (k : Int) < n := by omega
      have bk : decide ((k : Int) < (n : Int)) = true := by simpa using hki
      have hki0 : (0 : Int) ≤ k := by omega
      have hkl : k < r.mans.length := by have := HN.out; omega
      rcases HC.out with h0 | ⟨b, off, rfl, hcell⟩
      · have := HN.out; omega
      have d0 := Kept.cell HKW.out (hcell k hkl 0 _ rfl)
      rw [Nat.mul_one, Nat.add_zero] at d0
      have hlt32 := HG.out _ (List.getElem_mem hkl)
      have htk : r.mans.take (k + 1) = r.mans.take k ++ [r.mans[k]] := List.take_succ_eq_append_getElem hkl
      have hmem : r.mans[k] ∈ r.mans := List.getElem_mem hkl
      obtain ⟨m, hm⟩ : ∃ m, m = r.mans[k] := ⟨_, rfl⟩
      rw [← hm] at d0 hlt32 htk hmem
      obtain ⟨k1, hk1⟩ : ∃ k1, k1 = k + 1 := ⟨_, rfl⟩
      have v1 : IntKind.i64.wrap ((k : Int) + 1) = (k1 : Int) := by rw [show (k : Int) + 1 = (k1 : Int) by omega]; exact IntWalk.i64_in _ (by have := HL.out; omega)
      have HKK : Hid (k1 = k + 1 ∧ k + gk = n ∧ k < n) := Lib.hid ⟨hk1, hk, hlt⟩
      by_cases m1 : 1 ≤ m
      · have q1 : decide ((m : Int) < 1) = false := decide_eq_false (by omega)
        by_cases m2 : m ≤ 4294967294
        · have q2 : decide ((m : Int) > 4294967294) = false := decide_eq_false (by omega)
          have HA1 : Hid (∀ e ∈ r.mans.take k1, manQ e) := Lib.hid (fun e he => by
            rw [hk1, htk] at he
            rcases List.mem_append.1 he with x | x
            · exact HA.out e x
            · rw [List.mem_singleton.1 x]; exact ⟨m1, m2⟩)
          clear hcell hlt32 htk hmem hm hk1 hk hlt hkl m1 m2 HA
          go_wp2
          go_roundg (n - k1)
          · exact ⟨k1, by have := HKK.out; omega, by first | rfl | (have := HKK.out; congr 1; omega), HA1, HK⟩
          · have := HKK.out; omega
        · have q2 : decide ((m : Int) > 4294967294) = true := decide_eq_true (by omega)
          obtain rfl : res = false := HNO.out (fun u => m2 (u m hmem).2)
          clear hcell hlt32 htk hmem hm hk1 hk hlt hkl m1 m2 HA
          go_wp2
          go_ret
          exact ⟨rfl, HKW.out⟩
      · have q1 : decide ((m : Int) < 1) = true := decide_eq_true (by omega)
        obtain rfl : res = false := HNO.out (fun u => m1 (u m hmem).1)
        clear hcell hlt32 htk hmem hm hk1 hk hlt hkl m1 HA
        go_wp2
        go_ret
        exact ⟨rfl, HKW.out⟩
    · have hki : ¬ (k : Int) < n := by omega
      have bk : decide ((k : Int) < (n : Int)) = false := by simpa using hki
      obtain rfl : res = true := HY.out (fun e he => HA.out e (by rw [List.take_of_length_le (by have := HN.out; omega)]; exact he))
      clear hk hlt
      go_wp2
      go_ret
      exact ⟨rfl, HKW.out⟩

end Go.Proofs.YtijdbmapdmhknaaDoor
namespace Go.Proofs.YtijdbmapdmhknaaDoor
open Go.RowKit

theorem str_inj {a b : List UInt8} (h : str a = str b) : a = b := by rw [← str_list a, ← str_list b, h]
theorem Kept.drewN {w wr : World} (h : Kept w wr) (n : Nat) : Kept w (wr.drewN n) := ⟨h.os, h.tape, h.output, h.size, h.block⟩
theorem neq_txt {a b : ByteArray} (h : a ≠ b) : (a.toList != b.toList) = true := by
  rw [Lib.toList_data, Lib.toList_data, bne_iff_ne]
  exact fun e => h (ByteArray.ext (Array.ext' e))
theorem eq_txt (a : ByteArray) : (a.toList != a.toList) = false := by simp

set_option maxRecDepth 100000 in
set_option maxHeartbeats 16000000 in
theorem rsame16_any (a b : Rp) (u v : Value) (w : World) (HU : RpIs a u w) (HV : RpIs b v w) (hla : a.mans.length ≤ 1000000) (hlb : b.mans.length ≤ 1000000) :
    Calls Tryd.prog 12 #[u, v] w fun e w' => e = .returned (.bool (decide (a = b))) ∧ Kept w w' := by
  obtain ⟨ta, rfl, hea, -⟩ := HU
  obtain ⟨tb, rfl, heb, -⟩ := HV
  obtain ⟨p, c, rfl, -, hca⟩ := hea.out encU
  obtain ⟨p2, c2, rfl, -, hcb⟩ := heb.out encU
  have HCA := Lib.hid hca
  have HCB := Lib.hid hcb
  unfold rpC
  have hab : a = b ↔ str a.name = str b.name ∧ a.size = b.size ∧ a.re = b.re ∧ a.im = b.im ∧ a.mans = b.mans := by
    rw [Rp.ext_iff']
    exact ⟨fun h => ⟨by rw [h.1], h.2⟩, fun h => ⟨str_inj h.1, h.2⟩⟩
  obtain ⟨res, hres⟩ : ∃ x, x = decide (a = b) := ⟨_, rfl⟩
  obtain ⟨s, hs⟩ : ∃ s, s = str a.name := ⟨_, rfl⟩
  obtain ⟨t, ht⟩ : ∃ s, s = str b.name := ⟨_, rfl⟩
  obtain ⟨z, hz⟩ : ∃ z, z = a.size := ⟨_, rfl⟩
  obtain ⟨x, hx⟩ : ∃ x, x = a.re := ⟨_, rfl⟩
  obtain ⟨y, hy⟩ : ∃ y, y = a.im := ⟨_, rfl⟩
  obtain ⟨z2, hz2⟩ : ∃ z, z = b.size := ⟨_, rfl⟩
  obtain ⟨x2, hx2⟩ : ∃ x, x = b.re := ⟨_, rfl⟩
  obtain ⟨y2, hy2⟩ : ∃ y, y = b.im := ⟨_, rfl⟩
  obtain ⟨n, hn⟩ : ∃ n, n = a.mans.length := ⟨_, rfl⟩
  obtain ⟨m, hm⟩ : ∃ n, n = b.mans.length := ⟨_, rfl⟩
  have HN := Lib.hid hn
  have HM := Lib.hid hm
  rw [← hn] at hla
  rw [← hm] at hlb
  rw [← hs, ← ht, ← hz, ← hx, ← hy, ← hz2, ← hx2, ← hy2] at hab
  rw [← hs, ← ht, ← hz, ← hx, ← hy, ← hz2, ← hx2, ← hy2, ← hn, ← hm, ← hres]
  have HR : Hid (res = true ↔ s = t ∧ z = z2 ∧ x = x2 ∧ y = y2 ∧ a.mans = b.mans) := Lib.hid (by rw [hres, decide_eq_true_iff, hab])
  have RF : Hid (¬ (s = t ∧ z = z2 ∧ x = x2 ∧ y = y2 ∧ a.mans = b.mans) → res = false) := Lib.hid (fun h => by
    cases res with
    | false => rfl
    | true => exact absurd (HR.out.1 rfl) h)
  have HL := Lib.hid (show n ≤ 1000000 ∧ m ≤ 1000000 from ⟨hla, hlb⟩)
  obtain ⟨X, hX⟩ : ∃ X : Array Value, X = #[.string s, .int .i64 z, .int .i64 x, .int .i64 y, .slice p n c] := ⟨_, rfl⟩
  obtain ⟨Y, hY⟩ : ∃ X : Array Value, X = #[.string t, .int .i64 z2, .int .i64 x2, .int .i64 y2, .slice p2 m c2] := ⟨_, rfl⟩
  have hs1 : (w.alloc (.cells X 24)).heap.size = w.heap.size + 1 := by simp
  obtain ⟨W1, hW1⟩ : ∃ W, W = (w.alloc (.cells X 24)).alloc (.cells Y 24) := ⟨_, rfl⟩
  have HK1 : Hid (Kept w W1) := Lib.hid (by rw [hW1]; exact (show Kept w _ from box_below _ _).then (box_below _ _))
  have hrowa : W1.heap[w.heap.size]? = some (.cells X 24 (0, 0)) := by rw [hW1]; exact Kept.row (box_below _ _) (heap_alloc_last w _)
  have hrowb : W1.heap[w.heap.size + 1]? = some (.cells Y 24 (0, 0)) := by
    have := heap_alloc_last (w.alloc (.cells X 24)) (.cells Y 24)
    rw [hs1] at this
    rw [hW1]; exact this
  rw [hX] at hrowa
  rw [hY] at hrowb
  rw [hX, hY] at hW1
  have a0 : W1.cell? ⟨w.heap.size, 0, none⟩ = some (.string s) := by rw [cell_of_row _ _ _ _ _ _ hrowa]; rfl
  have a1 : W1.cell? ⟨w.heap.size, 1, none⟩ = some (.int .i64 z) := by rw [cell_of_row _ _ _ _ _ _ hrowa]; rfl
  have a2 : W1.cell? ⟨w.heap.size, 2, none⟩ = some (.int .i64 x) := by rw [cell_of_row _ _ _ _ _ _ hrowa]; rfl
  have a3 : W1.cell? ⟨w.heap.size, 3, none⟩ = some (.int .i64 y) := by rw [cell_of_row _ _ _ _ _ _ hrowa]; rfl
  have a4 : W1.cell? ⟨w.heap.size, 4, none⟩ = some (.slice p n c) := by rw [cell_of_row _ _ _ _ _ _ hrowa]; rfl
  have d0 : W1.cell? ⟨w.heap.size + 1, 0, none⟩ = some (.string t) := by rw [cell_of_row _ _ _ _ _ _ hrowb]; rfl
  have d1 : W1.cell? ⟨w.heap.size + 1, 1, none⟩ = some (.int .i64 z2) := by rw [cell_of_row _ _ _ _ _ _ hrowb]; rfl
  have d2 : W1.cell? ⟨w.heap.size + 1, 2, none⟩ = some (.int .i64 x2) := by rw [cell_of_row _ _ _ _ _ _ hrowb]; rfl
  have d3 : W1.cell? ⟨w.heap.size + 1, 3, none⟩ = some (.int .i64 y2) := by rw [cell_of_row _ _ _ _ _ _ hrowb]; rfl
  have d4 : W1.cell? ⟨w.heap.size + 1, 4, none⟩ = some (.slice p2 m c2) := by rw [cell_of_row _ _ _ _ _ _ hrowb]; rfl
  have HA4 := Lib.hid a4
  have HD4 := Lib.hid d4
  rw [hW1] at a0 a1 a2 a3 a4 d0 d1 d2 d3 d4
  have HW1 := Lib.hid hW1
  clear hea heb hca hcb hab hres hs ht hz hx hy hz2 hx2 hy2 hn hm hla hlb hs1 hrowa hrowb hX hY hW1 X Y
  by_cases h1 : s = t
  case neg =>
    have b1 : (s.toList != t.toList) = true := neq_txt h1
    have b2 : (s.toList == t.toList) = false := by simpa using b1
    have b3 : ¬ s.toList = t.toList := by simpa using b1
    obtain rfl : res = false := RF.out (fun q => h1 q.1)
    clear h1 HR RF
    go_enter Tryd.func12, Tryd.ntmps12
    go_wp2
    go_ret
    exact ⟨rfl, by rw [← HW1.out]; exact HK1.out⟩
  subst h1
  have e1 : (s.toList != s.toList) = false := eq_txt s
  by_cases h2 : z = z2
  case neg =>
    have b1 : (z != z2) = true := bne_iff_ne.2 h2
    have b2 : (z == z2) = false := beq_eq_false_iff_ne.2 h2
    obtain rfl : res = false := RF.out (fun q => h2 q.2.1)
    clear h2 HR RF
    go_enter Tryd.func12, Tryd.ntmps12
    go_wp2
    go_ret
    exact ⟨rfl, by rw [← HW1.out]; exact HK1.out⟩
  subst h2
  have e2 : (z != z) = false := by simp
  by_cases h3 : x = x2
  case neg =>
    have b1 : (x != x2) = true := bne_iff_ne.2 h3
    have b2 : (x == x2) = false := beq_eq_false_iff_ne.2 h3
    obtain rfl : res = false := RF.out (fun q => h3 q.2.2.1)
    clear h3 HR RF
    go_enter Tryd.func12, Tryd.ntmps12
    go_wp2
    go_ret
    exact ⟨rfl, by rw [← HW1.out]; exact HK1.out⟩
  subst h3
  have e3 : (x != x) = false := by simp
  by_cases h4 : y = y2
  case neg =>
    have b1 : (y != y2) = true := bne_iff_ne.2 h4
    have b2 : (y == y2) = false := beq_eq_false_iff_ne.2 h4
    obtain rfl : res = false := RF.out (fun q => h4 q.2.2.2.1)
    clear h4 HR RF
    go_enter Tryd.func12, Tryd.ntmps12
    go_wp2
    go_ret
    exact ⟨rfl, by rw [← HW1.out]; exact HK1.out⟩
  subst h4
  have e4 : (y != y) = false := by simp
  by_cases h5 : n = m
  case neg =>
    have b1 : ((n : Int) != (m : Int)) = true := bne_iff_ne.2 (by omega)
    have b2 : ((n : Int) == (m : Int)) = false := beq_eq_false_iff_ne.2 (by omega)
    obtain rfl : res = false := RF.out (fun q => h5 (by rw [HN.out, HM.out, q.2.2.2.2]))
    clear h5 HR RF
    go_enter Tryd.func12, Tryd.ntmps12
    go_wp2
    go_ret
    exact ⟨rfl, by rw [← HW1.out]; exact HK1.out⟩
  subst h5
  have e5 : ((n : Int) != (n : Int)) = false := by simp
  have HY : Hid (a.mans = b.mans → res = true) := Lib.hid (fun q => HR.out.2 ⟨rfl, rfl, rfl, rfl, q⟩)
  have HNO : Hid (a.mans ≠ b.mans → res = false) := Lib.hid (fun q => RF.out (fun u => q u.2.2.2.2))
  clear HR RF
  go_enter Tryd.func12, Tryd.ntmps12
  go_wp2
  rw [← HW1.out]
  clear a0 a1 a2 a3 a4 d0 d1 d2 d3 d4
  go_loopg [5] n (fun gh q wr => ∃ (k : Nat), k + gh = n ∧ q = .int .i64 k ∧ Hid (a.mans.take k = b.mans.take k) ∧ Hid (Kept W1 wr))
  case atStart => exact ⟨0, by omega, rfl, Lib.hid rfl, Lib.hid (Kept.refl W1)⟩
  case round =>
    obtain ⟨k, hk, rfl, HA, HK⟩ := hrel
    have a4 := Kept.cell HK.out HA4.out
    have d4 := Kept.cell HK.out HD4.out
    have HKW : Hid (Kept w wr) := Lib.hid ((show Kept w W1 from HK1.out).then HK.out)
    by_cases hlt : k < n
    · have hki : (k : Int) < n := by omega
      have bk : decide ((k : Int) < (n : Int)) = true := by simpa using hki
      have hki0 : (0 : Int) ≤ k := by omega
      have hka : k < a.mans.length := by have := HN.out; omega
      have hkb : k < b.mans.length := by have := HM.out; omega
      rcases HCA.out with h0 | ⟨ba, oa, rfl, hcela⟩
      · have := HN.out; omega
      rcases HCB.out with h0 | ⟨bb, ob, rfl, hcelb⟩
      · have := HM.out; omega
      have m0 := Kept.cell HKW.out (hcela k hka 0 _ rfl)
      rw [Nat.mul_one, Nat.add_zero] at m0
      have m1 := Kept.cell HKW.out (hcelb k hkb 0 _ rfl)
      rw [Nat.mul_one, Nat.add_zero] at m1
      have hta : a.mans.take (k + 1) = a.mans.take k ++ [a.mans[k]] := List.take_succ_eq_append_getElem hka
      have htb : b.mans.take (k + 1) = b.mans.take k ++ [b.mans[k]] := List.take_succ_eq_append_getElem hkb
      have hne0 : a.mans[k] ≠ b.mans[k] → a.mans ≠ b.mans := fun h e => h (by simp [e])
      obtain ⟨i, hi⟩ : ∃ i, i = a.mans[k] := ⟨_, rfl⟩
      obtain ⟨j, hj⟩ : ∃ i, i = b.mans[k] := ⟨_, rfl⟩
      rw [← hi] at m0 hta hne0
      rw [← hj] at m1 htb hne0
      obtain ⟨k1, hk1⟩ : ∃ k1, k1 = k + 1 := ⟨_, rfl⟩
      have v1 : IntKind.i64.wrap ((k : Int) + 1) = (k1 : Int) := by rw [show (k : Int) + 1 = (k1 : Int) by omega]; exact IntWalk.i64_in _ (by have := HL.out; omega)
      have HKK : Hid (k1 = k + 1 ∧ k + gk = n ∧ k < n) := Lib.hid ⟨hk1, hk, hlt⟩
      by_cases hij : i = j
      · subst hij
        have b1 : ((i : Int) != (i : Int)) = false := by simp
        have HA1 : Hid (a.mans.take k1 = b.mans.take k1) := Lib.hid (by rw [hk1, hta, htb, HA.out])
        clear hcela hcelb hta htb hne0 hi hj hk1 hk hlt hka hkb HA
        go_wp2_with fail
        go_quiet (fail)
        go_wp2
        go_roundg (n - k1)
        · exact ⟨k1, by have := HKK.out; omega, by first | rfl | (have := HKK.out; congr 1; omega), HA1, Lib.hid (HK.out.drewN nq)⟩
        · have := HKK.out; omega
      · have b1 : ((i : Int) != (j : Int)) = true := bne_iff_ne.2 (by omega)
        have b2 : ((i : Int) == (j : Int)) = false := beq_eq_false_iff_ne.2 (by omega)
        obtain rfl : res = false := HNO.out (hne0 hij)
        clear hcela hcelb hta htb hne0 hi hj hk1 hk hlt hka hkb HA hij
        go_wp2_with fail
        go_quiet (fail)
        go_wp2
        go_ret
        exact ⟨rfl, HKW.out.drewN nq⟩
    · have hki : ¬ (k : Int) < n := by omega
      have bk : decide ((k : Int) < (n : Int)) = false := by simpa using hki
      obtain rfl : res = true := HY.out (by
        have := HA.out
        rw [List.take_of_length_le (by have := HN.out; omega), List.take_of_length_le (by have := HM.out; omega)] at this
        exact this)
      clear hk hlt
      go_wp2
      go_ret
      exact ⟨rfl, HKW.out⟩

end Go.Proofs.YtijdbmapdmhknaaDoor
