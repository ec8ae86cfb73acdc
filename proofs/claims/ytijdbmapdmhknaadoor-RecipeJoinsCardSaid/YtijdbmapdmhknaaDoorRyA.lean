/- The landed recipes' validPart, Size, Check. -/
import Derived.Test.YtijdbmapdmhknaaDoorRqA
namespace Go.Proofs.YtijdbmapdmhknaaDoor
open Go.RowKit

theorem empty_textQ (t : ByteArray) : t.toList.isEmpty = decide (t.size = 0) := by
  have h := data_len t
  have e : t.toList = t.data.toList := by rw [ByteArray.toList_eq]
  rw [e]
  cases h2 : t.data.toList with
  | nil =>
    have h3 : t.size = 0 := by rw [← h, h2]; rfl
    rw [h3]; rfl
  | cons a l =>
    have h3 : t.size = l.length + 1 := by rw [← h, h2]; rfl
    rw [h3]; simp

theorem lvpart_any (z : Int) (w : World) :
    Calls Tryd.prog 33 #[.int .i64 z] w fun e w' => e = .returned (.bool (decide (partQ z))) ∧ w = w' := by
  by_cases h1 : -2147483648 ≤ z
  · have b1 : decide (-2147483648 ≤ z) = true := decide_eq_true h1
    by_cases h2 : z ≤ 2147483647
    · have b2 : decide (z ≤ 2147483647) = true := decide_eq_true h2
      rw [decide_eq_true (show partQ z from ⟨h1, h2⟩)]
      clear h1 h2
      go_enter Tryd.func33, Tryd.ntmps33
      go_wp2
      go_ret
      exact ⟨rfl, rfl⟩
    · have b2 : decide (z ≤ 2147483647) = false := decide_eq_false h2
      rw [decide_eq_false (show ¬ partQ z from fun x => h2 x.2)]
      clear h1 h2
      go_enter Tryd.func33, Tryd.ntmps33
      go_wp2
      go_ret
      exact ⟨rfl, rfl⟩
  · have b1 : decide (-2147483648 ≤ z) = false := decide_eq_false h1
    rw [decide_eq_false (show ¬ partQ z from fun x => h1 x.1)]
    clear h1
    go_enter Tryd.func33, Tryd.ntmps33
    go_wp2
    go_ret
    exact ⟨rfl, rfl⟩

set_option maxRecDepth 100000 in
set_option maxHeartbeats 4000000 in
theorem rsizeL (s : ByteArray) (n : Int) (w : World) (hs : s.size ≤ maxLen) (_ : (Lit.int .i64 n).wf = true) :
    Calls Tryd.prog 18 #[.string s, .int .i64 n] w fun e w' => e = .returned (.int .i64 (sizeVQ s.size n)) ∧ Kept w w' := by
  unfold maxLen at hs
  obtain ⟨z, hz⟩ : ∃ z, z = s.size := ⟨_, rfl⟩
  have hz' : s.size = z := hz.symm
  obtain ⟨r, hr⟩ : ∃ r, r = sizeVQ z n := ⟨_, rfl⟩
  rw [← hz, ← hr]
  rw [← hz] at hs
  unfold sizeVQ at hr
  have ET := empty_textQ s
  rw [← hz] at ET
  clear hz
  by_cases h0 : z = 0
  · rw [decide_eq_true h0] at ET
    rw [if_neg (by omega)] at hr
    subst hr
    clear h0
    go_enter Tryd.func18, Tryd.ntmps18
    go_wp2
    go_ret
    exact ⟨rfl, Kept.refl _⟩
  rw [decide_eq_false h0] at ET
  by_cases h1 : 48 < z
  · have b1 : decide ((z : Int) > 48) = true := decide_eq_true (by omega)
    have b1i : (48 : Int) < z := by omega
    rw [if_neg (by omega)] at hr
    subst hr
    clear h0 h1
    go_enter Tryd.func18, Tryd.ntmps18
    go_wp2
    go_ret
    exact ⟨rfl, Kept.refl _⟩
  have b1 : decide ((z : Int) > 48) = false := decide_eq_false (by omega)
  have b1i : ¬ (48 : Int) < z := by omega
  by_cases h2 : n < 0
  · have b2 : decide (n < 0) = true := decide_eq_true h2
    rw [if_neg (by omega)] at hr
    subst hr
    clear h0 h1 h2
    go_enter Tryd.func18, Tryd.ntmps18
    go_wp2
    go_ret
    exact ⟨rfl, Kept.refl _⟩
  have b2 : decide (n < 0) = false := decide_eq_false h2
  by_cases h3 : 1024 < n
  · have b3 : decide (n > 1024) = true := decide_eq_true h3
    have b3i : decide (1024 < n) = true := decide_eq_true h3
    rw [if_neg (by omega)] at hr
    subst hr
    clear h0 h1 h2 h3
    go_enter Tryd.func18, Tryd.ntmps18
    go_wp2
    go_ret
    exact ⟨rfl, Kept.refl _⟩
  have b3 : decide (n > 1024) = false := decide_eq_false h3
  have b3i : decide (1024 < n) = false := decide_eq_false h3
  rw [if_pos (by omega)] at hr
  obtain ⟨m0, hm0⟩ : ∃ m0 : Int, m0 = 20 + (z : Int) := ⟨_, rfl⟩
  obtain ⟨m1, hm1⟩ : ∃ m1 : Int, m1 = m0 + 2 := ⟨_, rfl⟩
  obtain ⟨m2, hm2⟩ : ∃ m2 : Int, m2 = n * 4 := ⟨_, rfl⟩
  obtain ⟨m3, hm3⟩ : ∃ m3 : Int, m3 = m1 + m2 := ⟨_, rfl⟩
  have u0 : IntKind.i64.wrap (20 + (z : Int)) = m0 := by rw [← hm0]; exact IntWalk.i64_in _ (by omega)
  have u1 : IntKind.i64.wrap (m0 + 2) = m1 := by rw [← hm1]; exact IntWalk.i64_in _ (by omega)
  have u2 : IntKind.i64.wrap (n * 4) = m2 := by rw [← hm2]; exact IntWalk.i64_in _ (by omega)
  have u3 : IntKind.i64.wrap (m1 + m2) = m3 := by rw [← hm3]; exact IntWalk.i64_in _ (by omega)
  have u4 : IntKind.i64.wrap (m3 + 4) = r := by rw [show m3 + 4 = r by omega]; exact IntWalk.i64_in _ (by omega)
  clear h0 h1 h2 h3 hr hm0 hm1 hm2 hm3
  go_enter Tryd.func18, Tryd.ntmps18
  go_wp2
  go_ret
  exact ⟨rfl, Kept.refl _⟩

theorem rsizeOk : RSizeOk := fun s n w hs hn => rsizeL s n w (by unfold maxLen; omega) hn

set_option maxRecDepth 100000 in
set_option maxHeartbeats 16000000 in
theorem rcheckOk : RCheckOk := by
  intro r v w H hl
  obtain ⟨tv, rfl, hm, hwf⟩ := H
  obtain ⟨p, c, rfl, hcap, hc⟩ := hm.out encU
  have HG : Hid (∀ x ∈ r.mans, x < 4294967296) := Lib.hid hm.good
  have HC := Lib.hid hc
  have hmay : mayQ r ↔ (1 ≤ r.name.length ∧ r.name.length ≤ 48) ∧ (0 ≤ r.size ∧ r.size ≤ 1048576) ∧ (partQ r.re ∧ partQ r.im) ∧ r.mans.length ≤ 1024 ∧ ∀ m ∈ r.mans, manQ m := Iff.rfl
  have hss : (str r.name).size = r.name.length := str_size _
  have hnl := hwf.name
  unfold rpC
  obtain ⟨res, hres⟩ : ∃ x : Int, x = if mayQ r then 0 else 1 := ⟨_, rfl⟩
  obtain ⟨s, hs⟩ : ∃ s, s = str r.name := ⟨_, rfl⟩
  obtain ⟨z, hz⟩ : ∃ z, z = r.size := ⟨_, rfl⟩
  obtain ⟨x, hx⟩ : ∃ x, x = r.re := ⟨_, rfl⟩
  obtain ⟨y, hy⟩ : ∃ y, y = r.im := ⟨_, rfl⟩
  obtain ⟨n, hn⟩ : ∃ n, n = r.mans.length := ⟨_, rfl⟩
  rw [← hs] at hss ⊢
  rw [← hss, ← hz, ← hx, ← hy, ← hn] at hmay
  rw [← hres, ← hz, ← hx, ← hy, ← hn]
  rw [← hn] at hl
  have HN := Lib.hid hn
  have HL := Lib.hid hl
  have RF : Hid (¬ ((1 ≤ s.size ∧ s.size ≤ 48) ∧ (0 ≤ z ∧ z ≤ 1048576) ∧ (partQ x ∧ partQ y) ∧ n ≤ 1024 ∧ ∀ m ∈ r.mans, manQ m) → res = 1) := Lib.hid (fun h => by rw [hres]; exact if_neg (fun q => h (hmay.1 q)))
  have RT : Hid (((1 ≤ s.size ∧ s.size ≤ 48) ∧ (0 ≤ z ∧ z ≤ 1048576) ∧ (partQ x ∧ partQ y) ∧ n ≤ 1024 ∧ ∀ m ∈ r.mans, manQ m) → res = 0) := Lib.hid (fun h => by rw [hres]; exact if_pos (hmay.2 h))
  obtain ⟨X, hX⟩ : ∃ X : Array Value, X = #[.string s, .int .i64 z, .int .i64 x, .int .i64 y, .slice p n c] := ⟨_, rfl⟩
  obtain ⟨W1, hW1⟩ : ∃ W1, W1 = w.alloc (.cells #[.string s, .int .i64 z, .int .i64 x, .int .i64 y, .slice p n c] 24) := ⟨_, rfl⟩
  have hrow := rp_row X w
  rw [hX, ← hW1] at hrow
  have HW1 := Lib.hid hW1
  have HR5 : Hid (Row5 w.heap.size (.string s) (.int .i64 z) (.int .i64 x) (.int .i64 y) (.slice p n c) W1) := Lib.hid ⟨hrow⟩
  have HK1 : Hid (Kept w W1) := Lib.hid (by rw [hW1]; exact box_below _ _)
  have c0 := HR5.out.c0
  have c4 := HR5.out.c4
  rw [hW1] at c0 c4
  have PX := fun W => lvpart_any x W
  have PY := fun W => lvpart_any y W
  have CS := fun W => rsizeL s (n : Int) W (by rw [hss]; exact hnl) (wf_of_le _ (by omega) (by omega))
  obtain ⟨q, hq⟩ : ∃ q, q = sizeVQ s.size (n : Int) := ⟨_, rfl⟩
  rw [← hq] at CS
  clear hm hc hmay hss hs hz hx hy hn hX hres hl hcap hrow hW1 hwf hnl
  by_cases h1 : (1 ≤ s.size ∧ s.size ≤ 48) ∧ n ≤ 1024
  case neg =>
    obtain rfl : q = 0 := by rw [hq]; unfold sizeVQ; rw [if_neg (by omega)]
    obtain rfl : res = 1 := RF.out (fun u => h1 ⟨u.1, u.2.2.2.1⟩)
    clear h1 hq PX PY RF RT
    go_enter Tryd.func10, Tryd.ntmps10
    go_wp2_with fail
    rw [← HW1.out]
    refine (CS _).mono ?_
    rintro e w2 ⟨rfl, hb2⟩
    have HK2 : Hid (Kept W1 w2) := Lib.hid hb2
    have r2 := HR5.out.later hb2
    have d1 := r2.c1
    have d2 := r2.c2
    have d3 := r2.c3
    clear hb2 CS c0 c4 r2
    go_wp2
    go_ret
    exact ⟨rfl, (show Kept w W1 from HK1.out).then HK2.out⟩
  have hq0 : (q == 0) = false := by
    rw [hq]; unfold sizeVQ; rw [if_pos (by omega)]; simp; omega
  have HQN : Hid ((1 ≤ s.size ∧ s.size ≤ 48) ∧ n ≤ 1024) := Lib.hid h1
  clear hq h1
  by_cases h3 : 0 ≤ z
  case neg =>
    have b3 : decide (z < 0) = true := decide_eq_true (by omega)
    obtain rfl : res = 1 := RF.out (fun q => h3 q.2.1.1)
    clear h3 PX PY RF RT
    go_enter Tryd.func10, Tryd.ntmps10
    go_wp2_with fail
    rw [← HW1.out]
    refine (CS _).mono ?_
    rintro e w2 ⟨rfl, hb2⟩
    have HK2 : Hid (Kept W1 w2) := Lib.hid hb2
    have r2 := HR5.out.later hb2
    have d1 := r2.c1
    have d2 := r2.c2
    have d3 := r2.c3
    clear hb2 CS c0 c4 r2
    go_wp2
    go_ret
    exact ⟨rfl, (show Kept w W1 from HK1.out).then HK2.out⟩
  have b3 : decide (z < 0) = false := decide_eq_false (by omega)
  by_cases h4 : z ≤ 1048576
  case neg =>
    have b4 : decide (z > 1048576) = true := decide_eq_true (by omega)
    have b4i : decide (1048576 < z) = true := decide_eq_true (by omega)
    obtain rfl : res = 1 := RF.out (fun q => h4 q.2.1.2)
    clear h3 h4 PX PY RF RT
    go_enter Tryd.func10, Tryd.ntmps10
    go_wp2_with fail
    rw [← HW1.out]
    refine (CS _).mono ?_
    rintro e w2 ⟨rfl, hb2⟩
    have HK2 : Hid (Kept W1 w2) := Lib.hid hb2
    have r2 := HR5.out.later hb2
    have d1 := r2.c1
    have d2 := r2.c2
    have d3 := r2.c3
    clear hb2 CS c0 c4 r2
    go_wp2
    go_ret
    exact ⟨rfl, (show Kept w W1 from HK1.out).then HK2.out⟩
  have b4 : decide (z > 1048576) = false := decide_eq_false (by omega)
  have b4i : decide (1048576 < z) = false := decide_eq_false (by omega)
  by_cases h5 : partQ x
  case neg =>
    obtain rfl : res = 1 := RF.out (fun q => h5 q.2.2.1.1)
    rw [decide_eq_false h5] at PX
    clear h3 h4 h5 PY RF RT
    go_enter Tryd.func10, Tryd.ntmps10
    go_wp2_with fail
    rw [← HW1.out]
    refine (CS _).mono ?_
    rintro e w2 ⟨rfl, hb2⟩
    have HK2 : Hid (Kept W1 w2) := Lib.hid hb2
    have r2 := HR5.out.later hb2
    have d1 := r2.c1
    have d2 := r2.c2
    have d3 := r2.c3
    clear hb2 CS c0 c4 r2
    go_wp2_with fail
    refine (PX _).mono ?_
    rintro e w2 ⟨rfl, rfl⟩
    go_wp2
    go_ret
    exact ⟨rfl, (show Kept w W1 from HK1.out).then HK2.out⟩
  rw [decide_eq_true h5] at PX
  by_cases h6 : partQ y
  case neg =>
    obtain rfl : res = 1 := RF.out (fun q => h6 q.2.2.1.2)
    rw [decide_eq_false h6] at PY
    clear h3 h4 h5 h6 RF RT
    go_enter Tryd.func10, Tryd.ntmps10
    go_wp2_with fail
    rw [← HW1.out]
    refine (CS _).mono ?_
    rintro e w2 ⟨rfl, hb2⟩
    have HK2 : Hid (Kept W1 w2) := Lib.hid hb2
    have r2 := HR5.out.later hb2
    have d1 := r2.c1
    have d2 := r2.c2
    have d3 := r2.c3
    clear hb2 CS c0 c4 r2
    go_wp2_with fail
    refine (PX _).mono ?_
    rintro e w2 ⟨rfl, rfl⟩
    go_wp2_with fail
    refine (PY _).mono ?_
    rintro e w2 ⟨rfl, rfl⟩
    go_wp2
    go_ret
    exact ⟨rfl, (show Kept w W1 from HK1.out).then HK2.out⟩
  rw [decide_eq_true h6] at PY
  have HY : Hid ((∀ m ∈ r.mans, manQ m) → res = 0) := Lib.hid (fun q => RT.out ⟨HQN.out.1, ⟨h3, h4⟩, ⟨h5, h6⟩, HQN.out.2, q⟩)
  have HNO : Hid ((¬ ∀ m ∈ r.mans, manQ m) → res = 1) := Lib.hid (fun q => RF.out (fun u => q u.2.2.2.2))
  clear h3 h4 h5 h6 RF RT HQN
  go_enter Tryd.func10, Tryd.ntmps10
  go_wp2_with fail
  rw [← HW1.out]
  refine (CS _).mono ?_
  rintro e w2 ⟨rfl, hb2⟩
  have HK2 : Hid (Kept w w2) := Lib.hid ((show Kept w W1 from HK1.out).then hb2)
  have r2 := HR5.out.later hb2
  have d1 := r2.c1
  have d2 := r2.c2
  have d3 := r2.c3
  have d4 := r2.c4
  clear hb2 CS c0 c4 r2
  go_wp2_with fail
  refine (PX _).mono ?_
  rintro e w2 ⟨rfl, rfl⟩
  go_wp2_with fail
  refine (PY _).mono ?_
  rintro e w2 ⟨rfl, rfl⟩
  go_wp2
  clear PX PY d1 d2 d3 d4 b3 b4 hq0
  go_loopg [37] n (fun gh q wr => ∃ (k : Nat), k + gh = n ∧ q = .int .i64 k ∧ Hid (∀ m ∈ r.mans.take k, manQ m) ∧ Hid (Kept w wr))
  case atStart => exact ⟨0, by omega, rfl, Lib.hid (fun e he => by simp at he), HK2⟩
  case round =>
    clear HK2
    obtain ⟨k, hk, rfl, HA, HKW⟩ := hrel
    by_cases hlt : k < n
    · have hki : (k : Int) < n := by omega
      have bk : decide ((k : Int) < (n : Int)) = true := by simpa using hki
      have hki0 : (0 : Int) ≤ k := by omega
      have hkl : k < r.mans.length := by have := HN.out; omega
      rcases HC.out with h0 | ⟨b, off, rfl, hcell⟩
      · have := HN.out; omega
      have d0 := Kept.cell HKW.out (hcell k hkl 0 _ rfl)
      rw [Nat.mul_one, Nat.add_zero] at d0
      have hlt32 := HG.out _ (List.getElem_mem hkl)
      have htk : r.mans.take (k + 1) = r.mans.take k ++ [r.mans[k]] := List.take_succ_eq_append_getElem hkl
      have hmem : r.mans[k] ∈ r.mans := List.getElem_mem hkl
      obtain ⟨m, hm⟩ : ∃ m, m = r.mans[k] := ⟨_, rfl⟩
      rw [← hm] at d0 hlt32 htk hmem
      obtain ⟨k1, hk1⟩ : ∃ k1, k1 = k + 1 := ⟨_, rfl⟩
      have v1 : IntKind.i64.wrap ((k : Int) + 1) = (k1 : Int) := by rw [show (k : Int) + 1 = (k1 : Int) by omega]; exact IntWalk.i64_in _ (by have := HL.out; omega)
      have HKK : Hid (k1 = k + 1 ∧ k + gk = n ∧ k < n) := Lib.hid ⟨hk1, hk, hlt⟩
      by_cases m1 : 1 ≤ m
      · have q1 : decide ((m : Int) < 1) = false := decide_eq_false (by omega)
        by_cases m2 : m ≤ 4294967294
        · have q2 : decide ((m : Int) > 4294967294) = false := decide_eq_false (by omega)
          have q3 : ¬ (4294967294 : Int) < m := by omega
          have HA1 : Hid (∀ e ∈ r.mans.take k1, manQ e) := Lib.hid (fun e he => by
            rw [hk1, htk] at he
            rcases List.mem_append.1 he with x | x
            · exact HA.out e x
            · rw [List.mem_singleton.1 x]; exact ⟨m1, m2⟩)
          clear hcell hlt32 htk hmem hm hk1 hk hlt hkl m1 m2 HA
          go_wp2
          go_roundg (n - k1)
          · exact ⟨k1, by have := HKK.out; omega, by first | rfl | (have := HKK.out; congr 1; omega), HA1, HKW⟩
          · have := HKK.out; omega
        · have q2 : decide ((m : Int) > 4294967294) = true := decide_eq_true (by omega)
          have q3 : (4294967294 : Int) < m := by omega
          obtain rfl : res = 1 := HNO.out (fun u => m2 (u m hmem).2)
          clear hcell hlt32 htk hmem hm hk1 hk hlt hkl m1 m2 HA
          go_wp2
          go_ret
          exact ⟨rfl, HKW.out⟩
      · have q1 : decide ((m : Int) < 1) = true := decide_eq_true (by omega)
        obtain rfl : res = 1 := HNO.out (fun u => m1 (u m hmem).1)
        clear hcell hlt32 htk hmem hm hk1 hk hlt hkl m1 HA
        go_wp2
        go_ret
        exact ⟨rfl, HKW.out⟩
    · have hki : ¬ (k : Int) < n := by omega
      have bk : decide ((k : Int) < (n : Int)) = false := by simpa using hki
      obtain rfl : res = 0 := HY.out (fun e he => HA.out e (by rw [List.take_of_length_le (by have := HN.out; omega)]; exact he))
      clear hk hlt
      go_wp2
      go_ret
      exact ⟨rfl, HKW.out⟩

end Go.Proofs.YtijdbmapdmhknaaDoor
