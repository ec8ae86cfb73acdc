/- The landed boxes' Size and Check. -/
import Derived.Test.YtdmbebafpamgfaaDoorBxCa
namespace Go.Proofs.YtdmbebafpamgfaaDoor
open Go.RowKit

/-! ### Lengths counted one by one -/
def okK (l : List Nat) (k : Nat) : Prop := k ≤ 256 ∧ (∀ x ∈ l.take k, 1 ≤ x ∧ x ≤ 4096) ∧ (l.take k).sum ≤ 65536
theorem okK.zero (l : List Nat) : okK l 0 := ⟨by omega, fun x hx => by simp at hx, by simp⟩
theorem okK.next {l : List Nat} {k : Nat} (h : okK l k) (hk : k < l.length) (hc : cntE k (l.take k).sum 256 65536 l[k] = 0) : okK l (k + 1) := by
  unfold cntE at hc
  have g1 : ¬ (l[k] < 1 ∨ 4096 < l[k]) := fun x => by rw [if_pos x] at hc; omega
  rw [if_neg g1] at hc
  have g2 : ¬ (k = 256 ∨ 65536 < (l.take k).sum + l[k]) := fun x => by rw [if_pos x] at hc; omega
  have h1 := h.1
  refine ⟨by omega, ?_, by rw [sum_take_next _ _ hk]; omega⟩
  rw [List.take_succ_eq_append_getElem hk]
  intro x hx
  rcases List.mem_append.1 hx with hx | hx
  · exact h.2.1 x hx
  · rw [List.mem_singleton.1 hx]; omega
theorem okK.bad {l : List Nat} {k : Nat} (hk : k < l.length) (hc : cntE k (l.take k).sum 256 65536 l[k] ≠ 0) : ¬ lensOk l := by
  intro h
  refine hc ?_
  have h1 := h.2.1 _ (List.getElem_mem hk)
  have h2 := sum_take_le l (k + 1)
  rw [sum_take_next _ _ hk] at h2
  have h3 := h.2.2
  have h4 := h.1.2
  unfold cntE
  rw [if_neg (by omega), if_neg (by omega)]
theorem okK.all {l : List Nat} (h : okK l l.length) : lensOk l ↔ 1 ≤ l.length := by
  obtain ⟨h1, h2, h3⟩ := h
  rw [List.take_length] at h2 h3
  exact ⟨fun x => x.1.1, fun x => ⟨⟨x, h1⟩, h2, h3⟩⟩

/-- Counters in a block of their own, behind a world. -/
structure CI (w : World) (bc k s : Nat) (wx : World) : Prop where
  kept : Kept w wx
  le : w.heap.size ≤ bc
  row : wx.heap[bc]? = some (.cells #[.int .i64 (k : Nat), .int .i64 (s : Nat), .int .i64 256, .int .i64 65536] 73 (0, 0))
theorem CI.later {w wx wy : World} {bc k s : Nat} (h : CI w bc k s wx) (kk : Kept wx wy) : CI w bc k s wy := ⟨h.kept.then kk, h.le, kk.row h.row⟩
theorem CI.c0 {w wx : World} {bc k s : Nat} (h : CI w bc k s wx) : wx.cell? ⟨bc, 0, none⟩ = some (.int .i64 (k : Nat)) := by rw [cell_of_row _ _ _ _ _ _ h.row]; rfl
theorem CI.c1 {w wx : World} {bc k s : Nat} (h : CI w bc k s wx) : wx.cell? ⟨bc, 1, none⟩ = some (.int .i64 (s : Nat)) := by rw [cell_of_row _ _ _ _ _ _ h.row]; rfl
theorem CI.no {w wx : World} {bc k s : Nat} (h : CI w bc k s wx) (hs : s ≤ 65536) (n : Nat) (hn : n ≤ maxLen) (r : Int) (hr : r = cntE k s 256 65536 n) (hne : r ≠ 0) :
    Calls Tryd.prog 37 #[.pointer (some ⟨bc, 0, none⟩), .int .i64 n] wx fun e w' => e = .returned (.int .i64 r) ∧ Kept wx w' :=
  count_no bc 0 _ _ k s 256 65536 n wx h.row rfl rfl rfl rfl (Nat.le_refl _) hs hn r hr hne
theorem CI.yes {w wx : World} {bc k s : Nat} (h : CI w bc k s wx) (hk : k ≤ 256) (n : Nat) (hn : n ≤ maxLen) (hr : cntE k s 256 65536 n = 0) (k1 s1 : Nat) (hk1 : k1 = k + 1) (hs1 : s1 = s + n) :
    Calls Tryd.prog 37 #[.pointer (some ⟨bc, 0, none⟩), .int .i64 n] wx fun e w' => e = .returned (.int .i64 0) ∧ CI w bc k1 s1 w' :=
  (count_yes bc 0 _ _ k s 256 65536 n wx h.row rfl rfl rfl rfl (Nat.le_refl _) hk hn hr k1 s1 hk1 hs1).mono fun _ _ ⟨he, hg, hr⟩ => ⟨he, below_touch h.kept hg h.kept.size h.le, h.le, hr⟩

set_option maxRecDepth 100000 in
set_option maxHeartbeats 16000000 in
theorem size_any (h : Hd) (v : Value) (w : World) (H : HeadIs h v w) (hid : h.id < 4294967296) (hln : h.slots.length ≤ 1000) (hz : ∀ s ∈ h.slots, s.1 ≤ 1000000) :
    Calls Tryd.prog 40 #[v] w fun e w' => e = .returned (.int .i64 (sizeH h : Nat)) ∧ Kept w w' := by
  obtain ⟨sv, rfl, hsl⟩ := H
  obtain ⟨p, c, rfl, hcap, hc⟩ := hsl.out
  have HC := Lib.hid hc
  have hll := lensH_len h
  obtain ⟨n, hn⟩ : ∃ n, n = h.slots.length := ⟨_, rfl⟩
  have HN := Lib.hid hn
  obtain ⟨id, hidd⟩ : ∃ id, id = h.id := ⟨_, rfl⟩
  obtain ⟨res, hres⟩ : ∃ r, r = sizeH h := ⟨_, rfl⟩
  rw [← hidd] at hid
  have HRES : Hid (res = if idOk id ∧ lensOk (lensH h) then lenH h + (lensH h).sum else 0) := Lib.hid (by rw [hres, hidd]; rfl)
  rw [← hn] at hcap hln hll
  rw [← hn, ← hidd, ← hres]
  have HLG : Hid (∀ k (hk : k < h.slots.length), ∃ hk' : k < (lensH h).length, (lensH h)[k] = (h.slots[k]).1) := Lib.hid (fun k hk => ⟨by rw [hll, hn]; exact hk, by unfold lensH; rw [List.getElem_map]⟩)
  have HZ := Lib.hid hz
  have HLL := Lib.hid hll
  have HID := Lib.hid hid
  have CV := fun W => validID_any id hid W
  obtain ⟨W1, hW1⟩ : ∃ W1, W1 = w.alloc (.cells #[.int .u32 (id : Nat), .slice p n c] 33) := ⟨_, rfl⟩
  have HW1 := Lib.hid hW1
  have hrow := heap_alloc_last w (.cells #[.int .u32 (id : Nat), .slice p n c] 33)
  rw [← hW1] at hrow
  have HROW := Lib.hid hrow
  have HK1 : Hid (Kept w W1) := Lib.hid (by rw [hW1]; exact box_below _ _)
  have CN := boxCounters_any W1
  have HLN := Lib.hid hln
  clear hc hsl hn hidd hres hW1 hrow hz hll hid hcap hln
  go_enter Tryd.func40, Tryd.ntmps40
  go_wp2_with fail
  rw [← HW1.out]
  refine CN.mono ?_
  rintro e w2 ⟨rfl, hb2⟩
  obtain ⟨bc, hbc⟩ : ∃ b, b = w2.heap.size := ⟨_, rfl⟩
  have HBC := Lib.hid hbc
  obtain ⟨W3, hW3⟩ : ∃ W, W = w2.alloc (.cells #[.int .i64 0, .int .i64 0, .int .i64 256, .int .i64 65536] 73) := ⟨_, rfl⟩
  have HW3 := Lib.hid hW3
  have CI0 : Hid (CI W1 bc 0 ((lensH h).take 0).sum W3) := Lib.hid ⟨by rw [hW3]; exact (show Kept W1 w2 from hb2).then (box_below _ _), by rw [hbc]; exact hb2.size, by rw [hW3, hbc]; exact heap_alloc_last w2 _⟩
  have r3 := Kept.row CI0.out.kept HROW.out
  have e0 : W3.cell? ⟨w.heap.size, 1, none⟩ = some (.slice p n c) := by rw [cell_of_row _ _ _ _ _ _ r3]; rfl
  rw [hW3] at e0
  have O0 : Hid (okK (lensH h) 0) := Lib.hid (okK.zero _)
  clear hb2 hbc hW3 CN r3
  go_wp2
  rw [← HW3.out]
  rw [← HBC.out]
  clear e0
  go_loopg [10] n (fun gh y wr => ∃ (k s : Nat), k + gh = n ∧ y = .int .i64 k ∧ Hid (s = ((lensH h).take k).sum) ∧ Hid (CI W1 bc k s wr) ∧ Hid (okK (lensH h) k))
  case atStart => exact ⟨0, _, by omega, rfl, Lib.hid rfl, CI0, O0⟩
  case round =>
    clear CI0 O0
    obtain ⟨k, s, hk, rfl, HS, HI, HO⟩ := hrel
    by_cases hlt : k < n
    · have hki : (k : Int) < n := by omega
      have bk : decide ((k : Int) < (n : Int)) = true := by simpa using hki
      have hki0 : (0 : Int) ≤ k := by omega
      rcases HC.out with h0 | ⟨b, off, rfl, hcell⟩
      · have := HN.out; omega
      have hkl : k < h.slots.length := by have := HN.out; omega
      have e1 := Kept.cell HI.out.kept (Kept.cell HK1.out (hcell k hkl).1)
      have e2 := Kept.cell HI.out.kept (Kept.cell HK1.out (hcell k hkl).2)
      obtain ⟨hk', hlg⟩ := HLG.out k hkl
      have hx6 := HZ.out _ (List.getElem_mem hkl)
      obtain ⟨S, hS⟩ : ∃ S, S = h.slots[k] := ⟨_, rfl⟩
      rw [← hS] at e1 e2 hlg hx6
      obtain ⟨x, q⟩ := S
      simp only at e1 e2 hlg hx6
      obtain ⟨k1, hk1⟩ : ∃ k1, k1 = k + 1 := ⟨_, rfl⟩
      have hln := HLN.out
      have v1 : IntKind.i64.wrap ((k : Int) + 1) = (k1 : Int) := by rw [show (k : Int) + 1 = (k1 : Int) by omega]; exact IntWalk.i64_in _ (by omega)
      have HK1' : Hid (k1 = k + 1 ∧ k + gk = n ∧ k < n) := Lib.hid ⟨hk1, hk, hlt⟩
      obtain ⟨W4, hW4⟩ : ∃ W, W = wr.alloc (.cells #[.int .i64 (x : Nat), .int .u32 (q : Nat)] 68) := ⟨_, rfl⟩
      have HW4 := Lib.hid hW4
      have HI4 : Hid (CI W1 bc k s W4) := Lib.hid (HI.out.later (by rw [hW4]; exact box_below _ _))
      have hxm : x ≤ maxLen := by unfold maxLen; omega
      have hs6 : s ≤ 65536 := by rw [HS.out]; exact HO.out.2.2
      have hk2 : k ≤ 256 := HO.out.1
      by_cases hcn : cntE k s 256 65536 x = 0
      · have CY := HI4.out.yes hk2 x hxm hcn k1 (s + x) hk1 rfl
        have HO1 : Hid (okK (lensH h) k1) := Lib.hid (by rw [hk1]; exact HO.out.next hk' (by rw [← HS.out, hlg]; exact hcn))
        have HS1 : Hid (s + x = ((lensH h).take k1).sum) := Lib.hid (by rw [hk1, sum_take_next _ _ hk', ← HS.out, hlg])
        clear hcell hS hlg hk1 hx6 hW4 hxm hs6 hk2 hcn HI4 HI HO HS hk hln
        go_wp2_with fail
        rw [← HW4.out]
        refine CY.mono ?_
        rintro e w5 ⟨rfl, hi5⟩
        have HI5 := Lib.hid hi5
        clear hi5 CY
        go_wp2
        go_roundg (n - k1)
        · exact ⟨k1, s + x, by have := HK1'.out; omega, by first | rfl | (have := HK1'.out; congr 1; omega), HS1, HI5, HO1⟩
        · have := HK1'.out; omega
      · obtain ⟨r, hr⟩ : ∃ r, r = cntE k s 256 65536 x := ⟨_, rfl⟩
        have hne : r ≠ 0 := by rw [hr]; exact hcn
        have CY := HI4.out.no hs6 x hxm r hr hne
        have b2 : (r != 0) = true := bne_iff_ne.2 hne
        have b3 : (r == 0) = false := beq_eq_false_iff_ne.2 hne
        have hno : ¬ lensOk (lensH h) := okK.bad hk' (by rw [← HS.out, hlg]; exact hcn)
        have HR0 : Hid (res = 0) := Lib.hid (by rw [HRES.out, if_neg (fun y => hno y.2)])
        have HK4 : Hid (Kept w W4) := Lib.hid ((show Kept w W1 from HK1.out).then HI4.out.kept)
        clear hcell hS hlg hk1 hx6 hW4 hxm hs6 hk2 hcn HI4 HI HO HS hr hno hk hln
        go_wp2_with fail
        rw [← HW4.out]
        refine CY.mono ?_
        rintro e w5 ⟨rfl, hb5⟩
        have HK5 := Lib.hid ((show Kept w W4 from HK4.out).then hb5)
        clear hb5 CY
        go_wp2
        go_ret
        exact ⟨by rw [HR0.out]; rfl, HK5.out⟩
    · have hki : ¬ (k : Int) < n := by omega
      have bk : decide ((k : Int) < (n : Int)) = false := by simpa using hki
      obtain rfl : k = n := by omega
      have rH := Kept.row HI.out.kept HROW.out
      have e0 : wr.cell? ⟨w.heap.size, 0, none⟩ = some (.int .u32 (id : Nat)) := by rw [cell_of_row _ _ _ _ _ _ rH]; rfl
      have C8 := CV wr
      have hok : lensOk (lensH h) ↔ 1 ≤ k := by
        have := okK.all (l := lensH h) (by rw [HLL.out]; exact HO.out)
        rw [HLL.out] at this
        exact this
      have HSS : Hid (s = (lensH h).sum) := Lib.hid (by rw [HS.out, List.take_of_length_le (by rw [HLL.out]; exact Nat.le_refl _)])
      have HKW : Hid (Kept w wr) := Lib.hid ((show Kept w W1 from HK1.out).then HI.out.kept)
      by_cases hi : idOk id
      · rw [decide_eq_true hi] at C8
        by_cases h1 : 1 ≤ k
        · have b1 : ((k : Int) == 0) = false := beq_eq_false_iff_ne.2 (by omega)
          obtain ⟨z, hz⟩ : ∃ z, z = 14 + 6 * k := ⟨_, rfl⟩
          have CL := fun W => headLen_any k z hz (by have := HLN.out; omega) W
          obtain ⟨t, ht⟩ : ∃ t, t = z + s := ⟨_, rfl⟩
          have hs6 : s ≤ 65536 := by rw [HS.out]; exact HO.out.2.2
          have v1 : IntKind.i64.wrap ((z : Int) + (s : Int)) = (t : Int) := by rw [show (z : Int) + (s : Int) = (t : Int) by omega]; exact IntWalk.i64_in _ (by have := HLN.out; omega)
          have HR0 : Hid (res = t) := Lib.hid (by rw [HRES.out, if_pos ⟨hi, hok.2 h1⟩, ht, hz, HSS.out]; unfold lenH; rw [← HN.out])
          clear hi h1 hok HS HO hz ht hs6 rH hlt hk
          go_wp2_with fail
          refine C8.mono ?_
          rintro e w5 ⟨rfl, hb5⟩
          have HI5 := HI.out.later hb5
          have c0 := HI5.c0
          have c1 := HI5.c1
          have HK5 : Hid (Kept w w5) := Lib.hid ((show Kept w wr from HKW.out).then hb5)
          clear hb5 C8 HI5
          go_wp2_with fail
          refine wp_region_kept (by kernel_rfl) (by kernel_rfl) ?_
          refine wpQuiet_pure (v := ?_) (by kernel_rfl) ?_ (fun K hK => ?_)
          case refine_2 => intro W _; go_simp; try with_reducible rfl
          go_simp
          refine hK _ ?_; clear hK K
          refine wpQuiet_pure (v := ?_) (by kernel_rfl) ?_ (fun K hK => ?_)
          case refine_2 => intro W hW; have e0 := hW.cell c0; go_simp; try with_reducible rfl
          go_simp
          refine hK _ ?_; clear hK K
          refine wpQuiet_call (by kernel_rfl) _ _ _ (fun W => by go_simp) (fun W h => Calls.kept_of h (CL W)) (fun K hK => ?_)
          go_simp
          refine hK _ ?_; clear hK K
          refine wpQuiet_pure (v := ?_) (by kernel_rfl) ?_ (fun K hK => ?_)
          case refine_2 => intro W _; go_simp; try with_reducible rfl
          go_simp
          refine hK _ ?_; clear hK K
          refine wpQuiet_pure (v := ?_) (by kernel_rfl) ?_ (fun K hK => ?_)
          case refine_2 => intro W hW; have e0 := hW.cell c1; go_simp; try with_reducible rfl
          go_simp
          refine hK _ ?_; clear hK K
          refine wpQuiet_pure (v := ?_) (by kernel_rfl) ?_ (fun K hK => ?_)
          case refine_2 => intro W _; go_simp; try with_reducible rfl
          go_simp
          refine hK _ ?_; clear hK K
          refine wpQuiet_pure (v := ?_) (by kernel_rfl) ?_ (fun K hK => ?_)
          case refine_2 => intro W _; go_simp; try with_reducible rfl
          go_simp
          refine hK _ ?_; clear hK K
          refine wpQuiet_nil ?_
          intro w6 hk6
          have HK6 := Lib.hid ((show Kept w w5 from HK5.out).then hk6)
          clear hk6 c0 c1 CL
          go_wp2
          go_ret
          exact ⟨by rw [HR0.out]; rfl, HK6.out⟩
        · have h0 : k = 0 := by omega
          have b1 : ((k : Int) == 0) = true := beq_iff_eq.2 (by omega)
          have HR0 : Hid (res = 0) := Lib.hid (by rw [HRES.out, if_neg (fun y => h1 (hok.1 y.2))])
          clear hi h1 hok HS HO rH hlt hk h0
          go_wp2_with fail
          refine C8.mono ?_
          rintro e w5 ⟨rfl, hb5⟩
          have c0 := (HI.out.later hb5).c0
          have HK5 : Hid (Kept w w5) := Lib.hid ((show Kept w wr from HKW.out).then hb5)
          clear hb5 C8
          go_wp2
          go_ret
          exact ⟨by rw [HR0.out]; rfl, HK5.out⟩
      · rw [decide_eq_false hi] at C8
        have HR0 : Hid (res = 0) := Lib.hid (by rw [HRES.out, if_neg (fun y => hi y.1)])
        clear hi hok HS HO rH hlt hk
        go_wp2_with fail
        refine C8.mono ?_
        rintro e w5 ⟨rfl, hb5⟩
        have HK5 : Hid (Kept w w5) := Lib.hid ((show Kept w wr from HKW.out).then hb5)
        clear hb5 C8
        go_wp2
        go_ret
        exact ⟨by rw [HR0.out]; rfl, HK5.out⟩

theorem sizeOkB : BSizeOk := fun h v w g H => size_any h v w H (by have := g.1.2; omega) (by have := g.len.2; omega) (fun s hs => by have := (g.2.2.1 s.1 (List.mem_map.2 ⟨s, hs, rfl⟩)).2; omega)

set_option maxRecDepth 100000 in
set_option maxHeartbeats 16000000 in
theorem checkOkB : BCheckOk := by
  intro id L v w hid h hL hs
  obtain ⟨p, c, rfl, hc⟩ := h
  have HC := Lib.hid hc
  have hll : (lensC L).length = L.length := by unfold lensC; rw [List.length_map]
  obtain ⟨n, hn⟩ : ∃ n, n = L.length := ⟨_, rfl⟩
  have HN := Lib.hid hn
  obtain ⟨res, hres⟩ : ∃ r : Int, r = if mayC id L then 0 else 1 := ⟨_, rfl⟩
  have HRES : Hid (res = if idOk id ∧ lensOk (lensC L) then 0 else 1) := Lib.hid hres
  rw [← hn] at hL hll
  rw [← hn, ← hres]
  have HLG : Hid (∀ k (hk : k < L.length), ∃ hk' : k < (lensC L).length, (lensC L)[k] = (L[k]).size) := Lib.hid (fun k hk => ⟨by rw [hll, hn]; exact hk, by unfold lensC; rw [List.getElem_map]⟩)
  have HZ := Lib.hid hs
  have HLL := Lib.hid hll
  have CV := fun W => validID_any id hid W
  have CN := boxCounters_any w
  have HLN := Lib.hid hL
  clear hc hn hres hs hll hid hL
  go_enter Tryd.func11, Tryd.ntmps11
  go_wp2_with fail
  refine CN.mono ?_
  rintro e w2 ⟨rfl, hb2⟩
  obtain ⟨bc, hbc⟩ : ∃ b, b = w2.heap.size := ⟨_, rfl⟩
  have HBC := Lib.hid hbc
  obtain ⟨W3, hW3⟩ : ∃ W, W = w2.alloc (.cells #[.int .i64 0, .int .i64 0, .int .i64 256, .int .i64 65536] 73) := ⟨_, rfl⟩
  have HW3 := Lib.hid hW3
  have CI0 : Hid (CI w bc 0 ((lensC L).take 0).sum W3) := Lib.hid ⟨by rw [hW3]; exact (show Kept w w2 from hb2).then (box_below _ _), by rw [hbc]; exact hb2.size, by rw [hW3, hbc]; exact heap_alloc_last w2 _⟩
  have O0 : Hid (okK (lensC L) 0) := Lib.hid (okK.zero _)
  clear hb2 hbc hW3 CN
  go_wp2
  rw [← HW3.out]
  rw [← HBC.out]
  go_loopg [11] n (fun gh y wr => ∃ (k s : Nat), k + gh = n ∧ y = .int .i64 k ∧ Hid (s = ((lensC L).take k).sum) ∧ Hid (CI w bc k s wr) ∧ Hid (okK (lensC L) k))
  case atStart => exact ⟨0, _, by omega, rfl, Lib.hid rfl, CI0, O0⟩
  case round =>
    clear CI0 O0
    obtain ⟨k, s, hk, rfl, HS, HI, HO⟩ := hrel
    by_cases hlt : k < n
    · have hki : (k : Int) < n := by omega
      have bk : decide ((k : Int) < (n : Int)) = true := by simpa using hki
      have hki0 : (0 : Int) ≤ k := by omega
      rcases HC.out with h0 | ⟨b, off, rfl, hcell⟩
      · have := HN.out; rw [h0] at this; simp at this; omega
      have hkl : k < L.length := by have := HN.out; omega
      have e1 := Kept.cell HI.out.kept (hcell k hkl)
      obtain ⟨hk', hlg⟩ := HLG.out k hkl
      have hx6 := HZ.out _ (List.getElem_mem hkl)
      obtain ⟨X, hX⟩ : ∃ X, X = L[k] := ⟨_, rfl⟩
      rw [← hX] at e1 hlg hx6
      obtain ⟨x, hx⟩ : ∃ x, x = X.size := ⟨_, rfl⟩
      have hxs : X.size = x := hx.symm
      rw [← hx] at hlg hx6
      obtain ⟨k1, hk1⟩ : ∃ k1, k1 = k + 1 := ⟨_, rfl⟩
      have hln := HLN.out
      have v1 : IntKind.i64.wrap ((k : Int) + 1) = (k1 : Int) := by rw [show (k : Int) + 1 = (k1 : Int) by omega]; exact IntWalk.i64_in _ (by omega)
      have HK1' : Hid (k1 = k + 1 ∧ k + gk = n ∧ k < n) := Lib.hid ⟨hk1, hk, hlt⟩
      have hxm : x ≤ maxLen := by unfold maxLen; omega
      have hs6 : s ≤ 65536 := by rw [HS.out]; exact HO.out.2.2
      have hk2 : k ≤ 256 := HO.out.1
      by_cases hcn : cntE k s 256 65536 x = 0
      · have CY := HI.out.yes hk2 x hxm hcn k1 (s + x) hk1 rfl
        have HO1 : Hid (okK (lensC L) k1) := Lib.hid (by rw [hk1]; exact HO.out.next hk' (by rw [← HS.out, hlg]; exact hcn))
        have HS1 : Hid (s + x = ((lensC L).take k1).sum) := Lib.hid (by rw [hk1, sum_take_next _ _ hk', ← HS.out, hlg])
        clear hcell hX hx hlg hk1 hx6 hxm hs6 hk2 hcn HI HO HS hk hln
        go_wp2_with fail
        refine CY.mono ?_
        rintro e w5 ⟨rfl, hi5⟩
        have HI5 := Lib.hid hi5
        clear hi5 CY
        go_wp2
        go_roundg (n - k1)
        · exact ⟨k1, s + x, by have := HK1'.out; omega, by first | rfl | (have := HK1'.out; congr 1; omega), HS1, HI5, HO1⟩
        · have := HK1'.out; omega
      · obtain ⟨r, hr⟩ : ∃ r, r = cntE k s 256 65536 x := ⟨_, rfl⟩
        have hne : r ≠ 0 := by rw [hr]; exact hcn
        have CY := HI.out.no hs6 x hxm r hr hne
        have b2 : (r != 0) = true := bne_iff_ne.2 hne
        have b3 : (r == 0) = false := beq_eq_false_iff_ne.2 hne
        have hno : ¬ lensOk (lensC L) := okK.bad hk' (by rw [← HS.out, hlg]; exact hcn)
        have HR0 : Hid (res = 1) := Lib.hid (by rw [HRES.out, if_neg (fun y => hno y.2)])
        have HK4 : Hid (Kept w wr) := Lib.hid HI.out.kept
        clear hcell hX hx hlg hk1 hx6 hxm hs6 hk2 hcn HI HO HS hr hno hk hln
        go_wp2_with fail
        refine CY.mono ?_
        rintro e w5 ⟨rfl, hb5⟩
        have HK5 := Lib.hid ((show Kept w wr from HK4.out).then hb5)
        clear hb5 CY
        go_wp2
        go_ret
        exact ⟨by rw [HR0.out]; rfl, HK5.out⟩
    · have hki : ¬ (k : Int) < n := by omega
      have bk : decide ((k : Int) < (n : Int)) = false := by simpa using hki
      obtain rfl : k = n := by omega
      have C8 := CV wr
      have hok : lensOk (lensC L) ↔ 1 ≤ k := by
        have := okK.all (l := lensC L) (by rw [HLL.out]; exact HO.out)
        rw [HLL.out] at this
        exact this
      have HKW : Hid (Kept w wr) := Lib.hid HI.out.kept
      by_cases hi : idOk id
      · rw [decide_eq_true hi] at C8
        by_cases h1 : 1 ≤ k
        · have b1 : ((k : Int) == 0) = false := beq_eq_false_iff_ne.2 (by omega)
          have HR0 : Hid (res = 0) := Lib.hid (by rw [HRES.out, if_pos ⟨hi, hok.2 h1⟩])
          clear hi h1 hok HS HO hlt hk
          go_wp2_with fail
          refine C8.mono ?_
          rintro e w5 ⟨rfl, hb5⟩
          have c0 := (HI.out.later hb5).c0
          have HK5 : Hid (Kept w w5) := Lib.hid ((show Kept w wr from HKW.out).then hb5)
          clear hb5 C8
          go_wp2
          go_ret
          exact ⟨by rw [HR0.out]; rfl, HK5.out⟩
        · have b1 : ((k : Int) == 0) = true := beq_iff_eq.2 (by omega)
          have HR0 : Hid (res = 1) := Lib.hid (by rw [HRES.out, if_neg (fun y => h1 (hok.1 y.2))])
          clear hi h1 hok HS HO hlt hk
          go_wp2_with fail
          refine C8.mono ?_
          rintro e w5 ⟨rfl, hb5⟩
          have c0 := (HI.out.later hb5).c0
          have HK5 : Hid (Kept w w5) := Lib.hid ((show Kept w wr from HKW.out).then hb5)
          clear hb5 C8
          go_wp2
          go_ret
          exact ⟨by rw [HR0.out]; rfl, HK5.out⟩
      · rw [decide_eq_false hi] at C8
        have HR0 : Hid (res = 1) := Lib.hid (by rw [HRES.out, if_neg (fun y => hi y.1)])
        clear hi hok HS HO hlt hk
        go_wp2_with fail
        refine C8.mono ?_
        rintro e w5 ⟨rfl, hb5⟩
        have HK5 : Hid (Kept w w5) := Lib.hid ((show Kept w wr from HKW.out).then hb5)
        clear hb5 C8
        go_wp2
        go_ret
        exact ⟨by rw [HR0.out]; rfl, HK5.out⟩

end Go.Proofs.YtdmbebafpamgfaaDoor
