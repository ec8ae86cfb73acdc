/- The document's front, Size, Where. -/
import Derived.Test.YtdmbebafpamgfaaDoorBxD
namespace Go.Proofs.YtdmbebafpamgfaaDoor
open Go.RowKit

theorem rfront14_any (h : Hd) (v : Value) (w : World) (H : HeadIs h v w) (hl : h.slots.length ≤ 1000000) :
    Calls Tryd.prog 50 #[v] w fun e w' => e = .returned (.int .i64 (lenH h : Nat)) ∧ Kept w w' := by
  obtain ⟨sv, rfl, hsl⟩ := H
  obtain ⟨p, c, rfl, -, hc⟩ := hsl.out
  have HC := Lib.hid hc
  obtain ⟨n, hn⟩ : ∃ n, n = h.slots.length := ⟨_, rfl⟩
  have HN := Lib.hid hn
  obtain ⟨id, hidd⟩ : ∃ id, id = h.id := ⟨_, rfl⟩
  obtain ⟨r, hr⟩ : ∃ r, r = lenH h := ⟨_, rfl⟩
  have hr2 : r = 14 + 6 * n := by rw [hr, hn]; rfl
  rw [← hn] at hl
  rw [← hr, ← hn, ← hidd]
  have HKA : Hid (Kept w (w.alloc (.cells #[.int .u32 (id : Nat), .slice p n c] 33))) := Lib.hid (box_below _ _)
  have hrow := heap_alloc_last w (.cells #[.int .u32 (id : Nat), .slice p n c] 33)
  have HF0 : Hid ((w.alloc (.cells #[.int .u32 (id : Nat), .slice p n c] 33)).cell? ⟨w.heap.size, 0, none⟩ = some (.int .u32 (id : Nat))) := Lib.hid (by rw [cell_of_row _ _ _ _ _ _ hrow]; rfl)
  have HF1 : Hid ((w.alloc (.cells #[.int .u32 (id : Nat), .slice p n c] 33)).cell? ⟨w.heap.size, 1, none⟩ = some (.slice p n c)) := Lib.hid (by rw [cell_of_row _ _ _ _ _ _ hrow]; rfl)
  obtain ⟨W1, hW1⟩ : ∃ W1, W1 = w.alloc (.cells #[.int .u32 (id : Nat), .slice p n c] 33) := ⟨_, rfl⟩
  have HW1 := Lib.hid hW1
  rw [← hW1] at HKA HF0 HF1
  have v1 : IntKind.i64.wrap (6 * (n : Int)) = ((6 * n : Nat) : Int) := by rw [IntWalk.i64_in _ (by omega)]; omega
  have v2 : IntKind.i64.wrap (14 + ((6 * n : Nat) : Int)) = (r : Int) := by rw [IntWalk.i64_in _ (by omega)]; omega
  obtain ⟨q, hq⟩ : ∃ q, q = 6 * n := ⟨_, rfl⟩
  rw [← hq] at v1 v2
  clear hc hsl hn hidd hr hr2 hW1 hrow hl HN HC hq
  have f1 := HF1.out
  rw [HW1.out] at f1
  go_enter Tryd.func50, Tryd.ntmps50
  go_wp2
  go_ret
  exact ⟨rfl, by rw [← HW1.out]; exact HKA.out⟩

set_option maxRecDepth 100000 in
set_option maxHeartbeats 4000000 in
theorem rsize14_any (h : Hd) (hid : h.id < 4294967296) (v : Value) (w : World) (H : HeadIs h v w) (hl : h.slots.length ≤ 1000000) :
    Calls Tryd.prog 49 #[v] w fun e w' => e = .returned (.int .i64 (sizeH h : Nat)) ∧ Kept w w' := by
  have CG := fun W (kk : Kept w W) => rgood14_any h hid v W (H.later kk) hl
  have CF := fun W (kk : Kept w W) => rfront14_any h v W (H.later kk) hl
  obtain ⟨sv, rfl, hsl⟩ := H
  obtain ⟨p, c, rfl, -, hc⟩ := hsl.out
  have HC := Lib.hid hc
  obtain ⟨n, hn⟩ : ∃ n, n = h.slots.length := ⟨_, rfl⟩
  have HN := Lib.hid hn
  obtain ⟨id, hidd⟩ : ∃ id, id = h.id := ⟨_, rfl⟩
  obtain ⟨gb, hgb⟩ : ∃ gb, gb = decide (goodH h) := ⟨_, rfl⟩
  have HG := Lib.hid hgb
  obtain ⟨r, hr⟩ : ∃ r, r = sizeH h := ⟨_, rfl⟩
  have HRB : Hid (gb = false → r = 0) := Lib.hid (fun e => by rw [hr]; unfold sizeH; rw [if_neg (of_decide_eq_false (by rw [← hgb, e]))])
  have HRG : Hid (gb = true → r = lenH h + (lensH h).sum ∧ (lensH h).sum ≤ 65536 ∧ n ≤ 256) := Lib.hid (fun e => by
    have g : goodH h := of_decide_eq_true (by rw [← hgb, e])
    exact ⟨by rw [hr, sizeH_good g], g.2.2.2, by rw [hn]; exact g.len.2⟩)
  have HLH : Hid (lenH h = 14 + 6 * n) := Lib.hid (by rw [hn]; rfl)
  have HTG : Hid (∀ k (hk : k < h.slots.length), ((lensH h).take (k + 1)).sum = ((lensH h).take k).sum + (h.slots[k]).1) := Lib.hid (fun k hk => by
    rw [sum_take_next _ _ (by rw [lensH_len]; exact hk)]
    congr 1
    unfold lensH
    rw [List.getElem_map])
  obtain ⟨TK, hTK⟩ : ∃ TK, TK = lensH h := ⟨_, rfl⟩
  have HTL : Hid (TK.length = n) := Lib.hid (by rw [hTK, hn, lensH_len])
  have HTS : Hid (∀ k, (TK.take k).sum ≤ TK.sum) := Lib.hid (fun k => sum_take_le TK k)
  rw [← hTK] at HRG HTG
  obtain ⟨fr, hfr⟩ : ∃ fr, fr = lenH h := ⟨_, rfl⟩
  rw [← hfr] at HRG HLH CF
  rw [← hgb] at CG
  rw [← hn, ← hidd] at CF CG
  rw [← hr, ← hn, ← hidd]
  have HKA : Hid (Kept w (w.alloc (.cells #[.int .u32 (id : Nat), .slice p n c] 33))) := Lib.hid (box_below _ _)
  have hrow := heap_alloc_last w (.cells #[.int .u32 (id : Nat), .slice p n c] 33)
  have HF0 : Hid ((w.alloc (.cells #[.int .u32 (id : Nat), .slice p n c] 33)).cell? ⟨w.heap.size, 0, none⟩ = some (.int .u32 (id : Nat))) := Lib.hid (by rw [cell_of_row _ _ _ _ _ _ hrow]; rfl)
  have HF1 : Hid ((w.alloc (.cells #[.int .u32 (id : Nat), .slice p n c] 33)).cell? ⟨w.heap.size, 1, none⟩ = some (.slice p n c)) := Lib.hid (by rw [cell_of_row _ _ _ _ _ _ hrow]; rfl)
  obtain ⟨W1, hW1⟩ : ∃ W1, W1 = w.alloc (.cells #[.int .u32 (id : Nat), .slice p n c] 33) := ⟨_, rfl⟩
  have HW1 := Lib.hid hW1
  rw [← hW1] at HKA HF0 HF1
  have CG1 := CG W1 HKA.out
  have CF1 := fun W (kk : Kept W1 W) => CF W ((show Kept w W1 from HKA.out).then kk)
  clear hc hsl hn hidd hr hW1 hrow hl hgb hTK hfr CG CF hid
  have f0 := HF0.out
  have f1 := HF1.out
  rw [HW1.out] at f0 f1
  rw [HW1.out] at CG1
  go_enter Tryd.func49, Tryd.ntmps49
  go_wp2_with fail
  refine CG1.mono ?_
  rintro e w2 ⟨rfl, hb2⟩
  rw [← HW1.out] at hb2
  clear f0 f1 CG1
  cases gb with
  | false =>
    have HK2 := Lib.hid ((show Kept w W1 from HKA.out).then hb2)
    clear hb2 CF1 HTG
    go_wp2
    go_ret
    exact ⟨by rw [HRB.out (by first | trivial | rfl)]; rfl, HK2.out⟩
  | true =>
    have e0 := Kept.cell hb2 HF0.out
    have e1 := Kept.cell hb2 HF1.out
    have CF2 := CF1 w2 hb2
    have HB2 := Lib.hid hb2
    clear hb2 CF1
    go_wp2_with fail
    refine CF2.mono ?_
    rintro e w3 ⟨rfl, hb3⟩
    have HB3 := Lib.hid ((show Kept W1 w2 from HB2.out).then hb3)
    clear hb3 CF2 e0 e1 HB2
    go_wp2
    go_loopg [3, 4] n (fun gh a y wr => ∃ (k s : Nat), k + gh = n ∧ a = .int .i64 s ∧ y = .int .i64 k ∧ Hid (s = fr + (TK.take k).sum) ∧ Hid (Kept W1 wr))
    case atStart => exact ⟨0, fr, by omega, rfl, rfl, Lib.hid (by simp), HB3⟩
    case round =>
      obtain ⟨k, s, hk, rfl, rfl, HS, HKW⟩ := hrel
      have f1 := Kept.cell HKW.out HF1.out
      by_cases hlt : k < n
      · have hki : (k : Int) < n := by omega
        have bk : decide ((k : Int) < (n : Int)) = true := by simpa using hki
        rcases HC.out with h0 | ⟨b, off, rfl, hcell⟩
        · have := HN.out; omega
        · have hkl : k < h.slots.length := by have := HN.out; omega
          have e1 := Kept.cell HKW.out (Kept.cell HKA.out (hcell k hkl).1)
          have htg := HTG.out k hkl
          have hts := HTS.out (k + 1)
          obtain ⟨x, hx⟩ : ∃ x, x = (h.slots[k]).1 := ⟨_, rfl⟩
          rw [← hx] at e1 htg
          have hki0 : (0 : Int) ≤ k := by omega
          obtain ⟨k1, hk1⟩ : ∃ k1, k1 = k + 1 := ⟨_, rfl⟩
          have hgg := HRG.out (by first | trivial | rfl)
          have hlh := HLH.out
          have hs0 := HS.out
          have v1 : IntKind.i64.wrap ((k : Int) + 1) = (k1 : Int) := by rw [show (k : Int) + 1 = (k1 : Int) by omega]; exact IntWalk.i64_in _ (by omega)
          obtain ⟨s1, hs1⟩ : ∃ s1, s1 = s + x := ⟨_, rfl⟩
          have v2 : IntKind.i64.wrap ((s : Int) + (x : Int)) = (s1 : Int) := by rw [show (s : Int) + (x : Int) = (s1 : Int) by omega]; exact IntWalk.i64_in _ (by omega)
          have HS1 : Hid (s1 = fr + (TK.take k1).sum) := Lib.hid (by rw [hk1, htg, hs1, hs0]; omega)
          have HK1 : Hid (k1 = k + 1) := Lib.hid hk1
          clear hcell hk1 hx htg hts hgg hlh hs0 hs1 HS
          go_wp2
          go_roundg (n - k1)
          · exact ⟨k1, s1, by have := HK1.out; omega, rfl, by first | rfl | (have := HK1.out; simp; omega), HS1, HKW⟩
          · have := HK1.out; omega
      · have hki : ¬ (k : Int) < n := by omega
        have bk : decide ((k : Int) < (n : Int)) = false := by simpa using hki
        have hkn : k = n := by omega
        have HR : Hid (s = r) := Lib.hid (by
          rw [HS.out, (HRG.out (by first | trivial | rfl)).1, hkn, List.take_of_length_le (by have := HTL.out; omega)])
        have HKX : Hid (Kept w wr) := Lib.hid ((show Kept w W1 from HKA.out).then HKW.out)
        clear hkn HS HC HTG
        go_wp2
        go_ret
        exact ⟨by rw [← HR.out]; rfl, HKX.out⟩

set_option maxRecDepth 100000 in
set_option maxHeartbeats 4000000 in
theorem rwhere14_any (h : Hd) (g : goodH h) (i : Nat) (hi : i < h.slots.length) (v : Value) (w : World) (H : HeadIs h v w) :
    Calls Tryd.prog 32 #[v, .int .i64 i] w fun e w' => e = .returned (.tuple #[.int .i64 (atH h i : Nat), .int .i64 (lenK h i : Nat)]) ∧ Kept w w' := by
  have hl := g.len
  have CF := fun W (kk : Kept w W) => rfront14_any h v W (H.later kk) (by omega)
  obtain ⟨sv, rfl, hsl⟩ := H
  obtain ⟨p, c, rfl, -, hc⟩ := hsl.out
  have HC := Lib.hid hc
  obtain ⟨n, hn⟩ : ∃ n, n = h.slots.length := ⟨_, rfl⟩
  have HN := Lib.hid hn
  obtain ⟨id, hidd⟩ : ∃ id, id = h.id := ⟨_, rfl⟩
  have HTG : Hid (∀ k (hk : k < h.slots.length), ((lensH h).take (k + 1)).sum = ((lensH h).take k).sum + (h.slots[k]).1) := Lib.hid (fun k hk => by
    rw [sum_take_next _ _ (by rw [lensH_len]; exact hk)]
    congr 1
    unfold lensH
    rw [List.getElem_map])
  have HTS : Hid (∀ k, ((lensH h).take k).sum ≤ 65536) := Lib.hid (fun k => Nat.le_trans (sum_take_le (lensH h) k) g.2.2.2)
  obtain ⟨fr, hfr⟩ : ∃ fr, fr = lenH h := ⟨_, rfl⟩
  have HLH : Hid (fr = 14 + 6 * n ∧ n ≤ 256) := Lib.hid ⟨by rw [hfr, hn]; rfl, by omega⟩
  obtain ⟨at_, hat⟩ : ∃ a, a = atH h i := ⟨_, rfl⟩
  have HAT : Hid (at_ = fr + ((lensH h).take i).sum) := Lib.hid (by rw [hat, hfr]; rfl)
  obtain ⟨ln, hln⟩ : ∃ a, a = lenK h i := ⟨_, rfl⟩
  have HLN : Hid (∀ hk : i < h.slots.length, ln = (h.slots[i]).1) := Lib.hid (fun hk => by rw [hln, lenK_get hk])
  obtain ⟨TK, hTK⟩ : ∃ TK, TK = lensH h := ⟨_, rfl⟩
  rw [← hTK] at HTG HTS HAT
  rw [← hfr] at CF
  have HIN : Hid (i < h.slots.length) := Lib.hid hi
  have hin : i < n := by rw [hn]; exact hi
  have hii : (i : Int) < n := by omega
  have hii0 : (0 : Int) ≤ i := by omega
  rw [← hn, ← hidd] at CF
  rw [← hat, ← hln, ← hn, ← hidd]
  have HKA : Hid (Kept w (w.alloc (.cells #[.int .u32 (id : Nat), .slice p n c] 33))) := Lib.hid (box_below _ _)
  have hrow := heap_alloc_last w (.cells #[.int .u32 (id : Nat), .slice p n c] 33)
  have HF0 : Hid ((w.alloc (.cells #[.int .u32 (id : Nat), .slice p n c] 33)).cell? ⟨w.heap.size, 0, none⟩ = some (.int .u32 (id : Nat))) := Lib.hid (by rw [cell_of_row _ _ _ _ _ _ hrow]; rfl)
  have HF1 : Hid ((w.alloc (.cells #[.int .u32 (id : Nat), .slice p n c] 33)).cell? ⟨w.heap.size, 1, none⟩ = some (.slice p n c)) := Lib.hid (by rw [cell_of_row _ _ _ _ _ _ hrow]; rfl)
  obtain ⟨W1, hW1⟩ : ∃ W1, W1 = w.alloc (.cells #[.int .u32 (id : Nat), .slice p n c] 33) := ⟨_, rfl⟩
  have HW1 := Lib.hid hW1
  rw [← hW1] at HKA HF0 HF1
  have CF1 := CF W1 HKA.out
  clear hc hsl hn hidd hW1 hrow hl hTK hfr CF hat hln g hi
  have f0 := HF0.out
  have f1 := HF1.out
  rw [HW1.out] at f0 f1
  rw [HW1.out] at CF1
  go_enter Tryd.func32, Tryd.ntmps32
  go_wp2_with fail
  refine CF1.mono ?_
  rintro e w2 ⟨rfl, hb2⟩
  rw [← HW1.out] at hb2
  have HB2 := Lib.hid hb2
  clear f0 f1 CF1 hb2
  go_wp2
  go_loopg [6, 7] i (fun gh a y wr => ∃ (k s : Nat), k + gh = i ∧ a = .int .i64 s ∧ y = .int .i64 k ∧ Hid (s = fr + (TK.take k).sum) ∧ Hid (Kept W1 wr))
  case atStart => exact ⟨0, fr, by omega, rfl, rfl, Lib.hid (by simp), HB2⟩
  case round =>
    obtain ⟨k, s, hk, rfl, rfl, HS, HKW⟩ := hrel
    have f1 := Kept.cell HKW.out HF1.out
    rcases HC.out with h0 | ⟨b, off, rfl, hcell⟩
    · have := HIN.out; omega
    by_cases hlt : k < i
    · have hki : (k : Int) < i := by omega
      have bk : decide ((k : Int) < (i : Int)) = true := by simpa using hki
      have hkn : (k : Int) < n := by omega
      have hkl : k < h.slots.length := by have := HN.out; omega
      have e1 := Kept.cell HKW.out (Kept.cell HKA.out (hcell k hkl).1)
      have htg := HTG.out k hkl
      have hts := HTS.out (k + 1)
      obtain ⟨x, hx⟩ : ∃ x, x = (h.slots[k]).1 := ⟨_, rfl⟩
      rw [← hx] at e1 htg
      have hki0 : (0 : Int) ≤ k := by omega
      obtain ⟨k1, hk1⟩ : ∃ k1, k1 = k + 1 := ⟨_, rfl⟩
      have hlh := HLH.out
      have hs0 := HS.out
      have v1 : IntKind.i64.wrap ((k : Int) + 1) = (k1 : Int) := by rw [show (k : Int) + 1 = (k1 : Int) by omega]; exact IntWalk.i64_in _ (by omega)
      obtain ⟨s1, hs1⟩ : ∃ s1, s1 = s + x := ⟨_, rfl⟩
      have v2 : IntKind.i64.wrap ((s : Int) + (x : Int)) = (s1 : Int) := by rw [show (s : Int) + (x : Int) = (s1 : Int) by omega]; exact IntWalk.i64_in _ (by omega)
      have HS1 : Hid (s1 = fr + (TK.take k1).sum) := Lib.hid (by rw [hk1, htg, hs1, hs0]; omega)
      have HK1 : Hid (k1 = k + 1) := Lib.hid hk1
      clear hcell hk1 hx htg hts hlh hs0 hs1 HS
      go_wp2
      go_roundg (i - k1)
      · exact ⟨k1, s1, by have := HK1.out; omega, rfl, by first | rfl | (have := HK1.out; simp; omega), HS1, HKW⟩
      · have := HK1.out; omega
    · have hki : ¬ (k : Int) < i := by omega
      have bk : decide ((k : Int) < (i : Int)) = false := by simpa using hki
      have hkn : k = i := by omega
      have HR : Hid (s = at_) := Lib.hid (by rw [HS.out, HAT.out, hkn])
      have HKX : Hid (Kept w wr) := Lib.hid ((show Kept w W1 from HKA.out).then HKW.out)
      have e1 := Kept.cell HKW.out (Kept.cell HKA.out (hcell i HIN.out).1)
      rw [← HLN.out HIN.out] at e1
      clear hkn HS HC HTG hcell
      go_wp2
      go_quiet (fail)
      go_wp2
      go_ret2
      exact ⟨by rw [← HR.out]; rfl, (show Kept w wr from HKX.out).then (below_drewN (Below.refl _ wr) _)⟩

end Go.Proofs.YtdmbebafpamgfaaDoor
