/- The landed boxes' Where. -/
import Derived.Test.YtdmbebafpamgfaaDoorBxCe
namespace Go.Proofs.YtdmbebafpamgfaaDoor
open Go.RowKit

theorem sizeH_pos {h : Hd} (g : goodH h) : sizeH h ≠ 0 := by rw [sizeH_good g]; unfold lenH; omega

set_option maxRecDepth 100000 in
set_option maxHeartbeats 16000000 in
theorem where_out (h : Hd) (g : goodH h) (k : Int) (hk : ¬ (0 ≤ k ∧ k < h.slots.length)) (v : Value) (w : World) (H : HeadIs h v w) :
    Calls Tryd.prog 39 #[v, .int .i64 k] w fun e w' => e = .returned (.tuple #[.int .i64 0, .int .i64 0, .int .i64 5]) ∧ Kept w w' := by
  have CZ := fun v W H => sizeOkB h v W g H
  obtain ⟨z, hz⟩ : ∃ z, z = sizeH h := ⟨_, rfl⟩
  rw [← hz] at CZ
  have b0 : ((z : Int) == 0) = false := beq_eq_false_iff_ne.2 (by have := sizeH_pos g; omega)
  obtain ⟨sv, rfl, hsl⟩ := H
  obtain ⟨p, c, rfl, -, -⟩ := hsl.out
  have hgl := g.len
  obtain ⟨id, hid⟩ : ∃ i, i = h.id := ⟨_, rfl⟩
  have HSL := Lib.hid hsl
  obtain ⟨n, hn⟩ : ∃ n, n = h.slots.length := ⟨_, rfl⟩
  rw [← hn] at HSL hk hgl
  rw [← hn, ← hid]
  obtain ⟨W1, hW1⟩ : ∃ W1, W1 = w.alloc (.cells #[.int .u32 (id : Nat), .slice p n c] 33) := ⟨_, rfl⟩
  have HW1 := Lib.hid hW1
  have hrow := heap_alloc_last w (.cells #[.int .u32 (id : Nat), .slice p n c] 33)
  have hk1 : Kept w W1 := by rw [hW1]; exact box_below _ _
  have e0 : (w.alloc (.cells #[.int .u32 (id : Nat), .slice p n c] 33)).cell? ⟨w.heap.size, 0, none⟩ = some (.int .u32 (id : Nat)) := by rw [cell_of_row _ _ _ _ _ _ hrow]; rfl
  have e1 : (w.alloc (.cells #[.int .u32 (id : Nat), .slice p n c] 33)).cell? ⟨w.heap.size, 1, none⟩ = some (.slice p n c) := by rw [cell_of_row _ _ _ _ _ _ hrow]; rfl
  rw [← hW1] at hrow
  have C1 := CZ (.agg #[.int .u32 (id : Nat), .slice p n c]) W1 ⟨_, by rw [hid], HSL.out.later hk1⟩
  have HROW := Lib.hid hrow
  have HK1 := Lib.hid hk1
  clear hz g hsl hid hn hW1 hrow hk1 CZ HSL
  have hcs : k < 0 ∨ (0 ≤ k ∧ (n : Int) ≤ k) := by omega
  rcases hcs with h0 | ⟨h0, h1⟩
  · have b1 : decide (k < 0) = true := decide_eq_true h0
    clear hk
    go_enter Tryd.func39, Tryd.ntmps39
    go_wp2_with fail
    rw [← HW1.out]
    refine C1.mono ?_
    rintro e w2 ⟨rfl, hb2⟩
    have HK2 : Hid (Kept w w2) := Lib.hid ((show Kept w W1 from HK1.out).then hb2)
    clear hb2 C1 e0 e1
    go_wp2
    go_ret3
    exact ⟨rfl, HK2.out⟩
  · have b1 : decide (k < 0) = false := decide_eq_false (by omega)
    have b2 : decide (k ≥ (n : Int)) = true := decide_eq_true h1
    clear hk
    go_enter Tryd.func39, Tryd.ntmps39
    go_wp2_with fail
    rw [← HW1.out]
    refine C1.mono ?_
    rintro e w2 ⟨rfl, hb2⟩
    have HK2 : Hid (Kept w w2) := Lib.hid ((show Kept w W1 from HK1.out).then hb2)
    have hr2 := Kept.row (show Kept W1 w2 from hb2) HROW.out
    have f1 : w2.cell? ⟨w.heap.size, 1, none⟩ = some (.slice p n c) := by rw [cell_of_row _ _ _ _ _ _ hr2]; rfl
    clear hb2 C1 e0 e1 hr2
    go_wp2
    go_ret3
    exact ⟨rfl, HK2.out⟩

set_option maxRecDepth 100000 in
set_option maxHeartbeats 16000000 in
theorem whereOkB : BWhereOk := by
  intro h i v w g hi H
  have CZ := fun v W H => sizeOkB h v W g H
  obtain ⟨z, hz⟩ : ∃ z, z = sizeH h := ⟨_, rfl⟩
  rw [← hz] at CZ
  have b0 : ((z : Int) == 0) = false := beq_eq_false_iff_ne.2 (by have := sizeH_pos g; omega)
  obtain ⟨sv, rfl, hsl⟩ := H
  obtain ⟨p, c, rfl, hcap, hcells⟩ := hsl.out
  have hgl := g.len
  have HNX : Hid (∀ k, k < h.slots.length → atH h (k + 1) = atH h k + lenK h k) := Lib.hid (fun k hk => atH_next hk)
  have HLE : Hid (∀ k, k < h.slots.length → atH h k + lenK h k ≤ 1000000) := Lib.hid (fun k hk => by
    have := atH_le hk
    have h2 := g.2.2.2
    unfold lenH at this
    omega)
  have HLK : Hid (∀ k (hk : k < h.slots.length), lenK h k = (h.slots[k]).1) := Lib.hid (fun k hk => lenK_get hk)
  have HA0 : Hid (atH h 0 = lenH h) := Lib.hid (by unfold atH; simp)
  obtain ⟨l0, hl0⟩ : ∃ a, a = lenH h := ⟨_, rfl⟩
  have HL0 := Lib.hid hl0
  obtain ⟨id, hid⟩ : ∃ i, i = h.id := ⟨_, rfl⟩
  have HSL := Lib.hid hsl
  have HCL := Lib.hid hcells
  obtain ⟨n, hn⟩ : ∃ n, n = h.slots.length := ⟨_, rfl⟩
  have HN := Lib.hid hn
  have CL := fun W => headLen_any n l0 (by rw [hl0, hn]; rfl) (by omega) W
  rw [← hn] at HSL hgl hcap hi
  rw [← hn, ← hid]
  obtain ⟨rA, hrA⟩ : ∃ r, r = atH h i := ⟨_, rfl⟩
  obtain ⟨rL, hrL⟩ : ∃ r, r = lenK h i := ⟨_, rfl⟩
  have HRES : Hid (rA = atH h i ∧ rL = lenK h i) := Lib.hid ⟨hrA, hrL⟩
  rw [← hrA, ← hrL]
  obtain ⟨W1, hW1⟩ : ∃ W1, W1 = w.alloc (.cells #[.int .u32 (id : Nat), .slice p n c] 33) := ⟨_, rfl⟩
  have HW1 := Lib.hid hW1
  have hrow := heap_alloc_last w (.cells #[.int .u32 (id : Nat), .slice p n c] 33)
  have hk1 : Kept w W1 := by rw [hW1]; exact box_below _ _
  have e0 : (w.alloc (.cells #[.int .u32 (id : Nat), .slice p n c] 33)).cell? ⟨w.heap.size, 0, none⟩ = some (.int .u32 (id : Nat)) := by rw [cell_of_row _ _ _ _ _ _ hrow]; rfl
  have e1 : (w.alloc (.cells #[.int .u32 (id : Nat), .slice p n c] 33)).cell? ⟨w.heap.size, 1, none⟩ = some (.slice p n c) := by rw [cell_of_row _ _ _ _ _ _ hrow]; rfl
  rw [← hW1] at hrow
  have C1 := CZ (.agg #[.int .u32 (id : Nat), .slice p n c]) W1 ⟨_, by rw [hid], HSL.out.later hk1⟩
  have HROW := Lib.hid hrow
  have HK1 := Lib.hid hk1
  have hii0 : (0 : Int) ≤ i := by omega
  have b1 : decide ((i : Int) < 0) = false := decide_eq_false (by omega)
  have b2 : decide ((i : Int) ≥ (n : Int)) = false := decide_eq_false (by omega)
  have hin : (i : Int) < n := by omega
  have hic : (i : Int) ≤ c := by omega
  have hiz : ((i : Int)).toNat = i := by omega
  have HI := Lib.hid (show i < n ∧ n ≤ 256 from ⟨hi, hgl.2⟩)
  clear hz g hsl hid hn hW1 hrow hk1 CZ HSL hcells hrA hrL hl0 hgl hcap hi
  go_enter Tryd.func39, Tryd.ntmps39
  go_wp2_with fail
  rw [← HW1.out]
  refine C1.mono ?_
  rintro e w2 ⟨rfl, hb2⟩
  have HK2 : Hid (Kept w w2) := Lib.hid ((show Kept w W1 from HK1.out).then hb2)
  have hr2 := Kept.row (show Kept W1 w2 from hb2) HROW.out
  have f1 : w2.cell? ⟨w.heap.size, 1, none⟩ = some (.slice p n c) := by rw [cell_of_row _ _ _ _ _ _ hr2]; rfl
  have HR2 := Lib.hid hr2
  clear hb2 C1 e0 e1 hr2
  go_wp2_with fail
  refine (CL w2).mono ?_
  rintro e w3 ⟨rfl, hb3⟩
  have HK3 : Hid (Kept w w3) := Lib.hid ((show Kept w w2 from HK2.out).then hb3)
  have hr3 := Kept.row (show Kept w2 w3 from hb3) HR2.out
  have f1 : w3.cell? ⟨w.heap.size, 1, none⟩ = some (.slice p n c) := by rw [cell_of_row _ _ _ _ _ _ hr3]; rfl
  have HR3 := Lib.hid hr3
  have HA1 : Hid (l0 = atH h 0) := Lib.hid (by rw [HA0.out, HL0.out])
  clear hb3 CL hr3 HK2 HR2 HW1
  go_wp2
  clear f1
  go_loopg [7, 31] i (fun gh a y wr => ∃ (k x : Nat), k + gh = i ∧ a = .int .i64 x ∧ y = .int .i64 k ∧ Hid (x = atH h k) ∧ Hid (Kept w3 wr))
  case atStart => exact ⟨0, l0, by omega, rfl, rfl, HA1, Lib.hid (Kept.refl _)⟩
  case round =>
    clear HA1
    obtain ⟨k, x, hk, rfl, rfl, HX, HK⟩ := hrel
    by_cases hlt : k < i
    · have hki : (k : Int) < i := by omega
      have bk : decide ((k : Int) < (i : Int)) = true := by simpa using hki
      have hki0 : (0 : Int) ≤ k := by omega
      have hkl : k < h.slots.length := by have := HN.out; have := HI.out.1; omega
      rcases HCL.out with h0 | ⟨b, off, rfl, hcell⟩
      · have := HN.out; have := HI.out; omega
      have d1 := Kept.cell HK.out (Kept.cell HK3.out (hcell k hkl).1)
      have d2 := Kept.cell HK.out (Kept.cell HK3.out (hcell k hkl).2)
      have hlk := HLK.out k hkl
      have hle := HLE.out k hkl
      have hnx := HNX.out k hkl
      obtain ⟨S, hS⟩ : ∃ S, S = h.slots[k] := ⟨_, rfl⟩
      rw [← hS] at d1 d2 hlk
      obtain ⟨ln, cr⟩ := S
      simp only at d1 d2 hlk
      rw [← HX.out, hlk] at hle hnx
      obtain ⟨k1, hk1⟩ : ∃ k1, k1 = k + 1 := ⟨_, rfl⟩
      obtain ⟨x1, hx1⟩ : ∃ x1, x1 = x + ln := ⟨_, rfl⟩
      have v1 : IntKind.i64.wrap ((k : Int) + 1) = (k1 : Int) := by rw [show (k : Int) + 1 = (k1 : Int) by omega]; exact IntWalk.i64_in _ (by have := HI.out; omega)
      have v2 : IntKind.i64.wrap ((x : Int) + (ln : Int)) = (x1 : Int) := by rw [show (x : Int) + (ln : Int) = (x1 : Int) by omega]; exact IntWalk.i64_in _ (by omega)
      have HX1 : Hid (x1 = atH h k1) := Lib.hid (by rw [hk1, hnx, hx1])
      have HKK : Hid (k1 = k + 1 ∧ k + gk = i ∧ k < i) := Lib.hid ⟨hk1, hk, hlt⟩
      have HKW : Hid (∀ o, Kept w3 (wr.alloc o)) := Lib.hid (fun o => (show Kept w3 wr from HK.out).then (box_below _ _))
      clear hcell hS hlk hle hnx hk1 hx1 hk HK
      go_wp2
      go_roundg (i - k1)
      · exact ⟨k1, x1, by have := HKK.out; omega, by first | rfl | (congr 1), by first | rfl | (have := HKK.out; congr 1; omega), HX1, Lib.hid (HKW.out _)⟩
      · have := HKK.out; omega
    · have hki : ¬ (k : Int) < i := by omega
      have bk : decide ((k : Int) < (i : Int)) = false := by simpa using hki
      have hke : k = i := by omega
      have HXR : Hid (x = rA) := Lib.hid (by rw [HX.out, HRES.out.1, hke])
      have hkl : i < h.slots.length := by have := HN.out; have := HI.out.1; omega
      rcases HCL.out with h0 | ⟨b, off, rfl, hcell⟩
      · have := HN.out; have := HI.out; omega
      have d1 := Kept.cell HK.out (Kept.cell HK3.out (hcell i hkl).1)
      have hlk := HLK.out i hkl
      rw [← HRES.out.2] at hlk
      rw [← hlk] at d1
      have x1 : wr.cell? ⟨w.heap.size, 1, none⟩ = some (.slice (some ⟨b, off, none⟩) n c) := by rw [cell_of_row _ _ _ _ _ _ (Kept.row HK.out HR3.out)]; rfl
      clear hcell hlk hlt hk hke HX hkl
      go_wp2_with fail
      refine wp_region_kept (by kernel_rfl) (by kernel_rfl) ?_
      refine wpQuiet_pure (v := ?_) (by kernel_rfl) ?_ (fun K hK => ?_)
      case refine_2 => intro W _; go_simp; try with_reducible rfl
      go_simp
      refine hK _ ?_; clear hK K
      refine wpQuiet_pure (v := ?_) (by kernel_rfl) ?_ (fun K hK => ?_)
      case refine_2 => intro W _; go_simp; try with_reducible rfl
      go_simp
      refine hK _ ?_; clear hK K
      refine wpQuiet_pure (v := ?_) (by kernel_rfl) ?_ (fun K hK => ?_)
      case refine_2 => intro W hW; have e0 := hW.cell x1; go_simp; try with_reducible rfl
      go_simp
      refine hK _ ?_; clear hK K
      refine wpQuiet_pure (v := ?_) (by kernel_rfl) ?_ (fun K hK => ?_)
      case refine_2 => intro W _; go_simp; try with_reducible rfl
      go_simp
      refine hK _ ?_; clear hK K
      refine wpQuiet_pure (v := ?_) (by kernel_rfl) ?_ (fun K hK => ?_)
      case refine_2 => intro W _; go_simp; try with_reducible rfl
      go_simp
      refine hK _ ?_; clear hK K
      refine wpQuiet_pure (v := ?_) (by kernel_rfl) ?_ (fun K hK => ?_)
      case refine_2 => intro W _; go_simp; try with_reducible rfl
      go_simp
      refine hK _ ?_; clear hK K
      refine wpQuiet_pure (v := ?_) (by kernel_rfl) ?_ (fun K hK => ?_)
      case refine_2 => intro W hW; have e0 := hW.cell d1; go_simp; try with_reducible rfl
      go_simp
      refine hK _ ?_; clear hK K
      refine wpQuiet_pure (v := ?_) (by kernel_rfl) ?_ (fun K hK => ?_)
      case refine_2 => intro W _; go_simp; try with_reducible rfl
      go_simp
      refine hK _ ?_; clear hK K
      refine wpQuiet_pure (v := ?_) (by kernel_rfl) ?_ (fun K hK => ?_)
      case refine_2 => intro W _; go_simp; try with_reducible rfl
      go_simp
      refine hK _ ?_; clear hK K
      refine wpQuiet_pure (v := ?_) (by kernel_rfl) ?_ (fun K hK => ?_)
      case refine_2 => intro W _; go_simp; try with_reducible rfl
      go_simp
      refine hK _ ?_; clear hK K
      refine wpQuiet_nil ?_
      intro w6 hk6
      have HK6 := Lib.hid (((show Kept w w3 from HK3.out).then HK.out).then hk6)
      clear hk6 x1 d1
      go_wp2
      go_ret3
      exact ⟨by rw [HXR.out]; rfl, HK6.out⟩

end Go.Proofs.YtdmbebafpamgfaaDoor
