/- The landed sparse index keeps the contracts: New; an index that nobody made. -/
import Derived.Test.YtaajadmaamjebaaSyQ
namespace Go.Proofs.Ytaajadmaamjebaa
open Go.RowKit

/-- What New leaves is an index. -/
theorem idx_ok (B bx p : Nat) (most : Int) : IdxOk B (.pointer (some ⟨bx, 0, none⟩)) (p : Int) most (IxP B bx (p : Int) most) where
  above := fun R Bs w h => h.base.2
  stay := fun R Bs w w' h hs hk => by
    obtain ⟨bm, be, L, σ, f, h⟩ := h
    exact ⟨bm, be, L, σ, f, h.stay hs hk⟩
  ptr := ⟨_, rfl⟩
  len := fun R Bs w h _ => ylen_any B bx (p : Int) most R Bs w h
  hooks := fun R Bs w h ok => yhooks_any B bx (p : Int) most R Bs w h ok
  peek := fun R Bs w k h ok h32 => ypeek_any B bx (p : Int) most R Bs w k h ok h32
  look := fun R Bs w k h ok h32 => ylook_any B bx (p : Int) most R Bs w k h ok h32
  put := fun R Bs w man ls vs h ok hman hls hv => yput_any B bx p most R Bs w man ls vs h ok hman hls (hv w (Nat.le_refl _) (fun _ _ _ => rfl))
  drop := fun R Bs w man h ok _ => ydrop_any B bx (p : Int) most R Bs w man h.base.1 h ok

theorem built_fp0Y : Try.prog.built 47 [] = some (fpA zeroL) := by
  rw [zeroL_cells]; kernel_rfl
theorem built_ix (per most : Int) (bm be : Nat) : Try.prog.built 56 [(1, .int .i64 per), (2, .int .i64 most), (4, .map (some bm)), (5, .pointer (some ⟨be, 0, none⟩))] = some #[.pointer none, .int .i64 per, .int .i64 most, .int .i64 0, .map (some bm), .pointer (some ⟨be, 0, none⟩)] := by kernel_rfl

/-- New's tests. -/
def NewPost (per most : Int) (w : World) (e : Ending) (w' : World) : Prop := Kept w w' ∧
  ((¬ ((0 ≤ per ∧ per ≤ 64) ∧ 0 ≤ most ∧ most ≤ 65536) ∧ e = .returned (.tuple #[.pointer none, .int .i64 1])) ∨
   (((0 ≤ per ∧ per ≤ 64) ∧ 0 ≤ most ∧ most ≤ 65536) ∧ ∃ ad P Bs, e = .returned (.tuple #[.pointer (some ad), .int .i64 0]) ∧ IdxOk w.heap.size (.pointer (some ad)) per most P ∧ P [] Bs w'))

set_option maxRecDepth 100000 in
set_option maxHeartbeats 2000000 in
theorem ynew_bad (per most : Int) (w : World) (h : per < 0 ∨ 64 < per ∨ most < 0 ∨ 65536 < most) : Calls Try.prog 6 #[.int .i64 per, .int .i64 most] w (NewPost per most w) := by
  have hno : ¬ ((0 ≤ per ∧ per ≤ 64) ∧ 0 ≤ most ∧ most ≤ 65536) := by omega
  have HNO := Lib.hid hno
  clear hno
  by_cases h1 : per < 0
  · clear h
    go_enter Try.func6, Try.ntmps6
    go_wp2
    go_ret2
    exact ⟨Below.refl _ _, Or.inl ⟨HNO.out, rfl⟩⟩
  by_cases h2 : 64 < per
  · clear h
    go_enter Try.func6, Try.ntmps6
    go_wp2
    go_ret2
    exact ⟨Below.refl _ _, Or.inl ⟨HNO.out, rfl⟩⟩
  by_cases h3 : most < 0
  · clear h
    go_enter Try.func6, Try.ntmps6
    go_wp2
    go_ret2
    exact ⟨Below.refl _ _, Or.inl ⟨HNO.out, rfl⟩⟩
  have h4 : 65536 < most := by omega
  clear h
  go_enter Try.func6, Try.ntmps6
  go_wp2
  go_ret2
  exact ⟨Below.refl _ _, Or.inl ⟨HNO.out, rfl⟩⟩

set_option maxRecDepth 100000 in
set_option maxHeartbeats 4000000 in
theorem ynew_good (p : Nat) (most : Int) (w : World) (hp : p ≤ 64) (hm : 0 ≤ most ∧ most ≤ 65536) : Calls Try.prog 6 #[.int .i64 (p : Nat), .int .i64 most] w (NewPost (p : Int) most w) := by
  have hmm := @run_makeMap Try.prog
  have HB0 := Lib.hid built_fp0Y
  have HM0 := Lib.hid (PtMap.made w)
  have HKM := Lib.hid (box_below w (.map #[] 0))
  have NL := newList_any zeroL rfl (w.alloc (.map #[] 0))
  have HOKC : Hid ((0 ≤ (p : Int) ∧ (p : Int) ≤ 64) ∧ 0 ≤ most ∧ most ≤ 65536) := Lib.hid ⟨⟨by omega, by omega⟩, hm⟩
  have h1 : ¬ (p : Int) < 0 := by omega
  have h2 : ¬ (64 : Int) < (p : Int) := by omega
  have h2' : ¬ 64 < p := by omega
  have h3 : ¬ most < 0 := by omega
  have h4 : ¬ (65536 : Int) < most := by omega
  obtain ⟨Z, hZ⟩ : ∃ Z, Z = fpA zeroL := ⟨_, rfl⟩
  rw [← hZ] at HB0 NL
  clear hZ hp hm
  go_enter Try.func6, Try.ntmps6
  go_wp2_with (first
    | (with_reducible refine wpList_built rfl _ _ rfl [] ?hpsZ Z HB0.out ?_)
    | (go_at_call 18; refine NL.mono ?_; rintro e w2 ⟨be, rfl, hl2, hr2, hk2⟩; have HL2 := Lib.hid hl2; have HR2 := Lib.hid hr2; have HK2 := Lib.hid hk2; have HBI := Lib.hid (built_ix (p : Int) most w.heap.size be); clear hl2 hr2 hk2 NL)
    | (with_reducible refine wpList_built rfl _ _ rfl [(1, .int .i64 (p : Nat)), (2, .int .i64 most), (4, .map (some w.heap.size)), (5, .pointer (some ⟨be, 0, none⟩))] ?hpsI _ HBI.out ?_))
  go_ret2
  have hk1 : Kept w w2 := (show Kept w _ from HKM.out).then HK2.out
  have hk3 := box_below w2 (.cells (ixA w2.heap.size w.heap.size be (p : Int) most 0) 56)
  have hs1 := HKM.out.size
  have hs2 := HK2.out.size
  have hw1 : (w.alloc (.map #[] 0)).heap.size = w.heap.size + 1 := by simp
  have hl := HL2.out
  have hlt := (Array.getElem?_eq_some_iff.1 HR2.out).1
  have hs3 : (w2.alloc (.cells (ixA w2.heap.size w.heap.size be (p : Int) most 0) 56)).heap.size = w2.heap.size + 1 := by simp
  refine ⟨hk1.then hk3, Or.inr ⟨HOKC.out, _, IxP w.heap.size w2.heap.size (p : Int) most, fun k => k = w2.heap.size ∨ k = w.heap.size ∨ k = be, rfl, idx_ok w.heap.size w2.heap.size p most, w.heap.size, be, [], fun k => if k = be then some (newNd zeroL be) else none, fun _ => none, ?_⟩⟩
  have one : ∀ b d, (if b = be then some (newNd zeroL be) else none) = some d → b = be ∧ d = newNd zeroL be := fun b d h => by
    by_cases e : b = be
    · rw [if_pos e] at h; exact ⟨e, (Option.some.inj h).symm⟩
    · rw [if_neg e] at h; cases h
  refine ⟨⟨⟨heap_alloc_last w2 _⟩, (HM0.out.later HK2.out).later hk3, ⟨fun b d h => ?_, fun b d h => ?_⟩, ⟨?_, ?_⟩, by simp⟩, rfl, fun h b => ⟨fun e => (by cases e), fun e => absurd e.1 (List.not_mem_nil)⟩, fun b hb => absurd hb (List.not_mem_nil), fun b hb => absurd hb (List.not_mem_nil), fun k hk => ?_, Or.inl rfl, Or.inr (Or.inl rfl), fun b d h => Or.inr (Or.inr (one b d h).1), fun b hb => absurd hb (List.not_mem_nil)⟩
  · obtain ⟨rfl, rfl⟩ := one b d h
    exact Kept.row hk3 HR2.out
  · obtain ⟨rfl, rfl⟩ := one b d h
    exact ⟨rfl, rfl⟩
  · simp [nxR, newNd]
  · simp [pvR, newNd]
  · show w.heap.size ≤ k ∧ k < (w2.alloc (.cells (ixA w2.heap.size w.heap.size be (p : Int) most 0) 56)).heap.size
    rw [hs3]
    rcases hk with rfl | rfl | rfl
    · omega
    · omega
    · omega

/-- New. -/
theorem newIdx : NewIdx := fun per most w _ _ => by
  by_cases h : (0 ≤ per ∧ per ≤ 64) ∧ 0 ≤ most ∧ most ≤ 65536
  · obtain ⟨⟨h1, h2⟩, h3⟩ := h
    obtain ⟨p, rfl⟩ := Int.eq_ofNat_of_zero_le h1
    exact ynew_good p most w (by omega) h3
  · exact ynew_bad per most w (by omega)

set_option maxRecDepth 100000 in
theorem xfind_nil (F : Array Value) (w : World) : Calls Try.prog 33 #[.pointer none, .agg F] w fun e w' => e = .returned (.pointer none) ∧ Kept w w' := by
  have K1 := Lib.hid (box_below w (.cells F 47))
  have MK := xmade_nil (w.alloc (.cells F 47))
  go_enter Try.func33, Try.ntmps33
  go_wp2_with (go_at_call 28; refine MK.mono ?_; rintro e w2 ⟨rfl, rfl⟩)
  go_ret
  exact ⟨rfl, K1.out⟩

set_option maxRecDepth 100000 in
theorem ypeek_nil (h : List UInt8) (h32 : h.length = 32) (w : World) : Calls Try.prog 14 #[.pointer none, .agg (fpA h)] w fun e w' => (∃ p c, e = .returned (.slice p 0 c)) ∧ Kept w w' := by
  have HI := Lib.hid (fp_info h h32)
  have K1 := Lib.hid (box_below w (.cells (fpA h) 47))
  have FI := xfind_nil (fpA h) (w.alloc (.cells (fpA h) 47))
  have g0 := heap_alloc_last w (.cells (fpA h) 47)
  obtain ⟨F, hFF⟩ : ∃ F, F = fpA h := ⟨_, rfl⟩
  rw [← hFF] at HI K1 FI g0 ⊢
  clear hFF h32
  go_enter Try.func14, Try.ntmps14
  go_wp2_with (first
    | (with_reducible refine wpList_load_row rfl _ _ rfl w.heap.size rfl 47 F (0, 0) _ g0 Try.underlying47 rfl HI.out ?_)
    | (go_at_call 33; refine FI.mono ?_; rintro e w2 ⟨rfl, hk2⟩))
  go_ret
  exact ⟨⟨_, _, rfl⟩, (show Kept w _ from K1.out).then hk2⟩

set_option maxRecDepth 100000 in
/-- An index that nobody made. -/
theorem idxNil : IdxNil := by
  refine ⟨fun w => ?_, fun w => ?_, fun w h h32 => ypeek_nil h h32 w, fun w h h32 => ?_, fun w man vs h _ _ _ => ?_, fun w man _ => ?_⟩
  · have MK := xmade_nil w
    go_enter Try.func11, Try.ntmps11
    go_wp2_with (go_at_call 28; refine MK.mono ?_; rintro e w2 ⟨rfl, rfl⟩)
    go_ret
    exact ⟨rfl, Below.refl _ _⟩
  · have MK := xmade_nil w
    go_enter Try.func17, Try.ntmps17
    go_wp2_with (go_at_call 28; refine MK.mono ?_; rintro e w2 ⟨rfl, rfl⟩)
    go_ret
    exact ⟨⟨_, _, rfl⟩, Below.refl _ _⟩
  · have HI := Lib.hid (fp_info h h32)
    have K1 := Lib.hid (box_below w (.cells (fpA h) 47))
    have FI := xfind_nil (fpA h) (w.alloc (.cells (fpA h) 47))
    have g0 := heap_alloc_last w (.cells (fpA h) 47)
    have PE := Lib.hid (fun W => ypeek_nil h h32 W)
    obtain ⟨F, hFF⟩ : ∃ F, F = fpA h := ⟨_, rfl⟩
    rw [← hFF] at HI K1 FI g0 PE ⊢
    clear hFF h32
    go_enter Try.func15, Try.ntmps15
    go_wp2_with (first
      | (with_reducible refine wpList_load_row rfl _ _ rfl w.heap.size rfl 47 F (0, 0) _ g0 Try.underlying47 rfl HI.out ?_)
      | (with_reducible refine wpList_load_row rfl _ _ rfl w.heap.size rfl 47 F (0, 0) _ g2 Try.underlying47 rfl HI.out ?_)
      | (go_at_call 33; refine FI.mono ?_; rintro e w2 ⟨rfl, hk2⟩; have g2 := hk2.row g0; have PE2 := PE.out w2; have HK2 := Lib.hid hk2; clear hk2)
      | (go_at_call 14; refine PE2.mono ?_; rintro e w3 ⟨⟨pq, cq, rfl⟩, hk3⟩))
    go_ret
    exact ⟨⟨_, _, rfl⟩, ((show Kept w _ from K1.out).then HK2.out).then hk3⟩
  · have MK := xmade_nil w
    go_enter Try.func12, Try.ntmps12
    go_wp2_with (go_at_call 28; refine MK.mono ?_; rintro e w2 ⟨rfl, rfl⟩)
    refine bodyPost_ret (results_none rfl _ _ _) rfl ?_
    exact ⟨rfl, Below.refl _ _⟩
  · have MK := xmade_nil w
    go_enter Try.func16, Try.ntmps16
    go_wp2_with (go_at_call 28; refine MK.mono ?_; rintro e w2 ⟨rfl, rfl⟩)
    go_ret
    exact ⟨rfl, Below.refl _ _⟩

end Go.Proofs.Ytaajadmaamjebaa
