/- SparseNobody out of the contracts. -/
import Derived.Test.YtaajadmaamjebaaSxY
namespace Go.Proofs.Ytaajadmaamjebaa
open Go.RowKit

set_option maxRecDepth 100000 in
set_option maxHeartbeats 32000000 in
theorem sparseNobody_of (N : IdxNil) (AW : AwakeS) (man : Nat) (hman : man < 4294967296) (h : List UInt8) (h32 : h.length = 32) (w : World) :
    Calls Try.prog 5 #[.int .u32 (man : Nat), .agg (fpA h)] w fun e w' => e = .returned (.bool true) ∧ Kept w w' := by
  obtain ⟨ti, ht1, ht2, ht3, tz, ht4, ht5⟩ := info_fp
  have HTI : Hid (Try.prog.info? 47 = some ti ∧ ti.size = 32 ∧ ti.zero = some tz) := Lib.hid ⟨ht1, ht2, ht4⟩
  have CK := fun W => N.look W h h32
  have CE := fun W => N.peek W h h32
  obtain ⟨F, hF⟩ : ∃ F, F = fpA h := ⟨_, rfl⟩
  rw [← hF] at CK CE ⊢
  have hs : F.size = 32 := by rw [hF, fpA_size, h32]
  have HF32 : Hid (0 + 32 ≤ F.size ∧ F.extract 0 (0 + 32) = F ∧ F.size = 32) := Lib.hid ⟨by omega, by rw [show 0 + 32 = F.size by omega]; exact Array.extract_size, hs⟩
  have HXI : Hid ((Try.prog.info? 47).map (·.size) = some F.size) := Lib.hid (by rw [hs]; exact infoFp)
  have HFI : Hid ((Try.prog.info? 47).map (·.size) = some F.toList.length) := Lib.hid (by rw [Array.length_toList, hs]; exact infoFp)
  obtain ⟨W1, hW1⟩ : ∃ W, W = w.alloc (.cells F 47) := ⟨_, rfl⟩
  have HW1 := Lib.hid hW1
  have HKA : Hid (Kept w W1) := Lib.hid (by rw [hW1]; exact box_below _ _)
  have HROW : Hid (W1.heap[w.heap.size]? = some (.cells F 47 (0, 0))) := Lib.hid (by rw [hW1]; exact heap_alloc_last w _)
  obtain ⟨W2, hW2⟩ : ∃ W, W = W1.alloc (.cells F 47) := ⟨_, rfl⟩
  have HW2 := Lib.hid hW2
  have HKB : Hid (Kept W1 W2) := Lib.hid (by rw [hW2]; exact box_below _ _)
  have CP := N.put W2 man (.slice (some ⟨W1.heap.size, 0, none⟩) 1 1) h h32 (fps_oneS h32 hF (by rw [hW2]; exact heap_alloc_last W1 _)) hman
  clear hW1 hW2 ht1 ht2 ht3 ht4 ht5 hF hs h32
  go_enter Try.func5, Try.ntmps5
  go_wp2_with (first
    | (with_reducible refine wpList_load_row rfl _ _ rfl w.heap.size rfl 47 F (0, 0) _ (heap_alloc_last w _) Try.underlying47 rfl HXI.out ?_; rw [← HW1.out])
    | (with_reducible refine wpList_buildR rfl _ _ _ rfl 32 ti tz Try.underlying34 HTI.out.1 HTI.out.2.1 HTI.out.2.2 (by decide) (by decide) F rfl HF32.out.2.2 ?_; rw [← HW2.out]))
  refine CP.mono ?_
  rintro e w3 ⟨rfl, hb⟩
  have HK3 : Hid (Kept W1 w3) := Lib.hid ((show Kept W1 W2 from HKB.out).then hb)
  have HKw3d : Hid (Kept W1 w3.drew) := Lib.hid ((show Kept W1 w3 from HK3.out).then (Below.refl _ w3).drew)
  clear hb CP
  go_wp2_with fail
  refine wp_region_held_drew (S := fun W => W.heap[w.heap.size]? = some (.cells F 47 (0, 0))) (by kernel_rfl) (HKw3d.out.row HROW.out) (fun hHeld => ?_)
  refine wpAnyH_take (i := 0) (v := ?_) rfl (by kernel_rfl) (by kernel_rfl) (by kernel_rfl) (fun _ _ _ h => h) (Or.inl ⟨by first | kernel_rfl | rfl, ?_⟩) (by assumption) ?_
  case refine_2 => intro w hSw; go_simp; try with_reducible rfl
  refine wpAnyH_take (i := 1) (v := .agg F) rfl (by kernel_rfl) (by kernel_rfl) (by kernel_rfl) (fun _ _ _ h => h) (yieldsIf_load_mid (by first | kernel_rfl | rfl) _ _ rfl w.heap.size 0 (by kernel_rfl) F.toList _ (fun _ h => range_of_row h) Try.underlying47 rfl HFI.out) (by assumption) ?_
  refine wpAnyH_take (i := 4) (v := ?_) rfl (by kernel_rfl) (by kernel_rfl) (by kernel_rfl) (fun _ _ _ h => h) (Or.inl ⟨by first | kernel_rfl | rfl, ?_⟩) (by assumption) ?_
  case refine_2 => intro w hSw; go_simp; try with_reducible rfl
  refine wpAnyH_take (i := 5) (v := .agg F) rfl (by kernel_rfl) (by kernel_rfl) (by kernel_rfl) (fun _ _ _ h => h) (yieldsIf_load_mid (by first | kernel_rfl | rfl) _ _ rfl w.heap.size 0 (by kernel_rfl) F.toList _ (fun _ h => range_of_row h) Try.underlying47 rfl HFI.out) (by assumption) ?_
  refine wpAnyH_take (i := 9) (v := ?_) rfl (by kernel_rfl) (by kernel_rfl) (by kernel_rfl) (fun _ _ _ h => h) (Or.inl ⟨by first | kernel_rfl | rfl, ?_⟩) (by assumption) ?_
  case refine_2 => intro w hSw; go_simp; try with_reducible rfl
  refine wpAnyH_take (i := 10) (v := ?_) rfl (by kernel_rfl) (by kernel_rfl) (by kernel_rfl) (fun _ _ _ h => h) (Or.inl ⟨by first | kernel_rfl | rfl, ?_⟩) (by assumption) ?_
  case refine_2 => intro w hSw; go_simp; try with_reducible rfl
  refine wpAnyH_take (i := 13) (v := ?_) rfl (by kernel_rfl) (by kernel_rfl) (by kernel_rfl) (fun _ _ _ h => h) (Or.inl ⟨by first | kernel_rfl | rfl, ?_⟩) (by assumption) ?_
  case refine_2 => intro w hSw; go_simp; try with_reducible rfl
  refine wpAnyH_take (i := 16) (v := ?_) rfl (by kernel_rfl) (by kernel_rfl) (by kernel_rfl) (fun _ _ _ h => h) (Or.inl ⟨by first | kernel_rfl | rfl, ?_⟩) (by assumption) ?_
  case refine_2 => intro w hSw; go_simp; try with_reducible rfl
  refine wpAnyH_ready (rs := [2]) (by kernel_rfl) (by simp) (AllReadyH.cons rfl (fun K hK => ?_) AllReadyH.nil)
  go_simp
  refine (CK w3.drew).mono ?_
  rintro e w4 ⟨⟨p1, c1, rfl⟩, hb⟩
  have HKw4 : Hid (Kept W1 w4) := Lib.hid ((show Kept W1 w3.drew from HKw3d.out).then hb)
  clear hb
  refine hK.out _ _ (HKw4.out.row HROW.out) (fun _ => ?_)
  clear hK K
  refine wpAnyH_take (i := 3) (v := ?_) rfl (by kernel_rfl) (by kernel_rfl) (by kernel_rfl) (fun _ _ _ h => h) (Or.inl ⟨by first | kernel_rfl | rfl, ?_⟩) (by assumption) ?_
  case refine_2 => intro w hSw; go_simp; try with_reducible rfl
  refine wpAnyH_ready (rs := [6]) (by kernel_rfl) (by simp) (AllReadyH.cons rfl (fun K hK => ?_) AllReadyH.nil)
  go_simp
  refine (CE w4).mono ?_
  rintro e w5 ⟨⟨p2, c2, rfl⟩, hb⟩
  have HKw5 : Hid (Kept W1 w5) := Lib.hid ((show Kept W1 w4 from HKw4.out).then hb)
  clear hb
  refine hK.out _ _ (HKw5.out.row HROW.out) (fun _ => ?_)
  clear hK K
  refine wpAnyH_take (i := 7) (v := ?_) rfl (by kernel_rfl) (by kernel_rfl) (by kernel_rfl) (fun _ _ _ h => h) (Or.inl ⟨by first | kernel_rfl | rfl, ?_⟩) (by assumption) ?_
  case refine_2 => intro w hSw; go_simp; try with_reducible rfl
  refine wpAnyH_take (i := 8) (v := ?_) rfl (by kernel_rfl) (by kernel_rfl) (by kernel_rfl) (fun _ _ _ h => h) (Or.inl ⟨by first | kernel_rfl | rfl, ?_⟩) (by assumption) ?_
  case refine_2 => intro w hSw; go_simp; try with_reducible rfl
  refine wpAnyH_ready (rs := [11]) (by kernel_rfl) (by simp) (AllReadyH.cons rfl (fun K hK => ?_) AllReadyH.nil)
  go_simp
  refine (N.drop w5 man hman).mono ?_
  rintro e w6 ⟨rfl, hb⟩
  have HKw6 : Hid (Kept W1 w6) := Lib.hid ((show Kept W1 w5 from HKw5.out).then hb)
  clear hb
  refine hK.out _ _ (HKw6.out.row HROW.out) (fun _ => ?_)
  clear hK K
  refine wpAnyH_take (i := 12) (v := ?_) rfl (by kernel_rfl) (by kernel_rfl) (by kernel_rfl) (fun _ _ _ h => h) (Or.inl ⟨by first | kernel_rfl | rfl, ?_⟩) (by assumption) ?_
  case refine_2 => intro w hSw; go_simp; try with_reducible rfl
  refine wpAnyH_ready (rs := [14]) (by kernel_rfl) (by simp) (AllReadyH.cons rfl (fun K hK => ?_) AllReadyH.nil)
  go_simp
  refine (N.len w6).mono ?_
  rintro e w7 ⟨rfl, hb⟩
  have HKw7 : Hid (Kept W1 w7) := Lib.hid ((show Kept W1 w6 from HKw6.out).then hb)
  clear hb
  refine hK.out _ _ (HKw7.out.row HROW.out) (fun _ => ?_)
  clear hK K
  refine wpAnyH_take (i := 15) (v := ?_) rfl (by kernel_rfl) (by kernel_rfl) (by kernel_rfl) (fun _ _ _ h => h) (Or.inl ⟨by first | kernel_rfl | rfl, ?_⟩) (by assumption) ?_
  case refine_2 => intro w hSw; go_simp; try with_reducible rfl
  refine wpAnyH_ready (rs := [17]) (by kernel_rfl) (by simp) (AllReadyH.cons rfl (fun K hK => ?_) AllReadyH.nil)
  go_simp
  refine (N.hooks w7).mono ?_
  rintro e w8 ⟨⟨p3, c3, rfl⟩, hb⟩
  have HKw8 : Hid (Kept W1 w8) := Lib.hid ((show Kept W1 w7 from HKw7.out).then hb)
  clear hb
  refine hK.out _ _ (HKw8.out.row HROW.out) (fun _ => ?_)
  clear hK K
  refine wpAnyH_take (i := 18) (v := ?_) rfl (by kernel_rfl) (by kernel_rfl) (by kernel_rfl) (fun _ _ _ h => h) (Or.inl ⟨by first | kernel_rfl | rfl, ?_⟩) (by assumption) ?_
  case refine_2 => intro w hSw; go_simp; try with_reducible rfl
  refine wpAnyH_take (i := 19) (v := ?_) rfl (by kernel_rfl) (by kernel_rfl) (by kernel_rfl) (fun _ _ _ h => h) (Or.inl ⟨by first | kernel_rfl | rfl, ?_⟩) (by assumption) ?_
  case refine_2 => intro w hSw; go_simp; try with_reducible rfl
  refine wpAnyH_take (i := 20) (v := ?_) rfl (by kernel_rfl) (by kernel_rfl) (by kernel_rfl) (fun _ _ _ h => h) (Or.inl ⟨by first | kernel_rfl | rfl, ?_⟩) (by assumption) ?_
  case refine_2 => intro w hSw; go_simp; try with_reducible rfl
  refine wpAnyH_take (i := 21) (v := ?_) rfl (by kernel_rfl) (by kernel_rfl) (by kernel_rfl) (fun _ _ _ h => h) (Or.inl ⟨by first | kernel_rfl | rfl, ?_⟩) (by assumption) ?_
  case refine_2 => intro w hSw; go_simp; try with_reducible rfl
  refine wpAnyH_ready (rs := [22]) (by kernel_rfl) (by simp) (AllReadyH.cons rfl (fun K hK => ?_) AllReadyH.nil)
  go_simp
  refine (AW w8).mono ?_
  rintro e w9 ⟨rfl, hb⟩
  have HKw9 : Hid (Kept W1 w9) := Lib.hid ((show Kept W1 w8 from HKw8.out).then hb)
  clear hb
  refine hK.out _ _ (HKw9.out.row HROW.out) (fun _ => ?_)
  clear hK K
  refine wpAnyH_take (i := 23) (v := ?_) rfl (by kernel_rfl) (by kernel_rfl) (by kernel_rfl) (fun _ _ _ h => h) (Or.inl ⟨by first | kernel_rfl | rfl, ?_⟩) (by assumption) ?_
  case refine_2 => intro w hSw; go_simp; try with_reducible rfl
  refine wpAnyH_take (i := 24) (v := ?_) rfl (by kernel_rfl) (by kernel_rfl) (by kernel_rfl) (fun _ _ _ h => h) (Or.inl ⟨by first | kernel_rfl | rfl, ?_⟩) (by assumption) ?_
  case refine_2 => intro w hSw; go_simp; try with_reducible rfl
  refine wpAnyH_done (by kernel_rfl) ?_ _
  go_wp2
  go_ret
  exact ⟨rfl, (show Kept w W1 from HKA.out).then HKw9.out⟩

end Go.Proofs.Ytaajadmaamjebaa
