/- The walk of HookSets. -/
import Derived.Test.YthgjooacapodnaaHkLa
namespace Go.Proofs.Ythgjooacapodnaa
open Go.RowKit

set_option maxRecDepth 100000 in
set_option maxHeartbeats 8000000 in
theorem walk_hookSets (w : World) (v : Value) (xs : List (List UInt8)) (ha : FpsAt 32 xs v w) (_h1 : xs.length ≤ maxLen) (l : List UInt8) (hl : l.length = 32) (b : Int) (_wb : (Lit.int .i64 b).wf = true) :
    Calls Try.prog 6 #[v, .agg (fpA l), .int .i64 b] w (LawPost w) := by
  obtain ⟨p0, c0, rfl, -⟩ := ha.2
  have gC := heap_alloc_last w (.cells (fpA l) 23)
  have K0 : Below w.heap.size w (w.alloc (.cells (fpA l) 23)) := (Below.refl _ _).alloc (Nat.le_refl _) _
  have FE := few_any p0 none xs.length 0 c0 0 (w.alloc (.cells (fpA l) 23))
  by_cases hf : xs.length ≤ 40
  · have hl1 : xs.length ≤ 1000000 := by omega
    have hsl := setL_le 32 xs ha.1
    have h32 : All32 xs := ha.1
    have hfl := Nat.le_trans (setL_le 32 (xs.filter fun l => hookB l b) (all32_filter h32 _)) (List.length_filter_le _ xs)
    have ST := fun W (k : Below w.heap.size w W) => set_any _ xs hl1 W (ha.later k)
    have RS := fun W (k : Below w.heap.size w W) => rset_any _ xs hl1 W (ha.later k)
    have SM := fun (v3 v4 : Value) W (h3 : FpsAt 32 (setL xs) v3 W) (h4 : FpsAt 32 (setL xs) v4 W) => same_any v3 v4 (setL xs) (setL xs) (Nat.le_trans hsl hl1) W h3 h4
    have HA := fun W (k : Below w.heap.size w W) => has_any l hl _ xs hl1 W (ha.later k)
    have RH := fun W (k : Below w.heap.size w W) => rhas_any l hl _ xs hl1 W (ha.later k)
    have OF := fun W (k : Below w.heap.size w W) => of_any b _ xs hl1 W (ha.later k)
    have RO := fun W (k : Below w.heap.size w W) => rof_any b _ xs hl1 W (ha.later k)
    have SO := fun (v3 v4 : Value) W (h3 : FpsAt 32 (setL (xs.filter fun l => hookB l b)) v3 W) (h4 : FpsAt 32 (setL (xs.filter fun l => hookB l b)) v4 W) => same_any v3 v4 _ _ (Nat.le_trans hfl hl1) W h3 h4
    have hb1 : (setL xs == setL xs) = true := by simp
    have hb2 : (setL (xs.filter fun l => hookB l b) == setL (xs.filter fun l => hookB l b)) = true := by simp
    rw [hb1] at SM
    rw [hb2] at SO
    rw [show (decide (xs.length ≤ 40) && decide (0 ≤ 40)) = true by simp [hf]] at FE
    have HLT : Hid ((Try.prog.info? 23).map (·.size) = some (fpA l).toList.length) := by rw [Array.length_toList]; exact fp_info l hl
    obtain ⟨n, hn⟩ : ∃ n, n = xs.length := ⟨_, rfl⟩
    obtain ⟨A, hA⟩ : ∃ A, A = setL xs := ⟨_, rfl⟩
    obtain ⟨B, hB⟩ : ∃ B, B = setL (xs.filter fun l => hookB l b) := ⟨_, rfl⟩
    obtain ⟨F, hF⟩ : ∃ F, F = fpA l := ⟨_, rfl⟩
    obtain ⟨h, hh⟩ : ∃ h, h = xs.contains l := ⟨_, rfl⟩
    rw [← hA] at ST RS SM
    rw [← hB] at OF RO SO
    rw [← hF] at FE HA RH gC K0 HLT ⊢
    rw [← hh] at HA RH
    rw [← hn] at FE ST RS HA RH OF RO hf ⊢
    clear hn hA hB hF hh hb1 hb2 ha hl hl1 hsl h32 hfl _h1 _wb
    go_enter Try.func6, Try.ntmps6
    go_wp2_with fail
    refine FE.mono ?_
    rintro e w' ⟨rfl, rfl⟩
    clear FE
    go_wp2_with fail
    obtain ⟨bx, hbx⟩ : ∃ bx, bx = w.heap.size := ⟨_, rfl⟩
    obtain ⟨W, hW⟩ : ∃ W, W = w.alloc (.cells F 23) := ⟨_, rfl⟩
    rw [← hW, ← hbx] at gC
    rw [← hW] at K0
    have R1 : W.drew.rangeAt bx 0 F.toList := range_of_row gC
    have HR := Lib.hid (fun (w' : World) (h : Below w.heap.size w w' ∧ Below W.drew.heap.size W.drew w') => range_of_row ((h.2.block _ (Array.getElem?_eq_some_iff.1 gC).1).trans gC))
    have k0 : Below w.heap.size w W.drew ∧ Below W.drew.heap.size W.drew W.drew := ⟨K0.drew, Below.refl _ _⟩
    rw [← hW, ← hbx]
    clear gC hW hbx K0
    refine wp_region_held_drew (S := fun w' => w'.rangeAt bx 0 F.toList) (by kernel_rfl) R1 (fun hHeld => ?_)
    refine wpAnyH_take (i := 0) (v := ?_) rfl (by kernel_rfl) (by kernel_rfl) (by kernel_rfl) (fun _ _ _ h => h) (Or.inl ⟨by first | kernel_rfl | rfl, ?_⟩) (by assumption) ?_
    case refine_2 => intro w hSw; go_simp; try with_reducible rfl
    refine wpAnyH_take (i := 2) (v := ?_) rfl (by kernel_rfl) (by kernel_rfl) (by kernel_rfl) (fun _ _ _ h => h) (Or.inl ⟨by first | kernel_rfl | rfl, ?_⟩) (by assumption) ?_
    case refine_2 => intro w hSw; go_simp; try with_reducible rfl
    refine wpAnyH_ready (rs := [1]) (by kernel_rfl) (by simp) (AllReadyH.cons rfl (fun K hK => ?_) AllReadyH.nil)
    go_simp
    refine (ST _ k0.1).mono ?_
    rintro e w1 ⟨v1, rfl, ho1, hb1⟩
    have k1 : Below w.heap.size w w1 ∧ Below W.drew.heap.size W.drew w1 := ⟨Below.then' k0.1 hb1 k0.1.size, Below.then' k0.2 hb1 k0.2.size⟩
    obtain ⟨p1, c1, rfl, -⟩ := ho1.fps.2
    clear ST k0
    refine hK.out _ _ (HR.out _ k1) (fun _ => ?_)
    clear hK K
    refine wpAnyH_ready (rs := [3]) (by kernel_rfl) (by simp) (AllReadyH.cons rfl (fun K hK => ?_) AllReadyH.nil)
    go_simp
    refine (RS _ k1.1).mono ?_
    rintro e w2 ⟨v2, rfl, ho2, hb2⟩
    have k2 : Below w.heap.size w w2 ∧ Below W.drew.heap.size W.drew w2 := ⟨Below.then' k1.1 hb2 k1.1.size, Below.then' k1.2 hb2 k1.2.size⟩
    obtain ⟨p2, c2, rfl, -⟩ := ho2.fps.2
    have f1 := ho1.fps.later hb2
    clear RS k1 ho1 hb1
    refine hK.out _ _ (HR.out _ k2) (fun _ => ?_)
    clear hK K
    refine wpAnyH_ready (rs := [4]) (by kernel_rfl) (by simp) (AllReadyH.cons rfl (fun K hK => ?_) AllReadyH.nil)
    go_simp
    refine (SM _ _ _ f1 ho2.fps).mono ?_
    rintro e w3 ⟨rfl, hb3⟩
    have k3 : Below w.heap.size w w3 ∧ Below W.drew.heap.size W.drew w3 := ⟨Below.then' k2.1 hb3 k2.1.size, Below.then' k2.2 hb3 k2.2.size⟩
    clear SM k2 f1 ho2 hb2
    refine hK.out _ _ (HR.out _ k3) (fun _ => ?_)
    clear hK K
    refine wpAnyH_take (i := 5) (v := ?_) rfl (by kernel_rfl) (by kernel_rfl) (by kernel_rfl) (fun _ _ _ h => h) (Or.inl ⟨by first | kernel_rfl | rfl, ?_⟩) (by assumption) ?_
    case refine_2 => intro w hSw; go_simp; try with_reducible rfl
    refine wpAnyH_take (i := 6) (v := ?_) rfl (by kernel_rfl) (by kernel_rfl) (by kernel_rfl) (fun _ _ _ h => h) (Or.inl ⟨by first | kernel_rfl | rfl, ?_⟩) (by assumption) ?_
    case refine_2 => intro w hSw; go_simp; try with_reducible rfl
    refine wpAnyH_take (i := 7) (v := .agg F) rfl (by kernel_rfl) (by kernel_rfl) (by kernel_rfl) (fun _ _ _ h => h) (yieldsIf_load_mid (by first | kernel_rfl | rfl) _ _ rfl bx 0 (by kernel_rfl) F.toList _ (fun _ h => h) Try.underlying23 rfl HLT.out) (by assumption) ?_
    refine wpAnyH_take (i := 9) (v := ?_) rfl (by kernel_rfl) (by kernel_rfl) (by kernel_rfl) (fun _ _ _ h => h) (Or.inl ⟨by first | kernel_rfl | rfl, ?_⟩) (by assumption) ?_
    case refine_2 => intro w hSw; go_simp; try with_reducible rfl
    refine wpAnyH_take (i := 10) (v := .agg F) rfl (by kernel_rfl) (by kernel_rfl) (by kernel_rfl) (fun _ _ _ h => h) (yieldsIf_load_mid (by first | kernel_rfl | rfl) _ _ rfl bx 0 (by kernel_rfl) F.toList _ (fun _ h => h) Try.underlying23 rfl HLT.out) (by assumption) ?_
    refine wpAnyH_ready (rs := [8]) (by kernel_rfl) (by simp) (AllReadyH.cons rfl (fun K hK => ?_) AllReadyH.nil)
    go_simp
    refine (HA _ k3.1).mono ?_
    rintro e w4 ⟨rfl, hb4⟩
    have k4 : Below w.heap.size w w4 ∧ Below W.drew.heap.size W.drew w4 := ⟨Below.then' k3.1 hb4 k3.1.size, Below.then' k3.2 hb4 k3.2.size⟩
    clear HA k3 hb3
    refine hK.out _ _ (HR.out _ k4) (fun _ => ?_)
    clear hK K
    refine wpAnyH_ready (rs := [11]) (by kernel_rfl) (by simp) (AllReadyH.cons rfl (fun K hK => ?_) AllReadyH.nil)
    go_simp
    refine (RH _ k4.1).mono ?_
    rintro e w5 ⟨rfl, hb5⟩
    have k5 : Below w.heap.size w w5 ∧ Below W.drew.heap.size W.drew w5 := ⟨Below.then' k4.1 hb5 k4.1.size, Below.then' k4.2 hb5 k4.2.size⟩
    clear RH k4 hb4
    refine hK.out _ _ (HR.out _ k5) (fun _ => ?_)
    clear hK K
    refine wpAnyH_take (i := 12) (v := ?_) rfl (by kernel_rfl) (by kernel_rfl) (by kernel_rfl) (fun _ _ _ h => h) (Or.inl ⟨by first | kernel_rfl | rfl, ?_⟩) (by assumption) ?_
    case refine_2 => intro w hSw; go_simp; try with_reducible rfl
    refine wpAnyH_take (i := 13) (v := ?_) rfl (by kernel_rfl) (by kernel_rfl) (by kernel_rfl) (fun _ _ _ h => h) (Or.inl ⟨by first | kernel_rfl | rfl, ?_⟩) (by assumption) ?_
    case refine_2 => intro w hSw; go_simp; try with_reducible rfl
    refine wpAnyH_take (i := 14) (v := ?_) rfl (by kernel_rfl) (by kernel_rfl) (by kernel_rfl) (fun _ _ _ h => h) (Or.inl ⟨by first | kernel_rfl | rfl, ?_⟩) (by assumption) ?_
    case refine_2 => intro w hSw; go_simp; try with_reducible rfl
    refine wpAnyH_take (i := 15) (v := ?_) rfl (by kernel_rfl) (by kernel_rfl) (by kernel_rfl) (fun _ _ _ h => h) (Or.inl ⟨by first | kernel_rfl | rfl, ?_⟩) (by assumption) ?_
    case refine_2 => intro w hSw; go_simp; try with_reducible rfl
    refine wpAnyH_take (i := 16) (v := ?_) rfl (by kernel_rfl) (by kernel_rfl) (by kernel_rfl) (fun _ _ _ h => h) (Or.inl ⟨by first | kernel_rfl | rfl, ?_⟩) (by assumption) ?_
    case refine_2 => intro w hSw; go_simp; try with_reducible rfl
    refine wpAnyH_take (i := 18) (v := ?_) rfl (by kernel_rfl) (by kernel_rfl) (by kernel_rfl) (fun _ _ _ h => h) (Or.inl ⟨by first | kernel_rfl | rfl, ?_⟩) (by assumption) ?_
    case refine_2 => intro w hSw; go_simp; try with_reducible rfl
    refine wpAnyH_take (i := 19) (v := ?_) rfl (by kernel_rfl) (by kernel_rfl) (by kernel_rfl) (fun _ _ _ h => h) (Or.inl ⟨by first | kernel_rfl | rfl, ?_⟩) (by assumption) ?_
    case refine_2 => intro w hSw; go_simp; try with_reducible rfl
    refine wpAnyH_ready (rs := [17]) (by kernel_rfl) (by simp) (AllReadyH.cons rfl (fun K hK => ?_) AllReadyH.nil)
    go_simp
    refine (OF _ k5.1).mono ?_
    rintro e w6 ⟨v6, rfl, ho6, hb6⟩
    have k6 : Below w.heap.size w w6 ∧ Below W.drew.heap.size W.drew w6 := ⟨Below.then' k5.1 hb6 k5.1.size, Below.then' k5.2 hb6 k5.2.size⟩
    obtain ⟨p6, c6, rfl, -⟩ := ho6.fps.2
    clear OF k5 hb5
    refine hK.out _ _ (HR.out _ k6) (fun _ => ?_)
    clear hK K
    refine wpAnyH_ready (rs := [20]) (by kernel_rfl) (by simp) (AllReadyH.cons rfl (fun K hK => ?_) AllReadyH.nil)
    go_simp
    refine (RO _ k6.1).mono ?_
    rintro e w7 ⟨v7, rfl, ho7, hb7⟩
    have k7 : Below w.heap.size w w7 ∧ Below W.drew.heap.size W.drew w7 := ⟨Below.then' k6.1 hb7 k6.1.size, Below.then' k6.2 hb7 k6.2.size⟩
    obtain ⟨p7, c7, rfl, -⟩ := ho7.fps.2
    have f6 := ho6.fps.later hb7
    clear RO k6 ho6 hb6
    refine hK.out _ _ (HR.out _ k7) (fun _ => ?_)
    clear hK K
    refine wpAnyH_ready (rs := [21]) (by kernel_rfl) (by simp) (AllReadyH.cons rfl (fun K hK => ?_) AllReadyH.nil)
    go_simp
    refine (SO _ _ _ f6 ho7.fps).mono ?_
    rintro e w8 ⟨rfl, hb8⟩
    have k8 : Below w.heap.size w w8 ∧ Below W.drew.heap.size W.drew w8 := ⟨Below.then' k7.1 hb8 k7.1.size, Below.then' k7.2 hb8 k7.2.size⟩
    clear SO k7 f6 ho7 hb7
    refine hK.out _ _ (HR.out _ k8) (fun _ => ?_)
    clear hK K
    refine wpAnyH_take (i := 22) (v := ?_) rfl (by kernel_rfl) (by kernel_rfl) (by kernel_rfl) (fun _ _ _ h => h) (Or.inl ⟨by first | kernel_rfl | rfl, ?_⟩) (by assumption) ?_
    case refine_2 => intro w hSw; go_simp; try with_reducible rfl
    refine wpAnyH_take (i := 23) (v := ?_) rfl (by kernel_rfl) (by kernel_rfl) (by kernel_rfl) (fun _ _ _ h => h) (Or.inl ⟨by first | kernel_rfl | rfl, ?_⟩) (by assumption) ?_
    case refine_2 => intro w hSw; go_simp; try with_reducible rfl
    refine wpAnyH_ready (rs := [24]) (by kernel_rfl) (by simp) (AllReadyH.cons rfl (fun K hK => ?_) AllReadyH.nil)
    go_simp
    refine (awake_any _).mono ?_
    rintro e w9 ⟨rfl, hb9⟩
    have k9 : Below w.heap.size w w9 ∧ Below W.drew.heap.size W.drew w9 := ⟨Below.then' k8.1 hb9 k8.1.size, Below.then' k8.2 hb9 k8.2.size⟩
    clear k8 hb8
    refine hK.out _ _ (HR.out _ k9) (fun _ => ?_)
    clear hK K
    refine wpAnyH_take (i := 25) (v := ?_) rfl (by kernel_rfl) (by kernel_rfl) (by kernel_rfl) (fun _ _ _ h => h) (Or.inl ⟨by first | kernel_rfl | rfl, ?_⟩) (by assumption) ?_
    case refine_2 => intro w hSw; go_simp; try with_reducible rfl
    refine wpAnyH_take (i := 26) (v := ?_) rfl (by kernel_rfl) (by kernel_rfl) (by kernel_rfl) (fun _ _ _ h => h) (Or.inl ⟨by first | kernel_rfl | rfl, ?_⟩) (by assumption) ?_
    case refine_2 => intro w hSw; go_simp; try with_reducible rfl
    refine wpAnyH_done (by kernel_rfl) ?_ _
    go_wp2
    go_ret
    exact ⟨rfl, k9.1⟩
  · rw [show (decide (xs.length ≤ 40) && decide (0 ≤ 40)) = false by simp; omega] at FE
    clear ha _h1 hf
    obtain ⟨n, hn⟩ : ∃ n, n = xs.length := ⟨_, rfl⟩
    obtain ⟨F, hF⟩ : ∃ F, F = fpA l := ⟨_, rfl⟩
    rw [← hn, ← hF] at FE
    rw [← hF] at K0
    rw [← hn, ← hF]
    clear hn hF gC
    go_enter Try.func6, Try.ntmps6
    go_wp2_with fail
    refine FE.mono ?_
    rintro e w' ⟨rfl, rfl⟩
    go_wp2_with fail
    refine (awake_any _).mono ?_
    rintro e w1 ⟨rfl, hb1⟩
    go_wp2
    go_ret
    exact ⟨rfl, Below.then' K0 hb1 K0.size⟩

end Go.Proofs.Ythgjooacapodnaa
