/- The walk of HookTexts. -/
import Derived.Test.YthgjooacapodnaaHkAw
namespace Go.Proofs.Ythgjooacapodnaa
open Go.RowKit

theorem awake_b (w : World) : Calls Try.prog 13 #[] w fun e w' => e = .returned (.bool true) ∧ Below w.heap.size w w' := awake_any w

set_option maxRecDepth 100000 in
set_option maxHeartbeats 4000000 in
theorem walk_hookTexts (l : List UInt8) (hl : l.length = 32) (w : World) : Calls Try.prog 3 #[.agg (fpA l)] w (LawPost w) := by
  have TX := fun W => text_any l hl W
  have PA := fun W => parse_text l hl W
  have NU := fun W => num_any l hl W
  have RN := fun W => rnum_any l hl W
  have RT := fun W => rtext_any l hl W
  have AW := fun W => awake_b W
  have EQ := fun W => eq_fp l l hl hl W
  have beqE : (l == l) = true := by simp
  rw [beqE] at EQ
  have HI := Lib.hid (fp_info l hl)
  have H1 := Lib.hid (fpA_one l)
  have HFS : Hid ((fpA l).size = 32) := by rw [fpA_size]; exact hl
  obtain ⟨F, hF⟩ : ∃ F, F = fpA l := ⟨_, rfl⟩
  rw [← hF] at TX PA NU RN RT EQ HI H1 HFS ⊢
  obtain ⟨sx, hsx⟩ : ∃ s, s = str (hexL l) := ⟨_, rfl⟩
  rw [← hsx] at TX PA RT
  obtain ⟨nn, hnn⟩ : ∃ n, n = numL l := ⟨_, rfl⟩
  rw [← hnn] at NU RN
  have gF0 := heap_alloc_last w (.cells F 23)
  have KA : Below w.heap.size w (w.alloc (.cells F 23)) := (Below.refl _ _).alloc (Nat.le_refl _) _
  clear hF hsx hnn hl beqE
  go_enter Try.func3, Try.ntmps3
  go_wp2_with (with_reducible refine wpList_load_row rfl _ _ rfl w.heap.size rfl 23 F (0, 0) _ gF0 Try.underlying23 rfl HI.out ?_)
  refine (TX _).mono ?_
  rintro e w1 ⟨rfl, hb1⟩
  have gF1 : w1.heap[w.heap.size]? = some (.cells F 23 (0, 0)) := (hb1.block _ (Array.getElem?_eq_some_iff.1 gF0).1).trans gF0
  have K1 := Below.then' KA hb1 KA.size
  clear hb1 KA TX gF0
  go_wp2_with fail
  refine (PA _).mono ?_
  rintro e w2 ⟨rfl, hb2⟩
  have gF2 : w2.heap[w.heap.size]? = some (.cells F 23 (0, 0)) := (hb2.block _ (Array.getElem?_eq_some_iff.1 gF1).1).trans gF1
  have K2 := Below.then' K1 hb2 K1.size
  clear hb2 K1 PA gF1
  go_wp2_with ((with_reducible refine wpList_store_row rfl _ _ _ rfl w2.heap.size F rfl rfl 23 _ (heap_alloc_last w2 _) HI.out ?_ H1.out ?_); (· rw [HFS.out]; rfl); rw [World.setRow_alloc_new])
  have HR : Hid ((w2.alloc (.cells F 23)).heap[w.heap.size]? = some (.cells F 23 (0, 0))) := by rw [heap_alloc_old w2 _ (Array.getElem?_eq_some_iff.1 gF2).1]; exact gF2
  have HG : Hid ((w2.alloc (.cells F 23)).heap[w2.heap.size]? = some (.cells F 23 (0, 0))) := heap_alloc_new w2 _
  have K3 : Hid (Below w.heap.size w (w2.alloc (.cells F 23))) := K2.alloc K2.size _
  obtain ⟨b2, hb2⟩ : ∃ b, b = w2.heap.size := ⟨_, rfl⟩
  obtain ⟨W3, hW3⟩ : ∃ W, W = w2.alloc (.cells F 23) := ⟨_, rfl⟩
  rw [← hW3, ← hb2] at HG
  rw [← hW3] at HR K3
  rw [← hb2, ← hW3]
  clear gF2 K2 hb2 hW3
  refine wp_region_kept (by kernel_rfl) (by kernel_rfl) ?_
  refine wpQuiet_load_row (by kernel_rfl) _ _ rfl w.heap.size rfl 23 F (0, 0) _ (fun _ h => h.row HR.out) Try.underlying23 rfl HI.out (fun K hK => ?_)
  go_simp
  refine hK _ ?_; clear hK K
  refine wpQuiet_call (by kernel_rfl) _ _ _ (fun W => by go_simp) (fun W h => Calls.kept_of h (NU W)) (fun K hK => ?_)
  go_simp
  refine hK _ ?_; clear hK K
  refine wpQuiet_load_row (by kernel_rfl) _ _ rfl w.heap.size rfl 23 F (0, 0) _ (fun _ h => h.row HR.out) Try.underlying23 rfl HI.out (fun K hK => ?_)
  go_simp
  refine hK _ ?_; clear hK K
  refine wpQuiet_call (by kernel_rfl) _ _ _ (fun W => by go_simp) (fun W h => Calls.kept_of h (RN W)) (fun K hK => ?_)
  go_simp
  refine hK _ ?_; clear hK K
  refine wpQuiet_pure (by kernel_rfl) (.bool true) (fun W _ => by go_simp) (fun K hK => ?_)
  go_simp
  refine hK _ ?_; clear hK K
  refine wpQuiet_pure (v := ?_) (by kernel_rfl) ?_ (fun K hK => ?_)
  case refine_2 => intro W _; go_simp; try with_reducible rfl
  go_simp
  refine hK _ ?_; clear hK K
  refine wpQuiet_pure (v := ?_) (by kernel_rfl) ?_ (fun K hK => ?_)
  case refine_2 => intro W _; go_simp; try with_reducible rfl
  go_simp
  refine hK _ ?_; clear hK K
  refine wpQuiet_load_row (by kernel_rfl) _ _ rfl w.heap.size rfl 23 F (0, 0) _ (fun _ h => h.row HR.out) Try.underlying23 rfl HI.out (fun K hK => ?_)
  go_simp
  refine hK _ ?_; clear hK K
  refine wpQuiet_call (by kernel_rfl) _ _ _ (fun W => by go_simp) (fun W h => Calls.kept_of h (RT W)) (fun K hK => ?_)
  go_simp
  refine hK _ ?_; clear hK K
  refine wpQuiet_pure (by kernel_rfl) (.bool true) (fun W _ => by go_simp) (fun K hK => ?_)
  go_simp
  refine hK _ ?_; clear hK K
  refine wpQuiet_pure (v := ?_) (by kernel_rfl) ?_ (fun K hK => ?_)
  case refine_2 => intro W _; go_simp; try with_reducible rfl
  go_simp
  refine hK _ ?_; clear hK K
  refine wpQuiet_pure (v := ?_) (by kernel_rfl) ?_ (fun K hK => ?_)
  case refine_2 => intro W _; go_simp; try with_reducible rfl
  go_simp
  refine hK _ ?_; clear hK K
  refine wpQuiet_load_row (by kernel_rfl) _ _ rfl b2 rfl 23 F (0, 0) _ (fun _ h => h.row HG.out) Try.underlying23 rfl HI.out (fun K hK => ?_)
  go_simp
  refine hK _ ?_; clear hK K
  refine wpQuiet_load_row (by kernel_rfl) _ _ rfl w.heap.size rfl 23 F (0, 0) _ (fun _ h => h.row HR.out) Try.underlying23 rfl HI.out (fun K hK => ?_)
  go_simp
  refine hK _ ?_; clear hK K
  refine wpQuiet_pure (by kernel_rfl) (.bool true) (fun W _ => by go_simp) (fun K hK => ?_)
  go_simp
  refine hK _ ?_; clear hK K
  refine wpQuiet_pure (v := ?_) (by kernel_rfl) ?_ (fun K hK => ?_)
  case refine_2 => intro W _; go_simp; try with_reducible rfl
  go_simp
  refine hK _ ?_; clear hK K
  refine wpQuiet_pure (v := ?_) (by kernel_rfl) ?_ (fun K hK => ?_)
  case refine_2 => intro W _; go_simp; try with_reducible rfl
  go_simp
  refine hK _ ?_; clear hK K
  refine wpQuiet_pure (v := ?_) (by kernel_rfl) ?_ (fun K hK => ?_)
  case refine_2 => intro W _; go_simp; try with_reducible rfl
  go_simp
  refine hK _ ?_; clear hK K
  refine wpQuiet_pure (by kernel_rfl) (.bool true) (fun W _ => by go_simp) (fun K hK => ?_)
  go_simp
  refine hK _ ?_; clear hK K
  refine wpQuiet_pure (v := ?_) (by kernel_rfl) ?_ (fun K hK => ?_)
  case refine_2 => intro W _; go_simp; try with_reducible rfl
  go_simp
  refine hK _ ?_; clear hK K
  refine wpQuiet_pure (v := ?_) (by kernel_rfl) ?_ (fun K hK => ?_)
  case refine_2 => intro W _; go_simp; try with_reducible rfl
  go_simp
  refine hK _ ?_; clear hK K
  refine wpQuiet_call (by kernel_rfl) _ _ _ (fun W => by go_simp) (fun W h => Calls.kept_of h (AW W)) (fun K hK => ?_)
  go_simp
  refine hK _ ?_; clear hK K
  refine wpQuiet_pure (v := ?_) (by kernel_rfl) ?_ (fun K hK => ?_)
  case refine_2 => intro W _; go_simp; try with_reducible rfl
  go_simp
  refine hK _ ?_; clear hK K
  refine wpQuiet_pure (v := ?_) (by kernel_rfl) ?_ (fun K hK => ?_)
  case refine_2 => intro W _; go_simp; try with_reducible rfl
  go_simp
  refine hK _ ?_; clear hK K
  refine wpQuiet_nil ?_
  intro w9 hk9
  go_wp2
  go_ret
  exact ⟨rfl, Below.then' K3.out hk9 K3.out.size⟩

end Go.Proofs.Ythgjooacapodnaa
