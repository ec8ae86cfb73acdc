/- The walks of a Hash: Sum, New. -/
import Derived.Test.YtepcnedagmfpeaaDoorHash
namespace Go.Proofs.YtepcnedagmfpeaaDoor
open Go.RowKit

theorem zerosF_by : zerosF = byA (List.replicate 32 0) := rfl

set_option maxRecDepth 100000 in
set_option maxHeartbeats 1000000 in
theorem hsum_any (B hh hb : Nat) (l : List UInt8) (hl : l.length ≤ 100000000000000) (w : World) (hH : IsHash B hh hb l w) (hTab : TabAt w) :
    Calls Tryd.prog 14 #[.pointer (some ⟨hh, 0, none⟩)] w fun e w' => e = .returned (.agg (byA (digest l))) ∧ Below w.heap.size w w' := by
  have MD := fun w' h => made_yes B hh hb l w' h
  have hFi := infoFpD l
  have hF1 := byA_one (digest l)
  have hFs : (32 : Nat) = (byA (digest l)).size := by rw [byA_size, digest_len]
  obtain ⟨D, hD⟩ : ∃ D, D = byA (digest l) := ⟨_, rfl⟩
  have SU := fun T (h : IsText l T) => sumT_any l T h hl
  rw [← hD] at hFi hF1 hFs SU ⊢
  have HFI := Lib.hid hFi
  have HF1 := Lib.hid hF1
  have HFS := Lib.hid hFs
  clear hFi hF1 hFs hD
  go_enter Tryd.func14, Tryd.ntmps14
  go_wp2_with fail
  obtain ⟨F, hF⟩ : ∃ F : Array Value, F = zerosF := ⟨_, rfl⟩
  have hF' := hF
  unfold zerosF at hF'
  rw [← hF']
  have hFs : F.size = D.size := by rw [hF, ← HFS.out]; rfl
  have HFS2 := Lib.hid hFs
  clear hF hF' hFs
  have K0 : Below w.heap.size w (w.alloc (.cells F 24)) := (Below.refl _ _).alloc (Nat.le_refl _) _
  have hH0 := hH.later K0
  have f0 := heap_alloc_last w (.cells F 24)
  refine (MD _ hH0).mono ?_
  rintro e w' ⟨rfl, rfl⟩
  obtain ⟨h1, h2, h3, T, hT, ga, gb⟩ := hH0
  have hTs := isText_size hT
  have htx := hashA_text hh T hb hTs
  have hsz := hashA_size hh T hb hTs
  have HLE : Hid (1 + 73 ≤ (hashA hh T hb).size) := by
    have : 1 + 73 ≤ (hashA hh T hb).size := by omega
    exact this
  have ST := SU T hT
  have HTX := Lib.hid htx
  have HGA := Lib.hid ga
  clear hTs htx hsz hT ga gb hH SU MD
  go_wp2_with (with_reducible refine wpList_load_sub rfl _ _ rfl hh 1 73 rfl 59 (hashA hh T hb) (0, 0) _ HGA.out Tryd.underlying53 rfl infoTx HLE.out T HTX.out ?_)
  refine (ST _ (hTab.later K0)).mono ?_
  rintro e w2 ⟨rfl, hb2⟩
  have K2 := Below.then' K0 hb2 K0.size
  have f2 := (hb2.block _ (Array.getElem?_eq_some_iff.1 f0).1).trans f0
  clear hb2 f0 K0
  go_wp2_with (with_reducible refine wpList_store_row rfl _ _ _ rfl w.heap.size D rfl rfl 24 F f2 HFI.out HFS2.out HF1.out ?_)
  simp only [Act.put]
  refine bodyPost_ret (results_cell_row Tryd.results14 _ _ w.heap.size 24 D (0, 0) _ rfl (setRow_heap _ _ _ _ _ _ f2) Tryd.underlying24 rfl HFI.out) rfl ⟨rfl, ?_⟩
  exact below_setRow K2 (Nat.le_refl _) _

theorem built_fp : Tryd.prog.built 24 [] = some (byA (List.replicate 32 0)) := by kernel_rfl

set_option maxRecDepth 100000 in
theorem hsum_no (w : World) :
    Calls Tryd.prog 14 #[.pointer none] w fun e w' => e = .returned (.agg (byA (List.replicate 32 0))) ∧ Below w.heap.size w w' := by
  have MD := made_no
  have hb := built_fp
  have hFi : (Tryd.prog.info? 24).map (·.size) = some (byA (List.replicate 32 0)).size := infoFp
  have hF1 := byA_one (List.replicate 32 0)
  obtain ⟨D, hD⟩ : ∃ D, D = byA (List.replicate 32 0) := ⟨_, rfl⟩
  have hDs : D.size = 32 := by rw [hD]; rfl
  rw [← hD] at hb hFi hF1 ⊢
  have HB := Lib.hid hb
  have HFI := Lib.hid hFi
  have HF1 := Lib.hid hF1
  have HDS := Lib.hid hDs
  clear hb hFi hF1 hD hDs
  go_enter Tryd.func14, Tryd.ntmps14
  go_wp2_with fail
  obtain ⟨F, hF⟩ : ∃ F : Array Value, F = zerosF := ⟨_, rfl⟩
  have hF' := hF
  unfold zerosF at hF'
  rw [← hF']
  have hFs : F.size = D.size := by rw [hF, HDS.out]; rfl
  have HFS2 := Lib.hid hFs
  clear hF hF' hFs
  refine (MD _).mono ?_
  rintro e w' ⟨rfl, rfl⟩
  go_wp2_with (first
    | (with_reducible refine wpList_built rfl _ _ rfl [] ?p D HB.out ?_)
    | ((with_reducible refine wpList_store_row rfl _ _ _ rfl w.heap.size D rfl rfl 24 F (heap_alloc_last w _) HFI.out HFS2.out HF1.out ?_); rw [World.setRow_alloc_new]))
  refine bodyPost_ret (results_cell_row Tryd.results14 _ _ w.heap.size 24 D (0, 0) _ rfl (heap_alloc_last w _) Tryd.underlying24 rfl HFI.out) rfl ⟨rfl, ?_⟩
  exact (Below.refl _ _).alloc (Nat.le_refl _) _

/-- The cells of a Hash that is being made. -/
def rawA (T : Array Value) : Array Value := (Value.pointer none :: (T.toList ++ [Value.nilFunc])).toArray
theorem rawA_last (T : Array Value) (h : T.size = 73) : (rawA T)[74]? = some .nilFunc := by
  simp only [rawA, List.getElem?_toArray, List.getElem?_cons_succ]
  rw [List.getElem?_append_right (by simp [h])]
  simp [h]
theorem rawA_set (hh hb : Nat) (T : Array Value) (h : T.size = 73) :
    ((rawA T).setIfInBounds 0 (.pointer (some ⟨hh, 0, none⟩))).setIfInBounds 74 (.func (.func 24) #[] #[.pointer (some ⟨hb, 0, none⟩)]) = hashA hh T hb := by
  have hT : T.toList.length = 73 := by simp [h]
  apply Array.ext'
  rw [Array.toList_setIfInBounds, Array.toList_setIfInBounds]
  simp only [rawA, hashA, List.set_cons_zero]
  rw [show (74 : Nat) = 73 + 1 from rfl, List.set_cons_succ, List.set_append_right _ _ (by omega), hT]
  rfl

theorem built_hash : Tryd.prog.built 59 [(1, .agg (txt stH (List.replicate 64 0) 0))] = some (rawA (txt stH (List.replicate 64 0) 0)) := by kernel_rfl

def NewPost (w : World) (e : Ending) (w' : World) : Prop := ∃ hh hb, e = .returned (.pointer (some ⟨hh, 0, none⟩)) ∧ IsHash w.heap.size hh hb [] w' ∧ Below w.heap.size w w'

set_option maxRecDepth 100000 in
set_option maxHeartbeats 1000000 in
theorem new_any (w : World) : Calls Tryd.prog 11 #[] w (NewPost w) := by
  have hT := text_empty
  have hb := built_hash
  have ET := emptyText_at _ rfl
  obtain ⟨T, hTT⟩ : ∃ T, T = txt stH (List.replicate 64 0) 0 := ⟨_, rfl⟩
  rw [← hTT] at hT hb ET
  have hs := isText_size hT
  have hl := rawA_last T hs
  have h0 : (rawA T)[0]? = some (.pointer none) := rfl
  have hset := fun hh hb => rawA_set hh hb T hs
  obtain ⟨R, hR⟩ : ∃ R, R = rawA T := ⟨_, rfl⟩
  rw [← hR] at hb hl h0
  have HSET : Hid (∀ hh hb, (R.setIfInBounds 0 (.pointer (some ⟨hh, 0, none⟩))).setIfInBounds 74 (.func (.func 24) #[] #[.pointer (some ⟨hb, 0, none⟩)]) = hashA hh T hb) := by
    rw [hR]; exact hset
  have HT := Lib.hid hT
  have HB := Lib.hid hb
  clear hT hb hTT hs hset hR
  go_enter Tryd.func11, Tryd.ntmps11
  go_wp2_with fail
  refine (ET _).mono ?_
  rintro e w1 ⟨rfl, hb1⟩
  go_wp2_with (with_reducible refine wpList_built rfl _ _ rfl [(1, .agg T)] ?p R HB.out ?_)
  rw [HSET.out]
  have hsz := hb1.size
  have K1 : Below w.heap.size w w1 := hb1
  go_ret
  exact ⟨_, _, rfl, ⟨hsz, by omega, by omega, T, HT.out, heap_alloc2_old w1 _ _, heap_alloc2_new w1 _ _⟩, (K1.alloc hsz _).alloc (by simp; omega) _⟩

end Go.Proofs.YtepcnedagmfpeaaDoor
