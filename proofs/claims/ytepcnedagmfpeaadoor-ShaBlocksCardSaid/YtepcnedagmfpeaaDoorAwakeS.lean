/- The walk of the page's example. -/
import Derived.Test.YtepcnedagmfpeaaDoorHash2
import Derived.Deep.RegionHeld3
import Derived.Deep.MidRow
namespace Go.Proofs.YtepcnedagmfpeaaDoor
open Go.RowKit

/-- What the example's sum shows in a world. -/
def SumAt (bf : Nat) (D : Array Value) (w : World) : Prop :=
  w.cell? ⟨bf, 0, none⟩ = some (.int .u8 186) ∧ w.cell? ⟨bf, 1, none⟩ = some (.int .u8 120) ∧ w.cell? ⟨bf, 2, none⟩ = some (.int .u8 22) ∧ w.cell? ⟨bf, 3, none⟩ = some (.int .u8 191) ∧ w.cell? ⟨bf, 31, none⟩ = some (.int .u8 173) ∧ w.rangeAt bf 0 D.toList

theorem sumAt_of (bf : Nat) (D : Array Value) (w : World) (h : w.heap[bf]? = some (.cells D 24 (0, 0)))
    (d0 : D[0]? = some (.int .u8 186)) (d1 : D[1]? = some (.int .u8 120)) (d2 : D[2]? = some (.int .u8 22)) (d3 : D[3]? = some (.int .u8 191)) (d31 : D[31]? = some (.int .u8 173)) : SumAt bf D w :=
  ⟨(cell_of_row _ _ _ _ _ _ h).trans d0, (cell_of_row _ _ _ _ _ _ h).trans d1, (cell_of_row _ _ _ _ _ _ h).trans d2, (cell_of_row _ _ _ _ _ _ h).trans d3, (cell_of_row _ _ _ _ _ _ h).trans d31,
    fun j v hv => by rw [Nat.zero_add, cell_of_row _ _ _ _ _ _ h]; simpa using hv⟩

theorem join_abc : joinB [⟨#[97]⟩, ⟨#[98, 99]⟩] = abcL := rfl

set_option maxRecDepth 100000 in
set_option maxHeartbeats 1000000 in
theorem awake_any (w : World) (hTab : TabAt w) : Calls Tryd.prog 8 #[] w (LawPost w) := by
  have SU := fun v w (h : StrAt [⟨#[97]⟩, ⟨#[98, 99]⟩] v w) (hT : TabAt w) => sum_any [⟨#[97]⟩, ⟨#[98, 99]⟩] v w h (by rw [join_abc]; decide) (by decide) hT
  rw [join_abc, abc_digest] at SU
  have d0 : (byA abcD)[0]? = some (.int .u8 186) := rfl
  have d1 : (byA abcD)[1]? = some (.int .u8 120) := rfl
  have d2 : (byA abcD)[2]? = some (.int .u8 22) := rfl
  have d3 : (byA abcD)[3]? = some (.int .u8 191) := rfl
  have d31 : (byA abcD)[31]? = some (.int .u8 173) := rfl
  have hFi : (Tryd.prog.info? 24).map (·.size) = some (byA abcD).size := infoFp
  have hF1 := byA_one abcD
  have heq := same_fp abcD rfl
  obtain ⟨D, hD⟩ : ∃ D, D = byA abcD := ⟨_, rfl⟩
  have hDs : D.size = 32 := by rw [hD]; rfl
  rw [← hD] at SU d0 d1 d2 d3 d31 hFi hF1 heq
  have D0 := Lib.hid d0
  have D1 := Lib.hid d1
  have D2 := Lib.hid d2
  have D3 := Lib.hid d3
  have D31 := Lib.hid d31
  have HFI := Lib.hid hFi
  have HF1 := Lib.hid hF1
  have HD := Lib.hid hD
  have HDS := Lib.hid hDs
  clear d0 d1 d2 d3 d31 hFi hF1 hD hDs
  go_enter Tryd.func8, Tryd.ntmps8
  go_wp2_with fail
  have K0 : Below w.heap.size w (w.alloc (.cells #[.string ⟨#[97]⟩, .string ⟨#[98, 99]⟩] 9)) := (Below.refl _ _).alloc (Nat.le_refl _) _
  have hSA : StrAt [⟨#[97]⟩, ⟨#[98, 99]⟩] (.slice (some ⟨w.heap.size, 0, none⟩) 2 2) (w.alloc (.cells #[.string ⟨#[97]⟩, .string ⟨#[98, 99]⟩] 9)) := by
    refine ⟨_, _, rfl, Or.inr ⟨w.heap.size, 0, rfl, fun i hi => ?_⟩⟩
    rw [cell_of_row _ _ _ _ _ _ (heap_alloc_last w _)]
    have : i = 0 ∨ i = 1 := by simp at hi; omega
    rcases this with rfl | rfl <;> rfl
  refine (SU _ _ hSA (hTab.later K0)).mono ?_
  rintro e w1 ⟨rfl, hb1⟩
  have K1 := Below.then' K0 hb1 K0.size
  clear hb1 K0 hSA SU
  go_wp2_with (((with_reducible refine wpList_store_row rfl _ _ _ rfl w1.heap.size D rfl rfl 24 _ (heap_alloc_last w1 _) HFI.out ?_ HF1.out ?_); rotate_left))
  rotate_left
  · rw [HDS.out]; rfl
  rw [World.setRow_alloc_new]
  have K2 := K1.alloc K1.size (.cells D 24)
  have f2 := heap_alloc_last w1 (.cells D 24)
  obtain ⟨W2, hW2⟩ : ∃ W2, W2 = w1.alloc (.cells D 24) := ⟨_, rfl⟩
  obtain ⟨bf, hbf⟩ : ∃ bf, bf = w1.heap.size := ⟨_, rfl⟩
  rw [← hW2] at K2 f2 ⊢
  rw [← hbf] at f2 ⊢
  clear hW2 hbf K1 w1
  have hbl : bf < W2.heap.size := (Array.getElem?_eq_some_iff.1 f2).1
  refine (new_any _).mono ?_
  rintro e w3 ⟨hh, hb, rfl, hH, hb3⟩
  have K3 := Below.then' K2 hb3 K2.size
  have f3 := (hb3.block bf hbl).trans f2
  have hs3 := hb3.size
  obtain ⟨B, hB⟩ : ∃ B, B = W2.heap.size := ⟨_, rfl⟩
  have hKB : w.heap.size ≤ B := by rw [hB]; exact K2.size
  rw [← hB] at hbl hH hs3
  have WR := write_any B hh hb [] ⟨#[97, 98]⟩ (by decide) w3 hH hs3 (hTab.later K3)
  clear hB hb3 f2 hH K2 W2
  go_wp2_with fail
  refine WR.mono ?_
  rintro e w4 ⟨rfl, hH4, hb4⟩
  have K4 := K3.trans (hb4.mono hKB)
  have f4 := (hb4.block bf hbl).trans f3
  have hs4 : B ≤ w4.heap.size := Nat.le_trans hs3 hb4.size
  have hH4' : IsHash B hh hb [97, 98] w4 := hH4
  have LE : Calls Tryd.prog 13 #[.pointer (some ⟨hh, 0, none⟩)] w4 fun e w' => e = .returned (.int .i64 2) ∧ w4 = w' := len_any B hh hb [97, 98] w4 hH4'
  have WR2 := write_any B hh hb [97, 98] ⟨#[99]⟩ (by decide) w4 hH4' hs4 (hTab.later K4)
  clear hb4 f3 K3 hH4 hH4' WR hs3
  go_wp2_with fail
  refine LE.mono ?_
  rintro e w' ⟨rfl, rfl⟩
  go_wp2_with fail
  refine WR2.mono ?_
  rintro e w5 ⟨rfl, hH5, hb5⟩
  have K5 := K4.trans (hb5.mono hKB)
  have f5 := (hb5.block bf hbl).trans f4
  have hs5 : B ≤ w5.heap.size := Nat.le_trans hs4 hb5.size
  have hH5' : IsHash B hh hb abcL w5 := hH5
  clear hb5 f4 K4 hH5 WR2 LE hs4
  go_wp2
  have SF5 : SumAt bf D w5.drew := sumAt_of bf D w5.drew f5 D0.out D1.out D2.out D3.out D31.out
  have HS := hsum_any B hh hb abcL (by decide)
  rw [abc_digest, ← HD.out] at HS
  have SFN : ∀ w6, Below w5.drew.heap.size w5.drew w6 → SumAt bf D w6 := fun w6 h => sumAt_of bf D w6 ((h.block _ (Array.getElem?_eq_some_iff.1 f5).1).trans f5) D0.out D1.out D2.out D3.out D31.out
  have hu24 := Tryd.underlying24
  have hi24 : (Tryd.prog.info? 24).map (·.size) = some D.toList.length := by rw [Array.length_toList]; exact HFI.out
  have hTb := (hTab.later K5).later (Below.refl w5.heap.size w5).drew
  have hH6 := hH5'.later (Below.refl w5.heap.size w5).drew
  unfold SumAt at SF5 SFN
  go_region_held3 (fun w' : World => w'.cell? ⟨bf, 0, none⟩ = some (.int .u8 186) ∧ w'.cell? ⟨bf, 1, none⟩ = some (.int .u8 120) ∧ w'.cell? ⟨bf, 2, none⟩ = some (.int .u8 22) ∧ w'.cell? ⟨bf, 3, none⟩ = some (.int .u8 191) ∧ w'.cell? ⟨bf, 31, none⟩ = some (.int .u8 173) ∧ w'.rangeAt bf 0 D.toList)
    (first | exact SF5 | exact SF6) ((go_at_call 14; refine (HS _ hH6 hTb).mono ?_; rintro e w6 ⟨rfl, hb6⟩; have SF6 := SFN _ hb6))
  go_wp2
  go_ret
  exact ⟨rfl, K5.drew.trans (hb6.mono K5.size)⟩

end Go.Proofs.YtepcnedagmfpeaaDoor
