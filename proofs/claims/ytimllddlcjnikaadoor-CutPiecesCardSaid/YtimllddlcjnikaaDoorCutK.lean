/- The walks of few and small; of the page's example. -/
import Derived.Test.YtimllddlcjnikaaDoorCutB
namespace Go.Proofs.YtimllddlcjnikaaDoor
open Go.RowKit

/-- At most 6000 bytes of a text. -/
def fewB (s : ByteArray) : ByteArray := if 6000 < s.size then s.extract 0 6000 else s
theorem fewB_size (s : ByteArray) : (fewB s).size ≤ 6000 := by
  unfold fewB
  split
  · rename_i h
    rw [(cut_list s 6000 (by omega)).2]
    exact Nat.le_refl _
  · omega

theorem few_any (s : ByteArray) (w : World) :
    Calls Tryd.prog 8 #[.string s] w fun e w' => e = .returned (.string (fewB s)) ∧ w = w' := by
  unfold fewB
  by_cases h : 6000 < s.size
  · have h1 : (6000 : Int) < s.size := by omega
    have h2 : (6000 : Int) ≤ s.size := by omega
    rw [if_pos h]
    go_enter Tryd.func8, Tryd.ntmps8
    go_wp2
    go_ret
    exact ⟨rfl, rfl⟩
  · have h1 : ¬ (6000 : Int) < s.size := by omega
    rw [if_neg h]
    go_enter Tryd.func8, Tryd.ntmps8
    go_wp2
    go_ret
    exact ⟨rfl, rfl⟩

def smallC : Array Value := #[.int .i64 2, .int .i64 4, .int .i64 1, .int .i64 1, .int .i64 0, .int .i64 0, .int .i64 0, .int .i64 0, .int .i64 0, .int .i64 0, .int .i64 0, .int .i64 0, .int .i64 0]
theorem smallC_is : IsConf smallC 2 4 1 1 := ⟨rfl, rfl, rfl, rfl, rfl, by simp [smallC, Value.oneCell']⟩

set_option maxRecDepth 100000 in
theorem small_any (w : World) :
    Calls Tryd.prog 28 #[] w fun e w' => e = .returned (.agg smallC) ∧ Below w.heap.size w w' := by
  have hb : Tryd.prog.built 23 [(0, .int .i64 2), (1, .int .i64 4), (2, .int .i64 1), (3, .int .i64 1)] = some smallC := by kernel_rfl
  have HB := Lib.hid hb
  have HFI : Hid ((Tryd.prog.info? 23).map (·.size) = some smallC.size) := info_conf
  have HON : Hid (smallC.all (·.oneCell') = true) := smallC_is.one
  have HUS : Hid ((#[Value.int .i64 0, .int .i64 0, .int .i64 0, .int .i64 0, .int .i64 0, .int .i64 0, .int .i64 0, .int .i64 0, .int .i64 0, .int .i64 0, .int .i64 0, .int .i64 0, .int .i64 0] : Array Value).size = smallC.size) := rfl
  obtain ⟨D, hD⟩ : ∃ D, D = smallC := ⟨_, rfl⟩
  rw [← hD] at HB HFI HON HUS ⊢
  clear hb hD
  go_enter Tryd.func28, Tryd.ntmps28
  go_wp2_with (first
    | (with_reducible refine wpList_built rfl _ _ rfl [(0, .int .i64 2), (1, .int .i64 4), (2, .int .i64 1), (3, .int .i64 1)] ?hpsS D HB.out ?_)
    | (with_reducible refine wpList_store_row rfl _ _ _ rfl w.heap.size D rfl rfl 23 _ (heap_alloc_last w _) HFI.out HUS.out HON.out ?_))
  refine bodyPost_ret (results_cell_row Tryd.results28 _ _ w.heap.size 23 D (0, 0) _ rfl (setRow_heap _ _ _ _ _ _ (heap_alloc_last w _)) Tryd.underlying23 rfl HFI.out) rfl ⟨rfl, ?_⟩
  exact below_setRow (box_below _ _) _ _ (Nat.le_refl _)

theorem small_all : allL 2 4 1 1 [97, 98, 99, 100, 101] = [[97, 98], [99, 100], [101]] := by
  have h1 : cutI 2 4 1 1 [97, 98, 99, 100, 101] = 2 := by decide +kernel
  have h2 : cutI 2 4 1 1 [99, 100, 101] = 2 := by decide +kernel
  have h3 : cutI 2 4 1 1 [101] = 0 := by decide +kernel
  unfold allL
  rw [if_pos (by decide), spl_cut (by rw [h1]; decide) (by rw [h1]; decide), h1]
  show [97, 98] :: spl _ [99, 100, 101] = _
  rw [spl_cut (by rw [h2]; decide) (by rw [h2]; decide), h2]
  show [97, 98] :: [99, 100] :: spl _ [101] = _
  rw [spl_zero h3 (by decide)]

theorem small_cut : cutI 2 4 1 1 [97, 98, 99, 100, 101] = 2 := by decide +kernel

set_option maxRecDepth 100000 in
set_option maxHeartbeats 4000000 in
theorem awake_any (w : World) (hT : TabAt w) : Calls Tryd.prog 13 #[] w (LawPost w) := by
  have MA := may_any smallC 2 4 1 1 smallC_is
  rw [decide_eq_true (by decide)] at MA
  have SP := splitc_any ⟨#[97, 98, 99, 100, 101]⟩ (by decide) smallC 2 4 1 1 smallC_is
  have e1 : allL 2 4 1 1 (⟨#[97, 98, 99, 100, 101]⟩ : ByteArray).data.toList = [[97, 98], [99, 100], [101]] := small_all
  rw [e1] at SP
  have CU := cut_any ⟨#[97, 98, 99, 100, 101]⟩ (by decide) smallC 2 4 1 1 smallC_is
  have e2 : cutI 2 4 1 1 (⟨#[97, 98, 99, 100, 101]⟩ : ByteArray).data.toList = 2 := small_cut
  rw [e2] at CU
  obtain ⟨D, hD⟩ : ∃ D, D = smallC := ⟨_, rfl⟩
  have SM := small_any
  rw [← hD] at MA SP CU SM
  clear e1 e2 hD
  go_enter Tryd.func13, Tryd.ntmps13
  go_wp2_with fail
  refine (SM _).mono ?_
  rintro e w1 ⟨rfl, K1⟩
  go_wp2_with fail
  refine (MA _).mono ?_
  rintro e w2 ⟨rfl, hb2⟩
  have K2 := Below.then' K1 hb2 K1.size
  clear K1 hb2
  go_wp2_with fail
  refine (SM _).mono ?_
  rintro e w3 ⟨rfl, hb3⟩
  have K3 := Below.then' K2 hb3 K2.size
  clear K2 hb3
  go_wp2_with fail
  refine (SP _ (hT.later K3)).mono ?_
  rintro e w4 ⟨v, rfl, hv, hb4⟩
  have K4 := Below.then' K3 hb4 K3.size
  clear K3 hb4
  go_wp2_with fail
  have hv2 := hv.later (box_below w4 (.cells #[.string ⟨#[97, 98]⟩, .string ⟨#[99, 100]⟩, .string ⟨#[101]⟩] 9))
  have g4 := heap_alloc_last w4 (.cells #[.string ⟨#[97, 98]⟩, .string ⟨#[99, 100]⟩, .string ⟨#[101]⟩] 9)
  have hu : StrAt (strs [[97, 98], [99, 100], [101]]) (.slice (some ⟨w4.heap.size, 0, none⟩) 3 3) (w4.alloc (.cells #[.string ⟨#[97, 98]⟩, .string ⟨#[99, 100]⟩, .string ⟨#[101]⟩] 9)) := by
    refine ⟨_, _, rfl, Or.inr ⟨_, 0, rfl, fun i hi => ?_⟩⟩
    rw [cell_of_row _ _ _ _ _ _ g4]
    have hi' : i < 3 := hi
    rcases (show i = 0 ∨ i = 1 ∨ i = 2 by omega) with rfl | rfl | rfl <;> rfl
  have K4' := K4.alloc K4.size (.cells #[.string ⟨#[97, 98]⟩, .string ⟨#[99, 100]⟩, .string ⟨#[101]⟩] 9)
  refine (same_any _ (by decide) _ _ _ hv2 hu).mono ?_
  rintro e w5 ⟨rfl, hb5⟩
  have K5 := Below.then' K4' hb5 K4'.size
  clear K4 K4' hb5 hv hv2 hu g4
  go_wp2_with fail
  refine (SM _).mono ?_
  rintro e w6 ⟨rfl, hb6⟩
  have K6 := Below.then' K5 hb6 K5.size
  clear K5 hb6
  go_wp2_with fail
  refine (CU _ (hT.later K6)).mono ?_
  rintro e w7 ⟨rfl, hb7⟩
  have K7 := Below.then' K6 hb7 K6.size
  go_wp2
  go_ret
  exact ⟨rfl, K7⟩

end Go.Proofs.YtimllddlcjnikaaDoor
