/- The walk of SegNobody, out of the contracts. -/
import Derived.Test.YtlmccnelhpnneaaSegA
namespace Go.Proofs.Ytlmccnelhpnneaa
open Go.RowKit

/-- Of a parter that nobody made nothing comes. -/
structure NilOk : Prop where
  reset : ∀ w, Calls Try.prog 20 #[.pointer none] w fun e w' => e = .returned (.tuple #[]) ∧ Below w.heap.size w w'
  put : ∀ f : List UInt8, f.length = 32 → ∀ w, Calls Try.prog 21 #[.pointer none, .agg (fpA f)] w fun e w' => e = .returned (.bool false) ∧ Below w.heap.size w w'
  len : ∀ w, Calls Try.prog 22 #[.pointer none] w fun e w' => e = .returned (.int .i64 0) ∧ Below w.heap.size w w'

set_option maxRecDepth 100000 in
set_option maxHeartbeats 2000000 in
theorem segNobody_of (HM : MayOk) (HC : CutOk) (HA : AllOk) (HN : NilOk) (w : World) (l : List UInt8) (hl : l.length = 32) :
    Calls Try.prog 7 #[.agg (fpA l)] w (LawPost w) := by
  have AW := fun W => awakes_of HM HC HA W
  have RS := HN.reset
  have PU := HN.put l hl
  have LE := HN.len
  have HI := Lib.hid (fp_info l hl)
  obtain ⟨X, hX⟩ : ∃ X, X = fpA l := ⟨_, rfl⟩
  rw [← hX] at PU HI ⊢
  have gX := heap_alloc_last w (.cells X 37)
  have K0 : Hid (Kept w (w.alloc (.cells X 37))) := (Below.refl _ w).alloc (Nat.le_refl _) _
  obtain ⟨W, hW⟩ : ∃ W, W = w.alloc (.cells X 37) := ⟨_, rfl⟩
  rw [← hW] at gX K0
  have HG := Lib.hid gX
  have HW := Lib.hid hW
  clear HM HC HA HN hX hW gX hl
  go_enter Try.func7, Try.ntmps7
  go_wp2_with fail
  rw [← HW.out]
  refine (RS W).mono ?_
  rintro e w1 ⟨rfl, hb1⟩
  have K1 : Kept W w1 := hb1
  have g1 := K1.row HG.out
  clear RS hb1
  go_wp2_with (with_reducible refine wpList_load_row rfl _ _ rfl w.heap.size rfl 37 X (0, 0) _ g1 Try.underlying37 rfl HI.out ?_)
  refine (PU w1).mono ?_
  rintro e w2 ⟨rfl, hb2⟩
  have K2 := K1.then hb2
  clear PU hb2 K1 g1
  go_wp2_with fail
  refine (LE w2).mono ?_
  rintro e w3 ⟨rfl, hb3⟩
  have K3 := K2.then hb3
  clear LE hb3 K2
  go_wp2_with fail
  refine (AW w3).mono ?_
  rintro e w4 ⟨rfl, hb4⟩
  go_wp2
  go_ret
  exact ⟨rfl, K0.out.then (K3.then hb4)⟩

end Go.Proofs.Ytlmccnelhpnneaa
