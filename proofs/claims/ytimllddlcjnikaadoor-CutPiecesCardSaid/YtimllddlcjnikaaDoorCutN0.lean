/- The walks of a Cutter that nobody made; CutNobody. -/
import Derived.Test.YtimllddlcjnikaaDoorCutF
namespace Go.Proofs.YtimllddlcjnikaaDoor
open Go.RowKit

theorem made_no (w : World) :
    Calls Tryd.prog 32 #[.pointer none] w fun e w' => e = .returned (.bool false) ∧ w = w' := by
  go_enter Tryd.func32, Tryd.ntmps32
  go_wp2
  go_ret
  exact ⟨rfl, rfl⟩

theorem left_no (w : World) :
    Calls Tryd.prog 21 #[.pointer none] w fun e w' => e = .returned (.int .i64 0) ∧ w = w' := by
  go_enter Tryd.func21, Tryd.ntmps21
  go_wp2_with fail
  refine (made_no _).mono ?_
  rintro e w' ⟨rfl, rfl⟩
  go_wp2
  go_ret
  exact ⟨rfl, rfl⟩

theorem end_no (w : World) :
    Calls Tryd.prog 22 #[.pointer none] w fun e w' => e = .returned (.slice none 0 0) ∧ w = w' := by
  go_enter Tryd.func22, Tryd.ntmps22
  go_wp2_with fail
  refine (left_no _).mono ?_
  rintro e w' ⟨rfl, rfl⟩
  go_wp2
  go_ret
  exact ⟨rfl, rfl⟩

theorem write_no (s : ByteArray) (w : World) :
    Calls Tryd.prog 19 #[.pointer none, .string s] w fun e w' => e = .returned (.slice none 0 0) ∧ w = w' := by
  go_enter Tryd.func19, Tryd.ntmps19
  go_wp2_with fail
  refine (made_no _).mono ?_
  rintro e w' ⟨rfl, rfl⟩
  go_wp2
  go_ret
  exact ⟨rfl, rfl⟩

set_option maxRecDepth 100000 in
set_option maxHeartbeats 2000000 in
theorem walk_cutNobody (s0 : ByteArray) (_hs : s0.size ≤ maxLen) (w : World) (hT : TabAt w) :
    Calls Tryd.prog 7 #[.string s0] w (LawPost w) := by
  have FS := few_any s0
  obtain ⟨s, hs⟩ : ∃ s, s = fewB s0 := ⟨_, rfl⟩
  rw [← hs] at FS
  clear hs _hs
  go_enter Tryd.func7, Tryd.ntmps7
  go_wp2_with fail
  refine (FS _).mono ?_
  rintro e w' ⟨rfl, rfl⟩
  go_wp2_with fail
  refine (write_no _ _).mono ?_
  rintro e w' ⟨rfl, rfl⟩
  go_wp2_with fail
  refine (end_no _).mono ?_
  rintro e w' ⟨rfl, rfl⟩
  go_wp2_with fail
  refine (left_no _).mono ?_
  rintro e w' ⟨rfl, rfl⟩
  go_wp2_with fail
  refine (awake_any _ hT).mono ?_
  rintro e w1 ⟨rfl, K⟩
  go_wp2
  go_ret
  exact ⟨rfl, K⟩

end Go.Proofs.YtimllddlcjnikaaDoor
