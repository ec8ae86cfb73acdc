/- The walks of a nil reader. -/
import Derived.Test.YtpicaiikejohaaaRows
import Derived.WalkKit
import Derived.WalkSpells
import Derived.WalkLawsBesides
namespace Go.Proofs.Ytpicaiikejohaaa
open Go.RowKit

def NilPost (v : Value) (w : World) (e : Ending) (w' : World) : Prop := e = .returned v ∧ w = w'

theorem nil_take (n : Int) (w : World) : Calls Try.prog 32 #[.pointer none, .int .i64 n] w (NilPost (.string ⟨#[]⟩) w) := by
  go_enter Try.func32, Try.ntmps32
  go_wp2
  go_ret
  exact ⟨rfl, rfl⟩

theorem nil_number (n : Int) (w : World) : Calls Try.prog 39 #[.pointer none, .int .i64 n] w (NilPost (.int .u64 0) w) := by
  go_enter Try.func39, Try.ntmps39
  go_wp2_with (go_at_call 32; refine (nil_take _ _).mono ?_; rintro e w' ⟨rfl, rfl⟩)
  refine wp_loop_rounds 1 ?_
  rw [rounds_succ]
  go_wp2
  go_ret
  exact ⟨rfl, rfl⟩

theorem nil_u8 (w : World) : Calls Try.prog 19 #[.pointer none] w (NilPost (.int .u8 0) w) := by
  go_enter Try.func19, Try.ntmps19
  go_wp2_with (go_at_call 39; refine (nil_number _ _).mono ?_; rintro e w' ⟨rfl, rfl⟩)
  go_ret
  exact ⟨rfl, rfl⟩
theorem nil_u16 (w : World) : Calls Try.prog 20 #[.pointer none] w (NilPost (.int .u16 0) w) := by
  go_enter Try.func20, Try.ntmps20
  go_wp2_with (go_at_call 39; refine (nil_number _ _).mono ?_; rintro e w' ⟨rfl, rfl⟩)
  go_ret
  exact ⟨rfl, rfl⟩
theorem nil_u32 (w : World) : Calls Try.prog 21 #[.pointer none] w (NilPost (.int .u32 0) w) := by
  go_enter Try.func21, Try.ntmps21
  go_wp2_with (go_at_call 39; refine (nil_number _ _).mono ?_; rintro e w' ⟨rfl, rfl⟩)
  go_ret
  exact ⟨rfl, rfl⟩
theorem nil_u64 (w : World) : Calls Try.prog 22 #[.pointer none] w (NilPost (.int .u64 0) w) := by
  go_enter Try.func22, Try.ntmps22
  go_wp2_with (go_at_call 39; refine (nil_number _ _).mono ?_; rintro e w' ⟨rfl, rfl⟩)
  go_ret
  exact ⟨rfl, rfl⟩

theorem nil_length (w : World) : Calls Try.prog 40 #[.pointer none, .int .u32 65536] w (NilPost (.int .i64 0) w) := by
  go_enter Try.func40, Try.ntmps40
  go_wp2_with (go_at_call 21; refine (nil_u32 _).mono ?_; rintro e w' ⟨rfl, rfl⟩)
  go_ret
  exact ⟨rfl, rfl⟩

theorem nil_text (w : World) : Calls Try.prog 23 #[.pointer none] w (NilPost (.string ⟨#[]⟩) w) := by
  go_enter Try.func23, Try.ntmps23
  go_wp2_with (first
    | (go_at_call 40; refine (nil_length _).mono ?_; rintro e w' ⟨rfl, rfl⟩)
    | (go_at_call 32; refine (nil_take _ _).mono ?_; rintro e w' ⟨rfl, rfl⟩))
  go_ret
  exact ⟨rfl, rfl⟩

theorem nil_list (w : World) : Calls Try.prog 25 #[.pointer none] w (NilPost (.slice none 0 0) w) := by
  go_enter Try.func25, Try.ntmps25
  go_wp2
  go_step3
  go_wp2
  go_step3
  go_wp2_with (go_at_call 40; refine (nil_length _).mono ?_; rintro e w' ⟨rfl, rfl⟩)
  refine wp_loop_rounds 1 ?_
  rw [rounds_succ]
  go_wp2
  try rw [Exit.noGoto_ret]
  go_ret
  exact ⟨rfl, rfl⟩

theorem nil_left (w : World) : Calls Try.prog 28 #[.pointer none] w (NilPost (.int .i64 0) w) := by
  go_enter Try.func28, Try.ntmps28
  go_wp2
  go_ret
  exact ⟨rfl, rfl⟩

theorem nil_err (w : World) : Calls Try.prog 30 #[.pointer none] w (NilPost (.int .i64 4) w) := by
  go_enter Try.func30, Try.ntmps30
  go_wp2
  go_ret
  exact ⟨rfl, rfl⟩

theorem nil_end (w : World) : Calls Try.prog 26 #[.pointer none] w (NilPost (.int .i64 4) w) := by
  go_enter Try.func26, Try.ntmps26
  go_wp2_with (go_at_call 30; refine (nil_err _).mono ?_; rintro e w' ⟨rfl, rfl⟩)
  go_ret
  exact ⟨rfl, rfl⟩

end Go.Proofs.Ytpicaiikejohaaa
