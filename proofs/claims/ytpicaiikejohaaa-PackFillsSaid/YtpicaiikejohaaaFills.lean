/- The walk of PackFills. -/
import Derived.Test.YtpicaiikejohaaaRows
import Derived.Test.YtpicaiikejohaaaAwake
import Derived.WalkKit
import Derived.WalkSpells
import Derived.WalkLawsBesides
import Derived.Lib.Hide
namespace Go.Proofs.Ytpicaiikejohaaa
open Go.RowKit

theorem walk_packFills (s : ByteArray) (_hs : s.size ≤ maxLen) (n : Int) (_hn : (Lit.int .i64 n).wf = true) (w : World) :
    Calls Try.prog 6 #[.string s, .int .i64 n] w (LawPost w) := by
  unfold maxLen at _hs
  by_cases h1 : (2000 : Int) < s.size
  · go_enter Try.func6, Try.ntmps6
    go_wp2_with (go_at_call 8; refine (awake_any _).mono ?_; rintro e w' ⟨rfl, hb⟩)
    go_ret
    exact ⟨rfl, hb⟩
  · by_cases h2 : 5000 < n
    · go_enter Try.func6, Try.ntmps6
      go_wp2_with (go_at_call 8; refine (awake_any _).mono ?_; rintro e w' ⟨rfl, hb⟩)
      go_ret
      exact ⟨rfl, hb⟩
    · have C1 := fill_any s n (by omega)
      have C2 := refFill_any s n (by omega)
      go_enter Try.func6, Try.ntmps6
      go_wp2_with (go_at_call 33; refine (C1 _).mono ?_; rintro e w1 ⟨rfl, hb1⟩)
      go_wp2_with (go_at_call 34; refine (C2 _).mono ?_; rintro e w2 ⟨rfl, hb2⟩)
      have K2 := Below.then' hb1 hb2 hb1.size
      clear hb1 hb2
      go_wp2_with (go_at_call 8; refine (awake_any _).mono ?_; rintro e w3 ⟨rfl, hb3⟩)
      go_ret
      exact ⟨rfl, Below.then' K2 hb3 K2.size⟩

end Go.Proofs.Ytpicaiikejohaaa
