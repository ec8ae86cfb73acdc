/- The walk of ShaPads. -/
import Derived.Test.YtepcnedagmfpeaaDoorAwakeS
import Derived.Test.YtepcnedagmfpeaaDoorRPad
namespace Go.Proofs.YtepcnedagmfpeaaDoor
open Go.RowKit

theorem walk_shaPads (n : Int) (_hn : (Lit.int .i64 n).wf = true) (w : World) (hT : TabAt w) :
    Calls Tryd.prog 6 #[.int .i64 n] w (LawPost w) := by
  by_cases h0 : n < 0
  · have P := pad_neg n h0
    have AW := awake_any w hT
    go_enter Tryd.func6, Tryd.ntmps6
    go_wp2_with fail
    refine (P _).mono ?_
    rintro e w' ⟨rfl, rfl⟩
    go_wp2_with fail
    refine AW.mono ?_
    rintro e w1 ⟨rfl, K1⟩
    go_wp2
    go_ret
    exact ⟨rfl, K1⟩
  · obtain ⟨m, rfl⟩ := Int.eq_ofNat_of_zero_le (show 0 ≤ n by omega)
    have hm : m ≤ 9223372036854775807 := by
      simp [Lit.wf, IntKind.min, IntKind.max, IntKind.bits, IntKind.signed] at _hn
      omega
    have P := pad_any m hm
    by_cases h1 : (1099511627776 : Int) < m
    · go_enter Tryd.func6, Tryd.ntmps6
      go_wp2_with fail
      refine (P _).mono ?_
      rintro e w1 ⟨rfl, K1⟩
      go_wp2_with fail
      refine (awake_any _ (hT.later K1)).mono ?_
      rintro e w2 ⟨rfl, K2⟩
      go_wp2
      go_ret
      exact ⟨rfl, Below.then' K1 K2 K1.size⟩
    · have R := rpad_any m (by omega)
      obtain ⟨s, hs⟩ : ∃ s, s = str (padL m) := ⟨_, rfl⟩
      rw [← hs] at P R
      clear hs
      go_enter Tryd.func6, Tryd.ntmps6
      go_wp2_with fail
      refine (P _).mono ?_
      rintro e w1 ⟨rfl, K1⟩
      go_wp2_with fail
      refine (R _).mono ?_
      rintro e w2 ⟨rfl, hb2⟩
      have K2 := Below.then' K1 hb2 K1.size
      clear hb2
      go_wp2_with fail
      refine (awake_any _ (hT.later K2)).mono ?_
      rintro e w3 ⟨rfl, hb3⟩
      go_wp2
      go_ret
      exact ⟨rfl, Below.then' K2 hb3 K2.size⟩

end Go.Proofs.YtepcnedagmfpeaaDoor
