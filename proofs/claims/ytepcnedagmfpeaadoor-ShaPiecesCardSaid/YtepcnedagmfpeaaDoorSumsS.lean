/- The walk of ShaSums. -/
import Derived.Test.YtepcnedagmfpeaaDoorAwakeS
import Derived.Test.YtepcnedagmfpeaaDoorRSum
namespace Go.Proofs.YtepcnedagmfpeaaDoor
open Go.RowKit

theorem joinB_one (s : ByteArray) : joinB [s] = s.data.toList := by simp [joinB]

set_option maxRecDepth 100000 in
theorem walk_shaSums (s : ByteArray) (_hs : s.size ≤ maxLen) (w : World) (hT : TabAt w) :
    Calls Tryd.prog 3 #[.string s] w (LawPost w) := by
  unfold maxLen at _hs
  by_cases h1 : (1000 : Int) < s.size
  · go_enter Tryd.func3, Tryd.ntmps3
    go_wp2_with fail
    refine (awake_any _ hT).mono ?_
    rintro e w1 ⟨rfl, K1⟩
    go_wp2
    go_ret
    exact ⟨rfl, K1⟩
  · have hl : (joinB [s]).length ≤ 100000000000000 := by rw [joinB_one, data_len]; omega
    have SU := fun v w h hT => sum_any [s] v w h hl (by simp) hT
    have RS := rsumS_any s (by omega)
    have heq := same_fp (digest s.data.toList) (digest_len _)
    rw [joinB_one] at SU
    obtain ⟨D, hD⟩ : ∃ D, D = byA (digest s.data.toList) := ⟨_, rfl⟩
    rw [← hD] at SU RS heq
    have K0 : Below w.heap.size w (w.alloc (.cells #[.string s] 9)) := (Below.refl _ _).alloc (Nat.le_refl _) _
    have hSA : StrAt [s] (.slice (some ⟨w.heap.size, 0, none⟩) 1 1) (w.alloc (.cells #[.string s] 9)) := by
      refine ⟨_, _, rfl, Or.inr ⟨w.heap.size, 0, rfl, fun i hi => ?_⟩⟩
      rw [cell_of_row _ _ _ _ _ _ (heap_alloc_last w _)]
      have : i = 0 := by simp at hi; omega
      subst this
      rfl
    have S1 := SU _ _ hSA (hT.later K0)
    clear hD hl hSA SU
    go_enter Tryd.func3, Tryd.ntmps3
    go_wp2_with fail
    refine S1.mono ?_
    rintro e w1 ⟨rfl, hb1⟩
    have K1 := Below.then' K0 hb1 K0.size
    clear hb1 K0 S1
    go_wp2_with fail
    refine (RS _).mono ?_
    rintro e w2 ⟨rfl, hb2⟩
    have K2 := Below.then' K1 hb2 K1.size
    clear hb2 K1
    go_wp2_with fail
    refine (awake_any _ (hT.later K2)).mono ?_
    rintro e w3 ⟨rfl, hb3⟩
    go_wp2
    go_ret
    exact ⟨rfl, Below.then' K2 hb3 K2.size⟩

end Go.Proofs.YtepcnedagmfpeaaDoor
