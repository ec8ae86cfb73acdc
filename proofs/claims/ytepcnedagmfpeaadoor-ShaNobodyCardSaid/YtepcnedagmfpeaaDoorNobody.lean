/- The walk of ShaNobody. -/
import Derived.Test.YtepcnedagmfpeaaDoorAwakeS
namespace Go.Proofs.YtepcnedagmfpeaaDoor
open Go.RowKit

set_option maxRecDepth 100000 in
theorem walk_shaNobody (s : ByteArray) (_hs : s.size ≤ maxLen) (w : World) (hT : TabAt w) :
    Calls Tryd.prog 7 #[.string s] w (LawPost w) := by
  have WN := write_no s
  have LN := len_no
  have SN := hsum_no
  have heq : ∀ w, (Op.equalIn 10000 24 (.agg (byA (List.replicate 32 0))) (.agg zerosF)).run Tryd.prog w = .ok true w := same_fp (List.replicate 32 0) rfl
  obtain ⟨D, hD⟩ : ∃ D, D = byA (List.replicate 32 0) := ⟨_, rfl⟩
  rw [← hD] at SN heq
  unfold zerosF at heq
  clear hD
  go_enter Tryd.func7, Tryd.ntmps7
  go_wp2_with fail
  refine (WN _).mono ?_
  rintro e w' ⟨rfl, rfl⟩
  go_wp2_with fail
  refine (LN _).mono ?_
  rintro e w' ⟨rfl, rfl⟩
  go_wp2_with fail
  refine (SN _).mono ?_
  rintro e w1 ⟨rfl, K1⟩
  go_wp2_with fail
  refine (awake_any _ (hT.later K1)).mono ?_
  rintro e w2 ⟨rfl, hb2⟩
  go_wp2
  go_ret
  exact ⟨rfl, Below.then' K1 hb2 K1.size⟩

end Go.Proofs.YtepcnedagmfpeaaDoor
