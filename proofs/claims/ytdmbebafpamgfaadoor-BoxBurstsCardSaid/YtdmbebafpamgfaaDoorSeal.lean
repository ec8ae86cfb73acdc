/- The walks of Seal, of the page's examples. -/
import Derived.Test.YtdmbebafpamgfaaDoorNumB
import Derived.Test.YtdmbebafpamgfaaDoorMore
namespace Go.Proofs.YtdmbebafpamgfaaDoor
open Go.RowKit

/-- A text with its sum behind it. -/
def sealed (s : ByteArray) : ByteArray := s ++ str (leB 4 (moreN 0 s.data.toList))

theorem sealed_size (s : ByteArray) : (sealed s).size = s.size + 4 := by
  unfold sealed
  rw [ByteArray.size_append, str_size, leB_len]

theorem sealed_list (s : ByteArray) : (sealed s).data.toList = s.data.toList ++ leB 4 (moreN 0 s.data.toList) := by
  unfold sealed
  rw [ByteArray.data_append, Array.toList_append, str_list]

theorem moreN_le (n : Nat) (l : List UInt8) : moreN n l ≤ 4294967295 := by
  have := more_lt n l
  unfold top32 at this
  omega

theorem seal_any (s : ByteArray) (hs : s.size ≤ 4294967295) (w : World) (hT : TabAt w) :
    Calls Tryd.prog 59 #[.string s] w fun e w' => e = .returned (.string (sealed s)) ∧ Below w.heap.size w w' := by
  have C1 := sum_any s (by unfold maxLen; omega)
  have hz : (str (leB 4 (moreN 0 s.data.toList))).size = 4 := by rw [str_size, leB_len]
  have hl := moreN_le 0 s.data.toList
  go_enter Tryd.func59, Tryd.ntmps59
  go_wp2_with (go_at_call 55; refine (C1 _ hT).mono ?_; rintro e w' ⟨rfl, rfl⟩)
  go_wp2_with (go_at_call 57; refine (u32_any _ (by omega) (by omega) _).mono ?_; rintro e w' ⟨rfl, hb⟩)
  go_ret
  exact ⟨rfl, hb⟩

def nine : ByteArray := ⟨#[49, 50, 51, 52, 53, 54, 55, 56, 57]⟩

theorem aw_sum (w : World) (hT : TabAt w) : Calls Tryd.prog 55 #[.string ⟨#[49, 50, 51, 52, 53, 54, 55, 56, 57]⟩] w fun e w' => e = .returned (.int .u32 3421780262) ∧ w = w' := by
  have h := sum_any nine (by decide) w hT
  have e : moreN 0 nine.data.toList = 3421780262 := by decide +kernel
  rw [e] at h
  exact h

theorem aw_seal (w : World) (hT : TabAt w) : Calls Tryd.prog 59 #[.string ⟨#[]⟩] w fun e w' => e = .returned (.string ⟨#[0, 0, 0, 0]⟩) ∧ Below w.heap.size w w' := by
  have h := seal_any ⟨#[]⟩ (by decide) w hT
  have e : sealed ⟨#[]⟩ = ⟨#[0, 0, 0, 0]⟩ := by decide +kernel
  rw [e] at h
  exact h

end Go.Proofs.YtdmbebafpamgfaaDoor
