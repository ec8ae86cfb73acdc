/- A burst changes the sum; the document's Seal. -/
import Derived.Test.YtdmbebafpamgfaaDoorTurnR
import Derived.Test.YtdmbebafpamgfaaDoorRfP
namespace Go.Proofs.YtdmbebafpamgfaaDoor
open Go.RowKit

theorem turn_back (s : ByteArray) (a b : Nat) (h : flips (bitsB s.data.toList) a b 32 = bitsB s.data.toList) : str (turnL s a b) = s := by
  have : turnL s a b = s.data.toList := bits_inj _ _ (by rw [turnL_bits, h])
  rw [this, str_data]

/-- A change within 32 bits changes the sum. -/
theorem burst_sum (s : ByteArray) (a b : Nat) (ha : a ≤ 8 * s.size) (hb : b ≤ 4294967295) (hne : str (turnL s a b) ≠ s) : moreN 0 (turnL s a b) ≠ moreN 0 s.data.toList := by
  intro h
  unfold moreN at h
  rw [turnL_bits] at h
  have h1 : reg (top32 - 0) (bitsB s.data.toList) ≤ top32 := reg_le (Nat.sub_le _ _)
  have h2 : reg (top32 - 0) (flips (bitsB s.data.toList) a b 32) ≤ top32 := reg_le (Nat.sub_le _ _)
  have h3 : reg (top32 - 0) (bitsB s.data.toList) = reg (top32 - 0) (flips (bitsB s.data.toList) a b 32) := by
    generalize reg (top32 - 0) (bitsB s.data.toList) = x at *
    generalize reg (top32 - 0) (flips (bitsB s.data.toList) a b 32) = y at *
    omega
  exact hne (turn_back s a b (burst _ a b _ (by rw [bits_len, data_len]; exact ha) (by omega) h3))


end Go.Proofs.YtdmbebafpamgfaaDoor
