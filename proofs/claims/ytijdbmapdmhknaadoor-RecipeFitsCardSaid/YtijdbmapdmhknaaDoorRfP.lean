/- The document's numbers as bytes, texts filled (for any seat: names of their own). -/
import Derived.Test.YtijdbmapdmhknaaDoorRows
import Derived.Test.YtijdbmapdmhknaaDoorGA
import Derived.WalkKit
import Derived.WalkSpells
import Derived.WalkLawsBesides
import Derived.Deep.OwnRows
import Derived.RegionTactic
import Derived.BigRegion
import Derived.Deep.DrawnRows
import Derived.Deep.RegionLaw
import Derived.Deep.QuietTactic
import Derived.BigQuiet
import Derived.Lib.Hide
namespace Go.Proofs.YtijdbmapdmhknaaDoor
open Go.RowKit

theorem rp_conv_one {n : Nat} (w' : World) (b c : Nat) (h : w'.cell? ⟨b, 0, none⟩ = some (.int .u8 ((n : Int) % 256))) :
    (convert 56 9 (.slice (some ⟨b, 0, none⟩) 1 c)).run Tryd.prog w' = .ok (.string (str [UInt8.ofNat n])) w' :=
  conv_bytes w' 56 9 5 b 1 c [UInt8.ofNat n] rfl Tryd.underlying56 Tryd.underlying5 Tryd.underlying9 (fun j hj => by
    obtain rfl : j = 0 := by simpa using hj
    rw [h]; simp)

theorem rp_after_new {w wx : World} {v : Value} {t : TypeId} (hb : Below ((w.alloc (.cells #[v] t)).drew).heap.size ((w.alloc (.cells #[v] t)).drew) wx) : wx.cell? ⟨w.heap.size, 0, none⟩ = some v :=
  cell_later hb (World.cell?_alloc_mark w #[v] t _ 0)

set_option maxHeartbeats 1000000 in
theorem rpnum_any : ∀ (k : Nat) (n : Nat), k ≤ 8 → n < 2 ^ 64 → ∀ (w : World),
    Calls Tryd.prog 39 #[.int .u64 n, .int .i64 k] w fun e w' => e = .returned (.string (str (leB k n))) ∧ Below w.heap.size w w'
  | 0, n, _, _, w => by
    go_enter Tryd.func39, Tryd.ntmps39
    go_wp2
    go_ret
    exact ⟨rfl, Below.refl _ _⟩
  | k + 1, n, hk, hn, w => by
    have ih := rpnum_any k (n / 256) (by omega) (by omega)
    have e1 : IntKind.u8.wrap ((n : Int).tmod 256) = (n : Int) % 256 := by
      rw [Int.tmod_eq_emod_of_nonneg (by omega)]
      exact IntWalk.u8_in _ (by omega)
    have e2 : IntKind.u64.wrap ((n : Int) / 256) = ((n / 256 : Nat) : Int) := by
      have : (((n / 256 : Nat)) : Int) = (n : Int) / 256 := by omega
      rw [this]
      exact IntWalk.u64_in _ (by omega)
    have z1 : (str [UInt8.ofNat n]).size = 1 := str_size _
    have z2 : (str (leB k (n / 256))).size = k := by rw [str_size, leB_len]
    have e3 : IntKind.i64.wrap (k : Int) = k := IntWalk.i64_in _ (by omega)
    have hk0 : ¬ ((k : Int) + 1 ≤ 0) := by omega
    have hcv := @rp_conv_one n
    go_enter Tryd.func39, Tryd.ntmps39
    go_wp2
    go_region_with (go_at_call 39; refine (ih _).mono ?_; rintro e w' ⟨rfl, hb⟩; try have hcc := rp_after_new hb)
    all_goals go_wp2
    all_goals
      go_ret
      refine ⟨by rw [str_append]; rfl, ?_⟩
      first
        | exact Below.then' (((Below.refl _ _).alloc (Nat.le_refl _) _).drew) hb (le_drew_alloc _ _)
        | exact (Below.then' ((Below.refl _ _).drew) hb (Nat.le_refl _)).alloc hb.size _

theorem rp_info : (Tryd.prog.info? 5).map (fun i => (i.zero, i.size, i.bytes)) = some (some (.int .u8 0), 1, 1) := by kernel_rfl
/-- A text filled with zero bytes up to a length. -/
def rpFill (s : ByteArray) (n : Int) : ByteArray := s ++ str (List.replicate (n - s.size).toNat 0)

theorem rpFill_same (s : ByteArray) (n : Int) (h : n ≤ s.size) : rpFill s n = s := by
  have : (n - s.size).toNat = 0 := by omega
  unfold rpFill
  rw [this]
  apply ByteArray.ext
  simp [str, ByteArray.data_append]

/-- Bytes filled with zeros up to a length. -/
def fillL (l : List UInt8) (n : Nat) : List UInt8 := l ++ List.replicate (n - l.length) 0
end Go.Proofs.YtijdbmapdmhknaaDoor
