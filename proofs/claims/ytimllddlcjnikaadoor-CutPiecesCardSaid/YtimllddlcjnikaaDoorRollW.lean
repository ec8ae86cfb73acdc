/- The walks of a Roll: term, slid, Slide. -/
import Derived.Test.YtimllddlcjnikaaDoorRows
import Derived.Test.YtimllddlcjnikaaDoorRollN
import Derived.WalkKit
import Derived.WalkSpells
import Derived.WalkLawsBesides
import Derived.Deep.OwnRows
import Derived.Lib.Hide
import Derived.BigQuiet
namespace Go.Proofs.YtimllddlcjnikaaDoor
open Go.RowKit

/-- The table lies where the program lays it. -/
def TabAt (w : World) : Prop := ∀ i, i < 16 → w.cell? ⟨0, i, none⟩ = some (.int .u32 (P16.getD i 0 : Nat))

theorem TabAt.later {w w' : World} (h : TabAt w) (hb : Below w.heap.size w w') : TabAt w' := fun i hi => (hb.cell (World.block_lt_of_cell? _ _ (h i hi))).trans (h i hi)

theorem term_any (b : UInt8) (i : Nat) (hi : i < 16) (w : World) (hT : TabAt w) :
    Calls Tryd.prog 50 #[.int .u8 (b.toNat : Int), .int .i64 i] w fun e w' => e = .returned (.int .u64 (rterm b i : Nat)) ∧ w = w' := by
  have hp := P16_lt ⟨i, hi⟩
  simp only at hp
  have hc := b.toNat_lt
  have c0 := hT i hi
  have hr := rterm_le b i hi
  have hd : rterm b i = (b.toNat + 1) * P16.getD i 0 := rfl
  obtain ⟨r, hr'⟩ : ∃ r, r = rterm b i := ⟨_, rfl⟩
  obtain ⟨p, hp'⟩ : ∃ p, p = P16.getD i 0 := ⟨_, rfl⟩
  obtain ⟨c, hc'⟩ : ∃ c, c = b.toNat := ⟨_, rfl⟩
  rw [← hr'] at hr hd ⊢
  rw [← hp'] at hp c0 hd
  rw [← hc'] at hc hd ⊢
  have hm : ((c : Int) + 1) * (p : Int) = (r : Int) := by rw [hd]; simp
  clear hr' hp' hc' hd hT
  go_enter Tryd.func50, Tryd.ntmps50
  go_wp2
  go_ret
  exact ⟨rfl, rfl⟩

theorem slid_any (h : Nat) (hh : h < 2147483647) (o b : UInt8) (w : World) (hT : TabAt w) :
    Calls Tryd.prog 49 #[.int .u32 h, .int .u8 (o.toNat : Int), .int .u8 (b.toNat : Int)] w fun e w' => e = .returned (.int .u32 (rslide h o b : Nat)) ∧ w = w' := by
  have T1 := term_any o 15 (by omega) w hT
  have T2 := term_any b 0 (by omega) w hT
  have l1 := rterm_le o 15 (by omega)
  have l2 := rterm_le b 0 (by omega)
  have hs := rslide_code h o b hh
  have hl := rslide_lt h o b
  obtain ⟨x, hx⟩ : ∃ x, x = rterm o 15 := ⟨_, rfl⟩
  obtain ⟨y, hy⟩ : ∃ y, y = rterm b 0 := ⟨_, rfl⟩
  obtain ⟨r, hr⟩ : ∃ r, r = rslide h o b := ⟨_, rfl⟩
  rw [← hx] at T1 l1 hs
  rw [← hy] at T2 l2 hs
  rw [← hr] at hs hl ⊢
  have hi : (((h : Int) + 2147483647 - (x : Int) % 2147483647) * 257 + (y : Int)) % 2147483647 = (r : Int) := by omega
  clear hx hy hr hs
  go_enter Tryd.func49, Tryd.ntmps49
  go_wp2_with fail
  refine T1.mono ?_
  rintro e w' ⟨rfl, rfl⟩
  go_wp2_with fail
  refine T2.mono ?_
  rintro e w' ⟨rfl, rfl⟩
  go_wp2
  go_ret
  exact ⟨rfl, rfl⟩

end Go.Proofs.YtimllddlcjnikaaDoor
