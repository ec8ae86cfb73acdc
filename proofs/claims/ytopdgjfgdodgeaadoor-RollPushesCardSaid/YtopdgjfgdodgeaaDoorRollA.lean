/- The walks of the document's Slide; of same, of All, and of the document's All. -/
import Derived.Test.YtopdgjfgdodgeaaDoorRollT
import Derived.Laws.AppendOwn
import Derived.StillTailTactics
import Derived.Outline
namespace Go.Proofs.YtopdgjfgdodgeaaDoor
open Go.RowKit

set_option maxRecDepth 100000 in
set_option maxHeartbeats 1000000 in
theorem rslide_any (h : Nat) (hh : h < 2147483647) (o b : UInt8) (w : World) :
    Calls Tryd.prog 15 #[.int .u32 h, .int .u8 (o.toNat : Int), .int .u8 (b.toNat : Int)] w fun e w' => e = .returned (.int .u32 (rslide h o b : Nat)) ∧ w = w' := by
  have hol := o.toNat_lt
  have hbl := b.toNat_lt
  have hrl := rslide_lt h o b
  have hd : rslide h o b = (((h + 2147483647 - (o.toNat + 1) * rworth % 2147483647) % 2147483647) * 257 + b.toNat + 1) % 2147483647 := rfl
  obtain ⟨r, hr⟩ : ∃ r, r = rslide h o b := ⟨_, rfl⟩
  rw [← hr] at hd hrl ⊢
  obtain ⟨x, hx⟩ : ∃ x, x = o.toNat := ⟨_, rfl⟩
  rw [← hx] at hd hol ⊢
  obtain ⟨y, hy⟩ : ∃ y, y = b.toNat := ⟨_, rfl⟩
  rw [← hy] at hd hbl ⊢
  have HD := Lib.hid hd
  clear hr hx hy hd
  go_enter Tryd.func15, Tryd.ntmps15
  go_wp2
  go_loop [7, 8] (fun g i => ∃ (k : Nat), k ≤ 15 ∧ i = .int .i64 k ∧ g = .int .u64 (257 ^ k % 2147483647 : Nat)) (fun _ i => 15 - (intOf i).toNat)
  case atStart => exact ⟨0, Nat.zero_le _, rfl, rfl⟩
  case round =>
    obtain ⟨k, hk, rfl, rfl⟩ := hrel
    have hpl : 257 ^ k % 2147483647 < 2147483647 := Nat.mod_lt _ (by decide)
    by_cases hlt : k < 15
    · have hn := rpow_next k
      obtain ⟨g, hg⟩ : ∃ g, g = 257 ^ k % 2147483647 := ⟨_, rfl⟩
      rw [← hg] at hn hpl ⊢
      have HN := Lib.hid hn
      clear hn hg
      go_wp2
      go_round
      case rel => exact ⟨k + 1, by omega, by go_num, by rw [← HN.out]; go_num⟩
      case measure => simp [intOf]; omega
    · obtain rfl : k = 15 := by omega
      obtain ⟨g, hg⟩ : ∃ g, g = rworth := ⟨_, rfl⟩
      have hg' : 257 ^ 15 % 2147483647 = g := by rw [hg]; rfl
      rw [hg'] at hpl ⊢
      have hd := HD.out
      rw [← hg] at hd
      obtain ⟨p, hp⟩ : ∃ p, p = (x + 1) * g := ⟨_, rfl⟩
      have hpm : ((x : Int) + 1) * (g : Int) = (p : Int) := by rw [hp]; simp
      have hpb : p ≤ 549755813888 := by
        rw [hp]
        have : (x + 1) * g ≤ 256 * 2147483648 := Nat.mul_le_mul (by omega) (by omega)
        omega
      rw [← hp] at hd
      obtain ⟨a, ha⟩ : ∃ a, a = (h + 2147483647 - p % 2147483647) % 2147483647 := ⟨_, rfl⟩
      rw [← ha] at hd
      have ha2 : ((h : Int) + 2147483647 - (p : Int) % 2147483647) % 2147483647 = (a : Int) := by omega
      have hal : a < 2147483647 := by omega
      have hr2 : ((a : Int) * 257 + (y : Int) + 1) % 2147483647 = (r : Int) := by omega
      clear hd ha hp hg' hg HD
      go_wp2
      go_ret
      exact ⟨rfl, rfl⟩

/-- The value v is a slice of the numbers zs in the world w. -/
def U32At (zs : List Nat) (v : Value) (w : World) : Prop :=
  ∃ p c, v = .slice p zs.length c ∧ (zs = [] ∨ ∃ b off, p = some ⟨b, off, none⟩ ∧ ∀ i, i < zs.length → w.cell? ⟨b, off + i, none⟩ = some (.int .u32 (zs.getD i 0 : Nat)))

theorem U32At.later {zs : List Nat} {v : Value} {w w' : World} (h : U32At zs v w) (hb : Below w.heap.size w w') : U32At zs v w' := by
  obtain ⟨p, c, rfl, h⟩ := h
  refine ⟨p, c, rfl, ?_⟩
  rcases h with h | ⟨b, off, hp, hc⟩
  · exact Or.inl h
  · exact Or.inr ⟨b, off, hp, fun i hi => (hb.cell (World.block_lt_of_cell? _ _ (hc i hi))).trans (hc i hi)⟩

set_option maxRecDepth 100000 in
set_option maxHeartbeats 1000000 in
theorem same_any (zs : List Nat) (hzl : zs.length ≤ 1000000) (v u : Value) (w : World) (hv : U32At zs v w) (hu : U32At zs u w) :
    Calls Tryd.prog 11 #[v, u] w (LawPost w) := by
  obtain ⟨p, c, rfl, hc⟩ := hv
  obtain ⟨p2, c2, rfl, hc2⟩ := hu
  have HC := Lib.hid hc
  have HC2 := Lib.hid hc2
  clear hc hc2
  go_enter Tryd.func11, Tryd.ntmps11
  go_wp2
  go_loopw [5] (fun x wr => ∃ (i : Nat), i ≤ zs.length ∧ x = .int .i64 i ∧ Below w.heap.size w wr) (fun x _ => zs.length - (intOf x).toNat)
  case atStart => exact ⟨0, Nat.zero_le _, rfl, Below.refl _ _⟩
  case round =>
    obtain ⟨i, hi, rfl, K⟩ := hrel
    by_cases hlt : i < zs.length
    · rcases HC.out with h | ⟨b, off, rfl, hcell⟩
      · rw [h] at hlt; simp at hlt
      rcases HC2.out with h | ⟨b2, off2, rfl, hcell2⟩
      · rw [h] at hlt; simp at hlt
      have k1 : wr.cell? ⟨b, off + i, none⟩ = some (.int .u32 (zs.getD i 0 : Nat)) := (K.cell (World.block_lt_of_cell? _ _ (hcell i hlt))).trans (hcell i hlt)
      have k2 : wr.cell? ⟨b2, off2 + i, none⟩ = some (.int .u32 (zs.getD i 0 : Nat)) := (K.cell (World.block_lt_of_cell? _ _ (hcell2 i hlt))).trans (hcell2 i hlt)
      obtain ⟨z, hz⟩ : ∃ z, z = zs.getD i 0 := ⟨_, rfl⟩
      rw [← hz] at k1 k2
      clear hcell hcell2 hz HC HC2
      go_wp2
      go_quiet (fail)
      go_wp2
      go_roundw
      case rel => exact ⟨i + 1, by omega, by go_num, below_drewN' K _⟩
      case measure => simp [intOf]; omega
    · obtain rfl : i = zs.length := by omega
      go_wp2
      go_ret
      exact ⟨rfl, K⟩

end Go.Proofs.YtopdgjfgdodgeaaDoor
