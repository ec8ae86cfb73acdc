/- A fingerprint's number: the walks. -/
import Derived.Test.YthgjooacapodnaaHkU
namespace Go.Proofs.Ythgjooacapodnaa
open Go.RowKit

/-- The first four bytes as a number. -/
def numL (l : List UInt8) : Nat := (((l.getD 0 0).toNat * 256 + (l.getD 1 0).toNat) * 256 + (l.getD 2 0).toNat) * 256 + (l.getD 3 0).toNat

theorem or_u32 (i a b : Nat) (hb : b < 2 ^ i) (hab : 2 ^ i * a + b ≤ 4294967295) : bits .or .u32 ((2 ^ i * a : Nat) : Int) (b : Int) = ((2 ^ i * a + b : Nat) : Int) := by
  rw [Nat.two_pow_add_eq_or_of_lt hb]
  exact u32_or_nat _ _ (by omega) (by omega)

set_option maxRecDepth 100000 in
set_option maxHeartbeats 1000000 in
theorem num_any (l : List UInt8) (hl : l.length = 32) (w : World) :
    Calls Try.prog 10 #[.agg (fpA l)] w fun e w' => e = .returned (.int .u32 (numL l : Nat)) ∧ Below w.heap.size w w' := by
  have O0 := OneRow.made w l
  have c0 := O0.cell 0 (by omega)
  have c1 := O0.cell 1 (by omega)
  have c2 := O0.cell 2 (by omega)
  have c3 := O0.cell 3 (by omega)
  have HO := Lib.hid O0
  have hN : numL l = (((l.getD 0 0).toNat * 256 + (l.getD 1 0).toNat) * 256 + (l.getD 2 0).toNat) * 256 + (l.getD 3 0).toNat := rfl
  have b0 := (l.getD 0 0).toNat_lt
  have b1 := (l.getD 1 0).toNat_lt
  have b2 := (l.getD 2 0).toNat_lt
  have b3 := (l.getD 3 0).toNat_lt
  obtain ⟨x0, h0⟩ : ∃ x, x = (l.getD 0 0).toNat := ⟨_, rfl⟩
  obtain ⟨x1, h1⟩ : ∃ x, x = (l.getD 1 0).toNat := ⟨_, rfl⟩
  obtain ⟨x2, h2⟩ : ∃ x, x = (l.getD 2 0).toNat := ⟨_, rfl⟩
  obtain ⟨x3, h3⟩ : ∃ x, x = (l.getD 3 0).toNat := ⟨_, rfl⟩
  rw [← h0] at c0 b0 hN
  rw [← h1] at c1 b1 hN
  rw [← h2] at c2 b2 hN
  rw [← h3] at c3 b3 hN
  rw [hN]
  obtain ⟨L, hLL⟩ : ∃ L, L = fpA l := ⟨_, rfl⟩
  rw [← hLL] at c0 c1 c2 c3 ⊢
  have HB : Hid (Below w.heap.size w (w.alloc (.cells L 23))) := by rw [hLL]; exact HO.out.2
  clear hN h0 h1 h2 h3 hLL HO O0 hl
  go_enter Try.func10, Try.ntmps10
  go_wp2
  go_ret
  refine ⟨?_, HB.out⟩
  have e1 : bits .or .u32 ((x0 : Int) * 16777216) ((x1 : Int) * 65536) = ((2 ^ 24 * x0 + x1 * 65536 : Nat) : Int) := by
    have := or_u32 24 x0 (x1 * 65536) (by omega) (by omega)
    rw [← this]; congr 1 <;> omega
  have e2 : bits .or .u32 ((2 ^ 24 * x0 + x1 * 65536 : Nat) : Int) ((x2 : Int) * 256) = ((2 ^ 16 * (256 * x0 + x1) + x2 * 256 : Nat) : Int) := by
    have := or_u32 16 (256 * x0 + x1) (x2 * 256) (by omega) (by omega)
    rw [← this]; congr 1 <;> omega
  have e3 : bits .or .u32 ((2 ^ 16 * (256 * x0 + x1) + x2 * 256 : Nat) : Int) (x3 : Int) = ((2 ^ 8 * (256 * (256 * x0 + x1) + x2) + x3 : Nat) : Int) := by
    have := or_u32 8 (256 * (256 * x0 + x1) + x2) x3 (by omega) (by omega)
    rw [← this]; congr 1 <;> omega
  show Ending.returned (Value.int .u32 (bits .or .u32 (bits .or .u32 (bits .or .u32 ((x0 : Int) * 16777216) ((x1 : Int) * 65536)) ((x2 : Int) * 256)) (x3 : Int))) = _
  rw [e1, e2, e3]
  congr 2
  omega

theorem rnum_step (a b : Nat) (ha : a < 16777216) (hb : b < 256) : IntKind.u32.wrap (IntKind.u32.wrap ((a : Int) * 256) + (b : Int)) = ((a * 256 + b : Nat) : Int) := by
  simp [IntKind.wrap, IntKind.bits, IntKind.signed]
  omega

/-- The number of the first bytes. -/
def numK (l : List UInt8) : Nat → Nat
  | 0 => 0
  | k + 1 => numK l k * 256 + (l.getD k 0).toNat

theorem numK_lt (l : List UInt8) : ∀ k, numK l k < 256 ^ k
  | 0 => Nat.one_pos
  | k + 1 => by
    have h1 := numK_lt l k
    have h2 := (l.getD k 0).toNat_lt
    unfold numK
    rw [Nat.pow_succ]
    omega

theorem numK_four (l : List UInt8) : numK l 4 = numL l := by simp [numK, numL]

theorem num_bound (l : List UInt8) (i : Nat) (hi : i < 4) : numK l i < 16777216 := by
  have := numK_lt l i
  have h : i = 0 ∨ i = 1 ∨ i = 2 ∨ i = 3 := by omega
  rcases h with rfl | rfl | rfl | rfl <;> omega

set_option maxRecDepth 100000 in
set_option maxHeartbeats 1000000 in
/-- The document's Num. -/
theorem rnum_any (l : List UInt8) (hl : l.length = 32) (w : World) :
    Calls Try.prog 11 #[.agg (fpA l)] w fun e w' => e = .returned (.int .u32 (numL l : Nat)) ∧ Below w.heap.size w w' := by
  have O0 := OneRow.made w l
  have HL := Lib.hid hl
  rw [← numK_four]
  obtain ⟨L, hLL⟩ : ∃ L, L = fpA l := ⟨_, rfl⟩
  have O1 : Hid (OneRow w l (w.alloc (.cells L 23))) := by rw [hLL]; exact O0
  rw [← hLL]
  clear hl O0 hLL
  go_enter Try.func11, Try.ntmps11
  go_wp2
  go_loopw [3, 4] (fun y x wr => ∃ (i : Nat), i ≤ 4 ∧ x = .int .i64 i ∧ y = .int .u32 (numK l i : Nat) ∧ Hid (OneRow w l wr)) (fun _ x _ => 4 - (intOf x).toNat)
  case atStart => exact ⟨0, by omega, rfl, rfl, O1⟩
  case round =>
    clear O1
    obtain ⟨i, hi, rfl, rfl, HR⟩ := hrel
    by_cases hlt : i < 4
    · have c1 := HR.out.cell i (by rw [HL.out]; omega)
      have hb := num_bound l i hlt
      have hs : numK l (i + 1) = numK l i * 256 + (l.getD i 0).toNat := rfl
      have hx := (l.getD i 0).toNat_lt
      obtain ⟨x, hxx⟩ : ∃ x, x = (l.getD i 0).toNat := ⟨_, rfl⟩
      obtain ⟨a, haa⟩ : ∃ a, a = numK l i := ⟨_, rfl⟩
      rw [← hxx] at c1 hs hx
      rw [← haa] at hs hb ⊢
      have HS := Lib.hid hs
      have e1 := rnum_step a x hb hx
      clear hs hxx haa
      go_wp2
      go_roundw
      case rel => exact ⟨i + 1, by omega, by go_num, by rw [HS.out]; first | rfl | go_num, HR⟩
      case measure => simp [intOf]; omega
    · obtain rfl : i = 4 := by omega
      go_wp2
      go_ret
      exact ⟨rfl, HR.out.2⟩

end Go.Proofs.Ythgjooacapodnaa
