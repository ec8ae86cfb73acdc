/- The document's Text; digits; Parse: the walks. -/
import Derived.Test.YthgjooacapodnaaHkX
import Derived.Laws.Concat
namespace Go.Proofs.Ythgjooacapodnaa
open Go.RowKit

theorem digit_cut : ∀ q : Fin 16, (digitsB.extract q.val (q.val + 1)).data.toList = [hexD q.val] := by decide +kernel

set_option maxRecDepth 100000 in
/-- A digit as a text. -/
theorem digit_str (q r : Nat) (hq : q < 16) (hr : r = q + 1) (w : World) : (Instr.sliceAt 9 (.string ⟨#[48, 49, 50, 51, 52, 53, 54, 55, 56, 57, 97, 98, 99, 100, 101, 102]⟩) (some (.int .u8 q)) (some (.int .u8 r)) none).run Try.prog w = .ok (.string (str [hexD q])) w := by
  subst hr
  have h := digit_cut ⟨q, hq⟩
  simp only at h
  have e : digitsB.extract q (q + 1) = str [hexD q] := by
    rw [← h, str_data]
  rw [← e]
  have hs : digitsB.size = 16 := rfl
  show (Instr.sliceAt 9 (.string digitsB) _ _ _).run Try.prog w = _
  have h0 : (0 : Int) ≤ q := by omega
  have h1 : (q : Int) ≤ ((q + 1 : Nat) : Int) := by omega
  have h2 : ((q + 1 : Nat) : Int) ≤ (digitsB.size : Int) := by rw [hs]; omega
  simp [Instr.sliceAt, Instr.slice, run_underlying Try.underlying9, Instr.sliceBounds, Instr.sliceBound, asIntOf, hs]
  intro h5
  have := h5 (by omega)
  omega

set_option maxRecDepth 100000 in
set_option maxHeartbeats 2000000 in
/-- The document's Text. -/
theorem rtext_any (l : List UInt8) (hl : l.length = 32) (w : World) :
    Calls Try.prog 12 #[.agg (fpA l)] w fun e w' => e = .returned (.string (str (hexL l))) ∧ Below w.heap.size w w' := by
  have O0 := OneRow.made w l
  have HL := Lib.hid hl
  obtain ⟨L, hLL⟩ : ∃ L, L = fpA l := ⟨_, rfl⟩
  have O1 : Hid (OneRow w l (w.alloc (.cells L 23))) := by rw [hLL]; exact O0
  rw [← hLL]
  clear hl O0 hLL
  go_enter Try.func12, Try.ntmps12
  go_wp2
  go_loopw [4, 5] (fun u x wr => ∃ (k : Nat), k ≤ 32 ∧ x = .int .i64 k ∧ u = .string (str (hexL (l.take k))) ∧ Hid (OneRow w l wr)) (fun _ x _ => 32 - (intOf x).toNat)
  case atStart => exact ⟨0, by omega, rfl, rfl, O1⟩
  case round =>
    clear O1
    obtain ⟨k, hk, rfl, rfl, HR⟩ := hrel
    by_cases hlt : k < 32
    · have c1 := HR.out.cell k (by rw [HL.out]; exact hlt)
      have hx := (l.getD k 0).toNat_lt
      have HT := Lib.hid (hexL_take l k (by rw [HL.out]; exact hlt))
      obtain ⟨x, hxx⟩ : ∃ x, x = (l.getD k 0).toNat := ⟨_, rfl⟩
      rw [← hxx] at c1 hx HT
      obtain ⟨q1, hq1⟩ : ∃ q, q = x / 16 := ⟨_, rfl⟩
      obtain ⟨q2, hq2⟩ : ∃ q, q = x % 16 := ⟨_, rfl⟩
      obtain ⟨r1, hr1⟩ : ∃ r, r = q1 + 1 := ⟨_, rfl⟩
      obtain ⟨r2, hr2⟩ : ∃ r, r = q2 + 1 := ⟨_, rfl⟩
      rw [← hq1, ← hq2] at HT
      have D1 := fun w' => digit_str q1 r1 (by omega) hr1 w'
      have D2 := fun w' => digit_str q2 r2 (by omega) hr2 w'
      have e1 : (x : Int) / 16 = (q1 : Int) := by omega
      have e1' : (x : Int).tdiv 16 = (q1 : Int) := by rw [hq1]; rfl
      have e2 : (x : Int) % 16 = (q2 : Int) := by omega
      have e2' : (x : Int).tmod 16 = (q2 : Int) := by rw [hq2]; rfl
      have e5 : IntKind.u8.wrap (q1 : Int) = (q1 : Int) := by simp [IntKind.wrap, IntKind.bits, IntKind.signed]; omega
      have e6 : IntKind.u8.wrap (q2 : Int) = (q2 : Int) := by simp [IntKind.wrap, IntKind.bits, IntKind.signed]; omega
      have e3 : IntKind.u8.wrap ((q1 : Int) + 1) = (r1 : Int) := by simp [IntKind.wrap, IntKind.bits, IntKind.signed]; omega
      have e4 : IntKind.u8.wrap ((q2 : Int) + 1) = (r2 : Int) := by simp [IntKind.wrap, IntKind.bits, IntKind.signed]; omega
      obtain ⟨sk, hsk⟩ : ∃ s, s = str (hexL (l.take k)) := ⟨_, rfl⟩
      obtain ⟨s1, hs1⟩ : ∃ s, s = str [hexD q1] := ⟨_, rfl⟩
      obtain ⟨s2, hs2⟩ : ∃ s, s = str [hexD q2] := ⟨_, rfl⟩
      have HS : Hid (sk ++ s1 ++ s2 = str (hexL (l.take (k + 1)))) := Lib.hid (by
        rw [hsk, hs1, hs2, HT.out, str_append, str_append]
        simp)
      have z0 : sk.size ≤ 64 := by rw [hsk, str_size, hexL_len, List.length_take]; omega
      have z1 : s1.size = 1 := by rw [hs1, str_size]; rfl
      have z2 : s2.size = 1 := by rw [hs2, str_size]; rfl
      obtain ⟨sa, hsa⟩ : ∃ s, s = sk ++ s1 := ⟨_, rfl⟩
      obtain ⟨sb, hsb⟩ : ∃ s, s = sa ++ s2 := ⟨_, rfl⟩
      have A1 : ∀ w', (Op.stringOp .add sk s1).run Try.prog w' = .ok (.string sa) w' := fun w' => by rw [hsa]; exact run_string_add_sum w' sk s1 (by omega)
      have za : sa.size ≤ 65 := by rw [hsa, ByteArray.size_append]; omega
      have A2 : ∀ w', (Op.stringOp .add sa s2).run Try.prog w' = .ok (.string sb) w' := fun w' => by rw [hsb]; exact run_string_add_sum w' sa s2 (by omega)
      have HS2 : Hid (sb = str (hexL (l.take (k + 1)))) := by rw [hsb, hsa]; exact HS.out
      rw [← hsk]
      rw [← hs1] at D1
      rw [← hs2] at D2
      clear hxx hq1 hq2 hr1 hr2 hsk hs1 hs2 HT hsa hsb z0 z1 z2 za HS
      go_wp2_with fail
      go_quiet (fail)
      go_wp2
      go_roundw
      case rel => exact ⟨k + 1, by omega, by go_num, by rw [← HS2.out], Lib.hid (HR.out.drewN nq)⟩
      case measure => simp [intOf]; omega
    · obtain rfl : k = 32 := by omega
      have hall : l.take 32 = l := List.take_of_length_le (by rw [HL.out]; exact Nat.le_refl _)
      rw [hall]
      go_wp2
      go_ret
      exact ⟨rfl, HR.out.2⟩

/-- A digit's worth, as the program tells it. -/
def digV (x : Nat) : Nat := if 48 ≤ x ∧ x ≤ 57 then x - 48 else if 97 ≤ x ∧ x ≤ 102 then x - 87 else 0
def digB (x : Nat) : Bool := decide (48 ≤ x ∧ x ≤ 57) || decide (97 ≤ x ∧ x ≤ 102)

theorem dig_val (c : UInt8) : valD c = if digB c.toNat then some (digV c.toNat) else none := by
  unfold valD digB digV
  by_cases h1 : 48 ≤ c.toNat ∧ c.toNat ≤ 57
  · rw [if_pos h1, if_pos h1]; simp [h1]
  · rw [if_neg h1, if_neg h1]
    by_cases h2 : 97 ≤ c.toNat ∧ c.toNat ≤ 102
    · rw [if_pos h2, if_pos h2]; simp [h2]
    · rw [if_neg h2, if_neg h2]; simp [h1, h2]

theorem digV_lt (x : Nat) : digV x < 16 := by
  unfold digV
  split
  · omega
  · split <;> omega

set_option maxRecDepth 100000 in
theorem digit_any (x : Nat) (hx : x < 256) (w : World) :
    Calls Try.prog 32 #[.int .u8 x] w fun e w' => e = .returned (.tuple #[.int .u8 (digV x : Nat), .bool (digB x)]) ∧ w' = w := by
  by_cases h1 : 48 ≤ x
  · have b1 : decide ((48 : Int) ≤ (x : Int)) = true := by simp; omega
    by_cases h2 : x ≤ 57
    · have b2 : decide ((x : Int) ≤ 57) = true := by simp; omega
      have e1 : digV x = x - 48 := by unfold digV; rw [if_pos ⟨h1, h2⟩]
      have e2 : digB x = true := by unfold digB; simp [h1, h2]
      have e3 : IntKind.u8.wrap ((x : Int) - 48) = ((x - 48 : Nat) : Int) := by simp [IntKind.wrap, IntKind.bits, IntKind.signed]; omega
      rw [e1, e2]
      clear e1 e2
      go_enter Try.func32, Try.ntmps32
      go_wp2
      go_ret2
      exact ⟨by first | rfl | (congr 4; omega), rfl⟩
    · have b2 : decide ((x : Int) ≤ 57) = false := by simp; omega
      by_cases h3 : 97 ≤ x
      · have b3 : decide ((97 : Int) ≤ (x : Int)) = true := by simp; omega
        by_cases h4 : x ≤ 102
        · have b4 : decide ((x : Int) ≤ 102) = true := by simp; omega
          have e1 : digV x = x - 87 := by unfold digV; rw [if_neg (by omega), if_pos ⟨h3, h4⟩]
          have e2 : digB x = true := by unfold digB; simp [h3, h4]
          have e3 : IntKind.u8.wrap ((x : Int) - 97) = ((x - 97 : Nat) : Int) := by simp [IntKind.wrap, IntKind.bits, IntKind.signed]; omega
          rw [e1, e2]
          clear e1 e2
          go_enter Try.func32, Try.ntmps32
          go_wp2
          go_ret2
          refine ⟨?_, rfl⟩
          have e5 : ((x - 97 : Nat) : Int) + 10 = ((x - 87 : Nat) : Int) := by omega
          rw [← e5]
          rfl
        · have b4 : decide ((x : Int) ≤ 102) = false := by simp; omega
          have e1 : digV x = 0 := by unfold digV; rw [if_neg (by omega), if_neg (by omega)]
          have e2 : digB x = false := by unfold digB; simp; omega
          rw [e1, e2]
          clear e1 e2
          go_enter Try.func32, Try.ntmps32
          go_wp2
          go_ret2
          exact ⟨rfl, rfl⟩
      · have b3 : decide ((97 : Int) ≤ (x : Int)) = false := by simp; omega
        have e1 : digV x = 0 := by unfold digV; rw [if_neg (by omega), if_neg (by omega)]
        have e2 : digB x = false := by unfold digB; simp; omega
        rw [e1, e2]
        clear e1 e2
        go_enter Try.func32, Try.ntmps32
        go_wp2
        go_ret2
        exact ⟨rfl, rfl⟩
  · have b1 : decide ((48 : Int) ≤ (x : Int)) = false := by simp; omega
    have b3 : decide ((97 : Int) ≤ (x : Int)) = false := by simp; omega
    have e1 : digV x = 0 := by unfold digV; rw [if_neg (by omega), if_neg (by omega)]
    have e2 : digB x = false := by unfold digB; simp; omega
    rw [e1, e2]
    clear e1 e2
    go_enter Try.func32, Try.ntmps32
    go_wp2
    go_ret2
    exact ⟨rfl, rfl⟩

end Go.Proofs.Ythgjooacapodnaa
