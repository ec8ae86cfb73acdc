/- How many first bits are 0: the walks of Zeros. -/
import Derived.Test.YthgjooacapodnaaHkQ
import Derived.Lib.BitFns
namespace Go.Proofs.Ythgjooacapodnaa
open Go.RowKit

theorem bits_zero : ∀ n : Fin 256, (([128, 64, 32, 16, 8, 4, 2, 1].map fun k => n.val / k % 2 == 1).takeWhile (!·)).length = 8 - Lib.bitLen n.val := by decide +kernel
theorem bitLen_pos : ∀ n : Fin 256, n.val ≠ 0 → 1 ≤ Lib.bitLen n.val ∧ Lib.bitLen n.val ≤ 8 := by decide +kernel

theorem zerosB_cons (a : UInt8) (l : List UInt8) : zerosB (a :: l) = if a.toNat = 0 then 8 + zerosB l else 8 - Lib.bitLen a.toNat := by
  have h := bits_zero ⟨a.toNat, a.toNat_lt⟩
  simp only at h
  have e : bitsB (a :: l) = bits8 a ++ bitsB l := rfl
  unfold zerosB
  rw [e, List.takeWhile_append]
  have hb : ((bits8 a).takeWhile (!·)).length = 8 - Lib.bitLen a.toNat := h
  rw [hb, bits8_len]
  by_cases h0 : a.toNat = 0
  · have : Lib.bitLen a.toNat = 0 := by rw [h0]; rfl
    rw [this, if_pos h0, if_pos rfl, List.length_append, bits8_len]
  · have := bitLen_pos ⟨a.toNat, a.toNat_lt⟩ h0
    simp only at this
    rw [if_neg h0, if_neg (by omega), hb]

theorem zerosB_drop (l : List UInt8) (i : Nat) (h : i < l.length) : zerosB (l.drop i) = if (l[i]).toNat = 0 then 8 + zerosB (l.drop (i + 1)) else 8 - Lib.bitLen (l[i]).toNat := by
  rw [List.drop_eq_getElem_cons h, zerosB_cons]

theorem zerosB_nil : zerosB [] = 0 := rfl

set_option maxRecDepth 100000 in
theorem len8_int (x : Int) (h0 : 0 ≤ x) (h1 : x ≤ 255) (w : World) :
    Calls Try.prog 43 #[.int .u8 x] w fun e w' => e = .returned (.int .i64 (Lib.bitLen x.toNat)) ∧ w' = w := by
  have hw : wrap64 (Lib.len8 x) = (Lib.bitLen x.toNat : Int) := by
    unfold wrap64
    exact Lib.len8_int x h0 h1
  rw [← hw]
  clear hw
  go_enter Try.func43, Try.ntmps43
  go_wp2
  go_ret
  exact ⟨rfl, rfl⟩

theorem lz8_any (x : Nat) (hx : x < 256) (hb : Lib.bitLen x ≤ 8) (w : World) :
    Calls Try.prog 33 #[.int .u8 x] w fun e w' => e = .returned (.int .i64 ((8 - Lib.bitLen x : Nat) : Int)) ∧ w' = w := by
  have C := len8_int x (by omega) (by omega) w
  have e : ((x : Int)).toNat = x := by omega
  rw [e] at C
  obtain ⟨n, hn⟩ : ∃ n, n = Lib.bitLen x := ⟨_, rfl⟩
  rw [← hn] at C hb ⊢
  clear hn e
  have h2 : ((8 - n : Nat) : Int) = 8 - (n : Int) := by omega
  rw [h2]
  clear h2
  go_enter Try.func33, Try.ntmps33
  go_wp2_with (go_at_call 43; refine C.mono ?_; rintro e w' ⟨rfl, rfl⟩)
  go_ret
  exact ⟨by first | rfl | (congr 2; omega), rfl⟩

/-- A fingerprint in a block of its own, and all else as it was. -/
def OneRow (w : World) (l : List UInt8) (wr : World) : Prop := wr.heap[w.heap.size]? = some (.cells (fpA l) 23 (0, 0)) ∧ Below w.heap.size w wr

theorem OneRow.made (w : World) (l : List UInt8) : OneRow w l (w.alloc (.cells (fpA l) 23)) := ⟨heap_alloc_new w _, (Below.refl _ _).alloc (Nat.le_refl _) _⟩
theorem OneRow.drewN {w wr : World} {l : List UInt8} (h : OneRow w l wr) (n : Nat) : OneRow w l (wr.drewN n) := ⟨h.1, below_drewN h.2 n⟩
theorem OneRow.lt {w wr : World} {l : List UInt8} (h : OneRow w l wr) : w.heap.size < wr.heap.size := (Array.getElem?_eq_some_iff.1 h.1).1
theorem OneRow.kept {w wr wr' : World} {l : List UInt8} (h : OneRow w l wr) (k : Below wr.heap.size wr wr') : OneRow w l wr' :=
  ⟨by rw [k.block _ h.lt]; exact h.1, Below.then' h.2 k h.2.size⟩
theorem OneRow.cell {w wr : World} {l : List UInt8} (h : OneRow w l wr) (i : Nat) (hi : i < l.length) : wr.cell? ⟨w.heap.size, i, none⟩ = some (.int .u8 ((l.getD i 0).toNat : Int)) := by
  rw [fp_cell wr _ _ l _ h.1 i hi]
  simp [List.getD, hi]

theorem cellsU8 : Try.prog.cellsOf 5 = 1 := by kernel_rfl
theorem infoU8 : (Try.prog.info? 5).isSome = true := by kernel_rfl

theorem eq_fp (l m : List UInt8) (hl : l.length = 32) (hm : m.length = 32) (w : World) : (Op.equalIn 10000 23 (.agg (fpA l)) (.agg (fpA m))).run Try.prog w = .ok (l == m) w :=
  run_eq_fp 23 5 32 l m hl hm Try.underlying23 infoU8 cellsU8 Try.underlying5 w

def zeroL : List UInt8 := List.replicate 32 0
theorem zeroL_len : zeroL.length = 32 := rfl
theorem zeroL_cells : fpA zeroL = #[.int .u8 0, .int .u8 0, .int .u8 0, .int .u8 0, .int .u8 0, .int .u8 0, .int .u8 0, .int .u8 0, .int .u8 0, .int .u8 0, .int .u8 0, .int .u8 0, .int .u8 0, .int .u8 0, .int .u8 0, .int .u8 0, .int .u8 0, .int .u8 0, .int .u8 0, .int .u8 0, .int .u8 0, .int .u8 0, .int .u8 0, .int .u8 0, .int .u8 0, .int .u8 0, .int .u8 0, .int .u8 0, .int .u8 0, .int .u8 0, .int .u8 0, .int .u8 0] := by rfl

theorem all_zero (l : List UInt8) (hl : l.length = 32) (h : ∀ j, j < 32 → (l.getD j 0).toNat = 0) : l = zeroL := by
  apply List.ext_getElem (by rw [hl, zeroL_len])
  intro i h1 h2
  have := h i (by omega)
  apply UInt8.toNat_inj.1
  simp only [List.getD, List.getElem?_eq_getElem h1, Option.getD_some] at this
  have e : zeroL[i] = 0 := List.getElem_replicate ..
  rw [this, e]
  rfl

theorem zeros_zeroL : zerosB zeroL = 256 := by decide +kernel

set_option maxRecDepth 100000 in
set_option maxHeartbeats 1000000 in
theorem zeros_any (l : List UInt8) (hl : l.length = 32) (w : World) :
    Calls Try.prog 14 #[.agg (fpA l)] w fun e w' => e = .returned (.int .i64 (zerosB l : Nat)) ∧ Below w.heap.size w w' := by
  have O0 := OneRow.made w l
  have g0 := O0.1
  have EQ := fun w' => eq_fp l zeroL hl zeroL_len w'
  rw [zeroL_cells] at EQ
  have HI := Lib.hid (fp_info l hl)
  have HL := Lib.hid hl
  obtain ⟨z, hz⟩ : ∃ z, z = zerosB l := ⟨_, rfl⟩
  rw [← hz]
  by_cases h0 : l = zeroL
  · have hb : (l == zeroL) = true := by simpa using h0
    have hz' : z = 256 := by rw [hz, h0]; exact zeros_zeroL
    rw [hb] at EQ
    obtain ⟨L, hLL⟩ : ∃ L, L = fpA l := ⟨_, rfl⟩
    rw [← hLL] at HI EQ g0 ⊢
    have HO := Lib.hid O0
    rw [← hLL] at HO
    subst hz'
    clear hz hb h0 hl O0 hLL
    go_enter Try.func14, Try.ntmps14
    go_wp2_with (with_reducible refine wpList_load_row rfl _ _ rfl w.heap.size rfl 23 L (0, 0) _ g0 Try.underlying23 rfl HI.out ?_)
    go_ret
    exact ⟨rfl, HO.out.2⟩
  · have hb : (l == zeroL) = false := by simpa using h0
    rw [hb] at EQ
    obtain ⟨L, hLL⟩ : ∃ L, L = fpA l := ⟨_, rfl⟩
    have O1 : Hid (OneRow w l (w.alloc (.cells L 23))) := by rw [hLL]; exact O0
    rw [← hLL] at HI EQ g0 ⊢
    have HZ := Lib.hid hz
    have H0 := Lib.hid h0
    clear hz hb h0 hl O0 hLL
    go_enter Try.func14, Try.ntmps14
    go_wp2_with (with_reducible refine wpList_load_row rfl _ _ rfl w.heap.size rfl 23 L (0, 0) _ g0 Try.underlying23 rfl HI.out ?_)
    go_loopw [3] (fun x wr => ∃ (i : Nat), i ≤ 32 ∧ x = .int .i64 i ∧ (∀ j, j < i → (l.getD j 0).toNat = 0) ∧ zerosB l = 8 * i + zerosB (l.drop i) ∧ OneRow w l wr) (fun x _ => 32 - (intOf x).toNat)
    case atStart => exact ⟨0, by omega, rfl, fun j hj => by omega, by simp, O1.out⟩
    case round =>
      clear O1 g0
      obtain ⟨i, hi, rfl, hall, hzi, hro⟩ := hrel
      have hi32 : i < 32 := by
        by_cases h : i < 32
        · exact h
        · exact absurd (all_zero l HL.out (fun j hj => hall j (by omega))) H0.out
      have hil : i < l.length := by rw [HL.out]; exact hi32
      have c1 := hro.cell i hil
      have hd := zerosB_drop l i hil
      have hg : l.getD i 0 = l[i] := by simp [List.getD, hil]
      rw [← hg] at hd
      obtain ⟨x, hx⟩ : ∃ x, x = (l.getD i 0).toNat := ⟨_, rfl⟩
      have hxb : x < 256 := by rw [hx]; exact (l.getD i 0).toNat_lt
      rw [← hx] at c1 hd
      have HA := Lib.hid hall
      have HR := Lib.hid hro
      have HX := Lib.hid hx
      have hz2 := HZ.out
      clear hall hro hg hx
      by_cases hx0 : x = 0
      · rw [if_pos hx0] at hd
        have hzn : zerosB l = 8 * (i + 1) + zerosB (l.drop (i + 1)) := by omega
        have HZN := Lib.hid hzn
        clear hzn hd hzi hz2
        subst hx0
        go_wp2
        go_roundw
        case rel => exact ⟨i + 1, by omega, by go_num, fun j hj => by
          by_cases h : j < i
          · exact HA.out j h
          · obtain rfl : j = i := by omega
            exact HX.out.symm, HZN.out, HR.out⟩
        case measure => simp [intOf]; omega
      · rw [if_neg hx0] at hd
        have bl := bitLen_pos ⟨x, hxb⟩ hx0
        simp only at bl
        have hzz : (z : Int) = 8 * (i : Int) + ((8 - Lib.bitLen x : Nat) : Int) := by omega
        have C := fun w' => lz8_any x hxb bl.2 w'
        obtain ⟨q, hq⟩ : ∃ q, q = 8 - Lib.bitLen x := ⟨_, rfl⟩
        rw [← hq] at C hzz
        have hq8 : q ≤ 8 := by omega
        have b1 : ((x : Int) == 0) = false := by simpa using hx0
        have HZZ := Lib.hid hzz
        clear hzi hd hz2 hq bl hzz
        go_wp2_with (go_at_call 33; refine (C _).mono ?_; rintro e w' ⟨rfl, rfl⟩)
        go_ret
        exact ⟨by rw [HZZ.out]; rfl, HR.out.2⟩

end Go.Proofs.Ythgjooacapodnaa
