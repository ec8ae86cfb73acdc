/- The walk of expanded: the words of a block. -/
import Derived.Test.YtepcnedagmfpeaaDoorWord
import Derived.Test.YtepcnedagmfpeaaDoorArr
import Derived.StillTailTactics
import Derived.Outline
namespace Go.Proofs.YtepcnedagmfpeaaDoor
open Go.RowKit

/-- The cells of some bytes, of some words. -/
def byA (l : List UInt8) : Array Value := (l.map fun c : UInt8 => Value.int .u8 (c.toNat : Int)).toArray
def nuA (l : List Nat) : Array Value := (l.map fun n : Nat => Value.int .u32 (n : Int)).toArray

theorem byA_size (l : List UInt8) : (byA l).size = l.length := by simp [byA]
theorem nuA_size (l : List Nat) : (nuA l).size = l.length := by simp [nuA]
theorem byA_get (l : List UInt8) (i : Nat) (h : i < l.length) : (byA l)[i]? = some (.int .u8 ((l.getD i 0).toNat : Int)) := by
  simp [byA, List.getD, h]
theorem nuA_get (l : List Nat) (i : Nat) (h : i < l.length) : (nuA l)[i]? = some (.int .u32 ((l.getD i 0 : Nat) : Int)) := by
  simp [nuA, List.getD, h]
theorem nuA_of (l : List Nat) (C : Array Value) (hs : C.size = l.length) (h : ∀ j, j < l.length → C[j]? = some (.int .u32 ((l.getD j 0 : Nat) : Int))) : C = nuA l := by
  apply Array.ext_getElem?
  intro j
  by_cases hj : j < l.length
  · rw [h j hj, nuA_get l j hj]
  · rw [Array.getElem?_eq_none (by omega), Array.getElem?_eq_none (by rw [nuA_size]; omega)]
theorem byA_one (l : List UInt8) : (byA l).all (·.oneCell') = true := by
  rw [Array.all_eq_true]
  intro i hi
  simp [byA, Value.oneCell']
theorem nuA_one (l : List Nat) : (nuA l).all (·.oneCell') = true := by
  rw [Array.all_eq_true]
  intro i hi
  simp [nuA, Value.oneCell']

theorem infoB64 : (Tryd.prog.info? 51).map (·.size) = some 64 := by kernel_rfl
theorem infoW64 : (Tryd.prog.info? 68).map (·.size) = some 64 := by kernel_rfl
theorem infoU8 : (Tryd.prog.info? 5).map (·.size) = some 1 := by kernel_rfl
theorem infoU32 : (Tryd.prog.info? 36).map (·.size) = some 1 := by kernel_rfl

/-! ### A word out of four bytes. -/
def ofBE (l : List UInt8) : Nat := l.foldl (fun a c => a * 256 + c.toNat) 0
theorem ofBE_snoc (l : List UInt8) (c : UInt8) : ofBE (l ++ [c]) = ofBE l * 256 + c.toNat := by simp [ofBE]
theorem ofBE_lt (l : List UInt8) : ∀ k, l.length = k → ofBE l < 256 ^ k := by
  intro k
  induction k generalizing l with
  | zero => intro h; obtain rfl := List.eq_nil_of_length_eq_zero h; simp [ofBE]
  | succ k ih =>
    intro h
    have hne : l ≠ [] := by intro e; subst e; simp at h
    have hd := List.dropLast_concat_getLast hne
    rw [← hd, ofBE_snoc]
    have := ih l.dropLast (by rw [List.length_dropLast]; omega)
    have hc := (l.getLast hne).toNat_lt
    rw [Nat.pow_succ]
    omega

def pw (l : List UInt8) (i j : Nat) : Nat := ofBE (((l.take i).drop (4 * j)).take 4)

theorem pw_zero (l : List UInt8) (i j : Nat) (h : i ≤ 4 * j) : pw l i j = 0 := by
  unfold pw
  have : (l.take i).drop (4 * j) = [] := List.drop_eq_nil_of_le (by rw [List.length_take]; omega)
  rw [this]
  rfl

theorem pw_step (l : List UInt8) (i j : Nat) (hi : i < l.length) (h1 : 4 * j ≤ i) (h2 : i < 4 * j + 4) : pw l (i + 1) j = pw l i j * 256 + (l.getD i 0).toNat ∧ pw l i j ≤ 16777215 := by
  have hlen : ((l.take i).drop (4 * j)).length = i - 4 * j := by rw [List.length_drop, List.length_take]; omega
  have e1 : ((l.take i).drop (4 * j)).take 4 = (l.take i).drop (4 * j) := List.take_of_length_le (by omega)
  have e2 : (l.take (i + 1)).drop (4 * j) = (l.take i).drop (4 * j) ++ [l[i]] := by
    rw [List.take_succ_eq_append_getElem hi, List.drop_append_of_le_length (by rw [List.length_take]; omega)]
  have e3 : ((l.take (i + 1)).drop (4 * j)).take 4 = (l.take i).drop (4 * j) ++ [l[i]] := by
    rw [e2]; exact List.take_of_length_le (by simp [hlen]; omega)
  constructor
  · unfold pw
    rw [e3, e1, ofBE_snoc]
    simp [List.getD, hi]
  · unfold pw
    rw [e1]
    have := ofBE_lt _ _ hlen
    have h3 : 256 ^ (i - 4 * j) ≤ 256 ^ 3 := Nat.pow_le_pow_right (by omega) (by omega)
    omega

theorem pw_keep (l : List UInt8) (i j : Nat) (hi : i < l.length) (h : i < 4 * j ∨ 4 * j + 4 ≤ i) : pw l (i + 1) j = pw l i j := by
  rcases h with h | h
  · rw [pw_zero l _ _ (by omega), pw_zero l _ _ (by omega)]
  · unfold pw
    congr 1
    rw [List.take_succ_eq_append_getElem hi, List.drop_append_of_le_length (by rw [List.length_take]; omega), List.take_append_of_le_length (by rw [List.length_drop, List.length_take]; omega)]

theorem pw_stay (l : List UInt8) (j i : Nat) (hi : 4 * j + 4 ≤ i) : ∀ k, i + k ≤ l.length → pw l (i + k) j = pw l i j
  | 0, _ => rfl
  | k + 1, h => by
    rw [← pw_stay l j i hi k (by omega)]
    exact pw_keep l (i + k) j (by omega) (Or.inr (by omega))

theorem pw_word (l : List UInt8) (j : Nat) (h : 4 * j + 4 ≤ l.length) : pw l l.length j = word4 l j := by
  have h0 := pw_zero l (4 * j) j (Nat.le_refl _)
  have h1 := (pw_step l (4 * j) j (by omega) (by omega) (by omega)).1
  have h2 := (pw_step l (4 * j + 1) j (by omega) (by omega) (by omega)).1
  have h3 := (pw_step l (4 * j + 2) j (by omega) (by omega) (by omega)).1
  have h4 := (pw_step l (4 * j + 3) j (by omega) (by omega) (by omega)).1
  have hs := pw_stay l j (4 * j + 4) (by omega) (l.length - (4 * j + 4)) (by omega)
  rw [show 4 * j + 4 + (l.length - (4 * j + 4)) = l.length by omega] at hs
  rw [hs, h4, h3, h2, h1, h0, Nat.zero_mul, Nat.zero_add]
  rfl

theorem or_byte (a c : Nat) (ha : a ≤ 16777215) (hc : c < 256) : bits .or .u32 ((a : Int) * 256) (c : Int) = ((a * 256 + c : Nat) : Int) := by
  have e : ((a : Int) * 256) = ((a * 256 : Nat) : Int) := by omega
  rw [e, o32 (by omega) (by omega)]
  congr 1
  have h := Nat.two_pow_add_eq_or_of_lt (i := 8) (b := c) (by omega) a
  rw [Nat.mul_comm a 256, show (256 : Nat) = 2 ^ 8 from rfl, ← h]

def zerosW : Array Value := #[Value.int .u32 0, Value.int .u32 0, Value.int .u32 0, Value.int .u32 0, Value.int .u32 0, Value.int .u32 0, Value.int .u32 0, Value.int .u32 0, Value.int .u32 0, Value.int .u32 0, Value.int .u32 0, Value.int .u32 0, Value.int .u32 0, Value.int .u32 0, Value.int .u32 0, Value.int .u32 0, Value.int .u32 0, Value.int .u32 0, Value.int .u32 0, Value.int .u32 0, Value.int .u32 0, Value.int .u32 0, Value.int .u32 0, Value.int .u32 0, Value.int .u32 0, Value.int .u32 0, Value.int .u32 0, Value.int .u32 0, Value.int .u32 0, Value.int .u32 0, Value.int .u32 0, Value.int .u32 0, Value.int .u32 0, Value.int .u32 0, Value.int .u32 0, Value.int .u32 0, Value.int .u32 0, Value.int .u32 0, Value.int .u32 0, Value.int .u32 0, Value.int .u32 0, Value.int .u32 0, Value.int .u32 0, Value.int .u32 0, Value.int .u32 0, Value.int .u32 0, Value.int .u32 0, Value.int .u32 0, Value.int .u32 0, Value.int .u32 0, Value.int .u32 0, Value.int .u32 0, Value.int .u32 0, Value.int .u32 0, Value.int .u32 0, Value.int .u32 0, Value.int .u32 0, Value.int .u32 0, Value.int .u32 0, Value.int .u32 0, Value.int .u32 0, Value.int .u32 0, Value.int .u32 0, Value.int .u32 0]
theorem rep_getD (n j : Nat) : (List.replicate n (0 : Nat)).getD j 0 = 0 := by
  simp only [List.getD_eq_getElem?_getD, List.getElem?_replicate]
  split <;> rfl
theorem zerosW_get : ∀ j : Fin 64, zerosW[j.1]? = some (.int .u32 0) := by
  intro j
  have h : zerosW = nuA (List.replicate 64 0) := rfl
  rw [h, nuA_get _ _ (by rw [List.length_replicate]; exact j.2), rep_getD]
  rfl

set_option maxRecDepth 100000 in
set_option maxHeartbeats 1000000 in
theorem expanded_any (l : List UInt8) (hl : l.length = 64) (w : World) :
    Calls Tryd.prog 33 #[.agg (byA l)] w fun e w' => e = .returned (.agg (nuA (wordsTo l 64))) ∧ Below w.heap.size w w' := by
  obtain ⟨B, hB⟩ : ∃ B, B = byA l := ⟨_, rfl⟩
  have hBs : B.size = 64 := by rw [hB, byA_size, hl]
  rw [← hB]
  have HB := Lib.hid hB
  have hBi : (Tryd.prog.info? 51).map (·.size) = some B.size := by rw [hBs]; exact infoB64
  have HBI := Lib.hid hBi
  have HBS := Lib.hid hBs
  have HL := Lib.hid hl
  clear hB hBi hBs hl
  go_enter Tryd.func33, Tryd.ntmps33
  go_wp2_with (with_reducible refine wpList_load_row rfl _ _ rfl w.heap.size rfl 51 B (0, 0) _ ?g1 Tryd.underlying51 rfl HBI.out ?_)
  case g1 =>
    rw [Below.heap_alloc _ _ _ (by simp; omega)]; exact heap_alloc2_old w _ _
  obtain ⟨Z, hZ⟩ : ∃ Z : Array Value, Z = zerosW := ⟨_, rfl⟩
  have hZ' := hZ
  unfold zerosW at hZ'
  rw [← hZ']
  have hZs : Z.size = 64 := by rw [hZ]; rfl
  have hZg : ∀ j, j < 64 → Z[j]? = some (.int .u32 0) := fun j hj => by rw [hZ]; exact zerosW_get ⟨j, hj⟩
  have HZS := Lib.hid hZs
  have HZG := Lib.hid hZg
  clear hZ hZ' hZs hZg
  go_loopw [8] (fun x wr => ∃ (i : Nat) (C : Array Value), i ≤ 64 ∧ x = .int .i64 i ∧ C.size = 64 ∧ (∀ j, j < 64 → C[j]? = some (.int .u32 (pw l i j : Nat))) ∧
      wr.heap[w.heap.size + 1]? = some (.cells Z 68 (0, 0)) ∧ wr.heap[w.heap.size + 1 + 1]? = some (.cells C 68 (0, 0)) ∧ Below w.heap.size w wr) (fun x _ => 64 - (intOf x).toNat)
  case atStart =>
    refine ⟨0, Z, Nat.zero_le _, rfl, HZS.out, fun j hj => by rw [HZG.out j hj, pw_zero l 0 j (by omega)]; rfl, ?_, ?_, ?_⟩
    · rw [Below.heap_alloc _ _ _ (by simp)]; exact heap_alloc2_new w _ _
    · have := heap_alloc2_new (w.alloc (.cells B 51)) (.cells Z 68) (.cells Z 68)
      simpa using this
    · exact (((Below.refl _ _).alloc (Nat.le_refl _) _).alloc (by simp) _).alloc (by simp; omega) _
  case round =>
    obtain ⟨i, C, hi, rfl, hC, hcs, h1, h2, hb⟩ := hrel
    have HC := Lib.hid hcs
    have HCS := Lib.hid hC
    clear hcs
    by_cases hlt : i < 64
    · have hil : i < l.length := by rw [HL.out]; exact hlt
      have hst := pw_step l i (i / 4) hil (by omega) (by omega)
      have hcell := HC.out (i / 4) (by omega)
      obtain ⟨c, hc⟩ : ∃ c : UInt8, c = l.getD i 0 := ⟨_, rfl⟩
      have hBi := byA_get l i hil
      rw [← hc] at hst hBi
      rw [← HB.out] at hBi
      have hix := fun w' => run_index_arr (P := Tryd.prog) w' 51 5 64 B .i64 .u8 i (.int .u8 c.toNat) Tryd.underlying51 Tryd.underlying5 infoU8 hlt hBi
      obtain ⟨a, ha⟩ : ∃ a, a = pw l i (i / 4) := ⟨_, rfl⟩
      rw [← ha] at hst hcell
      have hcl := c.toNat_lt
      have eor := or_byte a c.toNat hst.2 hcl
      have hal := hst.2
      have HS := Lib.hid hst.1
      have e4 : ((i : Int) / 4).toNat = i / 4 := by omega
      have c2 : wr.cell? ⟨w.heap.size + 1 + 1, i / 4, none⟩ = some (.int .u32 (a : Nat)) := (cell_of_row _ _ _ C _ _ h2).trans hcell
      have f2 : wr.frozen? ⟨w.heap.size + 1 + 1, i / 4, none⟩ = false := frozen_of_row _ _ _ _ _ h2
      have emod : (c.toNat : Int) % 4294967296 = (c.toNat : Int) := by omega
      clear hBi hc ha hst hcell hC
      go_wp2
      go_roundw
      case rel =>
        refine ⟨i + 1, C.setIfInBounds (i / 4) (.int .u32 (a * 256 + c.toNat : Nat)), by omega, by go_num, by simpa using HCS.out, ?_, ?_, ?_, ?_⟩
        · intro j hj
          have hC' := HCS.out
          rw [Array.getElem?_setIfInBounds]
          by_cases e : i / 4 = j
          · subst e
            rw [if_pos rfl, if_pos (by omega), HS.out]
          · rw [if_neg e, HC.out j hj, pw_keep l i j hil (by omega)]
        · rw [heap_setCell_other _ _ _ _ (by show ¬ w.heap.size + 1 = w.heap.size + 1 + 1; omega)]; exact h1
        · exact heap_setCell_same _ _ _ _ _ _ h2
        · exact hb.setCell (by show w.heap.size ≤ w.heap.size + 1 + 1; omega) _
      case measure => simp [intOf]; omega
    · obtain rfl : i = 64 := by omega
      have hw0 : ∀ j, j < 16 → C[j]? = some (.int .u32 (wv l j : Nat)) := fun j hj => by
        rw [HC.out j (by omega), wv_lo16 l j hj, ← pw_word l j (by rw [HL.out]; omega), HL.out]
      have HW := Lib.hid hw0
      clear hw0 HC
      go_wp2
      simp only [show ((64 : Nat) : Int) = 64 from rfl]
      go_loopw [6] (fun x wr => ∃ (t : Nat) (C : Array Value), 16 ≤ t ∧ t ≤ 64 ∧ x = .int .i64 t ∧ C.size = 64 ∧ (∀ j, j < t → C[j]? = some (.int .u32 (wv l j : Nat))) ∧
          wr.heap[w.heap.size + 1]? = some (.cells Z 68 (0, 0)) ∧ wr.heap[w.heap.size + 1 + 1]? = some (.cells C 68 (0, 0)) ∧ Below w.heap.size w wr) (fun x _ => 64 - (intOf x).toNat)
      case atStart => exact ⟨16, C, Nat.le_refl _, by omega, rfl, HCS.out, HW.out, h1, h2, hb⟩
      case round =>
        clear hb h1 h2
        obtain ⟨t, D, ht16, ht, rfl, hD, hds, h1, h2, hb⟩ := hrel
        have HD := Lib.hid hds
        have HDS := Lib.hid hD
        clear hds
        by_cases hlt : t < 64
        · have hn := wv_hi16 l t ht16
          have k2 := HD.out (t - 2) (by omega)
          have k7 := HD.out (t - 7) (by omega)
          have k15 := HD.out (t - 15) (by omega)
          have k16 := HD.out (t - 16) (by omega)
          have b2 := wv_lo l (t - 2)
          have b7 := wv_lo l (t - 7)
          have b15 := wv_lo l (t - 15)
          have b16 := wv_lo l (t - 16)
          obtain ⟨p2, hp2⟩ : ∃ p, p = t - 2 := ⟨_, rfl⟩
          obtain ⟨p7, hp7⟩ : ∃ p, p = t - 7 := ⟨_, rfl⟩
          obtain ⟨p15, hp15⟩ : ∃ p, p = t - 15 := ⟨_, rfl⟩
          obtain ⟨p16, hp16⟩ : ∃ p, p = t - 16 := ⟨_, rfl⟩
          rw [← hp2] at hn k2 b2
          rw [← hp7] at hn k7 b7
          rw [← hp15] at hn k15 b15
          rw [← hp16] at hn k16 b16
          obtain ⟨v2, hv2⟩ : ∃ v, v = wv l p2 := ⟨_, rfl⟩
          obtain ⟨v7, hv7⟩ : ∃ v, v = wv l p7 := ⟨_, rfl⟩
          obtain ⟨v15, hv15⟩ : ∃ v, v = wv l p15 := ⟨_, rfl⟩
          obtain ⟨v16, hv16⟩ : ∃ v, v = wv l p16 := ⟨_, rfl⟩
          rw [← hv2] at hn k2 b2
          rw [← hv7] at hn k7 b7
          rw [← hv15] at hn k15 b15
          rw [← hv16] at hn k16 b16
          have L1 := low1_any v2 b2
          have L0 := low0_any v15 b15
          have g1 := low1_lo b2
          have g0 := low0_lo b15
          obtain ⟨x1, hx1⟩ : ∃ v, v = low1 v2 := ⟨_, rfl⟩
          obtain ⟨x0, hx0⟩ : ∃ v, v = low0 v15 := ⟨_, rfl⟩
          rw [← hx1] at hn L1 g1
          rw [← hx0] at hn L0 g0
          have HN := Lib.hid hn
          have q2 : (t : Int) - 2 = (p2 : Int) := by omega
          have q7 : (t : Int) - 7 = (p7 : Int) := by omega
          have q15 : (t : Int) - 15 = (p15 : Int) := by omega
          have q16 : (t : Int) - 16 = (p16 : Int) := by omega
          have i2 : (p2 : Int) < 64 := by omega
          have n2 : (0 : Int) ≤ (p2 : Int) := by omega
          have i7 : (p7 : Int) < 64 := by omega
          have n7 : (0 : Int) ≤ (p7 : Int) := by omega
          have i15 : (p15 : Int) < 64 := by omega
          have n15 : (0 : Int) ≤ (p15 : Int) := by omega
          have i16 : (p16 : Int) < 64 := by omega
          have n16 : (0 : Int) ≤ (p16 : Int) := by omega
          have w2 : IntKind.i64.wrap ((t : Int) - 2) = (p2 : Int) := by rw [q2]; exact IntWalk.i64_in _ (by omega)
          have w7 : IntKind.i64.wrap ((t : Int) - 7) = (p7 : Int) := by rw [q7]; exact IntWalk.i64_in _ (by omega)
          have w15 : IntKind.i64.wrap ((t : Int) - 15) = (p15 : Int) := by rw [q15]; exact IntWalk.i64_in _ (by omega)
          have w16 : IntKind.i64.wrap ((t : Int) - 16) = (p16 : Int) := by rw [q16]; exact IntWalk.i64_in _ (by omega)
          have m2 : wr.drew.cell? ⟨w.heap.size + 1 + 1, p2, none⟩ = some (.int .u32 (v2 : Nat)) := (cell_of_row wr.drew _ _ D _ _ h2).trans k2
          have m7 : wr.drew.cell? ⟨w.heap.size + 1 + 1, p7, none⟩ = some (.int .u32 (v7 : Nat)) := (cell_of_row wr.drew _ _ D _ _ h2).trans k7
          have m15 : wr.drew.cell? ⟨w.heap.size + 1 + 1, p15, none⟩ = some (.int .u32 (v15 : Nat)) := (cell_of_row wr.drew _ _ D _ _ h2).trans k15
          have m16 : wr.drew.cell? ⟨w.heap.size + 1 + 1, p16, none⟩ = some (.int .u32 (v16 : Nat)) := (cell_of_row wr.drew _ _ D _ _ h2).trans k16
          obtain ⟨vo, ho⟩ : ∃ vo, D[t]? = some vo := ⟨_, Array.getElem?_eq_getElem (by omega)⟩
          have mo : wr.drew.cell? ⟨w.heap.size + 1 + 1, t, none⟩ = some vo := (cell_of_row wr.drew _ _ D _ _ h2).trans ho
          have f2 : wr.drew.frozen? ⟨w.heap.size + 1 + 1, t, none⟩ = false := frozen_of_row wr.drew _ _ _ _ h2
          clear hn hp2 hp7 hp15 hp16 hv2 hv7 hv15 hv16 hx1 hx0 k2 k7 k15 k16 hD ho q2 q7 q15 q16
          go_wp2
          refine wp_region_still_tail 23 (by kernel_rfl) (by kernel_rfl) ?_
          simp only [List.take_succ_cons, List.take_zero, List.drop_succ_cons, List.drop_zero]
          change wpStill _ _ wr.drew (fun a' => wpList _ _ _ _ a' wr.drew) _ _
          obtain ⟨W2, hW2⟩ : ∃ W2, W2 = wr.drew := ⟨_, rfl⟩
          rw [← hW2] at m2 m7 m15 m16 mo f2
          rw [← hW2]
          have HW2 := Lib.hid hW2
          clear hW2
          repeat still_step
          still_call ((L1 W2).mono fun _ _ h => ⟨h.1, h.2.symm⟩)
          repeat still_step
          still_call ((L0 W2).mono fun _ _ h => ⟨h.1, h.2.symm⟩)
          repeat still_step
          refine wpStill_nil ?_
          have hsum : IntKind.u32.wrap (IntKind.u32.wrap (IntKind.u32.wrap ((x1 : Int) + v7) + x0) + v16) = ((wv l t : Nat) : Int) := by
            rw [HN.out, IntKind.wrap_u32', IntKind.wrap_u32', IntKind.wrap_u32']
            omega
          obtain ⟨y, hy⟩ : ∃ y : Int, y = IntKind.u32.wrap (IntKind.u32.wrap (IntKind.u32.wrap ((x1 : Int) + v7) + x0) + v16) := ⟨_, rfl⟩
          rw [← hy] at hsum ⊢
          have HY := Lib.hid hsum
          clear hsum hy
          go_wp2
          go_roundw
          case rel =>
            have hw2 := HW2.out
            subst hw2
            refine ⟨t + 1, D.setIfInBounds t (.int .u32 y), by omega, by omega, by go_num, by simpa using HDS.out, ?_, ?_, ?_, ?_⟩
            · intro j hj
              have hD' := HDS.out
              rw [Array.getElem?_setIfInBounds]
              by_cases e : t = j
              · subst e
                rw [if_pos rfl, if_pos (by omega), HY.out]
              · rw [if_neg e]; exact HD.out j (by omega)
            · rw [heap_setCell_other _ _ _ _ (by show ¬ w.heap.size + 1 = w.heap.size + 1 + 1; omega)]; exact h1
            · exact heap_setCell_same wr.drew _ _ _ _ _ h2
            · exact hb.drew.setCell (by show w.heap.size ≤ w.heap.size + 1 + 1; omega) _
          case measure => simp [intOf]; omega
        · obtain rfl : t = 64 := by omega
          have hfin : D = nuA (wordsTo l 64) := nuA_of _ _ (by rw [wordsTo_len]; exact HDS.out) (fun j hj => by
            rw [wordsTo_len] at hj
            rw [wordsTo_get l 64 j hj]
            exact HD.out j hj)
          subst hfin
          clear HD hD
          have hs64 := HDS.out
          have hW : (Tryd.prog.info? 68).map (·.size) = some (nuA (wordsTo l 64)).size := by rw [hs64]; exact infoW64
          have HWI := Lib.hid hW
          clear hW hs64
          go_wp2_with (first
            | (with_reducible refine wpList_load_row rfl _ _ rfl (w.heap.size + 1 + 1) rfl 68 (nuA (wordsTo l 64)) (0, 0) _ h2 Tryd.underlying68 rfl HWI.out ?_)
            | (with_reducible refine wpList_store_row rfl _ _ _ rfl (w.heap.size + 1) (nuA (wordsTo l 64)) rfl rfl 68 Z h1 HWI.out (by rw [HZS.out, HDS.out]) (nuA_one _) ?_))
          refine bodyPost_ret (results_cell_row Tryd.results33 _ _ (w.heap.size + 1) 68 (nuA (wordsTo l 64)) (0, 0) _ rfl (setRow_heap _ _ _ _ _ _ h1) Tryd.underlying68 rfl HWI.out) rfl ⟨rfl, ?_⟩
          exact below_setRow hb (by omega) _

end Go.Proofs.YtepcnedagmfpeaaDoor
