/- How far texts are apart: the document's walk, and the program's. -/
import Derived.Test.YtonhoahklmafgaaDoorTurnC
import Derived.Deep.QuietTactic
import Derived.BigQuiet
namespace Go.Proofs.YtonhoahklmafgaaDoor
open Go.RowKit

/-- How far two rows of bits are apart. -/
def ApartN (X Y : List Bool) (n : Int) : Prop :=
  (X = Y ∧ n = 0) ∨ ∃ f l : Nat, f ≤ l ∧ l < X.length ∧ X.getD f false ≠ Y.getD f false ∧ X.getD l false ≠ Y.getD l false ∧
    (∀ j, j < f → X.getD j false = Y.getD j false) ∧ (∀ j, l < j → j < X.length → X.getD j false = Y.getD j false) ∧ n = (l : Int) - f + 1

theorem apart_one {X Y : List Bool} {n m : Int} (h : ApartN X Y n) (k : ApartN X Y m) : n = m := by
  rcases h with ⟨rfl, rfl⟩ | ⟨f, l, h1, h2, h3, h4, h5, h6, rfl⟩
  · rcases k with ⟨_, rfl⟩ | ⟨f', l', _, _, k3, _, _, _, _⟩
    · rfl
    · exact absurd rfl k3
  · rcases k with ⟨rfl, rfl⟩ | ⟨f', l', k1, k2, k3, k4, k5, k6, rfl⟩
    · exact absurd rfl h3
    · have e1 : f = f' := by
        rcases Nat.lt_trichotomy f f' with h | h | h
        · exact absurd (k5 f h) h3
        · exact h
        · exact absurd (h5 f' h) k3
      have e2 : l = l' := by
        rcases Nat.lt_trichotomy l l' with h | h | h
        · exact absurd (h6 l' h k2) k4
        · exact h
        · exact absurd (k6 l h h2) h4
      rw [e1, e2]

theorem text_ne' {a b : ByteArray} (h : a ≠ b) : (a.toList == b.toList) = false := by
  rw [Lib.toList_data, Lib.toList_data, beq_eq_false_iff_ne]
  exact fun e => h (ByteArray.ext (Array.ext' e))

theorem getD_ext {X Y : List Bool} (h : X.length = Y.length) (e : ∀ j, j < X.length → X.getD j false = Y.getD j false) : X = Y := by
  apply List.ext_getElem h
  intro j h1 h2
  have := e j h1
  simpa [List.getD, h1, h2] using this

/-- What is turned within 32 bits is apart by no more. -/
theorem apart_flips (L : List Bool) (a : Int) (b : Nat) (n : Int) (h : ApartN L (flips L a b 32) n) : n ≤ 32 := by
  rcases h with ⟨_, rfl⟩ | ⟨f, l, h1, h2, h3, h4, _, _, rfl⟩
  · omega
  · have hin : ∀ j, j < L.length → L.getD j false ≠ (flips L a b 32).getD j false → a ≤ (j : Int) ∧ (j : Int) < a + (32 : Nat) := by
      intro j hj hne
      refine Classical.byContradiction fun hn => hne ?_
      have e := flips_get L a b 32 j hj
      have : decide (a ≤ (j : Int) ∧ (j : Int) < a + (32 : Nat)) = false := by simpa using hn
      rw [this, Bool.false_and, Bool.xor_false] at e
      rw [List.getD_eq_getElem?_getD, List.getD_eq_getElem?_getD, List.getElem?_eq_getElem hj, List.getElem?_eq_getElem (by rw [flips_len]; exact hj)]
      simp only [Option.getD_some]
      exact e.symm
    have i1 := hin f (by omega) h3
    have i2 := hin l h2 h4
    omega

def ApartPostL (X Y : List Bool) (w : World) (e : Ending) (w' : World) : Prop :=
  ∃ n : Int, e = .returned (.tuple #[.int .i64 n, .bool true]) ∧ ApartN X Y n ∧ Below w.heap.size w w'
def ApartPost (s t : ByteArray) (w : World) (e : Ending) (w' : World) : Prop := ApartPostL (bitsB s.data.toList) (bitsB t.data.toList) w e w'

/-- Two rows of bits, and all else as it was. -/
def TwoRows (w : World) (X Y : List Bool) (wr : World) : Prop :=
  wr.heap[w.heap.size]? = some (.cells (boolA X) 4 (0, 0)) ∧ wr.heap[w.heap.size + 1]? = some (.cells (boolA Y) 4 (0, 0)) ∧ Below w.heap.size w wr

theorem TwoRows.drew {w wr : World} {X Y : List Bool} (h : TwoRows w X Y wr) : TwoRows w X Y wr.drew := ⟨h.1, h.2.1, h.2.2.drew⟩

theorem TwoRows.drewN {w wr : World} {X Y : List Bool} (h : TwoRows w X Y wr) (n : Nat) : TwoRows w X Y (wr.drewN n) := ⟨h.1, h.2.1, ⟨h.2.2.os, h.2.2.tape, h.2.2.output, h.2.2.size, h.2.2.block⟩⟩

theorem row_cell {wr : World} {X : List Bool} {g : Nat} (h : wr.heap[g]? = some (.cells (boolA X) 4 (0, 0))) (i : Nat) (hi : i < X.length) : wr.cell? ⟨g, i, none⟩ = some (.bool (X.getD i false)) := by
  rw [cell_of_row _ _ i _ _ _ h, boolA_get _ _ hi]
  simp [List.getD, hi]

/-- The state of the document's loop. -/
def Seen (X Y : List Bool) (i : Nat) (f l : Int) : Prop :=
  (f = -1 ∧ l = -2 ∧ ∀ j, j < i → X.getD j false = Y.getD j false) ∨
  ∃ F G : Nat, f = F ∧ l = G ∧ F ≤ G ∧ G < i ∧ X.getD F false ≠ Y.getD F false ∧ X.getD G false ≠ Y.getD G false ∧
    (∀ j, j < F → X.getD j false = Y.getD j false) ∧ (∀ j, G < j → j < i → X.getD j false = Y.getD j false)

theorem seen_same {X Y : List Bool} {i : Nat} {f l : Int} (h : Seen X Y i f l) (e : X.getD i false = Y.getD i false) : Seen X Y (i + 1) f l := by
  rcases h with ⟨h1, h2, h3⟩ | ⟨F, G, h1, h2, h3, h4, h5, h6, h7, h8⟩
  · refine Or.inl ⟨h1, h2, fun j hj => ?_⟩
    by_cases ej : j = i
    · subst ej; exact e
    · exact h3 j (by omega)
  · refine Or.inr ⟨F, G, h1, h2, h3, by omega, h5, h6, h7, fun j hj hj2 => ?_⟩
    by_cases ej : j = i
    · subst ej; exact e
    · exact h8 j hj (by omega)

theorem seen_first {X Y : List Bool} {i : Nat} {f l : Int} (h : Seen X Y i f l) (hf : f < 0) (e : X.getD i false ≠ Y.getD i false) : Seen X Y (i + 1) i i := by
  rcases h with ⟨h1, h2, h3⟩ | ⟨F, G, h1, h2, h3, h4, h5, h6, h7, h8⟩
  · exact Or.inr ⟨i, i, rfl, rfl, Nat.le_refl _, by omega, e, e, h3, fun j hj hj2 => by omega⟩
  · omega

theorem seen_next {X Y : List Bool} {i : Nat} {f l : Int} (h : Seen X Y i f l) (hf : ¬ f < 0) (e : X.getD i false ≠ Y.getD i false) : Seen X Y (i + 1) f i := by
  rcases h with ⟨h1, h2, h3⟩ | ⟨F, G, h1, h2, h3, h4, h5, h6, h7, h8⟩
  · omega
  · exact Or.inr ⟨F, i, h1, rfl, by omega, by omega, h5, e, h7, fun j hj hj2 => by omega⟩

theorem seen_end {X Y : List Bool} {f l : Int} (h : Seen X Y X.length f l) (hl : X.length = Y.length) : ApartN X Y (if f < 0 then 0 else l - f + 1) := by
  rcases h with ⟨h1, h2, h3⟩ | ⟨F, G, h1, h2, h3, h4, h5, h6, h7, h8⟩
  · rw [if_pos (by omega)]
    exact Or.inl ⟨getD_ext hl h3, rfl⟩
  · rw [if_neg (by omega)]
    exact Or.inr ⟨F, G, h3, h4, h5, h6, h7, h8, by rw [h1, h2]⟩

set_option maxHeartbeats 1000000 in
theorem rapart_any (s t : ByteArray) (hs : s.size ≤ 100000) (h : s.size = t.size) (w : World) :
    Calls Tryd.prog 22 #[.string s, .string t] w (ApartPost s t w) := by
  have BS := bits_any s (by omega)
  have BT := bits_any t (by omega)
  have hX := bits_len s.data.toList
  have hY := bits_len t.data.toList
  rw [data_len] at hX hY
  rw [← h] at BT hY
  have hne : ((s.size : Int) == (t.size : Int)) = true := by rw [h]; simp
  have hne2 : ((s.size : Int) != (t.size : Int)) = false := by rw [h]; simp
  have hp : ApartPost s t w = ApartPostL (bitsB s.data.toList) (bitsB t.data.toList) w := rfl
  rw [hp]
  clear hp
  obtain ⟨X, hX'⟩ : ∃ X : List Bool, X = bitsB s.data.toList := ⟨_, rfl⟩
  obtain ⟨Y, hY'⟩ : ∃ Y : List Bool, Y = bitsB t.data.toList := ⟨_, rfl⟩
  rw [← hX'] at BS hX ⊢
  rw [← hY'] at BT hY ⊢
  obtain ⟨n, hn⟩ : ∃ n : Nat, n = s.size := ⟨_, rfl⟩
  have hnt : t.size = n := by rw [hn, h]
  have hns : s.size = n := hn.symm
  rw [hns] at hs hX hY BS BT
  have HX := Lib.hid hX
  have HY := Lib.hid hY
  have hne : ((s.size : Int) == (t.size : Int)) = true := by rw [h]; simp
  clear hX hY hX' hY' hn h hne
  go_enter Tryd.func22, Tryd.ntmps22
  go_wp2_with fail
  refine (BS _).mono ?_
  rintro e w' ⟨rfl, rfl⟩
  go_wp2_with fail
  refine (BT _).mono ?_
  rintro e w' ⟨rfl, rfl⟩
  have R0 : TwoRows w X Y ((w.alloc (.cells (boolA X) 4)).alloc (.cells (boolA Y) 4)) :=
    ⟨heap_alloc2_old w _ _, heap_alloc2_new w _ _, ((Below.refl _ _).alloc (Nat.le_refl _) _).alloc (by simp) _⟩
  clear BS BT
  go_wp2
  go_loopw [8, 9, 10] (fun x y z wr => ∃ (i : Nat) (f l : Int), i ≤ 8 * n ∧ z = .int .i64 i ∧ x = .int .i64 f ∧ y = .int .i64 l ∧ -1 ≤ f ∧ f ≤ 800000 ∧ -2 ≤ l ∧ l ≤ 800000 ∧ Seen X Y i f l ∧ TwoRows w X Y wr) (fun _ _ z _ => 8 * n - (intOf z).toNat)
  case atStart => exact ⟨0, -1, -2, Nat.zero_le _, rfl, rfl, rfl, by omega, by omega, by omega, by omega, Or.inl ⟨rfl, rfl, fun j hj => by omega⟩, R0⟩
  case round =>
    clear R0
    obtain ⟨i, f, l, hi, rfl, rfl, rfl, hf1, hf2, hl1, hl2, hse, hro⟩ := hrel
    have HS := Lib.hid hse
    have HR := Lib.hid hro
    clear hse hro
    by_cases hlt : i < 8 * n
    · have c1 := row_cell HR.out.1 i (by rw [HX.out]; exact hlt)
      have c2 := row_cell HR.out.2.1 i (by rw [HY.out]; exact hlt)
      have i1 : (i : Int) < 8 * n := by omega
      have b1 : decide ((i : Int) < 8 * n) = true := by simpa using i1
      obtain ⟨x, hx⟩ : ∃ x, x = X.getD i false := ⟨_, rfl⟩
      obtain ⟨y, hy⟩ : ∃ y, y = Y.getD i false := ⟨_, rfl⟩
      rw [← hx] at c1
      rw [← hy] at c2
      by_cases hxy : x = y
      · have hsn := seen_same HS.out (by rw [← hx, ← hy]; exact hxy)
        have HSN := Lib.hid hsn
        subst hxy
        clear hx hy hsn
        go_wp2
        go_quiet (fail)
        go_wp2
        go_roundw
        case rel => exact ⟨i + 1, f, l, by omega, by go_num, rfl, rfl, hf1, hf2, hl1, hl2, HSN.out, HR.out.drewN nq⟩
        case measure => simp [intOf]; omega
      · have hxy2 : X.getD i false ≠ Y.getD i false := by rw [← hx, ← hy]; exact hxy
        have b2 : (x == y) = false := by simpa using hxy
        by_cases hf : f < 0
        · have hsn := seen_first HS.out hf hxy2
          have HSN := Lib.hid hsn
          have b3 : decide (f < 0) = true := by simpa using hf
          clear hx hy hsn hxy hxy2
          go_wp2
          go_quiet (fail)
          go_wp2
          go_roundw
          case rel => exact ⟨i + 1, i, i, by omega, by go_num, rfl, rfl, by omega, by omega, by omega, by omega, HSN.out, HR.out.drewN nq⟩
          case measure => simp [intOf]; omega
        · have hsn := seen_next HS.out hf hxy2
          have HSN := Lib.hid hsn
          have b3 : decide (f < 0) = false := by simpa using hf
          clear hx hy hsn hxy hxy2
          go_wp2
          go_quiet (fail)
          go_wp2
          go_roundw
          case rel => exact ⟨i + 1, f, i, by omega, by go_num, rfl, rfl, hf1, hf2, by omega, by omega, HSN.out, HR.out.drewN nq⟩
          case measure => simp [intOf]; omega
    · obtain rfl : i = 8 * n := by omega
      have hse := HS.out
      rw [← HX.out] at hse
      have he := seen_end hse (by rw [HX.out, HY.out])
      have HE := Lib.hid he
      clear hse he
      by_cases hf : f < 0
      · have b3 : decide (f < 0) = true := by simpa using hf
        go_wp2
        go_ret2
        exact ⟨0, rfl, by have := HE.out; rwa [if_pos hf] at this, HR.out.2.2⟩
      · have b3 : decide (f < 0) = false := by simpa using hf
        go_wp2
        go_ret2
        exact ⟨l - f + 1, rfl, by have := HE.out; rwa [if_neg (by omega)] at this, HR.out.2.2⟩

end Go.Proofs.YtonhoahklmafgaaDoor
