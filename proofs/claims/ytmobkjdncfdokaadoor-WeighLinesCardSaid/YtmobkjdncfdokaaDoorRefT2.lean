/- The walks of the document's Text and size. -/
import Derived.Test.YtmobkjdncfdokaaDoorRefT
namespace Go.Proofs.YtmobkjdncfdokaaDoor
open Go.RowKit

/-- A number by its sign and its size. -/
theorem int_cases (a : Int) : (∃ n : Nat, 0 < n ∧ a = -(n : Int)) ∨ ∃ n : Nat, a = (n : Int) := by
  by_cases h : a < 0
  · exact Or.inl ⟨a.natAbs, by omega, by omega⟩
  · exact Or.inr ⟨a.natAbs, by omega⟩

theorem itoa_neg (n : Nat) (h : 0 < n) : Lib.itoa (-(n : Int)) = 45 :: Lib.decDigits n := by
  unfold Lib.itoa
  rw [if_pos (by omega)]
  congr 2; omega

theorem itoa_pos (n : Nat) : Lib.itoa (n : Int) = Lib.decDigits n := by
  unfold Lib.itoa
  rw [if_neg (by omega)]
  rfl

theorem sec_neg (n : Nat) (h : 0 < n) : secB (-(n : Int)) = 45 :: Lib.decDigits n := by
  unfold secB
  rw [if_pos (by omega)]
  congr 2; omega

theorem sec_pos (n : Nat) : secB (n : Int) = 43 :: Lib.decDigits n := by
  unfold secB
  rw [if_neg (by omega)]
  rfl

/-- What is made of the first part. -/
theorem minus_str (l : List UInt8) : (⟨#[45]⟩ : ByteArray) ++ str l = str (45 :: l) := by
  apply ByteArray.ext
  simp [str, ByteArray.data_append]

theorem tail_str (A D : List UInt8) (c : UInt8) : str A ++ (⟨#[c]⟩ : ByteArray) ++ str D ++ (⟨#[105]⟩ : ByteArray) = str (A ++ (c :: D ++ [105])) := by
  apply ByteArray.ext
  simp [str, ByteArray.data_append]

set_option maxRecDepth 100000 in
set_option maxHeartbeats 2000000 in
theorem rtext_any (a b : Int) (hv : Valid a b) (w : World) :
    Calls Tryd.prog 11 #[wW a b] w fun e w' => e = .returned (.string (str (textW a b))) ∧ Below w.heap.size w w' := by
  obtain ⟨ha, hb⟩ := hv
  unfold wW
  have fst : ∃ (n : Nat), n ≤ 9007199254740992 ∧ (a = -(n : Int) ∧ 0 < n ∨ a = (n : Int)) := by
    rcases int_cases a with ⟨n, h1, h2⟩ | ⟨n, h2⟩
    · exact ⟨n, by omega, Or.inl ⟨h2, h1⟩⟩
    · exact ⟨n, by omega, Or.inr h2⟩
  have snd : ∃ (n : Nat), n ≤ 9007199254740992 ∧ (b = -(n : Int) ∧ 0 < n ∨ b = (n : Int)) := by
    rcases int_cases b with ⟨n, h1, h2⟩ | ⟨n, h2⟩
    · exact ⟨n, by omega, Or.inl ⟨h2, h1⟩⟩
    · exact ⟨n, by omega, Or.inr h2⟩
  clear ha hb
  obtain ⟨n, hn, fst⟩ := fst
  obtain ⟨m, hm, snd⟩ := snd
  have N1 := number_any n hn
  have N2 := number_any m hm
  have ln := dec16 n hn
  have lm := dec16 m hm
  have zn := str_size (Lib.decDigits n)
  have zm := str_size (Lib.decDigits m)
  have zc := str_size (45 :: Lib.decDigits n)
  have hni : (n : Int) ≤ 9007199254740992 := by omega
  have hmi : (m : Int) ≤ 9007199254740992 := by omega
  have T1 := tail_str (45 :: Lib.decDigits n) (Lib.decDigits m)
  have T2 := tail_str (Lib.decDigits n) (Lib.decDigits m)
  have MS := minus_str (Lib.decDigits n)
  have i1 := itoa_neg n
  have i2 := itoa_pos n
  have s1 := sec_neg m
  have s2 := sec_pos m
  rw [List.length_cons] at zc
  obtain ⟨X, hX⟩ : ∃ X, X = str (Lib.decDigits n) := ⟨_, rfl⟩
  obtain ⟨Y, hY⟩ : ∃ Y, Y = str (Lib.decDigits m) := ⟨_, rfl⟩
  obtain ⟨Z, hZ⟩ : ∃ Z, Z = str (45 :: Lib.decDigits n) := ⟨_, rfl⟩
  rw [← hX] at N1 zn T2 MS
  rw [← hY] at N2 zm T1 T2
  rw [← hZ] at zc T1 MS
  obtain ⟨D, hD⟩ : ∃ D, D = Lib.decDigits n := ⟨_, rfl⟩
  obtain ⟨E, hE⟩ : ∃ E, E = Lib.decDigits m := ⟨_, rfl⟩
  rw [← hD] at zn zc ln i1 i2 T1 T2
  rw [← hE] at zm lm s1 s2 T1 T2
  have zn' : (X.size : Int) ≤ 16 := by omega
  have zm' : (Y.size : Int) ≤ 16 := by omega
  have zc' : (Z.size : Int) ≤ 17 := by omega
  have H1 := Lib.hid T1
  have H2 := Lib.hid T2
  have HI1 := Lib.hid i1
  have HI2 := Lib.hid i2
  have HS1 := Lib.hid s1
  have HS2 := Lib.hid s2
  unfold textW
  clear T1 T2 i1 i2 s1 s2 hX hY hZ hD hE zn zm zc ln lm hn hm
  have K0 : Below w.heap.size w (w.alloc (.cells #[.int .i64 a, .int .i64 b] 27)) := (Below.refl _ _).alloc (Nat.le_refl _) _
  have R0 : (w.alloc (.cells #[.int .i64 a, .int .i64 b] 27)).heap[w.heap.size]? = some (.cells #[.int .i64 a, .int .i64 b] 27 (0, 0)) := heap_alloc_last w _
  rcases fst with ⟨rfl, pn⟩ | rfl
  · rcases snd with ⟨rfl, pm⟩ | rfl
    · have gn : -(n : Int) < 0 := by omega
      have gm : -(m : Int) < 0 := by omega
      obtain ⟨W0, hW0⟩ : ∃ W0, W0 = (w.alloc (.cells #[.int .i64 (-(n : Int)), .int .i64 (-(m : Int))] 27)) := ⟨_, rfl⟩
      have R1 : W0.heap[w.heap.size]? = some (.cells #[.int .i64 (-(n : Int)), .int .i64 (-(m : Int))] 27 (0, 0)) := by rw [hW0]; exact R0
      have K1 : Below w.heap.size w W0 := by rw [hW0]; exact K0
      rw [HI1.out pn, HS1.out pm]
      have HF : Hid (Z ++ (⟨#[45]⟩ : ByteArray) ++ Y ++ (⟨#[105]⟩ : ByteArray) = str (45 :: D ++ (45 :: E ++ [105]))) := H1.out 45
      clear R0 K0
      go_enter Tryd.func11, Tryd.ntmps11
      go_wp2_with fail
      rw [← hW0]
      refine (N1 _).mono ?_
      rintro e w1 ⟨rfl, hb1⟩
      have K2 := Below.then' K1 hb1 K1.size
      have R2 := (hb1.block _ (Array.getElem?_eq_some_iff.1 R1).1).trans R1
      have c1 : w1.cell? ⟨w.heap.size, 1, none⟩ = some (.int .i64 (-(m : Int))) := (cell_of_row _ _ 1 _ _ _ R2).trans rfl
      clear K1 hb1 R1 R2 hW0
      go_wp2_with fail
      refine (N2 _).mono ?_
      rintro e w2 ⟨rfl, hb2⟩
      have K3 := Below.then' K2 hb2 K2.size
      clear K2 hb2 c1
      go_wp2
      go_ret
      refine ⟨?_, K3⟩
      show Ending.returned (Value.string (Z ++ (⟨#[45]⟩ : ByteArray) ++ Y ++ (⟨#[105]⟩ : ByteArray))) = _
      rw [HF.out]
      first | rfl | simp
    · have gn : -(n : Int) < 0 := by omega
      have gm : ¬ ((m : Int) < 0) := by omega
      obtain ⟨W0, hW0⟩ : ∃ W0, W0 = (w.alloc (.cells #[.int .i64 (-(n : Int)), .int .i64 (m : Int)] 27)) := ⟨_, rfl⟩
      have R1 : W0.heap[w.heap.size]? = some (.cells #[.int .i64 (-(n : Int)), .int .i64 (m : Int)] 27 (0, 0)) := by rw [hW0]; exact R0
      have K1 : Below w.heap.size w W0 := by rw [hW0]; exact K0
      rw [HI1.out pn, HS2.out]
      have HF : Hid (Z ++ (⟨#[43]⟩ : ByteArray) ++ Y ++ (⟨#[105]⟩ : ByteArray) = str (45 :: D ++ (43 :: E ++ [105]))) := H1.out 43
      clear R0 K0
      go_enter Tryd.func11, Tryd.ntmps11
      go_wp2_with fail
      rw [← hW0]
      refine (N1 _).mono ?_
      rintro e w1 ⟨rfl, hb1⟩
      have K2 := Below.then' K1 hb1 K1.size
      have R2 := (hb1.block _ (Array.getElem?_eq_some_iff.1 R1).1).trans R1
      have c1 : w1.cell? ⟨w.heap.size, 1, none⟩ = some (.int .i64 (m : Int)) := (cell_of_row _ _ 1 _ _ _ R2).trans rfl
      clear K1 hb1 R1 R2 hW0
      go_wp2_with fail
      refine (N2 _).mono ?_
      rintro e w2 ⟨rfl, hb2⟩
      have K3 := Below.then' K2 hb2 K2.size
      clear K2 hb2 c1
      go_wp2
      go_ret
      refine ⟨?_, K3⟩
      show Ending.returned (Value.string (Z ++ (⟨#[43]⟩ : ByteArray) ++ Y ++ (⟨#[105]⟩ : ByteArray))) = _
      rw [HF.out]
      first | rfl | simp
  · rcases snd with ⟨rfl, pm⟩ | rfl
    · have gn : ¬ ((n : Int) < 0) := by omega
      have gm : -(m : Int) < 0 := by omega
      obtain ⟨W0, hW0⟩ : ∃ W0, W0 = (w.alloc (.cells #[.int .i64 (n : Int), .int .i64 (-(m : Int))] 27)) := ⟨_, rfl⟩
      have R1 : W0.heap[w.heap.size]? = some (.cells #[.int .i64 (n : Int), .int .i64 (-(m : Int))] 27 (0, 0)) := by rw [hW0]; exact R0
      have K1 : Below w.heap.size w W0 := by rw [hW0]; exact K0
      rw [HI2.out, HS1.out pm]
      have HF : Hid (X ++ (⟨#[45]⟩ : ByteArray) ++ Y ++ (⟨#[105]⟩ : ByteArray) = str (D ++ (45 :: E ++ [105]))) := H2.out 45
      clear R0 K0
      go_enter Tryd.func11, Tryd.ntmps11
      go_wp2_with fail
      rw [← hW0]
      refine (N1 _).mono ?_
      rintro e w1 ⟨rfl, hb1⟩
      have K2 := Below.then' K1 hb1 K1.size
      have R2 := (hb1.block _ (Array.getElem?_eq_some_iff.1 R1).1).trans R1
      have c1 : w1.cell? ⟨w.heap.size, 1, none⟩ = some (.int .i64 (-(m : Int))) := (cell_of_row _ _ 1 _ _ _ R2).trans rfl
      clear K1 hb1 R1 R2 hW0
      go_wp2_with fail
      refine (N2 _).mono ?_
      rintro e w2 ⟨rfl, hb2⟩
      have K3 := Below.then' K2 hb2 K2.size
      clear K2 hb2 c1
      go_wp2
      go_ret
      refine ⟨?_, K3⟩
      show Ending.returned (Value.string (X ++ (⟨#[45]⟩ : ByteArray) ++ Y ++ (⟨#[105]⟩ : ByteArray))) = _
      rw [HF.out]
      first | rfl | simp
    · have gn : ¬ ((n : Int) < 0) := by omega
      have gm : ¬ ((m : Int) < 0) := by omega
      obtain ⟨W0, hW0⟩ : ∃ W0, W0 = (w.alloc (.cells #[.int .i64 (n : Int), .int .i64 (m : Int)] 27)) := ⟨_, rfl⟩
      have R1 : W0.heap[w.heap.size]? = some (.cells #[.int .i64 (n : Int), .int .i64 (m : Int)] 27 (0, 0)) := by rw [hW0]; exact R0
      have K1 : Below w.heap.size w W0 := by rw [hW0]; exact K0
      rw [HI2.out, HS2.out]
      have HF : Hid (X ++ (⟨#[43]⟩ : ByteArray) ++ Y ++ (⟨#[105]⟩ : ByteArray) = str (D ++ (43 :: E ++ [105]))) := H2.out 43
      clear R0 K0
      go_enter Tryd.func11, Tryd.ntmps11
      go_wp2_with fail
      rw [← hW0]
      refine (N1 _).mono ?_
      rintro e w1 ⟨rfl, hb1⟩
      have K2 := Below.then' K1 hb1 K1.size
      have R2 := (hb1.block _ (Array.getElem?_eq_some_iff.1 R1).1).trans R1
      have c1 : w1.cell? ⟨w.heap.size, 1, none⟩ = some (.int .i64 (m : Int)) := (cell_of_row _ _ 1 _ _ _ R2).trans rfl
      clear K1 hb1 R1 R2 hW0
      go_wp2_with fail
      refine (N2 _).mono ?_
      rintro e w2 ⟨rfl, hb2⟩
      have K3 := Below.then' K2 hb2 K2.size
      clear K2 hb2 c1
      go_wp2
      go_ret
      refine ⟨?_, K3⟩
      show Ending.returned (Value.string (X ++ (⟨#[43]⟩ : ByteArray) ++ Y ++ (⟨#[105]⟩ : ByteArray))) = _
      rw [HF.out]
      first | rfl | simp

end Go.Proofs.YtmobkjdncfdokaaDoor
