/- The walk of WeighLines. -/
import Derived.Test.YtmobkjdncfdokaaDoorRParse2
import Derived.Test.YtmobkjdncfdokaaDoorZArg
namespace Go.Proofs.YtmobkjdncfdokaaDoor
open Go.RowKit

theorem hit_inj {l : List UInt8} {i j : Nat} (h1 : Hit l i) (h2 : Hit l j) : i = j := by
  have key : ∀ {i j}, Hit l i → Hit l j → ¬ i < j := fun {i j} h1 h2 h => by
    have := (h1.2.2 j h h2.1).2
    rw [h2.2.1] at this
    cases this
  have a := key h1 h2
  have b := key h2 h1
  omega

/-- A text is the text of one weight. -/
theorem text_inj {a b a' b' : Int} (hv : Valid a b) (hv' : Valid a' b') (h : str (textW a b) = str (textW a' b')) : a = a' ∧ b = b' := by
  have hl : textW a b = textW a' b' := by
    have := congrArg (fun s : ByteArray => s.data.toList) h
    simpa [str_list] using this
  have ht := trim_text a b
  rw [hl, trim_text] at ht
  have h1 := hit_text a b
  rw [← ht] at h1
  have hk := hit_inj (hit_text a' b') h1
  have f1 := found hv rfl rfl _ _ rfl rfl
  have f2 := found hv' hl hk.symm _ _ rfl rfl
  exact ⟨f1.2.2.1.symm.trans f2.2.2.1, f1.2.2.2.symm.trans f2.2.2.2⟩

/-- What the two Parses say of a text. -/
theorem both_parse (s : ByteArray) (hs : s.size ≤ 60) : ∃ (A B c : Int), Valid A B ∧
    (∀ w, TabAt w → Calls Tryd.prog 6 #[.string s] w fun e w' => e = .returned (.tuple #[.complex .f64 (flt A) (flt B), .int .i64 c]) ∧ Below w.heap.size w w') ∧
    (∀ w, Calls Tryd.prog 7 #[.string s] w fun e w' => e = .returned (.tuple #[wW A B, .int .i64 c]) ∧ Below w.heap.size w w') := by
  by_cases h : ∃ a b, Valid a b ∧ s = str (textW a b)
  · obtain ⟨a, b, hv, rfl⟩ := h
    refine ⟨a, b, 0, hv, fun w hT => parse_yes a b hv w hT, fun w => (rparse_any _ hs w).mono ?_⟩
    rintro e w' ⟨⟨a', b', hv', he, rfl⟩ | ⟨hno, rfl⟩, hb⟩
    · obtain ⟨rfl, rfl⟩ := text_inj hv hv' he
      exact ⟨rfl, hb⟩
    · exact absurd rfl (hno a b hv)
  · have hno : NoText s := fun a b hv he => h ⟨a, b, hv, he⟩
    refine ⟨0, 0, 7, ⟨by decide, by decide⟩, fun w hT => parse_no s hs hno w hT, fun w => (rparse_any _ hs w).mono ?_⟩
    rintro e w' ⟨⟨a', b', hv', he, rfl⟩ | ⟨_, rfl⟩, hb⟩
    · exact absurd he (hno a' b' hv')
    · exact ⟨rfl, hb⟩

theorem row_later {w w' : World} {g : Nat} {o : Obj} (h : w.heap[g]? = some o) (hb : Below w.heap.size w w') : w'.heap[g]? = some o :=
  (hb.block _ (Array.getElem?_eq_some_iff.1 h).1).trans h

/-- A text of which not more than 60 bytes are looked at. -/
def cut60 (s : ByteArray) : ByteArray := if 60 < s.size then s.extract 0 60 else s

theorem cut60_size (s : ByteArray) : (cut60 s).size ≤ 60 := by
  unfold cut60
  split
  · rw [ByteArray.size_extract]; omega
  · omega

/-! Where the first number is a weight; where it is none. -/
set_option maxRecDepth 100000 in
set_option maxHeartbeats 8000000 in
theorem lines_yes (px py : Nat) (z : Int × Int) (hz : NumZ px py z) (s0 : ByteArray) (hs0 : s0.size ≤ maxLen) (w : World) (hT : TabAt w) :
    Calls Tryd.prog 3 #[.agg #[.float .f64 px, .float .f64 py], .string s0] w (LawPost w) := by
  unfold maxLen at hs0
  obtain ⟨A, B, c, hv, PS, RP⟩ := both_parse (cut60 s0) (cut60_size s0)
  have N1 := num_any A B
  have PL := isPlain_any A B (by have := hv.1; omega) (by have := hv.2; omega)
  have o1 := order_self A (by have := hv.1; omega)
  have o2 := order_self B (by have := hv.2; omega)
  have PW := parts_yes hz.1 hz.2
  have TX := text_yes hz.1 hz.2
  have hvz : Valid z.1 z.2 := ⟨hz.1.2.2, hz.2.2.2⟩
  have PT := parse_yes z.1 z.2 hvz
  have RTX := rtext_any z.1 z.2 hvz
  have N2 := num_any z.1 z.2
  have o3 := order_self z.1 (by have := hvz.1; omega)
  have o4 := order_self z.2 (by have := hvz.2; omega)
  obtain ⟨a, b⟩ := z
  simp only at PW TX PT RTX N2 o3 o4
  obtain ⟨R, hR⟩ : ∃ R, R = str (textW a b) := ⟨_, rfl⟩
  rw [← hR] at TX PT RTX
  clear hR hvz hz hv
  generalize flt a = x at *
  generalize flt b = y at *
  generalize flt A = X at *
  generalize flt B = Y at *
  unfold wW at *
  by_cases hc : 60 < s0.size
  · have hci : (60 : Int) < s0.size := by omega
    have ec : cut60 s0 = s0.extract 0 60 := by unfold cut60; rw [if_pos hc]
    obtain ⟨S, hS⟩ : ∃ S, s0.extract 0 60 = S := ⟨_, rfl⟩
    rw [ec, hS] at PS RP
    clear ec hc
    go_enter Tryd.func3, Tryd.ntmps3
    go_wp2_with fail
    obtain ⟨W2, hW2⟩ : ∃ W2, W2 = w.alloc (.cells #[.float .f64 px, .float .f64 py] 24) := ⟨_, rfl⟩
    have K2 : Below w.heap.size w W2 := by
      rw [hW2]
      exact (Below.refl _ _).alloc (Nat.le_refl _) _
    rw [← hW2]
    clear hW2
    refine (PW _).mono ?_
    rintro e w5 ⟨rfl, hb5⟩
    have K5 := Below.then' K2 hb5 K2.size
    clear K2 hb5 PW
    obtain ⟨X9, hX9⟩ : ∃ X9, X9 = w5.alloc (.cells #[.int .i64 a, .int .i64 b] 27) := ⟨_, rfl⟩
    have KX : Below w.heap.size w X9 := by rw [hX9]; exact K5.alloc K5.size _
    have R9 : X9.heap[w5.heap.size]? = some (.cells #[.int .i64 a, .int .i64 b] 27 (0, 0)) := by rw [hX9]; exact heap_alloc_last w5 _
    have HX9 := Lib.hid hX9
    clear hX9 K5
    go_wp2_with fail
    rw [← HX9.out]
    refine (TX _ (hT.later KX)).mono ?_
    rintro e w6 ⟨rfl, hb6⟩
    have K6 := Below.then' KX hb6 KX.size
    have R6 := row_later R9 hb6
    clear KX hb6 TX R9
    go_wp2_with fail
    refine (PS _ (hT.later K6)).mono ?_
    rintro e w7 ⟨rfl, hb7⟩
    have K7 := Below.then' K6 hb7 K6.size
    have R7 := row_later R6 hb7
    clear K6 hb7 PS R6
    go_wp2_with fail
    refine (RP _).mono ?_
    rintro e w8 ⟨rfl, hb8⟩
    have K8 := Below.then' K7 hb8 K7.size
    have R8 := row_later R7 hb8
    clear K7 hb8 RP R7
    obtain ⟨Y9, hY9⟩ : ∃ Y9, Y9 = w8.alloc (.cells #[.int .i64 A, .int .i64 B] 27) := ⟨_, rfl⟩
    have KY : Below w.heap.size w Y9 := by rw [hY9]; exact K8.alloc K8.size _
    have R10 : Y9.heap[w5.heap.size]? = some (.cells #[.int .i64 a, .int .i64 b] 27 (0, 0)) := by rw [hY9]; exact (Below.heap_alloc _ _ _ (Array.getElem?_eq_some_iff.1 R8).1).trans R8
    have HY9 := Lib.hid hY9
    clear hY9 K8 R8
    go_wp2_with fail
    rw [← HY9.out]
    refine (N1 _).mono ?_
    rintro e w9 ⟨rfl, hb9⟩
    have K9 := Below.then' KY hb9 KY.size
    have R11 := row_later R10 hb9
    clear KY hb9 N1 R10
    go_wp2_with fail
    refine (PL _).mono ?_
    rintro e w' ⟨rfl, rfl⟩
    go_wp2_with fail
    refine (awake_any _).mono ?_
    rintro e w10 ⟨rfl, hb10⟩
    have K10 := Below.then' K9 hb10 K9.size
    have R12 := row_later R11 hb10
    clear K9 hb10 PL R11
    go_wp2_with fail
    refine (PT _ (hT.later K10)).mono ?_
    rintro e w11 ⟨rfl, hb11⟩
    have K11 := Below.then' K10 hb11 K10.size
    have R13 := row_later R12 hb11
    clear K10 hb11 PT R12
    have c0 : w11.cell? ⟨w5.heap.size, 0, none⟩ = some (.int .i64 a) := (cell_of_row _ _ 0 _ _ _ R13).trans rfl
    have c1 : w11.cell? ⟨w5.heap.size, 1, none⟩ = some (.int .i64 b) := (cell_of_row _ _ 1 _ _ _ R13).trans rfl
    go_wp2_with fail
    refine (RTX _).mono ?_
    rintro e w12 ⟨rfl, hb12⟩
    have K12 := Below.then' K11 hb12 K11.size
    have R14 := row_later R13 hb12
    clear K11 hb12 RTX R13 c0 c1
    have c0 : w12.cell? ⟨w5.heap.size, 0, none⟩ = some (.int .i64 a) := (cell_of_row _ _ 0 _ _ _ R14).trans rfl
    have c1 : w12.cell? ⟨w5.heap.size, 1, none⟩ = some (.int .i64 b) := (cell_of_row _ _ 1 _ _ _ R14).trans rfl
    go_wp2_with fail
    refine (N2 _).mono ?_
    rintro e w13 ⟨rfl, hb13⟩
    go_wp2
    go_ret
    exact ⟨rfl, Below.then' K12 hb13 K12.size⟩
  · have hci : ¬ ((60 : Int) < s0.size) := by omega
    have ec : cut60 s0 = s0 := by unfold cut60; rw [if_neg hc]
    rw [ec] at PS RP
    clear ec hc
    go_enter Tryd.func3, Tryd.ntmps3
    go_wp2_with fail
    obtain ⟨W2, hW2⟩ : ∃ W2, W2 = w.alloc (.cells #[.float .f64 px, .float .f64 py] 24) := ⟨_, rfl⟩
    have K2 : Below w.heap.size w W2 := by
      rw [hW2]
      exact (Below.refl _ _).alloc (Nat.le_refl _) _
    rw [← hW2]
    clear hW2
    refine (PW _).mono ?_
    rintro e w5 ⟨rfl, hb5⟩
    have K5 := Below.then' K2 hb5 K2.size
    clear K2 hb5 PW
    obtain ⟨X9, hX9⟩ : ∃ X9, X9 = w5.alloc (.cells #[.int .i64 a, .int .i64 b] 27) := ⟨_, rfl⟩
    have KX : Below w.heap.size w X9 := by rw [hX9]; exact K5.alloc K5.size _
    have R9 : X9.heap[w5.heap.size]? = some (.cells #[.int .i64 a, .int .i64 b] 27 (0, 0)) := by rw [hX9]; exact heap_alloc_last w5 _
    have HX9 := Lib.hid hX9
    clear hX9 K5
    go_wp2_with fail
    rw [← HX9.out]
    refine (TX _ (hT.later KX)).mono ?_
    rintro e w6 ⟨rfl, hb6⟩
    have K6 := Below.then' KX hb6 KX.size
    have R6 := row_later R9 hb6
    clear KX hb6 TX R9
    go_wp2_with fail
    refine (PS _ (hT.later K6)).mono ?_
    rintro e w7 ⟨rfl, hb7⟩
    have K7 := Below.then' K6 hb7 K6.size
    have R7 := row_later R6 hb7
    clear K6 hb7 PS R6
    go_wp2_with fail
    refine (RP _).mono ?_
    rintro e w8 ⟨rfl, hb8⟩
    have K8 := Below.then' K7 hb8 K7.size
    have R8 := row_later R7 hb8
    clear K7 hb8 RP R7
    obtain ⟨Y9, hY9⟩ : ∃ Y9, Y9 = w8.alloc (.cells #[.int .i64 A, .int .i64 B] 27) := ⟨_, rfl⟩
    have KY : Below w.heap.size w Y9 := by rw [hY9]; exact K8.alloc K8.size _
    have R10 : Y9.heap[w5.heap.size]? = some (.cells #[.int .i64 a, .int .i64 b] 27 (0, 0)) := by rw [hY9]; exact (Below.heap_alloc _ _ _ (Array.getElem?_eq_some_iff.1 R8).1).trans R8
    have HY9 := Lib.hid hY9
    clear hY9 K8 R8
    go_wp2_with fail
    rw [← HY9.out]
    refine (N1 _).mono ?_
    rintro e w9 ⟨rfl, hb9⟩
    have K9 := Below.then' KY hb9 KY.size
    have R11 := row_later R10 hb9
    clear KY hb9 N1 R10
    go_wp2_with fail
    refine (PL _).mono ?_
    rintro e w' ⟨rfl, rfl⟩
    go_wp2_with fail
    refine (awake_any _).mono ?_
    rintro e w10 ⟨rfl, hb10⟩
    have K10 := Below.then' K9 hb10 K9.size
    have R12 := row_later R11 hb10
    clear K9 hb10 PL R11
    go_wp2_with fail
    refine (PT _ (hT.later K10)).mono ?_
    rintro e w11 ⟨rfl, hb11⟩
    have K11 := Below.then' K10 hb11 K10.size
    have R13 := row_later R12 hb11
    clear K10 hb11 PT R12
    have c0 : w11.cell? ⟨w5.heap.size, 0, none⟩ = some (.int .i64 a) := (cell_of_row _ _ 0 _ _ _ R13).trans rfl
    have c1 : w11.cell? ⟨w5.heap.size, 1, none⟩ = some (.int .i64 b) := (cell_of_row _ _ 1 _ _ _ R13).trans rfl
    go_wp2_with fail
    refine (RTX _).mono ?_
    rintro e w12 ⟨rfl, hb12⟩
    have K12 := Below.then' K11 hb12 K11.size
    have R14 := row_later R13 hb12
    clear K11 hb12 RTX R13 c0 c1
    have c0 : w12.cell? ⟨w5.heap.size, 0, none⟩ = some (.int .i64 a) := (cell_of_row _ _ 0 _ _ _ R14).trans rfl
    have c1 : w12.cell? ⟨w5.heap.size, 1, none⟩ = some (.int .i64 b) := (cell_of_row _ _ 1 _ _ _ R14).trans rfl
    go_wp2_with fail
    refine (N2 _).mono ?_
    rintro e w13 ⟨rfl, hb13⟩
    go_wp2
    go_ret
    exact ⟨rfl, Below.then' K12 hb13 K12.size⟩

set_option maxRecDepth 100000 in
set_option maxHeartbeats 8000000 in
theorem lines_no (px py : Nat) (h1 : px < 2 ^ 64) (h2 : py < 2 ^ 64) (hz : ¬ IsZ px py) (s0 : ByteArray) (hs0 : s0.size ≤ maxLen) (w : World) (hT : TabAt w) :
    Calls Tryd.prog 3 #[.agg #[.float .f64 px, .float .f64 py], .string s0] w (LawPost w) := by
  unfold maxLen at hs0
  obtain ⟨A, B, c, hv, PS, RP⟩ := both_parse (cut60 s0) (cut60_size s0)
  have N1 := num_any A B
  have PL := isPlain_any A B (by have := hv.1; omega) (by have := hv.2; omega)
  have o1 := order_self A (by have := hv.1; omega)
  have o2 := order_self B (by have := hv.2; omega)
  have PW := parts_no h1 h2 hz
  have TX0 := text_no h1 h2 hz
  have TX : ∀ w, TabAt w → Calls Tryd.prog 5 #[.complex .f64 px py] w fun e w' => e = .returned (.string ⟨#[63]⟩) ∧ Below w.heap.size w w' := fun w _ => TX0 w
  clear TX0 hz hv h1 h2
  generalize flt A = X at *
  generalize flt B = Y at *
  unfold wW at *
  by_cases hc : 60 < s0.size
  · have hci : (60 : Int) < s0.size := by omega
    have ec : cut60 s0 = s0.extract 0 60 := by unfold cut60; rw [if_pos hc]
    obtain ⟨S, hS⟩ : ∃ S, s0.extract 0 60 = S := ⟨_, rfl⟩
    rw [ec, hS] at PS RP
    clear ec hc
    go_enter Tryd.func3, Tryd.ntmps3
    go_wp2_with fail
    obtain ⟨W2, hW2⟩ : ∃ W2, W2 = w.alloc (.cells #[.float .f64 px, .float .f64 py] 24) := ⟨_, rfl⟩
    have K2 : Below w.heap.size w W2 := by
      rw [hW2]
      exact (Below.refl _ _).alloc (Nat.le_refl _) _
    rw [← hW2]
    clear hW2
    refine (PW _).mono ?_
    rintro e w5 ⟨rfl, hb5⟩
    have K5 := Below.then' K2 hb5 K2.size
    clear K2 hb5 PW
    obtain ⟨X9, hX9⟩ : ∃ X9, X9 = w5.alloc (.cells #[.int .i64 0, .int .i64 0] 27) := ⟨_, rfl⟩
    have KX : Below w.heap.size w X9 := by rw [hX9]; exact K5.alloc K5.size _
    have R9 : X9.heap[w5.heap.size]? = some (.cells #[.int .i64 0, .int .i64 0] 27 (0, 0)) := by rw [hX9]; exact heap_alloc_last w5 _
    have HX9 := Lib.hid hX9
    clear hX9 K5
    go_wp2_with fail
    rw [← HX9.out]
    refine (TX _ (hT.later KX)).mono ?_
    rintro e w6 ⟨rfl, hb6⟩
    have K6 := Below.then' KX hb6 KX.size
    have R6 := row_later R9 hb6
    clear KX hb6 TX R9
    go_wp2_with fail
    refine (PS _ (hT.later K6)).mono ?_
    rintro e w7 ⟨rfl, hb7⟩
    have K7 := Below.then' K6 hb7 K6.size
    have R7 := row_later R6 hb7
    clear K6 hb7 PS R6
    go_wp2_with fail
    refine (RP _).mono ?_
    rintro e w8 ⟨rfl, hb8⟩
    have K8 := Below.then' K7 hb8 K7.size
    have R8 := row_later R7 hb8
    clear K7 hb8 RP R7
    obtain ⟨Y9, hY9⟩ : ∃ Y9, Y9 = w8.alloc (.cells #[.int .i64 A, .int .i64 B] 27) := ⟨_, rfl⟩
    have KY : Below w.heap.size w Y9 := by rw [hY9]; exact K8.alloc K8.size _
    have R10 : Y9.heap[w5.heap.size]? = some (.cells #[.int .i64 0, .int .i64 0] 27 (0, 0)) := by rw [hY9]; exact (Below.heap_alloc _ _ _ (Array.getElem?_eq_some_iff.1 R8).1).trans R8
    have HY9 := Lib.hid hY9
    clear hY9 K8 R8
    go_wp2_with fail
    rw [← HY9.out]
    refine (N1 _).mono ?_
    rintro e w9 ⟨rfl, hb9⟩
    have K9 := Below.then' KY hb9 KY.size
    have R11 := row_later R10 hb9
    clear KY hb9 N1 R10
    go_wp2_with fail
    refine (PL _).mono ?_
    rintro e w' ⟨rfl, rfl⟩
    go_wp2_with fail
    refine (awake_any _).mono ?_
    rintro e w10 ⟨rfl, hb10⟩
    have K10 := Below.then' K9 hb10 K9.size
    have R12 := row_later R11 hb10
    clear K9 hb10 PL R11
    clear R12
    go_wp2
    go_ret
    exact ⟨rfl, K10⟩
  · have hci : ¬ ((60 : Int) < s0.size) := by omega
    have ec : cut60 s0 = s0 := by unfold cut60; rw [if_neg hc]
    rw [ec] at PS RP
    clear ec hc
    go_enter Tryd.func3, Tryd.ntmps3
    go_wp2_with fail
    obtain ⟨W2, hW2⟩ : ∃ W2, W2 = w.alloc (.cells #[.float .f64 px, .float .f64 py] 24) := ⟨_, rfl⟩
    have K2 : Below w.heap.size w W2 := by
      rw [hW2]
      exact (Below.refl _ _).alloc (Nat.le_refl _) _
    rw [← hW2]
    clear hW2
    refine (PW _).mono ?_
    rintro e w5 ⟨rfl, hb5⟩
    have K5 := Below.then' K2 hb5 K2.size
    clear K2 hb5 PW
    obtain ⟨X9, hX9⟩ : ∃ X9, X9 = w5.alloc (.cells #[.int .i64 0, .int .i64 0] 27) := ⟨_, rfl⟩
    have KX : Below w.heap.size w X9 := by rw [hX9]; exact K5.alloc K5.size _
    have R9 : X9.heap[w5.heap.size]? = some (.cells #[.int .i64 0, .int .i64 0] 27 (0, 0)) := by rw [hX9]; exact heap_alloc_last w5 _
    have HX9 := Lib.hid hX9
    clear hX9 K5
    go_wp2_with fail
    rw [← HX9.out]
    refine (TX _ (hT.later KX)).mono ?_
    rintro e w6 ⟨rfl, hb6⟩
    have K6 := Below.then' KX hb6 KX.size
    have R6 := row_later R9 hb6
    clear KX hb6 TX R9
    go_wp2_with fail
    refine (PS _ (hT.later K6)).mono ?_
    rintro e w7 ⟨rfl, hb7⟩
    have K7 := Below.then' K6 hb7 K6.size
    have R7 := row_later R6 hb7
    clear K6 hb7 PS R6
    go_wp2_with fail
    refine (RP _).mono ?_
    rintro e w8 ⟨rfl, hb8⟩
    have K8 := Below.then' K7 hb8 K7.size
    have R8 := row_later R7 hb8
    clear K7 hb8 RP R7
    obtain ⟨Y9, hY9⟩ : ∃ Y9, Y9 = w8.alloc (.cells #[.int .i64 A, .int .i64 B] 27) := ⟨_, rfl⟩
    have KY : Below w.heap.size w Y9 := by rw [hY9]; exact K8.alloc K8.size _
    have R10 : Y9.heap[w5.heap.size]? = some (.cells #[.int .i64 0, .int .i64 0] 27 (0, 0)) := by rw [hY9]; exact (Below.heap_alloc _ _ _ (Array.getElem?_eq_some_iff.1 R8).1).trans R8
    have HY9 := Lib.hid hY9
    clear hY9 K8 R8
    go_wp2_with fail
    rw [← HY9.out]
    refine (N1 _).mono ?_
    rintro e w9 ⟨rfl, hb9⟩
    have K9 := Below.then' KY hb9 KY.size
    have R11 := row_later R10 hb9
    clear KY hb9 N1 R10
    go_wp2_with fail
    refine (PL _).mono ?_
    rintro e w' ⟨rfl, rfl⟩
    go_wp2_with fail
    refine (awake_any _).mono ?_
    rintro e w10 ⟨rfl, hb10⟩
    have K10 := Below.then' K9 hb10 K9.size
    have R12 := row_later R11 hb10
    clear K9 hb10 PL R11
    clear R12
    go_wp2
    go_ret
    exact ⟨rfl, K10⟩

theorem walk_weighLines (px py : Nat) (h1 : px < 2 ^ 64) (h2 : py < 2 ^ 64) (s : ByteArray) (hs : s.size ≤ maxLen) (w : World) (hT : TabAt w) :
    Calls Tryd.prog 3 #[.agg #[.float .f64 px, .float .f64 py], .string s] w (LawPost w) := by
  by_cases c : IsZ px py
  · obtain ⟨⟨a, ha⟩, b, hb⟩ := c
    exact lines_yes px py (a, b) ⟨ha, hb⟩ s hs w hT
  · exact lines_no px py h1 h2 c s hs w hT

end Go.Proofs.YtmobkjdncfdokaaDoor
