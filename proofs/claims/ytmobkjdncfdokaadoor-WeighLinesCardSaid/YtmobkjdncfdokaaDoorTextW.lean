/- The walks of weigh's Text and Parse. -/
import Derived.Test.YtmobkjdncfdokaaDoorDec
import Derived.Test.YtmobkjdncfdokaaDoorMakeW
import Derived.Lib.AppendIntMem
import Derived.Lib.AtoiErrMem
namespace Go.Proofs.YtmobkjdncfdokaaDoor
open Go.RowKit

theorem itoa_any (n : Int) (h : n.natAbs ≤ 9007199254740992) (w : World) (hT : TabAt w) :
    Calls Tryd.prog 14 #[.int .i64 n] w fun e w' => e = .returned (.string (str (Lib.itoa n))) ∧ Below w.heap.size w w' := by
  refine (Tryd.strconv_Itoa n (by omega) (by omega) w hT.1).mono ?_
  rintro e w' ⟨rfl, k, os, rfl⟩
  exact ⟨rfl, Lib.below_grow _ _ (Nat.le_refl _) _ _⟩

theorem app_empty (x : ByteArray) : x ++ (⟨#[]⟩ : ByteArray) = x := by
  apply ByteArray.ext
  simp [ByteArray.data_append]

set_option maxHeartbeats 1000000 in
theorem text_yes {x y : Nat} {a b : Int} (hx : Num x a) (hy : Num y b) (w : World) (hT : TabAt w) :
    Calls Tryd.prog 5 #[.complex .f64 x y] w fun e w' => e = .returned (.string (str (textW a b))) ∧ Below w.heap.size w w' := by
  have P := partsOf_yes hx hy
  have ha : a.natAbs ≤ 9007199254740992 := hx.2.2
  have hb : b.natAbs ≤ 9007199254740992 := hy.2.2
  have IA := itoa_any a ha
  have IB := itoa_any b hb
  have la := itoa_len a ha
  have lb := itoa_len b hb
  have hse := sec_eq b
  unfold textW
  obtain ⟨A, hA⟩ : ∃ A, A = Lib.itoa a := ⟨_, rfl⟩
  obtain ⟨B, hB⟩ : ∃ B, B = Lib.itoa b := ⟨_, rfl⟩
  rw [← hA] at IA la ⊢
  rw [← hB] at IB lb hse
  obtain ⟨R, hR⟩ : ∃ R, R = str (A ++ (secB b ++ [105])) := ⟨_, rfl⟩
  rw [← hR]
  have sA := str_size A
  have sB := str_size B
  have lai : (A.length : Int) ≤ 17 := by omega
  have lbi : (B.length : Int) ≤ 17 := by omega
  by_cases hb0 : 0 ≤ b
  · have fin : str A ++ ⟨#[43]⟩ ++ str B ++ ⟨#[105]⟩ = R := by
      rw [hR, ← hse, if_pos hb0]
      apply ByteArray.ext
      simp [str, ByteArray.data_append]
    have HF := Lib.hid fin
    clear fin hse hR hA hB hx hy la lb ha hb
    go_enter Tryd.func5, Tryd.ntmps5
    go_wp2_with fail
    refine (P _).mono ?_
    rintro e w' ⟨rfl, rfl⟩
    go_wp2_with fail
    refine (IA _ hT).mono ?_
    rintro e w1 ⟨rfl, K1⟩
    go_wp2_with fail
    refine (IB _ (hT.later K1)).mono ?_
    rintro e w2 ⟨rfl, hb2⟩
    have K2 := Below.then' K1 hb2 K1.size
    clear K1 hb2
    go_wp2
    go_ret
    refine ⟨?_, K2⟩
    show Ending.returned (Value.string (str A ++ ⟨#[43]⟩ ++ str B ++ ⟨#[105]⟩)) = _
    rw [HF.out]
  · have fin : str A ++ str B ++ ⟨#[105]⟩ = R := by
      rw [hR, ← hse, if_neg hb0]
      apply ByteArray.ext
      simp [str, ByteArray.data_append]
    have HF := Lib.hid fin
    clear fin hse hR hA hB hx hy la lb ha hb
    go_enter Tryd.func5, Tryd.ntmps5
    go_wp2_with fail
    refine (P _).mono ?_
    rintro e w' ⟨rfl, rfl⟩
    go_wp2_with fail
    refine (IA _ hT).mono ?_
    rintro e w1 ⟨rfl, K1⟩
    go_wp2_with fail
    refine (IB _ (hT.later K1)).mono ?_
    rintro e w2 ⟨rfl, hb2⟩
    have K2 := Below.then' K1 hb2 K1.size
    clear K1 hb2
    go_wp2
    go_ret
    refine ⟨?_, K2⟩
    show Ending.returned (Value.string _) = _
    rw [← HF.out]
    first | rfl | rw [app_empty]

theorem text_no {x y : Nat} (hx : x < 2 ^ 64) (hy : y < 2 ^ 64) (h : ¬ IsZ x y) (w : World) :
    Calls Tryd.prog 5 #[.complex .f64 x y] w fun e w' => e = .returned (.string ⟨#[63]⟩) ∧ Below w.heap.size w w' := by
  have P := partsOf_no hx hy h
  clear hx hy h
  go_enter Tryd.func5, Tryd.ntmps5
  go_wp2_with fail
  refine (P _).mono ?_
  rintro e w' ⟨rfl, hb⟩
  go_wp2
  go_ret
  exact ⟨rfl, hb⟩

/-- Valid parts. -/
def Valid (a b : Int) : Prop := a.natAbs ≤ 9007199254740992 ∧ b.natAbs ≤ 9007199254740992

theorem below_or {w w' : World} (h : w' = w ∨ ∃ t, w' = Lib.bytesWorld w 5 t) : Below w.heap.size w w' := by
  rcases h with rfl | ⟨t, rfl⟩
  · exact Below.refl _ _
  · exact Lib.bytesWorld_below w _ t

theorem atoi_good (t : ByteArray) (v : Int) (ht : t.size ≤ 1000) (h : Lib.atoiAll t.data.toList = .ok v) (w : World) :
    Calls Tryd.prog 17 #[.string t] w fun e w' => e = .returned (.tuple #[.int .i64 v, .nilIface]) ∧ Below w.heap.size w w' :=
  (Tryd.strconv_Atoi_ok t (by omega) v h w).mono fun _ _ h => ⟨h.1, below_or h.2⟩

/-- How Atoi ends: a number and no error, or one. -/
theorem atoi_any (t : ByteArray) (ht : t.size ≤ 1000) : (∃ v : Int, ∀ w, TabAt w → Calls Tryd.prog 17 #[.string t] w fun e w' => e = .returned (.tuple #[.int .i64 v, .nilIface]) ∧ Below w.heap.size w w') ∨
    (∃ v : Int, ∀ w, TabAt w → Calls Tryd.prog 17 #[.string t] w fun e w' => ∃ N, e = .returned (.tuple #[.int .i64 v, .iface 85 (.pointer (some ⟨N, 0, none⟩))]) ∧ Below w.heap.size w w') := by
  cases hA : Lib.atoiAll t.data.toList with
  | ok v => exact Or.inl ⟨v, fun w _ => atoi_good t v ht hA w⟩
  | «syntax» =>
    refine Or.inr ⟨0, fun w hT => ?_⟩
    obtain ⟨tp, p, hv⟩ := hT.2.2.1
    exact (Tryd.strconv_Atoi_syntax_var t (by omega) hA tp p w hv).mono fun _ _ h => by
      obtain ⟨N, h1, _, _, h4⟩ := h
      exact ⟨N, h1, h4⟩
  | range =>
    refine Or.inr ⟨Lib.atoiSat t.data.toList, fun w hT => ?_⟩
    obtain ⟨tp, p, hv⟩ := hT.2.2.2
    exact (Tryd.strconv_Atoi_range_var t (by omega) hA tp p w hv).mono fun _ _ h => by
      obtain ⟨N, h1, _, _, h4⟩ := h
      exact ⟨N, h1, h4⟩

set_option maxHeartbeats 2000000 in
theorem parse_yes (a b : Int) (hv : Valid a b) (w : World) (hT : TabAt w) :
    Calls Tryd.prog 6 #[.string (str (textW a b))] w fun e w' => e = .returned (.tuple #[.complex .f64 (flt a) (flt b), .int .i64 0]) ∧ Below w.heap.size w w' := by
  obtain ⟨ha, hb⟩ := hv
  have la := itoa_len a ha
  have lb := sec_len b hb
  have TS := flipW (Tryd.strings_TrimSuffix (str (textW a b)) ⟨#[105]⟩ w (by rw [str_size]; unfold textW; simp only [List.length_append, List.length_singleton]; omega))
  have e1 : Lib.trimSuffix (str (textW a b)).data.toList (ByteArray.mk #[105]).data.toList = Lib.itoa a ++ secB b := trim_text a b
  rw [e1] at TS
  have LA := fun w hT => lastAny_any (str (Lib.itoa a ++ secB b)) (by rw [str_size, List.length_append]; omega) w hT
  rw [str_list] at LA
  have hhit := hit_text a b
  have ex1 := str_take (Lib.itoa a ++ secB b) (Lib.itoa a).length
  have ex2 := str_drop (Lib.itoa a ++ secB b) (Lib.itoa a).length
  rw [List.take_left' rfl] at ex1
  rw [List.drop_left' rfl] at ex2
  have A1 := fun w => atoi_good (str (Lib.itoa a)) a (by rw [str_size]; omega) (by rw [str_list]; exact atoi_itoa a ha) w
  have A2 := fun w => atoi_good (str (secB b)) b (by rw [str_size]; omega) (by rw [str_list]; exact atoi_sec b hb) w
  have MK := make_yes a b ha hb
  have TX := text_yes (num_flt a ha) (num_flt b hb)
  have hsz := str_size (Lib.itoa a ++ secB b)
  rw [List.length_append] at hsz ex2
  have hT0 : (⟨(Lib.itoa a ++ secB b).toArray⟩ : ByteArray) = str (Lib.itoa a ++ secB b) := rfl
  rw [hT0] at TS
  obtain ⟨P, hP⟩ : ∃ P, P = str (Lib.itoa a ++ secB b) := ⟨_, rfl⟩
  rw [← hP] at TS LA ex1 ex2 hsz
  obtain ⟨U, hU⟩ : ∃ U, U = str (Lib.itoa a) := ⟨_, rfl⟩
  obtain ⟨V, hV⟩ : ∃ V, V = str (secB b) := ⟨_, rfl⟩
  obtain ⟨R, hR⟩ : ∃ R, R = str (textW a b) := ⟨_, rfl⟩
  rw [← hU] at ex1 A1
  rw [← hV] at ex2 A2
  rw [← hR] at TS TX ⊢
  obtain ⟨n, hn⟩ : ∃ n, n = (Lib.itoa a).length := ⟨_, rfl⟩
  rw [← hn] at ex1 ex2 hhit la hsz
  have hL : (Lib.itoa a ++ secB b).length = P.size := by rw [hsz, List.length_append, ← hn]
  have ex2' : P.extract n P.size = V := by rw [hsz]; exact ex2
  generalize flt a = x at *
  generalize flt b = y at *
  have hnp : (n : Int) ≤ P.size := by omega
  have HH := Lib.hid hhit
  have HLn := Lib.hid hL
  clear hhit hL hR hV hU hP hT0 e1 ha hb hn ex2 hsz
  go_enter Tryd.func6, Tryd.ntmps6
  go_wp2_with fail
  refine TS.mono ?_
  rintro e w' ⟨rfl, rfl⟩
  go_wp2_with fail
  refine (LA _ hT).mono ?_
  rintro e w1 ⟨⟨v, rfl, _, hv2⟩, K1⟩
  obtain rfl := hv2 n HH.out
  clear hv2
  go_wp2_with fail
  refine (A1 _).mono ?_
  rintro e w2 ⟨rfl, hb2⟩
  have K2 := Below.then' K1 hb2 K1.size
  clear K1 hb2
  go_wp2_with fail
  refine (A2 _).mono ?_
  rintro e w3 ⟨rfl, hb3⟩
  have K3 := Below.then' K2 hb3 K2.size
  clear K2 hb3
  go_wp2_with fail
  refine (MK _).mono ?_
  rintro e w' ⟨rfl, rfl⟩
  go_wp2_with fail
  refine (TX _ (hT.later K3)).mono ?_
  rintro e w4 ⟨rfl, hb4⟩
  have K4 := Below.then' K3 hb4 K3.size
  go_wp2
  go_ret2
  exact ⟨rfl, K4⟩

end Go.Proofs.YtmobkjdncfdokaaDoor
