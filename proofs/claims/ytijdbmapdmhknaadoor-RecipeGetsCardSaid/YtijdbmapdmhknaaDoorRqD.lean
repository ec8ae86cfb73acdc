/- RecipeSizes out of the contracts. -/
import Derived.Test.YtijdbmapdmhknaaDoorRqC
namespace Go.Proofs.YtijdbmapdmhknaaDoor
open Go.RowKit

set_option maxRecDepth 100000 in
set_option maxHeartbeats 16000000 in
theorem recipeSizes_of (CZ : RSizeOk) (AW : AwakeQ) (s : ByteArray) (n : Int) (wn : (Lit.int .i64 n).wf = true) (w : World) (hT : TabAt w) :
    Calls Tryd.prog 5 #[.string s, .int .i64 n] w fun e w' => e = .returned (.bool true) ∧ Kept w w' := by
  have HT := Lib.hid hT
  clear hT
  by_cases h5 : 60 < s.size
  · have b1 : decide ((s.size : Int) > 60) = true := decide_eq_true (by omega)
    have b1i : (60 : Int) < s.size := by omega
    have b1j : (60 : Int) ≤ s.size := by omega
    obtain ⟨T, hTT⟩ : ∃ T, T = s.extract 0 60 := ⟨_, rfl⟩
    have hx : s.extract 0 60 = T := hTT.symm
    have hts : T.size = 60 := by rw [hTT, ByteArray.size_extract]; omega
    have hsz : T.size ≤ 1000000 := by omega
    have hval : sizeVQ T.size n = 0 := sizeVQ_no (fun h => by omega)
    clear hTT h5
    have CS := fun W => CZ T n W hsz wn
    rw [hval] at CS
    clear hval hsz wn CZ 
    go_enter Tryd.func5, Tryd.ntmps5
    go_wp2_with fail
    refine (CS _).mono ?_
    rintro e w1 ⟨rfl, hk1⟩
    have AW1 := AW w1 (HT.out.later hk1)
    have HK1 : Hid (Kept w w1) := Lib.hid hk1
    clear hk1 CS AW
    go_wp2_with fail
    refine AW1.mono ?_
    rintro e w2 ⟨rfl, hk2⟩
    have HK2 : Hid (Kept w w2) := Lib.hid (HK1.out.then hk2)
    clear hk2 AW1
    go_wp2
    go_ret
    exact ⟨by first | rfl | simp, HK2.out⟩
  · have b1 : decide ((s.size : Int) > 60) = false := decide_eq_false (by omega)
    have b1i : ¬ (60 : Int) < s.size := by omega
    have hsz : s.size ≤ 1000000 := by omega
    by_cases h1 : 1 ≤ s.size
    · have c1 : decide ((s.size : Int) ≥ 1) = true := decide_eq_true (by omega)
      by_cases h2 : s.size ≤ 48
      · have c2 : decide ((s.size : Int) ≤ 48) = true := decide_eq_true (by omega)
        by_cases h3 : 0 ≤ n
        · have c3 : decide (n ≥ 0) = true := decide_eq_true h3
          by_cases h4 : n ≤ 1024
          · have c4 : decide (n ≤ 1024) = true := decide_eq_true h4
            have hval : sizeVQ s.size n = 26 + s.size + 4 * n := sizeVQ_yes ⟨⟨h1, h2⟩, h3, h4⟩
            obtain ⟨A, hA⟩ : ∃ A, A = 26 + (s.size : Int) := ⟨_, rfl⟩
            obtain ⟨B, hB⟩ : ∃ B, B = 4 * n := ⟨_, rfl⟩
            obtain ⟨C, hC⟩ : ∃ C, C = A + B := ⟨_, rfl⟩
            have m1 : IntKind.i64.wrap (26 + (s.size : Int)) = A := by rw [← hA]; exact IntWalk.i64_in _ (by omega)
            have m2 : IntKind.i64.wrap (4 * n) = B := by rw [← hB]; exact IntWalk.i64_in _ (by omega)
            have m3 : IntKind.i64.wrap (A + B) = C := by rw [← hC]; exact IntWalk.i64_in _ (by omega)
            rw [← hA, ← hB, ← hC] at hval
            clear hA hB hC h1 h2 h3 h4 h5
            have CS := fun W => CZ s n W hsz wn
            rw [hval] at CS
            clear hval hsz wn CZ 
            go_enter Tryd.func5, Tryd.ntmps5
            go_wp2_with fail
            refine (CS _).mono ?_
            rintro e w1 ⟨rfl, hk1⟩
            have AW1 := AW w1 (HT.out.later hk1)
            have HK1 : Hid (Kept w w1) := Lib.hid hk1
            clear hk1 CS AW
            go_wp2_with fail
            refine AW1.mono ?_
            rintro e w2 ⟨rfl, hk2⟩
            have HK2 : Hid (Kept w w2) := Lib.hid (HK1.out.then hk2)
            clear hk2 AW1
            go_wp2
            go_ret
            exact ⟨by first | rfl | simp, HK2.out⟩
          · have c4 : decide (n ≤ 1024) = false := decide_eq_false h4
            have hval : sizeVQ s.size n = 0 := sizeVQ_no (fun h => h4 h.2.2)
            clear h1 h2 h3 h4 h5
            have CS := fun W => CZ s n W hsz wn
            rw [hval] at CS
            clear hval hsz wn CZ 
            go_enter Tryd.func5, Tryd.ntmps5
            go_wp2_with fail
            refine (CS _).mono ?_
            rintro e w1 ⟨rfl, hk1⟩
            have AW1 := AW w1 (HT.out.later hk1)
            have HK1 : Hid (Kept w w1) := Lib.hid hk1
            clear hk1 CS AW
            go_wp2_with fail
            refine AW1.mono ?_
            rintro e w2 ⟨rfl, hk2⟩
            have HK2 : Hid (Kept w w2) := Lib.hid (HK1.out.then hk2)
            clear hk2 AW1
            go_wp2
            go_ret
            exact ⟨by first | rfl | simp, HK2.out⟩
        · have c3 : decide (n ≥ 0) = false := decide_eq_false h3
          have hval : sizeVQ s.size n = 0 := sizeVQ_no (fun h => h3 h.2.1)
          clear h1 h2 h3 h5
          have CS := fun W => CZ s n W hsz wn
          rw [hval] at CS
          clear hval hsz wn CZ 
          go_enter Tryd.func5, Tryd.ntmps5
          go_wp2_with fail
          refine (CS _).mono ?_
          rintro e w1 ⟨rfl, hk1⟩
          have AW1 := AW w1 (HT.out.later hk1)
          have HK1 : Hid (Kept w w1) := Lib.hid hk1
          clear hk1 CS AW
          go_wp2_with fail
          refine AW1.mono ?_
          rintro e w2 ⟨rfl, hk2⟩
          have HK2 : Hid (Kept w w2) := Lib.hid (HK1.out.then hk2)
          clear hk2 AW1
          go_wp2
          go_ret
          exact ⟨by first | rfl | simp, HK2.out⟩
      · have c2 : decide ((s.size : Int) ≤ 48) = false := decide_eq_false (by omega)
        have hval : sizeVQ s.size n = 0 := sizeVQ_no (fun h => h2 h.1.2)
        clear h1 h2 h5
        have CS := fun W => CZ s n W hsz wn
        rw [hval] at CS
        clear hval hsz wn CZ 
        go_enter Tryd.func5, Tryd.ntmps5
        go_wp2_with fail
        refine (CS _).mono ?_
        rintro e w1 ⟨rfl, hk1⟩
        have AW1 := AW w1 (HT.out.later hk1)
        have HK1 : Hid (Kept w w1) := Lib.hid hk1
        clear hk1 CS AW
        go_wp2_with fail
        refine AW1.mono ?_
        rintro e w2 ⟨rfl, hk2⟩
        have HK2 : Hid (Kept w w2) := Lib.hid (HK1.out.then hk2)
        clear hk2 AW1
        go_wp2
        go_ret
        exact ⟨by first | rfl | simp, HK2.out⟩
    · have c1 : decide ((s.size : Int) ≥ 1) = false := decide_eq_false (by omega)
      have hval : sizeVQ s.size n = 0 := sizeVQ_no (fun h => h1 h.1.1)
      clear h1 h5
      have CS := fun W => CZ s n W hsz wn
      rw [hval] at CS
      clear hval hsz wn CZ 
      go_enter Tryd.func5, Tryd.ntmps5
      go_wp2_with fail
      refine (CS _).mono ?_
      rintro e w1 ⟨rfl, hk1⟩
      have AW1 := AW w1 (HT.out.later hk1)
      have HK1 : Hid (Kept w w1) := Lib.hid hk1
      clear hk1 CS AW
      go_wp2_with fail
      refine AW1.mono ?_
      rintro e w2 ⟨rfl, hk2⟩
      have HK2 : Hid (Kept w w2) := Lib.hid (HK1.out.then hk2)
      clear hk2 AW1
      go_wp2
      go_ret
      exact ⟨by first | rfl | simp, HK2.out⟩

end Go.Proofs.YtijdbmapdmhknaaDoor
