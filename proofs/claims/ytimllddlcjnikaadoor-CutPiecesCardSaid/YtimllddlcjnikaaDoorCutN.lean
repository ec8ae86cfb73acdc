/- The walks of May, of the document's May; of a new search. -/
import Derived.Test.YtimllddlcjnikaaDoorCutW
namespace Go.Proofs.YtimllddlcjnikaaDoor
open Go.RowKit

def MayC (a b c d : Int) : Prop := 1 ≤ a ∧ a ≤ b ∧ b ≤ 4096 ∧ 1 ≤ c ∧ c ≤ 1048576 ∧ 1 ≤ d ∧ d ≤ 1048576
instance (a b c d : Int) : Decidable (MayC a b c d) := by unfold MayC; infer_instance

def mayD (d : Int) : Bool := decide (1 ≤ d) && decide (d ≤ 1048576)

theorem mayDivide_any (d : Int) (w : World) :
    Calls Tryd.prog 23 #[.int .i64 d] w fun e w' => e = .returned (.bool (mayD d)) ∧ w = w' := by
  unfold mayD
  by_cases h1 : 1 ≤ d
  · by_cases h2 : d ≤ 1048576
    · rw [decide_eq_true h1, decide_eq_true h2]
      go_enter Tryd.func23, Tryd.ntmps23
      go_wp2
      go_ret
      exact ⟨rfl, rfl⟩
    · rw [decide_eq_true h1, decide_eq_false h2]
      go_enter Tryd.func23, Tryd.ntmps23
      go_wp2
      go_ret
      exact ⟨rfl, rfl⟩
  · rw [decide_eq_false h1]
    go_enter Tryd.func23, Tryd.ntmps23
    go_wp2
    go_ret
    exact ⟨rfl, rfl⟩

theorem info_conf : (Tryd.prog.info? 23).map (·.size) = some 13 := by kernel_rfl

theorem mayD_true (d : Int) : mayD d = true ↔ 1 ≤ d ∧ d ≤ 1048576 := by simp [mayD]
theorem mayD_false (d : Int) (h : mayD d = false) : ¬ (1 ≤ d ∧ d ≤ 1048576) := fun x => by rw [(mayD_true d).2 x] at h; cases h

theorem box_below (w : World) (o : Obj) : Below w.heap.size w (w.alloc o) := (Below.refl _ _).alloc (Nat.le_refl _) _

set_option maxRecDepth 100000 in
set_option maxHeartbeats 1000000 in
theorem may_any (C : Array Value) (a b c d : Int) (hC : IsConf C a b c d) (w : World) :
    Calls Tryd.prog 9 #[.agg C] w fun e w' => e = .returned (.bool (decide (MayC a b c d))) ∧ Below w.heap.size w w' := by
  have e0 := hC.c0
  have e1 := hC.c1
  have e2 := hC.c2
  have e3 := hC.c3
  have D1 := fun w => mayDivide_any c w
  have D2 := fun w => mayDivide_any d w
  clear hC
  by_cases p1 : 1 ≤ a
  · by_cases p2 : a ≤ b
    · by_cases p3 : b ≤ 4096
      · cases hc : mayD c with
        | true =>
          have hr : mayD d = decide (MayC a b c d) := by
            have h1 := (mayD_true c).1 hc
            cases hd : mayD d with
            | true => exact (decide_eq_true (show MayC a b c d from ⟨p1, p2, p3, h1.1, h1.2, (mayD_true d).1 hd⟩)).symm
            | false => exact (decide_eq_false (fun x : MayC a b c d => mayD_false d hd x.2.2.2.2.2)).symm
          rw [hc] at D1
          obtain ⟨r, hr'⟩ : ∃ r, r = decide (MayC a b c d) := ⟨_, rfl⟩
          rw [← hr'] at hr ⊢
          rw [hr] at D2
          clear hc hr hr'
          go_enter Tryd.func9, Tryd.ntmps9
          go_wp2_with fail
          refine (D1 _).mono ?_
          rintro e w' ⟨rfl, rfl⟩
          go_wp2_with fail
          refine (D2 _).mono ?_
          rintro e w' ⟨rfl, rfl⟩
          go_wp2
          go_ret
          exact ⟨rfl, box_below _ _⟩
        | false =>
          have hr : decide (MayC a b c d) = false := decide_eq_false fun x => mayD_false c hc ⟨x.2.2.2.1, x.2.2.2.2.1⟩
          rw [hr]
          rw [hc] at D1
          clear hc hr
          go_enter Tryd.func9, Tryd.ntmps9
          go_wp2_with fail
          refine (D1 _).mono ?_
          rintro e w' ⟨rfl, rfl⟩
          go_wp2
          go_ret
          exact ⟨rfl, box_below _ _⟩
      · rw [decide_eq_false fun x : MayC a b c d => p3 x.2.2.1]
        go_enter Tryd.func9, Tryd.ntmps9
        go_wp2
        go_ret
        exact ⟨rfl, box_below _ _⟩
    · rw [decide_eq_false fun x : MayC a b c d => p2 x.2.1]
      go_enter Tryd.func9, Tryd.ntmps9
      go_wp2
      go_ret
      exact ⟨rfl, box_below _ _⟩
  · rw [decide_eq_false fun x : MayC a b c d => p1 x.1]
    go_enter Tryd.func9, Tryd.ntmps9
    go_wp2
    go_ret
    exact ⟨rfl, box_below _ _⟩

set_option maxRecDepth 100000 in
set_option maxHeartbeats 1000000 in
theorem rmay_any (C : Array Value) (a b c d : Int) (hC : IsConf C a b c d) (w : World) :
    Calls Tryd.prog 10 #[.agg C] w fun e w' => e = .returned (.bool (decide (MayC a b c d))) ∧ Below w.heap.size w w' := by
  have e0 := hC.c0
  have e1 := hC.c1
  have e2 := hC.c2
  have e3 := hC.c3
  clear hC
  by_cases p1 : 1 ≤ a
  · by_cases p2 : a ≤ b
    · by_cases p3 : b ≤ 4096
      · by_cases p4 : 1 ≤ c
        · by_cases p5 : c ≤ 1048576
          · by_cases p6 : 1 ≤ d
            · by_cases p7 : d ≤ 1048576
              · rw [decide_eq_true (show MayC a b c d from ⟨p1, p2, p3, p4, p5, p6, p7⟩)]
                go_enter Tryd.func10, Tryd.ntmps10
                go_wp2
                go_ret
                exact ⟨rfl, box_below _ _⟩
              · rw [decide_eq_false fun x : MayC a b c d => p7 x.2.2.2.2.2.2]
                go_enter Tryd.func10, Tryd.ntmps10
                go_wp2
                go_ret
                exact ⟨rfl, box_below _ _⟩
            · rw [decide_eq_false fun x : MayC a b c d => p6 x.2.2.2.2.2.1]
              go_enter Tryd.func10, Tryd.ntmps10
              go_wp2
              go_ret
              exact ⟨rfl, box_below _ _⟩
          · rw [decide_eq_false fun x : MayC a b c d => p5 x.2.2.2.2.1]
            go_enter Tryd.func10, Tryd.ntmps10
            go_wp2
            go_ret
            exact ⟨rfl, box_below _ _⟩
        · rw [decide_eq_false fun x : MayC a b c d => p4 x.2.2.2.1]
          go_enter Tryd.func10, Tryd.ntmps10
          go_wp2
          go_ret
          exact ⟨rfl, box_below _ _⟩
      · rw [decide_eq_false fun x : MayC a b c d => p3 x.2.2.1]
        go_enter Tryd.func10, Tryd.ntmps10
        go_wp2
        go_ret
        exact ⟨rfl, box_below _ _⟩
    · rw [decide_eq_false fun x : MayC a b c d => p2 x.2.1]
      go_enter Tryd.func10, Tryd.ntmps10
      go_wp2
      go_ret
      exact ⟨rfl, box_below _ _⟩
  · rw [decide_eq_false fun x : MayC a b c d => p1 x.1]
    go_enter Tryd.func10, Tryd.ntmps10
    go_wp2
    go_ret
    exact ⟨rfl, box_below _ _⟩

theorem is_any (h d : Nat) (_hh : h < 2147483647) (hd : 1 ≤ d) (hd2 : d ≤ 1048576) (w : World) :
    Calls Tryd.prog 27 #[.int .u32 h, .int .i64 d] w fun e w' => e = .returned (.bool (lastB h d)) ∧ w = w' := by
  have hl := lastB_int h d hd
  obtain ⟨r, hr⟩ : ∃ r, r = lastB h d := ⟨_, rfl⟩
  rw [← hr] at hl ⊢
  have em : ((h : Int)).tmod (d : Int) = (h : Int) % d := Int.tmod_eq_emod_of_nonneg (by omega)
  have h0 : ¬ ((d : Int) = 0) := by omega
  have hlt : (h : Int) % d < d := Int.emod_lt_of_pos _ (by omega)
  have hge : 0 ≤ (h : Int) % d := Int.emod_nonneg _ h0
  have hm : ∃ m : Nat, (h : Int) % d = m := ⟨((h : Int) % d).toNat, by omega⟩
  obtain ⟨m, hm⟩ := hm
  rw [em, hm] at hl
  rw [hm] at em hlt
  clear hr hge hm
  go_enter Tryd.func27, Tryd.ntmps27
  go_wp2
  go_ret
  exact ⟨rfl, rfl⟩

end Go.Proofs.YtimllddlcjnikaaDoor
