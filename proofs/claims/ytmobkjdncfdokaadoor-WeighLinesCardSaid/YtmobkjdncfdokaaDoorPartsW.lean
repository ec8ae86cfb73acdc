/- The walk of parts. -/
import Derived.Test.YtmobkjdncfdokaaDoorWholeW
namespace Go.Proofs.YtmobkjdncfdokaaDoor
open Go.RowKit
open Ieee (Datum Format signed double)

theorem results_cell_tmp_row {P : Program} {fn : Func} {p u : Tmp} {ty : TypeId} (h : fn.results = #[.cell p ty, .tmp u]) (tmps : Array Value) (w : World) (g : Nat) (t : TypeId) (cs : Array Value) (fr : Nat × Nat) (d : TypeDesc)
    (hp : tmps.getD p undef = .pointer (some ⟨g, 0, none⟩)) (hg : w.heap[g]? = some (.cells cs t fr))
    (hu : P.underlying ty = some d) (hd : (match d with | .struct _ | .array _ _ => true | _ => false) = true) (hi : (P.info? ty).map (·.size) = some cs.size) :
    (results fn tmps).run P w = .ok (.tuple #[.agg cs, tmps.getD u undef]) w := by
  rw [results_cell_tmp h, hp]
  simp [asAddr, run_loadVar_row w g t ty cs fr d hg hu hd hi, Result.andThen]

theorem parts_yes {x y : Nat} {a b : Int} (hx : Num x a) (hy : Num y b) (w : World) :
    Calls Tryd.prog 4 #[.complex .f64 x y] w fun e w' => e = .returned (.tuple #[wW a b, .bool true]) ∧ Below w.heap.size w w' := by
  have W1 := whole_yes hx
  have W2 := whole_yes hy
  clear hx hy
  go_enter Tryd.func4, Tryd.ntmps4
  go_wp2_with fail
  refine (W1 _).mono ?_
  rintro e w' ⟨rfl, rfl⟩
  go_wp2_with fail
  refine (W2 _).mono ?_
  rintro e w' ⟨rfl, rfl⟩
  go_wp2
  refine bodyPost_ret (results_cell_tmp_row Tryd.results4 _ _ w.heap.size 27 #[.int .i64 a, .int .i64 b] (0, 0) _ rfl (heap_alloc_last w _) Tryd.underlying27 rfl infoW) rfl ⟨rfl, ?_⟩
  exact (Below.refl _ _).alloc (Nat.le_refl _) _

theorem parts_no {x y : Nat} (hx : x < 2 ^ 64) (hy : y < 2 ^ 64) (h : ¬ IsZ x y) (w : World) :
    Calls Tryd.prog 4 #[.complex .f64 x y] w fun e w' => e = .returned (.tuple #[wW 0 0, .bool false]) ∧ Below w.heap.size w w' := by
  have done : ∀ (r s : Int) (p q : Bool), (p = false ∨ q = false) → (∀ w, Calls Tryd.prog 12 #[.float .f64 x] w fun e w' => e = .returned (.tuple #[.int .i64 r, .bool p]) ∧ w = w') →
      (∀ w, Calls Tryd.prog 12 #[.float .f64 y] w fun e w' => e = .returned (.tuple #[.int .i64 s, .bool q]) ∧ w = w') →
      Calls Tryd.prog 4 #[.complex .f64 x y] w fun e w' => e = .returned (.tuple #[wW 0 0, .bool false]) ∧ Below w.heap.size w w' := by
    intro r s p q hpq W1 W2
    clear h hx hy
    cases p <;> cases q
    case true.true => simp at hpq
    all_goals
      clear hpq
      go_enter Tryd.func4, Tryd.ntmps4
      go_wp2_with fail
      refine (W1 _).mono ?_
      rintro e w' ⟨rfl, rfl⟩
      go_wp2_with fail
      refine (W2 _).mono ?_
      rintro e w' ⟨rfl, rfl⟩
      go_wp2
      refine bodyPost_ret (results_cell_tmp_row Tryd.results4 _ _ w.heap.size 27 #[.int .i64 0, .int .i64 0] (0, 0) _ rfl (heap_alloc_last w _) Tryd.underlying27 rfl infoW) rfl ⟨rfl, ?_⟩
      exact (Below.refl _ _).alloc (Nat.le_refl _) _
  by_cases ca : ∃ a, Num x a
  · have cb : ¬ ∃ b, Num y b := fun cb => h ⟨ca, cb⟩
    obtain ⟨a, ha⟩ := ca
    exact done a 0 true false (Or.inr rfl) (whole_yes ha) (whole_no hy cb)
  · by_cases cb : ∃ b, Num y b
    · obtain ⟨b, hb⟩ := cb
      exact done 0 b false true (Or.inl rfl) (whole_no hx ca) (whole_yes hb)
    · exact done 0 0 false false (Or.inl rfl) (whole_no hx ca) (whole_no hy cb)

end Go.Proofs.YtmobkjdncfdokaaDoor
