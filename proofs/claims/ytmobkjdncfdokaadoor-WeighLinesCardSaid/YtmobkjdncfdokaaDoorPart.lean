/- The walks of weigh's parts: which floats may be, a sign turned, turned by i, turned, joined. -/
import Derived.Test.YtmobkjdncfdokaaDoorRows
import Derived.Test.YtmobkjdncfdokaaDoorFlt2
import Derived.Test.YtmobkjdncfdokaaDoorWsum
import Derived.Test.YtmobkjdncfdokaaDoorPlain
import Derived.WalkKit
import Derived.WalkSpells
import Derived.WalkLawsBesides
import Derived.Deep.OwnRows
import Derived.Lib.Hide
import Derived.Outline
namespace Go.Proofs.YtmobkjdncfdokaaDoor
open Go.RowKit
open Ieee (Datum Format signed double)

theorem run_arch (args : Array Value) (w : World) : (callFunc 67 args).run Tryd.prog w = ((Extern.MathFloor.toIntegral "math.archTrunc" .zero args).run Tryd.prog w).andThen fun v w' => .ok (.value v) w' :=
  run_callFunc_extern Tryd.func67 (by kernel_rfl) (by kernel_rfl) (by kernel_rfl) (by kernel_rfl) args w

theorem toI_num {x : Nat} {s : Bool} {m : Nat} {p : Int} (h : FloatKind.f64.decode x = .number s m p) : Extern.MathFloor.toIntegral "math.archTrunc" .zero #[.float .f64 x] = pure (.float .f64 (trn x)) := by
  have e : trn x = FloatKind.f64.encode ((Datum.number s m p).integral .zero) := by rw [← h]; rfl
  rw [e]
  conv => lhs; whnf
  rw [h]

theorem toI_inf {x : Nat} {s : Bool} (h : FloatKind.f64.decode x = .infinity s) : Extern.MathFloor.toIntegral "math.archTrunc" .zero #[.float .f64 x] = pure (.float .f64 (trn x)) := by
  have e : trn x = FloatKind.f64.encode ((Datum.infinity s).integral .zero) := by rw [← h]; rfl
  rw [e]
  conv => lhs; whnf
  rw [h]

theorem toI_nan {x : Nat} {s : Bool} {f : Nat} (h : FloatKind.f64.decode x = .nan s f) (w : World) : ∃ r w', (Extern.MathFloor.toIntegral "math.archTrunc" .zero #[.float .f64 x]).run Tryd.prog w = .ok (.float .f64 r) w' ∧ Below w.heap.size w w' := by
  conv => enter [1, r, 1, w', 1, 1, 2]; whnf
  rw [h]
  by_cases q : FloatKind.f64.format.quiet f = f
  · simp only [q, if_true]
    exact ⟨_, _, rfl, Below.refl _ _⟩
  · simp only [q, if_false]
    exact ⟨_, w.drew, by simp [Question.forced]; rfl, (Below.refl _ _).drew⟩

theorem arch_any (x : Nat) (w : World) : ∃ r w', (callFunc 67 #[.float .f64 x]).run Tryd.prog w = .ok (.value (.float .f64 r)) w' ∧ Below w.heap.size w w' ∧ ((∀ s f, double.read x ≠ .nan s f) → r = trn x ∧ w = w') := by
  rw [run_arch]
  cases hr : double.read x with
  | nan s f =>
    obtain ⟨r, w', h1, h2⟩ := toI_nan hr w
    exact ⟨r, w', by rw [h1]; rfl, h2, fun h => absurd rfl (h s f)⟩
  | infinity s => exact ⟨trn x, w, by rw [toI_inf hr]; rfl, Below.refl _ _, fun _ => ⟨rfl, rfl⟩⟩
  | number s m p => exact ⟨trn x, w, by rw [toI_num hr]; rfl, Below.refl _ _, fun _ => ⟨rfl, rfl⟩⟩

theorem trunc_any (x : Nat) (w : World) : Calls Tryd.prog 56 #[.float .f64 x] w fun e w' => ∃ r, e = .returned (.float .f64 r) ∧ Below w.heap.size w w' ∧ ((∀ s f, double.read x ≠ .nan s f) → r = trn x ∧ w = w') := by
  obtain ⟨r, w', h1, h2, h3⟩ := arch_any x w
  go_enter Tryd.func56, Tryd.ntmps56
  go_wp2_with (simp only [h1])
  go_ret
  exact ⟨r, rfl, h2, h3⟩

end Go.Proofs.YtmobkjdncfdokaaDoor
