/- A struct of two floats that came in by value. -/
import Derived.Test.YtmobkjdncfdokaaPart
import Derived.Lib.SmallJoins
namespace Go.Proofs.Ytmobkjdncfdokaa
open Go.Joins Go.ChangeShapes Go.WideShapes Go.RowKit Go.Deep

theorem cellsF : Try.prog.cellsOf 34 = 1 := by kernel_rfl
theorem cellsZ : Try.prog.cellsOf 36 = 2 := by kernel_rfl

theorem wf64 {n : Nat} (h : (Lit.float .f64 n).wf = true) : n < 2 ^ 64 := by
  simpa [Lit.wf] using h

theorem trod_float {H : Type} {enc : TypeId × Value → H} {w : World} {base : Nat} {spare : Nat → Bool} {held : Bool} {n : Nat} {cs : List Value} {y : DataW H × List MemPlace}
    (h : DataW.trod enc Try.prog w base spare held n 34 cs = some y) : ∃ b, cs = [.float .f64 b] ∧ b < 2 ^ 64 := by
  have ht := Try.underlying34
  cases n with
  | zero => simp [DataW.trod] at h
  | succ n =>
    unfold DataW.trod at h
    rw [ht] at h
    split at h
    case h_1 => simp_all
    all_goals simp_all
    rename_i hk
    subst hk
    exact wf64 h.1.2

theorem open_z {H : Type} {enc : TypeId × Value → H} {w : World} {base : Nat} {spare : Nat → Bool} {held : Bool} {r : Reach} {b0 : Nat} {v : Value} {d : DataW H} {p : List MemPlace}
    (hv : Value.okWide Try.prog w r b0 36 v) (h : DataW.Trod enc Try.prog w base spare held 36 v d p) : ∃ x y : Nat, x < 2 ^ 64 ∧ y < 2 ^ 64 ∧ v = .agg #[.float .f64 x, .float .f64 y] := by
  have hs := Try.underlying36
  obtain ⟨cs, rfl, hsz⟩ := okWide_struct hs hv
  obtain ⟨l⟩ := cs
  match l, hsz.trans cellsZ with
  | [c0, c1], _ =>
    obtain ⟨fuel, hf⟩ := h
    obtain ⟨xs, n, _, hx, _, hlen, hg⟩ := DataW.trod_struct hs hf
    match xs, hlen with
    | [y0, y1], _ =>
      have g0 : DataW.trod enc Try.prog w base spare held n 34 [c0] = some y0 := by simpa [Value.cells, cellsF] using hg 0 _ rfl
      have g1 : DataW.trod enc Try.prog w base spare held n 34 [c1] = some y1 := by simpa [Value.cells, cellsF] using hg 1 _ rfl
      obtain ⟨x, e0, hx0⟩ := trod_float g0
      obtain ⟨y, e1, hx1⟩ := trod_float g1
      simp only [List.cons.injEq, and_true] at e0 e1
      subst e0 e1
      exact ⟨x, y, hx0, hx1, rfl⟩

end Go.Proofs.Ytmobkjdncfdokaa
