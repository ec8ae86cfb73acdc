/- A struct of two floats that came in by value. -/
import Derived.Test.YtmobkjdncfdokaaDoorPart
import Derived.Lib.SmallJoins
namespace Go.Proofs.YtmobkjdncfdokaaDoor
open Go.Joins Go.ChangeShapes Go.WideShapes Go.RowKit Go.Deep

theorem cellsF : Tryd.prog.cellsOf 22 = 1 := by kernel_rfl
theorem cellsZ : Tryd.prog.cellsOf 24 = 2 := by kernel_rfl

theorem wf64 {n : Nat} (h : (Lit.float .f64 n).wf = true) : n < 2 ^ 64 := by
  simpa [Lit.wf] using h

set_option maxRecDepth 100000 in
theorem trod_float {H : Type} {enc : TypeId × Value → H} {w : World} {base : Nat} {spare : Nat → Bool} {held : Bool} {n : Nat} {cs : List Value} {y : DataW H × List MemPlace}
    (h : DataW.trod enc Tryd.prog w base spare held n 22 cs = some y) : ∃ b, cs = [.float .f64 b] ∧ b < 2 ^ 64 := by
  have ht := Tryd.underlying22
  cases n with
  | zero => simp [DataW.trod] at h
  | succ n =>
    unfold DataW.trod at h
    rw [ht] at h
    split at h
    case h_1 => simp_all
    all_goals simp_all
    rename_i hk
    subst hk
    exact wf64 h.1.2

set_option maxRecDepth 100000 in
theorem open_z {H : Type} {enc : TypeId × Value → H} {w : World} {base : Nat} {spare : Nat → Bool} {held : Bool} {r : Reach} {b0 : Nat} {v : Value} {d : DataW H} {p : List MemPlace}
    (hv : Value.okWide Tryd.prog w r b0 24 v) (h : DataW.Trod enc Tryd.prog w base spare held 24 v d p) : ∃ x y : Nat, x < 2 ^ 64 ∧ y < 2 ^ 64 ∧ v = .agg #[.float .f64 x, .float .f64 y] := by
  have hs := Tryd.underlying24
  obtain ⟨cs, rfl, hsz⟩ := okWide_struct hs hv
  obtain ⟨l⟩ := cs
  match l, hsz.trans cellsZ with
  | [c0, c1], _ =>
    obtain ⟨fuel, hf⟩ := h
    obtain ⟨xs, n, _, hx, _, hlen, hg⟩ := DataW.trod_struct hs hf
    match xs, hlen with
    | [y0, y1], _ =>
      have g0 : DataW.trod enc Tryd.prog w base spare held n 22 [c0] = some y0 := by simpa [Value.cells, cellsF] using hg 0 _ rfl
      have g1 : DataW.trod enc Tryd.prog w base spare held n 22 [c1] = some y1 := by simpa [Value.cells, cellsF] using hg 1 _ rfl
      obtain ⟨x, e0, hx0⟩ := trod_float g0
      obtain ⟨y, e1, hx1⟩ := trod_float g1
      simp only [List.cons.injEq, and_true] at e0 e1
      subst e0 e1
      exact ⟨x, y, hx0, hx1, rfl⟩

end Go.Proofs.YtmobkjdncfdokaaDoor
