/- Settings (a struct of thirteen ints) that came in by value. -/
import Derived.Test.YtimllddlcjnikaaDoorCutW
import Derived.Lib.SmallJoins
import Derived.OpenShut
namespace Go.Proofs.YtimllddlcjnikaaDoor
open Go.Joins Go.ChangeShapes Go.WideShapes Go.RowKit Go.Deep

theorem cellsI : Tryd.prog.cellsOf 3 = 1 := by kernel_rfl
theorem cells13 : Tryd.prog.cellsOf 23 = 13 := by kernel_rfl

theorem open_conf {H : Type} {enc : TypeId × Value → H} {w : World} {base : Nat} {spare : Nat → Bool} {held : Bool} {r : Reach} {b0 : Nat} {v : Value} {d : DataW H} {p : List MemPlace}
    (hv : Value.okWide Tryd.prog w r b0 23 v) (h : DataW.Trod enc Tryd.prog w base spare held 23 v d p) : ∃ (C : Array Value) (x0 x1 x2 x3 : Int), IsConf C x0 x1 x2 x3 ∧ v = .agg C := by
  have hs := Tryd.underlying23
  obtain ⟨cs, rfl, hsz⟩ := okWide_struct hs hv
  obtain ⟨l⟩ := cs
  match l, hsz.trans cells13 with
  | [c0, c1, c2, c3, c4, c5, c6, c7, c8, c9, c10, c11, c12], _ =>
    obtain ⟨fuel, hf⟩ := h
    obtain ⟨xs, n, _, hx, _, hlen, hg⟩ := DataW.trod_struct hs hf
    match xs, hlen with
    | [y0, y1, y2, y3, y4, y5, y6, y7, y8, y9, y10, y11, y12], _ =>
      have g0 : DataW.trod enc Tryd.prog w base spare held n 3 [c0] = some y0 := by simpa [Value.cells, cellsI] using hg 0 _ rfl
      have g1 : DataW.trod enc Tryd.prog w base spare held n 3 [c1] = some y1 := by simpa [Value.cells, cellsI] using hg 1 _ rfl
      have g2 : DataW.trod enc Tryd.prog w base spare held n 3 [c2] = some y2 := by simpa [Value.cells, cellsI] using hg 2 _ rfl
      have g3 : DataW.trod enc Tryd.prog w base spare held n 3 [c3] = some y3 := by simpa [Value.cells, cellsI] using hg 3 _ rfl
      have g4 : DataW.trod enc Tryd.prog w base spare held n 3 [c4] = some y4 := by simpa [Value.cells, cellsI] using hg 4 _ rfl
      have g5 : DataW.trod enc Tryd.prog w base spare held n 3 [c5] = some y5 := by simpa [Value.cells, cellsI] using hg 5 _ rfl
      have g6 : DataW.trod enc Tryd.prog w base spare held n 3 [c6] = some y6 := by simpa [Value.cells, cellsI] using hg 6 _ rfl
      have g7 : DataW.trod enc Tryd.prog w base spare held n 3 [c7] = some y7 := by simpa [Value.cells, cellsI] using hg 7 _ rfl
      have g8 : DataW.trod enc Tryd.prog w base spare held n 3 [c8] = some y8 := by simpa [Value.cells, cellsI] using hg 8 _ rfl
      have g9 : DataW.trod enc Tryd.prog w base spare held n 3 [c9] = some y9 := by simpa [Value.cells, cellsI] using hg 9 _ rfl
      have g10 : DataW.trod enc Tryd.prog w base spare held n 3 [c10] = some y10 := by simpa [Value.cells, cellsI] using hg 10 _ rfl
      have g11 : DataW.trod enc Tryd.prog w base spare held n 3 [c11] = some y11 := by simpa [Value.cells, cellsI] using hg 11 _ rfl
      have g12 : DataW.trod enc Tryd.prog w base spare held n 3 [c12] = some y12 := by simpa [Value.cells, cellsI] using hg 12 _ rfl
      obtain ⟨n0, e0, _, w0⟩ := DataW.trod_int Tryd.underlying3 g0
      obtain ⟨n1, e1, _, w1⟩ := DataW.trod_int Tryd.underlying3 g1
      obtain ⟨n2, e2, _, w2⟩ := DataW.trod_int Tryd.underlying3 g2
      obtain ⟨n3, e3, _, w3⟩ := DataW.trod_int Tryd.underlying3 g3
      obtain ⟨n4, e4, _, w4⟩ := DataW.trod_int Tryd.underlying3 g4
      obtain ⟨n5, e5, _, w5⟩ := DataW.trod_int Tryd.underlying3 g5
      obtain ⟨n6, e6, _, w6⟩ := DataW.trod_int Tryd.underlying3 g6
      obtain ⟨n7, e7, _, w7⟩ := DataW.trod_int Tryd.underlying3 g7
      obtain ⟨n8, e8, _, w8⟩ := DataW.trod_int Tryd.underlying3 g8
      obtain ⟨n9, e9, _, w9⟩ := DataW.trod_int Tryd.underlying3 g9
      obtain ⟨n10, e10, _, w10⟩ := DataW.trod_int Tryd.underlying3 g10
      obtain ⟨n11, e11, _, w11⟩ := DataW.trod_int Tryd.underlying3 g11
      obtain ⟨n12, e12, _, w12⟩ := DataW.trod_int Tryd.underlying3 g12
      simp only [List.cons.injEq, and_true] at e0 e1 e2 e3 e4 e5 e6 e7 e8 e9 e10 e11 e12
      subst e0 e1 e2 e3 e4 e5 e6 e7 e8 e9 e10 e11 e12
      exact ⟨_, n0, n1, n2, n3, ⟨rfl, rfl, rfl, rfl, rfl, by simp [Value.oneCell']⟩, rfl⟩

end Go.Proofs.YtimllddlcjnikaaDoor
