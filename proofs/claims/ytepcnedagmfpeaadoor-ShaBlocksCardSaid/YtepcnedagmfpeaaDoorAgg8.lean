/- A struct of eight words that came in by value. -/
import Derived.Test.YtepcnedagmfpeaaDoorExp
import Derived.Lib.SmallJoins
namespace Go.Proofs.YtepcnedagmfpeaaDoor
open Go.Joins Go.ChangeShapes Go.WideShapes Go.RowKit Go.Deep

theorem cellsW : Tryd.prog.cellsOf 36 = 1 := by kernel_rfl
theorem cells8 : Tryd.prog.cellsOf 38 = 8 := by kernel_rfl

theorem wf32 {n : Int} (h : (Lit.int .u32 n).wf = true) : 0 ≤ n ∧ n ≤ 4294967295 := by
  simp [Lit.wf, IntKind.min, IntKind.max, IntKind.bits, IntKind.signed] at h
  omega

theorem open_st {H : Type} {enc : TypeId × Value → H} {w : World} {base : Nat} {spare : Nat → Bool} {held : Bool} {r : Reach} {b0 : Nat} {v : Value} {d : DataW H} {p : List MemPlace}
    (hv : Value.okWide Tryd.prog w r b0 38 v) (h : DataW.Trod enc Tryd.prog w base spare held 38 v d p) : ∃ s : St, s.lo ∧ v = .agg (nuA s.list) := by
  have hs := Tryd.underlying38
  obtain ⟨cs, rfl, hsz⟩ := okWide_struct hs hv
  obtain ⟨l⟩ := cs
  match l, hsz.trans cells8 with
  | [c0, c1, c2, c3, c4, c5, c6, c7], _ =>
    obtain ⟨fuel, hf⟩ := h
    obtain ⟨xs, n, _, hx, _, hlen, hg⟩ := DataW.trod_struct hs hf
    match xs, hlen with
    | [y0, y1, y2, y3, y4, y5, y6, y7], _ =>
      have g0 : DataW.trod enc Tryd.prog w base spare held n 36 [c0] = some y0 := by simpa [Value.cells, cellsW] using hg 0 _ rfl
      have g1 : DataW.trod enc Tryd.prog w base spare held n 36 [c1] = some y1 := by simpa [Value.cells, cellsW] using hg 1 _ rfl
      have g2 : DataW.trod enc Tryd.prog w base spare held n 36 [c2] = some y2 := by simpa [Value.cells, cellsW] using hg 2 _ rfl
      have g3 : DataW.trod enc Tryd.prog w base spare held n 36 [c3] = some y3 := by simpa [Value.cells, cellsW] using hg 3 _ rfl
      have g4 : DataW.trod enc Tryd.prog w base spare held n 36 [c4] = some y4 := by simpa [Value.cells, cellsW] using hg 4 _ rfl
      have g5 : DataW.trod enc Tryd.prog w base spare held n 36 [c5] = some y5 := by simpa [Value.cells, cellsW] using hg 5 _ rfl
      have g6 : DataW.trod enc Tryd.prog w base spare held n 36 [c6] = some y6 := by simpa [Value.cells, cellsW] using hg 6 _ rfl
      have g7 : DataW.trod enc Tryd.prog w base spare held n 36 [c7] = some y7 := by simpa [Value.cells, cellsW] using hg 7 _ rfl
      obtain ⟨n0, e0, _, w0⟩ := DataW.trod_int Tryd.underlying36 g0
      obtain ⟨n1, e1, _, w1⟩ := DataW.trod_int Tryd.underlying36 g1
      obtain ⟨n2, e2, _, w2⟩ := DataW.trod_int Tryd.underlying36 g2
      obtain ⟨n3, e3, _, w3⟩ := DataW.trod_int Tryd.underlying36 g3
      obtain ⟨n4, e4, _, w4⟩ := DataW.trod_int Tryd.underlying36 g4
      obtain ⟨n5, e5, _, w5⟩ := DataW.trod_int Tryd.underlying36 g5
      obtain ⟨n6, e6, _, w6⟩ := DataW.trod_int Tryd.underlying36 g6
      obtain ⟨n7, e7, _, w7⟩ := DataW.trod_int Tryd.underlying36 g7
      obtain ⟨a0, b0⟩ := wf32 w0
      obtain ⟨a1, b1⟩ := wf32 w1
      obtain ⟨a2, b2⟩ := wf32 w2
      obtain ⟨a3, b3⟩ := wf32 w3
      obtain ⟨a4, b4⟩ := wf32 w4
      obtain ⟨a5, b5⟩ := wf32 w5
      obtain ⟨a6, b6⟩ := wf32 w6
      obtain ⟨a7, b7⟩ := wf32 w7
      obtain ⟨m0, rfl⟩ := Int.eq_ofNat_of_zero_le a0
      obtain ⟨m1, rfl⟩ := Int.eq_ofNat_of_zero_le a1
      obtain ⟨m2, rfl⟩ := Int.eq_ofNat_of_zero_le a2
      obtain ⟨m3, rfl⟩ := Int.eq_ofNat_of_zero_le a3
      obtain ⟨m4, rfl⟩ := Int.eq_ofNat_of_zero_le a4
      obtain ⟨m5, rfl⟩ := Int.eq_ofNat_of_zero_le a5
      obtain ⟨m6, rfl⟩ := Int.eq_ofNat_of_zero_le a6
      obtain ⟨m7, rfl⟩ := Int.eq_ofNat_of_zero_le a7
      simp only [List.cons.injEq, and_true] at e0 e1 e2 e3 e4 e5 e6 e7
      subst e0 e1 e2 e3 e4 e5 e6 e7
      exact ⟨⟨m0, m1, m2, m3, m4, m5, m6, m7⟩, ⟨by simp only; omega, by simp only; omega, by simp only; omega, by simp only; omega, by simp only; omega, by simp only; omega, by simp only; omega, by simp only; omega⟩, rfl⟩

end Go.Proofs.YtepcnedagmfpeaaDoor
