/- Acts on a sparse index as arguments. -/
import Derived.Test.YtaajadmaamjebaaSxV
import Derived.Test.YtaajadmaamjebaaRwo
namespace Go.Proofs.Ytaajadmaamjebaa
open Go.Joins Go.ChangeShapes Go.WideShapes Go.RowKit Go.Deep

section
variable {H : Type} {ec : TypeId × Value → H} {w : World} {base : Nat} {spare : Nat → Bool} {held : Bool}

theorem cellsAc : Try.prog.cellsOf 36 = 3 := by kernel_rfl
theorem cellsIntS : Try.prog.cellsOf 3 = 1 := by kernel_rfl
theorem cellsU32S : Try.prog.cellsOf 33 = 1 := by kernel_rfl
theorem cellsFpsS : Try.prog.cellsOf 34 = 1 := by kernel_rfl
theorem wfS_i64 {i : Int} (h : (Lit.int .i64 i).wf = true) : -9223372036854775808 ≤ i ∧ i ≤ 9223372036854775807 := by
  simpa [Lit.wf, IntKind.min, IntKind.max, IntKind.signed, IntKind.bits] using h
theorem wfS_u32 {i : Int} (h : (Lit.int .u32 i).wf = true) : 0 ≤ i ∧ i < 4294967296 := by
  have h2 : 0 ≤ i ∧ i ≤ 4294967295 := by simpa [Lit.wf, IntKind.min, IntKind.max, IntKind.signed, IntKind.bits] using h
  omega
theorem open_fpsS {fuel : Nat} {cs : List Value} {x : DataW H × List MemPlace} (h : DataW.trod ec Try.prog w base spare held fuel 34 cs = some x) : ∃ (v : Value) (ls : List (List UInt8)), cs = [v] ∧ FpsAt 32 ls v w ∧ ls.length ≤ maxLen :=
  open_fps Try.underlying34 Try.underlying47 Try.underlying5 (by kernel_rfl) (by kernel_rfl) (by decide) h

/-- An act whose hooks lie in this memory. -/
def okAcW (w : World) (a : AcS × Value) : Prop := okAc a ∧ AcAt a.1 a.2 w
theorem encAcW (w : World) : Enc acL 3 (okAcW w) := ⟨fun a ha => encAc.len a ha.1, fun a ha => encAc.one a ha.1, by decide⟩
set_option maxRecDepth 100000 in
theorem trod_ac {fuel : Nat} {cs : List Value} {x : DataW H × List MemPlace} (h : DataW.trod ec Try.prog w base spare held fuel 36 cs = some x) : ∃ r : AcS × Value, okAcW w r ∧ cs = acL r := by
  obtain ⟨xs, n, _, _, hsz, hlen, hg⟩ := DataW.trod_struct Try.underlying36 h
  match cs, hsz.trans cellsAc with
  | [c0, c1, c2], _ =>
    match xs, hlen with
    | [y0, y1, y2], _ =>
      have g0 : DataW.trod ec Try.prog w base spare held n 3 [c0] = some y0 := by simpa [cellsIntS] using hg 0 _ rfl
      have g1 : DataW.trod ec Try.prog w base spare held n 33 [c1] = some y1 := by simpa [cellsU32S] using hg 1 _ rfl
      have g2 : DataW.trod ec Try.prog w base spare held n 34 [c2] = some y2 := by simpa [cellsFpsS] using hg 2 _ rfl
      obtain ⟨n0, e0, _, w0⟩ := DataW.trod_int Try.underlying3 g0
      obtain ⟨n1, e1, _, w1⟩ := DataW.trod_int Try.underlying33 g1
      obtain ⟨v2, l2, e2, w2, _⟩ := open_fpsS g2
      have h1 := wfS_u32 w1
      obtain ⟨q, rfl⟩ := Int.eq_ofNat_of_zero_le h1.1
      simp only [List.cons.injEq, and_true] at e0 e1 e2
      subst e0 e1 e2
      exact ⟨(⟨n0, q, l2⟩, c2), ⟨w2.oneS, w2, by show q < 4294967296; omega, wfS_i64 w0⟩, rfl⟩
set_option maxRecDepth 100000 in
theorem open_acs {fuel : Nat} {cs : List Value} {x : DataW H × List MemPlace} (h : DataW.trod ec Try.prog w base spare held fuel 22 cs = some x) : ∃ (v : Value) (l : List AcS), cs = [v] ∧ AcsAt l v w ∧ l.length ≤ maxLen := by
  haveI : Inhabited (AcS × Value) := ⟨(AcS.zero, undef)⟩
  obtain ⟨v, A, e, h1, h2⟩ := open_rowsG (encAcW w) Try.underlying22 cellsAc trod_ac h
  exact ⟨v, A.map Prod.fst, e, ⟨A, rfl, ⟨fun a ha => (h1.good a ha).2, ⟨h1.cap, fun a ha => (h1.good a ha).1, h1.at_⟩⟩⟩, by rw [List.length_map]; exact h2⟩
end

end Go.Proofs.Ytaajadmaamjebaa
