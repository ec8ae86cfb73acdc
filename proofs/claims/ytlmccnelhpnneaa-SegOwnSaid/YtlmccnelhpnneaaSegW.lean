/- Settings that divide lists; the walk of the document's May; settings that came in by value. -/
import Derived.Test.YtlmccnelhpnneaaGA
import Derived.Test.YtlmccnelhpnneaaGG
import Derived.Test.YtlmccnelhpnneaaGE
import Derived.Lib.SmallJoins
import Derived.OpenShut
namespace Go.Proofs.Ytlmccnelhpnneaa
open Go.RowKit Go.Joins Go.ChangeShapes Go.WideShapes Go.Deep

/-- Settings in cells: those of segments. -/
structure IsSeg (C : Array Value) (a b d : Int) : Prop where
  size : C.size = 13
  c4 : C[4]? = some (.int .i64 a)
  c5 : C[5]? = some (.int .i64 b)
  c6 : C[6]? = some (.int .i64 d)
  one : C.all (·.oneCell') = true

def MayS (a b d : Int) : Prop := 1 ≤ a ∧ a ≤ b ∧ b ≤ 256 ∧ 1 ≤ d ∧ d ≤ 1048576
instance (a b d : Int) : Decidable (MayS a b d) := by unfold MayS; infer_instance

theorem mayS_nats {a b d : Int} (h : MayS a b d) : ∃ mn mx dv : Nat, a = mn ∧ b = mx ∧ d = dv ∧ 1 ≤ mn ∧ mn ≤ mx ∧ mx ≤ 256 ∧ 1 ≤ dv ∧ dv ≤ 1048576 := by
  obtain ⟨h1, h2, h3, h4, h5⟩ := h
  exact ⟨a.toNat, b.toNat, d.toNat, by omega, by omega, by omega, by omega, by omega, by omega, by omega, by omega⟩

/-- A mark: a fingerprint whose number is a multiple of the divisor. -/
def markB (d : Nat) (l : List UInt8) : Bool := numL l % d == 0

/-- The first segment's length, for any settings. -/
def segI (a b d : Int) (l : List (List UInt8)) : Nat := if MayS a b d then segN (markB d.toNat) a.toNat b.toNat l else 0

theorem segI_le (a b d : Int) (l : List (List UInt8)) : segI a b d l ≤ l.length := by
  unfold segI
  split
  · rename_i h; exact segN_le _ _ _ _ (by have := h.1; omega)
  · omega

theorem mark_int (l : List UInt8) (d : Nat) (_hd : 1 ≤ d) : (((numL l : Nat) : Int).tmod (d : Int) == 0) = markB d l := by
  unfold markB
  rw [Int.tmod_eq_emod_of_nonneg (by omega)]
  have e : (((numL l : Nat) : Int) % (d : Int)) = ((numL l % d : Nat) : Int) := by simp
  rw [e]
  by_cases c : numL l % d = 0
  · rw [c]; simp
  · rw [beq_eq_false_iff_ne.2 (by omega), beq_eq_false_iff_ne.2 c]

theorem numL_lt (l : List UInt8) : numL l < 4294967296 := by
  have := numK_lt l 4
  rw [numK_four] at this
  omega

set_option maxRecDepth 100000 in
set_option maxHeartbeats 1000000 in
theorem rmays_any (C : Array Value) (a b d : Int) (hC : IsSeg C a b d) (w : World) :
    Calls Try.prog 10 #[.agg C] w fun e w' => e = .returned (.bool (decide (MayS a b d))) ∧ Below w.heap.size w w' := by
  have e0 := hC.c4
  have e1 := hC.c5
  have e2 := hC.c6
  clear hC
  by_cases p1 : 1 ≤ a
  · by_cases p2 : a ≤ b
    · by_cases p3 : b ≤ 256
      · by_cases p4 : 1 ≤ d
        · by_cases p5 : d ≤ 1048576
          · rw [decide_eq_true (show MayS a b d from ⟨p1, p2, p3, p4, p5⟩)]
            go_enter Try.func10, Try.ntmps10
            go_wp2
            go_ret
            exact ⟨rfl, box_below _ _⟩
          · rw [decide_eq_false fun x : MayS a b d => p5 x.2.2.2.2]
            go_enter Try.func10, Try.ntmps10
            go_wp2
            go_ret
            exact ⟨rfl, box_below _ _⟩
        · rw [decide_eq_false fun x : MayS a b d => p4 x.2.2.2.1]
          go_enter Try.func10, Try.ntmps10
          go_wp2
          go_ret
          exact ⟨rfl, box_below _ _⟩
      · rw [decide_eq_false fun x : MayS a b d => p3 x.2.2.1]
        go_enter Try.func10, Try.ntmps10
        go_wp2
        go_ret
        exact ⟨rfl, box_below _ _⟩
    · rw [decide_eq_false fun x : MayS a b d => p2 x.2.1]
      go_enter Try.func10, Try.ntmps10
      go_wp2
      go_ret
      exact ⟨rfl, box_below _ _⟩
  · rw [decide_eq_false fun x : MayS a b d => p1 x.1]
    go_enter Try.func10, Try.ntmps10
    go_wp2
    go_ret
    exact ⟨rfl, box_below _ _⟩

theorem cellsI : Try.prog.cellsOf 3 = 1 := by kernel_rfl
theorem cells13 : Try.prog.cellsOf 24 = 13 := by kernel_rfl

theorem open_sconf {H : Type} {enc : TypeId × Value → H} {w : World} {base : Nat} {spare : Nat → Bool} {held : Bool} {r : Reach} {b0 : Nat} {v : Value} {d : DataW H} {p : List MemPlace}
    (hv : Value.okWide Try.prog w r b0 24 v) (h : DataW.Trod enc Try.prog w base spare held 24 v d p) : ∃ (C : Array Value) (x0 x1 x2 : Int), IsSeg C x0 x1 x2 ∧ v = .agg C := by
  have hs := Try.underlying24
  obtain ⟨cs, rfl, hsz⟩ := okWide_struct hs hv
  obtain ⟨l⟩ := cs
  match l, hsz.trans cells13 with
  | [c0, c1, c2, c3, c4, c5, c6, c7, c8, c9, c10, c11, c12], _ =>
    obtain ⟨fuel, hf⟩ := h
    obtain ⟨xs, n, _, hx, _, hlen, hg⟩ := DataW.trod_struct hs hf
    match xs, hlen with
    | [y0, y1, y2, y3, y4, y5, y6, y7, y8, y9, y10, y11, y12], _ =>
      have g0 : DataW.trod enc Try.prog w base spare held n 3 [c0] = some y0 := by simpa [Value.cells, cellsI] using hg 0 _ rfl
      have g1 : DataW.trod enc Try.prog w base spare held n 3 [c1] = some y1 := by simpa [Value.cells, cellsI] using hg 1 _ rfl
      have g2 : DataW.trod enc Try.prog w base spare held n 3 [c2] = some y2 := by simpa [Value.cells, cellsI] using hg 2 _ rfl
      have g3 : DataW.trod enc Try.prog w base spare held n 3 [c3] = some y3 := by simpa [Value.cells, cellsI] using hg 3 _ rfl
      have g4 : DataW.trod enc Try.prog w base spare held n 3 [c4] = some y4 := by simpa [Value.cells, cellsI] using hg 4 _ rfl
      have g5 : DataW.trod enc Try.prog w base spare held n 3 [c5] = some y5 := by simpa [Value.cells, cellsI] using hg 5 _ rfl
      have g6 : DataW.trod enc Try.prog w base spare held n 3 [c6] = some y6 := by simpa [Value.cells, cellsI] using hg 6 _ rfl
      have g7 : DataW.trod enc Try.prog w base spare held n 3 [c7] = some y7 := by simpa [Value.cells, cellsI] using hg 7 _ rfl
      have g8 : DataW.trod enc Try.prog w base spare held n 3 [c8] = some y8 := by simpa [Value.cells, cellsI] using hg 8 _ rfl
      have g9 : DataW.trod enc Try.prog w base spare held n 3 [c9] = some y9 := by simpa [Value.cells, cellsI] using hg 9 _ rfl
      have g10 : DataW.trod enc Try.prog w base spare held n 3 [c10] = some y10 := by simpa [Value.cells, cellsI] using hg 10 _ rfl
      have g11 : DataW.trod enc Try.prog w base spare held n 3 [c11] = some y11 := by simpa [Value.cells, cellsI] using hg 11 _ rfl
      have g12 : DataW.trod enc Try.prog w base spare held n 3 [c12] = some y12 := by simpa [Value.cells, cellsI] using hg 12 _ rfl
      obtain ⟨n0, e0, _, w0⟩ := DataW.trod_int Try.underlying3 g0
      obtain ⟨n1, e1, _, w1⟩ := DataW.trod_int Try.underlying3 g1
      obtain ⟨n2, e2, _, w2⟩ := DataW.trod_int Try.underlying3 g2
      obtain ⟨n3, e3, _, w3⟩ := DataW.trod_int Try.underlying3 g3
      obtain ⟨n4, e4, _, w4⟩ := DataW.trod_int Try.underlying3 g4
      obtain ⟨n5, e5, _, w5⟩ := DataW.trod_int Try.underlying3 g5
      obtain ⟨n6, e6, _, w6⟩ := DataW.trod_int Try.underlying3 g6
      obtain ⟨n7, e7, _, w7⟩ := DataW.trod_int Try.underlying3 g7
      obtain ⟨n8, e8, _, w8⟩ := DataW.trod_int Try.underlying3 g8
      obtain ⟨n9, e9, _, w9⟩ := DataW.trod_int Try.underlying3 g9
      obtain ⟨n10, e10, _, w10⟩ := DataW.trod_int Try.underlying3 g10
      obtain ⟨n11, e11, _, w11⟩ := DataW.trod_int Try.underlying3 g11
      obtain ⟨n12, e12, _, w12⟩ := DataW.trod_int Try.underlying3 g12
      simp only [List.cons.injEq, and_true] at e0 e1 e2 e3 e4 e5 e6 e7 e8 e9 e10 e11 e12
      subst e0 e1 e2 e3 e4 e5 e6 e7 e8 e9 e10 e11 e12
      exact ⟨_, n4, n5, n6, ⟨rfl, rfl, rfl, rfl, by simp [Value.oneCell']⟩, rfl⟩

end Go.Proofs.Ytlmccnelhpnneaa
