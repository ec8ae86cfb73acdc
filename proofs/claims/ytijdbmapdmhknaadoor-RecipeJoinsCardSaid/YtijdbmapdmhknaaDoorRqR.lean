/- Recipes in memory: numbers of 32 bits, a recipe as a value, slices of recipes. -/
import Derived.Test.YtijdbmapdmhknaaDoorRows
import Derived.Test.YtijdbmapdmhknaaDoorGA
import Derived.Test.YtijdbmapdmhknaaDoorUs
namespace Go.Proofs.YtijdbmapdmhknaaDoor
open Go.RowKit

def isQ (z : Int) : Prop := -9223372036854775808 ≤ z ∧ z ≤ 9223372036854775807
instance (z : Int) : Decidable (isQ z) := by unfold isQ; infer_instance
/-- Numbers of the machine. -/
structure Rp.wf (r : Rp) : Prop where
  name : r.name.length ≤ maxLen
  size : isQ r.size
  re : isQ r.re
  im : isQ r.im
def rpC (r : Rp) (tv : Value) : Array Value := #[.string (str r.name), .int .i64 r.size, .int .i64 r.re, .int .i64 r.im, tv]
structure RpAt (r : Rp) (tv : Value) (w : World) : Prop where
  mans : UsAt r.mans tv w
  wf : r.wf
/-- A recipe, as a value. -/
def RpIs (r : Rp) (v : Value) (w : World) : Prop := ∃ tv, v = .agg (rpC r tv) ∧ RpAt r tv w
theorem RpAt.later {r : Rp} {tv : Value} {w w' : World} (h : RpAt r tv w) (k : Kept w w') : RpAt r tv w' := ⟨h.mans.later k, h.wf⟩
theorem RpIs.later {r : Rp} {v : Value} {w w' : World} (h : RpIs r v w) (k : Kept w w') : RpIs r v w' := by
  obtain ⟨tv, e, h⟩ := h
  exact ⟨tv, e, h.later k⟩
theorem Rp.zero_wf : Rp.zero.wf := ⟨Nat.zero_le _, by decide, by decide, by decide⟩
theorem RpIs.zero (w : World) : RpIs Rp.zero (.agg #[.string ⟨#[]⟩, .int .i64 0, .int .i64 0, .int .i64 0, .slice none 0 0]) w :=
  ⟨_, rfl, RowsAt.nil w 0, Rp.zero_wf⟩
/-- A recipe with the slice of its manifests, cell by cell. -/
def rpL (a : Rp × Value) : List Value := (rpC a.1 a.2).toList
def okRp (a : Rp × Value) : Prop := a.2.oneCell' = true
theorem encRp : Enc rpL 5 okRp := ⟨fun _ _ => rfl, fun p hp x hx => by
  simp only [rpL, rpC, List.mem_cons, List.not_mem_nil, or_false] at hx
  rcases hx with rfl | rfl | rfl | rfl | rfl
  · rfl
  · rfl
  · rfl
  · rfl
  · exact hp, by decide⟩
structure RpsIn (A : List (Rp × Value)) (v : Value) (w : World) : Prop where
  each : ∀ a ∈ A, RpAt a.1 a.2 w
  rows : RowsAt rpL 5 okRp A v w
theorem RpsIn.later {A : List (Rp × Value)} {v : Value} {w w' : World} (h : RpsIn A v w) (k : Kept w w') : RpsIn A v w' := ⟨fun a ha => (h.each a ha).later k, h.rows.later k⟩
/-- A slice of recipes. -/
def RpsAt (l : List Rp) (v : Value) (w : World) : Prop := ∃ A : List (Rp × Value), A.map Prod.fst = l ∧ RpsIn A v w
theorem RpsAt.later {l : List Rp} {v : Value} {w w' : World} (h : RpsAt l v w) (k : Kept w w') : RpsAt l v w' := by
  obtain ⟨A, e, h⟩ := h
  exact ⟨A, e, h.later k⟩
theorem RpsAt.nil (w : World) (c : Nat) : RpsAt [] (.slice none 0 c) w := ⟨[], rfl, fun a ha => (by cases ha), RowsAt.nil w c⟩
theorem infoRp : (Tryd.prog.info? 24).map (·.size) = some 5 := by kernel_rfl
theorem info_rp : (Tryd.prog.info? 24).map (fun i => (i.zero, i.size, i.bytes)) = some (some (.agg #[.string ⟨#[]⟩, .int .i64 0, .int .i64 0, .int .i64 0, .slice none 0 0]), 5, 64) := by kernel_rfl

end Go.Proofs.YtijdbmapdmhknaaDoor
