/- Lists of runs that stand while other blocks change. -/
import Derived.Test.YtkdodffnakdckaaExR
namespace Go.Proofs.Ytkdodffnakdckaa
open Go.RowKit

def I64 (n : Int) : Prop := -9223372036854775808 ≤ n ∧ n ≤ 9223372036854775807
theorem wf_I64 {i : Int} (h : (Lit.int .i64 i).wf = true) : I64 i := by
  unfold I64
  simpa [Lit.wf, IntKind.min, IntKind.max, IntKind.signed, IntKind.bits] using h

/-- Runs that a call made. -/
def OwnRuns (B : Nat) (l : List (Int × Int)) (v : Value) (w : World) : Prop := w.ownsRow B 57 2 v l.length (runC l)
theorem OwnRuns.at_ {B : Nat} {l : List (Int × Int)} {v : Value} {w : World} (h : OwnRuns B l v w) (hw : wfR l) : RunsAt l v w := RunsAt.own h hw
theorem OwnRuns.base {B C : Nat} {l : List (Int × Int)} {v : Value} {w : World} (h : OwnRuns B l v w) (hC : C ≤ B) : OwnRuns C l v w := own_base h hC

/-- A slice that lies in none of some blocks. -/
def Apart (v : Value) (Bs : Nat → Prop) : Prop := ∀ a n c, v = .slice (some a) n c → n ≠ 0 → ¬ Bs a.block
/-- A slice that lies in new memory. -/
def NewAt (v : Value) (w : World) : Prop := ∀ a n c, v = .slice (some a) n c → n ≠ 0 → w.heap.size ≤ a.block
/-- A list that lies in none of some blocks. -/
structure LiveAt (l : List (Int × Int)) (v : Value) (Bs : Nat → Prop) (w : World) : Prop where
  at_ : RunsAt l v w
  apart : Apart v Bs

theorem RunsAt.block {l : List (Int × Int)} {w : World} {a : Addr} {n c : Nat} (h : RunsAt l (.slice (some a) n c) w) (hn : n ≠ 0) : a.block < w.heap.size := by
  obtain ⟨p, c', he, -, hc⟩ := h.out
  simp only [Value.slice.injEq] at he
  obtain ⟨rfl, rfl, -⟩ := he
  rcases hc with h0 | ⟨b, off, hp, hc⟩
  · exact absurd h0 hn
  · have hp2 := Option.some.inj hp
    rw [hp2]
    have := World.block_lt_of_cell? _ _ (hc 0 (by omega)).1
    exact this

theorem LiveAt.later {l : List (Int × Int)} {v : Value} {Bs : Nat → Prop} {w w' : World} (h : LiveAt l v Bs w) (k : Kept w w') : LiveAt l v Bs w' := ⟨h.at_.later k, h.apart⟩
theorem RunsAt.but {l : List (Int × Int)} {v : Value} {Bs : Nat → Prop} {w w' : World} (h : RunsAt l v w) (ha : Apart v Bs) (hb : ButBy Bs w w') : RunsAt l v w' := by
  refine ⟨h.wf, h.cap, ?_⟩
  obtain ⟨h1, h2, p, c, rfl, hc⟩ := h.at_
  refine ⟨h1, h2, p, c, rfl, ?_⟩
  rcases hc with h0 | ⟨b, off, rfl, hc⟩
  · exact Or.inl h0
  · by_cases hl : l.length = 0
    · exact Or.inl hl
    · refine Or.inr ⟨b, off, rfl, fun j x hx => ?_⟩
      have hcx := hc j x hx
      have hlt := World.block_lt_of_cell? _ _ hcx
      rw [World.cell?_of_block (a := ⟨b, off + j, none⟩) (hb.block b hlt (ha _ _ _ rfl hl))]
      exact hcx
/-- Behind a call that changes a map. -/
theorem LiveAt.turn {l : List (Int × Int)} {v : Value} {Bs Bs' : Nat → Prop} {w w' : World} (h : LiveAt l v Bs w) (hs : ∀ k, Bs' k → Bs k ∨ w.heap.size ≤ k) (hb : ButBy Bs w w') : LiveAt l v Bs' w' :=
  ⟨h.at_.but h.apart hb, fun a n c e hn hk => by
    subst e
    rcases hs _ hk with x | x
    · exact h.apart _ _ _ rfl hn x
    · have := h.at_.block hn; omega⟩
theorem LiveAt.old {l : List (Int × Int)} {v : Value} {Bs : Nat → Prop} {w : World} (h : RunsAt l v w) (hB : ∀ k, Bs k → w.heap.size ≤ k) : LiveAt l v Bs w :=
  ⟨h, fun a n c e hn hk => by subst e; have := h.block hn; have := hB _ hk; omega⟩
theorem LiveAt.own {l : List (Int × Int)} {v : Value} {Bs : Nat → Prop} {B : Nat} {w : World} (h : OwnRuns B l v w) (hw : wfR l) (hB : ∀ k, Bs k → k < B) : LiveAt l v Bs w :=
  ⟨h.at_ hw, fun a n c e hn hk => by
    subst e
    have := (World.ownsRow.lt h a.block rfl).1
    have := hB _ hk
    omega⟩

end Go.Proofs.Ytkdodffnakdckaa
