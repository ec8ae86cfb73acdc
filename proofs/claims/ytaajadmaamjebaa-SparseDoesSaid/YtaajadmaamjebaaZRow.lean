/- Rows of cells that came in; of no program. -/
import Derived.Test.YtaajadmaamjebaaPlain
namespace Go.Proofs.Ytaajadmaamjebaa
open Go.RowKit

theorem spot_none {w : World} {a : Addr} {v : Value} (h : w.cell? ((a.add 0).add 0) = some v) : a = ⟨a.block, a.off, none⟩ := by
  have hs : ((a.add 0).add 0) = a.add 0 := by
    obtain ⟨b, o, sp⟩ := a
    cases sp with
    | none => rw [addr_add, addr_add]
    | some x => simp [Addr.add]
  rw [hs] at h
  exact addr_cell h

/-- Where cells lie together: a part of a row. -/
theorem row_cells5 {w : World} {b o n : Nat} (C : Array Value) (hn : C.size = n) (h : ∀ j, j < n → w.cell? ⟨b, o + j, none⟩ = C[j]?) (h0 : 0 < n := by decide) :
    ∃ cs t fr, w.heap[b]? = some (.cells cs t fr) ∧ o + n ≤ cs.size ∧ cs.extract o (o + n) = C := by
  have hz := h 0 h0
  have hC0 : C[0]? = some C[0] := Array.getElem?_eq_getElem (by omega)
  rw [hC0] at hz
  unfold World.cell? at hz
  split at hz
  · rename_i cs t fr hb
    have each : ∀ j, j < n → cs[o + j]? = C[j]? := by
      intro j hj
      have := h j hj
      unfold World.cell? at this
      simpa [hb] using this
    have hsz : o + n ≤ cs.size := by
      have h1 := each (n - 1) (by omega)
      rw [Array.getElem?_eq_getElem (by omega : n - 1 < C.size)] at h1
      have := (Array.getElem?_eq_some_iff.1 h1).1
      omega
    refine ⟨cs, t, fr, hb, hsz, ?_⟩
    apply Array.ext_getElem?
    intro j
    by_cases hj : j < n
    · rw [Array.getElem?_extract, if_pos (by omega), each j hj]
    · rw [Array.getElem?_eq_none (by rw [Array.size_extract]; omega), Array.getElem?_eq_none (by omega)]
  · simp_all

theorem spot_none2 {w : World} {a : Addr} {x : Option Value} (h : w.cell? ((a.add 0).add 0) = x) (hx : x.isSome = true := by rfl) : a = ⟨a.block, a.off, none⟩ := by
  obtain ⟨v, hv⟩ := Option.isSome_iff_exists.1 hx
  rw [hv] at h
  exact spot_none h

end Go.Proofs.Ytaajadmaamjebaa
