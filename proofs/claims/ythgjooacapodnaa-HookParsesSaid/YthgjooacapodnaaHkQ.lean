/- Regions that draw their order, in which nothing that was is written: the class of worlds in which all that was stands. -/
import Derived.Test.YthgjooacapodnaaHkC
import Derived.Deep.QuietTactic
namespace Go.Proofs.Ythgjooacapodnaa
open Go.RowKit

/-- All that was stands. -/
def Kept (w w' : World) : Prop := Below w.heap.size w w'

theorem Kept.refl (w : World) : Kept w w := Below.refl _ w
theorem Kept.then {w w1 w2 : World} (h : Kept w w1) (k : Below w1.heap.size w1 w2) : Kept w w2 := Below.then' h k h.size

theorem Kept.row {w w' : World} (h : Kept w w') {b : Nat} {o : Obj} (hb : w.heap[b]? = some o) : w'.heap[b]? = some o := by
  rw [h.block b (Array.getElem?_eq_some_iff.1 hb).1]; exact hb

theorem Kept.cell {w w' : World} (h : Kept w w') {a : Addr} {v : Value} (hb : w.cell? a = some v) : w'.cell? a = some v :=
  (Below.cell h (World.block_lt_of_cell? _ _ hb)).trans hb

section
variable {P : Program} {ops : Array Oper}

theorem wp_region_kept {id : Nat} {Q : Exit → Act → World → Prop} {a : Act} {w : World} {l : List Oper} (hm : P.follows .mixedOrders = true) (hB : Region.lexB .any l.toArray = true)
    (h : wpQuiet P l.toArray (Kept w) (fun a' => ∀ w', Kept w w' → Q .normal a' w') l a) : (Code.region id l.toArray true).wp P Q a w :=
  wp_region_quiet (C := Kept w) hm hB (below_drewN (Below.refl _ w) 1) (by simpa using h)

theorem Calls.kept_of {f : FuncId} {args : Array Value} {w W : World} {v : Value} (hK : Kept w W)
    (h : Calls P f args W fun e w' => e = .returned v ∧ Below W.heap.size W w') : Calls P f args W fun e w' => e = .returned v ∧ Kept w w' :=
  h.mono fun _ _ ⟨he, hb⟩ => ⟨he, hK.then hb⟩

/-- The load of a whole row, in every world of the class. -/
theorem wpQuiet_load_row {C : World → Prop} {Q : Act → Prop} {a : Act} {o : Oper} {rest : List Oper} (hw : Region.wanted o (yielded ops a.tmps) = true) (ty : TypeId) (x : Operand) (ho : o.op = .load ty x)
    (g : Nat) (hx : a.eval x = .pointer (some ⟨g, 0, none⟩)) (t : TypeId) (cs : Array Value) (fr : Nat × Nat) (d : TypeDesc) (hg : ∀ W, C W → W.heap[g]? = some (.cells cs t fr))
    (hu : P.underlying ty = some d) (hd : (match d with | .struct _ | .array _ _ => true | _ => false) = true) (hi : (P.info? ty).map (·.size) = some cs.size)
    (h : ∀ K : Act → Prop, (∀ a, wpQuiet P ops C Q rest a → K a) → K (a.put o.dst (.agg cs))) : wpQuiet P ops C Q (o :: rest) a := by
  unfold wpQuiet
  rw [if_pos hw]
  refine ⟨.agg cs, fun W hC => ?_, h _ (fun _ x => x)⟩
  unfold Oper.quietAt execOp
  simp only [ho, hx, Instr.loadAt, Instr.sureAddr, Sem.run_bind, Sem.run_pure, Result.andThen_ok, run_loadVar_row W g t ty cs fr d (hg W hC) hu hd hi]
  exact ⟨rfl, rfl⟩

/-- A call, in every world of the class. -/
theorem wpQuiet_call {C : World → Prop} {Q : Act → Prop} {a : Act} {o : Oper} {rest : List Oper} (hw : Region.wanted o (yielded ops a.tmps) = true) (f : FuncId) (args : Array Value) (v : Value)
    (ho : ∀ W, (execOp a.eval o).run P W = .ok (.enter f args) W) (hc : ∀ W, C W → Calls P f args W fun e w' => e = .returned v ∧ C w')
    (h : ∀ K : Act → Prop, (∀ a, wpQuiet P ops C Q rest a → K a) → K (a.put o.dst v)) : wpQuiet P ops C Q (o :: rest) a := by
  unfold wpQuiet
  rw [if_pos hw]
  refine ⟨v, fun W hC => ?_, h _ (fun _ x => x)⟩
  unfold Oper.quietAt
  rw [ho W]
  exact ⟨rfl, hc W hC⟩

/-- An operation that reads no memory. -/
theorem wpQuiet_pure {C : World → Prop} {Q : Act → Prop} {a : Act} {o : Oper} {rest : List Oper} (hw : Region.wanted o (yielded ops a.tmps) = true) (v : Value)
    (ho : ∀ W, C W → (execOp a.eval o).run P W = .ok (.value v) W) (h : ∀ K : Act → Prop, (∀ a, wpQuiet P ops C Q rest a → K a) → K (a.put o.dst v)) : wpQuiet P ops C Q (o :: rest) a := by
  unfold wpQuiet
  rw [if_pos hw]
  refine ⟨v, fun W hC => ?_, h _ (fun _ x => x)⟩
  unfold Oper.quietAt
  rw [ho W hC]
  exact ⟨rfl, rfl⟩
end

end Go.Proofs.Ythgjooacapodnaa
