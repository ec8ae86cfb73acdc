/- The document's Row, Runs. The document's Runs. The document's Count, Has, Plain, Join, Minus, Common, Lowest. The document's Lowest, May. The document's Fit, List. -/
import Derived.Test.YtoigembmbajopaaDoorGB
import Derived.Test.YtoigembmbajopaaDoorGG
import Derived.Deep.LoopGhost
import Derived.Deep.CutBlock
namespace Go.Proofs.YtoigembmbajopaaDoor
open Go.RowKit

theorem wpList_maxI {P : Program} {ops : Array Oper} {rest : List Oper} {o : Oper} {a : Act} {w : World} {Q : Exit → Act → World → Prop} (hgd : o.guard = none) (x y : Operand) (t u : TypeId)
    (ho : o.op = .call { callee := .builtin .max, args := #[x, y], argTypes := #[t, u] }) (k k' : IntKind) (m n r : Int) (hx : a.eval x = .int k m) (hy : a.eval y = .int k' n) (hr : (if n > m then n else m) = r)
    (h : wpList P ops Q rest (a.put o.dst (.int k r)) w) : wpList P ops Q (o :: rest) a w := by
  refine wpList_plain hgd fun K hK => ?_
  subst hr
  unfold Oper.wp execOp
  simp only [ho, resolve, invoke, builtin, Sem.run_bind, Sem.run_pure, Result.andThen_ok, List.map_toArray, List.map_cons, List.map_nil, hx, hy, run_max_int2]
  exact hK _ _ h

theorem infoBl : (Tryd.prog.info? 4).map (fun i => (i.zero, i.size, i.bytes)) = some (some (.bool false), 1, 1) := by kernel_rfl
theorem RowF.made (w : World) : ∃ w', (Instr.makeSlice 47 (.int .i64 8192) (.int .i64 8192)).run Tryd.prog w = .ok (.slice (some ⟨w.heap.size, 0, none⟩) 8192 8192) w' ∧ RowF w.heap.size (fun _ => false) w' ∧ Below w.heap.size w w' := by
  obtain ⟨i, hi, hx⟩ := Option.map_eq_some_iff.1 infoBl
  simp only [Prod.mk.injEq] at hx
  obtain ⟨h0, h1, h2⟩ := hx
  have hr := run_makeSlice (P := Tryd.prog) w 47 4 i (.bool false) Tryd.underlying47 hi h0 .i64 .i64 8192 8192 (by omega) (by omega) (by rw [h1]; omega) (by rw [h2]; omega) (by omega)
  refine ⟨_, hr, ⟨_, heap_alloc_new w _, ?_, fun j hj => ?_⟩, box_below _ _⟩
  · rw [h1]; show (madeCells #[.bool false] 8192).size = 8192; rw [size_madeCells]
  · rw [h1]
    show (madeCells #[.bool false] 8192)[j]? = _
    rw [← Array.getElem?_toList, toList_madeCells_one, List.getElem?_replicate, if_pos hj]

end Go.Proofs.YtoigembmbajopaaDoor
namespace Go.Proofs.YtoigembmbajopaaDoor
open Go.RowKit

theorem infoRun : (Tryd.prog.info? 83).map (fun i => (i.zero, i.size, i.bytes)) = some (some (.agg #[.int .i64 0, .int .i64 0]), 2, 16) := by kernel_rfl

/-- What runs there are of the first k. -/
theorem runsF_step (f : Nat → Bool) (k : Nat) : runsF f (k + 1) = if f k = true then (if 0 < k ∧ f (k - 1) = true then bump (runsF f k) else runsF f k ++ [((k : Int), 1)]) else runsF f k := rfl
theorem runsF_pos (f : Nat → Bool) (k : Nat) (h0 : 0 < k) (hf : f (k - 1) = true) : 0 < (runsF f k).length := by
  obtain ⟨pre, r, e, _⟩ := (runsF_ok f k).last h0 hf
  rw [e]; simp

end Go.Proofs.YtoigembmbajopaaDoor
namespace Go.Proofs.YtoigembmbajopaaDoor
open Go.RowKit

/-- Has a list a sector? -/
def hasSec (l : List (Int × Int)) (a : Int) : Bool := decide (0 ≤ a ∧ a < 8192) && hasR l a.toNat

end Go.Proofs.YtoigembmbajopaaDoor
namespace Go.Proofs.YtoigembmbajopaaDoor
open Go.RowKit

/-- What Lowest answers. -/
def lowE (f : Nat → Bool) (n : Int) : Int := if n < 0 then 1 else if cntA f < n.toNat ∨ 16 < (runsA (lowF f n.toNat)).length then 100 else 0
def lowL (f : Nat → Bool) (n : Int) : List (Int × Int) := if lowE f n = 0 then runsA (lowF f n.toNat) else []

end Go.Proofs.YtoigembmbajopaaDoor
namespace Go.Proofs.YtoigembmbajopaaDoor
open Go.RowKit

/-! ### List -/
def intC (l : List Nat) : List Value := l.map fun (k : Nat) => Value.int .i64 (k : Int)
theorem intC_append (a b : List Nat) : intC (a ++ b) = intC a ++ intC b := List.map_append
theorem intC_get (l : List Nat) (k : Nat) (h : k < l.length) : (intC l)[k]? = some (.int .i64 (l[k] : Int)) := by simp [intC, h]
theorem infoIn : (Tryd.prog.info? 3).map (fun i => (i.zero, i.size, i.bytes)) = some (some (.int .i64 0), 1, 8) := by kernel_rfl
theorem secR_take (r : Int × Int) (k : Nat) (h : k < r.2.toNat) : (secR r).take (k + 1) = (secR r).take k ++ [r.1.toNat + k] := by
  have hl : k < (secR r).length := by rw [secR_len]; exact h
  rw [List.take_succ_eq_append_getElem hl]
  have e : (secR r)[k]'hl = r.1.toNat + k := by simp [secR]
  rw [e]
theorem allR_take (l : List (Int × Int)) (i : Nat) (h : i < l.length) : allR (l.take (i + 1)) = allR (l.take i) ++ secR l[i] := by
  rw [List.take_succ_eq_append_getElem h]
  unfold allR
  rw [List.flatMap_append]
  simp
theorem allR_take_len (l : List (Int × Int)) (i : Nat) : (allR (l.take i)).length ≤ (allR l).length := by
  have h := List.take_append_drop i l
  have e : allR l = allR (l.take i) ++ allR (l.drop i) := by
    conv => lhs; rw [← h]
    unfold allR
    exact List.flatMap_append
  rw [e, List.length_append]; omega
theorem int_flat (w : World) (a : Int) : FlatAt 1 1 [.int .i64 a] (.slice (some ⟨w.heap.size, 0, none⟩) 1 1) (w.alloc (.cells #[.int .i64 a] 3)) :=
  FlatAt.new w 3 1 1 1 #[.int .i64 a] rfl (by intro x hx; simp at hx; subst hx; rfl)

end Go.Proofs.YtoigembmbajopaaDoor
