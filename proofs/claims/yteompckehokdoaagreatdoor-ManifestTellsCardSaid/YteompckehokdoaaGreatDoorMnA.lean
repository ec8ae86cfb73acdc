/- Contracts of manifests by name, whatever they are made of; few; the page's example. -/
import Derived.Test.YteompckehokdoaaGreatDoorGK
import Derived.Test.YteompckehokdoaaGreatDoorMnT
import Derived.Test.YteompckehokdoaaGreatDoorMnH
import Derived.Test.YteompckehokdoaaGreatDoorGC
import Derived.Great.Walk
namespace Go.Proofs.YteompckehokdoaaGreatDoor
open Go.RowKit

/-! ### Contracts -/
def MCheckOk : Prop := ∀ (m : Mf) (v : Value) (w : World), ManIs m v w → m.es.length ≤ 1000 →
  Calls Tryz.prog 18 #[v] w fun e w' => e = .returned (.int .i64 (if mayM m then 0 else 1)) ∧ Kept w w'
def sizeV (n : Int) : Int := if 1 ≤ n ∧ n ≤ 256 then 14 + 40 * n else 0
def MSizeOk : Prop := ∀ (n : Int) (w : World), (Lit.int .i64 n).wf = true →
  Calls Tryz.prog 13 #[.int .i64 n] w fun e w' => e = .returned (.int .i64 (sizeV n)) ∧ Kept w w'
def putV (m : Mf) : ByteArray := if mayM m then str (manB m) else ⟨#[]⟩
def MPutOk : Prop := ∀ (m : Mf) (v : Value) (w : World), ManIs m v w → m.es.length ≤ 1000 → TabAt w →
  Calls Tryz.prog 14 #[v] w fun e w' => e = .returned (.tuple #[.string (putV m), .int .i64 (if mayM m then 0 else 1)]) ∧ Kept w w'
def getV (t : List UInt8) : Int := if (getM t).isSome then 0 else 110
def MGetOk : Prop := ∀ (t : ByteArray) (w : World), t.size ≤ 100000 → TabAt w →
  Calls Tryz.prog 15 #[.string t] w fun e w' => (∃ v, e = .returned (.tuple #[v, .int .i64 (getV t.data.toList)]) ∧ ManIs ((getM t.data.toList).getD Mf.zero) v w') ∧ Kept w w'
def MBytesOk : Prop := ∀ (m : Mf) (v : Value) (w : World), ManIs m v w → m.es.length ≤ 1000 →
  Calls Tryz.prog 8 #[v] w fun e w' => e = .returned (.int .i64 (wrapI (sumM m))) ∧ Kept w w'
def hooksM (m : Mf) (bits : Int) : List (List UInt8) := setL ((m.es.map En.fp).filter fun l => hookB l bits)
def MHooksOk : Prop := ∀ (m : Mf) (bits : Int) (v : Value) (w : World), ManIs m v w → m.es.length ≤ 1000 → (Lit.int .i64 bits).wf = true →
  Calls Tryz.prog 11 #[v, .int .i64 bits] w fun e w' => ∃ v', e = .returned v' ∧ FpsAt 32 (hooksM m bits) v' w' ∧ Kept w w'
def MPlacesOk : Prop := ∀ (m : Mf) (v : Value) (w : World), ManIs m v w → m.es.length ≤ 1000 →
  Calls Tryz.prog 6 #[v] w fun e w' => ∃ v', e = .returned v' ∧ PlsAt (placesM m) v' w' ∧ Kept w w'
def MTurnOk : Prop := ∀ (m : Mf) (mv : List Mv) (v vm : Value) (w : World), ManIs m v w → m.es.length ≤ 1000 → MvsAt mv vm w → mv.length ≤ 1000 →
  Calls Tryz.prog 16 #[v, vm] w fun e w' => (∃ u, e = .returned (.tuple #[u, .int .i64 (hitsM mv m : Nat)]) ∧ ManIs (turnM mv m) u w') ∧ Kept w w'
def MSameOk : Prop := ∀ (a b : Mf) (u v : Value) (w : World), ManIs a u w → ManIs b v w → a.es.length ≤ 1000 → b.es.length ≤ 1000 →
  Calls Tryz.prog 17 #[u, v] w fun e w' => e = .returned (.bool (decide (a = b))) ∧ Kept w w'

/-! ### few -/
theorem few15_any (m : Mf) (v : Value) (w : World) (H : ManIs m v w) :
    Calls Tryz.prog 4 #[v] w fun e w' => e = .returned (.bool (decide (m.es.length ≤ 30))) ∧ Kept w w' := by
  obtain ⟨hid, sv, rfl, he⟩ := H
  obtain ⟨p, c, rfl, -, -⟩ := he.out encE
  obtain ⟨n, hn⟩ : ∃ n, n = m.es.length := ⟨_, rfl⟩
  obtain ⟨id, hidd⟩ : ∃ i, i = m.id := ⟨_, rfl⟩
  rw [← hn, ← hidd]
  have hrow := heap_alloc_last w (.cells #[.int .u32 (id : Nat), .slice p n c] 25)
  have e1 : (w.alloc (.cells #[.int .u32 (id : Nat), .slice p n c] 25)).cell? ⟨w.heap.size, 1, none⟩ = some (.slice p n c) := by rw [cell_of_row _ _ _ _ _ _ hrow]; rfl
  have hd : decide ((n : Int) ≤ 30) = decide (n ≤ 30) := by rw [decide_eq_decide]; omega
  clear hn hidd hrow hid he
  go_enter Tryz.func4, Tryz.ntmps4
  go_wp2
  go_ret
  exact ⟨by first | rfl | rw [hd] | simp [hd], box_below _ _⟩

/-! ### The page's example -/
theorem wpList_buildPs {P : Program} {ops : Array Oper} {rest : List Oper} {o : Oper} {a : Act} {w : World} {Q : Exit → Act → World → Prop} (hg : o.guard = none) (t e : TypeId) (len : Nat) (parts : Array (Nat × Operand)) (ho : o.op = .buildSlice t len parts)
    (hu : P.underlying t = some (.slice e)) (ps : List (Nat × Value)) (hps : (parts.map fun (i, x) => (i, a.eval x)).toList = ps) (cells : Array Value) (hf : P.builtSlice e len ps = some cells)
    (h : wpList P ops Q rest (a.put o.dst (.slice (some ⟨w.heap.size, 0, none⟩) len len)) (w.alloc (.cells cells e))) : wpList P ops Q (o :: rest) a w := by
  subst hps
  exact Go.Great.wpList_buildSliceTo hg t e len parts ho _ rfl _ rfl hu cells hf h
def z32 : List UInt8 := [0, 0, 0, 0, 0, 0, 0, 0, 0, 0, 0, 0, 0, 0, 0, 0, 0, 0, 0, 0, 0, 0, 0, 0, 0, 0, 0, 0, 0, 0, 0, 0]
def exE0 : En := ⟨z32, 5, 1, 2⟩
def exE1 : En := ⟨z32, 7, 1, 0⟩
def exM : Mf := ⟨3, [exE0, exE1]⟩
def exT : Mf := ⟨3, [exE0, ⟨z32, 7, 4, 9⟩]⟩
theorem ex_built0 : Tryz.prog.built 41 [(1, .int .i64 5), (2, .int .u32 1), (3, .int .i64 2)] = some (enC exE0) := by kernel_rfl
theorem ex_built1 : Tryz.prog.built 41 [(1, .int .i64 7), (2, .int .u32 1)] = some (enC exE1) := by kernel_rfl
theorem ex_slice : Tryz.prog.builtSlice 41 2 [(0, .agg (enC exE0)), (1, .agg (enC exE1))] = some (enC exE0 ++ enC exE1) := by kernel_rfl
theorem exE0_wf : wfE exE0 := ⟨rfl, by decide, by decide, by decide⟩
theorem exE1_wf : wfE exE1 := ⟨rfl, by decide, by decide, by decide⟩
theorem ex_wf : ∀ e ∈ exM.es, wfE e := fun e he => by
  simp only [exM, List.mem_cons, List.not_mem_nil, or_false] at he
  rcases he with rfl | rfl
  · exact exE0_wf
  · exact exE1_wf
theorem ex_may : mayM exM := by decide
theorem ex_turn : turnM [((1, 0), (4, 9))] exM = exT := by decide
theorem ex_hits : hitsM [((1, 0), (4, 9))] exM = 1 := by decide
theorem ex_places : placesM exM = [(1, 0), (1, 2)] := by decide
theorem ex_sum : wrapI (sumM exM) = 12 := by decide
theorem ex_size : (manB exM).length = 94 := manB_len (fun e he => (ex_wf e he).1)
theorem ex_zero : ¬ mayM Mf.zero := by decide
theorem ex_get : getM (manB exM) = some exM := getM_manB ex_may ⟨by decide, ex_wf⟩

def AwakeM : Prop := ∀ w, TabAt w → Calls Tryz.prog 5 #[] w fun e w' => e = .returned (.bool true) ∧ Kept w w'

end Go.Proofs.YteompckehokdoaaGreatDoor
