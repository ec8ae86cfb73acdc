/- Entries against each other, loaded out of rows. -/
import Derived.Test.YteompckehokdoaaGreatDoorMnR
import Derived.Test.YteompckehokdoaaGreatDoorZFpEq
import Derived.Laws.StructEq
import Derived.Deep.LoopGhost
import Derived.Deep.CutBlock
namespace Go.Proofs.YteompckehokdoaaGreatDoor
open Go.RowKit

/-- The load of a part of a row, in every world of the class. -/
theorem wpQuiet_load_part {P : Program} {ops : Array Oper} {C : World → Prop} {Q : Act → Prop} {a : Act} {o : Oper} {rest : List Oper} (hw : Region.wanted o (yielded ops a.tmps) = true) (ty : TypeId) (x : Operand) (ho : o.op = .load ty x)
    (g off n : Nat) (hx : a.eval x = .pointer (some ⟨g, off, none⟩)) (t : TypeId) (cs : Array Value) (fr : Nat × Nat) (d : TypeDesc) (hg : ∀ W, C W → W.heap[g]? = some (.cells cs t fr))
    (hu : P.underlying ty = some d) (hd : (match d with | .struct _ | .array _ _ => true | _ => false) = true) (hi : (P.info? ty).map (·.size) = some n) (v : Array Value) (hv : off + n ≤ cs.size ∧ cs.extract off (off + n) = v)
    (h : ∀ K : Act → Prop, (∀ a, wpQuiet P ops C Q rest a → K a) → K (a.put o.dst (.agg v))) : wpQuiet P ops C Q (o :: rest) a := by
  obtain ⟨hon, rfl⟩ := hv
  unfold wpQuiet
  rw [if_pos hw]
  refine ⟨.agg (cs.extract off (off + n)), fun W hC => ?_, h _ (fun _ x => x)⟩
  unfold Oper.quietAt execOp
  simp only [ho, hx, Instr.loadAt, Instr.sureAddr, Sem.run_bind, Sem.run_pure, Result.andThen_ok, run_loadVar_sub W g off n t ty cs fr d (hg W hC) hu hd hi hon]
  exact ⟨rfl, rfl⟩
/-- Two records against each other, in every world of the class. -/
theorem wpQuiet_neq {P : Program} {ops : Array Oper} {C : World → Prop} {Q : Act → Prop} {a : Act} {o : Oper} {rest : List Oper} (hw : Region.wanted o (yielded ops a.tmps) = true) (ty ty' : TypeId) (x y : Operand) (ho : o.op = .binOp .neq ty x y ty')
    (xs ys : Array Value) (hx : a.eval x = .agg xs) (hy : a.eval y = .agg ys) (hm : P.eqGuardType P.depth ty = false) (q : Bool) (hr : ∀ W, (binOp .neq ty (.agg xs) (.agg ys)).run P W = .ok (.bool q) W)
    (h : ∀ K : Act → Prop, (∀ a, wpQuiet P ops C Q rest a → K a) → K (a.put o.dst (.bool q))) : wpQuiet P ops C Q (o :: rest) a := by
  refine wpQuiet_pure hw (.bool q) (fun W _ => ?_) h
  unfold execOp
  simp only [ho, hx, hy, Sem.run_bind, run_eqGuard_agg W .neq ty x y xs ys hm, Result.andThen_ok, hr W]
  rfl
theorem idx_en (g o n c k : Nat) (hk : k < n) (w : World) : (Instr.indexAt 23 (.slice (some ⟨g, o, none⟩) n c) (.int .i64 k)).run Tryz.prog w = .ok (.pointer (some ⟨g, o + k * 35, none⟩)) w := by
  have hk' : (k : Int) < n := by omega
  have h0 : (0 : Int) ≤ k := by omega
  simp [Instr.indexAt, run_underlying Tryz.underlying23, asIntOf, h0, addr_add]
  intro h
  omega

theorem enC_fp {e : En} (h : e.fp.length = 32) : (enC e).extract 0 32 = fpA e.fp := by
  apply Array.toList_inj.1
  rw [Array.toList_extract]
  unfold enC enL
  simp only [List.extract_eq_take_drop, List.drop_zero]
  exact List.take_left' (by simp [fpA_size, h])
theorem run_eq_fpD {P : Program} (d : Nat) (t e : TypeId) (n : Nat) (l m : List UInt8) (hl : l.length = n) (hm : m.length = n) (ht : P.underlying t = some (.array n e)) (hi : (P.info? e).isSome = true) (hc : P.cellsOf e = 1)
    (he : P.underlying e = some (.int .u8)) (w : World) : (Op.equalIn (d + 1 + 1) t (.agg (fpA l)) (.agg (fpA m))).run P w = .ok (l == m) w := by
  obtain ⟨i, hi⟩ := Option.isSome_iff_exists.1 hi
  rw [run_equalIn_array w (d + 1) (fpA l) (fpA m) ht hi, hc]
  rw [run_items_eq d e l m he _ w (fun j hj => by have := List.mem_range.1 hj; omega), all_range_eq hl hm]
set_option maxHeartbeats 1000000 in
set_option maxRecDepth 100000 in
theorem eq_en (a b : En) (ha : a.fp.length = 32) (hb : b.fp.length = 32) (w : World) : (Op.equalIn 10000 41 (.agg (enC a)) (.agg (enC b))).run Tryz.prog w = .ok (decide (a = b)) w := by
  have h := run_equalIn_struct (P := Tryz.prog) w 9999 41 (enC a) (enC b) (by kernel_rfl) (by kernel_rfl)
  have h1 : ∀ w, (Op.equalIn 9999 39 (.agg (fpA a.fp)) (.agg (fpA b.fp))).run Tryz.prog w = .ok (a.fp == b.fp) w := fun w => run_eq_fpD (P := Tryz.prog) 9997 39 5 32 a.fp b.fp ha hb Tryz.underlying39 (by kernel_rfl) (by kernel_rfl) Tryz.underlying5 w
  have pa := enC_fp ha
  have pb := enC_fp hb
  have na := enC_n ha
  have nb := enC_n hb
  have ba := enC_b ha
  have bb := enC_b hb
  have sa := enC_s ha
  have sb := enC_s hb
  rw [show (10000 : Nat) = 9999 + 1 from rfl, h]
  have hd : decide (a = b) = ((a.fp == b.fp) && (a.len == b.len) && ((a.box : Int) == (b.box : Int)) && (a.slot == b.slot)) := by
    rw [Bool.eq_iff_iff]
    simp only [decide_eq_true_eq, Bool.and_eq_true, beq_iff_eq, En.ext_iff']
    constructor
    · rintro ⟨h1, h2, h3, h4⟩; exact ⟨⟨⟨h1, h2⟩, by omega⟩, h4⟩
    · rintro ⟨⟨⟨h1, h2⟩, h3⟩, h4⟩; exact ⟨h1, h2, by omega, h4⟩
  rw [hd]
  obtain ⟨A, hA⟩ : ∃ A, A = enC a := ⟨_, rfl⟩
  obtain ⟨B, hB⟩ : ∃ B, B = enC b := ⟨_, rfl⟩
  rw [← hA] at pa na ba sa ⊢
  rw [← hB] at pb nb bb sb ⊢
  clear hA hB h hd
  show (Op.eqFields 9999 A B [_, _, _, _]).run Tryz.prog w = _
  cases e1 : (a.fp == b.fp) with
  | false => 
    rw [e1] at h1
    go_simp
  | true =>
    rw [e1] at h1
    cases e2 : (a.len == b.len) with
    | false => go_simp
    | true =>
      cases e3 : ((a.box : Int) == (b.box : Int)) with
      | false => go_simp
      | true =>
        cases e4 : (a.slot == b.slot) with
        | false => go_simp
        | true => go_simp
theorem neq_en (a b : En) (ha : a.fp.length = 32) (hb : b.fp.length = 32) (w : World) : (binOp .neq 41 (.agg (enC a)) (.agg (enC b))).run Tryz.prog w = .ok (.bool (!decide (a = b))) w := by
  rw [run_neq_struct, eq_en a b ha hb w]
  rfl

end Go.Proofs.YteompckehokdoaaGreatDoor
