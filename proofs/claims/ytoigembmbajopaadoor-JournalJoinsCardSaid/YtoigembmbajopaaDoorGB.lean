/- Slices of any type as flat rows of cells; what is appended of them, whatever they are; where an append's row lies. Laws that every stage wants: regions that draw their order in which nothing that was is written (the class Kept); loads there and elsewhere; what stays but some blocks. Lists of runs in memory; rows of truths; the document's end, over, Same; few. Lists of runs that stand while other blocks change. Records in memory: values, slices of them, slices of such; the document's Has. The document's over, Same. The document's Need, Runs, Sum, SameRuns. The document's May, Same: superblocks in memory. The document's Same; what is few. -/
import Derived.Test.YtoigembmbajopaaDoorGA
import Derived.Laws.AppendOwn
import Derived.WalkKit
import Derived.Lib.Hide
import Derived.BigQuiet
import Derived.BigFrame
import Derived.Laws.Externs
import Derived.WalkSpells
import Derived.WalkLawsBesides
import Derived.Deep.OwnRows
import Derived.Laws.Rows
import Derived.Deep.WholeRow
import Derived.RegionTactic
import Derived.Deep.RegionWith
import Derived.Deep.RegionHeld
import Derived.Deep.MidRow
import Derived.Deep.QuietTactic
import Derived.Laws.MakeOwn
import Derived.Test.YtoigembmbajopaaDoorRows
import Derived.Laws.OwnMore
import Derived.Laws.StructEq
import Derived.Deep.LoopGhost
import Derived.Deep.CutBlock
namespace Go.Proofs.YtoigembmbajopaaDoor
open Go.RowKit

/-- The value u is a slice of m elements of 'size' cells each: these cells. -/
def FlatAt (size m : Nat) (news : List Value) (u : Value) (w : World) : Prop := news.length = m * size ∧ (∀ x ∈ news, x.oneCell' = true) ∧
  ∃ p c, u = .slice p m c ∧ (m = 0 ∨ ∃ b off, p = some ⟨b, off, none⟩ ∧ ∀ j x, news[j]? = some x → w.cell? ⟨b, off + j, none⟩ = some x)

theorem FlatAt.later {size m : Nat} {news : List Value} {u : Value} {w w' : World} (h : FlatAt size m news u w) (k : Below w.heap.size w w') : FlatAt size m news u w' := by
  obtain ⟨h1, h2, p, c, rfl, hc⟩ := h
  refine ⟨h1, h2, p, c, rfl, ?_⟩
  rcases hc with h0 | ⟨b, off, hp, hc⟩
  · exact Or.inl h0
  · exact Or.inr ⟨b, off, hp, fun j x hx => (k.cell (World.block_lt_of_cell? _ _ (hc j x hx))).trans (hc j x hx)⟩

theorem FlatAt.own {w : World} {base : Nat} {e : TypeId} {size n : Nat} {v : Value} {xs : List Value} (h : w.ownsRow base e size v n xs) (h1 : ∀ x ∈ xs, x.oneCell' = true) : FlatAt size n xs v w := by
  refine ⟨h.1, h1, ?_⟩
  rcases h.2 with ⟨rfl, rfl⟩ | ⟨g, cap, cur, rfl, hb, hg, hr⟩
  · exact ⟨none, 0, rfl, Or.inl rfl⟩
  · refine ⟨_, cap, rfl, Or.inr ⟨g, 0, rfl, fun j x hx => ?_⟩⟩
    have := h.cells (g := g) rfl j x hx
    rwa [addr_add] at this

theorem FlatAt.new (w : World) (e : TypeId) (size m c : Nat) (X : Array Value) (hX : X.size = m * size) (h1 : ∀ x ∈ X.toList, x.oneCell' = true) : FlatAt size m X.toList (.slice (some ⟨w.heap.size, 0, none⟩) m c) (w.alloc (.cells X e)) :=
  ⟨by rw [Array.length_toList]; exact hX, h1, _, c, rfl, Or.inr ⟨w.heap.size, 0, rfl, fun j x hx => by
    rw [Nat.zero_add, cell_of_row _ _ _ _ _ _ (heap_alloc_new w _), ← Array.getElem?_toList]; exact hx⟩⟩

/-- Where the row of an append's result lies: where the old one lay, or in a new block. -/
theorem append_at {P : Program} (w : World) (base : Nat) (t ty e : TypeId) (i : TypeInfo) (z : Value) (size bytes : Nat) (ht : P.underlying t = some (.slice e)) (hi : P.info? e = some i) (hz : i.zero = some z)
    (hsize : i.size = size) (hby : i.bytes = bytes) (v : Value) (n : Nat) (xs : List Value) (hown : w.ownsRow base e size v n xs)
    (a : Addr) (m c : Nat) (news : List Value) (hl : news.length = m * size) (hnews : ∀ j u, news[j]? = some u → w.cell? (a.add j) = some u) (h1 : ∀ u ∈ news, u.oneCell' = true)
    (h63 : n + m ≤ maxLen) (hbytes : (n + m) * bytes ≤ 140737488355328) {v' : Value} {w' : World} (hr : (Builtin.append_ #[t, t] ty #[v, .slice (some a) m c]).run P w = .ok v' w') :
    v'.ownBlock = v.ownBlock ∨ v'.ownBlock = some w.heap.size := by
  subst hsize
  subst hby
  have hsmall : n + m ≤ 9223372036854775807 := by simp only [maxLen] at h63; omega
  rcases hown.2 with ⟨rfl, rfl⟩ | ⟨g, cap, cur, rfl, hbg, hg, hnc, hcm, hcs, htake⟩
  · by_cases hm : m = 0
    · subst hm
      have hn : news = [] := List.eq_nil_of_length_eq_zero (by simpa using hl)
      subst hn
      left
      have hq : (Builtin.append_ #[t, t] ty #[.slice none 0 0, .slice (some a) 0 c]).run P w = .ok (.slice none 0 0) w := by
        simp [Builtin.append_, run_underlying ht, sizeOf, typeInfo, hi, Builtin.lenOf, Builtin.firstCells, loadCells, loadCellsFrom]
      rw [hq] at hr
      simp only [Result.ok.injEq] at hr
      rw [← hr.1]
    · right
      have hq := run_append_nil (P := P) w t ty e i z ht hi hz a m c news hl hnews (by omega) (by omega) (by have hb := hbytes; simp only [Nat.zero_add] at hb; omega)
      rw [hq] at hr
      simp only [Result.ok.injEq] at hr
      rw [← hr.1]
      rfl
  · by_cases hroom : n + m ≤ cap
    · left
      have hfit : n * i.size + news.length ≤ cur.size := by rw [hl, hcs, ← Nat.add_mul]; exact Nat.mul_le_mul_right _ hroom
      have hq := run_append_room (P := P) w t ty e i ht hi g n cap cur hg a m c news hl hnews h1 hroom hfit
      rw [hq] at hr
      simp only [Result.ok.injEq] at hr
      rw [← hr.1]
      rfl
    · right
      have holds : ∀ j u, xs[j]? = some u → w.cell? ((⟨g, 0, none⟩ : Addr).add j) = some u := hown.cells (g := g) rfl
      have hq := run_append_grow (P := P) w t ty e i z ht hi hz ⟨g, 0, none⟩ n cap xs hown.1 holds a m c news hl hnews (by omega) (by omega) (growslice_fits (by omega) hbytes)
      rw [hq] at hr
      simp only [Result.ok.injEq] at hr
      rw [← hr.1]
      rfl

/-- 'append(l, p...)' onto an own row, whatever p is: run. -/
theorem run_append_flat {P : Program} (w : World) (base : Nat) (t ty e : TypeId) (i : TypeInfo) (z : Value) (size bytes : Nat) (ht : P.underlying t = some (.slice e)) (hi : P.info? e = some i) (hz : i.zero = some z)
    (hsize : i.size = size) (hby : i.bytes = bytes) (hzs : z.cells.size = size) (hsz : 0 < size)
    (v : Value) (n : Nat) (xs : List Value) (hown : w.ownsRow base e size v n xs) (u : Value) (m : Nat) (news : List Value) (hu : FlatAt size m news u w)
    (h63 : n + m ≤ maxLen) (hbytes : (n + m) * bytes ≤ 140737488355328) (hbase : base ≤ w.heap.size) :
    ∃ v' w', (Builtin.append_ #[t, t] ty #[v, u]).run P w = .ok v' w' ∧ w'.ownsRow base e size v' (n + m) (xs ++ news) ∧ w.grownBy w' v.ownBlock ∧ (v'.ownBlock = v.ownBlock ∨ v'.ownBlock = some w.heap.size) := by
  obtain ⟨hl, h1, p, c, rfl, hc⟩ := hu
  cases p with
  | some ad =>
    have hnews : ∀ j x, news[j]? = some x → w.cell? (ad.add j) = some x := by
      intro j x hx
      rcases hc with h0 | ⟨b, off, hp, hc⟩
      · subst h0
        have : news = [] := List.eq_nil_of_length_eq_zero (by simpa using hl)
        rw [this] at hx; simp at hx
      · simp only [Option.some.injEq] at hp
        rw [hp, addr_add]
        exact hc j x hx
    obtain ⟨v', w', hr, h2, h3, _⟩ := run_append_own w base t ty e i z size bytes ht hi hz hsize hby hzs hsz v n xs hown ad m c news hl hnews h1 h63 hbytes hbase
    exact ⟨v', w', hr, h2, h3, append_at w base t ty e i z size bytes ht hi hz hsize hby v n xs hown ad m c news hl hnews h1 h63 hbytes hr⟩
  | none =>
    rcases hc with h0 | ⟨b, off, hp, _⟩
    · subst h0
      have hn : news = [] := List.eq_nil_of_length_eq_zero (by simpa using hl)
      subst hn
      refine ⟨v, w, ?_, by simpa using hown, grown_refl w _, Or.inl rfl⟩
      rcases hown.2 with ⟨rfl, rfl⟩ | ⟨g, cap, cur, rfl, hb, hg, hnc, hcm, hcs, htake⟩
      · simp [Builtin.append_, run_underlying ht, sizeOf, typeInfo, hi, Builtin.lenOf, Builtin.firstCells]
      · simp [Builtin.append_, run_underlying ht, sizeOf, typeInfo, hi, Builtin.lenOf, Builtin.firstCells, hnc, storeCells]
    · cases hp

theorem wp_append_flat {P : Program} {o : Oper} {a : Act} {w : World} {K : Act → World → Prop} {Q : Exit → Act → World → Prop} (s x : Operand) (t : TypeId)
    (ho : o.op = .call { callee := .builtin .append, args := #[s, x], argTypes := #[t, t] })
    (base : Nat) (e : TypeId) (i : TypeInfo) (z : Value) (size bytes : Nat) (ht : P.underlying t = some (.slice e)) (hi : P.info? e = some i) (hz : i.zero = some z)
    (hsize : i.size = size) (hby : i.bytes = bytes) (hzs : z.cells.size = size) (hsz : 0 < size)
    (v : Value) (n : Nat) (xs : List Value) (hs : a.eval s = v) (hown : w.ownsRow base e size v n xs) (u : Value) (m : Nat) (news : List Value) (hx : a.eval x = u) (hu : FlatAt size m news u w)
    (h63 : n + m ≤ maxLen) (hbytes : (n + m) * bytes ≤ 140737488355328) (hbase : base ≤ w.heap.size)
    (h : ∀ v' w', w'.ownsRow base e size v' (n + m) (xs ++ news) → w.grownBy w' v.ownBlock → (v'.ownBlock = v.ownBlock ∨ v'.ownBlock = some w.heap.size) → K (a.put o.dst v') w') : o.wp P a w K Q := by
  obtain ⟨v', w', hr, h2, h3, h4⟩ := run_append_flat w base t o.type e i z size bytes ht hi hz hsize hby hzs hsz v n xs hown u m news hu h63 hbytes hbase
  unfold Oper.wp execOp
  simp only [ho, resolve, invoke, builtin, Sem.run_bind, Sem.run_pure, Result.andThen_ok, List.map_toArray, List.map_cons, List.map_nil, hs, hx]
  simp only [hr]
  exact h v' w' h2 h3 h4

theorem wpList_append_flat {P : Program} {ops : Array Oper} {rest : List Oper} {o : Oper} {a : Act} {w : World} {Q : Exit → Act → World → Prop} (hgd : o.guard = none) (s x : Operand) (t : TypeId)
    (ho : o.op = .call { callee := .builtin .append, args := #[s, x], argTypes := #[t, t] })
    (base : Nat) (e : TypeId) (i : TypeInfo) (z : Value) (size bytes : Nat) (ht : P.underlying t = some (.slice e)) (hi : P.info? e = some i) (hz : i.zero = some z)
    (hsize : i.size = size) (hby : i.bytes = bytes) (hzs : z.cells.size = size) (hsz : 0 < size)
    (v : Value) (n : Nat) (xs : List Value) (hs : a.eval s = v) (hown : w.ownsRow base e size v n xs) (u : Value) (m : Nat) (news : List Value) (hx : a.eval x = u) (hu : FlatAt size m news u w)
    (h63 : n + m ≤ maxLen) (hbytes : (n + m) * bytes ≤ 140737488355328) (hbase : base ≤ w.heap.size)
    (h : ∀ v' w', w'.ownsRow base e size v' (n + m) (xs ++ news) → w.grownBy w' v.ownBlock → (v'.ownBlock = v.ownBlock ∨ v'.ownBlock = some w.heap.size) → wpList P ops Q rest (a.put o.dst v') w') : wpList P ops Q (o :: rest) a w :=
  wpList_plain hgd fun _ hK => wp_append_flat s x t ho base e i z size bytes ht hi hz hsize hby hzs hsz v n xs hs hown u m news hx hu h63 hbytes hbase (fun v' w' h2 h3 h4 => hK _ _ (h v' w' h2 h3 h4))

/-- An own row, as a slice, cell by cell. -/
theorem own_slice {w : World} {base : Nat} {e : TypeId} {size n : Nat} {v : Value} {xs : List Value} (h : w.ownsRow base e size v n xs) :
    ∃ p c, v = .slice p n c ∧ n ≤ c ∧ (n = 0 ∨ ∃ g, p = some ⟨g, 0, none⟩ ∧ base ≤ g ∧ ∀ j x, xs[j]? = some x → w.cell? ⟨g, j, none⟩ = some x) := by
  rcases h.2 with ⟨rfl, rfl⟩ | ⟨g, cap, cur, rfl, hb, hg, hc, hr⟩
  · exact ⟨none, 0, rfl, Nat.le_refl _, Or.inl rfl⟩
  · refine ⟨_, cap, rfl, hc, Or.inr ⟨g, rfl, hb, fun j x hx => ?_⟩⟩
    have := h.cells (g := g) rfl j x hx
    rwa [addr_add, Nat.zero_add] at this

theorem own_stay {w w' : World} {base : Nat} {e : TypeId} {size n : Nat} {v : Value} {xs : List Value} (h : w.ownsRow base e size v n xs) (hk : ∀ k, v.ownBlock = some k → w'.heap[k]? = w.heap[k]?) : w'.ownsRow base e size v n xs := by
  refine ⟨h.1, ?_⟩
  rcases h.2 with hn | ⟨g, cap, cur, rfl, hb, hg, hr⟩
  · exact Or.inl hn
  · exact Or.inr ⟨g, cap, cur, rfl, hb, by rw [hk g rfl]; exact hg, hr⟩

theorem own_base {w : World} {base base' : Nat} {e : TypeId} {size n : Nat} {v : Value} {xs : List Value} (h : w.ownsRow base e size v n xs) (hB : base' ≤ base) : w.ownsRow base' e size v n xs := by
  refine ⟨h.1, ?_⟩
  rcases h.2 with hn | ⟨g, cap, cur, rfl, hb, hr⟩
  · exact Or.inl hn
  · exact Or.inr ⟨g, cap, cur, rfl, Nat.le_trans hB hb, hr⟩

/-- The block of an own row has its type. -/
theorem own_typ {w : World} {base : Nat} {e : TypeId} {size n : Nat} {v : Value} {xs : List Value} (h : w.ownsRow base e size v n xs) (k : Nat) (hk : v.ownBlock = some k) : ∃ cur, w.heap[k]? = some (.cells cur e (0, 0)) := by
  rcases h.2 with ⟨rfl, _⟩ | ⟨g, cap, cur, rfl, hb, hg, hr⟩
  · simp [Value.ownBlock] at hk
  · simp only [Value.ownBlock, Option.some.injEq] at hk
    subst hk
    exact ⟨cur, hg⟩

theorem set_other (w : World) (g i k : Nat) (x : Value) (hk : k ≠ g) : (w.setCell ⟨g, i, none⟩ x).heap[k]? = w.heap[k]? := heap_setCell_other _ _ _ _ hk

end Go.Proofs.YtoigembmbajopaaDoor
namespace Go.Proofs.YtoigembmbajopaaDoor
open Go.RowKit

/-- All that was stands. -/
def Kept (w w' : World) : Prop := Below w.heap.size w w'

theorem Kept.refl (w : World) : Kept w w := Below.refl _ w
theorem Kept.then {w w1 w2 : World} (h : Kept w w1) (k : Below w1.heap.size w1 w2) : Kept w w2 := Below.then' h k h.size

theorem Kept.row {w w' : World} (h : Kept w w') {b : Nat} {o : Obj} (hb : w.heap[b]? = some o) : w'.heap[b]? = some o := by
  rw [h.block b (Array.getElem?_eq_some_iff.1 hb).1]; exact hb

theorem Kept.cell {w w' : World} (h : Kept w w') {a : Addr} {v : Value} (hb : w.cell? a = some v) : w'.cell? a = some v :=
  (Below.cell h (World.block_lt_of_cell? _ _ hb)).trans hb

section
variable {P : Program} {ops : Array Oper}

theorem wp_region_kept {id : Nat} {Q : Exit → Act → World → Prop} {a : Act} {w : World} {l : List Oper} (hm : P.follows .mixedOrders = true) (hB : Region.lexB .any l.toArray = true)
    (h : wpQuiet P l.toArray (Kept w) (fun a' => ∀ w', Kept w w' → Q .normal a' w') l a) : (Code.region id l.toArray true).wp P Q a w :=
  wp_region_quiet (C := Kept w) hm hB (below_drewN (Below.refl _ w) 1) (by simpa using h)

theorem Calls.kept_of {f : FuncId} {args : Array Value} {w W : World} {v : Value} (hK : Kept w W)
    (h : Calls P f args W fun e w' => e = .returned v ∧ Below W.heap.size W w') : Calls P f args W fun e w' => e = .returned v ∧ Kept w w' :=
  h.mono fun _ _ ⟨he, hb⟩ => ⟨he, hK.then hb⟩

/-- The load of a whole row, in every world of the class. -/
theorem wpQuiet_load_row {C : World → Prop} {Q : Act → Prop} {a : Act} {o : Oper} {rest : List Oper} (hw : Region.wanted o (yielded ops a.tmps) = true) (ty : TypeId) (x : Operand) (ho : o.op = .load ty x)
    (g : Nat) (hx : a.eval x = .pointer (some ⟨g, 0, none⟩)) (t : TypeId) (cs : Array Value) (fr : Nat × Nat) (d : TypeDesc) (hg : ∀ W, C W → W.heap[g]? = some (.cells cs t fr))
    (hu : P.underlying ty = some d) (hd : (match d with | .struct _ | .array _ _ => true | _ => false) = true) (hi : (P.info? ty).map (·.size) = some cs.size)
    (h : ∀ K : Act → Prop, (∀ a, wpQuiet P ops C Q rest a → K a) → K (a.put o.dst (.agg cs))) : wpQuiet P ops C Q (o :: rest) a := by
  unfold wpQuiet
  rw [if_pos hw]
  refine ⟨.agg cs, fun W hC => ?_, h _ (fun _ x => x)⟩
  unfold Oper.quietAt execOp
  simp only [ho, hx, Instr.loadAt, Instr.sureAddr, Sem.run_bind, Sem.run_pure, Result.andThen_ok, run_loadVar_row W g t ty cs fr d (hg W hC) hu hd hi]
  exact ⟨rfl, rfl⟩

/-- A call, in every world of the class. -/
theorem wpQuiet_call {C : World → Prop} {Q : Act → Prop} {a : Act} {o : Oper} {rest : List Oper} (hw : Region.wanted o (yielded ops a.tmps) = true) (f : FuncId) (args : Array Value) (v : Value)
    (ho : ∀ W, (execOp a.eval o).run P W = .ok (.enter f args) W) (hc : ∀ W, C W → Calls P f args W fun e w' => e = .returned v ∧ C w')
    (h : ∀ K : Act → Prop, (∀ a, wpQuiet P ops C Q rest a → K a) → K (a.put o.dst v)) : wpQuiet P ops C Q (o :: rest) a := by
  unfold wpQuiet
  rw [if_pos hw]
  refine ⟨v, fun W hC => ?_, h _ (fun _ x => x)⟩
  unfold Oper.quietAt
  rw [ho W]
  exact ⟨rfl, hc W hC⟩

/-- An operation that reads no memory. -/
theorem wpQuiet_pure {C : World → Prop} {Q : Act → Prop} {a : Act} {o : Oper} {rest : List Oper} (hw : Region.wanted o (yielded ops a.tmps) = true) (v : Value)
    (ho : ∀ W, C W → (execOp a.eval o).run P W = .ok (.value v) W) (h : ∀ K : Act → Prop, (∀ a, wpQuiet P ops C Q rest a → K a) → K (a.put o.dst v)) : wpQuiet P ops C Q (o :: rest) a := by
  unfold wpQuiet
  rw [if_pos hw]
  refine ⟨v, fun W hC => ?_, h _ (fun _ x => x)⟩
  unfold Oper.quietAt
  rw [ho W hC]
  exact ⟨rfl, rfl⟩
end

theorem box_below (w : World) (o : Obj) : Below w.heap.size w (w.alloc o) := (Below.refl _ _).alloc (Nat.le_refl _) _

theorem range_of_row {w : World} {b : Nat} {C : Array Value} {T : TypeId} {f : Nat × Nat} (g : w.heap[b]? = some (.cells C T f)) : w.rangeAt b 0 C.toList := fun j v hv => by
  rw [cell_of_row _ _ _ _ _ _ g, Nat.zero_add, ← Array.getElem?_toList]; exact hv

/-- The load of a number, in every world of the class. -/
theorem wpQuiet_load_int {P : Program} {ops : Array Oper} {C : World → Prop} {Q : Act → Prop} {a : Act} {o : Oper} {rest : List Oper} (hw : Region.wanted o (yielded ops a.tmps) = true) (ty : TypeId) (x : Operand) (ho : o.op = .load ty x)
    (p : Addr) (hx : a.eval x = .pointer (some p)) (k : IntKind) (hu : P.underlying ty = some (.int k)) (v : Value) (hg : ∀ W, C W → W.cell? p = some v)
    (h : ∀ K : Act → Prop, (∀ a, wpQuiet P ops C Q rest a → K a) → K (a.put o.dst v)) : wpQuiet P ops C Q (o :: rest) a := by
  refine wpQuiet_pure hw v (fun W hC => ?_) h
  have c := hg W hC
  have u := run_underlying hu
  simp [execOp, ho, hx, Instr.loadAt, Instr.sureAddr, loadVar, isAgg, u, c]

/-- The load of a slice out of a cell, in every world of the class. -/
theorem wpQuiet_load_slice {P : Program} {ops : Array Oper} {C : World → Prop} {Q : Act → Prop} {a : Act} {o : Oper} {rest : List Oper} (hw : Region.wanted o (yielded ops a.tmps) = true) (ty : TypeId) (x : Operand) (ho : o.op = .load ty x)
    (p : Addr) (hx : a.eval x = .pointer (some p)) (e : TypeId) (hu : P.underlying ty = some (.slice e)) (v : Value) (hg : ∀ W, C W → W.cell? p = some v)
    (h : ∀ K : Act → Prop, (∀ a, wpQuiet P ops C Q rest a → K a) → K (a.put o.dst v)) : wpQuiet P ops C Q (o :: rest) a := by
  refine wpQuiet_pure hw v (fun W hC => ?_) h
  have c := hg W hC
  have u := run_underlying hu
  simp [execOp, ho, hx, Instr.loadAt, Instr.sureAddr, loadVar, isAgg, u, c]

/-- The load of one cell, in every world of the class. -/
theorem wpQuiet_load_cell {P : Program} {ops : Array Oper} {C : World → Prop} {Q : Act → Prop} {a : Act} {o : Oper} {rest : List Oper} (hw : Region.wanted o (yielded ops a.tmps) = true) (ty : TypeId) (x : Operand) (ho : o.op = .load ty x)
    (p : Addr) (hx : a.eval x = .pointer (some p)) (d : TypeDesc) (hu : P.underlying ty = some d) (hd : (match d with | .struct _ | .array _ _ => true | _ => false) = false) (v : Value) (hg : ∀ W, C W → W.cell? p = some v)
    (h : ∀ K : Act → Prop, (∀ a, wpQuiet P ops C Q rest a → K a) → K (a.put o.dst v)) : wpQuiet P ops C Q (o :: rest) a := by
  refine wpQuiet_pure hw v (fun W hC => ?_) h
  have c := hg W hC
  have u := run_underlying hu
  cases d <;> first | (simp at hd; done) | (simp [execOp, ho, hx, Instr.loadAt, Instr.sureAddr, loadVar, isAgg, u, c])

/-- The load of a whole row, behind whatever guard holds. -/
theorem wpList_load_rowS {P : Program} {ops : Array Oper} {rest : List Oper} {o : Oper} {a : Act} {w : World} {Q : Exit → Act → World → Prop} (hw : Region.wanted o (yielded ops a.tmps) = true) (ty : TypeId) (x : Operand) (ho : o.op = .load ty x)
    (g : Nat) (hx : a.eval x = .pointer (some ⟨g, 0, none⟩)) (t : TypeId) (cs : Array Value) (fr : Nat × Nat) (d : TypeDesc) (hg : w.heap[g]? = some (.cells cs t fr))
    (hu : P.underlying ty = some d) (hd : (match d with | .struct _ | .array _ _ => true | _ => false) = true) (hi : (P.info? ty).map (·.size) = some cs.size)
    (h : ∀ K : Act → World → Prop, (∀ a w, wpList P ops Q rest a w → K a w) → K (a.put o.dst (.agg cs)) w) : wpList P ops Q (o :: rest) a w :=
  BigFrame.wpList_want hw fun K hK => wp_load_row ty x ho g hx t cs fr d hg hu hd hi (h K hK)

/-- A place at which a walk stands still. -/
def Halted (p : Prop) : Prop := p

theorem wpList_halt {P : Program} {ops : Array Oper} {rest : List Oper} {o : Oper} {a : Act} {w : World} {Q : Exit → Act → World → Prop} {d : Nat} (_hd : o.dst = some d) (h : Halted (wpList P ops Q (o :: rest) a w)) : wpList P ops Q (o :: rest) a w := h

/-- A store into a new block of one cell. -/
theorem store_new {P : Program} (w : World) (v c : Value) (t : TypeId) (hv : v.oneCell' = true) :
    (store ⟨w.heap.size, 0, none⟩ v).run P (w.alloc (.cells #[c] t)) = .ok () (w.alloc (.cells #[v] t)) := by
  have hg := heap_alloc_last w (.cells #[c] t)
  rw [run_store P _ _ v _ hv, cell_of_row _ _ _ _ _ _ hg, frozen_of_row _ _ _ _ _ hg, World.setCell_alloc_new]
  simp

/-- All stays but some blocks. -/
structure ButBy (Bs : Nat → Prop) (w w' : World) : Prop where
  os : w'.os = w.os
  tape : w'.tape = w.tape
  output : w'.output = w.output
  size : w.heap.size ≤ w'.heap.size
  block : ∀ k, k < w.heap.size → ¬ Bs k → w'.heap[k]? = w.heap[k]?

theorem ButBy.below {Bs : Nat → Prop} {w w' : World} (h : Below w.heap.size w w') : ButBy Bs w w' := ⟨h.os, h.tape, h.output, h.size, fun k hk _ => h.block k hk⟩

theorem ButBy.kept {Bs : Nat → Prop} {B : Nat} {w0 w w' : World} (h : ButBy Bs w w') (hB : ∀ k, Bs k → B ≤ k) (k0 : Below B w0 w) (hs : B ≤ w.heap.size) : Below B w0 w' :=
  ⟨h.os.trans k0.os, h.tape.trans k0.tape, h.output.trans k0.output, Nat.le_trans k0.size h.size, fun k hk => (h.block k (Nat.lt_of_lt_of_le hk hs) (fun e => by have := hB k e; omega)).trans (k0.block k hk)⟩

theorem ButBy.setCell {Bs : Nat → Prop} {w w' : World} (h : ButBy Bs w w') (g i : Nat) (v : Value) (hg : Bs g) : ButBy Bs w (w'.setCell ⟨g, i, none⟩ v) :=
  ⟨h.os, h.tape, h.output, by rw [World.size_setCell]; exact h.size, fun k hk hn => by rw [heap_setCell_other _ _ _ _ (fun e => hn (by rw [e]; exact hg))]; exact h.block k hk hn⟩

theorem ButBy.then_kept {Bs : Nat → Prop} {w w1 w2 : World} (h : ButBy Bs w w1) (k : Kept w1 w2) : ButBy Bs w w2 :=
  ⟨k.os.trans h.os, k.tape.trans h.tape, k.output.trans h.output, Nat.le_trans h.size k.size, fun j hj hn => (k.block j (Nat.lt_of_lt_of_le hj h.size)).trans (h.block j hj hn)⟩

theorem but_refl (Bs : Nat → Prop) (w : World) : ButBy Bs w w := ButBy.below (Below.refl _ w)

theorem ButBy.mono {Bs Cs : Nat → Prop} {w w' : World} (h : ButBy Bs w w') (hs : ∀ k, Bs k → Cs k) : ButBy Cs w w' := ⟨h.os, h.tape, h.output, h.size, fun k hk hn => h.block k hk (fun x => hn (hs k x))⟩
theorem ButBy.trans {Bs : Nat → Prop} {w w1 w2 : World} (h : ButBy Bs w w1) (k : ButBy Bs w1 w2) : ButBy Bs w w2 :=
  ⟨k.os.trans h.os, k.tape.trans h.tape, k.output.trans h.output, Nat.le_trans h.size k.size, fun j hj hn => (k.block j (Nat.lt_of_lt_of_le hj h.size) hn).trans (h.block j hj hn)⟩


end Go.Proofs.YtoigembmbajopaaDoor
namespace Go.Proofs.YtoigembmbajopaaDoor
open Go.RowKit

def runC (l : List (Int × Int)) : List Value := l.flatMap fun r => [Value.int .i64 r.1, Value.int .i64 r.2]
theorem runC_append (a b : List (Int × Int)) : runC (a ++ b) = runC a ++ runC b := List.flatMap_append
theorem runC_len : ∀ (l : List (Int × Int)), (runC l).length = l.length * 2
  | [] => rfl
  | r :: l => by
    show ([Value.int .i64 r.1, Value.int .i64 r.2] ++ runC l).length = (l.length + 1) * 2
    rw [List.length_append, runC_len l]; simp; omega
theorem runC_one (l : List (Int × Int)) : ∀ x ∈ runC l, x.oneCell' = true := fun x hx => by
  obtain ⟨r, _, hr⟩ := List.mem_flatMap.1 hx
  simp only [List.mem_cons, List.not_mem_nil, or_false] at hr
  rcases hr with rfl | rfl <;> rfl
theorem runC_get : ∀ (l : List (Int × Int)) (k : Nat) (h : k < l.length), (runC l)[k * 2]? = some (.int .i64 l[k].1) ∧ (runC l)[k * 2 + 1]? = some (.int .i64 l[k].2)
  | [], k, h => by simp at h
  | r :: l, 0, _ => ⟨rfl, rfl⟩
  | r :: l, k + 1, h => by
    have ih := runC_get l k (by simpa using h)
    have e : runC (r :: l) = [Value.int .i64 r.1, Value.int .i64 r.2] ++ runC l := rfl
    rw [e, List.getElem?_append_right (by simp; omega), List.getElem?_append_right (by simp; omega)]
    simp only [List.length_cons, List.length_nil, List.getElem_cons_succ]
    rw [show (k + 1) * 2 - (0 + 1 + 1) = k * 2 by omega, show (k + 1) * 2 + 1 - (0 + 1 + 1) = k * 2 + 1 by omega]
    exact ih
theorem runC_take (l : List (Int × Int)) (n : Nat) : runC (l.take n) = (runC l).take (n * 2) := by
  have h := runC_append (l.take n) (l.drop n)
  rw [List.take_append_drop] at h
  by_cases hn : n ≤ l.length
  · rw [h, List.take_left' (by rw [runC_len, List.length_take]; omega)]
  · rw [List.take_of_length_le (by omega), List.take_of_length_le (by rw [runC_len]; omega)]
/-- A list whose last run has one sector more. -/
theorem runC_bump (l : List (Int × Int)) (h : 0 < l.length) : runC (bump l) = (runC l).set ((l.length - 1) * 2 + 1) (.int .i64 ((l.getD (l.length - 1) (0, 0)).2 + 1)) := by
  obtain ⟨pre, r, rfl⟩ : ∃ pre r, l = pre ++ [r] := ⟨l.dropLast, l.getLast (by intro e; rw [e] at h; simp at h), (List.dropLast_concat_getLast _).symm⟩
  have e : (pre ++ [r]).getD pre.length (0, 0) = r := by rw [List.getD_eq_getElem?_getD, List.getElem?_append_right (Nat.le_refl _), Nat.sub_self]; rfl
  have e2 : (pre ++ [r]).length - 1 = pre.length := by simp
  rw [bump_snoc, runC_append, runC_append, e2, e, List.set_append_right _ _ (by rw [runC_len]; omega), runC_len, show pre.length * 2 + 1 - pre.length * 2 = 1 by omega]
  rfl

/-- A slice of runs. -/
structure RunsAt (l : List (Int × Int)) (v : Value) (w : World) : Prop where
  wf : wfR l
  cap : ∀ p n c, v = .slice p n c → n ≤ c
  at_ : FlatAt 2 l.length (runC l) v w

theorem RunsAt.later {l : List (Int × Int)} {v : Value} {w w' : World} (h : RunsAt l v w) (k : Kept w w') : RunsAt l v w' := ⟨h.wf, h.cap, h.at_.later k⟩
theorem RunsAt.nil (w : World) (c : Nat) : RunsAt [] (.slice none 0 c) w := ⟨wfR_nil, fun p n c' e => by simp only [Value.slice.injEq] at e; omega, rfl, fun x hx => (by cases hx), none, c, rfl, Or.inl rfl⟩
/-- As it lies. -/
theorem RunsAt.out {l : List (Int × Int)} {v : Value} {w : World} (h : RunsAt l v w) : ∃ p c, v = .slice p l.length c ∧ l.length ≤ c ∧
    (l.length = 0 ∨ ∃ b off, p = some ⟨b, off, none⟩ ∧ ∀ k (hk : k < l.length), w.cell? ⟨b, off + k * 2, none⟩ = some (.int .i64 l[k].1) ∧ w.cell? ⟨b, off + k * 2 + 1, none⟩ = some (.int .i64 l[k].2)) := by
  obtain ⟨hl, h1, p, c, rfl, hc⟩ := h.at_
  refine ⟨p, c, rfl, h.cap _ _ _ rfl, ?_⟩
  rcases hc with h0 | ⟨b, off, hp, hc⟩
  · exact Or.inl h0
  · refine Or.inr ⟨b, off, hp, fun k hk => ?_⟩
    have hg := runC_get l k hk
    exact ⟨hc _ _ hg.1, by rw [show off + k * 2 + 1 = off + (k * 2 + 1) by omega]; exact hc _ _ hg.2⟩
theorem RunsAt.own {w : World} {base : Nat} {e : TypeId} {v : Value} {l : List (Int × Int)} (h : w.ownsRow base e 2 v l.length (runC l)) (hw : wfR l) : RunsAt l v w := by
  refine ⟨hw, fun p n c e => ?_, FlatAt.own h (runC_one l)⟩
  rcases h.2 with ⟨rfl, _⟩ | ⟨g, cap, cur, rfl, _, _, hc, _⟩
  · simp only [Value.slice.injEq] at e; omega
  · simp only [Value.slice.injEq] at e; omega
theorem RunsAt.of_cells {l : List (Int × Int)} {w : World} (hw : wfR l) (p : Option Addr) (c : Nat) (hc : l.length ≤ c) (h : l.length = 0 ∨ ∃ b off, p = some ⟨b, off, none⟩ ∧ ∀ j x, (runC l)[j]? = some x → w.cell? ⟨b, off + j, none⟩ = some x) : RunsAt l (.slice p l.length c) w :=
  ⟨hw, fun p' n' c' e => by simp only [Value.slice.injEq] at e; omega, runC_len l, runC_one l, p, c, rfl, h⟩

/-- A slice of runs that is laid in a new block. -/
theorem RunsAt.new (w : World) (l : List (Int × Int)) (hl : wfR l) (n : Nat) (hn : l.length = n) (X : Array Value) (hX : X.toList = runC l) : RunsAt l (.slice (some ⟨w.heap.size, 0, none⟩) n n) (w.alloc (.cells X 83)) := by
  subst hn
  exact RunsAt.of_cells hl _ _ (Nat.le_refl _) (Or.inr ⟨w.heap.size, 0, rfl, fun j x hx => by
    rw [Nat.zero_add, cell_of_row _ _ _ _ _ _ (heap_alloc_new w _), ← Array.getElem?_toList, hX]; exact hx⟩)

/-- A row of so many truths. -/
def RowF (b : Nat) (f : Nat → Bool) (w : World) : Prop := ∃ cs : Array Value, w.heap[b]? = some (.cells cs 4 (0, 0)) ∧ cs.size = 8192 ∧ ∀ k, k < 8192 → cs[k]? = some (.bool (f k))

section
variable {b : Nat} {f : Nat → Bool} {w : World} (h : RowF b f w)
include h
theorem RowF.lt : b < w.heap.size := by obtain ⟨cs, hb, _⟩ := h; exact (Array.getElem?_eq_some_iff.1 hb).1
theorem RowF.stay {w' : World} (hk : w'.heap[b]? = w.heap[b]?) : RowF b f w' := by obtain ⟨cs, hb, r⟩ := h; exact ⟨cs, hk.trans hb, r⟩
theorem RowF.kept {w' : World} (k : Kept w w') : RowF b f w' := h.stay (k.block b h.lt)
theorem RowF.cell (k : Nat) (hk : k < 8192) : w.cell? ⟨b, k, none⟩ = some (.bool (f k)) := by
  obtain ⟨cs, hb, _, hc⟩ := h
  rw [cell_of_row _ _ k _ _ _ hb]; exact hc k hk
theorem RowF.froz (k : Nat) : w.frozen? ⟨b, k, none⟩ = false := by obtain ⟨cs, hb, _⟩ := h; exact frozen_of_row _ _ _ _ _ hb
theorem RowF.congr {g : Nat → Bool} (e : ∀ k, k < 8192 → f k = g k) : RowF b g w := by
  obtain ⟨cs, hb, hs, hc⟩ := h
  exact ⟨cs, hb, hs, fun k hk => by rw [← e k hk]; exact hc k hk⟩
theorem RowF.set (i : Nat) (x : Bool) : RowF b (fun k => if k = i then x else f k) (w.setCell ⟨b, i, none⟩ (.bool x)) := by
  obtain ⟨cs, hb, hs, hc⟩ := h
  refine ⟨_, heap_setCell_same _ _ _ _ _ _ hb, by simpa using hs, fun k hk => ?_⟩
  rw [Array.getElem?_setIfInBounds]
  by_cases e : k = i
  · subst e; rw [if_pos rfl, if_pos (by omega)]; show _ = some (Value.bool (if k = k then x else f k)); rw [if_pos rfl]
  · rw [if_neg (fun x => e x.symm)]; show _ = some (Value.bool (if k = i then x else f k)); rw [if_neg e]; exact hc k hk
end

/-- The sector behind a run's last one, at most 8192; 0: it has none. -/
def endI (r : Int × Int) : Int := if r.2 < 1 ∨ 8192 ≤ r.1 then 0 else if 0 ≤ r.1 ∧ 8192 - r.1 < r.2 then 8192 else min (max (r.1 + r.2) 0) 8192
theorem endI_in (r : Int × Int) (k : Nat) : (max r.1 0 ≤ (k : Int) ∧ (k : Int) < endI r) ↔ (k < 8192 ∧ inR r k = true) := by
  unfold endI inR
  simp only [decide_eq_true_eq]
  split
  · omega
  · split
    · omega
    · omega

/-- What few returns. -/
def fewV (l : List (Int × Int)) (v : Value) : Value := match v with
  | .slice p n c => if 30 < l.length then .slice p 30 c else .slice p n c
  | x => x
theorem fewV_at {l : List (Int × Int)} {v : Value} {w : World} (h : RunsAt l v w) : RunsAt (l.take 30) (fewV l v) w := by
  obtain ⟨hl, h1, p, c, rfl, hc⟩ := h.at_
  have hcap := h.cap _ _ _ rfl
  have hwf := wfR_take h.wf 30
  show RunsAt (l.take 30) (if 30 < l.length then .slice p 30 c else .slice p l.length c) w
  by_cases hb : 30 < l.length
  · rw [if_pos hb]
    have hlt : (l.take 30).length = 30 := by rw [List.length_take]; omega
    rcases hc with h0 | ⟨b, off, rfl, hcell⟩
    · omega
    have := RunsAt.of_cells (w := w) hwf (some ⟨b, off, none⟩) c (by rw [hlt]; omega) (Or.inr ⟨b, off, rfl, fun j x hx => hcell j x (by
      rw [runC_take, List.getElem?_take] at hx
      split at hx
      · exact hx
      · cases hx)⟩)
    rw [hlt] at this
    exact this
  · rw [if_neg hb, List.take_of_length_le (by omega)]
    exact h

end Go.Proofs.YtoigembmbajopaaDoor
namespace Go.Proofs.YtoigembmbajopaaDoor
open Go.RowKit

def I64 (n : Int) : Prop := -9223372036854775808 ≤ n ∧ n ≤ 9223372036854775807
theorem wf_I64 {i : Int} (h : (Lit.int .i64 i).wf = true) : I64 i := by
  unfold I64
  simpa [Lit.wf, IntKind.min, IntKind.max, IntKind.signed, IntKind.bits] using h

/-- Runs that a call made. -/
def OwnRuns (B : Nat) (l : List (Int × Int)) (v : Value) (w : World) : Prop := w.ownsRow B 83 2 v l.length (runC l)
theorem OwnRuns.at_ {B : Nat} {l : List (Int × Int)} {v : Value} {w : World} (h : OwnRuns B l v w) (hw : wfR l) : RunsAt l v w := RunsAt.own h hw
theorem OwnRuns.base {B C : Nat} {l : List (Int × Int)} {v : Value} {w : World} (h : OwnRuns B l v w) (hC : C ≤ B) : OwnRuns C l v w := own_base h hC

/-- A slice that lies in none of some blocks. -/
def Apart (v : Value) (Bs : Nat → Prop) : Prop := ∀ a n c, v = .slice (some a) n c → n ≠ 0 → ¬ Bs a.block
/-- A slice that lies in new memory. -/
def NewAt (v : Value) (w : World) : Prop := ∀ a n c, v = .slice (some a) n c → n ≠ 0 → w.heap.size ≤ a.block
/-- A list that lies in none of some blocks. -/
structure LiveAt (l : List (Int × Int)) (v : Value) (Bs : Nat → Prop) (w : World) : Prop where
  at_ : RunsAt l v w
  apart : Apart v Bs

theorem RunsAt.block {l : List (Int × Int)} {w : World} {a : Addr} {n c : Nat} (h : RunsAt l (.slice (some a) n c) w) (hn : n ≠ 0) : a.block < w.heap.size := by
  obtain ⟨p, c', he, -, hc⟩ := h.out
  simp only [Value.slice.injEq] at he
  obtain ⟨rfl, rfl, -⟩ := he
  rcases hc with h0 | ⟨b, off, hp, hc⟩
  · exact absurd h0 hn
  · have hp2 := Option.some.inj hp
    rw [hp2]
    have := World.block_lt_of_cell? _ _ (hc 0 (by omega)).1
    exact this

theorem LiveAt.later {l : List (Int × Int)} {v : Value} {Bs : Nat → Prop} {w w' : World} (h : LiveAt l v Bs w) (k : Kept w w') : LiveAt l v Bs w' := ⟨h.at_.later k, h.apart⟩
theorem RunsAt.but {l : List (Int × Int)} {v : Value} {Bs : Nat → Prop} {w w' : World} (h : RunsAt l v w) (ha : Apart v Bs) (hb : ButBy Bs w w') : RunsAt l v w' := by
  refine ⟨h.wf, h.cap, ?_⟩
  obtain ⟨h1, h2, p, c, rfl, hc⟩ := h.at_
  refine ⟨h1, h2, p, c, rfl, ?_⟩
  rcases hc with h0 | ⟨b, off, rfl, hc⟩
  · exact Or.inl h0
  · by_cases hl : l.length = 0
    · exact Or.inl hl
    · refine Or.inr ⟨b, off, rfl, fun j x hx => ?_⟩
      have hcx := hc j x hx
      have hlt := World.block_lt_of_cell? _ _ hcx
      rw [World.cell?_of_block (a := ⟨b, off + j, none⟩) (hb.block b hlt (ha _ _ _ rfl hl))]
      exact hcx
/-- Behind a call that changes a map. -/
theorem LiveAt.turn {l : List (Int × Int)} {v : Value} {Bs Bs' : Nat → Prop} {w w' : World} (h : LiveAt l v Bs w) (hs : ∀ k, Bs' k → Bs k ∨ w.heap.size ≤ k) (hb : ButBy Bs w w') : LiveAt l v Bs' w' :=
  ⟨h.at_.but h.apart hb, fun a n c e hn hk => by
    subst e
    rcases hs _ hk with x | x
    · exact h.apart _ _ _ rfl hn x
    · have := h.at_.block hn; omega⟩
theorem LiveAt.old {l : List (Int × Int)} {v : Value} {Bs : Nat → Prop} {w : World} (h : RunsAt l v w) (hB : ∀ k, Bs k → w.heap.size ≤ k) : LiveAt l v Bs w :=
  ⟨h, fun a n c e hn hk => by subst e; have := h.block hn; have := hB _ hk; omega⟩
theorem LiveAt.own {l : List (Int × Int)} {v : Value} {Bs : Nat → Prop} {B : Nat} {w : World} (h : OwnRuns B l v w) (hw : wfR l) (hB : ∀ k, Bs k → k < B) : LiveAt l v Bs w :=
  ⟨h.at_ hw, fun a n c e hn hk => by
    subst e
    have := (World.ownsRow.lt h a.block rfl).1
    have := hB _ hk
    omega⟩

end Go.Proofs.YtoigembmbajopaaDoor
namespace Go.Proofs.YtoigembmbajopaaDoor
open Go.RowKit

/-- Numbers of the machine. -/
structure Rc.wf (r : Rc) : Prop where
  kind : I64 r.kind
  id : r.id < 4294967296
  name : r.name.length ≤ maxLen
  size : I64 r.size
def recC (r : Rc) (tv : Value) : Array Value := #[.int .i64 r.kind, .int .u32 (r.id : Nat), .string (str r.name), .int .i64 r.size, tv]
def recV (r : Rc) (tv : Value) : Value := .agg (recC r tv)
structure RecAt (r : Rc) (tv : Value) (w : World) : Prop where
  runs : RunsAt r.runs tv w
  wf : r.wf
/-- A record, as a value. -/
def RecIs (r : Rc) (v : Value) (w : World) : Prop := ∃ tv, v = recV r tv ∧ RecAt r tv w
theorem RecAt.later {r : Rc} {tv : Value} {w w' : World} (h : RecAt r tv w) (k : Kept w w') : RecAt r tv w' := ⟨h.runs.later k, h.wf⟩
theorem RecIs.later {r : Rc} {v : Value} {w w' : World} (h : RecIs r v w) (k : Kept w w') : RecIs r v w' := by
  obtain ⟨tv, e, h⟩ := h
  exact ⟨tv, e, h.later k⟩
theorem infoRc : (Tryd.prog.info? 30).map (·.size) = some 5 := by kernel_rfl
theorem RunsAt.one_ {l : List (Int × Int)} {v : Value} {w : World} (h : RunsAt l v w) : v.oneCell' = true := by
  obtain ⟨p, c, rfl, _⟩ := h.out
  rfl

/-- Records with the slices of their runs, cell by cell. -/
def cellsA (A : List (Rc × Value)) : List Value := A.flatMap fun a => (recC a.1 a.2).toList
theorem cellsA_append (A B : List (Rc × Value)) : cellsA (A ++ B) = cellsA A ++ cellsA B := List.flatMap_append
theorem cellsA_len : ∀ (A : List (Rc × Value)), (cellsA A).length = A.length * 5
  | [] => rfl
  | a :: A => by
    show ((recC a.1 a.2).toList ++ cellsA A).length = (A.length + 1) * 5
    rw [List.length_append, cellsA_len A]
    show 5 + _ = _
    omega
theorem cellsA_get : ∀ (A : List (Rc × Value)) (k : Nat) (h : k < A.length) (j : Nat), j < 5 → (cellsA A)[k * 5 + j]? = (recC A[k].1 A[k].2)[j]?
  | [], k, h, _, _ => by simp at h
  | a :: A, 0, _, j, hj => by
    show ((recC a.1 a.2).toList ++ cellsA A)[0 * 5 + j]? = _
    rw [List.getElem?_append_left (by show 0 * 5 + j < 5; omega), Nat.zero_mul, Nat.zero_add, ← Array.getElem?_toList]
    rfl
  | a :: A, k + 1, h, j, hj => by
    have ih := cellsA_get A k (by simpa using h) j hj
    show ((recC a.1 a.2).toList ++ cellsA A)[(k + 1) * 5 + j]? = _
    rw [List.getElem?_append_right (by show 5 ≤ (k + 1) * 5 + j; omega)]
    show (cellsA A)[(k + 1) * 5 + j - 5]? = _
    rw [show (k + 1) * 5 + j - 5 = k * 5 + j by omega, ih]
    rfl
structure RecsIn (A : List (Rc × Value)) (v : Value) (w : World) : Prop where
  each : ∀ a ∈ A, RecAt a.1 a.2 w
  cap : ∀ p n c, v = .slice p n c → n ≤ c
  at_ : FlatAt 5 A.length (cellsA A) v w
/-- A slice of records. -/
def RecsAt (l : List Rc) (v : Value) (w : World) : Prop := ∃ A : List (Rc × Value), A.map Prod.fst = l ∧ RecsIn A v w
theorem RecsIn.later {A : List (Rc × Value)} {v : Value} {w w' : World} (h : RecsIn A v w) (k : Kept w w') : RecsIn A v w' := ⟨fun a ha => (h.each a ha).later k, h.cap, h.at_.later k⟩
theorem RecsAt.later {l : List Rc} {v : Value} {w w' : World} (h : RecsAt l v w) (k : Kept w w') : RecsAt l v w' := by
  obtain ⟨A, e, h⟩ := h
  exact ⟨A, e, h.later k⟩
theorem cellsA_one {A : List (Rc × Value)} {w : World} (h : ∀ a ∈ A, RecAt a.1 a.2 w) : ∀ x ∈ cellsA A, x.oneCell' = true := fun x hx => by
  obtain ⟨a, ha, hx⟩ := List.mem_flatMap.1 hx
  have := (h a ha).runs.one_
  simp only [recC, List.mem_cons, List.not_mem_nil, or_false] at hx
  rcases hx with rfl | rfl | rfl | rfl | rfl
  · rfl
  · rfl
  · rfl
  · rfl
  · exact this
theorem RecsIn.nil (w : World) (c : Nat) : RecsIn [] (.slice none 0 c) w where
  each := fun a ha => by cases ha
  cap := fun p n c' e => by simp only [Value.slice.injEq] at e; omega
  at_ := ⟨rfl, fun x hx => (by cases hx), none, c, rfl, Or.inl rfl⟩
theorem RecsAt.nil (w : World) (c : Nat) : RecsAt [] (.slice none 0 c) w := ⟨[], rfl, RecsIn.nil w c⟩
/-- As it lies. -/
theorem RecsIn.out {A : List (Rc × Value)} {v : Value} {w : World} (h : RecsIn A v w) : ∃ p c, v = .slice p A.length c ∧ A.length ≤ c ∧
    (A.length = 0 ∨ ∃ b off, p = some ⟨b, off, none⟩ ∧ ∀ k (hk : k < A.length), ∀ j, j < 5 → w.cell? ⟨b, off + k * 5 + j, none⟩ = (recC A[k].1 A[k].2)[j]?) := by
  obtain ⟨hl, h1, p, c, rfl, hc⟩ := h.at_
  refine ⟨p, c, rfl, h.cap _ _ _ rfl, ?_⟩
  rcases hc with h0 | ⟨b, off, hp, hc⟩
  · exact Or.inl h0
  · refine Or.inr ⟨b, off, hp, fun k hk j hj => ?_⟩
    have hg := cellsA_get A k hk j hj
    have hs : (recC A[k].1 A[k].2)[j]? = some (recC A[k].1 A[k].2)[j] := Array.getElem?_eq_getElem (by show j < 5; omega)
    rw [hs] at hg ⊢
    rw [show off + k * 5 + j = off + (k * 5 + j) by omega]
    exact hc _ _ hg
theorem RecsIn.len {A : List (Rc × Value)} {l : List Rc} (h : A.map Prod.fst = l) : l.length = A.length := by rw [← h, List.length_map]
theorem RecsIn.own {w : World} {base : Nat} {e : TypeId} {v : Value} {A : List (Rc × Value)} (h : w.ownsRow base e 5 v A.length (cellsA A)) (hw : ∀ a ∈ A, RecAt a.1 a.2 w) : RecsIn A v w := by
  refine ⟨hw, fun p n c e => ?_, FlatAt.own h (cellsA_one hw)⟩
  rcases h.2 with ⟨rfl, _⟩ | ⟨g, cap, cur, rfl, _, _, hc, _⟩
  · simp only [Value.slice.injEq] at e; omega
  · simp only [Value.slice.injEq] at e; omega

/-- A slice of slices of records. -/
structure TxsIn (L : List (List Rc)) (vs : List Value) (v : Value) (w : World) : Prop where
  len : vs.length = L.length
  each : ∀ i (h : i < L.length) (h' : i < vs.length), RecsAt L[i] vs[i] w
  cap : ∀ p n c, v = .slice p n c → n ≤ c
  at_ : FlatAt 1 L.length vs v w
def TxsAt (L : List (List Rc)) (v : Value) (w : World) : Prop := ∃ vs, TxsIn L vs v w
theorem TxsIn.later {L : List (List Rc)} {vs : List Value} {v : Value} {w w' : World} (h : TxsIn L vs v w) (k : Kept w w') : TxsIn L vs v w' := ⟨h.len, fun i h1 h2 => (h.each i h1 h2).later k, h.cap, h.at_.later k⟩
theorem TxsAt.later {L : List (List Rc)} {v : Value} {w w' : World} (h : TxsAt L v w) (k : Kept w w') : TxsAt L v w' := by
  obtain ⟨vs, h⟩ := h
  exact ⟨vs, h.later k⟩
theorem TxsIn.out {L : List (List Rc)} {vs : List Value} {v : Value} {w : World} (h : TxsIn L vs v w) : ∃ p c, v = .slice p L.length c ∧ L.length ≤ c ∧
    (L.length = 0 ∨ ∃ b off, p = some ⟨b, off, none⟩ ∧ ∀ k (hk : k < vs.length), w.cell? ⟨b, off + k, none⟩ = some vs[k]) := by
  obtain ⟨hl, h1, p, c, rfl, hc⟩ := h.at_
  refine ⟨p, c, rfl, h.cap _ _ _ rfl, ?_⟩
  rcases hc with h0 | ⟨b, off, hp, hc⟩
  · exact Or.inl h0
  · exact Or.inr ⟨b, off, hp, fun k hk => hc k _ (List.getElem?_eq_getElem hk)⟩
theorem TxsIn.own {w : World} {base : Nat} {e : TypeId} {v : Value} {L : List (List Rc)} {vs : List Value} (h : w.ownsRow base e 1 v L.length vs) (hl : vs.length = L.length) (h1 : ∀ x ∈ vs, x.oneCell' = true) (hw : ∀ i (h : i < L.length) (h' : i < vs.length), RecsAt L[i] vs[i] w) : TxsIn L vs v w := by
  refine ⟨hl, hw, fun p n c e => ?_, FlatAt.own h h1⟩
  rcases h.2 with ⟨rfl, _⟩ | ⟨g, cap, cur, rfl, _, _, hc, _⟩
  · simp only [Value.slice.injEq] at e; omega
  · simp only [Value.slice.injEq] at e; omega
theorem RecsAt.sliced {l : List Rc} {v : Value} {w : World} (h : RecsAt l v w) : ∃ p c, v = .slice p l.length c ∧ l.length ≤ c := by
  obtain ⟨A, e, h⟩ := h
  obtain ⟨p, c, rfl, hc, _⟩ := h.out
  rw [RecsIn.len e]
  exact ⟨p, c, rfl, hc⟩

end Go.Proofs.YtoigembmbajopaaDoor
namespace Go.Proofs.YtoigembmbajopaaDoor
open Go.RowKit

theorem neq_run (a n b m : Int) (w : World) : (binOp .neq 83 (.agg #[.int .i64 a, .int .i64 n]) (.agg #[.int .i64 b, .int .i64 m])).run Tryd.prog w = .ok (.bool (!(decide (a = b) && decide (n = m)))) w := by
  have h := run_equalIn_struct (P := Tryd.prog) w 9999 83 #[.int .i64 a, .int .i64 n] #[.int .i64 b, .int .i64 m] (by kernel_rfl) (by kernel_rfl)
  have hq : (Op.equalIn 10000 83 (.agg #[.int .i64 a, .int .i64 n]) (.agg #[.int .i64 b, .int .i64 m])).run Tryd.prog w = .ok (decide (a = b) && decide (n = m)) w := by
    rw [h]
    by_cases h1 : a = b
    · by_cases h2 : n = m
      · subst h1 h2
        go_simp
      · subst h1
        go_simp
    · go_simp
  rw [run_neq_struct, hq]
  rfl

end Go.Proofs.YtoigembmbajopaaDoor
namespace Go.Proofs.YtoigembmbajopaaDoor
open Go.RowKit

theorem rneed_any (n : Int) (hn : -9223372036854775808 ≤ n ∧ n ≤ 9223372036854775807) (w : World) :
    Calls Tryd.prog 41 #[.int .i64 n] w fun e w' => e = .returned (.int .i64 (needN n)) ∧ w = w' := by
  by_cases h1 : n < 1
  · have e1 : needN n = 0 := if_pos h1
    rw [e1]
    go_enter Tryd.func41, Tryd.ntmps41
    go_wp2
    go_ret
    exact ⟨rfl, rfl⟩
  · have e1 : needN n = (n - 1) / 128 + 1 := if_neg h1
    obtain ⟨d, hd⟩ : ∃ d, d = n - 1 := ⟨_, rfl⟩
    have hd0 : 0 ≤ d ∧ d ≤ 9223372036854775806 := by omega
    have v1 : IntKind.i64.wrap (n - 1) = d := by rw [← hd]; exact IntWalk.i64_in _ (by omega)
    have v2 : IntKind.i64.wrap (d.tdiv 128) = d / 128 := by rw [Int.tdiv_eq_ediv_of_nonneg hd0.1]; exact IntWalk.i64_in _ (by omega)
    have v3 : IntKind.i64.wrap (d / 128 + 1) = d / 128 + 1 := IntWalk.i64_in _ (by omega)
    have v4 : IntKind.i64.wrap (d / 128) = d / 128 := IntWalk.i64_in _ (by omega)
    rw [e1, ← hd]
    have V5 : Hid (wrap64 (wrap64 (d.tdiv 128) + 1) = d / 128 + 1) := Lib.hid (by rw [← IntWalk.i64_left, ← IntWalk.i64_left, v2, v3])
    clear hd hd0 v2 v3 v4
    go_enter Tryd.func41, Tryd.ntmps41
    go_wp2
    go_ret
    exact ⟨congrArg (fun z => Ending.returned (Value.int .i64 z)) V5.out, rfl⟩

set_option maxRecDepth 100000 in
set_option maxHeartbeats 1000000 in
/-- Are two lists the same? -/
theorem rsameRuns_any (la lb : List (Int × Int)) (u v : Value) (w : World) (ha : RunsAt la u w) (hb : RunsAt lb v w) (hla : la.length ≤ 1048576) :
    Calls Tryd.prog 46 #[u, v] w fun e w' => e = .returned (.bool (decide (la = lb))) ∧ Below w.heap.size w w' := by
  obtain ⟨pa, ca, rfl, -, hca⟩ := ha.out
  obtain ⟨pb, cb, rfl, -, hcb⟩ := hb.out
  by_cases hlen : la.length = lb.length
  · have b1 : ((la.length : Int) != (lb.length : Int)) = false := by rw [bne_eq_false_iff_eq]; omega
    have HCA := Lib.hid hca
    have HCB := Lib.hid hcb
    have HLEN := Lib.hid hlen
    obtain ⟨n, hn⟩ : ∃ n, n = la.length := ⟨_, rfl⟩
    have hm : lb.length = n := by omega
    rw [← hn] at b1 hla ⊢
    rw [hm] at b1 ⊢
    have HN := Lib.hid hn
    clear ha hb hca hcb hlen hn hm
    go_enter Tryd.func46, Tryd.ntmps46
    go_wp2
    go_loopg [5] n (fun gh s5 wx => ∃ k : Nat, k + gh = n ∧ s5 = .int .i64 k ∧ Hid (la.take k = lb.take k) ∧ Hid (Kept w wx))
    case atStart => exact ⟨0, by omega, rfl, Lib.hid rfl, Lib.hid (Kept.refl w)⟩
    case round =>
      obtain ⟨k, hk, rfl, HE, HK⟩ := hrel
      by_cases hkn : k < n
      · have hki : (k : Int) < n := by omega
        have bk : decide ((k : Int) < (n : Int)) = true := by simpa using hki
        have hki0 : (0 : Int) ≤ k := by omega
        have hka : k < la.length := by rw [← HN.out]; exact hkn
        have hkb : k < lb.length := by rw [← HLEN.out]; exact hka
        rcases HCA.out with h0 | ⟨ba, oa, rfl, hcella⟩
        · omega
        rcases HCB.out with h0 | ⟨bb, ob, rfl, hcellb⟩
        · omega
        have d1 := HK.out.cell (hcella k hka).1
        have d2 := HK.out.cell (hcella k hka).2
        have d3 := HK.out.cell (hcellb k hkb).1
        have d4 := HK.out.cell (hcellb k hkb).2
        have hne := neq_run la[k].1 la[k].2 lb[k].1 lb[k].2
        have htk := List.take_succ_eq_append_getElem hka
        have htl := List.take_succ_eq_append_getElem hkb
        have hd : (decide (la[k].1 = lb[k].1) && decide (la[k].2 = lb[k].2)) = decide (la[k] = lb[k]) := by
          rw [Bool.eq_iff_iff]; simp only [Bool.and_eq_true, decide_eq_true_eq, Prod.ext_iff]
        rw [hd] at hne
        obtain ⟨a1, ha1⟩ : ∃ a1, a1 = la[k].1 := ⟨_, rfl⟩
        obtain ⟨a2, ha2⟩ : ∃ a2, a2 = la[k].2 := ⟨_, rfl⟩
        obtain ⟨b1', hb1⟩ : ∃ b1', b1' = lb[k].1 := ⟨_, rfl⟩
        obtain ⟨b2', hb2⟩ : ∃ b2', b2' = lb[k].2 := ⟨_, rfl⟩
        rw [← ha1] at d1 hne
        rw [← ha2] at d2 hne
        rw [← hb1] at d3 hne
        rw [← hb2] at d4 hne
        obtain ⟨k1, hk1⟩ : ∃ k1, k1 = k + 1 := ⟨_, rfl⟩
        have v1 : IntKind.i64.wrap ((k : Int) + 1) = (k1 : Int) := by rw [show (k : Int) + 1 = (k1 : Int) by omega]; exact IntWalk.i64_in _ (by omega)
        by_cases heq : la[k] = lb[k]
        · have hnx : Hid (la.take k1 = lb.take k1) := Lib.hid (by rw [hk1, htk, htl, HE.out, heq])
          rw [decide_eq_true heq, Bool.not_true] at hne
          have HK2 : Hid (∀ j, Kept w (wr.drewN j)) := Lib.hid (fun j => HK.out.then (below_drewN (Below.refl _ wr) j))
          clear ha1 ha2 hb1 hb2 hd htk htl heq hcella hcellb
          go_wp2
          go_quiet (fail)
          go_wp2
          go_roundg (n - k1)
          case measure => omega
          case rel => exact ⟨k1, by omega, by first | rfl | (congr 1; omega), hnx, Lib.hid (HK2.out _)⟩
        · have hne2 : Hid (decide (la = lb) = false) := Lib.hid (decide_eq_false (fun e => heq (by subst e; rfl)))
          rw [decide_eq_false heq, Bool.not_false] at hne
          have HK2 : Hid (∀ j, Kept w (wr.drewN j)) := Lib.hid (fun j => HK.out.then (below_drewN (Below.refl _ wr) j))
          clear ha1 ha2 hb1 hb2 hd htk htl heq hcella hcellb
          go_wp2
          go_quiet (fail)
          go_wp2
          go_ret
          exact ⟨by rw [hne2.out]; rfl, HK2.out _⟩
      · have hki : ¬ (k : Int) < n := by omega
        have bk : decide ((k : Int) < (n : Int)) = false := by simpa using hki
        have hee : Hid (decide (la = lb) = true) := Lib.hid (decide_eq_true (by
          have h := HE.out
          rw [List.take_of_length_le (by rw [← HN.out]; omega), List.take_of_length_le (by rw [← HLEN.out, ← HN.out]; omega)] at h
          exact h))
        go_wp2
        go_ret
        exact ⟨by rw [hee.out]; rfl, HK.out⟩
  · have b1 : ((la.length : Int) != (lb.length : Int)) = true := by rw [bne_iff_ne]; omega
    have hne2 : Hid (decide (la = lb) = false) := Lib.hid (decide_eq_false (fun e => hlen (by rw [e])))
    obtain ⟨n, hn⟩ : ∃ n, n = la.length := ⟨_, rfl⟩
    obtain ⟨m, hm⟩ : ∃ m, m = lb.length := ⟨_, rfl⟩
    rw [← hn, ← hm] at b1 ⊢
    clear ha hb hca hcb hlen hn hm hla
    go_enter Tryd.func46, Tryd.ntmps46
    go_wp2
    go_ret
    exact ⟨by rw [hne2.out]; rfl, Below.refl _ _⟩


theorem sumR_take (l : List (Int × Int)) (k : Nat) (h : k < l.length) : sumR (l.take (k + 1)) = sumR (l.take k) + l[k].2 := by
  rw [List.take_succ_eq_append_getElem h, sumR_append]
  unfold sumR
  simp

set_option maxRecDepth 100000 in
set_option maxHeartbeats 1000000 in
/-- How many sectors runs have, each at most 8192. -/
theorem rsum11_any (l : List (Int × Int)) (v : Value) (w : World) (h : RunsAt l v w) (hl : l.length ≤ 1048576) (hb : ∀ r ∈ l, 0 ≤ r.2 ∧ r.2 ≤ 8192) :
    Calls Tryd.prog 40 #[v] w fun e w' => e = .returned (.int .i64 (sumR l)) ∧ w = w' := by
  obtain ⟨p, c, rfl, -, hc⟩ := h.out
  have HC := Lib.hid hc
  have HB := Lib.hid hb
  obtain ⟨n, hn⟩ : ∃ n, n = l.length := ⟨_, rfl⟩
  have HN := Lib.hid hn
  obtain ⟨res, hres⟩ : ∃ res, res = sumR l := ⟨_, rfl⟩
  have HRES := Lib.hid hres
  rw [← hn] at hl ⊢
  rw [← hres]
  clear hc h hn hres hb
  go_enter Tryd.func40, Tryd.ntmps40
  go_wp2
  go_loopg [3, 4] n (fun gh s3 s4 wx => ∃ (k : Nat) (z : Int), k + gh = n ∧ s3 = .int .i64 z ∧ s4 = .int .i64 k ∧ Hid (z = sumR (l.take k)) ∧ Hid (0 ≤ z ∧ z ≤ 8192 * k) ∧ w = wx)
  case atStart => exact ⟨0, 0, by omega, rfl, rfl, Lib.hid rfl, Lib.hid (by omega), rfl⟩
  case round =>
    obtain ⟨k, z, hk, rfl, rfl, HZ, HZB, rfl⟩ := hrel
    by_cases hkn : k < n
    · have hki : (k : Int) < n := by omega
      have bk : decide ((k : Int) < (n : Int)) = true := by simpa using hki
      have hki0 : (0 : Int) ≤ k := by omega
      have hka : k < l.length := by rw [← HN.out]; exact hkn
      rcases HC.out with h0 | ⟨ba, oa, rfl, hcell⟩
      · omega
      have d2 := (hcell k hka).2
      have hbk := HB.out _ (List.getElem_mem hka)
      have hst := sumR_take l k hka
      obtain ⟨y, hy⟩ : ∃ y, y = l[k].2 := ⟨_, rfl⟩
      rw [← hy] at d2 hbk hst
      obtain ⟨k1, hk1⟩ : ∃ k1, k1 = k + 1 := ⟨_, rfl⟩
      have v1 : IntKind.i64.wrap ((k : Int) + 1) = (k1 : Int) := by rw [show (k : Int) + 1 = (k1 : Int) by omega]; exact IntWalk.i64_in _ (by omega)
      obtain ⟨z1, hz1⟩ : ∃ z1, z1 = z + y := ⟨_, rfl⟩
      have hzb := HZB.out
      have v2 : IntKind.i64.wrap (z + y) = z1 := by rw [← hz1]; exact IntWalk.i64_in _ (by omega)
      have HZ1 : Hid (z1 = sumR (l.take k1)) := Lib.hid (by rw [hk1, hst, hz1, HZ.out])
      have HZB1 : Hid (0 ≤ z1 ∧ z1 ≤ 8192 * k1) := Lib.hid (by omega)
      clear hy hbk hst hz1 hzb hcell
      go_wp2
      try go_quiet (fail)
      try go_wp2
      go_roundg (n - k1)
      case measure => omega
      case rel => exact ⟨k1, z1, by omega, rfl, by first | rfl | (congr 1; omega), HZ1, HZB1, rfl⟩
    · have hki : ¬ (k : Int) < n := by omega
      have bk : decide ((k : Int) < (n : Int)) = false := by simpa using hki
      have hzz : z = res := by rw [HZ.out, HRES.out, List.take_of_length_le (by rw [← HN.out]; omega)]
      go_wp2
      go_ret
      exact ⟨by first | rfl | rw [hzz], rfl⟩

theorem over_iff (a m x y : Int) (hm : 1 ≤ m) (hy : 1 ≤ y) : (overR (a, m) (x, y) ∨ overR (x, y) (a, m)) ↔ (a < x + y ∧ x < a + m) := by
  unfold overR
  simp only
  omega

set_option maxRecDepth 100000 in
set_option maxHeartbeats 2000000 in
theorem rruns11_any (l : List (Int × Int)) (v : Value) (w : World) (h : RunsAt l v w) (hl : l.length ≤ 1048576) (fr te : Int) (hfr : 0 ≤ fr ∧ fr ≤ 100000) (hto : 0 ≤ te ∧ te ≤ 100000) :
    Calls Tryd.prog 39 #[v, .int .i64 fr, .int .i64 te] w fun e w' => e = .returned (.bool (decide (validL fr te l ∧ l.length ≤ 16))) ∧ Below w.heap.size w w' := by
  obtain ⟨p, c, rfl, -, hc⟩ := h.out
  have HC := Lib.hid hc
  have HWF := Lib.hid h.wf
  have V0 : Hid (validK fr te l 0) := Lib.hid (fun j hj => by omega)
  have K0 : Hid (Kept w w) := Lib.hid (Kept.refl w)
  have HVL : Hid (validL fr te l = validK fr te l l.length) := Lib.hid rfl
  obtain ⟨n, hn⟩ : ∃ n, n = l.length := ⟨_, rfl⟩
  have HN := Lib.hid hn
  obtain ⟨res, hres⟩ : ∃ res, res = decide (validL fr te l ∧ l.length ≤ 16) := ⟨_, rfl⟩
  have HRES := Lib.hid hres
  have HFT := Lib.hid (And.intro hfr hto)
  rw [← hres, ← hn]
  rw [← hn] at hl HVL
  clear hc h hn hres
  go_enter Tryd.func39, Tryd.ntmps39
  go_wp2
  go_loopg [7] n (fun gh s7 wx => ∃ i : Nat, i + gh = n ∧ s7 = .int .i64 i ∧ Hid (validK fr te l i) ∧ Hid (Kept w wx))
  case atStart => exact ⟨0, by omega, rfl, V0, K0⟩
  case round =>
    clear V0 K0
    obtain ⟨i, hi, rfl, HV, HK⟩ := hrel
    obtain ⟨i1, hi1⟩ : ∃ i1, i1 = i + 1 := ⟨_, rfl⟩
    have v1 : IntKind.i64.wrap ((i : Int) + 1) = (i1 : Int) := by rw [show (i : Int) + 1 = (i1 : Int) by omega]; exact IntWalk.i64_in _ (by omega)
    by_cases hin : i < n
    · have hki : (i : Int) < n := by omega
      have bk : decide ((i : Int) < (n : Int)) = true := by simpa using hki
      have hki0 : (0 : Int) ≤ i := by omega
      have hil : i < l.length := by rw [← HN.out]; exact hin
      rcases HC.out with h0 | ⟨bb, ob, rfl, hcell⟩
      · have := HN.out; omega
      have HCELL := Lib.hid hcell
      have hci := hcell i hil
      have hgd : l.getD i (0, 0) = l[i] := by rw [List.getD_eq_getElem?_getD, List.getElem?_eq_getElem hil]; rfl
      have hw := HWF.out _ (List.getElem_mem hil)
      obtain ⟨r, hr⟩ : ∃ r, r = l[i] := ⟨_, rfl⟩
      rw [← hr] at hci hgd hw
      obtain ⟨a, m⟩ := r
      have HGD := Lib.hid hgd
      have HWR := Lib.hid hw
      have d1 := HK.out.cell hci.1
      have d2 := HK.out.cell hci.2
      have HKA : Hid (Kept w (wr.alloc (.cells #[.int .i64 a, .int .i64 m] 83))) := Lib.hid (HK.out.then (box_below _ _))
      have HNF : Hid (¬ fitR fr te (a, m) → res = false) := Lib.hid (fun hf => by
        rw [HRES.out]
        exact decide_eq_false (fun hv => hf (by have h := (show validK fr te l l.length from hv.1) i hil; rw [HGD.out] at h; exact h.1)))
      clear hr hci hcell hgd hil hw hfr hto
      by_cases hA : a < fr
      · have HF : Hid (res = false) := Lib.hid (HNF.out (fun y => by unfold fitR at y; have y1 : fr ≤ a := y.1; omega))
        clear HV HNF
        go_wp2
        go_ret
        exact ⟨by rw [HF.out]; rfl, HKA.out⟩
      · by_cases hB : m < 1
        · have HF : Hid (res = false) := Lib.hid (HNF.out (fun y => by unfold fitR at y; have y2 : 1 ≤ m := y.2.1; omega))
          clear HV HNF
          go_wp2
          go_ret
          exact ⟨by rw [HF.out]; rfl, HKA.out⟩
        · by_cases hC : a > te
          · have HF : Hid (res = false) := Lib.hid (HNF.out (fun y => by unfold fitR at y; have y2 : 1 ≤ m := y.2.1; have y3 : a + m ≤ te := y.2.2; omega))
            clear HV HNF
            go_wp2
            go_ret
            exact ⟨by rw [HF.out]; rfl, HKA.out⟩
          · obtain ⟨d, hd⟩ : ∃ d, d = te - a := ⟨_, rfl⟩
            have hft := HFT.out
            have vd : IntKind.i64.wrap (te - a) = d := by rw [← hd]; exact IntWalk.i64_in _ (by omega)
            by_cases hm : m > d
            · have HF : Hid (res = false) := Lib.hid (HNF.out (fun y => by unfold fitR at y; have y3 : a + m ≤ te := y.2.2; omega))
              clear HV HNF hd hft
              go_wp2
              go_ret
              exact ⟨by rw [HF.out]; rfl, HKA.out⟩
            · have HFIT : Hid (fitR fr te (a, m)) := Lib.hid (by
                unfold fitR
                exact ⟨by show fr ≤ a; omega, by show 1 ≤ m; omega, by show a + m ≤ te; omega⟩)
              obtain ⟨s2, hs2⟩ : ∃ s2, s2 = a + m := ⟨_, rfl⟩
              have vs2 : IntKind.i64.wrap (a + m) = s2 := by rw [← hs2]; exact IntWalk.i64_in _ (by omega)
              have HS2 := Lib.hid hs2
              have hW0 : (wr.alloc (.cells #[.int .i64 a, .int .i64 m] 83)).heap[wr.heap.size]? = some (.cells #[.int .i64 a, .int .i64 m] 83 (0, 0)) := heap_alloc_last wr _
              obtain ⟨W0, hW0e⟩ : ∃ W0, W0 = wr.alloc (.cells #[.int .i64 a, .int .i64 m] 83) := ⟨_, rfl⟩
              rw [← hW0e] at hW0 HKA
              have HW0 := Lib.hid hW0
              have HW0E := Lib.hid hW0e
              have P0 : Hid (∀ j, j < 0 → ¬ overR (l.getD i (0, 0)) (l.getD j (0, 0)) ∧ ¬ overR (l.getD j (0, 0)) (l.getD i (0, 0))) := Lib.hid (fun j hj => by omega)
              have KW0 : Hid (Kept W0 W0) := Lib.hid (Kept.refl W0)
              have HMB : Hid (fr ≤ a ∧ 1 ≤ m ∧ a + m ≤ te ∧ 0 ≤ fr ∧ te ≤ 100000) := Lib.hid (by omega)
              clear hW0 hW0e hd hft hs2
              go_wp2
              rw [← HW0E.out]
              obtain ⟨wo, hwo⟩ : ∃ wo : World, wo = wr := ⟨_, rfl⟩
              subst hwo
              obtain ⟨go, hgo⟩ : ∃ go : Nat, go = gk := ⟨_, rfl⟩
              subst hgo
              go_loopg [9] i (fun gh s9 wx => ∃ k : Nat, k + gh = i ∧ s9 = .int .i64 k ∧ Hid (∀ j, j < k → ¬ overR (l.getD i (0, 0)) (l.getD j (0, 0)) ∧ ¬ overR (l.getD j (0, 0)) (l.getD i (0, 0))) ∧ Hid (Kept W0 wx))
              case atStart => exact ⟨0, by omega, rfl, P0, KW0⟩
              case round =>
                clear P0 KW0 d1 d2
                obtain ⟨k, hk, rfl, HP, HKX⟩ := hrel
                obtain ⟨k1, hk1⟩ : ∃ k1, k1 = k + 1 := ⟨_, rfl⟩
                have v2 : IntKind.i64.wrap ((k : Int) + 1) = (k1 : Int) := by rw [show (k : Int) + 1 = (k1 : Int) by omega]; exact IntWalk.i64_in _ (by omega)
                by_cases hkn : k < i
                · have hkk : (k : Int) < i := by omega
                  have bq : decide ((k : Int) < (i : Int)) = true := by simpa using hkk
                  have hk0 : (0 : Int) ≤ k := by omega
                  have hkn2 : (k : Int) < n := by omega
                  have hkl : k < l.length := by rw [← HN.out]; omega
                  have hck := HCELL.out k hkl
                  have hgk : l.getD k (0, 0) = l[k] := by rw [List.getD_eq_getElem?_getD, List.getElem?_eq_getElem hkl]; rfl
                  obtain ⟨rk, hrk⟩ : ∃ rk, rk = l[k] := ⟨_, rfl⟩
                  rw [← hrk] at hck hgk
                  obtain ⟨x, y⟩ := rk
                  have hfk : fitR fr te (x, y) := by have h := (HV.out k hkn).1; rw [hgk] at h; exact h
                  have hmb := HMB.out
                  have hx1 : fr ≤ x ∧ 1 ≤ y ∧ x + y ≤ te := ⟨hfk.1, hfk.2.1, hfk.2.2⟩
                  have HGK := Lib.hid hgk
                  have HKW : Hid (Kept w wr) := Lib.hid ((show Kept w W0 from HKA.out).then HKX.out)
                  have e1 := HKW.out.cell hck.1
                  have e2 := HKW.out.cell hck.2
                  have hrow := HKX.out.row HW0.out
                  have ba : Kept wr (wr.alloc (.cells #[.int .i64 x, .int .i64 y] 83)) := box_below _ _
                  have g1 : (wr.alloc (.cells #[.int .i64 x, .int .i64 y] 83)).cell? ⟨wo.heap.size, 0, none⟩ = some (.int .i64 a) := by rw [cell_of_row _ _ _ _ _ _ (ba.row hrow)]; rfl
                  have g2 : (wr.alloc (.cells #[.int .i64 x, .int .i64 y] 83)).cell? ⟨wo.heap.size, 1, none⟩ = some (.int .i64 m) := by rw [cell_of_row _ _ _ _ _ _ (ba.row hrow)]; rfl
                  have HKF : Hid (Kept W0 (wr.alloc (.cells #[.int .i64 x, .int .i64 y] 83))) := Lib.hid (HKX.out.then ba)
                  have HKG : Hid (Kept w (wr.alloc (.cells #[.int .i64 x, .int .i64 y] 83))) := Lib.hid (HKW.out.then ba)
                  have HOV : Hid ((a < x + y ∧ x < a + m) → res = false) := Lib.hid (fun ho => by
                    rw [HRES.out]
                    refine decide_eq_false (fun hv => ?_)
                    have h := ((show validK fr te l l.length from hv.1) i (by rw [← HN.out]; omega)).2 k hkn
                    rw [HGD.out, HGK.out] at h
                    exact ((over_iff a m x y (by omega) (by omega)).2 ho).elim h.1 h.2)
                  have HNV : Hid (¬ (a < x + y ∧ x < a + m) → ∀ j, j < k1 → ¬ overR (l.getD i (0, 0)) (l.getD j (0, 0)) ∧ ¬ overR (l.getD j (0, 0)) (l.getD i (0, 0))) := Lib.hid (fun h1 j hj => by
                    by_cases e : j = k
                    · subst e
                      rw [HGD.out, HGK.out]
                      have h2 := fun z => h1 ((over_iff a m x y (by omega) (by omega)).1 z)
                      exact ⟨fun z => h2 (Or.inl z), fun z => h2 (Or.inr z)⟩
                    · exact HP.out j (by omega))
                  obtain ⟨s1, hs1⟩ : ∃ s1, s1 = x + y := ⟨_, rfl⟩
                  have vs1 : IntKind.i64.wrap (x + y) = s1 := by rw [← hs1]; exact IntWalk.i64_in _ (by omega)
                  by_cases ho1 : a < s1
                  · by_cases ho2 : x < s2
                    · have HF : Hid (res = false) := Lib.hid (HOV.out ⟨by omega, by rw [← HS2.out]; exact ho2⟩)
                      clear hck hgk hrk hfk hkl hrow hmb hx1 ba HOV HNV hs1
                      go_wp2
                      go_ret
                      exact ⟨by rw [HF.out]; rfl, HKG.out⟩
                    · have HP2 := Lib.hid (HNV.out (fun z => ho2 (by rw [HS2.out]; exact z.2)))
                      clear hck hgk hrk hfk hkl hrow hmb hx1 ba HOV HNV hs1
                      go_wp2
                      go_roundg (i - k1)
                      case measure => omega
                      case rel => exact ⟨k1, by omega, by first | rfl | (congr 1; omega), HP2, HKF⟩
                  · have HP2 := Lib.hid (HNV.out (fun z => ho1 (by omega)))
                    clear hck hgk hrk hfk hkl hrow hmb hx1 ba HOV HNV hs1
                    go_wp2
                    go_roundg (i - k1)
                    case measure => omega
                    case rel => exact ⟨k1, by omega, by first | rfl | (congr 1; omega), HP2, HKF⟩
                · have hkk : ¬ (k : Int) < i := by omega
                  have bq : decide ((k : Int) < (i : Int)) = false := by simpa using hkk
                  have HV2 : Hid (validK fr te l i1) := Lib.hid (by
                    rw [hi1]
                    refine validK_succ HV.out (by rw [HGD.out]; exact HFIT.out) (fun j hj => HP.out j (by omega)))
                  have HK4 : Hid (Kept w wr) := Lib.hid ((show Kept w W0 from HKA.out).then HKX.out)
                  go_wp2
                  go_roundg (n - i1)
                  case measure => omega
                  case rel => exact ⟨i1, by omega, by first | rfl | (congr 1; omega), HV2, HK4⟩
    · have hki : ¬ (i : Int) < n := by omega
      have bk : decide ((i : Int) < (n : Int)) = false := by simpa using hki
      have HT : Hid (validL fr te l) := Lib.hid (by
        rw [HVL.out]
        have : i = n := by omega
        rw [← this]; exact HV.out)
      by_cases h16 : n ≤ 16
      · have h16' : (n : Int) ≤ 16 := by omega
        have HF : Hid (res = true) := Lib.hid (by rw [HRES.out]; exact decide_eq_true ⟨HT.out, by rw [← HN.out]; exact h16⟩)
        clear h16
        go_wp2
        go_ret
        exact ⟨by rw [HF.out]; first | rfl | (rw [decide_eq_true h16']), HK.out⟩
      · have h16' : ¬ (n : Int) ≤ 16 := by omega
        have HF : Hid (res = false) := Lib.hid (by rw [HRES.out]; exact decide_eq_false (fun y => h16 (by rw [HN.out]; exact y.2)))
        clear h16
        go_wp2
        go_ret
        exact ⟨by rw [HF.out]; first | rfl | (rw [decide_eq_false h16']), HK.out⟩

end Go.Proofs.YtoigembmbajopaaDoor
namespace Go.Proofs.YtoigembmbajopaaDoor
open Go.RowKit

def sbC (s : Sb) (tv : Value) : Array Value := #[.int .u64 s.seq, .int .i64 s.sec, .int .i64 s.jou, .int .i64 s.use, .int .i64 s.siz, tv]
def sbV (s : Sb) (tv : Value) : Value := .agg (sbC s tv)
/-- A superblock, as a value. -/
def SbAt (s : Sb) (v : Value) (w : World) : Prop := ∃ tv, v = sbV s tv ∧ RunsAt s.runs tv w ∧ s.wf
theorem SbAt.later {s : Sb} {v : Value} {w w' : World} (h : SbAt s v w) (k : Kept w w') : SbAt s v w' := by
  obtain ⟨tv, e, hr, hw⟩ := h
  exact ⟨tv, e, hr.later k, hw⟩
/-- .. whose runs lie in new memory. -/
def SbNew (s : Sb) (v : Value) (w w' : World) : Prop := ∃ tv, v = sbV s tv ∧ RunsAt s.runs tv w' ∧ s.wf ∧ NewAt tv w
theorem SbNew.at_ {s : Sb} {v : Value} {w w' : World} (h : SbNew s v w w') : SbAt s v w' := by
  obtain ⟨tv, e, hr, hw, _⟩ := h
  exact ⟨tv, e, hr, hw⟩
theorem rneed_kept (n : Int) (hn : -9223372036854775808 ≤ n ∧ n ≤ 9223372036854775807) (w : World) :
    Calls Tryd.prog 41 #[.int .i64 n] w fun e w' => e = .returned (.int .i64 (needN n)) ∧ Below w.heap.size w w' :=
  (rneed_any n hn w).mono fun _ _ ⟨a, b⟩ => ⟨a, b ▸ Below.refl _ _⟩
theorem rsum11_kept (l : List (Int × Int)) (v : Value) (w : World) (h : RunsAt l v w) (hl : l.length ≤ 1048576) (hb : ∀ r ∈ l, 0 ≤ r.2 ∧ r.2 ≤ 8192) :
    Calls Tryd.prog 40 #[v] w fun e w' => e = .returned (.int .i64 (sumR l)) ∧ Below w.heap.size w w' :=
  (rsum11_any l v w h hl hb).mono fun _ _ ⟨a, b⟩ => ⟨a, b ▸ Below.refl _ _⟩

theorem validL_len {fr te : Int} {l : List (Int × Int)} (h : validL fr te l) (hf : 0 ≤ fr) (ht : te ≤ 8192) : ∀ r ∈ l, 0 ≤ r.2 ∧ r.2 ≤ 8192 := by
  intro r hr
  obtain ⟨i, hi, rfl⟩ := List.mem_iff_getElem.1 hr
  have hv := (h i hi).1
  have hd : l.getD i (0, 0) = l[i] := by rw [List.getD_eq_getElem?_getD, List.getElem?_eq_getElem hi]; rfl
  rw [hd] at hv
  unfold fitR at hv
  omega

end Go.Proofs.YtoigembmbajopaaDoor
namespace Go.Proofs.YtoigembmbajopaaDoor
open Go.RowKit

end Go.Proofs.YtoigembmbajopaaDoor
