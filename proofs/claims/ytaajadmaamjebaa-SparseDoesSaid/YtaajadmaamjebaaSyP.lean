/- A map from fingerprints to pointers to blocks, of just so many entries; find. -/
import Derived.Test.YtaajadmaamjebaaFMap
import Derived.Test.YtaajadmaamjebaaSyA
namespace Go.Proofs.Ytaajadmaamjebaa
open Go.RowKit Go.Maps Go.MapKept Go.ChangeMaps

def ptV : Option Nat → Value
  | none => .pointer none
  | some b => pB b
def ptD : Option Nat → DataW Unit
  | none => .agg []
  | some b => .agg [.lit (.int .i64 (b : Nat))]
def ptElem (v : Value) : Option (DataW Unit × List MemPlace) := match v with
  | .pointer none => some (ptD none, [])
  | .pointer (some ⟨b, 0, none⟩) => some (ptD (some b), [])
  | _ => none
theorem ptD_inj {a b : Option Nat} (h : ptD a = ptD b) : a = b := by
  cases a <;> cases b <;> simp [ptD] at h ⊢
  omega
theorem ptElem_mk (a : Option Nat) : ptElem (ptV a) = some (ptD a, []) := by cases a <;> rfl
theorem ptElem_inv (v : Value) (a : Option Nat) (ps : List MemPlace) (h : ptElem v = some (ptD a, ps)) : v = ptV a := by
  unfold ptElem at h
  split at h
  · simp only [Option.some.injEq, Prod.mk.injEq] at h
    rw [← ptD_inj h.1]; rfl
  · simp only [Option.some.injEq, Prod.mk.injEq] at h
    rw [← ptD_inj h.1]; rfl
  · cases h
def ptC : MCod 53 (Option Nat) := ⟨ptV, ptD, ptElem, none, ptElem_mk, ptElem_inv, fun w => Try.zeroValue53 w⟩

/-- The map in the block b is that function, and has just n entries. -/
def PtMap (b n : Nat) (f : List UInt8 → Option Nat) (w : World) : Prop :=
  ∃ D : DataW Unit, w.ownsMap Try.prog 47 ptC.elem b n D ∧ Maps.size D = n ∧ ∀ i, i.length = 32 → Maps.has D (keyF i) = (f i).isSome ∧ D.atKey (keyF i) (ptC.dat ptC.zero) = ptC.dat (f i)
theorem own_tight {b n : Nat} {D : DataW Unit} {w : World} (h : w.ownsMap Try.prog 47 ptC.elem b n D) : w.ownsMap Try.prog 47 ptC.elem b (Maps.size D) D := by
  obtain ⟨es, clock, hb, F, hs, rfl⟩ := h
  refine ⟨es, clock, hb, F, ?_, rfl⟩
  simp [Maps.size, length_sorted]
section
variable {b n : Nat} {f : List UInt8 → Option Nat} {w w' : World}
theorem PtMap.stay (h : PtMap b n f w) (hk : w'.heap[b]? = w.heap[b]?) : PtMap b n f w' := by
  obtain ⟨D, ⟨es, c, hb, r⟩, hf⟩ := h
  exact ⟨D, ⟨es, c, hk.trans hb, r⟩, hf⟩
theorem PtMap.lt (h : PtMap b n f w) : b < w.heap.size := by
  obtain ⟨D, hd, _⟩ := h
  exact hd.lt
theorem PtMap.isMap (h : PtMap b n f w) : ∃ es c, w.heap[b]? = some (.map es c) := by
  obtain ⟨D, ⟨es, c, hb, r⟩, hf⟩ := h
  exact ⟨es, c, hb⟩
theorem PtMap.later (h : PtMap b n f w) (k : Kept w w') : PtMap b n f w' := h.stay (k.block b h.lt)
theorem PtMap.as (h : PtMap b n f w) {g : List UInt8 → Option Nat} (hg : ∀ i, i.length = 32 → f i = g i) : PtMap b n g w := by
  obtain ⟨D, hd, hs, hf⟩ := h
  exact ⟨D, hd, hs, fun i hi => by rw [← hg i hi]; exact hf i hi⟩
theorem PtMap.made (w : World) : PtMap w.heap.size 0 (fun _ => none) (w.alloc (.map #[] 0)) :=
  ⟨.map [], World.ownsMap_made _ _ _ _, rfl, fun _ _ => ⟨rfl, rfl⟩⟩
/-- m[i] -/
theorem PtMap.get (h : PtMap b n f w) {i : List UInt8} (hi : i.length = 32) :
    (Instr.lookup 52 (.map (some b)) (.agg (fpA i)) false).run Try.prog w = .ok (ptV (f i)) w := by
  obtain ⟨D, hd, _, hf⟩ := h
  obtain ⟨h1, h3⟩ := hf i hi
  obtain ⟨es, clock, hb, F, _, rfl⟩ := hd
  rcases Maps.fit_look false keyed_fp Try.underlying52 (ptC.zv w) hb F (keyF_of hi) with ⟨hrun, _, hat⟩ | ⟨e0, y, _, _, hrun, hRv, hat, _⟩
  · have h4 := hat (ptC.dat ptC.zero)
    rw [h3] at h4
    have h5 := ptC.inv (ptC.val ptC.zero) (f i) [] (by rw [h4]; exact ptC.mkv ptC.zero)
    rw [hrun, h5]; rfl
  · have h4 := hat (ptC.dat ptC.zero)
    rw [h3] at h4
    have h5 := ptC.inv e0.val (f i) y.2 (by rw [h4]; exact hRv)
    rw [hrun, h5]; rfl
set_option maxRecDepth 100000 in
/-- m[i] = x, a new entry -/
theorem PtMap.set (h : PtMap b n f w) (hn : n < maxLen) {i : List UInt8} (hi : i.length = 32) (hnew : f i = none) (x : Nat) :
    ∃ w', (Instr.mapUpdate 52 (.map (some b)) (.agg (fpA i)) (pB x)).run Try.prog w = .ok () w' ∧ PtMap b (n + 1) (updF f i x) w' ∧ w.grownBy w' (some b) := by
  obtain ⟨D, hd, hs, hf⟩ := h
  obtain ⟨w', hrun, ho, ht'⟩ := hd.store keyed_fp Try.underlying52 hn (keyF_of hi) (ptC.mkv (some x))
  have hsz := Maps.size_put (hd.tidy keyed_fp) (k := keyF i) (ptC.dat (some x))
  rw [(hf i hi).1, hnew] at hsz
  have hsz' : Maps.size (D.put (keyF i) (ptC.dat (some x))) = n + 1 := by rw [hsz, hs]; rfl
  have ho2 := own_tight ho
  rw [hsz'] at ho2
  refine ⟨w', hrun, ⟨_, ho2, hsz', fun j hj => ?_⟩, ht'.grown⟩
  by_cases hji : j = i
  · subst hji
    have e1 : updF f j x j = some x := by unfold updF; rw [if_pos rfl]
    rw [e1]
    exact ⟨has_put_same hd.isMap (isKey_fp hj) _, atKey_put_same hd.isMap (isKey_fp hj) _ _⟩
  · have e1 : updF f i x j = f j := by unfold updF; rw [if_neg hji]
    rw [e1, has_put_other (keyF_ne hj hi hji), atKey_put_other (keyF_ne hj hi hji)]
    exact hf j hj
set_option maxRecDepth 100000 in
/-- delete(m, i), an entry that is there -/
theorem PtMap.del (h : PtMap b (n + 1) f w) {i : List UInt8} (hi : i.length = 32) {x : Nat} (hold : f i = some x) (ty : TypeId) :
    ∃ w', (Builtin.delete_ #[52, 47] ty #[.map (some b), .agg (fpA i)]).run Try.prog w = .ok (.tuple #[]) w' ∧ PtMap b n (delF f i) w' ∧ w.grownBy w' (some b) := by
  obtain ⟨D, hd, hs, hf⟩ := h
  obtain ⟨w', hrun, ho, ht'⟩ := hd.drop keyed_fp Try.underlying52 (keyF_of hi) ty
  have hsz := Maps.size_del (hd.tidy keyed_fp) (k := keyF i)
  rw [(hf i hi).1, hold, hs] at hsz
  have hsz' : Maps.size (D.del (keyF i)) = n := by
    have : Maps.size (D.del (keyF i)) + 1 = n + 1 := hsz
    omega
  have ho2 := own_tight ho
  rw [hsz'] at ho2
  refine ⟨w', hrun, ⟨_, ho2, hsz', fun j hj => ?_⟩, ht'.grown⟩
  by_cases hji : j = i
  · subst hji
    have e1 : delF f j j = none := by unfold delF; rw [if_pos rfl]
    rw [e1]
    exact ⟨has_del_same, atKey_del_same _⟩
  · have e1 : delF f i j = f j := by unfold delF; rw [if_neg hji]
    rw [e1, has_del_other (keyF_ne hj hi hji), atKey_del_other (keyF_ne hj hi hji)]
    exact hf j hj
end

/-! ### In a walk -/
section
variable {ops : Array Oper} {rest : List Oper} {o : Oper} {a : Act} {w : World} {Q : Exit → Act → World → Prop} {b n : Nat} {f : List UInt8 → Option Nat}
theorem wpList_pset (hg : o.guard = none) (m x y : Operand) (ho : o.op = .mapUpdate 52 m x y) (hm : a.eval m = .map (some b)) (F : Array Value) (hx : a.eval x = .agg F) (i : List UInt8) (hF : F = fpA i) (hi : i.length = 32) (H : PtMap b n f w) (hn : n < maxLen) (hnew : f i = none)
    (z : Nat) (hy : a.eval y = .pointer (some ⟨z, 0, none⟩)) (h : ∀ w', PtMap b (n + 1) (updF f i z) w' → w.grownBy w' (some b) → wpList Try.prog ops Q rest (a.put o.dst undef) w') : wpList Try.prog ops Q (o :: rest) a w := by
  subst hF
  obtain ⟨w', hrun, h1, h2⟩ := H.set hn hi hnew z
  unfold pB at hrun
  refine wpList_plain hg fun K hK => ?_
  unfold Oper.wp
  simp [execOp, ho, hm, hx, hy, hrun, Result.andThen]
  exact hK _ _ (h w' h1 h2)
theorem wpList_pdel (hg : o.guard = none) (m x : Operand) (ho : o.op = .call { callee := .builtin .delete, args := #[m, x], argTypes := #[52, 47] }) (hm : a.eval m = .map (some b)) (F : Array Value) (hx : a.eval x = .agg F) (i : List UInt8) (hF : F = fpA i) (hi : i.length = 32) (H : PtMap b (n + 1) f w) (z : Nat) (hold : f i = some z)
    (h : ∀ w', PtMap b n (delF f i) w' → w.grownBy w' (some b) → wpList Try.prog ops Q rest (a.put o.dst (.tuple #[])) w') : wpList Try.prog ops Q (o :: rest) a w := by
  subst hF
  obtain ⟨w', hrun, h1, h2⟩ := H.del hi hold o.type
  refine wpList_plain hg fun K hK => ?_
  unfold Oper.wp
  simp [execOp, ho, resolve, invoke, builtin, hm, hx, hrun, Result.andThen]
  exact hK _ _ (h w' h1 h2)
end

/-- The index in its block. -/
def ixA (bx bm be : Nat) (per most pr : Int) : Array Value := #[pB bx, .int .i64 per, .int .i64 most, .int .i64 pr, .map (some bm), pB be]
structure IxRow (bx bm be : Nat) (per most pr : Int) (w : World) : Prop where
  row : w.heap[bx]? = some (.cells (ixA bx bm be per most pr) 56 (0, 0))
section
variable {bx bm be : Nat} {per most pr : Int} {w w' : World}
theorem IxRow.lt (h : IxRow bx bm be per most pr w) : bx < w.heap.size := (Array.getElem?_eq_some_iff.1 h.row).1
theorem IxRow.stay (h : IxRow bx bm be per most pr w) (hk : w'.heap[bx]? = w.heap[bx]?) : IxRow bx bm be per most pr w' := ⟨hk.trans h.row⟩
theorem IxRow.later (h : IxRow bx bm be per most pr w) (k : Kept w w') : IxRow bx bm be per most pr w' := h.stay (k.block bx h.lt)
theorem IxRow.c0 (h : IxRow bx bm be per most pr w) : w.cell? ⟨bx, 0, none⟩ = some (.pointer (some ⟨bx, 0, none⟩)) := by rw [cell_of_row _ _ _ _ _ _ h.row]; rfl
theorem IxRow.c1 (h : IxRow bx bm be per most pr w) : w.cell? ⟨bx, 1, none⟩ = some (.int .i64 per) := by rw [cell_of_row _ _ _ _ _ _ h.row]; rfl
theorem IxRow.c2 (h : IxRow bx bm be per most pr w) : w.cell? ⟨bx, 2, none⟩ = some (.int .i64 most) := by rw [cell_of_row _ _ _ _ _ _ h.row]; rfl
theorem IxRow.c3 (h : IxRow bx bm be per most pr w) : w.cell? ⟨bx, 3, none⟩ = some (.int .i64 pr) := by rw [cell_of_row _ _ _ _ _ _ h.row]; rfl
theorem IxRow.c4 (h : IxRow bx bm be per most pr w) : w.cell? ⟨bx, 4, none⟩ = some (.map (some bm)) := by rw [cell_of_row _ _ _ _ _ _ h.row]; rfl
theorem IxRow.c5 (h : IxRow bx bm be per most pr w) : w.cell? ⟨bx, 5, none⟩ = some (.pointer (some ⟨be, 0, none⟩)) := by rw [cell_of_row _ _ _ _ _ _ h.row]; rfl
theorem IxRow.fz (h : IxRow bx bm be per most pr w) (i : Nat) : w.frozen? ⟨bx, i, none⟩ = false := frozen_of_row w bx i _ _ h.row
theorem IxRow.set (h : IxRow bx bm be per most pr w) (z : Int) : IxRow bx bm be per most z (w.setCell ⟨bx, 3, none⟩ (.int .i64 z)) := ⟨by rw [heap_setCell_same _ _ _ _ _ _ h.row]; rfl⟩
end

set_option maxRecDepth 100000 in
set_option maxHeartbeats 2000000 in
theorem xfind_any (bx bm be n : Nat) (per most pr : Int) (f : List UInt8 → Option Nat) (h : List UInt8) (h32 : h.length = 32) (w : World) (HX : IxRow bx bm be per most pr w) (HM : PtMap bm n f w) :
    Calls Try.prog 33 #[.pointer (some ⟨bx, 0, none⟩), .agg (fpA h)] w fun e w' => e = .returned (ptV (f h)) ∧ Kept w w' := by
  have HI := Lib.hid (fp_info h h32)
  have K1 := Lib.hid (box_below w (.cells (fpA h) 47))
  have HX1 := HX.later K1.out
  have HM1 := HM.later K1.out
  have MK := xmade_self bx _ HX1.c0
  have c4 := HX1.c4
  have g0 := heap_alloc_last w (.cells (fpA h) 47)
  have HG := fun (W : World) (k : Kept (w.alloc (.cells (fpA h) 47)) W) => (HM1.later k).get h32
  obtain ⟨F, hFF⟩ : ∃ F, F = fpA h := ⟨_, rfl⟩
  obtain ⟨v, hv⟩ : ∃ v, v = ptV (f h) := ⟨_, rfl⟩
  rw [← hFF] at HI K1 MK c4 g0 HG ⊢
  rw [← hv] at HG ⊢
  clear hFF hv HX HM HX1 HM1 h32
  go_enter Try.func33, Try.ntmps33
  go_wp2_with (go_at_call 28; refine MK.mono ?_; rintro e w2 ⟨rfl, rfl⟩)
  refine wp_region_kept (by kernel_rfl) (by kernel_rfl) ?_
  refine wpQuiet_pure (v := ?_) (by kernel_rfl) ?_ (fun K hK => ?_)
  case refine_2 => intro W _; go_simp; try with_reducible rfl
  go_simp
  refine hK _ ?_; clear hK K
  refine wpQuiet_pure (v := ?_) (by kernel_rfl) ?_ (fun K hK => ?_)
  case refine_2 => intro W _; go_simp; try with_reducible rfl
  go_simp
  refine hK _ ?_; clear hK K
  refine wpQuiet_pure (v := ?_) (by kernel_rfl) ?_ (fun K hK => ?_)
  case refine_2 => intro W _; go_simp; try with_reducible rfl
  go_simp
  refine hK _ ?_; clear hK K
  refine wpQuiet_load_cell (by kernel_rfl) _ _ rfl ⟨bx, 4, none⟩ rfl _ Try.underlying52 rfl _ (fun _ h => h.cell c4) (fun K hK => ?_)
  go_simp
  refine hK _ ?_; clear hK K
  refine wpQuiet_load_row (by kernel_rfl) _ _ rfl w.heap.size rfl 47 F (0, 0) _ (fun _ h => h.row g0) Try.underlying47 rfl HI.out (fun K hK => ?_)
  go_simp
  refine hK _ ?_; clear hK K
  refine wpQuiet_pure (v := ?_) (by kernel_rfl) ?_ (fun K hK => ?_)
  case refine_2 => intro W hW; have e0 := HG W hW; go_simp; try with_reducible rfl
  go_simp
  refine hK _ ?_; clear hK K
  refine wpQuiet_pure (v := ?_) (by kernel_rfl) ?_ (fun K hK => ?_)
  case refine_2 => intro W _; go_simp; try with_reducible rfl
  go_simp
  refine hK _ ?_; clear hK K
  refine wpQuiet_nil ?_
  intro w1 hk1
  go_wp2
  go_ret
  exact ⟨rfl, (show Kept w _ from K1.out).then hk1⟩

end Go.Proofs.Ytaajadmaamjebaa
