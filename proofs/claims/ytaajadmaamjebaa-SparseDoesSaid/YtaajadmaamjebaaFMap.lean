/- A map of the call's own, from fingerprints to values of any kind, as a function. -/
import Derived.Test.YtaajadmaamjebaaRows
import Derived.Test.YtaajadmaamjebaaZFp
import Derived.Test.YtaajadmaamjebaaGen
import Derived.Maps.OwnSet
import Derived.Maps.Views
import Derived.DeepKeys4
namespace Go.Proofs.Ytaajadmaamjebaa
open Go.RowKit Go.Maps Go.MapKept Go.ChangeMaps

/-! ### Fingerprints as keys -/
theorem laidOut_fp : laidOutB Try.prog = true := by kernel_rfl
theorem row_fp : (47 : TypeId) < Try.prog.types.size := of_decide_eq_true (by kernel_rfl)
theorem wide_fp : (match Try.prog.underlying 47 with | some (.array _ _) | some (.struct _) => true | _ => false) = true := by rw [Try.underlying47]
theorem deep_fp : Try.prog.keyTypeAt 2 47 = true := by kernel_rfl
set_option maxRecDepth 100000 in
theorem keyed_fp : Keyed Try.prog 47 := Keyed.of_law (deep_law_laid laidOut_fp (by omega) row_fp deep_fp wide_fp)
theorem cells_fp : Try.prog.cellsOf 47 = 32 := by kernel_rfl
theorem cells_u8F : Try.prog.cellsOf 5 = 1 := by kernel_rfl
theorem ktype_fp : Try.prog.keyType 47 = true := by kernel_rfl
theorem formed_fp {l : List UInt8} (h : l.length = 32) : (Value.agg (fpA l)).formed Try.prog 47 = true := by simp [Value.formed, Try.underlying47, cells_fp, fpA_size, h]
theorem mapM_all {α β : Type} (f : α → Option β) : ∀ l : List α, (∀ a ∈ l, ∃ y, f a = some y) → ∃ ys, l.mapM f = some ys
  | [], _ => ⟨[], rfl⟩
  | a :: l, h => by
    obtain ⟨y, hy⟩ := h a (List.mem_cons_self ..)
    obtain ⟨ys, hys⟩ := mapM_all f l (fun b hb => h b (List.mem_cons_of_mem _ hb))
    exact ⟨y :: ys, by simp [List.mapM_cons, hy, hys]⟩
theorem keyOf_fp {l : List UInt8} (h : l.length = 32) : ∃ q, keyOf Try.prog 47 (.agg (fpA l)) = some q := by
  obtain ⟨m, hm⟩ : ∃ m, Try.prog.types.size = m + 1 := ⟨Try.prog.types.size - 1, by have h0 : 0 < Try.prog.types.size := Nat.lt_of_le_of_lt (Nat.zero_le _) row_fp; omega⟩
  unfold keyOf
  rw [Try.underlying47]
  simp only
  rw [ktype_fp, formed_fp h, hm]
  have hc : (Value.agg (fpA l)).cells.toList = l.map fun c : UInt8 => Value.int .u8 (c.toNat : Int) := by
    show (fpA l).toList = _
    unfold fpA; rw [List.toList_toArray]
  rw [hc]
  simp only [Bool.and_self, if_true]
  unfold Program.keyLits
  rw [Try.underlying47]
  simp only [List.length_map, h, cells_fp, if_true]
  obtain ⟨ys, hys⟩ := mapM_all (fun i => Try.prog.keyLits (m + 1) 5 (((l.map fun c : UInt8 => Value.int .u8 (c.toNat : Int)).drop (i * Try.prog.cellsOf 5)).take (Try.prog.cellsOf 5))) (List.range 32) (fun i hi => by
    have hi' : i < l.length := by rw [h]; exact List.mem_range.1 hi
    rw [cells_u8F, Nat.mul_one]
    have e : ((l.map fun c : UInt8 => Value.int .u8 (c.toNat : Int)).drop i).take 1 = [.int .u8 ((l[i]).toNat : Int)] := by
      rw [List.drop_eq_getElem_cons (by rw [List.length_map]; exact hi')]
      simp
    rw [e]
    unfold Program.keyLits
    rw [Try.underlying5]
    have hw : (Lit.int .u8 ((l[i]).toNat : Int)).wf = true := by
      have := l[i].toNat_lt
      simp [Lit.wf, IntKind.min, IntKind.max, IntKind.signed, IntKind.bits]
      omega
    exact ⟨[.int .u8 ((l[i]).toNat : Int)], by simp only [hw, and_self, if_true]⟩)
  rw [hys]
  exact ⟨_, rfl⟩
noncomputable def keyF (l : List UInt8) : Lit := (keyOf Try.prog 47 (.agg (fpA l))).getD (.bool false)
theorem keyF_of {l : List UInt8} (h : l.length = 32) : keyOf Try.prog 47 (.agg (fpA l)) = some (keyF l) := by
  obtain ⟨q, hq⟩ := keyOf_fp h
  unfold keyF
  rw [hq]; rfl
set_option maxRecDepth 100000 in
theorem keyF_ne {l m : List UInt8} (hl : l.length = 32) (hm : m.length = 32) (h : l ≠ m) : keyF l ≠ keyF m := fun e => h (fpA_inj (Value.agg.inj (keyed_fp.inj (keyF_of hl) (by rw [e]; exact keyF_of hm))))
set_option maxRecDepth 100000 in
theorem isKey_fp {l : List UInt8} (h : l.length = 32) : WideAt.IsKeyLit (keyF l) := keyed_fp.key (keyF_of h)

/-! ### Elements of any kind, by how they read -/
structure MCod (E : TypeId) (α : Type) where
  val : α → Value
  dat : α → DataW Unit
  elem : Value → Option (DataW Unit × List MemPlace)
  zero : α
  mkv : ∀ a, elem (val a) = some (dat a, [])
  inv : ∀ v a ps, elem v = some (dat a, ps) → v = val a
  zv : ∀ w, (zeroValue E).run Try.prog w = .ok (val zero) w

def updF {α : Type} (f : List UInt8 → Option α) (i : List UInt8) (x : α) : List UInt8 → Option α := fun j => if j = i then some x else f j
def delF {α : Type} (f : List UInt8 → Option α) (i : List UInt8) : List UInt8 → Option α := fun j => if j = i then none else f j

/-- The map in the block b, of at most n entries, is that function. -/
def FMap {E : TypeId} {α : Type} (M : MCod E α) (b n : Nat) (f : List UInt8 → Option α) (w : World) : Prop :=
  ∃ D : DataW Unit, w.ownsMap Try.prog 47 M.elem b n D ∧ ∀ i, i.length = 32 → Maps.has D (keyF i) = (f i).isSome ∧ D.atKey (keyF i) (M.dat M.zero) = M.dat ((f i).getD M.zero)

section
variable {E T : TypeId} {α : Type} {M : MCod E α} {b n : Nat} {f : List UInt8 → Option α} {w : World}
theorem FMap.made (M : MCod E α) (w : World) : FMap M w.heap.size 0 (fun _ => none) (w.alloc (.map #[] 0)) :=
  ⟨.map [], World.ownsMap_made _ _ _ _, fun _ _ => ⟨rfl, rfl⟩⟩
theorem FMap.stay (h : FMap M b n f w) {w' : World} (hk : w'.heap[b]? = w.heap[b]?) : FMap M b n f w' := by
  obtain ⟨D, ⟨es, c, hb, r⟩, hf⟩ := h
  exact ⟨D, ⟨es, c, hk.trans hb, r⟩, hf⟩
theorem FMap.lt (h : FMap M b n f w) : b < w.heap.size := by
  obtain ⟨D, hd, _⟩ := h
  exact hd.lt
theorem FMap.later (h : FMap M b n f w) {w' : World} (k : Kept w w') : FMap M b n f w' := h.stay (k.block b h.lt)
theorem FMap.mono (h : FMap M b n f w) {m : Nat} (hm : n ≤ m) : FMap M b m f w := by
  obtain ⟨D, hd, hf⟩ := h
  exact ⟨D, hd.mono hm, hf⟩
/-- The same function, where it counts. -/
theorem FMap.as (h : FMap M b n f w) {g : List UInt8 → Option α} (hg : ∀ i, i.length = 32 → f i = g i) : FMap M b n g w := by
  obtain ⟨D, hd, hf⟩ := h
  exact ⟨D, hd, fun i hi => by rw [← hg i hi]; exact hf i hi⟩
set_option maxRecDepth 100000 in
/-- v, ok := m[i] -/
theorem FMap.look (h : FMap M b n f w) (ht : Try.prog.underlying T = some (.map 47 E)) {i : List UInt8} (hi : i.length = 32) :
    (Instr.lookup T (.map (some b)) (.agg (fpA i)) true).run Try.prog w = .ok (.tuple #[M.val ((f i).getD M.zero), .bool (f i).isSome]) w := by
  obtain ⟨D, hd, hf⟩ := h
  obtain ⟨h1, h2⟩ := hf i hi
  obtain ⟨v, ps, hrun, hv⟩ := hd.look_ok keyed_fp ht (M.zv w) (M.mkv M.zero) (keyF_of hi)
  rw [h2] at hv
  rw [hrun, M.inv _ _ _ hv, h1]
set_option maxRecDepth 100000 in
/-- m[i] -/
theorem FMap.get (h : FMap M b n f w) (ht : Try.prog.underlying T = some (.map 47 E)) {i : List UInt8} (hi : i.length = 32) :
    (Instr.lookup T (.map (some b)) (.agg (fpA i)) false).run Try.prog w = .ok (M.val ((f i).getD M.zero)) w := by
  obtain ⟨D, hd, hf⟩ := h
  obtain ⟨h1, h2⟩ := hf i hi
  obtain ⟨es, clock, hb, F, _, rfl⟩ := hd
  rcases Maps.fit_look false keyed_fp ht (M.zv w) hb F (keyF_of hi) with ⟨hrun, _, hat⟩ | ⟨e0, y, _, _, hrun, hRv, hat, _⟩
  · have h3 := hat (M.dat M.zero)
    rw [h2] at h3
    have h4 := M.inv (M.val M.zero) _ [] (by rw [h3]; exact M.mkv M.zero)
    rw [hrun, ← h4]
    rfl
  · have h3 := hat (M.dat M.zero)
    rw [h2] at h3
    have h4 := M.inv e0.val ((f i).getD M.zero) y.2 (by rw [h3]; exact hRv)
    rw [hrun, ← h4]
    rfl
set_option maxRecDepth 100000 in
/-- m[i] = x -/
theorem FMap.set (h : FMap M b n f w) (ht : Try.prog.underlying T = some (.map 47 E)) (hn : n < maxLen) {i : List UInt8} (hi : i.length = 32) (x : α) :
    ∃ w', (Instr.mapUpdate T (.map (some b)) (.agg (fpA i)) (M.val x)).run Try.prog w = .ok () w' ∧ FMap M b (n + 1) (updF f i x) w' ∧ w.grownBy w' (some b) := by
  obtain ⟨D, hd, hf⟩ := h
  obtain ⟨w', hrun, ho, ht'⟩ := hd.store keyed_fp ht hn (keyF_of hi) (M.mkv x)
  refine ⟨w', hrun, ⟨_, ho, fun j hj => ?_⟩, ht'.grown⟩
  by_cases hji : j = i
  · subst hji
    have e1 : updF f j x j = some x := by unfold updF; rw [if_pos rfl]
    rw [e1]
    exact ⟨has_put_same hd.isMap (isKey_fp hj) _, atKey_put_same hd.isMap (isKey_fp hj) _ _⟩
  · have e1 : updF f i x j = f j := by unfold updF; rw [if_neg hji]
    rw [e1, has_put_other (keyF_ne hj hi hji), atKey_put_other (keyF_ne hj hi hji)]
    exact hf j hj
set_option maxRecDepth 100000 in
/-- delete(m, i) -/
theorem FMap.del (h : FMap M b n f w) (ht : Try.prog.underlying T = some (.map 47 E)) {i : List UInt8} (hi : i.length = 32) (ty : TypeId) :
    ∃ w', (Builtin.delete_ #[T, 47] ty #[.map (some b), .agg (fpA i)]).run Try.prog w = .ok (.tuple #[]) w' ∧ FMap M b n (delF f i) w' ∧ w.grownBy w' (some b) := by
  obtain ⟨D, hd, hf⟩ := h
  obtain ⟨w', hrun, ho, ht'⟩ := hd.drop keyed_fp ht (keyF_of hi) ty
  refine ⟨w', hrun, ⟨_, ho, fun j hj => ?_⟩, ht'.grown⟩
  by_cases hji : j = i
  · subst hji
    have e1 : delF f j j = none := by unfold delF; rw [if_pos rfl]
    rw [e1]
    exact ⟨has_del_same, atKey_del_same _⟩
  · have e1 : delF f i j = f j := by unfold delF; rw [if_neg hji]
    rw [e1, has_del_other (keyF_ne hj hi hji), atKey_del_other (keyF_ne hj hi hji)]
    exact hf j hj
end

/-! ### In a walk -/
section
variable {ops : Array Oper} {rest : List Oper} {o : Oper} {a : Act} {w : World} {Q : Exit → Act → World → Prop} {E : TypeId} {α : Type} {M : MCod E α} {b n : Nat} {f : List UInt8 → Option α}
theorem wpList_flook (hg : o.guard = none) (m x : Operand) (T : TypeId) (ho : o.op = .lookup T m x true) (ht : Try.prog.underlying T = some (.map 47 E)) (hm : a.eval m = .map (some b)) (F : Array Value) (hx : a.eval x = .agg F) (i : List UInt8) (hF : F = fpA i) (hi : i.length = 32) (H : FMap M b n f w)
    (v : Value) (hv : v = M.val ((f i).getD M.zero)) (q : Bool) (hq : q = (f i).isSome)
    (h : wpList Try.prog ops Q rest (a.put o.dst (.tuple #[v, .bool q])) w) : wpList Try.prog ops Q (o :: rest) a w := by
  subst hF hv hq
  refine wpList_plain hg fun K hK => ?_
  unfold Oper.wp
  simp [execOp, ho, hm, hx, H.look ht hi, Result.andThen]
  exact hK _ _ h
theorem wpList_fget (hg : o.guard = none) (m x : Operand) (T : TypeId) (ho : o.op = .lookup T m x false) (ht : Try.prog.underlying T = some (.map 47 E)) (hm : a.eval m = .map (some b)) (F : Array Value) (hx : a.eval x = .agg F) (i : List UInt8) (hF : F = fpA i) (hi : i.length = 32) (H : FMap M b n f w)
    (v : Value) (hv : v = M.val ((f i).getD M.zero))
    (h : wpList Try.prog ops Q rest (a.put o.dst v) w) : wpList Try.prog ops Q (o :: rest) a w := by
  subst hF hv
  refine wpList_plain hg fun K hK => ?_
  unfold Oper.wp
  simp [execOp, ho, hm, hx, H.get ht hi, Result.andThen]
  exact hK _ _ h
theorem wpList_fset (hg : o.guard = none) (m x y : Operand) (T : TypeId) (ho : o.op = .mapUpdate T m x y) (ht : Try.prog.underlying T = some (.map 47 E)) (hm : a.eval m = .map (some b)) (F : Array Value) (hx : a.eval x = .agg F) (i : List UInt8) (hF : F = fpA i) (hi : i.length = 32) (H : FMap M b n f w) (hn : n < maxLen)
    (z : α) (hy : a.eval y = M.val z) (h : ∀ w', FMap M b (n + 1) (updF f i z) w' → w.grownBy w' (some b) → wpList Try.prog ops Q rest (a.put o.dst undef) w') : wpList Try.prog ops Q (o :: rest) a w := by
  subst hF
  obtain ⟨w', hrun, h1, h2⟩ := H.set ht hn hi z
  refine wpList_plain hg fun K hK => ?_
  unfold Oper.wp
  simp [execOp, ho, hm, hx, hy, hrun, Result.andThen]
  exact hK _ _ (h w' h1 h2)
theorem wpList_fdel (hg : o.guard = none) (m x : Operand) (T : TypeId) (ho : o.op = .call { callee := .builtin .delete, args := #[m, x], argTypes := #[T, 47] }) (ht : Try.prog.underlying T = some (.map 47 E)) (hm : a.eval m = .map (some b)) (F : Array Value) (hx : a.eval x = .agg F) (i : List UInt8) (hF : F = fpA i) (hi : i.length = 32) (H : FMap M b n f w)
    (h : ∀ w', FMap M b n (delF f i) w' → w.grownBy w' (some b) → wpList Try.prog ops Q rest (a.put o.dst (.tuple #[])) w') : wpList Try.prog ops Q (o :: rest) a w := by
  subst hF
  obtain ⟨w', hrun, h1, h2⟩ := H.del ht hi o.type
  refine wpList_plain hg fun K hK => ?_
  unfold Oper.wp
  simp [execOp, ho, resolve, invoke, builtin, hm, hx, hrun, Result.andThen]
  exact hK _ _ (h w' h1 h2)
end

/-! ### Slices as elements -/
abbrev SlV := Option (Nat × Nat) × Nat × Nat
def slVal (s : SlV) : Value := .slice (s.1.map fun x => ⟨x.1, x.2, none⟩) s.2.1 s.2.2
def slDat (s : SlV) : DataW Unit := match s.1 with
  | none => .agg [.lit (.int .i64 (s.2.1 : Nat)), .lit (.int .i64 (s.2.2 : Nat))]
  | some x => .agg [.lit (.int .i64 (s.2.1 : Nat)), .lit (.int .i64 (s.2.2 : Nat)), .lit (.int .i64 (x.1 : Nat)), .lit (.int .i64 (x.2 : Nat))]
def slElem (v : Value) : Option (DataW Unit × List MemPlace) := match v with
  | .slice none n c => some (slDat (none, n, c), [])
  | .slice (some ⟨b, o, none⟩) n c => some (slDat (some (b, o), n, c), [])
  | _ => none
theorem slDat_inj {s t : SlV} (h : slDat s = slDat t) : s = t := by
  obtain ⟨p, n, c⟩ := s
  obtain ⟨q, m, d⟩ := t
  cases p with
  | none =>
    cases q with
    | none =>
      simp only [slDat, DataW.agg.injEq, List.cons.injEq, DataW.lit.injEq, Lit.int.injEq, true_and, and_true] at h
      obtain ⟨h1, h2⟩ := h
      rw [show n = m by omega, show c = d by omega]
    | some y => simp [slDat] at h
  | some x =>
    cases q with
    | none => simp [slDat] at h
    | some y =>
      simp only [slDat, DataW.agg.injEq, List.cons.injEq, DataW.lit.injEq, Lit.int.injEq, true_and, and_true] at h
      obtain ⟨h1, h2, h3, h4⟩ := h
      rw [show n = m by omega, show c = d by omega, show x = y from Prod.ext (by omega) (by omega)]
theorem slElem_mk (s : SlV) : slElem (slVal s) = some (slDat s, []) := by
  obtain ⟨p, n, c⟩ := s
  cases p <;> rfl
theorem slElem_inv (v : Value) (s : SlV) (ps : List MemPlace) (h : slElem v = some (slDat s, ps)) : v = slVal s := by
  unfold slElem at h
  split at h
  · simp only [Option.some.injEq, Prod.mk.injEq] at h
    rw [← slDat_inj h.1]; rfl
  · simp only [Option.some.injEq, Prod.mk.injEq] at h
    rw [← slDat_inj h.1]; rfl
  · cases h
/-- Slices of one kind as elements. -/
def slCod (E : TypeId) (hz : ∀ w, (zeroValue E).run Try.prog w = .ok (.slice none 0 0) w) : MCod E SlV := ⟨slVal, slDat, slElem, (none, 0, 0), slElem_mk, slElem_inv, hz⟩

end Go.Proofs.Ytaajadmaamjebaa
