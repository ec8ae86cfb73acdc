/- The landed blob's Get: what stands between two rounds of its loop. -/
import Derived.Test.YtppbknlhknadbaaBmP
namespace Go.Proofs.Ytppbknlhknadbaa
open Go.RowKit Go.Shelf

theorem results_cellA2 {P : Program} {fn : Func} {p q : Tmp} {ty uy : TypeId} {k : IntKind} (h : fn.results = #[.cell p ty, .cell q uy]) (tmps : Array Value) (w : World) (a b : Addr) (hp : tmps.getD p undef = .pointer (some a)) (hq : tmps.getD q undef = .pointer (some b))
    (hu : P.underlying ty = some .string) (hv : P.underlying uy = some (.int k)) (x y : Value) (hc : w.cell? a = some x) (hd : w.cell? b = some y) :
    (results fn tmps).run P w = .ok (.tuple #[x, y]) w := by
  have u := run_underlying hu
  have v := run_underlying hv
  have hp' : tmps[p]?.getD undef = .pointer (some a) := by simpa using hp
  have hq' : tmps[q]?.getD undef = .pointer (some b) := by simpa using hq
  simp [results, h, hp', hq', asAddr, loadVar, isAgg, u, v, hc, hd]

theorem boxed_other {W : World} {b c : Nat} {T : TypeId} {v : Value} (h : Boxed W b T v) (hne : b ≠ c) (u : Value) : Boxed (W.setCell ⟨c, 0, none⟩ u) b T v := by
  show (W.setCell _ _).heap[b]? = _
  rw [heap_setCell_other _ _ _ _ hne]
  exact h
theorem boxes2 {W : World} {b c : Nat} {T U : TypeId} {x y : Value} (h1 : Boxed W b T x) (h2 : Boxed W c U y) (hne : b ≠ c) (x' y' : Value) : Boxed ((W.setCell ⟨b, 0, none⟩ x').setCell ⟨c, 0, none⟩ y') b T x' ∧ Boxed ((W.setCell ⟨b, 0, none⟩ x').setCell ⟨c, 0, none⟩ y') c U y' :=
  ⟨boxed_other (h1.set x') hne y', (boxed_other h2 (Ne.symm hne) x').set y'⟩
theorem keeps_kept {W W' : World} (h : Kept W W') : KeepsOthers W W' := ⟨h.size, fun k _ hk _ => (h.block k (Array.getElem?_eq_some_iff.1 hk).1).trans hk⟩
theorem accG_all {s : Dk} {l : List (Int × Int)} (hv : validL 0 8192 l) : (secF l).flatMap (fun x => s.vis x.val) = (allR l).flatMap s.vis := by
  unfold secF
  rw [show secsL l = allR l from if_pos hv, List.flatMap_map]
  rw [List.flatMap_def, List.flatMap_def]
  congr 1
  refine List.map_congr_left (fun k hk => ?_)
  show s.vis (k % 8192) = s.vis k
  rw [Nat.mod_eq_of_lt (allR_lt hv k hk)]

def accG (s : Dk) (pre : List (Fin 8192)) : List UInt8 := pre.flatMap (fun x => s.vis x.val)
theorem accG_snoc (s : Dk) (pre : List (Fin 8192)) (x : Fin 8192) : accG s (pre ++ [x]) = accG s pre ++ s.vis x.val := by
  unfold accG
  rw [List.flatMap_append]
  simp
/-- A body that writes some blocks of its own. -/
theorem footX (X : Nat → Prop) {Rd : Nat → Prop} (hX : ∀ k, X k → ¬ Rd k) : Foot (fun _ k => X k) (fun W => ∀ k, X k → k < W.heap.size) Rd where
  low := fun _ k _ h hk => hX k h hk
  lt := fun _ k hG h => hG k h
  good := fun _ _ hG K k h => Nat.lt_of_lt_of_le (hG k h) K.size
  later := fun _ _ _ _ _ h => h
theorem kpX_put (X : Nat → Prop) (W : World) (l : Nat) (o o' : Obj) (ho : W.heap[l]? = some o) (hc : o.isCells = false) : KpF (fun _ k => X k) (fun W => ∀ k, X k → k < W.heap.size) W (W.putObj l o') := by
  have hg := grownBy_putObj' W l o'
  refine ⟨hg.size, fun _ k cs T fr hk _ => ?_, fun _ k hk => Or.inl hk, fun hG k hk => Nat.lt_of_lt_of_le (hG k hk) hg.size⟩
  have e : k ≠ l := fun e => by
    subst e
    rw [hk] at ho
    have := Option.some.inj ho
    subst this
    cases hc
  rw [World.putObj_heap_other e]
  exact hk
theorem kpX_step (X : Nat → Prop) {W W' : World} (h : ButBy X W W') : KpF (fun _ k => X k) (fun W => ∀ k, X k → k < W.heap.size) W W' :=
  ⟨h.size, fun _ k _ _ _ hk hn => (h.block k (Array.getElem?_eq_some_iff.1 hk).1 hn).trans hk, fun _ _ hk => Or.inl hk, fun hG k hk => Nat.lt_of_lt_of_le (hG k hk) h.size⟩
theorem keepsFrom_but {X : Nat → Prop} {W W' : World} (n : Nat) (h : ButBy X W W') (hX : ∀ k, X k → ∃ cs T fr, W.heap[k]? = some (.cells cs T fr)) : KeepsFrom n W W' :=
  ⟨h.size, fun k o _ ho hc => (h.block k (Array.getElem?_eq_some_iff.1 ho).1 (fun y => by
    obtain ⟨cs, T, fr, z⟩ := hX k y
    rw [z] at ho
    have := Option.some.inj ho
    subst this
    cases hc)).trans ho⟩
theorem rowB_own {β : Type} (n b : Nat) (T : TypeId) (f : β → List UInt8) : OwnFrom n (fun s W => RowB b T (f s) W) := fun s W W' row h hg hr =>
  h.stay (hg.block b h.lt (fun e => by
    obtain ⟨_, o, ho, hc⟩ := hr b e.symm
    rw [show W.heap[b]? = _ from h] at ho
    have := Option.some.inj ho
    subst this
    cases hc))
theorem patch_append : ∀ (a c bs : List UInt8) (o : Nat), patch bs o (a ++ c) = patch (patch bs o a) (o + a.length) c
  | [], _, _, _ => rfl
  | v :: r, c, bs, o => by
    show patch (bs.set o v) (o + 1) (r ++ c) = patch (patch (bs.set o v) (o + 1) r) (o + (r.length + 1)) c
    rw [patch_append r c, show o + 1 + r.length = o + (r.length + 1) by omega]
/-- The row behind the sectors' bytes that came, as far as there is room. -/
def rowG (N : Nat) (l : List UInt8) : List UInt8 := patch (List.replicate N 0) 0 (l.take N)
theorem rowG_len (N : Nat) (l : List UInt8) : (rowG N l).length = N := by unfold rowG; rw [patch_len, List.length_replicate]
theorem rowG_more (N : Nat) (l v : List UInt8) (h : l.length ≤ N) : patch (rowG N l) l.length (v.take (N - l.length)) = rowG N (l ++ v) := by
  unfold rowG
  rw [List.take_of_length_le h, List.take_append, List.take_of_length_le h, patch_append, Nat.zero_add]
theorem rowG_all (N : Nat) (l : List UInt8) (h : N ≤ l.length) : rowG N l = l.take N := by
  have hl : (l.take N).length = N := by rw [List.length_take]; omega
  unfold rowG
  rw [patch_eq _ _ 0 (by rw [hl, List.length_replicate]; omega), hl]
  simp

/-- Between two rounds; where a read had an error. -/
def GetJ (s : Dk) (N b0 bR bB bN : Nat) (x : Value) (w : World) (pre : List (Fin 8192)) (W : World) : Prop :=
  RowB bR 5 (rowG N (accG s pre)) W ∧ Boxed W bB 49 (.slice (some ⟨bR, 0, none⟩) N N) ∧ Boxed W bN 3 (.int .i64 ((min N (128 * pre.length) : Nat) : Int)) ∧ (accG s pre).length = 128 * pre.length ∧
    Boxed W b0 33 x ∧ Boxed W (b0 + 1) 9 (.string ⟨#[]⟩) ∧ Boxed W (b0 + 2) 34 (.int .i64 0) ∧ Below w.heap.size w W
def GetX (s : Dk) (c : Code) (xs : List (Fin 8192)) (_ : World) : Prop := c = .ret ∧ ∃ (pre : List (Fin 8192)) (x : Fin 8192), xs = pre ++ [x] ∧ ¬ x.val < s.stands.length
theorem getJ_own {s : Dk} {N b0 bR bB bN : Nat} {x : Value} {w : World} (n : Nat) (h : w.heap.size ≤ n) : OwnFrom n (GetJ s N b0 bR bB bN x w) :=
  OwnFrom.and (rowB_own n bR _ (fun pre => rowG N (accG s pre))) (OwnFrom.and (Own.from (boxed_own _ _ (fun _ => _)) _) (OwnFrom.and (Own.from (boxed_own _ _ (fun (pre : List (Fin 8192)) => .int .i64 ((min N (128 * pre.length) : Nat) : Int))) _) (OwnFrom.and (ownFrom_pure _ (fun (pre : List (Fin 8192)) => (accG s pre).length = 128 * pre.length))
    ((Own.from (boxed_own _ _ (fun _ => x)) _).and ((Own.from (boxed_own _ _ (fun _ => .string ⟨#[]⟩)) _).and ((Own.from (boxed_own _ _ (fun _ => .int .i64 0)) _).and (ownFrom_below (Nat.le_refl _) h)))))))
/-- A round's end. -/
theorem get_round {s : Dk} {N b0 bR bB bN : Nat} {x : Value} {w W W6 W7 : World} {pre : List (Fin 8192)} {y : Fin 8192} {n0 n1 : Nat} (n5 : Nat) (hw : w.heap.size ≤ bR) (h0 : w.heap.size ≤ b0 ∧ b0 + 2 < bR) (hRB : bR < bB) (hBN : bN = bB + 1)
    (HROW : RowB bR 5 (rowG N (accG s pre)) W) (HBB : Boxed W bB 49 (.slice (some ⟨bR, 0, none⟩) N N)) (HBN : Boxed W bN 3 (.int .i64 (n0 : Int))) (HB0 : Boxed W b0 33 x) (HB1 : Boxed W (b0 + 1) 9 (.string ⟨#[]⟩)) (HB2 : Boxed W (b0 + 2) 34 (.int .i64 0)) (HKW : Below w.heap.size w W)
    (hk : Kept W W6) (hrow : RowB bR 5 (rowG N (accG s (pre ++ [y]))) W7) (hbut : ButBy (fun k => k = bR) W6 W7) (hn7 : Boxed W7 bN 3 (.int .i64 (n0 : Int))) (hmin : min N (128 * (pre ++ [y]).length) = n1) (hlA : (accG s (pre ++ [y])).length = 128 * (pre ++ [y]).length) :
    KeepsFrom n5 W (W7.setCell ⟨bN, 0, none⟩ (.int .i64 (n1 : Int))) ∧ KpF (fun _ k => k = bR ∨ k = bN) (fun W => ∀ k, (k = bR ∨ k = bN) → k < W.heap.size) W (W7.setCell ⟨bN, 0, none⟩ (.int .i64 (n1 : Int))) ∧ GetJ s N b0 bR bB bN x w (pre ++ [y]) (W7.setCell ⟨bN, 0, none⟩ (.int .i64 (n1 : Int))) := by
  have hB : ButBy (fun k => k = bR ∨ k = bN) W (W7.setCell ⟨bN, 0, none⟩ (.int .i64 (n1 : Int))) := ((ButBy.below hk).trans (hbut.mono (fun k h => Or.inl h))).setCell bN 0 _ (Or.inr rfl)
  have hoth : ∀ (c : Nat) (U : TypeId) (z : Value), ¬ (c = bR ∨ c = bN) → Boxed W c U z → Boxed (W7.setCell ⟨bN, 0, none⟩ (.int .i64 (n1 : Int))) c U z := fun c U z hn h => (hB.block c h.lt hn).trans h
  refine ⟨keepsFrom_but n5 hB (fun k hk => ?_), kpX_step (fun k => k = bR ∨ k = bN) hB, hrow.stay (heap_setCell_other _ _ _ _ (by show bR ≠ bN; omega)), hoth _ _ _ (by omega) HBB, ?_, hlA, hoth _ _ _ (by omega) HB0, hoth _ _ _ (by omega) HB1, hoth _ _ _ (by omega) HB2, ?_⟩
  · rcases hk with rfl | rfl
    · exact ⟨_, _, _, HROW⟩
    · exact ⟨_, _, _, HBN⟩
  · rw [hmin]; exact hn7.set _
  · exact ButBy.kept hB (fun k hk => by omega) HKW HKW.size

end Go.Proofs.Ytppbknlhknadbaa
