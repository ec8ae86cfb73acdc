/- slices.Insert of a number ahead of a row; without, first. -/
import Derived.Test.YtaajadmaamjebaaSyC
import Derived.Test.YtaajadmaamjebaaQTail
import Derived.Test.YtaajadmaamjebaaRws
import Derived.Laws.CopyOwn
import Derived.Lib.Overlaps
import Derived.Lib.AppendZerosOnto
namespace Go.Proofs.Ytaajadmaamjebaa
open Go.RowKit

theorem cutU_lo (g n c k : Nat) (hk : k ≤ n) (hc : k < c) (w : World) : (Instr.sliceAt 44 (.slice (some ⟨g, 0, none⟩) n c) (some (.int .i64 k)) none none).run Try.prog w = .ok (.slice (some ⟨g, k, none⟩) (n - k) (c - k)) w := by
  have := cut_loR (P := Try.prog) Try.underlying44 (fun w => Try.sizeOf33 w) g 0 n c k hk hc w
  rw [Nat.zero_add, Nat.mul_one] at this
  exact this
theorem cutU_hi (g n c k : Nat) (hk : k ≤ c) (hc : 0 < c) (w : World) : (Instr.sliceAt 44 (.slice (some ⟨g, 0, none⟩) n c) none (some (.int .i64 k)) none).run Try.prog w = .ok (.slice (some ⟨g, 0, none⟩) k c) w :=
  cut_hiR (P := Try.prog) Try.underlying44 (fun w => Try.sizeOf33 w) g 0 n c k hk hc w
theorem sizeU1 : (Try.prog.info? 33).map (·.size) = some 1 := by kernel_rfl
/-- The row of the one number that is put in. -/
def OneU (vb man : Nat) (w : World) : Prop := w.heap[vb]? = some (.cells #[uV man] 33 (0, 0))
theorem OneU.cell {vb man : Nat} {w : World} (h : OneU vb man w) : ∀ j v, [uV man][j]? = some v → w.cell? ((⟨vb, 0, none⟩ : Addr).add j) = some v := fun j v hv => by
  rw [addr_add, Nat.zero_add, cell_of_row _ _ _ _ _ _ h]; simpa using hv
theorem shape_row {w : World} {b : Nat} {cs : Array Value} {t : TypeId} {fr : Nat × Nat} (h : w.heap[b]? = some (.cells cs t fr)) : w.shape? b = some (t, cs.size) := by
  unfold World.shape?
  rw [h]

/-- copy onto a row, the world behind it by name. -/
theorem wpList_copy_named {P : Program} {w : World} {ops : Array Oper} {rest : List Oper} {o : Oper} {a : Act} {Q : Exit → Act → World → Prop} (hgd : o.guard = none) (d s : Operand) (dT sT : TypeId)
    (ho : o.op = .call { callee := .builtin .copy, args := #[d, s], argTypes := #[dT, sT] }) (elem : TypeId) (hu : P.underlying dT = some (.slice elem)) (hsz : (P.info? elem).map (·.size) = some 1)
    (g off dLen dCap : Nat) (ad : Addr) (sLen sCap : Nat) (hd : a.eval d = .slice (some ⟨g, off, none⟩) dLen dCap) (hs : a.eval s = .slice (some ad) sLen sCap)
    (cur : List Value) (t : TypeId) (hg : w.heap[g]? = some (.cells cur.toArray t (0, 0))) (cs : List Value) (hn : cs.length = Nat.min sLen dLen)
    (hsrc : ∀ j v, cs[j]? = some v → w.cell? (ad.add j) = some v) (hfit : off + cs.length ≤ cur.length) (h1 : ∀ v ∈ cs, v.oneCell' = true)
    (W : World) (hW : W = w.setRow g (cur.take off ++ (cs ++ cur.drop (off + cs.length))).toArray)
    (h : wpList P ops Q rest (a.put o.dst (goInt cs.length)) W) : wpList P ops Q (o :: rest) a w := by
  subst hW
  exact wpList_copy_own hgd d s dT sT ho elem hu hsz g off dLen dCap ad sLen sCap hd hs cur.toArray t hg cs hn hsrc (by simpa using hfit) h1 h

set_option maxRecDepth 100000 in
set_option maxHeartbeats 4000000 in
/-- There is room. -/
theorem uinsert_room (man vb g cap : Nat) (l : List Nat) (z : Value) (rest : List Value) (hs : l.length ≤ 1000000) (h0 : 0 < l.length) (hc : l.length + 1 ≤ cap) (hcap : l.length + (z :: rest).length = cap) (w : World) (h : RowU g l (z :: rest) w) (hv : OneU vb man w) (hne : vb ≠ g) :
    Calls Try.prog 52 #[.slice (some ⟨g, 0, none⟩) l.length cap, .int .i64 0, .slice (some ⟨vb, 0, none⟩) 1 1] w fun e w' =>
      e = .returned (.slice (some ⟨g, 0, none⟩) (l.length + 1) cap) ∧ RowU g (man :: l) rest w' ∧ w.grownBy w' (some g) := by
  have CJ0 : ∀ w', (Instr.sliceAt 44 (.slice (some ⟨g, 0, none⟩) l.length cap) (some (.int .i64 0)) none none).run Try.prog w' = .ok (.slice (some ⟨g, 0, none⟩) l.length cap) w' := fun w' => cutU_lo g l.length cap 0 (by omega) (by omega) w'
  have CH1 := fun w' => cutU_hi g l.length cap (l.length + 1) (by omega) (by omega) w'
  have CJ1 : ∀ w', (Instr.sliceAt 44 (.slice (some ⟨g, 0, none⟩) (l.length + 1) cap) (some (.int .i64 1)) none none).run Try.prog w' = .ok (.slice (some ⟨g, 1, none⟩) l.length (cap - 1)) w' := fun w' => cutU_lo g (l.length + 1) cap 1 (by omega) (by omega) w'
  have CJ2 : ∀ w', (Instr.sliceAt 44 (.slice (some ⟨g, 0, none⟩) (l.length + 1) cap) (some (.int .i64 0)) none none).run Try.prog w' = .ok (.slice (some ⟨g, 0, none⟩) (l.length + 1) cap) w' := fun w' => cutU_lo g (l.length + 1) cap 0 (by omega) (by omega) w'
  have hov : (callFunc 65 #[.slice (some ⟨vb, 0, none⟩) 1 1, .slice (some ⟨g, 1, none⟩) l.length (cap - 1)]).run Try.prog w = .ok (.value (.bool false)) w := by
    rw [run_callFunc_extern Try.func65 (by kernel_rfl) (by kernel_rfl) (by kernel_rfl) (e := Extern.SlicesOverlaps.overlaps #[44, 44] #[4]) (by kernel_rfl),
      Lib.run_overlaps_apart w 44 4 33 Try.underlying44 1 (fun w => Try.sizeOf33 w) ⟨vb, 0, none⟩ ⟨g, 1, none⟩ 1 1 l.length (cap - 1) hne _ _ _ _ (shape_row hv) (shape_row h) (by rw [rowU_size]; omega) (frozen_of_row w vb 0 _ _ hv) (frozen_of_row w vb _ _ _ hv)]
    rfl
  have hsrc : ∀ j v, (l.map uV)[j]? = some v → w.cell? ((⟨g, 0, none⟩ : Addr).add j) = some v := fun j v hj => by
    rw [addr_add, Nat.zero_add, cell_of_row _ _ _ _ _ _ h]
    unfold rowU
    rw [List.getElem?_toArray, List.getElem?_append_left (List.getElem?_eq_some_iff.1 hj).1]; exact hj
  obtain ⟨n, hn⟩ : ∃ n, n = l.length := ⟨_, rfl⟩
  obtain ⟨n1, hn1⟩ : ∃ n1, n1 = l.length + 1 := ⟨_, rfl⟩
  obtain ⟨c1, hc1⟩ : ∃ c1, c1 = cap - 1 := ⟨_, rfl⟩
  rw [← hn1] at CH1 CJ1 CJ2 ⊢
  rw [← hn] at CJ0 CH1 CJ1 hov ⊢
  rw [← hc1] at CJ1 hov
  have v1 : IntKind.i64.wrap ((n : Int) + 1) = (n1 : Int) := by rw [show (n : Int) + 1 = (n1 : Int) by omega]; exact IntWalk.i64_in _ (by omega)
  have t1 : ((0 : Int) == (n : Int)) = false := beq_eq_false_iff_ne.2 (by omega)
  have t2 : decide ((n1 : Int) > (cap : Int)) = false := by simp; omega
  have t2' : ¬ cap < n1 := by omega
  have t3 : (1 : Int) ≤ (n1 : Int) := by omega
  obtain ⟨L, hL⟩ : ∃ L, L = l.map uV := ⟨_, rfl⟩
  have hLn : L.length = n := by rw [hL, List.length_map, hn]
  have HROW : Hid (w.heap[g]? = some (.cells (L ++ z :: rest).toArray 33 (0, 0))) := Lib.hid (by rw [hL]; exact h)
  rw [← hL] at hsrc
  have HSRC := Lib.hid hsrc
  have HL1 : Hid (∀ v ∈ L, v.oneCell' = true) := Lib.hid (by rw [hL]; exact uV_ones l)
  have HLN : Hid (L.length = n ∧ n1 = n + 1 ∧ n + (z :: rest).length = cap) := Lib.hid ⟨hLn, by omega, by omega⟩
  have HONE := Lib.hid hv
  have HNE := Lib.hid hne
  have HLL := Lib.hid hL
  clear hn hn1 hc1 hL hLn h hv hne hsrc h0 hc hcap hs
  go_enter Try.func52, Try.ntmps52
  go_wp2_with (simp only [hov])
  have vw1 : IntKind.i64.wrap (1 : Int) = 1 := rfl
  refine wp_region_kept_tail 8 (by kernel_rfl) (by decide) (by kernel_rfl) (by kernel_rfl) ?_
  simp only [List.take_succ_cons, List.take_zero, List.drop_succ_cons, List.drop_zero]
  refine wpQuiet_pure (v := ?_) (by kernel_rfl) ?_ (fun K hK => ?_)
  case refine_2 => intro W _; go_simp; try with_reducible rfl
  go_simp
  refine hK _ ?_; clear hK K
  refine wpQuiet_pure (v := ?_) (by kernel_rfl) ?_ (fun K hK => ?_)
  case refine_2 => intro W _; go_simp; try with_reducible rfl
  go_simp
  refine hK _ ?_; clear hK K
  refine wpQuiet_pure (v := ?_) (by kernel_rfl) ?_ (fun K hK => ?_)
  case refine_2 => intro W _; go_simp; try with_reducible rfl
  go_simp
  refine hK _ ?_; clear hK K
  refine wpQuiet_pure (v := ?_) (by kernel_rfl) ?_ (fun K hK => ?_)
  case refine_2 => intro W _; go_simp; try with_reducible rfl
  go_simp
  refine hK _ ?_; clear hK K
  refine wpQuiet_pure (v := ?_) (by kernel_rfl) ?_ (fun K hK => ?_)
  case refine_2 => intro W hW; have e0 := CJ1 W; go_simp; try with_reducible rfl
  go_simp
  refine hK _ ?_; clear hK K
  refine wpQuiet_pure (v := ?_) (by kernel_rfl) ?_ (fun K hK => ?_)
  case refine_2 => intro W _; go_simp; try with_reducible rfl
  go_simp
  refine hK _ ?_; clear hK K
  refine wpQuiet_pure (v := ?_) (by kernel_rfl) ?_ (fun K hK => ?_)
  case refine_2 => intro W _; go_simp; try with_reducible rfl
  go_simp
  refine hK _ ?_; clear hK K
  refine wpQuiet_pure (v := ?_) (by kernel_rfl) ?_ (fun K hK => ?_)
  case refine_2 => intro W hW; have e0 := CJ2 W; go_simp; try with_reducible rfl
  go_simp
  refine hK _ ?_; clear hK K
  refine wpQuiet_nil ?_
  intro w1 hk1
  have HG1 : Hid (w1.heap[g]? = some (.cells (L ++ z :: rest).toArray 33 (0, 0))) := Lib.hid (hk1.row HROW.out)
  have HS1 : Hid (∀ j v, L[j]? = some v → w1.cell? ((⟨g, 0, none⟩ : Addr).add j) = some v) := Lib.hid (fun j v hj => hk1.cell (HSRC.out j v hj))
  have HV1 : Hid (OneU vb man w1) := Lib.hid (hk1.row HONE.out)
  have hm1 : Hid (L.length = Nat.min n1 n) := Lib.hid (by rw [HLN.out.1, HLN.out.2.1]; exact (Nat.min_eq_right (by omega)).symm)
  have hf1 : Hid (1 + L.length ≤ (L ++ z :: rest).length) := Lib.hid (by simp; omega)
  obtain ⟨X, hX⟩ : ∃ X, X = (L ++ z :: rest).take 1 ++ (L ++ (L ++ z :: rest).drop (1 + L.length)) := ⟨_, rfl⟩
  have HX := Lib.hid hX
  have hXl : X.length = n + (z :: rest).length := by rw [hX, List.length_append, List.length_append, List.length_take, List.length_drop, List.length_append]; have := HLN.out.1; have h2 : (z :: rest).length = rest.length + 1 := rfl; omega
  obtain ⟨W2, hW2⟩ : ∃ W2, W2 = w1.setRow g X.toArray := ⟨_, rfl⟩
  have HW2 : Hid (W2 = w1.setRow g ((L ++ z :: rest).take 1 ++ (L ++ (L ++ z :: rest).drop (1 + L.length))).toArray) := Lib.hid (by rw [hW2, hX])
  have HG2 : Hid (W2.heap[g]? = some (.cells X.toArray 33 (0, 0))) := Lib.hid (by rw [hW2]; exact setRow_heap _ _ _ _ _ _ HG1.out)
  have HV2 : Hid (OneU vb man W2) := Lib.hid (by
    show W2.heap[vb]? = _
    rw [hW2, setRow_other _ _ _ _ HNE.out]; exact HV1.out)
  have HC2 : Hid (∀ j v, [uV man][j]? = some v → W2.cell? ((⟨vb, 0, none⟩ : Addr).add j) = some v) := Lib.hid HV2.out.cell
  have hm2 : Hid ([uV man].length = Nat.min 1 n1) := Lib.hid (Nat.min_eq_left (show 1 ≤ n1 by have := HLN.out.2.1; omega)).symm
  have hf2 : Hid (0 + [uV man].length ≤ X.length) := Lib.hid (by rw [hXl]; have h2 : (z :: rest).length = rest.length + 1 := rfl; show 0 + 1 ≤ _; omega)
  have h12 : Hid (∀ v ∈ [uV man], v.oneCell' = true) := Lib.hid (fun v hv => by rw [List.mem_singleton.1 hv]; rfl)
  have HGR : Hid (w.grownBy W2 (some g)) := Lib.hid (by rw [hW2]; exact grown_row (grown_then (grown_refl _ _) hk1) _)
  clear hk1 hX hXl hW2
  have HFIN : Hid (RowU g (man :: l) rest (W2.setRow g (X.take 0 ++ ([uV man] ++ X.drop (0 + [uV man].length))).toArray)) := Lib.hid (by
    have e1 : (L ++ z :: rest).drop (1 + L.length) = rest := by
      have e := List.drop_left' (l₁ := L ++ [z]) (l₂ := rest) (i := 1 + L.length) (by simp; omega)
      rw [List.append_assoc] at e; exact e
    have e2 : X.drop 1 = L ++ rest := by rw [HX.out, e1]; exact List.drop_left' (by rw [List.length_take, List.length_append]; have h2 : (z :: rest).length = rest.length + 1 := rfl; omega)
    have e3 : (X.take 0 ++ ([uV man] ++ X.drop (0 + [uV man].length))).toArray = rowU (man :: l) rest := by
      rw [show 0 + [uV man].length = 1 from rfl, e2, HLL.out]; rfl
    rw [e3]
    exact setRow_heap _ _ _ _ _ _ HG2.out)
  obtain ⟨W3, hW3⟩ : ∃ W3, W3 = W2.setRow g (X.take 0 ++ ([uV man] ++ X.drop (0 + [uV man].length))).toArray := ⟨_, rfl⟩
  rw [← hW3] at HFIN
  have HW3 := Lib.hid hW3
  have HG3 : Hid (w.grownBy W3 (some g)) := Lib.hid (by rw [hW3]; exact grown_row HGR.out _)
  clear hW3
  go_wp2_with (first
    | (with_reducible refine wpList_copy_named rfl _ _ 44 44 rfl 33 Try.underlying44 sizeU1 g 1 n c1 ⟨g, 0, none⟩ n1 cap rfl rfl (L ++ z :: rest) 33 HG1.out L hm1.out HS1.out hf1.out HL1.out W2 HW2.out ?_)
    | (with_reducible refine wpList_copy_named rfl _ _ 44 44 rfl 33 Try.underlying44 sizeU1 g 0 n1 cap ⟨vb, 0, none⟩ 1 1 rfl rfl X 33 HG2.out [uV man] hm2.out HC2.out hf2.out h12.out W3 HW3.out ?_))
  go_ret
  exact ⟨rfl, HFIN.out, HG3.out⟩

set_option maxRecDepth 100000 in
set_option maxHeartbeats 4000000 in
/-- There is no room. -/
theorem uinsert_grow (B man vb g cap : Nat) (l : List Nat) (hs : l.length ≤ 1000000) (hlo : ∀ m ∈ man :: l, m < 4294967296) (h0 : 0 < l.length) (hc : l.length = cap) (w : World) (h : RowU g l [] w) (hv : OneU vb man w) (hB : B ≤ w.heap.size) :
    Calls Try.prog 52 #[.slice (some ⟨g, 0, none⟩) l.length cap, .int .i64 0, .slice (some ⟨vb, 0, none⟩) 1 1] w fun e w' =>
      ∃ v', e = .returned v' ∧ OwnU B (man :: l) v' w' ∧ v'.ownBlock = some w.heap.size ∧ Kept w w' := by
  obtain ⟨ir, hir, hx⟩ := Option.map_eq_some_iff.1 info_u32
  simp only [Prod.mk.injEq] at hx
  obtain ⟨hz0, hz1, hz2⟩ := hx
  subst hc
  have CJ0 : ∀ w', (Instr.sliceAt 44 (.slice (some ⟨g, 0, none⟩) l.length l.length) (some (.int .i64 0)) none none).run Try.prog w' = .ok (.slice (some ⟨g, 0, none⟩) l.length l.length) w' := fun w' => cutU_lo g l.length l.length 0 (by omega) (by omega) w'
  have CH0 : ∀ w', (Instr.sliceAt 44 (.slice (some ⟨g, 0, none⟩) l.length l.length) none (some (.int .i64 0)) none).run Try.prog w' = .ok (.slice (some ⟨g, 0, none⟩) 0 l.length) w' := fun w' => cutU_hi g l.length l.length 0 (by omega) (by omega) w'
  obtain ⟨cg, hcg⟩ : ∃ c, c = grownCap w (0 + (l.length + 1)) l.length 33 := ⟨_, rfl⟩
  have hcge : l.length + 1 ≤ cg := by rw [hcg]; have := grownCap_ge w (0 + (l.length + 1)) l.length 33; omega
  have hcgm : cg ≤ maxLen := by rw [hcg]; exact grownCap_le_maxLen w _ _ _ (by unfold maxLen; omega)
  have hrun := fun (ty : TypeId) (kq : IntKind) => Lib.run_append_grow_zeros (P := Try.prog) w 44 3 ty 33 ir (.int .u32 0) kq .i64 Try.underlying44 Try.underlying3 hir hz0 (some ⟨g, 0, none⟩) 0 l.length [] (by
    simp [Builtin.firstCells, loadCells, loadCellsFrom, hz1]) (l.length + 1) (by omega) (by omega) (by omega) (by omega) (by rw [hz2]; omega) (growslice_fits (by omega) (by rw [hz2]; omega))
  rw [← hcg] at hrun
  obtain ⟨Z, hZ⟩ : ∃ Z : List Value, Z = (#[] ++ Builtin.zeroCells (Value.int .u32 0).cells (l.length + 1) ++ Builtin.zeroCells (Value.int .u32 0).cells (cg - (0 + (l.length + 1)))).toList := ⟨_, rfl⟩
  have hZl : Z.length = cg := by rw [hZ]; simp [Builtin.zeroCells, Value.cells]; omega
  have hZa : #[] ++ Builtin.zeroCells (Value.int .u32 0).cells (l.length + 1) ++ Builtin.zeroCells (Value.int .u32 0).cells (cg - (0 + (l.length + 1))) = Z.toArray := by rw [hZ]
  rw [hZa] at hrun
  obtain ⟨W1, hW1⟩ : ∃ W1, W1 = w.drew.alloc (.cells Z.toArray 33) := ⟨_, rfl⟩
  rw [← hW1, Nat.zero_add] at hrun
  have CJ3 : ∀ w', (Instr.sliceAt 44 (.slice (some ⟨w.heap.size, 0, none⟩) (l.length + 1) cg) (some (.int .i64 0)) none none).run Try.prog w' = .ok (.slice (some ⟨w.heap.size, 0, none⟩) (l.length + 1) cg) w' := fun w' => cutU_lo w.heap.size (l.length + 1) cg 0 (by omega) (by omega) w'
  have CJ4 : ∀ w', (Instr.sliceAt 44 (.slice (some ⟨w.heap.size, 0, none⟩) (l.length + 1) cg) (some (.int .i64 1)) none none).run Try.prog w' = .ok (.slice (some ⟨w.heap.size, 1, none⟩) l.length (cg - 1)) w' := fun w' => cutU_lo w.heap.size (l.length + 1) cg 1 (by omega) (by omega) w'
  have hK1 : Kept w W1 := by rw [hW1]; exact ((Below.refl _ w).drew).alloc (Nat.le_refl _) _
  have hg1 : W1.heap[w.heap.size]? = some (.cells Z.toArray 33 (0, 0)) := by rw [hW1]; exact heap_alloc_last w.drew _
  have hne : g ≠ w.heap.size := Nat.ne_of_lt h.lt
  have hnv : vb ≠ w.heap.size := Nat.ne_of_lt (Array.getElem?_eq_some_iff.1 hv).1
  have hsrc : ∀ W : World, W.heap[g]? = w.heap[g]? → ∀ j v, (l.map uV)[j]? = some v → W.cell? ((⟨g, 0, none⟩ : Addr).add j) = some v := fun W hW j v hj => by
    rw [addr_add, Nat.zero_add, cell_of_row _ _ _ _ _ _ (hW.trans h)]
    unfold rowU
    rw [List.getElem?_toArray, List.getElem?_append_left (List.getElem?_eq_some_iff.1 hj).1]; exact hj
  obtain ⟨X, hX⟩ : ∃ X, X = Z.take 0 ++ ([uV man] ++ Z.drop (0 + [uV man].length)) := ⟨_, rfl⟩
  have hXl : X.length = cg := by rw [hX, List.length_append, List.length_append, List.length_take, List.length_drop, hZl]; show min 0 cg + (1 + (cg - (0 + 1))) = cg; omega
  obtain ⟨W2, hW2⟩ : ∃ W2, W2 = W1.setRow w.heap.size X.toArray := ⟨_, rfl⟩
  have HW2 : Hid (W2 = W1.setRow w.heap.size (Z.take 0 ++ ([uV man] ++ Z.drop (0 + [uV man].length))).toArray) := Lib.hid (by rw [hW2, hX])
  have hg2 : W2.heap[w.heap.size]? = some (.cells X.toArray 33 (0, 0)) := by rw [hW2]; exact setRow_heap _ _ _ _ _ _ hg1
  have hK2 : Kept w W2 := by rw [hW2]; exact below_setRow hK1 (Nat.le_refl _) _
  have HV1 : Hid (∀ j v, [uV man][j]? = some v → W1.cell? ((⟨vb, 0, none⟩ : Addr).add j) = some v) := Lib.hid (OneU.cell (hK1.row hv))
  have hm1 : Hid ([uV man].length = Nat.min 1 (l.length + 1)) := Lib.hid (Nat.min_eq_left (show 1 ≤ l.length + 1 by omega)).symm
  have hf1 : Hid (0 + [uV man].length ≤ Z.length) := Lib.hid (by rw [hZl]; show 0 + 1 ≤ cg; omega)
  have h11 : Hid (∀ v ∈ [uV man], v.oneCell' = true) := Lib.hid (fun v hv => by rw [List.mem_singleton.1 hv]; rfl)
  have HL1 : Hid (∀ v ∈ l.map uV, v.oneCell' = true) := Lib.hid (uV_ones l)
  have hm2 : Hid ((l.map uV).length = Nat.min l.length l.length) := Lib.hid (by rw [List.length_map]; exact (Nat.min_self _).symm)
  have hf2 : Hid (1 + (l.map uV).length ≤ X.length) := Lib.hid (by rw [hXl, List.length_map]; omega)
  have HFR : Hid ((X.take 1 ++ (l.map uV ++ X.drop (1 + (l.map uV).length))).toArray = rowU (man :: l) (X.drop (1 + (l.map uV).length)) ∧ (X.drop (1 + (l.map uV).length)).length + (l.length + 1) = cg) := Lib.hid (by
    refine ⟨?_, by rw [List.length_drop, hXl, List.length_map]; omega⟩
    have e : X.take 1 = [uV man] := by rw [hX]; rfl
    rw [e]; unfold rowU; simp)
  have HSRC := Lib.hid hsrc
  have HK2 := Lib.hid hK2
  have HG1 := Lib.hid hg1
  have HG2 := Lib.hid hg2
  have HLO := Lib.hid hlo
  have HNE := Lib.hid hne
  have HBB := Lib.hid hB
  have HGL : Hid (g < w.heap.size) := Lib.hid h.lt
  have HRUN := Lib.hid hrun
  obtain ⟨n, hn⟩ : ∃ n, n = l.length := ⟨_, rfl⟩
  obtain ⟨n1, hn1⟩ : ∃ n1, n1 = l.length + 1 := ⟨_, rfl⟩
  obtain ⟨c1, hc1⟩ : ∃ c1, c1 = cg - 1 := ⟨_, rfl⟩
  obtain ⟨L, hL⟩ : ∃ L, L = l.map uV := ⟨_, rfl⟩
  rw [← hL] at HL1 hm2 hf2 HFR HSRC
  rw [← hn1] at CJ3 CJ4 HRUN hm1
  rw [← hn] at CJ0 CH0 CJ4 HRUN hm2 ⊢
  rw [← hc1] at CJ4
  have HNN : Hid (n = l.length ∧ n1 = l.length + 1 ∧ n1 ≤ cg ∧ cg ≤ maxLen) := Lib.hid ⟨hn, hn1, by omega, hcgm⟩
  have v1 : IntKind.i64.wrap ((n : Int) + 1) = (n1 : Int) := by rw [show (n : Int) + 1 = (n1 : Int) by omega]; exact IntWalk.i64_in _ (by omega)
  have v2 : IntKind.i64.wrap (n1 : Int) = (n1 : Int) := IntWalk.i64_in _ (by omega)
  have t1 : ((0 : Int) == (n : Int)) = false := beq_eq_false_iff_ne.2 (by omega)
  have t2 : decide ((n1 : Int) > (n : Int)) = true := by simp; omega
  have t2' : n < n1 := by omega
  have vw1 : IntKind.i64.wrap (1 : Int) = 1 := rfl
  clear hn hn1 hc1 hL hrun hcg hcge hcgm hZ hZl hZa hW1 hK1 hg1 hne hnv hsrc hX hXl hW2 hg2 hK2 h hv hB hlo h0 hs hir hz0 hz1 hz2
  go_enter Try.func52, Try.ntmps52
  go_wp2_with (first
    | (at_builtin; refine Lib.wpList_append_run _ rfl _ _ _ _ rfl _ _ rfl rfl _ _ (HRUN.out _ _) ?_)
    | (with_reducible refine wpList_copy_named rfl _ _ 44 44 rfl 33 Try.underlying44 sizeU1 w.heap.size 0 n1 cg ⟨vb, 0, none⟩ 1 1 rfl rfl Z 33 HG1.out [uV man] hm1.out HV1.out hf1.out h11.out W2 HW2.out ?_))
  refine wp_region_kept_tail 8 (by kernel_rfl) (by decide) (by kernel_rfl) (by kernel_rfl) ?_
  simp only [List.take_succ_cons, List.take_zero, List.drop_succ_cons, List.drop_zero]
  refine wpQuiet_pure (v := ?_) (by kernel_rfl) ?_ (fun K hK => ?_)
  case refine_2 => intro W _; go_simp; try with_reducible rfl
  go_simp
  refine hK _ ?_; clear hK K
  refine wpQuiet_pure (v := ?_) (by kernel_rfl) ?_ (fun K hK => ?_)
  case refine_2 => intro W _; go_simp; try with_reducible rfl
  go_simp
  refine hK _ ?_; clear hK K
  refine wpQuiet_pure (v := ?_) (by kernel_rfl) ?_ (fun K hK => ?_)
  case refine_2 => intro W _; go_simp; try with_reducible rfl
  go_simp
  refine hK _ ?_; clear hK K
  refine wpQuiet_pure (v := ?_) (by kernel_rfl) ?_ (fun K hK => ?_)
  case refine_2 => intro W _; go_simp; try with_reducible rfl
  go_simp
  refine hK _ ?_; clear hK K
  refine wpQuiet_pure (v := ?_) (by kernel_rfl) ?_ (fun K hK => ?_)
  case refine_2 => intro W hW; have e0 := CJ4 W; go_simp; try with_reducible rfl
  go_simp
  refine hK _ ?_; clear hK K
  refine wpQuiet_pure (v := ?_) (by kernel_rfl) ?_ (fun K hK => ?_)
  case refine_2 => intro W _; go_simp; try with_reducible rfl
  go_simp
  refine hK _ ?_; clear hK K
  refine wpQuiet_pure (v := ?_) (by kernel_rfl) ?_ (fun K hK => ?_)
  case refine_2 => intro W _; go_simp; try with_reducible rfl
  go_simp
  refine hK _ ?_; clear hK K
  refine wpQuiet_pure (v := ?_) (by kernel_rfl) ?_ (fun K hK => ?_)
  case refine_2 => intro W hW; have e0 := CJ0 W; go_simp; try with_reducible rfl
  go_simp
  refine hK _ ?_; clear hK K
  refine wpQuiet_nil ?_
  intro w3 hk3
  have HS3 : Hid (∀ j v, L[j]? = some v → w3.cell? ((⟨g, 0, none⟩ : Addr).add j) = some v) := Lib.hid (HSRC.out w3 ((hk3.block g (Nat.lt_of_lt_of_le HGL.out HK2.out.size)).trans (HK2.out.block g HGL.out)))
  have HG3 : Hid (w3.heap[w.heap.size]? = some (.cells X.toArray 33 (0, 0))) := Lib.hid (hk3.row HG2.out)
  obtain ⟨W4, hW4⟩ : ∃ W4, W4 = w3.setRow w.heap.size (X.take 1 ++ (L ++ X.drop (1 + L.length))).toArray := ⟨_, rfl⟩
  have HW4 := Lib.hid hW4
  have HK4 : Hid (Kept w W4) := Lib.hid (by rw [hW4]; exact below_setRow (HK2.out.then hk3) (Nat.le_refl _) _)
  have HR4 : Hid (RowU w.heap.size (man :: l) (X.drop (1 + L.length)) W4) := Lib.hid (by
    show W4.heap[w.heap.size]? = _
    rw [hW4, HFR.out.1]; exact setRow_heap _ _ _ _ _ _ HG3.out)
  clear hW4 hk3
  go_wp2_with (with_reducible refine wpList_copy_named rfl _ _ 44 44 rfl 33 Try.underlying44 sizeU1 w.heap.size 1 n c1 ⟨g, 0, none⟩ n n rfl rfl X 33 HG3.out L hm2.out HS3.out hf2.out HL1.out W4 HW4.out ?_)
  go_ret
  have hl1 : (man :: l).length = n1 := by have := HNN.out.2.1; rw [List.length_cons]; exact this.symm
  have ho := OwnU.of_row (B := B) (g := w.heap.size) (cap := cg) (rest := X.drop (1 + L.length)) HLO.out HBB.out HR4.out (by rw [hl1]; exact HNN.out.2.2.1) HNN.out.2.2.2 (by rw [List.length_cons]; have := HFR.out.2; omega)
  rw [hl1] at ho
  exact ⟨_, rfl, ho, rfl, HK4.out⟩

end Go.Proofs.Ytaajadmaamjebaa
