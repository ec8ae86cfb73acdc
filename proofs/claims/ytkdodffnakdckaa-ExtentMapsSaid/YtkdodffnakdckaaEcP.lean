/- The landed extent's Plain. -/
import Derived.Test.YtkdodffnakdckaaEcS
import Derived.Test.YtkdodffnakdckaaQTail
namespace Go.Proofs.Ytkdodffnakdckaa
open Go.RowKit

theorem below_setRow {B : Nat} {w w' : World} (h : Below B w w') (g : Nat) (cs : Array Value) (hg : B ≤ g) : Below B w (w'.setRow g cs) :=
  ⟨h.os, h.tape, h.output, by simpa using h.size, fun i hi => (setRow_other w' g i cs (by omega)).trans (h.block i hi)⟩

/-- A row is stored, the world behind it by name. -/
theorem wpList_store_named {P : Program} {ops : Array Oper} {rest : List Oper} {o : Oper} {a : Act} {w : World} {Q : Exit → Act → World → Prop} (hgd : o.guard = none) (ty : TypeId) (x y : Operand) (ho : o.op = .store ty x y)
    (g : Nat) (X : Array Value) (hx : a.eval x = .pointer (some ⟨g, 0, none⟩)) (hy : a.eval y = .agg X) (t : TypeId) (old : Array Value) (hg : w.heap[g]? = some (.cells old t (0, 0))) (hi : (P.info? ty).map (·.size) = some X.size)
    (hold : old.size = X.size) (h1 : X.all (·.oneCell') = true) (W : World) (hW : W = w.setRow g X) (h : wpList P ops Q rest (a.put o.dst undef) W) : wpList P ops Q (o :: rest) a w := by
  subst hW
  exact wpList_store_row hgd ty x y ho g X hx hy t old hg hi hold h1 h

/-- The greater of two, in every world of the class. -/
theorem wpQuiet_maxI {P : Program} {ops : Array Oper} {C : World → Prop} {Q : Act → Prop} {a : Act} {o : Oper} {rest : List Oper} (hw : Region.wanted o (yielded ops a.tmps) = true) (x y : Operand) (t u : TypeId)
    (ho : o.op = .call { callee := .builtin .max, args := #[x, y], argTypes := #[t, u] }) (k k' : IntKind) (m n r : Int) (hx : a.eval x = .int k m) (hy : a.eval y = .int k' n) (hr : (if n > m then n else m) = r)
    (h : ∀ K : Act → Prop, (∀ a, wpQuiet P ops C Q rest a → K a) → K (a.put o.dst (.int k r))) : wpQuiet P ops C Q (o :: rest) a :=
  wpQuiet_pure hw _ (fun W _ => by
    subst hr
    unfold execOp
    simp only [ho, resolve, invoke, builtin, Sem.run_bind, Sem.run_pure, Result.andThen_ok, List.map_toArray, List.map_cons, List.map_nil, hx, hy, run_max_int2]) h

/-- The last run of a list that has one. -/
theorem snoc_of {P : List (Int × Int)} (h : P ≠ []) : ∃ P0 r, P = P0 ++ [r] := ⟨P.dropLast, P.getLast h, (List.dropLast_concat_getLast h).symm⟩
theorem runC_grow (P0 : List (Int × Int)) (x y z : Int) : (runC (P0 ++ [(x, y)])).set (P0.length * 2 + 1) (.int .i64 z) = runC (P0 ++ [(x, z)]) := by
  rw [runC_append, runC_append, List.set_append_right _ _ (by rw [runC_len]; omega), runC_len, show P0.length * 2 + 1 - P0.length * 2 = 1 by omega]
  rfl

set_option maxRecDepth 100000 in
set_option maxHeartbeats 8000000 in
theorem eplain_any (l : List (Int × Int)) (v : Value) (w : World) (h : RunsAt l v w) (hl : l.length ≤ 1048576) :
    Calls Try.prog 10 #[v] w fun e w' => ∃ u, e = .returned u ∧ OwnRuns w.heap.size (runsA (hasR l)) u w' ∧ Below w.heap.size w w' := by
  obtain ⟨ir, hir, hx⟩ := Option.map_eq_some_iff.1 infoRun
  simp only [Prod.mk.injEq] at hx
  obtain ⟨hz0, hz1, hz2⟩ := hx
  have HIR := Lib.hid hir
  have HZ0 := Lib.hid hz0
  have HZ1 := Lib.hid hz1
  have HZ2 := Lib.hid hz2
  have HFI : Hid ((Try.prog.info? 57).map (·.size) = some 2) := Lib.hid (by rw [hir]; simp [hz1])
  have OR := ordered_any l v w h hl
  have HWL := Lib.hid h.wf
  obtain ⟨p, c, rfl, -, -⟩ := h.out
  obtain ⟨nl, hnl⟩ : ∃ nl, nl = l.length := ⟨_, rfl⟩
  rw [← hnl] at OR hl ⊢
  have HNL := Lib.hid hnl
  clear hir hz0 hz1 hz2 h hnl
  go_enter Try.func10, Try.ntmps10
  go_wp2_with fail
  refine OR.mono ?_
  rintro e w1 ⟨s, u, rfl, hp, hpw, ho, hb1⟩
  obtain ⟨pu, cu, rfl, hcu, hcell⟩ := own_slice ho
  have HPW := Lib.hid hpw
  have HPM := Lib.hid hp
  have HC := Lib.hid hcell
  have HB1 := Lib.hid hb1
  have HWS : Hid (wfR s) := Lib.hid (fun r hr => HWL.out r (hp.mem_iff.1 hr))
  have hsl := hp.length_eq
  obtain ⟨n, hn⟩ : ∃ n, n = s.length := ⟨_, rfl⟩
  have HN := Lib.hid hn
  have hn8 : n ≤ 1048576 := by have := HNL.out; omega
  rw [← hn] at hcu ⊢
  have P0 : Hid (PInv s 0 []) := Lib.hid (PInv.zero s)
  have O0 : Hid (w1.ownsRow w1.heap.size 57 2 (.slice none 0 0) ([] : List (Int × Int)).length (runC [])) := Lib.hid (World.ownsRow_nil _ _ _ _)
  have K0 : Hid (Kept w1 w1) := Lib.hid (Kept.refl w1)
  clear OR hp hpw ho hcell hb1 hsl hn
  go_wp2
  go_loopg [3, 10] n (fun gh s3 s10 wx => ∃ (i : Nat) (P : List (Int × Int)), i + gh = n ∧ s10 = .int .i64 i ∧ Hid (PInv s i P) ∧ Hid (wx.ownsRow w1.heap.size 57 2 s3 P.length (runC P)) ∧ Hid (Kept w1 wx))
  case atStart => exact ⟨0, [], by omega, rfl, P0, O0, K0⟩
  case round =>
    clear P0 O0 K0
    obtain ⟨i, P, hi, rfl, HP, HO, HK⟩ := hrel
    obtain ⟨i1, hi1⟩ : ∃ i1, i1 = i + 1 := ⟨_, rfl⟩
    have v1 : IntKind.i64.wrap ((i : Int) + 1) = (i1 : Int) := by rw [show (i : Int) + 1 = (i1 : Int) by omega]; exact IntWalk.i64_in _ (by omega)
    obtain ⟨pv, cv, hv, hcv, -⟩ := own_slice HO.out
    subst hv
    by_cases hin : i < n
    · have hki : (i : Int) < n := by omega
      have bk : decide ((i : Int) < (n : Int)) = true := by simpa using hki
      have hki0 : (0 : Int) ≤ i := by omega
      have hil : i < s.length := by rw [← HN.out]; exact hin
      rcases HC.out with h0 | ⟨g, rfl, hgb, hcell⟩
      · have := HN.out; omega
      have hgc := runC_get s i hil
      have d1 := HK.out.cell (hcell _ _ hgc.1)
      have d2 := HK.out.cell (hcell _ _ hgc.2)
      have hw := HWS.out _ (List.getElem_mem hil)
      have HSK : Hid ((cropI s[i]).2 = 0 → PInv s i1 P) := Lib.hid (fun h0 => by rw [hi1]; exact HP.out.skip hil h0)
      have HGR : Hid (∀ P0 x y, P = P0 ++ [(x, y)] → (cropI s[i]).2 ≠ 0 → (cropI s[i]).1 ≤ x + y → PInv s i1 (P0 ++ [(x, max (x + y) ((cropI s[i]).1 + (cropI s[i]).2) - x)])) := Lib.hid (fun P0 x y he h0 h1 => by
        rw [hi1]; exact PInv.grow (by rw [← he]; exact HP.out) hil h0 h1)
      have HAD : Hid ((cropI s[i]).2 ≠ 0 → (∀ p ∈ P, p.1 + p.2 < (cropI s[i]).1) → PInv s i1 (P ++ [cropI s[i]])) := Lib.hid (fun h0 h1 => by rw [hi1]; exact HP.out.add hil HPW.out h0 h1)
      have hbd := crop_bound s[i]
      obtain ⟨r, hr⟩ : ∃ r, r = s[i] := ⟨_, rfl⟩
      rw [← hr] at d1 d2 hw HSK HGR HAD hbd
      obtain ⟨a, m⟩ := r
      have CR := fun W => cropped_any a m hw.1 hw.2 W
      obtain ⟨c1, hc1⟩ : ∃ c1, c1 = (cropI (a, m)).1 := ⟨_, rfl⟩
      obtain ⟨c2, hc2⟩ : ∃ c2, c2 = (cropI (a, m)).2 := ⟨_, rfl⟩
      have hcc : cropI (a, m) = (c1, c2) := by rw [hc1, hc2]
      rw [hcc] at HAD
      rw [← hc1, ← hc2] at CR HGR hbd
      rw [← hc2] at HSK
      have HBD := Lib.hid hbd
      obtain ⟨b0, hb0⟩ : ∃ b0, b0 = wr.heap.size := ⟨_, rfl⟩
      have HB0 := Lib.hid hb0
      have g0 : Hid ((wr.alloc (.cells #[.int .i64 a, .int .i64 m] 57)).heap[b0]? = some (.cells #[.int .i64 a, .int .i64 m] 57 (0, 0))) := Lib.hid (by rw [hb0]; exact heap_alloc_last wr _)
      clear hgc hw hr hbd hc1 hc2 hcc hil hcell hgb hb0
      go_wp2_with fail
      refine (CR _).mono ?_
      rintro e w2 ⟨rfl, hb2⟩
      have r0 := Kept.row hb2 g0.out
      obtain ⟨W3, hW3⟩ : ∃ W3, W3 = w2.setRow b0 #[.int .i64 c1, .int .i64 c2] := ⟨_, rfl⟩
      have r3 : W3.heap[b0]? = some (.cells #[.int .i64 c1, .int .i64 c2] 57 (0, 0)) := by rw [hW3]; exact setRow_heap _ _ _ _ _ _ r0
      have K3 : Kept wr W3 := by
        rw [hW3]
        exact below_setRow (Below.then' (box_below wr _) hb2 (by simp)) _ _ (by rw [HB0.out]; exact Nat.le_refl _)
      have HS := Lib.hid hW3
      have HR0 := Lib.hid r0
      have HR3 := Lib.hid r3
      have HX0 : Hid ((Try.prog.info? 57).map (·.size) = some (#[Value.int .i64 c1, Value.int .i64 c2] : Array Value).size) := Lib.hid HFI.out
      have HX1 : Hid ((#[Value.int .i64 a, Value.int .i64 m] : Array Value).size = (#[Value.int .i64 c1, Value.int .i64 c2] : Array Value).size) := Lib.hid rfl
      have HX2 : Hid ((#[Value.int .i64 c1, Value.int .i64 c2] : Array Value).all (·.oneCell') = true) := Lib.hid (by simp [Value.oneCell'])
      have q1 : W3.cell? ⟨b0, 0, none⟩ = some (.int .i64 c1) := by rw [cell_of_row _ _ _ _ _ _ r3]; rfl
      have q2 : W3.cell? ⟨b0, 1, none⟩ = some (.int .i64 c2) := by rw [cell_of_row _ _ _ _ _ _ r3]; rfl
      have HK3 : Hid (Kept w1 W3) := Lib.hid (HK.out.then K3)
      have HKW := Lib.hid K3
      have HO3 : Hid (W3.ownsRow w1.heap.size 57 2 (.slice pv P.length cv) P.length (runC P)) := Lib.hid (own_stay HO.out (fun j hj => K3.block j (HO.out.lt j hj).2))
      have hb0s : Hid (wr.heap.size ≤ b0) := Lib.hid (by rw [HB0.out]; exact Nat.le_refl _)
      rw [← HB0.out]
      have HLEN : Hid (P.length ≤ 8192) := Lib.hid HP.out.len
      have HPLN : Hid (PlainL P) := Lib.hid HP.out.pl
      clear CR hb2 hW3 r0 r3 K3 HO g0 HP
      by_cases h0 : c2 = 0
      · have HP2 := Lib.hid (HSK.out h0)
        subst h0
        have HO4 := HO3
        obtain ⟨np, hnp⟩ : ∃ np, np = P.length := ⟨_, rfl⟩
        rw [← hnp] at HO3 ⊢
        have HNP := Lib.hid hnp
        clear hnp HSK HGR HAD q1 HPLN HLEN
        go_wp2_with (with_reducible refine wpList_store_named rfl _ _ _ rfl b0 #[.int .i64 c1, .int .i64 0] rfl rfl 57 _ HR0.out HX0.out HX1.out HX2.out W3 HS.out ?_)
        go_roundg (n - i1)
        case measure => omega
        case rel => exact ⟨i1, P, by omega, by first | rfl | (congr 1; omega), HP2, by rw [HNP.out]; exact HO4, HK3⟩
      · have bz : (c2 == (0 : Int)) = false := beq_eq_false_iff_ne.2 h0
        have HH0 := Lib.hid h0
        clear h0 HSK
        have HLP : Hid (P.length ≤ 8192) := HLEN
        by_cases hPn : P = []
        · have HPA : Hid (PInv s i1 (P ++ [(c1, c2)])) := Lib.hid (HAD.out HH0.out (fun p hp => by rw [hPn] at hp; cases hp))
          have hnp0 : P.length = 0 := by rw [hPn]; rfl
          have hpl : runC P = runC P := rfl
          obtain ⟨np, hnp⟩ : ∃ np, np = P.length := ⟨_, rfl⟩
          rw [← hnp] at HO3 hnp0 ⊢
          have HNP := Lib.hid hnp
          subst hnp0
          have v2 : IntKind.i64.wrap ((0 : Int) - 1) = -1 := rfl
          clear hnp hPn HAD HGR hpl HLP HLEN HPLN
          go_wp2_with (with_reducible refine wpList_store_named rfl _ _ _ rfl b0 #[.int .i64 c1, .int .i64 c2] rfl rfl 57 _ HR0.out HX0.out HX1.out HX2.out W3 HS.out ?_)
          refine wp_region_kept (by kernel_rfl) (by kernel_rfl) ?_
          refine wpQuiet_pure (v := ?_) (by kernel_rfl) ?_ (fun K hK => ?_)
          case refine_2 => intro W _; go_simp; try with_reducible rfl
          go_simp
          refine hK _ ?_; clear hK K
          refine wpQuiet_pure (by kernel_rfl) (.bool false) (fun W _ => by go_simp) (fun K hK => ?_)
          go_simp
          refine hK _ ?_; clear hK K
          refine wpQuiet_pure (v := ?_) (by kernel_rfl) ?_ (fun K hK => ?_)
          case refine_2 => intro W _; go_simp; try with_reducible rfl
          go_simp
          refine hK _ ?_; clear hK K
          go_big_quiet_skip
          go_big_quiet_skip
          go_big_quiet_skip
          go_big_quiet_skip
          go_big_quiet_skip
          go_big_quiet_skip
          go_big_quiet_skip
          go_big_quiet_skip
          refine wpQuiet_pure (v := ?_) (by kernel_rfl) ?_ (fun K hK => ?_)
          case refine_2 => intro W _; go_simp; try with_reducible rfl
          go_simp
          refine hK _ ?_; clear hK K
          refine wpQuiet_nil ?_
          intro w4 hk4

          have ho4 := own_stay HO3.out (fun j hj => hk4.block j (HO3.out.lt j hj).2)
          have HK4 := HK3.out.then hk4
          have q3 := hk4.cell q1
          have q4 := hk4.cell q2
          clear hk4 q1 q2
          have HOA : Hid ((w4.alloc (.cells #[.int .i64 c1, .int .i64 c2] 57)).ownsRow w1.heap.size 57 2 (.slice pv 0 cv) 0 (runC P)) := Lib.hid (ho4.alloc _)
          have HFN : Hid (FlatAt 2 1 [.int .i64 c1, .int .i64 c2] (.slice (some ⟨w4.heap.size, 0, none⟩) 1 1) (w4.alloc (.cells #[.int .i64 c1, .int .i64 c2] 57))) := Lib.hid (FlatAt.new w4 57 2 1 1 #[.int .i64 c1, .int .i64 c2] rfl (by intro x hx; simp at hx; rcases hx with rfl | rfl <;> rfl))
          have HKS : Hid (w1.heap.size ≤ w4.heap.size) := Lib.hid HK4.size
          have HEND : Hid (∀ v2 w5, w5.ownsRow w1.heap.size 57 2 v2 (0 + 1) (runC P ++ [.int .i64 c1, .int .i64 c2]) → (w4.alloc (.cells #[.int .i64 c1, .int .i64 c2] 57)).grownBy w5 (Value.slice pv 0 cv).ownBlock →
              Hid (w5.ownsRow w1.heap.size 57 2 v2 (P ++ [(c1, c2)]).length (runC (P ++ [(c1, c2)]))) ∧ Hid (Kept w1 w5)) := Lib.hid (fun v2 w5 h1 h2 => ⟨Lib.hid (by
                rw [List.length_append, runC_append, ← HNP.out]; exact h1), Lib.hid ((HK4.then (box_below w4 _)).grown h2 (Nat.le_trans HKS.out (by simp)) (fun j hj => (ho4.lt j hj).1))⟩)
          clear ho4
          go_wp2_with (at_builtin; refine wpList_append_flat rfl _ _ 22 rfl w1.heap.size 57 ir (.agg #[.int .i64 0, .int .i64 0]) 2 16 Try.underlying22 HIR.out HZ0.out HZ1.out HZ2.out rfl (by decide) _ 0 _ rfl HOA.out _ 1 _ rfl HFN.out ?wa1 ?wa2 ?wa3 ?_)
          case wa1 => unfold maxLen; omega
          case wa2 => omega
          try case wa3 => have := HKS.out; first | omega | (simp; omega)
          intro v2 w5 hown2 hgr2 _
          obtain ⟨HO5, HK5⟩ := HEND.out v2 w5 hown2 hgr2
          clear hown2 hgr2
          go_wp2
          go_roundg (n - i1)
          case measure => omega
          case rel => exact ⟨i1, P ++ [(c1, c2)], by omega, by first | rfl | (congr 1; omega), HPA, HO5, HK5⟩
        · obtain ⟨P0, ⟨x, y⟩, hPe⟩ := snoc_of hPn
          subst hPe
          have hxy := HPLN.out.nat (x, y) (by simp)
          simp only at hxy
          have hxy1 := hxy.1
          have hxy2 := hxy.2.1
          have hxy3 := hxy.2.2
          obtain ⟨m, hm⟩ : ∃ m, m = P0.length := ⟨_, rfl⟩
          obtain ⟨np, hnp⟩ : ∃ np, np = (P0 ++ [(x, y)]).length := ⟨_, rfl⟩
          have hnm : np = m + 1 := by rw [hnp, hm]; simp
          have ho := HO3.out
          have hml : m < (P0 ++ [(x, y)]).length := by rw [← hnp]; omega
          have hgc := runC_get (P0 ++ [(x, y)]) m hml
          have hlast : (P0 ++ [(x, y)])[m] = (x, y) := by simp [hm]
          rw [hlast] at hgc
          rcases ho.2 with ⟨_, e0⟩ | ⟨gp, cap, cur, hve, hbg, hgg, _, _, _, _⟩
          · simp at e0
          simp only [Value.slice.injEq] at hve
          obtain ⟨rfl, -, rfl⟩ := hve
          have e1 : W3.cell? ⟨gp, m * 2, none⟩ = some (.int .i64 x) := by rw [ho.cellAt (m * 2) (by rw [← hnp]; omega)]; exact hgc.1
          have e2 : W3.cell? ⟨gp, m * 2 + 1, none⟩ = some (.int .i64 y) := by rw [ho.cellAt (m * 2 + 1) (by rw [← hnp]; omega)]; exact hgc.2
          have HF2 : Hid (∀ W, Kept W3 W → W.frozen? ⟨gp, m * 2 + 1, none⟩ = false) := Lib.hid (fun W k => (own_stay ho (fun j hj => k.block j (ho.lt j hj).2)).frozenAt _)
          have hnp8 : np ≤ 8192 := by rw [hnp]; exact HLP.out
          have v2 : IntKind.i64.wrap ((np : Int) - 1) = (m : Int) := by rw [show (np : Int) - 1 = (m : Int) by omega]; exact IntWalk.i64_in _ (by omega)
          have i3 : (0 : Int) ≤ m := by omega
          have i4 : (m : Int) < np := by omega
          obtain ⟨z, hz⟩ : ∃ z, z = x + y := ⟨_, rfl⟩
          have EN := fun W => eend_any x y ⟨by omega, by omega⟩ W
          rw [← hz] at EN
          have hbd1 := HBD.out.1
          have hbd2 := HBD.out.2.1
          have hbd3 := HBD.out.2.2
          rw [← hnp] at ho ⊢
          have HO4 : Hid (W3.ownsRow w1.heap.size 57 2 (.slice (some ⟨gp, 0, none⟩) np cv) np (runC (P0 ++ [(x, y)]))) := Lib.hid ho
          have HNP := Lib.hid hnp
          have HZ := Lib.hid hz
          have HM := Lib.hid hm
          have HNM := Lib.hid hnm
          have HBG := Lib.hid hbg
          clear hxy hnp hnm ho hml hgc hlast hgg hPn HO3 hm hz hbg
          by_cases ht : c1 ≤ z
          · have bt : decide (c1 ≤ z) = true := decide_eq_true ht
            obtain ⟨zc, hzc⟩ : ∃ zc, zc = c1 + c2 := ⟨_, rfl⟩
            have EC := fun W => eend_any c1 c2 ⟨by omega, by omega⟩ W
            rw [← hzc] at EC
            obtain ⟨mx, hmx⟩ : ∃ mx, mx = max z zc := ⟨_, rfl⟩
            have hmr : Hid ((if zc > z then zc else z) = mx) := Lib.hid (by split <;> omega)
            obtain ⟨nl2, hnl2⟩ : ∃ nl2, nl2 = mx - x := ⟨_, rfl⟩
            have v3 : IntKind.i64.wrap (mx - x) = nl2 := by rw [hnl2]; exact IntWalk.i64_in _ (by have := HZ.out; omega)
            have HPB : Hid (PInv s i1 (P0 ++ [(x, nl2)])) := Lib.hid (by
              have := HGR.out P0 x y rfl HH0.out (by rw [← HZ.out]; exact ht)
              rw [hnl2, hmx, HZ.out, hzc]
              exact this)
            have HSET := Lib.hid (runC_grow P0 x y nl2)
            have HLL : Hid (np = (P0 ++ [(x, nl2)]).length) := Lib.hid (by rw [HNP.out]; simp)
            clear HGR HAD HPLN hzc hmx hnl2 HNP HLP HLEN
            go_wp2_with (with_reducible refine wpList_store_named rfl _ _ _ rfl b0 #[.int .i64 c1, .int .i64 c2] rfl rfl 57 _ HR0.out HX0.out HX1.out HX2.out W3 HS.out ?_)
            refine wp_region_kept (by kernel_rfl) (by kernel_rfl) ?_
            refine wpQuiet_pure (v := ?_) (by kernel_rfl) ?_ (fun K hK => ?_)
            case refine_2 => intro W _; go_simp; try with_reducible rfl
            go_simp
            refine hK _ ?_; clear hK K
            refine wpQuiet_pure (by kernel_rfl) (.bool true) (fun W _ => by go_simp) (fun K hK => ?_)
            go_simp
            refine hK _ ?_; clear hK K
            refine wpQuiet_pure (v := ?_) (by kernel_rfl) ?_ (fun K hK => ?_)
            case refine_2 => intro W _; go_simp; try with_reducible rfl
            go_simp
            refine hK _ ?_; clear hK K
            refine wpQuiet_pure (v := ?_) (by kernel_rfl) ?_ (fun K hK => ?_)
            case refine_2 => intro W _; go_simp; try with_reducible rfl
            go_simp
            refine hK _ ?_; clear hK K
            refine wpQuiet_pure (v := ?_) (by kernel_rfl) ?_ (fun K hK => ?_)
            case refine_2 => intro W hW; have e0 := hW.cell q1; go_simp; try with_reducible rfl
            go_simp
            refine hK _ ?_; clear hK K
            refine wpQuiet_pure (v := ?_) (by kernel_rfl) ?_ (fun K hK => ?_)
            case refine_2 => intro W _; go_simp; try with_reducible rfl
            go_simp
            refine hK _ ?_; clear hK K
            refine wpQuiet_pure (v := ?_) (by kernel_rfl) ?_ (fun K hK => ?_)
            case refine_2 => intro W _; go_simp; try with_reducible rfl
            go_simp
            refine hK _ ?_; clear hK K
            refine wpQuiet_pure (v := ?_) (by kernel_rfl) ?_ (fun K hK => ?_)
            case refine_2 => intro W _; go_simp; try with_reducible rfl
            go_simp
            refine hK _ ?_; clear hK K
            refine wpQuiet_pure (v := ?_) (by kernel_rfl) ?_ (fun K hK => ?_)
            case refine_2 => intro W hW; have e0 := hW.cell e1; have e1 := hW.cell e2; go_simp; try with_reducible rfl
            go_simp
            refine hK _ ?_; clear hK K
            refine wpQuiet_call (by kernel_rfl) _ _ _ (fun W => by go_simp) (fun W h => Calls.kept_of h (EN W)) (fun K hK => ?_)
            go_simp
            refine hK _ ?_; clear hK K
            refine wpQuiet_pure (v := ?_) (by kernel_rfl) ?_ (fun K hK => ?_)
            case refine_2 => intro W _; go_simp; try with_reducible rfl
            go_simp
            refine hK _ ?_; clear hK K
            refine wpQuiet_pure (v := ?_) (by kernel_rfl) ?_ (fun K hK => ?_)
            case refine_2 => intro W _; go_simp; try with_reducible rfl
            go_simp
            refine hK _ ?_; clear hK K
            refine wpQuiet_nil ?_
            intro w4 hk4

            have e3 := hk4.cell e1
            have e4 := hk4.cell e2
            have q3 := hk4.cell q1
            have q4 := hk4.cell q2
            have HK4 := Lib.hid hk4
            clear hk4 e1 e2 q1 q2
            go_wp2_with fail
            refine wp_region_kept_tail 18 (by kernel_rfl) (by decide) (by kernel_rfl) (by kernel_rfl) ?_
            simp only [List.take_succ_cons, List.take_zero, List.drop_succ_cons, List.drop_zero]
            refine wpQuiet_pure (v := ?_) (by kernel_rfl) ?_ (fun K hK => ?_)
            case refine_2 => intro W _; go_simp; try with_reducible rfl
            go_simp
            refine hK _ ?_; clear hK K
            refine wpQuiet_pure (v := ?_) (by kernel_rfl) ?_ (fun K hK => ?_)
            case refine_2 => intro W _; go_simp; try with_reducible rfl
            go_simp
            refine hK _ ?_; clear hK K
            refine wpQuiet_pure (v := ?_) (by kernel_rfl) ?_ (fun K hK => ?_)
            case refine_2 => intro W _; go_simp; try with_reducible rfl
            go_simp
            refine hK _ ?_; clear hK K
            refine wpQuiet_pure (v := ?_) (by kernel_rfl) ?_ (fun K hK => ?_)
            case refine_2 => intro W _; go_simp; try with_reducible rfl
            go_simp
            refine hK _ ?_; clear hK K
            refine wpQuiet_pure (v := ?_) (by kernel_rfl) ?_ (fun K hK => ?_)
            case refine_2 => intro W _; go_simp; try with_reducible rfl
            go_simp
            refine hK _ ?_; clear hK K
            refine wpQuiet_pure (v := ?_) (by kernel_rfl) ?_ (fun K hK => ?_)
            case refine_2 => intro W hW; have e0 := hW.cell e3; have e1 := hW.cell e4; go_simp; try with_reducible rfl
            go_simp
            refine hK _ ?_; clear hK K
            refine wpQuiet_call (by kernel_rfl) _ _ _ (fun W => by go_simp) (fun W h => Calls.kept_of h (EN W)) (fun K hK => ?_)
            go_simp
            refine hK _ ?_; clear hK K
            refine wpQuiet_pure (v := ?_) (by kernel_rfl) ?_ (fun K hK => ?_)
            case refine_2 => intro W hW; have e0 := hW.cell q3; have e1 := hW.cell q4; go_simp; try with_reducible rfl
            go_simp
            refine hK _ ?_; clear hK K
            refine wpQuiet_call (by kernel_rfl) _ _ _ (fun W => by go_simp) (fun W h => Calls.kept_of h (EC W)) (fun K hK => ?_)
            go_simp
            refine hK _ ?_; clear hK K
            refine wpQuiet_maxI (by kernel_rfl) _ _ _ _ rfl .i64 .i64 z zc mx rfl rfl hmr.out (fun K hK => ?_)
            go_simp
            refine hK _ ?_; clear hK K
            refine wpQuiet_pure (v := ?_) (by kernel_rfl) ?_ (fun K hK => ?_)
            case refine_2 => intro W _; go_simp; try with_reducible rfl
            go_simp
            refine hK _ ?_; clear hK K
            refine wpQuiet_pure (v := ?_) (by kernel_rfl) ?_ (fun K hK => ?_)
            case refine_2 => intro W _; go_simp; try with_reducible rfl
            go_simp
            refine hK _ ?_; clear hK K
            refine wpQuiet_pure (v := ?_) (by kernel_rfl) ?_ (fun K hK => ?_)
            case refine_2 => intro W _; go_simp; try with_reducible rfl
            go_simp
            refine hK _ ?_; clear hK K
            refine wpQuiet_pure (v := ?_) (by kernel_rfl) ?_ (fun K hK => ?_)
            case refine_2 => intro W _; go_simp; try with_reducible rfl
            go_simp
            refine hK _ ?_; clear hK K
            refine wpQuiet_pure (v := ?_) (by kernel_rfl) ?_ (fun K hK => ?_)
            case refine_2 => intro W hW; have e0 := hW.cell e3; go_simp; try with_reducible rfl
            go_simp
            refine hK _ ?_; clear hK K
            refine wpQuiet_pure (v := ?_) (by kernel_rfl) ?_ (fun K hK => ?_)
            case refine_2 => intro W _; go_simp; try with_reducible rfl
            go_simp
            refine hK _ ?_; clear hK K
            refine wpQuiet_pure (v := ?_) (by kernel_rfl) ?_ (fun K hK => ?_)
            case refine_2 => intro W _; go_simp; try with_reducible rfl
            go_simp
            refine hK _ ?_; clear hK K
            refine wpQuiet_pure (v := ?_) (by kernel_rfl) ?_ (fun K hK => ?_)
            case refine_2 => intro W _; go_simp; try with_reducible rfl
            go_simp
            refine hK _ ?_; clear hK K
            refine wpQuiet_nil ?_
            intro w5 hk5

            have f5 : w5.cell? ⟨gp, m * 2 + 1, none⟩ = some (.int .i64 y) := hk5.cell e4
            have HK5 := HK4.out.then hk5
            have g5 := HF2.out w5 HK5
            have ho5 := own_stay HO4.out (fun j hj => HK5.block j (HO4.out.lt j hj).2)
            have HO6 : Hid ((w5.setCell ⟨gp, m * 2 + 1, none⟩ (.int .i64 nl2)).ownsRow w1.heap.size 57 2 (.slice (some ⟨gp, 0, none⟩) np cv) (P0 ++ [(x, nl2)]).length (runC (P0 ++ [(x, nl2)]))) := Lib.hid (by
              rw [← HSET.out, ← HLL.out, ← HM.out]
              exact (ho5.stored (m * 2 + 1) _).1)
            have HK6 : Hid (Kept w1 (w5.setCell ⟨gp, m * 2 + 1, none⟩ (.int .i64 nl2))) := Lib.hid (Below.setCell (HK3.out.then HK5) HBG.out _)
            clear ho5 HK5 hk5 e3 e4 q3 q4
            go_wp2
            go_roundg (n - i1)
            case measure => omega
            case rel => exact ⟨i1, P0 ++ [(x, nl2)], by omega, by first | rfl | (congr 1; omega), HPB, HO6, HK6⟩
          · have HPA : Hid (PInv s i1 ((P0 ++ [(x, y)]) ++ [(c1, c2)])) := Lib.hid (HAD.out HH0.out (fun p hp => HPLN.out.gaps (by simp only; rw [← HZ.out]; omega) p hp))
            have bt : decide (c1 ≤ z) = false := decide_eq_false ht
            clear HGR HAD HPLN HLP HLEN HF2
            go_wp2_with (with_reducible refine wpList_store_named rfl _ _ _ rfl b0 #[.int .i64 c1, .int .i64 c2] rfl rfl 57 _ HR0.out HX0.out HX1.out HX2.out W3 HS.out ?_)
            refine wp_region_kept (by kernel_rfl) (by kernel_rfl) ?_
            refine wpQuiet_pure (v := ?_) (by kernel_rfl) ?_ (fun K hK => ?_)
            case refine_2 => intro W _; go_simp; try with_reducible rfl
            go_simp
            refine hK _ ?_; clear hK K
            refine wpQuiet_pure (by kernel_rfl) (.bool true) (fun W _ => by go_simp) (fun K hK => ?_)
            go_simp
            refine hK _ ?_; clear hK K
            refine wpQuiet_pure (v := ?_) (by kernel_rfl) ?_ (fun K hK => ?_)
            case refine_2 => intro W _; go_simp; try with_reducible rfl
            go_simp
            refine hK _ ?_; clear hK K
            refine wpQuiet_pure (v := ?_) (by kernel_rfl) ?_ (fun K hK => ?_)
            case refine_2 => intro W _; go_simp; try with_reducible rfl
            go_simp
            refine hK _ ?_; clear hK K
            refine wpQuiet_pure (v := ?_) (by kernel_rfl) ?_ (fun K hK => ?_)
            case refine_2 => intro W hW; have e0 := hW.cell q1; go_simp; try with_reducible rfl
            go_simp
            refine hK _ ?_; clear hK K
            refine wpQuiet_pure (v := ?_) (by kernel_rfl) ?_ (fun K hK => ?_)
            case refine_2 => intro W _; go_simp; try with_reducible rfl
            go_simp
            refine hK _ ?_; clear hK K
            refine wpQuiet_pure (v := ?_) (by kernel_rfl) ?_ (fun K hK => ?_)
            case refine_2 => intro W _; go_simp; try with_reducible rfl
            go_simp
            refine hK _ ?_; clear hK K
            refine wpQuiet_pure (v := ?_) (by kernel_rfl) ?_ (fun K hK => ?_)
            case refine_2 => intro W _; go_simp; try with_reducible rfl
            go_simp
            refine hK _ ?_; clear hK K
            refine wpQuiet_pure (v := ?_) (by kernel_rfl) ?_ (fun K hK => ?_)
            case refine_2 => intro W hW; have e0 := hW.cell e1; have e1 := hW.cell e2; go_simp; try with_reducible rfl
            go_simp
            refine hK _ ?_; clear hK K
            refine wpQuiet_call (by kernel_rfl) _ _ _ (fun W => by go_simp) (fun W h => Calls.kept_of h (EN W)) (fun K hK => ?_)
            go_simp
            refine hK _ ?_; clear hK K
            refine wpQuiet_pure (v := ?_) (by kernel_rfl) ?_ (fun K hK => ?_)
            case refine_2 => intro W _; go_simp; try with_reducible rfl
            go_simp
            refine hK _ ?_; clear hK K
            refine wpQuiet_pure (v := ?_) (by kernel_rfl) ?_ (fun K hK => ?_)
            case refine_2 => intro W _; go_simp; try with_reducible rfl
            go_simp
            refine hK _ ?_; clear hK K
            refine wpQuiet_nil ?_
            intro w4 hk4

            have ho4 := own_stay HO4.out (fun j hj => hk4.block j (HO4.out.lt j hj).2)
            have HK4 := HK3.out.then hk4
            have q3 := hk4.cell q1
            have q4 := hk4.cell q2
            clear hk4 q1 q2 e1 e2
            have HOA : Hid ((w4.alloc (.cells #[.int .i64 c1, .int .i64 c2] 57)).ownsRow w1.heap.size 57 2 (.slice (some ⟨gp, 0, none⟩) np cv) np (runC (P0 ++ [(x, y)]))) := Lib.hid (ho4.alloc _)
            have HFN : Hid (FlatAt 2 1 [.int .i64 c1, .int .i64 c2] (.slice (some ⟨w4.heap.size, 0, none⟩) 1 1) (w4.alloc (.cells #[.int .i64 c1, .int .i64 c2] 57))) := Lib.hid (FlatAt.new w4 57 2 1 1 #[.int .i64 c1, .int .i64 c2] rfl (by intro x hx; simp at hx; rcases hx with rfl | rfl <;> rfl))
            have HKS : Hid (w1.heap.size ≤ w4.heap.size) := Lib.hid HK4.size
            have HEND : Hid (∀ v2 w5, w5.ownsRow w1.heap.size 57 2 v2 (np + 1) (runC (P0 ++ [(x, y)]) ++ [.int .i64 c1, .int .i64 c2]) → (w4.alloc (.cells #[.int .i64 c1, .int .i64 c2] 57)).grownBy w5 (Value.slice (some ⟨gp, 0, none⟩) np cv).ownBlock →
                Hid (w5.ownsRow w1.heap.size 57 2 v2 ((P0 ++ [(x, y)]) ++ [(c1, c2)]).length (runC ((P0 ++ [(x, y)]) ++ [(c1, c2)]))) ∧ Hid (Kept w1 w5)) := Lib.hid (fun v2 w5 h1 h2 => ⟨Lib.hid (by
                  rw [List.length_append, runC_append, ← HNP.out]; exact h1), Lib.hid ((HK4.then (box_below w4 _)).grown h2 (Nat.le_trans HKS.out (by simp)) (fun j hj => (ho4.lt j hj).1))⟩)
            clear ho4
            go_wp2_with (at_builtin; refine wpList_append_flat rfl _ _ 22 rfl w1.heap.size 57 ir (.agg #[.int .i64 0, .int .i64 0]) 2 16 Try.underlying22 HIR.out HZ0.out HZ1.out HZ2.out rfl (by decide) _ np _ rfl HOA.out _ 1 _ rfl HFN.out ?wa1 ?wa2 ?wa3 ?_)
            case wa1 => unfold maxLen; omega
            case wa2 => omega
            try case wa3 => have := HKS.out; first | omega | (simp; omega)
            intro v2 w5 hown2 hgr2 _
            obtain ⟨HO5, HK5⟩ := HEND.out v2 w5 hown2 hgr2
            clear hown2 hgr2
            go_wp2
            go_roundg (n - i1)
            case measure => omega
            case rel => exact ⟨i1, (P0 ++ [(x, y)]) ++ [(c1, c2)], by omega, by first | rfl | (congr 1; omega), HPA, HO5, HK5⟩
    · have hki : ¬ (i : Int) < n := by omega
      have bk : decide ((i : Int) < (n : Int)) = false := by simpa using hki
      have hie : i = s.length := by rw [← HN.out]; omega
      have hpd := HP.out
      rw [hie] at hpd
      have hPe := hpd.done HPM.out
      have HE : Hid (OwnRuns w.heap.size (runsA (hasR l)) (.slice pv P.length cv) wr) := Lib.hid (by
        rw [← hPe]
        exact OwnRuns.base HO.out HB1.out.size)
      have HKE : Hid (Kept w wr) := Lib.hid ((show Kept w w1 from HB1.out).then HK.out)
      obtain ⟨np, hnp⟩ : ∃ np, np = P.length := ⟨_, rfl⟩
      rw [← hnp] at HE ⊢
      clear hie hpd hPe hnp
      go_wp2
      go_ret
      exact ⟨_, rfl, HE.out, HKE.out⟩

end Go.Proofs.Ytkdodffnakdckaa
