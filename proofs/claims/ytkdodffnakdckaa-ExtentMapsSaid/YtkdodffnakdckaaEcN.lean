/- The landed extent's Lowest. -/
import Derived.Test.YtkdodffnakdckaaEcL
namespace Go.Proofs.Ytkdodffnakdckaa
open Go.RowKit

theorem wpList_minI {P : Program} {ops : Array Oper} {rest : List Oper} {o : Oper} {a : Act} {w : World} {Q : Exit → Act → World → Prop} (hgd : o.guard = none) (x y : Operand) (t u : TypeId)
    (ho : o.op = .call { callee := .builtin .min, args := #[x, y], argTypes := #[t, u] }) (k k' : IntKind) (m n r : Int) (hx : a.eval x = .int k m) (hy : a.eval y = .int k' n) (hr : (if n < m then n else m) = r)
    (h : wpList P ops Q rest (a.put o.dst (.int k r)) w) : wpList P ops Q (o :: rest) a w := by
  refine wpList_plain hgd fun K hK => ?_
  subst hr
  unfold Oper.wp execOp
  simp only [ho, resolve, invoke, builtin, Sem.run_bind, Sem.run_pure, Result.andThen_ok, List.map_toArray, List.map_cons, List.map_nil, hx, hy, run_min_int2]
  exact hK _ _ h

set_option maxRecDepth 100000 in
set_option maxHeartbeats 8000000 in
theorem elowest_any (l : List (Int × Int)) (v : Value) (w : World) (n0 : Int) (h : RunsAt l v w) (hl : l.length ≤ 1048576) (hn0 : I64 n0) :
    Calls Try.prog 26 #[v, .int .i64 n0] w fun e w' => ∃ x, e = .returned (.tuple #[x, .int .i64 (lowE (hasR l) n0)]) ∧ OwnRuns w.heap.size (lowL (hasR l) n0) x w' ∧ Below w.heap.size w w' := by
  obtain ⟨ir, hir, hx⟩ := Option.map_eq_some_iff.1 infoRun
  simp only [Prod.mk.injEq] at hx
  obtain ⟨hz0, hz1, hz2⟩ := hx
  have HIR := Lib.hid hir
  have HZ0 := Lib.hid hz0
  have HZ1 := Lib.hid hz1
  have HZ2 := Lib.hid hz2
  have HFI : Hid ((Try.prog.info? 57).map (·.size) = some 2) := Lib.hid (by rw [hir]; simp [hz1])
  clear hir hz0 hz1 hz2
  have PL := eplain_any l v w h hl
  obtain ⟨p, c, rfl, -, -⟩ := h.out
  obtain ⟨nl, hnl⟩ : ∃ nl, nl = l.length := ⟨_, rfl⟩
  rw [← hnl] at PL ⊢
  obtain ⟨f, hf⟩ : ∃ f, f = hasR l := ⟨_, rfl⟩
  rw [← hf] at PL ⊢
  clear h hl hnl hf
  by_cases hneg : n0 < 0
  · have HEL : Hid (lowE f n0 = 1) := Lib.hid (by unfold lowE; rw [if_pos hneg])
    have HLL : Hid (lowL f n0 = []) := Lib.hid (by unfold lowL; rw [HEL.out, if_neg (by decide)])
    clear PL
    go_enter Try.func26, Try.ntmps26
    go_wp2
    go_ret2
    exact ⟨_, by rw [HEL.out]; rfl, by rw [HLL.out]; exact World.ownsRow_nil _ _ _ _, Below.refl _ _⟩
  · have HN0 : Hid (0 ≤ n0) := Lib.hid (by omega)
    have HI0 := Lib.hid hn0
    have HPP : Hid (PlainL (runsA f)) := Lib.hid (runsA_plain _)
    have hplen := runsA_len f
    obtain ⟨P, hP⟩ : ∃ P, P = runsA f := ⟨_, rfl⟩
    rw [← hP] at PL HPP hplen
    have HPF := Lib.hid hP
    clear hP hn0
    go_enter Try.func26, Try.ntmps26
    go_wp2_with fail
    refine PL.mono ?_
    rintro e w1 ⟨u, rfl, ho, hb1⟩
    obtain ⟨pu, cu, rfl, hcu, hcell⟩ := own_slice ho
    obtain ⟨n, hn⟩ : ∃ n, n = P.length := ⟨_, rfl⟩
    rw [← hn] at hcu hplen ⊢
    have HC := Lib.hid hcell
    have HN := Lib.hid hn
    have HB1 := Lib.hid hb1
    have L0 : Hid (LInv P n0 0 [] n0) := Lib.hid (LInv.zero P HPP.out n0 HN0.out)
    have O0 : Hid (w1.ownsRow w1.heap.size 57 2 (.slice none 0 0) ([] : List (Int × Int)).length (runC [])) := Lib.hid (World.ownsRow_nil _ _ _ _)
    clear PL ho hcell hn hb1
    go_wp2
    go_loopg [1, 6, 14] n (fun gh s1 s6 s14 wx => ∃ (i : Nat) (m : Int) (L : List (Int × Int)), i + gh = n ∧ s14 = .int .i64 i ∧ s1 = .int .i64 m ∧ Hid (LInv P n0 i L m) ∧ Hid (wx.ownsRow w1.heap.size 57 2 s6 L.length (runC L)) ∧ Hid (Kept w1 wx))
    case atStart => exact ⟨0, n0, [], by omega, rfl, rfl, L0, O0, Lib.hid (Kept.refl w1)⟩
    case round =>
      clear L0 O0
      obtain ⟨i, m, L, hi, rfl, rfl, HLI, HO, HK⟩ := hrel
      obtain ⟨i1, hi1⟩ : ∃ i1, i1 = i + 1 := ⟨_, rfl⟩
      have v1 : IntKind.i64.wrap ((i : Int) + 1) = (i1 : Int) := by rw [show (i : Int) + 1 = (i1 : Int) by omega]; exact IntWalk.i64_in _ (by omega)
      obtain ⟨pv, cv, hv, hcv, -⟩ := own_slice HO.out
      subst hv
      by_cases hin : i < n
      · have hki : (i : Int) < n := by omega
        have bk : decide ((i : Int) < (n : Int)) = true := by simpa using hki
        have hki0 : (0 : Int) ≤ i := by omega
        have hil : i < P.length := by rw [← HN.out]; exact hin
        rcases HC.out with h0 | ⟨g, rfl, hgb, hcell⟩
        · omega
        have hgc := runC_get P i hil
        have d1 := HK.out.cell (hcell _ _ hgc.1)
        have d2 := HK.out.cell (hcell _ _ hgc.2)
        have HST : Hid (m ≠ 0 → LInv P n0 (i + 1) (L ++ [(P[i].1, min P[i].2 m)]) (m - min P[i].2 m)) := Lib.hid (fun hm => LInv.step HPP.out HLI.out hil hm)
        have hpos := HLI.out.pos
        have hnat := HPP.out.nat _ (List.getElem_mem hil)
        have hll := HLI.out.len
        obtain ⟨r, hr⟩ : ∃ r, r = P[i] := ⟨_, rfl⟩
        rw [← hr] at d1 d2 HST hnat
        obtain ⟨x, y⟩ := r
        simp only at d1 d2 HST hnat
        have hx1 := hnat.1
        have hy1 := hnat.2.1
        have hxy := hnat.2.2
        rw [← hi1] at HST
        obtain ⟨np, hnp⟩ : ∃ np, np = L.length := ⟨_, rfl⟩
        have ho := HO.out
        rw [← hnp] at ho hll ⊢
        have HNP := Lib.hid hnp
        clear hgc hr hcell hgb hnat hnp HO hil
        have HKW : Hid (Kept w1 (wr.alloc (.cells #[.int .i64 x, .int .i64 y] 57))) := Lib.hid (HK.out.then (box_below wr _))
        by_cases hm : m = 0
        · have HFIN : Hid (m = 0 ∨ i = P.length) := Lib.hid (Or.inl hm)
          have hob := own_stay ho (w' := (wr.alloc (.cells #[.int .i64 x, .int .i64 y] 57))) (fun j hj => (box_below wr _).block j (ho.lt j hj).2)
          have HOE : Hid (OwnRuns w.heap.size L (.slice pv np cv) (wr.alloc (.cells #[.int .i64 x, .int .i64 y] 57))) := Lib.hid (by
            show World.ownsRow _ _ _ _ _ L.length _
            rw [← HNP.out]; exact own_base hob HB1.out.size)
          have HKE : Hid (Kept w (wr.alloc (.cells #[.int .i64 x, .int .i64 y] 57))) := Lib.hid ((show Kept w w1 from HB1.out).then HKW.out)
          subst hm
          clear ho hob HST hpos
          have HDN := Lib.hid (LInv.done HPP.out HLI.out f HPF.out HN0.out HFIN.out)
          have HD1 := Lib.hid (HDN.out.1 rfl)
          by_cases hbig : np > 16
          · have hbi : (np : Int) > 16 := by omega
            have bbi : decide ((np : Int) > 16) = true := decide_eq_true hbi
            have HEL : Hid (lowE f n0 = 100) := Lib.hid (by
              unfold lowE
              rw [if_neg (by have := HN0.out; omega), if_pos (Or.inr (by rw [← HD1.out.2, ← HNP.out]; exact hbig))])
            have HLL : Hid (lowL f n0 = []) := Lib.hid (by unfold lowL; rw [HEL.out, if_neg (by decide)])
            clear hbig HDN
            go_wp2
            go_ret2
            exact ⟨_, by rw [HEL.out]; rfl, by rw [HLL.out]; exact World.ownsRow_nil _ _ _ _, HKE.out⟩
          · have hbi : ¬ (np : Int) > 16 := by omega
            have bbi : decide ((np : Int) > 16) = false := decide_eq_false hbi
            have HEL : Hid (lowE f n0 = 0) := Lib.hid (by
              unfold lowE
              rw [if_neg (by have := HN0.out; omega), if_neg (fun hh => by
                rcases hh with h1 | h1
                · have := HD1.out.1; omega
                · rw [← HD1.out.2, ← HNP.out] at h1; exact hbig h1)])
            have HLL : Hid (lowL f n0 = L) := Lib.hid (by unfold lowL; rw [HEL.out, if_pos rfl]; exact HD1.out.2.symm)
            clear hbig HDN
            go_wp2
            go_ret2
            exact ⟨_, by rw [HEL.out]; rfl, by rw [HLL.out]; exact HOE.out, HKE.out⟩
        · have bm0 : (m == (0 : Int)) = false := beq_eq_false_iff_ne.2 hm
          obtain ⟨kq, hk⟩ : ∃ kq, kq = min y m := ⟨_, rfl⟩
          have hmr : Hid ((if m < y then m else y) = kq) := Lib.hid (by split <;> omega)
          obtain ⟨m2, hm2⟩ : ∃ m2, m2 = m - kq := ⟨_, rfl⟩
          have HST2 : Hid (LInv P n0 i1 (L ++ [(x, kq)]) m2) := Lib.hid (by rw [hm2, hk]; exact HST.out hm)
          have vm : IntKind.i64.wrap (m - kq) = m2 := by rw [hm2]; exact IntWalk.i64_in _ (by have h1 := HLI.out.sum; have h2 := HLI.out.pl.sum_le; have := HI0.out.2; omega)
          have hob : Hid ((Value.slice pv np cv).ownBlock ≠ some wr.heap.size) := Lib.hid (fun e => Nat.lt_irrefl _ (ho.lt _ e).2)
          have K4 : Kept w1 (wr.alloc (.cells #[.int .i64 x, .int .i64 kq] 57)) := HK.out.then (box_below wr _)
          have ho4 := ho.alloc (.cells #[.int .i64 x, .int .i64 kq] 57)
          have g0 : Hid ((wr.alloc (.cells #[.int .i64 x, .int .i64 kq] 57)).heap[wr.heap.size]? = some (.cells #[.int .i64 x, .int .i64 kq] 57 (0, 0))) := Lib.hid (heap_alloc_last wr _)
          clear ho HST HKW hk hm2 hm hpos
          have HOA : Hid (((wr.alloc (.cells #[.int .i64 x, .int .i64 kq] 57)).alloc (.cells #[.int .i64 x, .int .i64 kq] 57)).ownsRow w1.heap.size 57 2 (.slice pv np cv) np (runC L)) := Lib.hid (ho4.alloc _)
          have HFN : Hid (FlatAt 2 1 [.int .i64 x, .int .i64 kq] (.slice (some ⟨wr.heap.size + 1, 0, none⟩) 1 1) ((wr.alloc (.cells #[.int .i64 x, .int .i64 kq] 57)).alloc (.cells #[.int .i64 x, .int .i64 kq] 57))) := Lib.hid (by have h := FlatAt.new (wr.alloc (.cells #[.int .i64 x, .int .i64 kq] 57)) 57 2 1 1 #[.int .i64 x, .int .i64 kq] rfl (by intro x hx; simp at hx; rcases hx with rfl | rfl <;> rfl); rw [show (wr.alloc (.cells #[.int .i64 x, .int .i64 kq] 57)).heap.size = wr.heap.size + 1 from by simp] at h; exact h)
          have HKS : Hid (w1.heap.size ≤ (wr.alloc (.cells #[.int .i64 x, .int .i64 kq] 57)).heap.size) := Lib.hid (by have := (K4).size; first | exact this | (simp at this ⊢; omega))
          have HEND : Hid (∀ v2 wz, wz.ownsRow w1.heap.size 57 2 v2 (np + 1) (runC L ++ [.int .i64 x, .int .i64 kq]) → ((wr.alloc (.cells #[.int .i64 x, .int .i64 kq] 57)).alloc (.cells #[.int .i64 x, .int .i64 kq] 57)).grownBy wz (Value.slice pv np cv).ownBlock →
              Hid (wz.ownsRow w1.heap.size 57 2 v2 (L ++ [(x, kq)]).length (runC (L ++ [(x, kq)]))) ∧ Hid (Kept w1 wz) ∧ Hid (∀ k, k < (wr.alloc (.cells #[.int .i64 x, .int .i64 kq] 57)).heap.size → (Value.slice pv np cv).ownBlock ≠ some k → wz.heap[k]? = (wr.alloc (.cells #[.int .i64 x, .int .i64 kq] 57)).heap[k]?)) := Lib.hid (fun v2 wz h1 h2 => ⟨Lib.hid (by
                rw [List.length_append, runC_append, ← HNP.out]; exact h1), Lib.hid (((K4).then (box_below (wr.alloc (.cells #[.int .i64 x, .int .i64 kq] 57)) _)).grown h2 (Nat.le_trans HKS.out (by simp)) (fun j hj => (ho4.lt j hj).1)), Lib.hid (fun k hk hne => (h2.block k (Nat.lt_of_lt_of_le hk (box_below (wr.alloc (.cells #[.int .i64 x, .int .i64 kq] 57)) _).size) (by first | exact hne | exact fun e => hne e.symm)).trans ((box_below (wr.alloc (.cells #[.int .i64 x, .int .i64 kq] 57)) _).block k hk))⟩)
          clear ho4
          go_wp2_with (first | (with_reducible refine wpList_minI rfl _ _ _ _ rfl .i64 .i64 y m kq rfl rfl hmr.out ?_) | (at_builtin; refine wpList_append_flat rfl _ _ 22 rfl w1.heap.size 57 ir (.agg #[.int .i64 0, .int .i64 0]) 2 16 Try.underlying22 HIR.out HZ0.out HZ1.out HZ2.out rfl (by decide) _ np _ rfl HOA.out _ 1 _ rfl HFN.out ?wa1 ?wa2 ?wa3 ?_))
          case wa1 => unfold maxLen; omega
          case wa2 => omega
          try case wa3 => have := HKS.out; first | omega | (simp; omega) | (simp at this ⊢; omega)
          intro v2 w6 hown2 hgr2 _
          obtain ⟨HO5, HK5, HBK5⟩ := HEND.out v2 w6 hown2 hgr2
          clear hown2 hgr2 HEND HOA HFN HKS
          have r6 := (HBK5.out wr.heap.size (by simp) hob.out).trans g0.out
          have q3 : w6.cell? ⟨wr.heap.size, 0, none⟩ = some (.int .i64 x) := by rw [cell_of_row _ _ _ _ _ _ r6]; rfl
          have q4 : w6.cell? ⟨wr.heap.size, 1, none⟩ = some (.int .i64 kq) := by rw [cell_of_row _ _ _ _ _ _ r6]; rfl
          clear r6 K4 HBK5
          go_wp2
          go_roundg (n - i1)
          case measure => omega
          case rel => exact ⟨i1, m2, L ++ [(x, kq)], by omega, by first | rfl | (congr 1; omega), rfl, HST2, HO5, HK5⟩
      · have hki : ¬ (i : Int) < n := by omega
        have bk : decide ((i : Int) < (n : Int)) = false := by simpa using hki
        have HFIN : Hid (m = 0 ∨ i = P.length) := Lib.hid (Or.inr (by rw [← HN.out]; omega))
        have HKE : Hid (Kept w wr) := Lib.hid ((show Kept w w1 from HB1.out).then HK.out)
        obtain ⟨np, hnp⟩ : ∃ np, np = L.length := ⟨_, rfl⟩
        have HOE : Hid (OwnRuns w.heap.size L (.slice pv np cv) wr) := Lib.hid (by
          rw [hnp]; exact OwnRuns.base HO.out HB1.out.size)
        rw [← hnp]
        have HNP := Lib.hid hnp
        clear hnp HO
        have HDN := Lib.hid (LInv.done HPP.out HLI.out f HPF.out HN0.out HFIN.out)
        by_cases hm0 : m = 0
        · have HD1 := Lib.hid (HDN.out.1 hm0)
          by_cases hbig : np > 16
          · have hbi : (np : Int) > 16 := by omega
            have bbi : decide ((np : Int) > 16) = true := decide_eq_true hbi
            have HEL : Hid (lowE f n0 = 100) := Lib.hid (by
              unfold lowE
              rw [if_neg (by have := HN0.out; omega), if_pos (Or.inr (by rw [← HD1.out.2, ← HNP.out]; exact hbig))])
            have HLL : Hid (lowL f n0 = []) := Lib.hid (by unfold lowL; rw [HEL.out, if_neg (by decide)])
            have bm : decide (m > 0) = false := decide_eq_false (by omega)
            have hm1 : ¬ m > 0 := by omega
            clear hm0 hbig HDN
            go_wp2
            go_ret2
            exact ⟨_, by rw [HEL.out]; rfl, by rw [HLL.out]; exact World.ownsRow_nil _ _ _ _, HKE.out⟩
          · have hbi : ¬ (np : Int) > 16 := by omega
            have bbi : decide ((np : Int) > 16) = false := decide_eq_false hbi
            have HEL : Hid (lowE f n0 = 0) := Lib.hid (by
              unfold lowE
              rw [if_neg (by have := HN0.out; omega), if_neg (fun hh => by
                rcases hh with h1 | h1
                · have := HD1.out.1; omega
                · rw [← HD1.out.2, ← HNP.out] at h1; exact hbig h1)])
            have HLL : Hid (lowL f n0 = L) := Lib.hid (by unfold lowL; rw [HEL.out, if_pos rfl]; exact HD1.out.2.symm)
            have bm : decide (m > 0) = false := decide_eq_false (by omega)
            have hm1 : ¬ m > 0 := by omega
            clear hm0 hbig HDN
            go_wp2
            go_ret2
            exact ⟨_, by rw [HEL.out]; rfl, by rw [HLL.out]; exact HOE.out, HKE.out⟩
        · have HD1 := Lib.hid (HDN.out.2 hm0)
          have HEL : Hid (lowE f n0 = 100) := Lib.hid (by
            unfold lowE
            rw [if_neg (by have := HN0.out; omega), if_pos (Or.inl HD1.out)])
          have HLL : Hid (lowL f n0 = []) := Lib.hid (by unfold lowL; rw [HEL.out, if_neg (by decide)])
          have hm1 : m > 0 := by have := HLI.out.pos; omega
          have bm : decide (m > 0) = true := decide_eq_true hm1
          clear hm0 HDN
          go_wp2
          go_ret2
          exact ⟨_, by rw [HEL.out]; rfl, by rw [HLL.out]; exact World.ownsRow_nil _ _ _ _, HKE.out⟩

end Go.Proofs.Ytkdodffnakdckaa
