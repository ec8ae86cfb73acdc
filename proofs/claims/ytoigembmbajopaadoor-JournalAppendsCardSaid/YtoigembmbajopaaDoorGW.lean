/- The landed journal's reader of runs. The landed journal's reader of a record. -/
import Derived.Test.YtoigembmbajopaaDoorJpM
import Derived.Test.YtoigembmbajopaaDoorGV
import Derived.Test.YtoigembmbajopaaDoorGF
import Derived.Test.YtoigembmbajopaaDoorGD
namespace Go.Proofs.YtoigembmbajopaaDoor
open Go.RowKit

theorem wpList_minJ {P : Program} {ops : Array Oper} {rest : List Oper} {o : Oper} {a : Act} {w : World} {Q : Exit → Act → World → Prop} (hgd : o.guard = none) (x y : Operand) (t u : TypeId)
    (ho : o.op = .call { callee := .builtin .min, args := #[x, y], argTypes := #[t, u] }) (k k' : IntKind) (m n r : Int) (hx : a.eval x = .int k m) (hy : a.eval y = .int k' n) (hr : (if n < m then n else m) = r)
    (h : wpList P ops Q rest (a.put o.dst (.int k r)) w) : wpList P ops Q (o :: rest) a w := by
  refine wpList_plain hgd fun K hK => ?_
  subst hr
  unfold Oper.wp execOp
  simp only [ho, resolve, invoke, builtin, Sem.run_bind, Sem.run_pure, Result.andThen_ok, List.map_toArray, List.map_cons, List.map_nil, hx, hy, run_min_int2]
  exact hK _ _ h

/-- A reader, and the box of a recordReader over it. -/
structure RJ (w0 : World) (b bx : Nat) (s : RdSt) (w : World) : Prop where
  grj : w0.grownBy w (some b)
  rdj : RdAt b s w
  rxj : w.heap[bx]? = some (.cells #[.pointer (some ⟨b, 0, none⟩)] 99 (0, 0))
theorem RJ.read {w0 : World} {b bx : Nat} {s s' : RdSt} {w w' : World} (h : RJ w0 b bx s w) (hne : bx ≠ b) (hr : RdAt b s' w') (hg : w.grownBy w' (some b)) : RJ w0 b bx s' w' where
  grj := grown_trans h.grj hg
  rdj := hr
  rxj := by rw [hg.block bx (Array.getElem?_eq_some_iff.1 h.rxj).1 (fun e => hne (Option.some.inj e))]; exact h.rxj
theorem RJ.kept {w0 : World} {b bx : Nat} {s : RdSt} {w w' : World} (h : RJ w0 b bx s w) (k : Kept w w') : RJ w0 b bx s w' where
  grj := grown_trans h.grj (grown_below k _)
  rdj := k.row h.rdj
  rxj := k.row h.rxj
theorem RJ.own {w0 : World} {b bx : Nat} {s : RdSt} {w w' : World} (h : RJ w0 b bx s w) {base n : Nat} {v : Value} {xs : List Value} {T : TypeId} {sz : Nat} (hb : b < base) (hx : bx < base) (h0 : w0.heap.size ≤ base) (ho : w.ownsRow base T sz v n xs) (hg : w.grownBy w' v.ownBlock) : RJ w0 b bx s w' where
  grj := ⟨hg.os.trans h.grj.os, hg.tape.trans h.grj.tape, hg.output.trans h.grj.output, Nat.le_trans h.grj.size hg.size, fun k hk hn => by
    rw [hg.block k (Nat.lt_of_lt_of_le hk h.grj.size) (fun e => by have := (ho.lt k e.symm).1; omega)]
    exact h.grj.block k hk hn⟩
  rdj := by
    have hl := h.rdj.lt
    have hr := h.rdj
    unfold RdAt at *
    rw [hg.block b hl (fun e => by have := (ho.lt b e.symm).1; omega)]
    exact hr
  rxj := by rw [hg.block bx (Array.getElem?_eq_some_iff.1 h.rxj).1 (fun e => by have := (ho.lt bx e.symm).1; omega)]; exact h.rxj
theorem RJ.cx {w0 : World} {b bx : Nat} {s : RdSt} {w : World} (h : RJ w0 b bx s w) : w.cell? ⟨bx, 0, none⟩ = some (.pointer (some ⟨b, 0, none⟩)) := by rw [cell_of_row _ _ _ _ _ _ h.rxj]; rfl

theorem ju16 (b : Nat) (s : RdSt) (w : World) (h : RdAt b s w) (hl : s.1.length ≤ 1000000) (n : Nat) (hn : n = (numR s 2).1) (t : RdSt) (ht : t = (numR s 2).2) :
    Calls Tryd.prog 113 #[.pointer (some ⟨b, 0, none⟩)] w (RdPost b (.int .u16 n) t w) := by
  subst hn ht; exact u16r_any b s w h hl
theorem runsL_short : ∀ (k : Nat) (s : RdSt) (acc : List (Int × Int)), (runsL k s acc).2.1.length ≤ s.1.length
  | 0, _, _ => Nat.le_refl _
  | k + 1, s, acc => by
    unfold runsL
    exact Nat.le_trans (runsL_short k _ _) (Nat.le_trans (numR_short _ _) (numR_short _ _))
theorem runsL_wf : ∀ (k : Nat) (s : RdSt) (acc : List (Int × Int)), wfR acc → wfR (runsL k s acc).1
  | 0, _, _, h => h
  | k + 1, s, acc, h => by
    unfold runsL
    refine runsL_wf k _ _ fun r hr => ?_
    rcases List.mem_append.1 hr with x | x
    · exact h r x
    · rw [List.mem_singleton.1 x]
      have h1 := numR_lt s 2
      have h2 := numR_lt (numR s 2).2 2
      simp only
      omega
theorem wrap_u16' {n : Nat} (h : n < 65536) : IntKind.u16.wrap (n : Int) = (n : Int) := wrap_u16 h

/-- What runs returns. -/
def JRunsPost (b : Nat) (s : RdSt) (w : World) (e : Ending) (w' : World) : Prop :=
  ∃ v, e = .returned v ∧ OwnRuns w.heap.size (runsLd s).1 v w' ∧ RdAt b (runsLd s).2 w' ∧ w.grownBy w' (some b)

set_option maxRecDepth 100000 in
set_option maxHeartbeats 8000000 in
theorem jrdRuns_any (b : Nat) (s : RdSt) (w : World) (h : RdAt b s w) (hl : s.1.length ≤ 1000000) :
    Calls Tryd.prog 122 #[.agg #[.pointer (some ⟨b, 0, none⟩)]] w (JRunsPost b s w) := by
  obtain ⟨ir, hir, hzz⟩ := Option.map_eq_some_iff.1 infoRunJ
  simp only [Prod.mk.injEq] at hzz
  obtain ⟨hz0, hz1, hz2⟩ := hzz
  have HIR := Lib.hid hir
  have HZ0 := Lib.hid hz0
  have HZ1 := Lib.hid hz1
  have HZ2 := Lib.hid hz2
  have hblt := h.lt
  obtain ⟨W0, hW0⟩ : ∃ W0, W0 = w.alloc (.cells #[.pointer (some ⟨b, 0, none⟩)] 99) := ⟨_, rfl⟩
  have HI0 : Hid (RJ w b w.heap.size s W0) := Lib.hid (by
    rw [hW0]
    exact ⟨grown_below (box_below _ _) _, Kept.row (box_below _ _) h, heap_alloc_last w _⟩)
  have HSZ0 : Hid (W0.heap.size = w.heap.size + 1) := Lib.hid (by rw [hW0]; simp)
  have HW0 := Lib.hid hW0
  have HNE : Hid (w.heap.size ≠ b ∧ b < w.heap.size) := Lib.hid (by omega)
  obtain ⟨n0, hn0⟩ : ∃ n, n = (numR s 2).1 := ⟨_, rfl⟩
  obtain ⟨s1, hs1⟩ : ∃ t, t = (numR s 2).2 := ⟨_, rfl⟩
  have C1 := ju16 b s W0 HI0.out.rdj hl n0 hn0 s1 hs1
  have hn16 : n0 < 65536 := by rw [hn0]; exact numR_lt s 2
  have hsl : s1.1.length ≤ 1000000 := by rw [hs1]; exact Nat.le_trans (numR_short _ _) hl
  obtain ⟨N, hN⟩ : ∃ N, N = min n0 17 := ⟨_, rfl⟩
  obtain ⟨FIN, hFIN⟩ : ∃ F, F = runsL N s1 [] := ⟨_, rfl⟩
  have HP : Hid (JRunsPost b s w = fun e w' => ∃ v, e = .returned v ∧ OwnRuns w.heap.size FIN.1 v w' ∧ RdAt b FIN.2 w' ∧ w.grownBy w' (some b)) := Lib.hid (by
    funext e w'
    unfold JRunsPost runsLd
    rw [← hn0, ← hs1, ← hN, ← hFIN])
  have hN17 : N ≤ 17 := by omega
  have HMN : Hid ((if (17 : Int) < (n0 : Int) then (17 : Int) else (n0 : Int)) = N) := Lib.hid (by split <;> omega)
  have HFIN : Hid (runsL N s1 [] = FIN) := Lib.hid hFIN.symm
  have HL1 := Lib.hid hsl
  rw [HP.out]
  clear hir hz0 hz1 hz2 h hl hblt hW0 hn0 hs1 hn16 hsl hN hFIN
  go_enter Tryd.func122, Tryd.ntmps122
  go_wp2_with fail
  rw [← HW0.out]
  refine C1.mono ?_
  rintro e w1 ⟨rfl, hr1, hg1⟩
  have HI1 := Lib.hid (HI0.out.read HNE.out.1 hr1 hg1)
  have HSZ1 : Hid (w.heap.size + 1 ≤ w1.heap.size) := Lib.hid (by have := hg1.size; have := HSZ0.out; omega)
  have OW0 : Hid (w1.ownsRow (w.heap.size + 1) 83 2 (.slice none 0 0) 0 (runC [])) := Lib.hid (World.ownsRow_nil _ _ _ _)
  clear hr1 hg1 C1 HI0 HSZ0
  go_wp2_with (with_reducible refine wpList_minJ rfl _ _ _ _ rfl .u16 .u16 n0 17 N rfl rfl HMN.out ?_)
  go_loopg [3, 9] N (fun gh s3 s9 wx => ∃ (k : Nat) (A : List (Int × Int)) (t : RdSt), k + gh = N ∧ s9 = .int .u16 k ∧ Hid (A.length = k) ∧ Hid (wx.ownsRow (w.heap.size + 1) 83 2 s3 k (runC A)) ∧ Hid (RJ w b w.heap.size t wx) ∧ Hid (w.heap.size + 1 ≤ wx.heap.size) ∧ Hid (runsL gh t A = FIN) ∧ Hid (t.1.length ≤ 1000000))
  case atStart => exact ⟨0, [], s1, by omega, rfl, Lib.hid rfl, OW0, HI1, HSZ1, HFIN, HL1⟩
  case round =>
    clear OW0 HI1 HSZ1 HFIN HL1
    obtain ⟨k, A, t, hk, rfl, HA, HO, HI, HSZ, HG, HL⟩ := hrel
    by_cases hkn : k < N
    · have hki : (k : Int) < N := by omega
      have bk : decide ((k : Int) < (N : Int)) = true := by simpa using hki
      obtain ⟨k1, hk1⟩ : ∃ k1, k1 = k + 1 := ⟨_, rfl⟩
      have vk1 : IntKind.u16.wrap ((k : Int) + 1) = (k1 : Int) := by rw [show (k : Int) + 1 = (k1 : Int) by omega]; exact wrap_u16 (by omega)
      have x0 : wr.cell? ⟨w.heap.size, 0, none⟩ = some (.pointer (some ⟨b, 0, none⟩)) := HI.out.cx
      obtain ⟨av, hav⟩ : ∃ n, n = (numR t 2).1 := ⟨_, rfl⟩
      obtain ⟨t1, ht1⟩ : ∃ x, x = (numR t 2).2 := ⟨_, rfl⟩
      obtain ⟨mv, hmv⟩ : ∃ n, n = (numR t1 2).1 := ⟨_, rfl⟩
      obtain ⟨t2, ht2⟩ : ∃ x, x = (numR t1 2).2 := ⟨_, rfl⟩
      have ha1 : av < 65536 := by rw [hav]; exact numR_lt t 2
      have hm1 : mv < 65536 := by rw [hmv]; exact numR_lt t1 2
      have hl1 : t1.1.length ≤ 1000000 := by rw [ht1]; exact Nat.le_trans (numR_short _ _) HL.out
      have HL2 : Hid (t2.1.length ≤ 1000000) := Lib.hid (by rw [ht2]; exact Nat.le_trans (numR_short _ _) hl1)
      obtain ⟨g, rfl⟩ : ∃ g, gk = g + 1 := ⟨gk - 1, by omega⟩
      have HG2 : Hid (runsL g t2 (A ++ [((av : Int), (mv : Int))]) = FIN) := Lib.hid (by
        have h := HG.out
        rw [runsL, ← hav, ← ht1, ← hmv, ← ht2] at h
        exact h)
      have CA := ju16 b t wr HI.out.rdj HL.out av hav t1 ht1
      have CB := fun W (hW : RdAt b t1 W) => ju16 b t1 W hW hl1 mv hmv t2 ht2
      have va : IntKind.i64.wrap (av : Int) = av := IntWalk.i64_in _ (by omega)
      have vm : IntKind.i64.wrap (mv : Int) = mv := IntWalk.i64_in _ (by omega)
      have HKK : Hid (k1 = k + 1 ∧ k + (g + 1) = N) := Lib.hid ⟨hk1, hk⟩
      clear hav ht1 hmv ht2 ha1 hm1 hl1 HG HL hk1 hk
      go_wp2_with fail
      refine CA.mono ?_
      rintro e w3 ⟨rfl, hr3, hg3⟩
      have HI3 := Lib.hid (HI.out.read HNE.out.1 hr3 hg3)
      have x3 : w3.cell? ⟨w.heap.size, 0, none⟩ = some (.pointer (some ⟨b, 0, none⟩)) := HI3.out.cx
      have HO3 : Hid (w3.ownsRow (w.heap.size + 1) 83 2 u3 k (runC A)) := Lib.hid (own_stay HO.out (fun j hj => by
        have := HO.out.lt j hj
        exact hg3.block j this.2 (fun e => by have := Option.some.inj e; have := HNE.out.2; omega)))
      have HSZ3 : Hid (w.heap.size + 1 ≤ w3.heap.size) := Lib.hid (by have := hg3.size; have := HSZ.out; omega)
      have CB3 := CB w3 HI3.out.rdj
      clear CA hr3 hg3 HI HO HSZ x0 CB
      go_wp2_with fail
      refine CB3.mono ?_
      rintro e w4 ⟨rfl, hr4, hg4⟩
      have HO4 : Hid (w4.ownsRow (w.heap.size + 1) 83 2 u3 k (runC A)) := Lib.hid (own_stay HO3.out (fun j hj => by
        have := HO3.out.lt j hj
        exact hg4.block j this.2 (fun e => by have := Option.some.inj e; have := HNE.out.2; omega)))
      have hi4 := HI3.out.read HNE.out.1 hr4 hg4
      have HSZ4 : Hid (w.heap.size + 1 ≤ w4.heap.size) := Lib.hid (by have := hg4.size; have := HSZ3.out; omega)
      obtain ⟨WT, hWT⟩ : ∃ WT, WT = w4.alloc (.cells #[.int .i64 av, .int .i64 mv] 83) := ⟨_, rfl⟩
      have hkT : Kept w4 WT := by rw [hWT]; exact box_below _ _
      have HIT := Lib.hid (hi4.kept hkT)
      have HOT : Hid (WT.ownsRow (w.heap.size + 1) 83 2 u3 k (runC A)) := Lib.hid (own_stay HO4.out (fun j hj => hkT.block j (HO4.out.lt j hj).2))
      have HFT : Hid (FlatAt 2 1 (runC [((av : Int), (mv : Int))]) (.slice (some ⟨w4.heap.size, 0, none⟩) 1 1) WT) := Lib.hid (by rw [hWT]; exact flat_runJ w4 av mv)
      have HZT : Hid (w.heap.size + 1 ≤ WT.heap.size) := Lib.hid (Nat.le_trans HSZ4.out hkT.size)
      have HWT := Lib.hid hWT
      clear CB3 hr4 hg4 hi4 hWT hkT HI3 HO3 HO4 HSZ3 x3
      go_wp2_with (at_builtin; rw [← HWT.out]; refine wpList_append_flat rfl _ _ 28 rfl (w.heap.size + 1) 83 ir (.agg #[.int .i64 0, .int .i64 0]) 2 16 Tryd.underlying28 HIR.out HZ0.out HZ1.out HZ2.out rfl (by decide) _ _ _ rfl HOT.out _ 1 (runC [((av : Int), (mv : Int))]) rfl HFT.out ?wa1 ?wa2 ?wa3 ?_)
      case wa1 => unfold maxLen; omega
      case wa2 => omega
      case wa3 => exact HZT.out
      intro v1 w5 hown5 hgr5 _
      have HI5 : Hid (RJ w b w.heap.size t2 w5) := Lib.hid (HIT.out.own (by have := HNE.out.2; omega) (by omega) (by omega) HOT.out hgr5)
      have HO5 : Hid (w5.ownsRow (w.heap.size + 1) 83 2 v1 k1 (runC (A ++ [((av : Int), (mv : Int))]))) := Lib.hid (by
        rw [runC_append, HKK.out.1]
        exact hown5)
      have HSZ5 : Hid (w.heap.size + 1 ≤ w5.heap.size) := Lib.hid (Nat.le_trans HZT.out hgr5.size)
      have HA5 : Hid ((A ++ [((av : Int), (mv : Int))]).length = k1) := Lib.hid (by rw [List.length_append, HA.out, HKK.out.1]; rfl)
      clear hown5 hgr5 HOT HFT HIT HZT HWT
      go_wp2
      go_roundg g
      case measure => omega
      case rel => exact ⟨k1, _, t2, by have := HKK.out; omega, by first | rfl | (congr 1; have := HKK.out; omega), HA5, HO5, HI5, HSZ5, HG2, HL2⟩
    · have hki : ¬ (k : Int) < N := by omega
      have bk : decide ((k : Int) < (N : Int)) = false := by simpa using hki
      have HF : Hid (FIN = (A, t)) := Lib.hid (by
        have h := HG.out
        rw [show gk = 0 by omega] at h
        exact h.symm)
      go_wp2
      go_ret
      refine ⟨_, rfl, ?_, by rw [HF.out]; exact HI.out.rdj, HI.out.grj⟩
      rw [HF.out]
      unfold OwnRuns
      rw [HA.out]
      exact own_base HO.out (by omega)

end Go.Proofs.YtoigembmbajopaaDoor
namespace Go.Proofs.YtoigembmbajopaaDoor
open Go.RowKit

/-- What lies while a record is read. -/
structure JK (w0 : World) (b bx b2 b3 b4 : Nat) (s : RdSt) (C F : Array Value) (w : World) : Prop where
  grk : w0.grownBy w (some b)
  xk : w.heap[bx]? = some (.cells #[.pointer (some ⟨b, 0, none⟩)] 99 (0, 0))
  zk : w.heap[b2]? = some (.cells zeroRc 30 (0, 0))
  rk : RdAt b s w
  ck : w.heap[b3]? = some (.cells C 30 (0, 0))
  fk : w.heap[b4]? = some (.cells F 78 (0, 0))
  hk : b < w0.heap.size ∧ w0.heap.size ≤ bx ∧ bx < b2 ∧ b2 < b3 ∧ b3 < b4
theorem JK.read {w0 : World} {b bx b2 b3 b4 : Nat} {s s' : RdSt} {C F : Array Value} {w w' : World} (h : JK w0 b bx b2 b3 b4 s C F w) (hr : RdAt b s' w') (hg : w.grownBy w' (some b)) : JK w0 b bx b2 b3 b4 s' C F w' where
  grk := grown_trans h.grk hg
  xk := by rw [hg.block bx (Array.getElem?_eq_some_iff.1 h.xk).1 (fun e => by have := Option.some.inj e; have := h.hk; omega)]; exact h.xk
  zk := by rw [hg.block b2 (Array.getElem?_eq_some_iff.1 h.zk).1 (fun e => by have := Option.some.inj e; have := h.hk; omega)]; exact h.zk
  rk := hr
  ck := by rw [hg.block b3 (Array.getElem?_eq_some_iff.1 h.ck).1 (fun e => by have := Option.some.inj e; have := h.hk; omega)]; exact h.ck
  fk := by rw [hg.block b4 (Array.getElem?_eq_some_iff.1 h.fk).1 (fun e => by have := Option.some.inj e; have := h.hk; omega)]; exact h.fk
  hk := h.hk
theorem RdAt.stayK {b : Nat} {s : RdSt} {w w' : World} (h : RdAt b s w) (hk : w'.heap[b]? = w.heap[b]?) : RdAt b s w' := by
  unfold RdAt at *
  rw [hk]; exact h
theorem JK.set {w0 : World} {b bx b2 b3 b4 : Nat} {s : RdSt} {C F : Array Value} {w : World} (h : JK w0 b bx b2 b3 b4 s C F w) (k : Nat) (v : Value) : JK w0 b bx b2 b3 b4 s (C.setIfInBounds k v) F (w.setCell ⟨b3, k, none⟩ v) where
  grk := ⟨h.grk.os, h.grk.tape, h.grk.output, by rw [World.size_setCell]; exact h.grk.size, fun i hi hn => by
    rw [heap_setCell_other _ _ _ _ (by have := h.hk; show i ≠ b3; omega)]; exact h.grk.block i hi hn⟩
  xk := by rw [heap_setCell_other _ _ _ _ (by have := h.hk; show bx ≠ b3; omega)]; exact h.xk
  zk := by rw [heap_setCell_other _ _ _ _ (by have := h.hk; show b2 ≠ b3; omega)]; exact h.zk
  rk := h.rk.stayK (heap_setCell_other _ _ _ _ (by have := h.hk; show b ≠ b3; omega))
  ck := heap_setCell_same _ _ _ _ _ _ h.ck
  fk := by rw [heap_setCell_other _ _ _ _ (by have := h.hk; show b4 ≠ b3; omega)]; exact h.fk
  hk := h.hk
theorem JK.lt3 {w0 : World} {b bx b2 b3 b4 : Nat} {s : RdSt} {C F : Array Value} {w : World} (h : JK w0 b bx b2 b3 b4 s C F w) : b3 < w.heap.size := (Array.getElem?_eq_some_iff.1 h.ck).1
theorem JK.cx {w0 : World} {b bx b2 b3 b4 : Nat} {s : RdSt} {C F : Array Value} {w : World} (h : JK w0 b bx b2 b3 b4 s C F w) : w.cell? ⟨bx, 0, none⟩ = some (.pointer (some ⟨b, 0, none⟩)) := by rw [cell_of_row _ _ _ _ _ _ h.xk]; rfl
theorem JK.cf {w0 : World} {b bx b2 b3 b4 : Nat} {s : RdSt} {C F : Array Value} {w : World} (h : JK w0 b bx b2 b3 b4 s C F w) (j : Nat) : w.cell? ⟨b4, j, none⟩ = F[j]? := cell_of_row _ _ _ _ _ _ h.fk
theorem ju8 (b : Nat) (s : RdSt) (w : World) (h : RdAt b s w) (hl : s.1.length ≤ 1000000) (n : Nat) (hn : n = (numR s 1).1) (t : RdSt) (ht : t = (numR s 1).2) :
    Calls Tryd.prog 120 #[.pointer (some ⟨b, 0, none⟩)] w (RdPost b (.int .u8 n) t w) := by
  subst hn ht; exact u8r_any b s w h hl
theorem ju32 (b : Nat) (s : RdSt) (w : World) (h : RdAt b s w) (hl : s.1.length ≤ 1000000) (n : Nat) (hn : n = (numR s 4).1) (t : RdSt) (ht : t = (numR s 4).2) :
    Calls Tryd.prog 88 #[.pointer (some ⟨b, 0, none⟩)] w (RdPost b (.int .u32 n) t w) := by
  subst hn ht; exact u32r_any b s w h hl
theorem jtext (b : Nat) (s : RdSt) (w : World) (h : RdAt b s w) (hl : s.1.length ≤ 1000000) (x : ByteArray) (hx : x = str (textR s).1) (t : RdSt) (ht : t = (textR s).2) :
    Calls Tryd.prog 121 #[.pointer (some ⟨b, 0, none⟩)] w (RdPost b (.string x) t w) := by
  subst hx ht; exact textr_any b s w h hl
theorem jruns (b : Nat) (s : RdSt) (w : World) (h : RdAt b s w) (hs : s.1.length ≤ 1000000) (l : List (Int × Int)) (hl : l = (runsLd s).1) (t : RdSt) (ht : t = (runsLd s).2) :
    Calls Tryd.prog 122 #[.agg #[.pointer (some ⟨b, 0, none⟩)]] w fun e w' => ∃ v, e = .returned v ∧ OwnRuns w.heap.size l v w' ∧ RdAt b t w' ∧ w.grownBy w' (some b) := by
  subst hl ht; exact jrdRuns_any b s w h hs

def JOnePost (b : Nat) (s : RdSt) (w : World) (e : Ending) (w' : World) : Prop := ∃ tv, e = .returned (recV (oneL s).1 tv) ∧ OwnRuns w.heap.size (oneL s).1.runs tv w' ∧ RdAt b (oneL s).2 w' ∧ w.grownBy w' (some b)

set_option maxRecDepth 100000 in
set_option maxHeartbeats 16000000 in
theorem jone_any (b : Nat) (s : RdSt) (w : World) (h : RdAt b s w) (hl : s.1.length ≤ 1000000) :
    Calls Tryd.prog 114 #[.agg #[.pointer (some ⟨b, 0, none⟩)]] w (JOnePost b s w) := by
  have hbw := h.lt
  obtain ⟨WA, hWA⟩ : ∃ WA, WA = w.alloc (.cells #[.pointer (some ⟨b, 0, none⟩)] 99) := ⟨_, rfl⟩
  have hkA : Kept w WA := by rw [hWA]; exact box_below _ _
  have zA : WA.heap.size = w.heap.size + 1 := by rw [hWA]; simp
  have rA : WA.heap[w.heap.size]? = some (.cells #[.pointer (some ⟨b, 0, none⟩)] 99 (0, 0)) := by rw [hWA]; exact heap_alloc_last w _
  obtain ⟨W1, hW1⟩ : ∃ W1, W1 = (w.alloc (.cells #[.pointer (some ⟨b, 0, none⟩)] 99)).alloc (.cells #[.int .i64 0, .int .u32 0, .string ⟨#[]⟩, .int .i64 0, .slice none 0 0] 30) := ⟨_, rfl⟩
  have HW1 := Lib.hid hW1
  have e1A : W1 = WA.alloc (.cells zeroRc 30) := by rw [hW1, hWA]; rfl
  have hkB : Kept WA W1 := by rw [e1A]; exact box_below _ _
  have hk1 : Kept w W1 := hkA.then hkB
  have HRD1 : Hid (RdAt b s W1) := Lib.hid (Kept.row hk1 h)
  have HX1 : Hid (W1.heap[w.heap.size]? = some (.cells #[.pointer (some ⟨b, 0, none⟩)] 99 (0, 0))) := Lib.hid (hkB.row rA)
  have HZ1 : Hid (W1.heap[w.heap.size + 1]? = some (.cells zeroRc 30 (0, 0))) := Lib.hid (by rw [e1A, ← zA]; exact heap_alloc_last WA _)
  have HK1 : Hid (w.grownBy W1 (some b)) := Lib.hid (grown_below hk1 _)
  have HBW := Lib.hid hbw
  obtain ⟨k, hkk⟩ : ∃ k, k = (numR s 1).1 := ⟨_, rfl⟩
  obtain ⟨t0, ht0⟩ : ∃ t, t = (numR s 1).2 := ⟨_, rfl⟩
  have hk256 : k < 256 := by rw [hkk]; exact numR_lt s 1
  have L0 : Hid (t0.1.length ≤ 1000000) := Lib.hid (by rw [ht0]; exact Nat.le_trans (numR_short _ _) hl)
  have C0 := ju8 b s W1 HRD1.out hl k hkk t0 ht0
  have v0 : IntKind.i64.wrap (k : Int) = (k : Int) := IntWalk.i64_in _ (by omega)
  have H := fun W => fieldsOf_any (k : Int) W
  unfold fldV fldC at H
  have HEX : Hid (idK (k : Int) = true → nameK (k : Int) = false) := Lib.hid id_or_name
  have HEB : Hid (blobK (k : Int) = true → idK (k : Int) = false → nameK (k : Int) = true) := Lib.hid (fun h1 h2 => by
    rw [blobK_iff] at h1
    rw [nameK_iff]
    have h3 : ¬ ((k : Int) = 1 ∨ (k : Int) = 2 ∨ (k : Int) = 4 ∨ (k : Int) = 5) := fun y => by rw [(idK_iff _).2 y] at h2; cases h2
    omega)
  have HO1 : Hid (oneI s = if idK (k : Int) = true then numR t0 4 else (0, t0)) := Lib.hid (by unfold oneI; rw [← hkk, ← ht0])
  have HO2 : Hid (oneN s = if nameK (k : Int) = true then textR (oneI s).2 else ([], (oneI s).2)) := Lib.hid (by unfold oneN; rw [← hkk])
  have HO3 : Hid (oneL s = (⟨(k : Int), (oneI s).1, (oneN s).1, (oneBL (k : Int) (oneN s).2).1.1, (oneBL (k : Int) (oneN s).2).1.2⟩, (oneBL (k : Int) (oneN s).2).2)) := Lib.hid (by unfold oneL; rw [← hkk])
  obtain ⟨ib, hib⟩ : ∃ ib, ib = idK (k : Int) := ⟨_, rfl⟩
  obtain ⟨nb, hnb⟩ : ∃ nb, nb = nameK (k : Int) := ⟨_, rfl⟩
  obtain ⟨bb, hbb⟩ : ∃ bb, bb = blobK (k : Int) := ⟨_, rfl⟩
  rw [← hib, ← hnb, ← hbb] at H
  rw [← hib, ← hnb] at HEX
  rw [← hib, ← hnb, ← hbb] at HEB
  rw [← hib] at HO1
  rw [← hnb] at HO2
  have HBB := Lib.hid hbb
  clear hkk ht0 hk1 hW1 h hbw hib hnb hbb hk256 hl hkB e1A rA zA hkA hWA
  clear WA
  cases ib with
  | true =>
    obtain rfl : nb = false := HEX.out rfl
    cases bb with
    | true =>
      obtain ⟨i, hi⟩ : ∃ i, i = (numR t0 4).1 := ⟨_, rfl⟩
      obtain ⟨t1, ht1⟩ : ∃ t, t = (numR t0 4).2 := ⟨_, rfl⟩
      have L1 : Hid (t1.1.length ≤ 1000000) := Lib.hid (by rw [ht1]; exact Nat.le_trans (numR_short _ _) L0.out)
      have HI := Lib.hid hi
      have HT1 := Lib.hid ht1
      have e1 : oneI s = (i, t1) := by rw [HO1.out, if_pos rfl, hi, ht1]
      clear hi ht1
      have e2 : oneN s = ([], t1) := by rw [HO2.out, if_neg (by decide), e1]
      obtain ⟨z, hz⟩ : ∃ z, z = (numR t1 4).1 := ⟨_, rfl⟩
      obtain ⟨t3, ht3⟩ : ∃ t, t = (numR t1 4).2 := ⟨_, rfl⟩
      have L3 : Hid (t3.1.length ≤ 1000000) := Lib.hid (by rw [ht3]; exact Nat.le_trans (numR_short _ _) L1.out)
      have hz32 : z < 4294967296 := by rw [hz]; exact numR_lt t1 4
      have v3 : IntKind.i64.wrap (z : Int) = (z : Int) := IntWalk.i64_in _ (by omega)
      obtain ⟨RL, hRL⟩ : ∃ l, l = (runsLd t3).1 := ⟨_, rfl⟩
      obtain ⟨t4, ht4⟩ : ∃ t, t = (runsLd t3).2 := ⟨_, rfl⟩
      have e3 : oneBL (k : Int) t1 = (((z : Int), RL), t4) := by unfold oneBL; rw [← HBB.out, if_pos rfl, hz, hRL, ht4, ht3]
      have HZ := Lib.hid hz
      have HT3 := Lib.hid ht3
      have HRLL := Lib.hid hRL
      have HT4 := Lib.hid ht4
      clear hz ht3 hz32 hRL ht4
      have e4 : oneL s = (⟨(k : Int), i, [], (z : Int), RL⟩, t4) := by rw [HO3.out, e1, e2, e3]
      have HX : Hid (∀ tv, recC (oneL s).1 tv = #[.int .i64 k, .int .u32 (i : Nat), .string ⟨#[]⟩, .int .i64 (z : Int), tv]) := Lib.hid (fun tv => by rw [e4]; unfold recC; rfl)
      have HXR : Hid ((oneL s).1.runs = RL) := Lib.hid (by rw [e4])
      have HXS : Hid ((oneL s).2 = t4) := Lib.hid (by rw [e4])
      clear e1 e2 e3 e4 HO1 HO2 HO3 HEX HEB
      go_enter Tryd.func114, Tryd.ntmps114
      go_wp2_with fail
      rw [← HW1.out]
      refine C0.mono ?_
      rintro e w2 ⟨rfl, hrd, hgr⟩
      have hx2 : w2.heap[w.heap.size]? = some (.cells #[.pointer (some ⟨b, 0, none⟩)] 99 (0, 0)) := by rw [hgr.block _ (Array.getElem?_eq_some_iff.1 HX1.out).1 (fun e => by have := Option.some.inj e; have := HBW.out; omega)]; exact HX1.out
      have hz2 : w2.heap[w.heap.size + 1]? = some (.cells zeroRc 30 (0, 0)) := by rw [hgr.block _ (Array.getElem?_eq_some_iff.1 HZ1.out).1 (fun e => by have := Option.some.inj e; have := HBW.out; omega)]; exact HZ1.out
      obtain ⟨W3, hW3⟩ : ∃ W3, W3 = w2.alloc (.cells #[.int .i64 k, .int .u32 0, .string ⟨#[]⟩, .int .i64 0, .slice none 0 0] 30) := ⟨_, rfl⟩
      have hk3 : Kept w2 W3 := by rw [hW3]; exact box_below _ _
      obtain ⟨b3, hb3⟩ : ∃ b3, b3 = w2.heap.size := ⟨_, rfl⟩
      have hc3 : W3.heap[b3]? = some (.cells #[.int .i64 k, .int .u32 0, .string ⟨#[]⟩, .int .i64 0, .slice none 0 0] 30 (0, 0)) := by rw [hW3, hb3]; exact heap_alloc_last w2 _
      have hs3 : W3.heap.size = b3 + 1 := by rw [hW3, hb3]; simp
      have hz2l := (Array.getElem?_eq_some_iff.1 hz2).1
      have HQ3 : Hid (w.grownBy W3 (some b) ∧ W3.heap[w.heap.size]? = some (.cells #[.pointer (some ⟨b, 0, none⟩)] 99 (0, 0)) ∧ W3.heap[w.heap.size + 1]? = some (.cells zeroRc 30 (0, 0)) ∧ RdAt b t0 W3 ∧ W3.heap[b3]? = some (.cells #[.int .i64 k, .int .u32 0, .string ⟨#[]⟩, .int .i64 0, .slice none 0 0] 30 (0, 0)) ∧ w.heap.size + 1 < b3 ∧ W3.heap.size = b3 + 1) := Lib.hid
        ⟨grown_trans (grown_trans HK1.out hgr) (grown_below hk3 _), hk3.row hx2, hk3.row hz2, Kept.row hk3 hrd, hc3, by omega, hs3⟩
      have HB3 := Lib.hid hb3
      have HW3 := Lib.hid hW3
      have H3 := H W3
      clear hrd hgr hx2 hz2 hk3 hc3 hs3 hz2l hb3 hW3 HK1 HX1 HZ1 HRD1 C0 H
      go_wp2_with fail
      rw [← HB3.out, ← HW3.out]
      refine H3.mono ?_
      rintro e w3 ⟨rfl, hb⟩
      have kk3 : Kept W3 w3 := hb
      obtain ⟨W4, hW4⟩ : ∃ W4, W4 = w3.alloc (.cells #[.bool true, .bool false, .bool true] 78) := ⟨_, rfl⟩
      have hk4 : Kept W3 W4 := kk3.then (by rw [hW4]; exact box_below _ _)
      obtain ⟨b4, hb4⟩ : ∃ b4, b4 = w3.heap.size := ⟨_, rfl⟩
      have G0 : JK w b w.heap.size (w.heap.size + 1) b3 b4 t0 #[.int .i64 k, .int .u32 0, .string ⟨#[]⟩, .int .i64 0, .slice none 0 0] #[.bool true, .bool false, .bool true] W4 :=
        ⟨grown_trans HQ3.out.1 (grown_below hk4 _), hk4.row HQ3.out.2.1, hk4.row HQ3.out.2.2.1, Kept.row hk4 HQ3.out.2.2.2.1, hk4.row HQ3.out.2.2.2.2.1, by rw [hW4, hb4]; exact heap_alloc_last w3 _, ⟨HBW.out, Nat.le_refl _, by omega, HQ3.out.2.2.2.2.2.1, by have := kk3.size; have := HQ3.out.2.2.2.2.2.2; omega⟩⟩
      have HG := Lib.hid G0
      have x0 : (w3.alloc (.cells #[.bool true, .bool false, .bool true] 78)).cell? ⟨w.heap.size, 0, none⟩ = some (.pointer (some ⟨b, 0, none⟩)) := by rw [← hW4]; exact HG.out.cx
      have y0 : (w3.alloc (.cells #[.bool true, .bool false, .bool true] 78)).cell? ⟨w3.heap.size, 0, none⟩ = some (.bool true) := by rw [← hW4, ← hb4]; exact HG.out.cf 0
      have y1 : (w3.alloc (.cells #[.bool true, .bool false, .bool true] 78)).cell? ⟨w3.heap.size, 1, none⟩ = some (.bool false) := by rw [← hW4, ← hb4]; exact HG.out.cf 1
      have y2 : (w3.alloc (.cells #[.bool true, .bool false, .bool true] 78)).cell? ⟨w3.heap.size, 2, none⟩ = some (.bool true) := by rw [← hW4, ← hb4]; exact HG.out.cf 2
      have HB4 := Lib.hid hb4
      have HW4 := Lib.hid hW4
      clear hb kk3 hk4 G0 hb4 hW4 HQ3 HB3 HW3 H3
      go_wp2_with fail
      rw [← HB4.out, ← HW4.out]
      refine (ju32 b t0 W4 HG.out.rk L0.out i HI.out t1 HT1.out).mono ?_
      rintro e WX1 ⟨rfl, hrd, hgr⟩
      clear x0 y0 y1 y2
      replace HG := Lib.hid (HG.out.read hrd hgr)
      have c0 : WX1.cell? ⟨b3, 1, none⟩ = some (.int .u32 0) := by rw [cell_of_row _ _ _ _ _ _ HG.out.ck]; rfl
      have f0 := frozen_of_row WX1 b3 1 _ _ HG.out.ck
      replace HG := Lib.hid (HG.out.set 1 (.int .u32 (i : Nat)))
      obtain ⟨WB1, hWB⟩ : ∃ W, W = WX1.setCell ⟨b3, 1, none⟩ (.int .u32 (i : Nat)) := ⟨_, rfl⟩
      rw [← hWB] at HG
      have x0 : (WX1.setCell ⟨b3, 1, none⟩ (.int .u32 (i : Nat))).cell? ⟨w.heap.size, 0, none⟩ = some (.pointer (some ⟨b, 0, none⟩)) := by rw [← hWB]; exact HG.out.cx
      have y0 : (WX1.setCell ⟨b3, 1, none⟩ (.int .u32 (i : Nat))).cell? ⟨b4, 0, none⟩ = some (.bool true) := by rw [← hWB]; exact HG.out.cf 0
      have y1 : (WX1.setCell ⟨b3, 1, none⟩ (.int .u32 (i : Nat))).cell? ⟨b4, 1, none⟩ = some (.bool false) := by rw [← hWB]; exact HG.out.cf 1
      have y2 : (WX1.setCell ⟨b3, 1, none⟩ (.int .u32 (i : Nat))).cell? ⟨b4, 2, none⟩ = some (.bool true) := by rw [← hWB]; exact HG.out.cf 2
      have HWB := Lib.hid hWB
      clear hrd hgr hWB
      go_wp2_with fail
      rw [← HWB.out]
      refine (ju32 b t1 WB1 HG.out.rk L1.out z HZ.out t3 HT3.out).mono ?_
      rintro e WX2 ⟨rfl, hrd, hgr⟩
      clear x0 y0 y1 y2
      replace HG := Lib.hid (HG.out.read hrd hgr)
      have c0 : WX2.cell? ⟨b3, 3, none⟩ = some (.int .i64 0) := by rw [cell_of_row _ _ _ _ _ _ HG.out.ck]; rfl
      have f0 := frozen_of_row WX2 b3 3 _ _ HG.out.ck
      replace HG := Lib.hid (HG.out.set 3 (.int .i64 (z : Nat)))
      obtain ⟨WB2, hWB⟩ : ∃ W, W = WX2.setCell ⟨b3, 3, none⟩ (.int .i64 (z : Nat)) := ⟨_, rfl⟩
      rw [← hWB] at HG
      have x0 : (WX2.setCell ⟨b3, 3, none⟩ (.int .i64 (z : Nat))).cell? ⟨w.heap.size, 0, none⟩ = some (.pointer (some ⟨b, 0, none⟩)) := by rw [← hWB]; exact HG.out.cx
      have y0 : (WX2.setCell ⟨b3, 3, none⟩ (.int .i64 (z : Nat))).cell? ⟨b4, 0, none⟩ = some (.bool true) := by rw [← hWB]; exact HG.out.cf 0
      have y1 : (WX2.setCell ⟨b3, 3, none⟩ (.int .i64 (z : Nat))).cell? ⟨b4, 1, none⟩ = some (.bool false) := by rw [← hWB]; exact HG.out.cf 1
      have y2 : (WX2.setCell ⟨b3, 3, none⟩ (.int .i64 (z : Nat))).cell? ⟨b4, 2, none⟩ = some (.bool true) := by rw [← hWB]; exact HG.out.cf 2
      clear HWB
      have HWB := Lib.hid hWB
      clear hrd hgr hWB
      go_wp2_with fail
      rw [← HWB.out]
      refine (jruns b t3 WB2 HG.out.rk L3.out RL HRLL.out t4 HT4.out).mono ?_
      rintro e WX3 ⟨tv, rfl, ho, hrd, hgr⟩
      obtain ⟨pv, cv, hv, -, -⟩ := own_slice ho
      subst hv
      have HLT := Lib.hid (HG.out.lt3)
      have HO : Hid (OwnRuns w.heap.size RL (.slice pv RL.length cv) WX3 ∧ ∀ m, (Value.slice pv RL.length cv).ownBlock = some m → b3 < m) := Lib.hid ⟨own_base ho HG.out.grk.size, fun m hm => Nat.lt_of_lt_of_le HLT.out (ho.lt m hm).1⟩
      clear x0 y0 y1 y2
      replace HG := Lib.hid (HG.out.read hrd hgr)
      have c0 : WX3.cell? ⟨b3, 4, none⟩ = some (.slice none 0 0) := by rw [cell_of_row _ _ _ _ _ _ HG.out.ck]; rfl
      have f0 := frozen_of_row WX3 b3 4 _ _ HG.out.ck
      obtain ⟨rl, hrl⟩ : ∃ rl, rl = RL.length := ⟨_, rfl⟩
      rw [← hrl] at HO ⊢
      replace HG := Lib.hid (HG.out.set 4 (.slice pv rl cv))
      obtain ⟨WB3, hWB⟩ : ∃ W, W = WX3.setCell ⟨b3, 4, none⟩ (.slice pv rl cv) := ⟨_, rfl⟩
      rw [← hWB] at HG
      have x0 : (WX3.setCell ⟨b3, 4, none⟩ (.slice pv rl cv)).cell? ⟨w.heap.size, 0, none⟩ = some (.pointer (some ⟨b, 0, none⟩)) := by rw [← hWB]; exact HG.out.cx
      have y0 : (WX3.setCell ⟨b3, 4, none⟩ (.slice pv rl cv)).cell? ⟨b4, 0, none⟩ = some (.bool true) := by rw [← hWB]; exact HG.out.cf 0
      have y1 : (WX3.setCell ⟨b3, 4, none⟩ (.slice pv rl cv)).cell? ⟨b4, 1, none⟩ = some (.bool false) := by rw [← hWB]; exact HG.out.cf 1
      have y2 : (WX3.setCell ⟨b3, 4, none⟩ (.slice pv rl cv)).cell? ⟨b4, 2, none⟩ = some (.bool true) := by rw [← hWB]; exact HG.out.cf 2
      have HO2 : Hid (OwnRuns w.heap.size RL (.slice pv rl cv) WB3 ∧ ∀ m, (Value.slice pv rl cv).ownBlock = some m → b3 < m) := Lib.hid ⟨own_stay HO.out.1 (fun m hm => by rw [hWB]; exact heap_setCell_other _ _ _ _ (by have := HO.out.2 m hm; show m ≠ b3; omega)), HO.out.2⟩
      clear HWB
      have HWB := Lib.hid hWB
      clear hrd hgr hWB ho hrl
      obtain ⟨CF, hCF⟩ : ∃ CF : Array Value, CF = #[.int .i64 k, .int .u32 (i : Nat), .string ⟨#[]⟩, .int .i64 (z : Nat), .slice pv rl cv] := ⟨_, rfl⟩
      have HCROW : Hid ((WX3.setCell ⟨b3, 4, none⟩ (.slice pv rl cv)).heap[b3]? = some (.cells CF 30 (0, 0))) := Lib.hid (by rw [hCF, ← HWB.out]; exact HG.out.ck)
      have HZROW : Hid ((WX3.setCell ⟨b3, 4, none⟩ (.slice pv rl cv)).heap[w.heap.size + 1]? = some (.cells zeroRc 30 (0, 0))) := Lib.hid (by rw [← HWB.out]; exact HG.out.zk)
      have HCS : Hid ((Tryd.prog.info? 30).map (·.size) = some CF.size) := Lib.hid (by rw [hCF]; exact infoRc)
      have HOL : Hid (zeroRc.size = CF.size) := Lib.hid (by rw [hCF]; rfl)
      have HON : Hid (CF.all (·.oneCell') = true) := Lib.hid (by rw [hCF]; exact all5 rfl rfl rfl rfl rfl)
      have HCX : Hid (.agg CF = recV (oneL s).1 (.slice pv rl cv)) := Lib.hid (by rw [hCF]; exact (congrArg Value.agg (HX.out _)).symm)
      obtain ⟨WE, hWE⟩ : ∃ W, W = (WX3.setCell ⟨b3, 4, none⟩ (.slice pv rl cv)).setRow (w.heap.size + 1) CF := ⟨_, rfl⟩
      have HWE := Lib.hid hWE
      clear hCF hWE
      go_wp2_with (first
        | (with_reducible refine wpList_load_row rfl _ _ rfl b3 rfl 30 CF (0, 0) _ HCROW.out Tryd.underlying30 rfl HCS.out ?_)
        | (with_reducible refine wpList_store_namedJ rfl _ _ _ rfl (w.heap.size + 1) CF rfl rfl 30 zeroRc HZROW.out HCS.out HOL.out HON.out WE HWE.out ?_)
        | fail)
      have hrow : WE.heap[w.heap.size + 1]? = some (.cells CF 30 (0, 0)) := by rw [HWE.out]; exact setRow_heap _ _ _ _ _ _ HZROW.out
      have hoth : ∀ k, k ≠ w.heap.size + 1 → WE.heap[k]? = WB3.heap[k]? := fun k hk => by rw [HWE.out, HWB.out]; exact setRow_other _ _ _ _ hk
      refine bodyPost_ret (results_cell_row Tryd.results114 _ _ (w.heap.size + 1) 30 CF (0, 0) _ rfl hrow Tryd.underlying30 rfl HCS.out) rfl ⟨.slice pv rl cv, by rw [HCX.out], ?_, ?_, ?_⟩
      · rw [HXR.out]; exact own_stay HO2.out.1 (fun m hm => hoth m (by have := HO2.out.2 m hm; have := HG.out.hk; omega))
      · rw [HXS.out]; exact HG.out.rk.stayK (hoth b (by have := HG.out.hk; omega))
      · have hg := HG.out.grk
        have hb := HG.out.hk
        refine ⟨by rw [HWE.out, ← HWB.out]; exact hg.os, by rw [HWE.out, ← HWB.out]; exact hg.tape, by rw [HWE.out, ← HWB.out]; exact hg.output, by rw [HWE.out, setRow_size, ← HWB.out]; exact hg.size, fun i hi hn => (hoth i (by omega)).trans (hg.block i hi hn)⟩
    | false =>
      obtain ⟨i, hi⟩ : ∃ i, i = (numR t0 4).1 := ⟨_, rfl⟩
      obtain ⟨t1, ht1⟩ : ∃ t, t = (numR t0 4).2 := ⟨_, rfl⟩
      have L1 : Hid (t1.1.length ≤ 1000000) := Lib.hid (by rw [ht1]; exact Nat.le_trans (numR_short _ _) L0.out)
      have HI := Lib.hid hi
      have HT1 := Lib.hid ht1
      have e1 : oneI s = (i, t1) := by rw [HO1.out, if_pos rfl, hi, ht1]
      clear hi ht1
      have e2 : oneN s = ([], t1) := by rw [HO2.out, if_neg (by decide), e1]
      have e3 : oneBL (k : Int) t1 = ((0, []), t1) := by unfold oneBL; rw [← HBB.out, if_neg (by decide)]
      have e4 : oneL s = (⟨(k : Int), i, [], 0, []⟩, t1) := by rw [HO3.out, e1, e2, e3]
      have HX : Hid (∀ tv, recC (oneL s).1 tv = #[.int .i64 k, .int .u32 (i : Nat), .string ⟨#[]⟩, .int .i64 0, tv]) := Lib.hid (fun tv => by rw [e4]; unfold recC; rfl)
      have HXR : Hid ((oneL s).1.runs = []) := Lib.hid (by rw [e4])
      have HXS : Hid ((oneL s).2 = t1) := Lib.hid (by rw [e4])
      clear e1 e2 e3 e4 HO1 HO2 HO3 HEX HEB
      go_enter Tryd.func114, Tryd.ntmps114
      go_wp2_with fail
      rw [← HW1.out]
      refine C0.mono ?_
      rintro e w2 ⟨rfl, hrd, hgr⟩
      have hx2 : w2.heap[w.heap.size]? = some (.cells #[.pointer (some ⟨b, 0, none⟩)] 99 (0, 0)) := by rw [hgr.block _ (Array.getElem?_eq_some_iff.1 HX1.out).1 (fun e => by have := Option.some.inj e; have := HBW.out; omega)]; exact HX1.out
      have hz2 : w2.heap[w.heap.size + 1]? = some (.cells zeroRc 30 (0, 0)) := by rw [hgr.block _ (Array.getElem?_eq_some_iff.1 HZ1.out).1 (fun e => by have := Option.some.inj e; have := HBW.out; omega)]; exact HZ1.out
      obtain ⟨W3, hW3⟩ : ∃ W3, W3 = w2.alloc (.cells #[.int .i64 k, .int .u32 0, .string ⟨#[]⟩, .int .i64 0, .slice none 0 0] 30) := ⟨_, rfl⟩
      have hk3 : Kept w2 W3 := by rw [hW3]; exact box_below _ _
      obtain ⟨b3, hb3⟩ : ∃ b3, b3 = w2.heap.size := ⟨_, rfl⟩
      have hc3 : W3.heap[b3]? = some (.cells #[.int .i64 k, .int .u32 0, .string ⟨#[]⟩, .int .i64 0, .slice none 0 0] 30 (0, 0)) := by rw [hW3, hb3]; exact heap_alloc_last w2 _
      have hs3 : W3.heap.size = b3 + 1 := by rw [hW3, hb3]; simp
      have hz2l := (Array.getElem?_eq_some_iff.1 hz2).1
      have HQ3 : Hid (w.grownBy W3 (some b) ∧ W3.heap[w.heap.size]? = some (.cells #[.pointer (some ⟨b, 0, none⟩)] 99 (0, 0)) ∧ W3.heap[w.heap.size + 1]? = some (.cells zeroRc 30 (0, 0)) ∧ RdAt b t0 W3 ∧ W3.heap[b3]? = some (.cells #[.int .i64 k, .int .u32 0, .string ⟨#[]⟩, .int .i64 0, .slice none 0 0] 30 (0, 0)) ∧ w.heap.size + 1 < b3 ∧ W3.heap.size = b3 + 1) := Lib.hid
        ⟨grown_trans (grown_trans HK1.out hgr) (grown_below hk3 _), hk3.row hx2, hk3.row hz2, Kept.row hk3 hrd, hc3, by omega, hs3⟩
      have HB3 := Lib.hid hb3
      have HW3 := Lib.hid hW3
      have H3 := H W3
      clear hrd hgr hx2 hz2 hk3 hc3 hs3 hz2l hb3 hW3 HK1 HX1 HZ1 HRD1 C0 H
      go_wp2_with fail
      rw [← HB3.out, ← HW3.out]
      refine H3.mono ?_
      rintro e w3 ⟨rfl, hb⟩
      have kk3 : Kept W3 w3 := hb
      obtain ⟨W4, hW4⟩ : ∃ W4, W4 = w3.alloc (.cells #[.bool true, .bool false, .bool false] 78) := ⟨_, rfl⟩
      have hk4 : Kept W3 W4 := kk3.then (by rw [hW4]; exact box_below _ _)
      obtain ⟨b4, hb4⟩ : ∃ b4, b4 = w3.heap.size := ⟨_, rfl⟩
      have G0 : JK w b w.heap.size (w.heap.size + 1) b3 b4 t0 #[.int .i64 k, .int .u32 0, .string ⟨#[]⟩, .int .i64 0, .slice none 0 0] #[.bool true, .bool false, .bool false] W4 :=
        ⟨grown_trans HQ3.out.1 (grown_below hk4 _), hk4.row HQ3.out.2.1, hk4.row HQ3.out.2.2.1, Kept.row hk4 HQ3.out.2.2.2.1, hk4.row HQ3.out.2.2.2.2.1, by rw [hW4, hb4]; exact heap_alloc_last w3 _, ⟨HBW.out, Nat.le_refl _, by omega, HQ3.out.2.2.2.2.2.1, by have := kk3.size; have := HQ3.out.2.2.2.2.2.2; omega⟩⟩
      have HG := Lib.hid G0
      have x0 : (w3.alloc (.cells #[.bool true, .bool false, .bool false] 78)).cell? ⟨w.heap.size, 0, none⟩ = some (.pointer (some ⟨b, 0, none⟩)) := by rw [← hW4]; exact HG.out.cx
      have y0 : (w3.alloc (.cells #[.bool true, .bool false, .bool false] 78)).cell? ⟨w3.heap.size, 0, none⟩ = some (.bool true) := by rw [← hW4, ← hb4]; exact HG.out.cf 0
      have y1 : (w3.alloc (.cells #[.bool true, .bool false, .bool false] 78)).cell? ⟨w3.heap.size, 1, none⟩ = some (.bool false) := by rw [← hW4, ← hb4]; exact HG.out.cf 1
      have y2 : (w3.alloc (.cells #[.bool true, .bool false, .bool false] 78)).cell? ⟨w3.heap.size, 2, none⟩ = some (.bool false) := by rw [← hW4, ← hb4]; exact HG.out.cf 2
      have HB4 := Lib.hid hb4
      have HW4 := Lib.hid hW4
      clear hb kk3 hk4 G0 hb4 hW4 HQ3 HB3 HW3 H3
      go_wp2_with fail
      rw [← HB4.out, ← HW4.out]
      refine (ju32 b t0 W4 HG.out.rk L0.out i HI.out t1 HT1.out).mono ?_
      rintro e WX1 ⟨rfl, hrd, hgr⟩
      clear x0 y0 y1 y2
      replace HG := Lib.hid (HG.out.read hrd hgr)
      have c0 : WX1.cell? ⟨b3, 1, none⟩ = some (.int .u32 0) := by rw [cell_of_row _ _ _ _ _ _ HG.out.ck]; rfl
      have f0 := frozen_of_row WX1 b3 1 _ _ HG.out.ck
      replace HG := Lib.hid (HG.out.set 1 (.int .u32 (i : Nat)))
      obtain ⟨WB1, hWB⟩ : ∃ W, W = WX1.setCell ⟨b3, 1, none⟩ (.int .u32 (i : Nat)) := ⟨_, rfl⟩
      rw [← hWB] at HG
      have x0 : (WX1.setCell ⟨b3, 1, none⟩ (.int .u32 (i : Nat))).cell? ⟨w.heap.size, 0, none⟩ = some (.pointer (some ⟨b, 0, none⟩)) := by rw [← hWB]; exact HG.out.cx
      have y0 : (WX1.setCell ⟨b3, 1, none⟩ (.int .u32 (i : Nat))).cell? ⟨b4, 0, none⟩ = some (.bool true) := by rw [← hWB]; exact HG.out.cf 0
      have y1 : (WX1.setCell ⟨b3, 1, none⟩ (.int .u32 (i : Nat))).cell? ⟨b4, 1, none⟩ = some (.bool false) := by rw [← hWB]; exact HG.out.cf 1
      have y2 : (WX1.setCell ⟨b3, 1, none⟩ (.int .u32 (i : Nat))).cell? ⟨b4, 2, none⟩ = some (.bool false) := by rw [← hWB]; exact HG.out.cf 2
      have HWB := Lib.hid hWB
      clear hrd hgr hWB
      obtain ⟨CF, hCF⟩ : ∃ CF : Array Value, CF = #[.int .i64 k, .int .u32 (i : Nat), .string ⟨#[]⟩, .int .i64 0, .slice none 0 0] := ⟨_, rfl⟩
      have HCROW : Hid ((WX1.setCell ⟨b3, 1, none⟩ (.int .u32 (i : Nat))).heap[b3]? = some (.cells CF 30 (0, 0))) := Lib.hid (by rw [hCF, ← HWB.out]; exact HG.out.ck)
      have HZROW : Hid ((WX1.setCell ⟨b3, 1, none⟩ (.int .u32 (i : Nat))).heap[w.heap.size + 1]? = some (.cells zeroRc 30 (0, 0))) := Lib.hid (by rw [← HWB.out]; exact HG.out.zk)
      have HCS : Hid ((Tryd.prog.info? 30).map (·.size) = some CF.size) := Lib.hid (by rw [hCF]; exact infoRc)
      have HOL : Hid (zeroRc.size = CF.size) := Lib.hid (by rw [hCF]; rfl)
      have HON : Hid (CF.all (·.oneCell') = true) := Lib.hid (by rw [hCF]; exact all5 rfl rfl rfl rfl rfl)
      have HCX : Hid (.agg CF = recV (oneL s).1 (.slice none 0 0)) := Lib.hid (by rw [hCF]; exact (congrArg Value.agg (HX.out _)).symm)
      obtain ⟨WE, hWE⟩ : ∃ W, W = (WX1.setCell ⟨b3, 1, none⟩ (.int .u32 (i : Nat))).setRow (w.heap.size + 1) CF := ⟨_, rfl⟩
      have HWE := Lib.hid hWE
      clear hCF hWE
      go_wp2_with (first
        | (with_reducible refine wpList_load_row rfl _ _ rfl b3 rfl 30 CF (0, 0) _ HCROW.out Tryd.underlying30 rfl HCS.out ?_)
        | (with_reducible refine wpList_store_namedJ rfl _ _ _ rfl (w.heap.size + 1) CF rfl rfl 30 zeroRc HZROW.out HCS.out HOL.out HON.out WE HWE.out ?_)
        | fail)
      have hrow : WE.heap[w.heap.size + 1]? = some (.cells CF 30 (0, 0)) := by rw [HWE.out]; exact setRow_heap _ _ _ _ _ _ HZROW.out
      have hoth : ∀ k, k ≠ w.heap.size + 1 → WE.heap[k]? = WB1.heap[k]? := fun k hk => by rw [HWE.out, HWB.out]; exact setRow_other _ _ _ _ hk
      refine bodyPost_ret (results_cell_row Tryd.results114 _ _ (w.heap.size + 1) 30 CF (0, 0) _ rfl hrow Tryd.underlying30 rfl HCS.out) rfl ⟨.slice none 0 0, by rw [HCX.out], ?_, ?_, ?_⟩
      · rw [HXR.out]; exact World.ownsRow_nil _ _ _ _
      · rw [HXS.out]; exact HG.out.rk.stayK (hoth b (by have := HG.out.hk; omega))
      · have hg := HG.out.grk
        have hb := HG.out.hk
        refine ⟨by rw [HWE.out, ← HWB.out]; exact hg.os, by rw [HWE.out, ← HWB.out]; exact hg.tape, by rw [HWE.out, ← HWB.out]; exact hg.output, by rw [HWE.out, setRow_size, ← HWB.out]; exact hg.size, fun i hi hn => (hoth i (by omega)).trans (hg.block i hi hn)⟩
  | false =>
    cases nb with
    | true =>
      cases bb with
      | true =>
        have e1 : oneI s = (0, t0) := by rw [HO1.out, if_neg (by decide)]
        obtain ⟨SN, hSN⟩ : ∃ S, S = str (textR t0).1 := ⟨_, rfl⟩
        obtain ⟨t2, ht2⟩ : ∃ t, t = (textR t0).2 := ⟨_, rfl⟩
        have L2 : Hid (t2.1.length ≤ 1000000) := Lib.hid (by rw [ht2]; exact Nat.le_trans (textR_len _) L0.out)
        have e2 : oneN s = ((textR t0).1, t2) := by rw [HO2.out, if_pos rfl, e1, ht2]
        have HSN := Lib.hid hSN
        have HT2 := Lib.hid ht2
        clear hSN ht2
        obtain ⟨z, hz⟩ : ∃ z, z = (numR t2 4).1 := ⟨_, rfl⟩
        obtain ⟨t3, ht3⟩ : ∃ t, t = (numR t2 4).2 := ⟨_, rfl⟩
        have L3 : Hid (t3.1.length ≤ 1000000) := Lib.hid (by rw [ht3]; exact Nat.le_trans (numR_short _ _) L2.out)
        have hz32 : z < 4294967296 := by rw [hz]; exact numR_lt t2 4
        have v3 : IntKind.i64.wrap (z : Int) = (z : Int) := IntWalk.i64_in _ (by omega)
        obtain ⟨RL, hRL⟩ : ∃ l, l = (runsLd t3).1 := ⟨_, rfl⟩
        obtain ⟨t4, ht4⟩ : ∃ t, t = (runsLd t3).2 := ⟨_, rfl⟩
        have e3 : oneBL (k : Int) t2 = (((z : Int), RL), t4) := by unfold oneBL; rw [← HBB.out, if_pos rfl, hz, hRL, ht4, ht3]
        have HZ := Lib.hid hz
        have HT3 := Lib.hid ht3
        have HRLL := Lib.hid hRL
        have HT4 := Lib.hid ht4
        clear hz ht3 hz32 hRL ht4
        have e4 : oneL s = (⟨(k : Int), 0, (textR t0).1, (z : Int), RL⟩, t4) := by rw [HO3.out, e1, e2, e3]
        have HX : Hid (∀ tv, recC (oneL s).1 tv = #[.int .i64 k, .int .u32 0, .string SN, .int .i64 (z : Int), tv]) := Lib.hid (fun tv => by rw [e4]; unfold recC; rw [HSN.out]; rfl)
        have HXR : Hid ((oneL s).1.runs = RL) := Lib.hid (by rw [e4])
        have HXS : Hid ((oneL s).2 = t4) := Lib.hid (by rw [e4])
        clear e1 e2 e3 e4 HO1 HO2 HO3 HEX HEB
        go_enter Tryd.func114, Tryd.ntmps114
        go_wp2_with fail
        rw [← HW1.out]
        refine C0.mono ?_
        rintro e w2 ⟨rfl, hrd, hgr⟩
        have hx2 : w2.heap[w.heap.size]? = some (.cells #[.pointer (some ⟨b, 0, none⟩)] 99 (0, 0)) := by rw [hgr.block _ (Array.getElem?_eq_some_iff.1 HX1.out).1 (fun e => by have := Option.some.inj e; have := HBW.out; omega)]; exact HX1.out
        have hz2 : w2.heap[w.heap.size + 1]? = some (.cells zeroRc 30 (0, 0)) := by rw [hgr.block _ (Array.getElem?_eq_some_iff.1 HZ1.out).1 (fun e => by have := Option.some.inj e; have := HBW.out; omega)]; exact HZ1.out
        obtain ⟨W3, hW3⟩ : ∃ W3, W3 = w2.alloc (.cells #[.int .i64 k, .int .u32 0, .string ⟨#[]⟩, .int .i64 0, .slice none 0 0] 30) := ⟨_, rfl⟩
        have hk3 : Kept w2 W3 := by rw [hW3]; exact box_below _ _
        obtain ⟨b3, hb3⟩ : ∃ b3, b3 = w2.heap.size := ⟨_, rfl⟩
        have hc3 : W3.heap[b3]? = some (.cells #[.int .i64 k, .int .u32 0, .string ⟨#[]⟩, .int .i64 0, .slice none 0 0] 30 (0, 0)) := by rw [hW3, hb3]; exact heap_alloc_last w2 _
        have hs3 : W3.heap.size = b3 + 1 := by rw [hW3, hb3]; simp
        have hz2l := (Array.getElem?_eq_some_iff.1 hz2).1
        have HQ3 : Hid (w.grownBy W3 (some b) ∧ W3.heap[w.heap.size]? = some (.cells #[.pointer (some ⟨b, 0, none⟩)] 99 (0, 0)) ∧ W3.heap[w.heap.size + 1]? = some (.cells zeroRc 30 (0, 0)) ∧ RdAt b t0 W3 ∧ W3.heap[b3]? = some (.cells #[.int .i64 k, .int .u32 0, .string ⟨#[]⟩, .int .i64 0, .slice none 0 0] 30 (0, 0)) ∧ w.heap.size + 1 < b3 ∧ W3.heap.size = b3 + 1) := Lib.hid
          ⟨grown_trans (grown_trans HK1.out hgr) (grown_below hk3 _), hk3.row hx2, hk3.row hz2, Kept.row hk3 hrd, hc3, by omega, hs3⟩
        have HB3 := Lib.hid hb3
        have HW3 := Lib.hid hW3
        have H3 := H W3
        clear hrd hgr hx2 hz2 hk3 hc3 hs3 hz2l hb3 hW3 HK1 HX1 HZ1 HRD1 C0 H
        go_wp2_with fail
        rw [← HB3.out, ← HW3.out]
        refine H3.mono ?_
        rintro e w3 ⟨rfl, hb⟩
        have kk3 : Kept W3 w3 := hb
        obtain ⟨W4, hW4⟩ : ∃ W4, W4 = w3.alloc (.cells #[.bool false, .bool true, .bool true] 78) := ⟨_, rfl⟩
        have hk4 : Kept W3 W4 := kk3.then (by rw [hW4]; exact box_below _ _)
        obtain ⟨b4, hb4⟩ : ∃ b4, b4 = w3.heap.size := ⟨_, rfl⟩
        have G0 : JK w b w.heap.size (w.heap.size + 1) b3 b4 t0 #[.int .i64 k, .int .u32 0, .string ⟨#[]⟩, .int .i64 0, .slice none 0 0] #[.bool false, .bool true, .bool true] W4 :=
          ⟨grown_trans HQ3.out.1 (grown_below hk4 _), hk4.row HQ3.out.2.1, hk4.row HQ3.out.2.2.1, Kept.row hk4 HQ3.out.2.2.2.1, hk4.row HQ3.out.2.2.2.2.1, by rw [hW4, hb4]; exact heap_alloc_last w3 _, ⟨HBW.out, Nat.le_refl _, by omega, HQ3.out.2.2.2.2.2.1, by have := kk3.size; have := HQ3.out.2.2.2.2.2.2; omega⟩⟩
        have HG := Lib.hid G0
        have x0 : (w3.alloc (.cells #[.bool false, .bool true, .bool true] 78)).cell? ⟨w.heap.size, 0, none⟩ = some (.pointer (some ⟨b, 0, none⟩)) := by rw [← hW4]; exact HG.out.cx
        have y0 : (w3.alloc (.cells #[.bool false, .bool true, .bool true] 78)).cell? ⟨w3.heap.size, 0, none⟩ = some (.bool false) := by rw [← hW4, ← hb4]; exact HG.out.cf 0
        have y1 : (w3.alloc (.cells #[.bool false, .bool true, .bool true] 78)).cell? ⟨w3.heap.size, 1, none⟩ = some (.bool true) := by rw [← hW4, ← hb4]; exact HG.out.cf 1
        have y2 : (w3.alloc (.cells #[.bool false, .bool true, .bool true] 78)).cell? ⟨w3.heap.size, 2, none⟩ = some (.bool true) := by rw [← hW4, ← hb4]; exact HG.out.cf 2
        have HB4 := Lib.hid hb4
        have HW4 := Lib.hid hW4
        clear hb kk3 hk4 G0 hb4 hW4 HQ3 HB3 HW3 H3
        go_wp2_with fail
        rw [← HB4.out, ← HW4.out]
        refine (jtext b t0 W4 HG.out.rk L0.out SN HSN.out t2 HT2.out).mono ?_
        rintro e WX1 ⟨rfl, hrd, hgr⟩
        clear x0 y0 y1 y2
        replace HG := Lib.hid (HG.out.read hrd hgr)
        have c0 : WX1.cell? ⟨b3, 2, none⟩ = some (.string ⟨#[]⟩) := by rw [cell_of_row _ _ _ _ _ _ HG.out.ck]; rfl
        have f0 := frozen_of_row WX1 b3 2 _ _ HG.out.ck
        replace HG := Lib.hid (HG.out.set 2 (.string SN))
        obtain ⟨WB1, hWB⟩ : ∃ W, W = WX1.setCell ⟨b3, 2, none⟩ (.string SN) := ⟨_, rfl⟩
        rw [← hWB] at HG
        have x0 : (WX1.setCell ⟨b3, 2, none⟩ (.string SN)).cell? ⟨w.heap.size, 0, none⟩ = some (.pointer (some ⟨b, 0, none⟩)) := by rw [← hWB]; exact HG.out.cx
        have y0 : (WX1.setCell ⟨b3, 2, none⟩ (.string SN)).cell? ⟨b4, 0, none⟩ = some (.bool false) := by rw [← hWB]; exact HG.out.cf 0
        have y1 : (WX1.setCell ⟨b3, 2, none⟩ (.string SN)).cell? ⟨b4, 1, none⟩ = some (.bool true) := by rw [← hWB]; exact HG.out.cf 1
        have y2 : (WX1.setCell ⟨b3, 2, none⟩ (.string SN)).cell? ⟨b4, 2, none⟩ = some (.bool true) := by rw [← hWB]; exact HG.out.cf 2
        have HWB := Lib.hid hWB
        clear hrd hgr hWB
        go_wp2_with fail
        rw [← HWB.out]
        refine (ju32 b t2 WB1 HG.out.rk L2.out z HZ.out t3 HT3.out).mono ?_
        rintro e WX2 ⟨rfl, hrd, hgr⟩
        clear x0 y0 y1 y2
        replace HG := Lib.hid (HG.out.read hrd hgr)
        have c0 : WX2.cell? ⟨b3, 3, none⟩ = some (.int .i64 0) := by rw [cell_of_row _ _ _ _ _ _ HG.out.ck]; rfl
        have f0 := frozen_of_row WX2 b3 3 _ _ HG.out.ck
        replace HG := Lib.hid (HG.out.set 3 (.int .i64 (z : Nat)))
        obtain ⟨WB2, hWB⟩ : ∃ W, W = WX2.setCell ⟨b3, 3, none⟩ (.int .i64 (z : Nat)) := ⟨_, rfl⟩
        rw [← hWB] at HG
        have x0 : (WX2.setCell ⟨b3, 3, none⟩ (.int .i64 (z : Nat))).cell? ⟨w.heap.size, 0, none⟩ = some (.pointer (some ⟨b, 0, none⟩)) := by rw [← hWB]; exact HG.out.cx
        have y0 : (WX2.setCell ⟨b3, 3, none⟩ (.int .i64 (z : Nat))).cell? ⟨b4, 0, none⟩ = some (.bool false) := by rw [← hWB]; exact HG.out.cf 0
        have y1 : (WX2.setCell ⟨b3, 3, none⟩ (.int .i64 (z : Nat))).cell? ⟨b4, 1, none⟩ = some (.bool true) := by rw [← hWB]; exact HG.out.cf 1
        have y2 : (WX2.setCell ⟨b3, 3, none⟩ (.int .i64 (z : Nat))).cell? ⟨b4, 2, none⟩ = some (.bool true) := by rw [← hWB]; exact HG.out.cf 2
        clear HWB
        have HWB := Lib.hid hWB
        clear hrd hgr hWB
        go_wp2_with fail
        rw [← HWB.out]
        refine (jruns b t3 WB2 HG.out.rk L3.out RL HRLL.out t4 HT4.out).mono ?_
        rintro e WX3 ⟨tv, rfl, ho, hrd, hgr⟩
        obtain ⟨pv, cv, hv, -, -⟩ := own_slice ho
        subst hv
        have HLT := Lib.hid (HG.out.lt3)
        have HO : Hid (OwnRuns w.heap.size RL (.slice pv RL.length cv) WX3 ∧ ∀ m, (Value.slice pv RL.length cv).ownBlock = some m → b3 < m) := Lib.hid ⟨own_base ho HG.out.grk.size, fun m hm => Nat.lt_of_lt_of_le HLT.out (ho.lt m hm).1⟩
        clear x0 y0 y1 y2
        replace HG := Lib.hid (HG.out.read hrd hgr)
        have c0 : WX3.cell? ⟨b3, 4, none⟩ = some (.slice none 0 0) := by rw [cell_of_row _ _ _ _ _ _ HG.out.ck]; rfl
        have f0 := frozen_of_row WX3 b3 4 _ _ HG.out.ck
        obtain ⟨rl, hrl⟩ : ∃ rl, rl = RL.length := ⟨_, rfl⟩
        rw [← hrl] at HO ⊢
        replace HG := Lib.hid (HG.out.set 4 (.slice pv rl cv))
        obtain ⟨WB3, hWB⟩ : ∃ W, W = WX3.setCell ⟨b3, 4, none⟩ (.slice pv rl cv) := ⟨_, rfl⟩
        rw [← hWB] at HG
        have x0 : (WX3.setCell ⟨b3, 4, none⟩ (.slice pv rl cv)).cell? ⟨w.heap.size, 0, none⟩ = some (.pointer (some ⟨b, 0, none⟩)) := by rw [← hWB]; exact HG.out.cx
        have y0 : (WX3.setCell ⟨b3, 4, none⟩ (.slice pv rl cv)).cell? ⟨b4, 0, none⟩ = some (.bool false) := by rw [← hWB]; exact HG.out.cf 0
        have y1 : (WX3.setCell ⟨b3, 4, none⟩ (.slice pv rl cv)).cell? ⟨b4, 1, none⟩ = some (.bool true) := by rw [← hWB]; exact HG.out.cf 1
        have y2 : (WX3.setCell ⟨b3, 4, none⟩ (.slice pv rl cv)).cell? ⟨b4, 2, none⟩ = some (.bool true) := by rw [← hWB]; exact HG.out.cf 2
        have HO2 : Hid (OwnRuns w.heap.size RL (.slice pv rl cv) WB3 ∧ ∀ m, (Value.slice pv rl cv).ownBlock = some m → b3 < m) := Lib.hid ⟨own_stay HO.out.1 (fun m hm => by rw [hWB]; exact heap_setCell_other _ _ _ _ (by have := HO.out.2 m hm; show m ≠ b3; omega)), HO.out.2⟩
        clear HWB
        have HWB := Lib.hid hWB
        clear hrd hgr hWB ho hrl
        obtain ⟨CF, hCF⟩ : ∃ CF : Array Value, CF = #[.int .i64 k, .int .u32 0, .string SN, .int .i64 (z : Nat), .slice pv rl cv] := ⟨_, rfl⟩
        have HCROW : Hid ((WX3.setCell ⟨b3, 4, none⟩ (.slice pv rl cv)).heap[b3]? = some (.cells CF 30 (0, 0))) := Lib.hid (by rw [hCF, ← HWB.out]; exact HG.out.ck)
        have HZROW : Hid ((WX3.setCell ⟨b3, 4, none⟩ (.slice pv rl cv)).heap[w.heap.size + 1]? = some (.cells zeroRc 30 (0, 0))) := Lib.hid (by rw [← HWB.out]; exact HG.out.zk)
        have HCS : Hid ((Tryd.prog.info? 30).map (·.size) = some CF.size) := Lib.hid (by rw [hCF]; exact infoRc)
        have HOL : Hid (zeroRc.size = CF.size) := Lib.hid (by rw [hCF]; rfl)
        have HON : Hid (CF.all (·.oneCell') = true) := Lib.hid (by rw [hCF]; exact all5 rfl rfl rfl rfl rfl)
        have HCX : Hid (.agg CF = recV (oneL s).1 (.slice pv rl cv)) := Lib.hid (by rw [hCF]; exact (congrArg Value.agg (HX.out _)).symm)
        obtain ⟨WE, hWE⟩ : ∃ W, W = (WX3.setCell ⟨b3, 4, none⟩ (.slice pv rl cv)).setRow (w.heap.size + 1) CF := ⟨_, rfl⟩
        have HWE := Lib.hid hWE
        clear hCF hWE
        go_wp2_with (first
          | (with_reducible refine wpList_load_row rfl _ _ rfl b3 rfl 30 CF (0, 0) _ HCROW.out Tryd.underlying30 rfl HCS.out ?_)
          | (with_reducible refine wpList_store_namedJ rfl _ _ _ rfl (w.heap.size + 1) CF rfl rfl 30 zeroRc HZROW.out HCS.out HOL.out HON.out WE HWE.out ?_)
          | fail)
        have hrow : WE.heap[w.heap.size + 1]? = some (.cells CF 30 (0, 0)) := by rw [HWE.out]; exact setRow_heap _ _ _ _ _ _ HZROW.out
        have hoth : ∀ k, k ≠ w.heap.size + 1 → WE.heap[k]? = WB3.heap[k]? := fun k hk => by rw [HWE.out, HWB.out]; exact setRow_other _ _ _ _ hk
        refine bodyPost_ret (results_cell_row Tryd.results114 _ _ (w.heap.size + 1) 30 CF (0, 0) _ rfl hrow Tryd.underlying30 rfl HCS.out) rfl ⟨.slice pv rl cv, by rw [HCX.out], ?_, ?_, ?_⟩
        · rw [HXR.out]; exact own_stay HO2.out.1 (fun m hm => hoth m (by have := HO2.out.2 m hm; have := HG.out.hk; omega))
        · rw [HXS.out]; exact HG.out.rk.stayK (hoth b (by have := HG.out.hk; omega))
        · have hg := HG.out.grk
          have hb := HG.out.hk
          refine ⟨by rw [HWE.out, ← HWB.out]; exact hg.os, by rw [HWE.out, ← HWB.out]; exact hg.tape, by rw [HWE.out, ← HWB.out]; exact hg.output, by rw [HWE.out, setRow_size, ← HWB.out]; exact hg.size, fun i hi hn => (hoth i (by omega)).trans (hg.block i hi hn)⟩
      | false =>
        have e1 : oneI s = (0, t0) := by rw [HO1.out, if_neg (by decide)]
        obtain ⟨SN, hSN⟩ : ∃ S, S = str (textR t0).1 := ⟨_, rfl⟩
        obtain ⟨t2, ht2⟩ : ∃ t, t = (textR t0).2 := ⟨_, rfl⟩
        have L2 : Hid (t2.1.length ≤ 1000000) := Lib.hid (by rw [ht2]; exact Nat.le_trans (textR_len _) L0.out)
        have e2 : oneN s = ((textR t0).1, t2) := by rw [HO2.out, if_pos rfl, e1, ht2]
        have HSN := Lib.hid hSN
        have HT2 := Lib.hid ht2
        clear hSN ht2
        have e3 : oneBL (k : Int) t2 = ((0, []), t2) := by unfold oneBL; rw [← HBB.out, if_neg (by decide)]
        have e4 : oneL s = (⟨(k : Int), 0, (textR t0).1, 0, []⟩, t2) := by rw [HO3.out, e1, e2, e3]
        have HX : Hid (∀ tv, recC (oneL s).1 tv = #[.int .i64 k, .int .u32 0, .string SN, .int .i64 0, tv]) := Lib.hid (fun tv => by rw [e4]; unfold recC; rw [HSN.out]; rfl)
        have HXR : Hid ((oneL s).1.runs = []) := Lib.hid (by rw [e4])
        have HXS : Hid ((oneL s).2 = t2) := Lib.hid (by rw [e4])
        clear e1 e2 e3 e4 HO1 HO2 HO3 HEX HEB
        go_enter Tryd.func114, Tryd.ntmps114
        go_wp2_with fail
        rw [← HW1.out]
        refine C0.mono ?_
        rintro e w2 ⟨rfl, hrd, hgr⟩
        have hx2 : w2.heap[w.heap.size]? = some (.cells #[.pointer (some ⟨b, 0, none⟩)] 99 (0, 0)) := by rw [hgr.block _ (Array.getElem?_eq_some_iff.1 HX1.out).1 (fun e => by have := Option.some.inj e; have := HBW.out; omega)]; exact HX1.out
        have hz2 : w2.heap[w.heap.size + 1]? = some (.cells zeroRc 30 (0, 0)) := by rw [hgr.block _ (Array.getElem?_eq_some_iff.1 HZ1.out).1 (fun e => by have := Option.some.inj e; have := HBW.out; omega)]; exact HZ1.out
        obtain ⟨W3, hW3⟩ : ∃ W3, W3 = w2.alloc (.cells #[.int .i64 k, .int .u32 0, .string ⟨#[]⟩, .int .i64 0, .slice none 0 0] 30) := ⟨_, rfl⟩
        have hk3 : Kept w2 W3 := by rw [hW3]; exact box_below _ _
        obtain ⟨b3, hb3⟩ : ∃ b3, b3 = w2.heap.size := ⟨_, rfl⟩
        have hc3 : W3.heap[b3]? = some (.cells #[.int .i64 k, .int .u32 0, .string ⟨#[]⟩, .int .i64 0, .slice none 0 0] 30 (0, 0)) := by rw [hW3, hb3]; exact heap_alloc_last w2 _
        have hs3 : W3.heap.size = b3 + 1 := by rw [hW3, hb3]; simp
        have hz2l := (Array.getElem?_eq_some_iff.1 hz2).1
        have HQ3 : Hid (w.grownBy W3 (some b) ∧ W3.heap[w.heap.size]? = some (.cells #[.pointer (some ⟨b, 0, none⟩)] 99 (0, 0)) ∧ W3.heap[w.heap.size + 1]? = some (.cells zeroRc 30 (0, 0)) ∧ RdAt b t0 W3 ∧ W3.heap[b3]? = some (.cells #[.int .i64 k, .int .u32 0, .string ⟨#[]⟩, .int .i64 0, .slice none 0 0] 30 (0, 0)) ∧ w.heap.size + 1 < b3 ∧ W3.heap.size = b3 + 1) := Lib.hid
          ⟨grown_trans (grown_trans HK1.out hgr) (grown_below hk3 _), hk3.row hx2, hk3.row hz2, Kept.row hk3 hrd, hc3, by omega, hs3⟩
        have HB3 := Lib.hid hb3
        have HW3 := Lib.hid hW3
        have H3 := H W3
        clear hrd hgr hx2 hz2 hk3 hc3 hs3 hz2l hb3 hW3 HK1 HX1 HZ1 HRD1 C0 H
        go_wp2_with fail
        rw [← HB3.out, ← HW3.out]
        refine H3.mono ?_
        rintro e w3 ⟨rfl, hb⟩
        have kk3 : Kept W3 w3 := hb
        obtain ⟨W4, hW4⟩ : ∃ W4, W4 = w3.alloc (.cells #[.bool false, .bool true, .bool false] 78) := ⟨_, rfl⟩
        have hk4 : Kept W3 W4 := kk3.then (by rw [hW4]; exact box_below _ _)
        obtain ⟨b4, hb4⟩ : ∃ b4, b4 = w3.heap.size := ⟨_, rfl⟩
        have G0 : JK w b w.heap.size (w.heap.size + 1) b3 b4 t0 #[.int .i64 k, .int .u32 0, .string ⟨#[]⟩, .int .i64 0, .slice none 0 0] #[.bool false, .bool true, .bool false] W4 :=
          ⟨grown_trans HQ3.out.1 (grown_below hk4 _), hk4.row HQ3.out.2.1, hk4.row HQ3.out.2.2.1, Kept.row hk4 HQ3.out.2.2.2.1, hk4.row HQ3.out.2.2.2.2.1, by rw [hW4, hb4]; exact heap_alloc_last w3 _, ⟨HBW.out, Nat.le_refl _, by omega, HQ3.out.2.2.2.2.2.1, by have := kk3.size; have := HQ3.out.2.2.2.2.2.2; omega⟩⟩
        have HG := Lib.hid G0
        have x0 : (w3.alloc (.cells #[.bool false, .bool true, .bool false] 78)).cell? ⟨w.heap.size, 0, none⟩ = some (.pointer (some ⟨b, 0, none⟩)) := by rw [← hW4]; exact HG.out.cx
        have y0 : (w3.alloc (.cells #[.bool false, .bool true, .bool false] 78)).cell? ⟨w3.heap.size, 0, none⟩ = some (.bool false) := by rw [← hW4, ← hb4]; exact HG.out.cf 0
        have y1 : (w3.alloc (.cells #[.bool false, .bool true, .bool false] 78)).cell? ⟨w3.heap.size, 1, none⟩ = some (.bool true) := by rw [← hW4, ← hb4]; exact HG.out.cf 1
        have y2 : (w3.alloc (.cells #[.bool false, .bool true, .bool false] 78)).cell? ⟨w3.heap.size, 2, none⟩ = some (.bool false) := by rw [← hW4, ← hb4]; exact HG.out.cf 2
        have HB4 := Lib.hid hb4
        have HW4 := Lib.hid hW4
        clear hb kk3 hk4 G0 hb4 hW4 HQ3 HB3 HW3 H3
        go_wp2_with fail
        rw [← HB4.out, ← HW4.out]
        refine (jtext b t0 W4 HG.out.rk L0.out SN HSN.out t2 HT2.out).mono ?_
        rintro e WX1 ⟨rfl, hrd, hgr⟩
        clear x0 y0 y1 y2
        replace HG := Lib.hid (HG.out.read hrd hgr)
        have c0 : WX1.cell? ⟨b3, 2, none⟩ = some (.string ⟨#[]⟩) := by rw [cell_of_row _ _ _ _ _ _ HG.out.ck]; rfl
        have f0 := frozen_of_row WX1 b3 2 _ _ HG.out.ck
        replace HG := Lib.hid (HG.out.set 2 (.string SN))
        obtain ⟨WB1, hWB⟩ : ∃ W, W = WX1.setCell ⟨b3, 2, none⟩ (.string SN) := ⟨_, rfl⟩
        rw [← hWB] at HG
        have x0 : (WX1.setCell ⟨b3, 2, none⟩ (.string SN)).cell? ⟨w.heap.size, 0, none⟩ = some (.pointer (some ⟨b, 0, none⟩)) := by rw [← hWB]; exact HG.out.cx
        have y0 : (WX1.setCell ⟨b3, 2, none⟩ (.string SN)).cell? ⟨b4, 0, none⟩ = some (.bool false) := by rw [← hWB]; exact HG.out.cf 0
        have y1 : (WX1.setCell ⟨b3, 2, none⟩ (.string SN)).cell? ⟨b4, 1, none⟩ = some (.bool true) := by rw [← hWB]; exact HG.out.cf 1
        have y2 : (WX1.setCell ⟨b3, 2, none⟩ (.string SN)).cell? ⟨b4, 2, none⟩ = some (.bool false) := by rw [← hWB]; exact HG.out.cf 2
        have HWB := Lib.hid hWB
        clear hrd hgr hWB
        obtain ⟨CF, hCF⟩ : ∃ CF : Array Value, CF = #[.int .i64 k, .int .u32 0, .string SN, .int .i64 0, .slice none 0 0] := ⟨_, rfl⟩
        have HCROW : Hid ((WX1.setCell ⟨b3, 2, none⟩ (.string SN)).heap[b3]? = some (.cells CF 30 (0, 0))) := Lib.hid (by rw [hCF, ← HWB.out]; exact HG.out.ck)
        have HZROW : Hid ((WX1.setCell ⟨b3, 2, none⟩ (.string SN)).heap[w.heap.size + 1]? = some (.cells zeroRc 30 (0, 0))) := Lib.hid (by rw [← HWB.out]; exact HG.out.zk)
        have HCS : Hid ((Tryd.prog.info? 30).map (·.size) = some CF.size) := Lib.hid (by rw [hCF]; exact infoRc)
        have HOL : Hid (zeroRc.size = CF.size) := Lib.hid (by rw [hCF]; rfl)
        have HON : Hid (CF.all (·.oneCell') = true) := Lib.hid (by rw [hCF]; exact all5 rfl rfl rfl rfl rfl)
        have HCX : Hid (.agg CF = recV (oneL s).1 (.slice none 0 0)) := Lib.hid (by rw [hCF]; exact (congrArg Value.agg (HX.out _)).symm)
        obtain ⟨WE, hWE⟩ : ∃ W, W = (WX1.setCell ⟨b3, 2, none⟩ (.string SN)).setRow (w.heap.size + 1) CF := ⟨_, rfl⟩
        have HWE := Lib.hid hWE
        clear hCF hWE
        go_wp2_with (first
          | (with_reducible refine wpList_load_row rfl _ _ rfl b3 rfl 30 CF (0, 0) _ HCROW.out Tryd.underlying30 rfl HCS.out ?_)
          | (with_reducible refine wpList_store_namedJ rfl _ _ _ rfl (w.heap.size + 1) CF rfl rfl 30 zeroRc HZROW.out HCS.out HOL.out HON.out WE HWE.out ?_)
          | fail)
        have hrow : WE.heap[w.heap.size + 1]? = some (.cells CF 30 (0, 0)) := by rw [HWE.out]; exact setRow_heap _ _ _ _ _ _ HZROW.out
        have hoth : ∀ k, k ≠ w.heap.size + 1 → WE.heap[k]? = WB1.heap[k]? := fun k hk => by rw [HWE.out, HWB.out]; exact setRow_other _ _ _ _ hk
        refine bodyPost_ret (results_cell_row Tryd.results114 _ _ (w.heap.size + 1) 30 CF (0, 0) _ rfl hrow Tryd.underlying30 rfl HCS.out) rfl ⟨.slice none 0 0, by rw [HCX.out], ?_, ?_, ?_⟩
        · rw [HXR.out]; exact World.ownsRow_nil _ _ _ _
        · rw [HXS.out]; exact HG.out.rk.stayK (hoth b (by have := HG.out.hk; omega))
        · have hg := HG.out.grk
          have hb := HG.out.hk
          refine ⟨by rw [HWE.out, ← HWB.out]; exact hg.os, by rw [HWE.out, ← HWB.out]; exact hg.tape, by rw [HWE.out, ← HWB.out]; exact hg.output, by rw [HWE.out, setRow_size, ← HWB.out]; exact hg.size, fun i hi hn => (hoth i (by omega)).trans (hg.block i hi hn)⟩
    | false =>
      obtain rfl : bb = false := by
        cases bb with
        | false => rfl
        | true => have := HEB.out rfl rfl; cases this
      have e1 : oneI s = (0, t0) := by rw [HO1.out, if_neg (by decide)]
      have e2 : oneN s = ([], t0) := by rw [HO2.out, if_neg (by decide), e1]
      have e3 : oneBL (k : Int) t0 = ((0, []), t0) := by unfold oneBL; rw [← HBB.out, if_neg (by decide)]
      have e4 : oneL s = (⟨(k : Int), 0, [], 0, []⟩, t0) := by rw [HO3.out, e1, e2, e3]
      have HX : Hid (∀ tv, recC (oneL s).1 tv = #[.int .i64 k, .int .u32 0, .string ⟨#[]⟩, .int .i64 0, tv]) := Lib.hid (fun tv => by rw [e4]; unfold recC; rfl)
      have HXR : Hid ((oneL s).1.runs = []) := Lib.hid (by rw [e4])
      have HXS : Hid ((oneL s).2 = t0) := Lib.hid (by rw [e4])
      clear e1 e2 e3 e4 HO1 HO2 HO3 HEX HEB
      go_enter Tryd.func114, Tryd.ntmps114
      go_wp2_with fail
      rw [← HW1.out]
      refine C0.mono ?_
      rintro e w2 ⟨rfl, hrd, hgr⟩
      have hx2 : w2.heap[w.heap.size]? = some (.cells #[.pointer (some ⟨b, 0, none⟩)] 99 (0, 0)) := by rw [hgr.block _ (Array.getElem?_eq_some_iff.1 HX1.out).1 (fun e => by have := Option.some.inj e; have := HBW.out; omega)]; exact HX1.out
      have hz2 : w2.heap[w.heap.size + 1]? = some (.cells zeroRc 30 (0, 0)) := by rw [hgr.block _ (Array.getElem?_eq_some_iff.1 HZ1.out).1 (fun e => by have := Option.some.inj e; have := HBW.out; omega)]; exact HZ1.out
      obtain ⟨W3, hW3⟩ : ∃ W3, W3 = w2.alloc (.cells #[.int .i64 k, .int .u32 0, .string ⟨#[]⟩, .int .i64 0, .slice none 0 0] 30) := ⟨_, rfl⟩
      have hk3 : Kept w2 W3 := by rw [hW3]; exact box_below _ _
      obtain ⟨b3, hb3⟩ : ∃ b3, b3 = w2.heap.size := ⟨_, rfl⟩
      have hc3 : W3.heap[b3]? = some (.cells #[.int .i64 k, .int .u32 0, .string ⟨#[]⟩, .int .i64 0, .slice none 0 0] 30 (0, 0)) := by rw [hW3, hb3]; exact heap_alloc_last w2 _
      have hs3 : W3.heap.size = b3 + 1 := by rw [hW3, hb3]; simp
      have hz2l := (Array.getElem?_eq_some_iff.1 hz2).1
      have HQ3 : Hid (w.grownBy W3 (some b) ∧ W3.heap[w.heap.size]? = some (.cells #[.pointer (some ⟨b, 0, none⟩)] 99 (0, 0)) ∧ W3.heap[w.heap.size + 1]? = some (.cells zeroRc 30 (0, 0)) ∧ RdAt b t0 W3 ∧ W3.heap[b3]? = some (.cells #[.int .i64 k, .int .u32 0, .string ⟨#[]⟩, .int .i64 0, .slice none 0 0] 30 (0, 0)) ∧ w.heap.size + 1 < b3 ∧ W3.heap.size = b3 + 1) := Lib.hid
        ⟨grown_trans (grown_trans HK1.out hgr) (grown_below hk3 _), hk3.row hx2, hk3.row hz2, Kept.row hk3 hrd, hc3, by omega, hs3⟩
      have HB3 := Lib.hid hb3
      have HW3 := Lib.hid hW3
      have H3 := H W3
      clear hrd hgr hx2 hz2 hk3 hc3 hs3 hz2l hb3 hW3 HK1 HX1 HZ1 HRD1 C0 H
      go_wp2_with fail
      rw [← HB3.out, ← HW3.out]
      refine H3.mono ?_
      rintro e w3 ⟨rfl, hb⟩
      have kk3 : Kept W3 w3 := hb
      obtain ⟨W4, hW4⟩ : ∃ W4, W4 = w3.alloc (.cells #[.bool false, .bool false, .bool false] 78) := ⟨_, rfl⟩
      have hk4 : Kept W3 W4 := kk3.then (by rw [hW4]; exact box_below _ _)
      obtain ⟨b4, hb4⟩ : ∃ b4, b4 = w3.heap.size := ⟨_, rfl⟩
      have G0 : JK w b w.heap.size (w.heap.size + 1) b3 b4 t0 #[.int .i64 k, .int .u32 0, .string ⟨#[]⟩, .int .i64 0, .slice none 0 0] #[.bool false, .bool false, .bool false] W4 :=
        ⟨grown_trans HQ3.out.1 (grown_below hk4 _), hk4.row HQ3.out.2.1, hk4.row HQ3.out.2.2.1, Kept.row hk4 HQ3.out.2.2.2.1, hk4.row HQ3.out.2.2.2.2.1, by rw [hW4, hb4]; exact heap_alloc_last w3 _, ⟨HBW.out, Nat.le_refl _, by omega, HQ3.out.2.2.2.2.2.1, by have := kk3.size; have := HQ3.out.2.2.2.2.2.2; omega⟩⟩
      have HG := Lib.hid G0
      have x0 : (w3.alloc (.cells #[.bool false, .bool false, .bool false] 78)).cell? ⟨w.heap.size, 0, none⟩ = some (.pointer (some ⟨b, 0, none⟩)) := by rw [← hW4]; exact HG.out.cx
      have y0 : (w3.alloc (.cells #[.bool false, .bool false, .bool false] 78)).cell? ⟨w3.heap.size, 0, none⟩ = some (.bool false) := by rw [← hW4, ← hb4]; exact HG.out.cf 0
      have y1 : (w3.alloc (.cells #[.bool false, .bool false, .bool false] 78)).cell? ⟨w3.heap.size, 1, none⟩ = some (.bool false) := by rw [← hW4, ← hb4]; exact HG.out.cf 1
      have y2 : (w3.alloc (.cells #[.bool false, .bool false, .bool false] 78)).cell? ⟨w3.heap.size, 2, none⟩ = some (.bool false) := by rw [← hW4, ← hb4]; exact HG.out.cf 2
      have HB4 := Lib.hid hb4
      have HW4 := Lib.hid hW4
      clear hb kk3 hk4 G0 hb4 hW4 HQ3 HB3 HW3 H3
      obtain ⟨CF, hCF⟩ : ∃ CF : Array Value, CF = #[.int .i64 k, .int .u32 0, .string ⟨#[]⟩, .int .i64 0, .slice none 0 0] := ⟨_, rfl⟩
      have HCROW : Hid ((w3.alloc (.cells #[.bool false, .bool false, .bool false] 78)).heap[b3]? = some (.cells CF 30 (0, 0))) := Lib.hid (by rw [hCF, ← HW4.out]; exact HG.out.ck)
      have HZROW : Hid ((w3.alloc (.cells #[.bool false, .bool false, .bool false] 78)).heap[w.heap.size + 1]? = some (.cells zeroRc 30 (0, 0))) := Lib.hid (by rw [← HW4.out]; exact HG.out.zk)
      have HCS : Hid ((Tryd.prog.info? 30).map (·.size) = some CF.size) := Lib.hid (by rw [hCF]; exact infoRc)
      have HOL : Hid (zeroRc.size = CF.size) := Lib.hid (by rw [hCF]; rfl)
      have HON : Hid (CF.all (·.oneCell') = true) := Lib.hid (by rw [hCF]; exact all5 rfl rfl rfl rfl rfl)
      have HCX : Hid (.agg CF = recV (oneL s).1 (.slice none 0 0)) := Lib.hid (by rw [hCF]; exact (congrArg Value.agg (HX.out _)).symm)
      obtain ⟨WE, hWE⟩ : ∃ W, W = (w3.alloc (.cells #[.bool false, .bool false, .bool false] 78)).setRow (w.heap.size + 1) CF := ⟨_, rfl⟩
      have HWE := Lib.hid hWE
      clear hCF hWE
      go_wp2_with (first
        | (with_reducible refine wpList_load_row rfl _ _ rfl b3 rfl 30 CF (0, 0) _ HCROW.out Tryd.underlying30 rfl HCS.out ?_)
        | (with_reducible refine wpList_store_namedJ rfl _ _ _ rfl (w.heap.size + 1) CF rfl rfl 30 zeroRc HZROW.out HCS.out HOL.out HON.out WE HWE.out ?_)
        | fail)
      have hrow : WE.heap[w.heap.size + 1]? = some (.cells CF 30 (0, 0)) := by rw [HWE.out]; exact setRow_heap _ _ _ _ _ _ HZROW.out
      have hoth : ∀ k, k ≠ w.heap.size + 1 → WE.heap[k]? = W4.heap[k]? := fun k hk => by rw [HWE.out, HW4.out]; exact setRow_other _ _ _ _ hk
      refine bodyPost_ret (results_cell_row Tryd.results114 _ _ (w.heap.size + 1) 30 CF (0, 0) _ rfl hrow Tryd.underlying30 rfl HCS.out) rfl ⟨.slice none 0 0, by rw [HCX.out], ?_, ?_, ?_⟩
      · rw [HXR.out]; exact World.ownsRow_nil _ _ _ _
      · rw [HXS.out]; exact HG.out.rk.stayK (hoth b (by have := HG.out.hk; omega))
      · have hg := HG.out.grk
        have hb := HG.out.hk
        refine ⟨by rw [HWE.out, ← HW4.out]; exact hg.os, by rw [HWE.out, ← HW4.out]; exact hg.tape, by rw [HWE.out, ← HW4.out]; exact hg.output, by rw [HWE.out, setRow_size, ← HW4.out]; exact hg.size, fun i hi hn => (hoth i (by omega)).trans (hg.block i hi hn)⟩

end Go.Proofs.YtoigembmbajopaaDoor
