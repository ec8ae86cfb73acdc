/- The landed super's reader of sectors. The landed super's superblock, Get. The landed super's Get. The landed super's Pick. -/
import Derived.Test.YtlfmmhalheohdaaDoorGI
import Derived.Test.YtlfmmhalheohdaaDoorGE
namespace Go.Proofs.YtlfmmhalheohdaaDoor
open Go.RowKit

/-- So many runs, read one behind another. -/
def runsRd : Nat → RdSt → List (Int × Int) × RdSt
  | 0, s => ([], s)
  | k + 1, s => ((runsRd k s).1 ++ [(((numR (runsRd k s).2 2).1 : Int), ((numR (numR (runsRd k s).2 2).2 2).1 : Int))], (numR (numR (runsRd k s).2 2).2 2).2)
theorem runsRd_len (k : Nat) (s : RdSt) : (runsRd k s).1.length = k := by
  induction k with
  | zero => rfl
  | succ k ih => unfold runsRd; rw [List.length_append, ih]; rfl
theorem runsRd_wf (k : Nat) (s : RdSt) : wfR (runsRd k s).1 := by
  induction k with
  | zero => exact wfR_nil
  | succ k ih =>
    intro r hr
    unfold runsRd at hr
    simp only at hr
    rcases List.mem_append.1 hr with hr | hr
    · exact ih r hr
    · rw [List.mem_singleton.1 hr]
      have h1 := numR_lt (runsRd k s).2 2
      have h2 := numR_lt (numR (runsRd k s).2 2).2 2
      simp only
      omega
theorem runsRd_le (k : Nat) (s : RdSt) : (runsRd k s).2.1.length ≤ s.1.length := by
  induction k with
  | zero => exact Nat.le_refl _
  | succ k ih =>
    unfold runsRd
    simp only
    exact Nat.le_trans (numR_len _ _) (Nat.le_trans (numR_len _ _) ih)

structure Chain (s : RdSt) (s0 s1 s2 s3 s4 s5 s6 s7 s8 : RdSt) (q a b c d n : Nat) : Prop where
  e0 : (takeR s 8).2 = s0
  e1 : numR s0 8 = (q, s1)
  e2 : numR s1 4 = (a, s2)
  e3 : numR s2 4 = (b, s3)
  e4 : numR s3 4 = (c, s4)
  e5 : numR s4 4 = (d, s5)
  e6 : numR s5 2 = (n, s6)
  e7 : (numR s6 2).2 = s7
  e8 : (runsRd (min n 16) s7).2 = s8
/-- The superblock that a reader says. -/
def sbRd (s : RdSt) : Sb :=
  let s0 := (takeR s 8).2
  let q := numR s0 8
  let a := numR q.2 4
  let b := numR a.2 4
  let c := numR b.2 4
  let d := numR c.2 4
  let n := numR d.2 2
  ⟨q.1, a.1, b.1, c.1, d.1, (runsRd (min n.1 16) (numR n.2 2).2).1⟩
theorem numR_drop (t : List UInt8) (i k : Nat) (h : i + k ≤ t.length) : numR (t.drop i, 0) k = (fieldN t i k, (t.drop (i + k), 0)) := by
  unfold numR
  rw [takeR_val _ _ (by rw [List.length_drop]; omega)]
  unfold fieldN
  rw [List.drop_drop]
theorem runsRd_drop (t : List UInt8) (h : t.length = 128) : ∀ k, k ≤ 16 → runsRd k (t.drop 36, 0) = ((List.range k).map (getRun t), (t.drop (36 + 4 * k), 0))
  | 0, _ => rfl
  | k + 1, hk => by
    have ih := runsRd_drop t h k (by omega)
    unfold runsRd
    rw [ih]
    simp only
    rw [numR_drop t _ 2 (by omega)]
    simp only
    rw [numR_drop t _ 2 (by omega)]
    simp only
    rw [List.range_succ, List.map_append]
    refine Prod.ext ?_ ?_
    · show _ = _ ++ [getRun t k]
      unfold getRun
      rw [show 36 + 4 * k + 2 = 38 + 4 * k by omega]
    · show (t.drop _, (0 : Int)) = _
      rw [show 36 + 4 * k + 2 + 2 = 36 + 4 * (k + 1) by omega]
theorem sbRd_get (t : List UInt8) (h : t.length = 128) : sbRd (t, 0) = getR t := by
  unfold sbRd
  have e0 : (takeR (t, 0) 8).2 = (t.drop 8, 0) := by
    have := takeR_val t 8 (by omega)
    rw [show ((8 : Nat) : Int) = 8 from rfl] at this
    rw [this]
  simp only
  rw [e0, numR_drop t 8 8 (by omega)]
  simp only
  rw [numR_drop t _ 4 (by omega)]
  simp only
  rw [numR_drop t _ 4 (by omega)]
  simp only
  rw [numR_drop t _ 4 (by omega)]
  simp only
  rw [numR_drop t _ 4 (by omega)]
  simp only
  rw [numR_drop t _ 2 (by omega)]
  simp only
  rw [numR_drop t _ 2 (by omega)]
  simp only
  rw [show (8 + 8 + 4 + 4 + 4 + 4 + 2 + 2) = 36 from rfl, runsRd_drop t h _ (by omega)]
  rfl
theorem sbRd_wf (s : RdSt) : (sbRd s).wf ∧ wfR (sbRd s).runs ∧ (sbRd s).runs.length ≤ 16 := by
  have h1 := numR_lt (takeR s 8).2 8
  have h2 := numR_lt (numR (takeR s 8).2 8).2 4
  have h3 := numR_lt (numR (numR (takeR s 8).2 8).2 4).2 4
  have h4 := numR_lt (numR (numR (numR (takeR s 8).2 8).2 4).2 4).2 4
  have h5 := numR_lt (numR (numR (numR (numR (takeR s 8).2 8).2 4).2 4).2 4).2 4
  refine ⟨⟨?_, ?_, ?_, ?_, ?_⟩, runsRd_wf _ _, ?_⟩
  · show (numR (takeR s 8).2 8).1 < _; omega
  · show _ ≤ ((numR (numR (takeR s 8).2 8).2 4).1 : Int) ∧ ((numR (numR (takeR s 8).2 8).2 4).1 : Int) ≤ _; omega
  · show _ ≤ ((numR (numR (numR (takeR s 8).2 8).2 4).2 4).1 : Int) ∧ ((numR (numR (numR (takeR s 8).2 8).2 4).2 4).1 : Int) ≤ _; omega
  · show _ ≤ ((numR (numR (numR (numR (takeR s 8).2 8).2 4).2 4).2 4).1 : Int) ∧ ((numR (numR (numR (numR (takeR s 8).2 8).2 4).2 4).2 4).1 : Int) ≤ _; omega
  · show _ ≤ ((numR (numR (numR (numR (numR (takeR s 8).2 8).2 4).2 4).2 4).2 4).1 : Int) ∧ ((numR (numR (numR (numR (numR (takeR s 8).2 8).2 4).2 4).2 4).2 4).1 : Int) ≤ _; omega
  · show (runsRd _ _).1.length ≤ 16; rw [runsRd_len]; omega

def rdV (b : Nat) : Value := .pointer (some ⟨b, 0, none⟩)

set_option maxRecDepth 100000 in
set_option maxHeartbeats 1000000 in
theorem snum_any (b : Nat) (s : RdSt) (w : World) (h : RdAt b s w) (hl : s.1.length ≤ 1000000) :
    Calls Tryd.prog 62 #[.agg #[.pointer (some ⟨b, 0, none⟩)]] w (RdPost b (.int .i64 (numR s 4).1) (numR s 4).2 w) := by
  have hb : (numR s 4).1 < 4294967296 := numR_lt s 4
  have g1 : w.grownBy (w.alloc (.cells #[.pointer (some ⟨b, 0, none⟩)] 68)) (some b) := grown_below (box_below _ _) _
  have CU := u32r_any b s _ (Kept.row (box_below _ (.cells #[.pointer (some ⟨b, 0, none⟩)] 68)) h) hl
  obtain ⟨x, hx⟩ : ∃ x, x = (numR s 4).1 := ⟨_, rfl⟩
  have v : IntKind.i64.wrap (x : Int) = x := IntWalk.i64_in _ (by omega)
  rw [← hx] at CU ⊢
  have HG1 := Lib.hid g1
  clear hb hx g1
  go_enter Tryd.func62, Tryd.ntmps62
  go_wp2_with fail
  refine CU.mono ?_
  rintro e w1 ⟨rfl, h1, h2⟩
  go_wp2
  go_ret
  exact ⟨rfl, h1, grown_trans HG1.out h2⟩

theorem wpList_minS {P : Program} {ops : Array Oper} {rest : List Oper} {o : Oper} {a : Act} {w : World} {Q : Exit → Act → World → Prop} (hgd : o.guard = none) (x y : Operand) (t u : TypeId)
    (ho : o.op = .call { callee := .builtin .min, args := #[x, y], argTypes := #[t, u] }) (k k' : IntKind) (m n r : Int) (hx : a.eval x = .int k m) (hy : a.eval y = .int k' n) (hr : (if n < m then n else m) = r)
    (h : wpList P ops Q rest (a.put o.dst (.int k r)) w) : wpList P ops Q (o :: rest) a w := by
  refine wpList_plain hgd fun K hK => ?_
  subst hr
  unfold Oper.wp execOp
  simp only [ho, resolve, invoke, builtin, Sem.run_bind, Sem.run_pure, Result.andThen_ok, List.map_toArray, List.map_cons, List.map_nil, hx, hy, run_min_int2]
  exact hK _ _ h

/-- What stands while runs are read. -/
structure RI (w0 : World) (b bx : Nat) (s : RdSt) (w : World) : Prop where
  gr : w0.grownBy w (some b)
  rd : RdAt b s w
  rowx : w.heap[bx]? = some (.cells #[.pointer (some ⟨b, 0, none⟩)] 68 (0, 0))
theorem RI.read {w0 : World} {b bx : Nat} {s s' : RdSt} {w w' : World} (h : RI w0 b bx s w) (hne : bx ≠ b) (hr : RdAt b s' w') (hg : w.grownBy w' (some b)) : RI w0 b bx s' w' where
  gr := grown_trans h.gr hg
  rd := hr
  rowx := by rw [hg.block bx (Array.getElem?_eq_some_iff.1 h.rowx).1 (fun e => hne (Option.some.inj e))]; exact h.rowx
theorem RI.kept {w0 : World} {b bx : Nat} {s : RdSt} {w w' : World} (h : RI w0 b bx s w) (k : Kept w w') : RI w0 b bx s w' where
  gr := grown_trans h.gr (grown_below k _)
  rd := k.row h.rd
  rowx := k.row h.rowx
theorem RI.own {w0 : World} {b bx : Nat} {s : RdSt} {w w' : World} (h : RI w0 b bx s w) {base n : Nat} {v : Value} {xs : List Value} {T : TypeId} {sz : Nat} (hb : b < base) (hx : bx < base) (h0 : w0.heap.size ≤ base) (ho : w.ownsRow base T sz v n xs) (hg : w.grownBy w' v.ownBlock) : RI w0 b bx s w' where
  gr := ⟨hg.os.trans h.gr.os, hg.tape.trans h.gr.tape, hg.output.trans h.gr.output, Nat.le_trans h.gr.size hg.size, fun k hk hn => by
    rw [hg.block k (Nat.lt_of_lt_of_le hk h.gr.size) (fun e => by have := (ho.lt k e.symm).1; omega)]
    exact h.gr.block k hk hn⟩
  rd := by
    have hl := h.rd.lt
    unfold RdAt at *
    rw [hg.block b hl (fun e => by have := (ho.lt b e.symm).1; omega)]
    exact h.rd
  rowx := by rw [hg.block bx (Array.getElem?_eq_some_iff.1 h.rowx).1 (fun e => by have := (ho.lt bx e.symm).1; omega)]; exact h.rowx

/-- What runs returns. -/
def RunsPost (b : Nat) (s : RdSt) (w : World) (e : Ending) (w' : World) : Prop :=
  ∃ v, e = .returned v ∧ OwnRuns w.heap.size (runsRd (min (numR s 2).1 16) (numR (numR s 2).2 2).2).1 v w' ∧ RdAt b (runsRd (min (numR s 2).1 16) (numR (numR s 2).2 2).2).2 w' ∧ w.grownBy w' (some b)

set_option maxRecDepth 100000 in
set_option maxHeartbeats 8000000 in
theorem sruns_any (b : Nat) (s : RdSt) (w : World) (h : RdAt b s w) (hl : s.1.length ≤ 1000000) :
    Calls Tryd.prog 63 #[.agg #[.pointer (some ⟨b, 0, none⟩)]] w (RunsPost b s w) := by
  obtain ⟨ir, hir, hzz⟩ := Option.map_eq_some_iff.1 infoRn
  simp only [Prod.mk.injEq] at hzz
  obtain ⟨hz0, hz1, hz2⟩ := hzz
  have HIR := Lib.hid hir
  have HZ0 := Lib.hid hz0
  have HZ1 := Lib.hid hz1
  have HZ2 := Lib.hid hz2
  have hblt := h.lt
  obtain ⟨W0, hW0⟩ : ∃ W0, W0 = w.alloc (.cells #[.pointer (some ⟨b, 0, none⟩)] 68) := ⟨_, rfl⟩
  have HI0 : Hid (RI w b w.heap.size s W0) := Lib.hid (by
    rw [hW0]
    exact ⟨grown_below (box_below _ _) _, Kept.row (box_below _ _) h, heap_alloc_last w _⟩)
  have HSZ0 : Hid (W0.heap.size = w.heap.size + 1) := Lib.hid (by rw [hW0]; simp)
  have HW0 := Lib.hid hW0
  have HNE : Hid (w.heap.size ≠ b ∧ b < w.heap.size) := Lib.hid (by omega)
  have C1 := u16r_any b s W0 HI0.out.rd hl
  have hn1 := numR_lt s 2
  have hl1 := numR_len s 2
  obtain ⟨n0, s1, hns⟩ : ∃ n0 s1, numR s 2 = (n0, s1) := ⟨_, _, rfl⟩
  rw [hns] at C1 hn1 hl1
  simp only at C1 hn1 hl1
  have hl2 := numR_len s1 2
  obtain ⟨s2, hs2⟩ : ∃ s2, s2 = (numR s1 2).2 := ⟨_, rfl⟩
  rw [← hs2] at hl2
  obtain ⟨N, hN⟩ : ∃ N, N = min n0 16 := ⟨_, rfl⟩
  have HP : Hid (RunsPost b s w = fun e w' => ∃ v, e = .returned v ∧ OwnRuns w.heap.size (runsRd N s2).1 v w' ∧ RdAt b (runsRd N s2).2 w' ∧ w.grownBy w' (some b)) := Lib.hid (by
    funext e w'
    unfold RunsPost
    rw [hns]
    simp only
    rw [← hs2, ← hN])
  have hN16 : N ≤ 16 := by omega
  have HMN : Hid ((if (16 : Int) < (n0 : Int) then (16 : Int) else (n0 : Int)) = N) := Lib.hid (by split <;> omega)
  have HS2 := Lib.hid hs2
  have HL1 : Hid (s1.1.length ≤ 1000000) := Lib.hid (by omega)
  have HL2 : Hid (s2.1.length ≤ 1000000) := Lib.hid (by omega)
  rw [HP.out]
  clear hir hz0 hz1 hz2 h hl hblt hW0 hn1 hl1 hl2 hns hs2 hN
  go_enter Tryd.func63, Tryd.ntmps63
  go_wp2_with fail
  rw [← HW0.out]
  refine C1.mono ?_
  rintro e w1 ⟨rfl, hr1, hg1⟩
  have HI1 := Lib.hid (HI0.out.read HNE.out.1 hr1 hg1)
  have x0 : w1.cell? ⟨w.heap.size, 0, none⟩ = some (.pointer (some ⟨b, 0, none⟩)) := by rw [cell_of_row _ _ _ _ _ _ HI1.out.rowx]; rfl
  have C2 := u16r_any b s1 w1 HI1.out.rd HL1.out
  rw [← HS2.out] at C2
  have HSZ1 : Hid (w.heap.size + 1 ≤ w1.heap.size) := Lib.hid (by have := hg1.size; have := HSZ0.out; omega)
  clear hr1 hg1 C1 HI0
  go_wp2_with (first
    | (with_reducible refine wpList_minS rfl _ _ _ _ rfl .u16 .u16 n0 16 N rfl rfl HMN.out ?_)
    | fail)
  refine C2.mono ?_
  rintro e w2 ⟨rfl, hr2, hg2⟩
  have HI2 := Lib.hid (HI1.out.read HNE.out.1 hr2 hg2)
  have HSZ2 : Hid (w.heap.size + 1 ≤ w2.heap.size) := Lib.hid (by have := hg2.size; have := HSZ1.out; omega)
  have OW0 : Hid (w2.ownsRow (w.heap.size + 1) 48 2 (.slice none 0 0) 0 (runC [])) := Lib.hid (World.ownsRow_nil _ _ _ _)
  clear hr2 hg2 C2 HI1 HSZ1 x0 HSZ0
  go_wp2
  go_loopg [4, 14] N (fun gh s4 s14 wx => ∃ k : Nat, k + gh = N ∧ s14 = .int .u16 k ∧ Hid (wx.ownsRow (w.heap.size + 1) 48 2 s4 k (runC (runsRd k s2).1)) ∧ Hid (RI w b w.heap.size (runsRd k s2).2 wx) ∧ Hid (w.heap.size + 1 ≤ wx.heap.size))
  case atStart => exact ⟨0, by omega, rfl, OW0, HI2, HSZ2⟩
  case round =>
    clear OW0 HI2 HSZ2
    obtain ⟨k, hk, rfl, HO, HI, HSZ⟩ := hrel
    by_cases hkn : k < N
    · have hki : (k : Int) < N := by omega
      have bk : decide ((k : Int) < (N : Int)) = true := by simpa using hki
      obtain ⟨k1, hk1⟩ : ∃ k1, k1 = k + 1 := ⟨_, rfl⟩
      have vk1 : IntKind.u16.wrap ((k : Int) + 1) = (k1 : Int) := by simp [IntKind.wrap, IntKind.bits, IntKind.signed]; omega
      have x0 : wr.cell? ⟨w.heap.size, 0, none⟩ = some (.pointer (some ⟨b, 0, none⟩)) := by rw [cell_of_row _ _ _ _ _ _ HI.out.rowx]; rfl
      have hle := runsRd_le k s2
      have HRS : Hid ((runsRd k1 s2) = ((runsRd k s2).1 ++ [(((numR (runsRd k s2).2 2).1 : Int), ((numR (numR (runsRd k s2).2 2).2 2).1 : Int))], (numR (numR (runsRd k s2).2 2).2 2).2)) := Lib.hid (by rw [hk1]; rfl)
      obtain ⟨L, hL⟩ : ∃ L, L = (runsRd k s2).1 := ⟨_, rfl⟩
      obtain ⟨t, ht⟩ : ∃ t, t = (runsRd k s2).2 := ⟨_, rfl⟩
      rw [← hL, ← ht] at HRS
      rw [← ht] at HI hle
      rw [← hL] at HO
      have htl : t.1.length ≤ 1000000 := by have := HL2.out; omega
      have CA := u16r_any b t wr HI.out.rd htl
      have ha1 := numR_lt t 2
      have ha2 := numR_len t 2
      obtain ⟨av, t1, hav⟩ : ∃ av t1, numR t 2 = (av, t1) := ⟨_, _, rfl⟩
      rw [hav] at CA ha1 ha2 HRS
      simp only at CA ha1 ha2 HRS
      have hm1 := numR_lt t1 2
      obtain ⟨mv, t2, hmv⟩ : ∃ mv t2, numR t1 2 = (mv, t2) := ⟨_, _, rfl⟩
      have CB : Hid (∀ W, RdAt b t1 W → Calls Tryd.prog 79 #[.pointer (some ⟨b, 0, none⟩)] W (RdPost b (.int .u16 mv) t2 W)) := Lib.hid (fun W hW => by
        have := u16r_any b t1 W hW (by omega)
        rw [hmv] at this
        exact this)
      rw [hmv] at hm1 HRS
      simp only at hm1 HRS
      have va : IntKind.i64.wrap (av : Int) = av := IntWalk.i64_in _ (by omega)
      have vm : IntKind.i64.wrap (mv : Int) = mv := IntWalk.i64_in _ (by omega)
      clear hle hL ht htl ha1 ha2 hav hm1 hmv
      go_wp2_with fail
      refine CA.mono ?_
      rintro e w3 ⟨rfl, hr3, hg3⟩
      have HI3 := Lib.hid (HI.out.read HNE.out.1 hr3 hg3)
      have x3 : w3.cell? ⟨w.heap.size, 0, none⟩ = some (.pointer (some ⟨b, 0, none⟩)) := by rw [cell_of_row _ _ _ _ _ _ HI3.out.rowx]; rfl
      have HO3 : Hid (w3.ownsRow (w.heap.size + 1) 48 2 u4 k (runC L)) := Lib.hid (own_stay HO.out (fun j hj => by
        have := HO.out.lt j hj
        exact hg3.block j this.2 (fun e => by have := Option.some.inj e; have := HNE.out.2; omega)))
      have HSZ3 : Hid (w.heap.size + 1 ≤ w3.heap.size) := Lib.hid (by have := hg3.size; have := HSZ.out; omega)
      have CB3 := CB.out w3 HI3.out.rd
      clear CA hr3 hg3 HI HO HSZ x0 CB
      go_wp2_with fail
      refine CB3.mono ?_
      rintro e w4 ⟨rfl, hr4, hg4⟩
      have HO4 : Hid (w4.ownsRow (w.heap.size + 1) 48 2 u4 k (runC L)) := Lib.hid (own_stay HO3.out (fun j hj => by
        have := HO3.out.lt j hj
        exact hg4.block j this.2 (fun e => by have := Option.some.inj e; have := HNE.out.2; omega)))
      have hi4 := HI3.out.read HNE.out.1 hr4 hg4
      have HSZ4 : Hid (w.heap.size + 1 ≤ w4.heap.size) := Lib.hid (by have := hg4.size; have := HSZ3.out; omega)
      obtain ⟨WT, hWT⟩ : ∃ WT, WT = w4.alloc (.cells #[.int .i64 av, .int .i64 mv] 48) := ⟨_, rfl⟩
      have hkT : Kept w4 WT := by rw [hWT]; exact box_below _ _
      have HIT := Lib.hid (hi4.kept hkT)
      have HOT : Hid (WT.ownsRow (w.heap.size + 1) 48 2 u4 k (runC L)) := Lib.hid (own_stay HO4.out (fun j hj => hkT.block j (HO4.out.lt j hj).2))
      have HFT : Hid (FlatAt 2 1 (runC [((av : Int), (mv : Int))]) (.slice (some ⟨w4.heap.size, 0, none⟩) 1 1) WT) := Lib.hid (by rw [hWT]; exact run_flat_run w4 av mv)
      have HZT : Hid (w.heap.size + 1 ≤ WT.heap.size) := Lib.hid (Nat.le_trans HSZ4.out hkT.size)
      have HWT := Lib.hid hWT
      clear CB3 hr4 hg4 hi4 hWT hkT HI3 HO3 HO4 HSZ3 x3
      go_wp2_with (at_builtin; rw [← HWT.out]; refine wpList_append_flat rfl _ _ 23 rfl (w.heap.size + 1) 48 ir (.agg #[.int .i64 0, .int .i64 0]) 2 16 Tryd.underlying23 HIR.out HZ0.out HZ1.out HZ2.out rfl (by decide) _ _ _ rfl HOT.out _ 1 (runC [((av : Int), (mv : Int))]) rfl HFT.out ?wa1 ?wa2 ?wa3 ?_)
      case wa1 => unfold maxLen; omega
      case wa2 => omega
      case wa3 => exact HZT.out
      intro v1 w5 hown5 hgr5 _
      have HI5 : Hid (RI w b w.heap.size (runsRd k1 s2).2 w5) := Lib.hid (by
        rw [HRS.out]
        exact HIT.out.own (by have := HNE.out.2; omega) (by omega) (by omega) HOT.out hgr5)
      have HO5 : Hid (w5.ownsRow (w.heap.size + 1) 48 2 v1 k1 (runC (runsRd k1 s2).1)) := Lib.hid (by
        rw [HRS.out]
        simp only
        rw [runC_append, hk1]
        exact hown5)
      have HSZ5 : Hid (w.heap.size + 1 ≤ w5.heap.size) := Lib.hid (Nat.le_trans HZT.out hgr5.size)
      clear hown5 hgr5 HOT HFT HIT HZT HWT HRS
      go_wp2
      go_roundg (N - k1)
      case measure => omega
      case rel => exact ⟨k1, by omega, by first | rfl | (congr 1; omega), HO5, HI5, HSZ5⟩
    · have hki : ¬ (k : Int) < N := by omega
      have bk : decide ((k : Int) < (N : Int)) = false := by simpa using hki
      obtain rfl : k = N := by omega
      go_wp2
      go_ret
      refine ⟨_, rfl, ?_, HI.out.rd, HI.out.gr⟩
      unfold OwnRuns
      rw [runsRd_len]
      exact own_base HO.out (by omega)

end Go.Proofs.YtlfmmhalheohdaaDoor
namespace Go.Proofs.YtlfmmhalheohdaaDoor
open Go.RowKit

/-- What stands while a superblock is read. -/
structure SI (w0 : World) (b : Nat) (s : RdSt) (C : Array Value) (w : World) : Prop where
  ri : RI w0 b w0.heap.size s w
  row2 : w.heap[w0.heap.size + 1]? = some (.cells zeroC 25 (0, 0))
  row3 : w.heap[w0.heap.size + 2]? = some (.cells C 25 (0, 0))
theorem SI.read {w0 : World} {b : Nat} {s s' : RdSt} {C : Array Value} {w w' : World} (h : SI w0 b s C w) (hb : b < w0.heap.size) (hr : RdAt b s' w') (hg : w.grownBy w' (some b)) : SI w0 b s' C w' where
  ri := h.ri.read (by omega) hr hg
  row2 := by rw [hg.block _ (Array.getElem?_eq_some_iff.1 h.row2).1 (fun e => by have := Option.some.inj e; omega)]; exact h.row2
  row3 := by rw [hg.block _ (Array.getElem?_eq_some_iff.1 h.row3).1 (fun e => by have := Option.some.inj e; omega)]; exact h.row3
theorem SI.set {w0 : World} {b : Nat} {s : RdSt} {C : Array Value} {w : World} (h : SI w0 b s C w) (hb : b < w0.heap.size) (k : Nat) (v : Value) : SI w0 b s (C.setIfInBounds k v) (w.setCell ⟨w0.heap.size + 2, k, none⟩ v) where
  ri := by
    have hg := grown_set w (w0.heap.size + 2) k v
    refine ⟨⟨hg.os.trans h.ri.gr.os, hg.tape.trans h.ri.gr.tape, hg.output.trans h.ri.gr.output, Nat.le_trans h.ri.gr.size hg.size, fun j hj hn => ?_⟩, ?_, ?_⟩
    · rw [heap_setCell_other _ _ _ _ (by dsimp only; omega)]; exact h.ri.gr.block j hj hn
    · have := h.ri.rd
      unfold RdAt at *
      rw [heap_setCell_other _ _ _ _ (by dsimp only; omega)]; exact this
    · rw [heap_setCell_other _ _ _ _ (by dsimp only; omega)]; exact h.ri.rowx
  row2 := by rw [heap_setCell_other _ _ _ _ (by dsimp only; omega)]; exact h.row2
  row3 := heap_setCell_same _ _ _ _ _ _ h.row3
theorem SI.c2 {w0 : World} {b : Nat} {s : RdSt} {C : Array Value} {w : World} (h : SI w0 b s C w) (j : Nat) : w.cell? ⟨w0.heap.size + 1, j, none⟩ = zeroC[j]? := cell_of_row _ _ _ _ _ _ h.row2
theorem SI.c3 {w0 : World} {b : Nat} {s : RdSt} {C : Array Value} {w : World} (h : SI w0 b s C w) (j : Nat) : w.cell? ⟨w0.heap.size + 2, j, none⟩ = C[j]? := cell_of_row _ _ _ _ _ _ h.row3
theorem SI.cx {w0 : World} {b : Nat} {s : RdSt} {C : Array Value} {w : World} (h : SI w0 b s C w) : w.cell? ⟨w0.heap.size, 0, none⟩ = some (.pointer (some ⟨b, 0, none⟩)) := by rw [cell_of_row _ _ _ _ _ _ h.ri.rowx]; rfl

/-- What superblock returns. -/
def SbPost (b : Nat) (s : RdSt) (w : World) (e : Ending) (w' : World) : Prop := ∃ v, e = .returned v ∧ SbNew (sbRd s) v w w' ∧ w.grownBy w' (some b)

set_option maxRecDepth 100000 in
set_option maxHeartbeats 8000000 in
theorem ssuper_any (b : Nat) (s : RdSt) (w : World) (h : RdAt b s w) (hl : s.1.length ≤ 1000000) :
    Calls Tryd.prog 36 #[.agg #[.pointer (some ⟨b, 0, none⟩)]] w (SbPost b s w) := by
  have hblt := h.lt
  have HB : Hid (b < w.heap.size) := Lib.hid hblt
  obtain ⟨W0, hW0⟩ : ∃ W0, W0 = ((w.alloc (.cells #[.pointer (some ⟨b, 0, none⟩)] 68)).alloc (.cells #[.int .u64 0, .int .i64 0, .int .i64 0, .int .i64 0, .int .i64 0, .slice none 0 0] 25)).alloc (.cells #[.int .u64 0, .int .i64 0, .int .i64 0, .int .i64 0, .int .i64 0, .slice none 0 0] 25) := ⟨_, rfl⟩
  have HI0 : Hid (SI w b s zeroC W0) := Lib.hid (by
    obtain ⟨A, hA⟩ : ∃ A, A = w.alloc (.cells #[.pointer (some ⟨b, 0, none⟩)] 68) := ⟨_, rfl⟩
    have kA : Kept w A := by rw [hA]; exact box_below _ _
    have zA : A.heap.size = w.heap.size + 1 := by rw [hA]; simp
    have rA : A.heap[w.heap.size]? = some (.cells #[.pointer (some ⟨b, 0, none⟩)] 68 (0, 0)) := by rw [hA]; exact heap_alloc_last w _
    obtain ⟨B, hB⟩ : ∃ B, B = A.alloc (.cells zeroC 25) := ⟨_, rfl⟩
    have kB : Kept A B := by rw [hB]; exact box_below _ _
    have zB : B.heap.size = w.heap.size + 2 := by rw [hB]; simp [zA]
    have rB : B.heap[w.heap.size + 1]? = some (.cells zeroC 25 (0, 0)) := by rw [hB, ← zA]; exact heap_alloc_last A _
    have e0 : W0 = B.alloc (.cells zeroC 25) := by rw [hW0, hB, hA]; rfl
    have kC : Kept B W0 := by rw [e0]; exact box_below _ _
    have rC : W0.heap[w.heap.size + 2]? = some (.cells zeroC 25 (0, 0)) := by rw [e0, ← zB]; exact heap_alloc_last B _
    have kk : Kept w W0 := (kA.then kB).then kC
    exact ⟨⟨grown_below kk _, kk.row h, kC.row (kB.row rA)⟩, kC.row rB, rC⟩)
  have HW0 := Lib.hid hW0
  obtain ⟨s0, hs0⟩ : ∃ x, x = (takeR s 8).2 := ⟨_, rfl⟩
  have l0 : s0.1.length ≤ 1000000 := by have := takeR_len s 8; rw [← hs0] at this; omega
  obtain ⟨q, s1, hs1⟩ : ∃ n t, numR s0 8 = (n, t) := ⟨_, _, rfl⟩
  have l1 : s1.1.length ≤ 1000000 := by have := numR_len s0 8; rw [hs1] at this; simp only at this; omega
  obtain ⟨a1, s2, hs2⟩ : ∃ n t, numR s1 4 = (n, t) := ⟨_, _, rfl⟩
  have l2 : s2.1.length ≤ 1000000 := by have := numR_len s1 4; rw [hs2] at this; simp only at this; omega
  obtain ⟨a2, s3, hs3⟩ : ∃ n t, numR s2 4 = (n, t) := ⟨_, _, rfl⟩
  have l3 : s3.1.length ≤ 1000000 := by have := numR_len s2 4; rw [hs3] at this; simp only at this; omega
  obtain ⟨a3, s4, hs4⟩ : ∃ n t, numR s3 4 = (n, t) := ⟨_, _, rfl⟩
  have l4 : s4.1.length ≤ 1000000 := by have := numR_len s3 4; rw [hs4] at this; simp only at this; omega
  obtain ⟨a4, s5, hs5⟩ : ∃ n t, numR s4 4 = (n, t) := ⟨_, _, rfl⟩
  have l5 : s5.1.length ≤ 1000000 := by have := numR_len s4 4; rw [hs5] at this; simp only at this; omega
  obtain ⟨r, hrr⟩ : ∃ r, r = (runsRd (min (numR s5 2).1 16) (numR (numR s5 2).2 2).2).1 := ⟨_, rfl⟩
  have HSB : Hid (sbRd s = ⟨q, a1, a2, a3, a4, r⟩) := Lib.hid (by
    unfold sbRd
    simp only
    rw [← hs0, hs1]
    simp only
    rw [hs2]
    simp only
    rw [hs3]
    simp only
    rw [hs4]
    simp only
    rw [hs5]
    simp only
    rw [hrr])
  have HSW : Hid ((⟨q, a1, a2, a3, a4, r⟩ : Sb).wf ∧ wfR r) := Lib.hid (by
    have := sbRd_wf s
    rw [HSB.out] at this
    exact ⟨this.1, this.2.1⟩)
  have T0 : Hid (∀ W, RdAt b s W → Calls Tryd.prog 60 #[.pointer (some ⟨b, 0, none⟩), .int .i64 8] W fun e w' => (∃ x, e = .returned (.string x)) ∧ RdAt b s0 w' ∧ W.grownBy w' (some b)) := Lib.hid (fun W hW => (take_any b s 8 W hW hl).mono (by
    rintro e w' ⟨rfl, x, y⟩
    rw [← hs0] at x
    exact ⟨⟨_, rfl⟩, x, y⟩))
  have T1 : Hid (∀ W, RdAt b s0 W → Calls Tryd.prog 61 #[.pointer (some ⟨b, 0, none⟩)] W (RdPost b (.int .u64 q) s1 W)) := Lib.hid (fun W hW => by
    have := u64r_any b s0 W hW l0
    rw [hs1] at this
    exact this)
  have T2 : Hid (∀ W, RdAt b s1 W → Calls Tryd.prog 62 #[.agg #[.pointer (some ⟨b, 0, none⟩)]] W (RdPost b (.int .i64 a1) s2 W)) := Lib.hid (fun W hW => by
    have := snum_any b s1 W hW l1
    rw [hs2] at this
    exact this)
  have T3 : Hid (∀ W, RdAt b s2 W → Calls Tryd.prog 62 #[.agg #[.pointer (some ⟨b, 0, none⟩)]] W (RdPost b (.int .i64 a2) s3 W)) := Lib.hid (fun W hW => by
    have := snum_any b s2 W hW l2
    rw [hs3] at this
    exact this)
  have T4 : Hid (∀ W, RdAt b s3 W → Calls Tryd.prog 62 #[.agg #[.pointer (some ⟨b, 0, none⟩)]] W (RdPost b (.int .i64 a3) s4 W)) := Lib.hid (fun W hW => by
    have := snum_any b s3 W hW l3
    rw [hs4] at this
    exact this)
  have T5 : Hid (∀ W, RdAt b s4 W → Calls Tryd.prog 62 #[.agg #[.pointer (some ⟨b, 0, none⟩)]] W (RdPost b (.int .i64 a4) s5 W)) := Lib.hid (fun W hW => by
    have := snum_any b s4 W hW l4
    rw [hs5] at this
    exact this)
  have T6 : Hid (∀ W, RdAt b s5 W → Calls Tryd.prog 63 #[.agg #[.pointer (some ⟨b, 0, none⟩)]] W fun e w' => ∃ v, e = .returned v ∧ OwnRuns W.heap.size r v w' ∧ (∃ s6, RdAt b s6 w') ∧ W.grownBy w' (some b)) := Lib.hid (fun W hW => (sruns_any b s5 W hW l5).mono (by
    rintro e w' ⟨v, x, y, z, u⟩
    rw [← hrr] at y
    exact ⟨v, x, y, ⟨_, z⟩, u⟩))
  have HP : Hid (SbPost b s w = fun e w' => ∃ v, e = .returned v ∧ SbNew ⟨q, a1, a2, a3, a4, r⟩ v w w' ∧ w.grownBy w' (some b)) := Lib.hid (by
    funext e w'
    unfold SbPost
    rw [HSB.out])
  rw [HP.out]
  clear h hl hblt hW0 hs0 l0 hs1 l1 hs2 l2 hs3 l3 hs4 l4 hs5 l5 hrr HSB HP
  go_enter Tryd.func36, Tryd.ntmps36
  go_wp2_with fail
  rw [← HW0.out]
  refine (T0.out W0 HI0.out.ri.rd).mono ?_
  rintro e w1 ⟨⟨x, rfl⟩, hr, hg⟩
  have HI := Lib.hid (HI0.out.read HB.out hr hg)
  have cx := HI.out.cx
  have C := T1.out w1 HI.out.ri.rd
  clear hr hg HI0 HW0 T0 T1
  go_wp2_with fail
  refine C.mono ?_
  rintro e w2 ⟨rfl, hr, hg⟩
  replace HI := Lib.hid (HI.out.read HB.out hr hg)
  clear hr hg C cx
  have f0 := frozen_of_row w2 (w.heap.size + 2) 0 _ _ HI.out.row3
  have c0 : w2.cell? ⟨w.heap.size + 2, 0, none⟩ = some (.int .u64 0) := by rw [HI.out.c3]; rfl
  replace HI := Lib.hid (HI.out.set HB.out 0 (.int .u64 q))
  obtain ⟨WB, hWB⟩ : ∃ W, W = w2.setCell ⟨w.heap.size + 2, 0, none⟩ (.int .u64 q) := ⟨_, rfl⟩
  rw [← hWB] at HI
  have cx : (w2.setCell ⟨w.heap.size + 2, 0, none⟩ (.int .u64 q)).cell? ⟨w.heap.size, 0, none⟩ = some (.pointer (some ⟨b, 0, none⟩)) := by rw [← hWB]; exact HI.out.cx
  have HWB := Lib.hid hWB
  have C := T2.out WB HI.out.ri.rd
  clear hWB T2
  go_wp2_with fail
  rw [← HWB.out]
  refine C.mono ?_
  rintro e w3 ⟨rfl, hr, hg⟩
  replace HI := Lib.hid (HI.out.read HB.out hr hg)
  clear hr hg C cx f0 c0 HWB WB
  have f0 := frozen_of_row w3 (w.heap.size + 2) 1 _ _ HI.out.row3
  have c0 : w3.cell? ⟨w.heap.size + 2, 1, none⟩ = some (.int .i64 0) := by rw [HI.out.c3]; rfl
  replace HI := Lib.hid (HI.out.set HB.out 1 (.int .i64 a1))
  obtain ⟨WB, hWB⟩ : ∃ W, W = w3.setCell ⟨w.heap.size + 2, 1, none⟩ (.int .i64 a1) := ⟨_, rfl⟩
  rw [← hWB] at HI
  have cx : (w3.setCell ⟨w.heap.size + 2, 1, none⟩ (.int .i64 a1)).cell? ⟨w.heap.size, 0, none⟩ = some (.pointer (some ⟨b, 0, none⟩)) := by rw [← hWB]; exact HI.out.cx
  have HWB := Lib.hid hWB
  have C := T3.out WB HI.out.ri.rd
  clear hWB T3
  go_wp2_with fail
  rw [← HWB.out]
  refine C.mono ?_
  rintro e w4 ⟨rfl, hr, hg⟩
  replace HI := Lib.hid (HI.out.read HB.out hr hg)
  clear hr hg C cx f0 c0 HWB WB
  have f0 := frozen_of_row w4 (w.heap.size + 2) 2 _ _ HI.out.row3
  have c0 : w4.cell? ⟨w.heap.size + 2, 2, none⟩ = some (.int .i64 0) := by rw [HI.out.c3]; rfl
  replace HI := Lib.hid (HI.out.set HB.out 2 (.int .i64 a2))
  obtain ⟨WB, hWB⟩ : ∃ W, W = w4.setCell ⟨w.heap.size + 2, 2, none⟩ (.int .i64 a2) := ⟨_, rfl⟩
  rw [← hWB] at HI
  have cx : (w4.setCell ⟨w.heap.size + 2, 2, none⟩ (.int .i64 a2)).cell? ⟨w.heap.size, 0, none⟩ = some (.pointer (some ⟨b, 0, none⟩)) := by rw [← hWB]; exact HI.out.cx
  have HWB := Lib.hid hWB
  have C := T4.out WB HI.out.ri.rd
  clear hWB T4
  go_wp2_with fail
  rw [← HWB.out]
  refine C.mono ?_
  rintro e w5 ⟨rfl, hr, hg⟩
  replace HI := Lib.hid (HI.out.read HB.out hr hg)
  clear hr hg C cx f0 c0 HWB WB
  have f0 := frozen_of_row w5 (w.heap.size + 2) 3 _ _ HI.out.row3
  have c0 : w5.cell? ⟨w.heap.size + 2, 3, none⟩ = some (.int .i64 0) := by rw [HI.out.c3]; rfl
  replace HI := Lib.hid (HI.out.set HB.out 3 (.int .i64 a3))
  obtain ⟨WB, hWB⟩ : ∃ W, W = w5.setCell ⟨w.heap.size + 2, 3, none⟩ (.int .i64 a3) := ⟨_, rfl⟩
  rw [← hWB] at HI
  have cx : (w5.setCell ⟨w.heap.size + 2, 3, none⟩ (.int .i64 a3)).cell? ⟨w.heap.size, 0, none⟩ = some (.pointer (some ⟨b, 0, none⟩)) := by rw [← hWB]; exact HI.out.cx
  have HWB := Lib.hid hWB
  have C := T5.out WB HI.out.ri.rd
  clear hWB T5
  go_wp2_with fail
  rw [← HWB.out]
  refine C.mono ?_
  rintro e w6 ⟨rfl, hr, hg⟩
  replace HI := Lib.hid (HI.out.read HB.out hr hg)
  clear hr hg C cx f0 c0 HWB WB
  have f0 := frozen_of_row w6 (w.heap.size + 2) 4 _ _ HI.out.row3
  have c0 : w6.cell? ⟨w.heap.size + 2, 4, none⟩ = some (.int .i64 0) := by rw [HI.out.c3]; rfl
  replace HI := Lib.hid (HI.out.set HB.out 4 (.int .i64 a4))
  obtain ⟨WB, hWB⟩ : ∃ W, W = w6.setCell ⟨w.heap.size + 2, 4, none⟩ (.int .i64 a4) := ⟨_, rfl⟩
  rw [← hWB] at HI
  have cx : (w6.setCell ⟨w.heap.size + 2, 4, none⟩ (.int .i64 a4)).cell? ⟨w.heap.size, 0, none⟩ = some (.pointer (some ⟨b, 0, none⟩)) := by rw [← hWB]; exact HI.out.cx
  have HWB := Lib.hid hWB
  have C := T6.out WB HI.out.ri.rd
  clear hWB T6
  go_wp2_with fail
  rw [← HWB.out]
  refine C.mono ?_
  rintro e w7 ⟨v7, rfl, ho, ⟨s6, hr⟩, hg⟩
  have HWZ : Hid (w.heap.size + 2 < WB.heap.size) := Lib.hid (Array.getElem?_eq_some_iff.1 HI.out.row3).1
  replace HI := Lib.hid (HI.out.read HB.out hr hg)
  obtain ⟨p, c, rfl, hcc, hcell⟩ := own_slice ho
  obtain ⟨n, hn⟩ : ∃ n, n = r.length := ⟨_, rfl⟩
  have HO : Hid (OwnRuns WB.heap.size r (.slice p n c) w7) := Lib.hid (by rw [hn]; exact ho)
  rw [← hn]
  have f0' := frozen_of_row w7 (w.heap.size + 2) 5 _ _ HI.out.row3
  have c5' : w7.cell? ⟨w.heap.size + 2, 5, none⟩ = some (.slice none 0 0) := by rw [HI.out.c3]; rfl
  replace HI := Lib.hid (HI.out.set HB.out 5 (.slice p n c))
  obtain ⟨W8, hW8⟩ : ∃ W, W = w7.setCell ⟨w.heap.size + 2, 5, none⟩ (.slice p n c) := ⟨_, rfl⟩
  rw [← hW8] at HI
  have HO8 : Hid (OwnRuns WB.heap.size r (.slice p n c) W8) := Lib.hid (own_stay HO.out (fun k hk => by
    have := (HO.out.lt k hk).1
    have := HWZ.out
    rw [hW8, heap_setCell_other _ _ _ _ (by dsimp only; omega)]))
  have e0 : W8.cell? ⟨w.heap.size + 2, 0, none⟩ = some (.int .u64 q) := by rw [HI.out.c3]; rfl
  have e1 : W8.cell? ⟨w.heap.size + 2, 1, none⟩ = some (.int .i64 a1) := by rw [HI.out.c3]; rfl
  have e2 : W8.cell? ⟨w.heap.size + 2, 2, none⟩ = some (.int .i64 a2) := by rw [HI.out.c3]; rfl
  have e3 : W8.cell? ⟨w.heap.size + 2, 3, none⟩ = some (.int .i64 a3) := by rw [HI.out.c3]; rfl
  have e4 : W8.cell? ⟨w.heap.size + 2, 4, none⟩ = some (.int .i64 a4) := by rw [HI.out.c3]; rfl
  have e5 : W8.cell? ⟨w.heap.size + 2, 5, none⟩ = some (.slice p n c) := by rw [HI.out.c3]; rfl
  have d0 : W8.cell? ⟨w.heap.size + 1, 0, none⟩ = some (.int .u64 0) := by rw [HI.out.c2]; rfl
  have d1 : W8.cell? ⟨w.heap.size + 1, 1, none⟩ = some (.int .i64 0) := by rw [HI.out.c2]; rfl
  have d2 : W8.cell? ⟨w.heap.size + 1, 2, none⟩ = some (.int .i64 0) := by rw [HI.out.c2]; rfl
  have d3 : W8.cell? ⟨w.heap.size + 1, 3, none⟩ = some (.int .i64 0) := by rw [HI.out.c2]; rfl
  have d4 : W8.cell? ⟨w.heap.size + 1, 4, none⟩ = some (.int .i64 0) := by rw [HI.out.c2]; rfl
  have d5 : W8.cell? ⟨w.heap.size + 1, 5, none⟩ = some (.slice none 0 0) := by rw [HI.out.c2]; rfl
  have f0 := frozen_of_row W8 (w.heap.size + 1) 0 _ _ HI.out.row2
  have f1 := frozen_of_row W8 (w.heap.size + 1) 1 _ _ HI.out.row2
  have f2 := frozen_of_row W8 (w.heap.size + 1) 2 _ _ HI.out.row2
  have f3 := frozen_of_row W8 (w.heap.size + 1) 3 _ _ HI.out.row2
  have f4 := frozen_of_row W8 (w.heap.size + 1) 4 _ _ HI.out.row2
  have f5 := frozen_of_row W8 (w.heap.size + 1) 5 _ _ HI.out.row2
  have HW8 := Lib.hid hW8
  have HROW2 : Hid (W8.heap[w.heap.size + 1]? = some (.cells #[.int .u64 0, .int .i64 0, .int .i64 0, .int .i64 0, .int .i64 0, .slice none 0 0] 25 (0, 0))) := Lib.hid HI.out.row2
  have HG8 : Hid (w.grownBy W8 (some b)) := Lib.hid HI.out.ri.gr
  have HLT : Hid (∀ k, (Value.slice p n c).ownBlock = some k → WB.heap.size ≤ k) := Lib.hid (fun k hk => (HO8.out.lt k hk).1)
  have HNW : Hid (NewAt (.slice p n c) w) := Lib.hid (fun a m cc e hm => by
    simp only [Value.slice.injEq] at e
    obtain ⟨rfl, rfl, rfl⟩ := e
    rcases hcell with h0 | ⟨g, hp, hgb, -⟩
    · omega
    · have e2 := Option.some.inj hp
      rw [e2]
      have := HWZ.out
      show w.heap.size ≤ g
      omega)
  rw [hW8] at e0 e1 e2 e3 e4 e5 d0 d1 d2 d3 d4 d5 f0 f1 f2 f3 f4 f5
  clear hr hg ho hcc hcell hn HO C cx c0 HI hW8
  go_wp2_with fail
  rw [← HW8.out]
  refine bodyPost_ret (results_cell_row Tryd.results36 _ _ (w.heap.size + 1) 25 #[.int .u64 q, .int .i64 a1, .int .i64 a2, .int .i64 a3, .int .i64 a4, .slice p n c] (0, 0) _ rfl (set6_row HROW2.out _ _ _ _ _ _) Tryd.underlying25 rfl infoSb) rfl ⟨_, rfl, ⟨_, rfl, ?_, HSW.out.1, HNW.out⟩, ?_⟩
  · refine OwnRuns.at_ (B := WB.heap.size) (own_stay HO8.out (fun k hk => ?_)) HSW.out.2
    have h1 := HLT.out k hk
    have h2 := HWZ.out
    rw [heap_setCell_other _ _ _ _ (by dsimp only; omega), heap_setCell_other _ _ _ _ (by dsimp only; omega), heap_setCell_other _ _ _ _ (by dsimp only; omega), heap_setCell_other _ _ _ _ (by dsimp only; omega), heap_setCell_other _ _ _ _ (by dsimp only; omega), heap_setCell_other _ _ _ _ (by dsimp only; omega)]
  · have h0 := HG8.out
    have key : ∀ (W : World) (j : Nat) (v : Value), w.grownBy W (some b) → w.grownBy (W.setCell ⟨w.heap.size + 1, j, none⟩ v) (some b) := fun W j v g => by
      have hg := grown_set W (w.heap.size + 1) j v
      exact ⟨hg.os.trans g.os, hg.tape.trans g.tape, hg.output.trans g.output, Nat.le_trans g.size hg.size, fun k hk hn => by rw [heap_setCell_other _ _ _ _ (by dsimp only; omega)]; exact g.block k hk hn⟩
    exact key _ _ _ (key _ _ _ (key _ _ _ (key _ _ _ (key _ _ _ (key _ _ _ h0)))))

end Go.Proofs.YtlfmmhalheohdaaDoor
namespace Go.Proofs.YtlfmmhalheohdaaDoor
open Go.RowKit

theorem get_yes {S : List UInt8} (h1 : mayS (sbRd (S, 0)) = true) (h2 : putS (sbRd (S, 0)) = S) : getS S = some (sbRd (S, 0)) := by
  have hm : maySP (sbRd (S, 0)) := of_decide_eq_true h1
  have hl : S.length = 128 := by rw [← h2]; exact putS_len _ hm.len
  rw [sbRd_get S hl] at hm h2 ⊢
  unfold getS
  rw [if_pos ⟨hl, hm, h2⟩]
theorem get_no {S : List UInt8} (h : ¬ (mayS (sbRd (S, 0)) = true ∧ putS (sbRd (S, 0)) = S)) : getS S = none := by
  unfold getS
  rw [if_neg]
  rintro ⟨hl, hm, hp⟩
  apply h
  rw [sbRd_get S hl]
  exact ⟨decide_eq_true hm, hp⟩

/-- What Get returns. -/
def GetPost (S : List UInt8) (w : World) (e : Ending) (w' : World) : Prop := (∃ v, e = .returned (.tuple #[v, .int .i64 (getE S)]) ∧ SbNew (getD S) v w w') ∧ Kept w w'

set_option maxRecDepth 100000 in
set_option maxHeartbeats 8000000 in
theorem sget_any (t : ByteArray) (ht : t.size ≤ 1000000) (w : World) (hT : TabAt w) :
    Calls Tryd.prog 15 #[.string t] w (GetPost t.data.toList w) := by
  obtain ⟨S, hS⟩ : ∃ S, S = t.data.toList := ⟨_, rfl⟩
  have hSl : S.length = t.size := by rw [hS, data_len]
  rw [← hS]
  have HS := Lib.hid hS
  have HT := Lib.hid hT
  obtain ⟨W1, hW1⟩ : ∃ W1, W1 = w.alloc (.cells #[.int .u64 0, .int .i64 0, .int .i64 0, .int .i64 0, .int .i64 0, .slice none 0 0] 25) := ⟨_, rfl⟩
  have hr1 : W1.heap[w.heap.size]? = some (.cells zeroC 25 (0, 0)) := by rw [hW1]; exact heap_alloc_last w _
  have hk1 : Kept w W1 := by rw [hW1]; exact box_below _ _
  have hz1 : W1.heap.size = w.heap.size + 1 := by rw [hW1]; simp
  have CR := read_any t W1
  rw [← hS] at CR
  have HR1 := Lib.hid hr1
  have HK1 := Lib.hid hk1
  have HZ1 := Lib.hid hz1
  have HW1 := Lib.hid hW1
  have HSL : Hid (S.length ≤ 1000000) := Lib.hid (by omega)
  obtain ⟨b, hb⟩ : ∃ b, b = W1.heap.size := ⟨_, rfl⟩
  rw [← hb] at CR
  have HB := Lib.hid hb
  clear hS hSl hT hr1 hk1 hz1 hW1 hb
  go_enter Tryd.func15, Tryd.ntmps15
  go_wp2_with fail
  rw [← HW1.out]
  refine CR.mono ?_
  rintro e w2 ⟨rfl, hrd, hb2⟩
  obtain ⟨W2, hW2⟩ : ∃ W2, W2 = w2.alloc (.cells #[.pointer (some ⟨b, 0, none⟩)] 68) := ⟨_, rfl⟩
  have hk2 : Kept w2 W2 := by rw [hW2]; exact box_below _ _
  have hk12 : Kept W1 W2 := (show Kept W1 w2 by unfold Kept; rw [← HB.out]; exact hb2).then hk2
  have HRW2 : Hid (W2.heap[w.heap.size]? = some (.cells zeroC 25 (0, 0))) := Lib.hid (hk12.row HR1.out)
  have HKW2 : Hid (Kept w W2) := Lib.hid (HK1.out.then hk12)
  have hrd2 : RdAt b (S, 0) W2 := Kept.row hk2 hrd
  have CS := ssuper_any b (S, 0) W2 hrd2 HSL.out
  have HBZ : Hid (w.heap.size < b) := Lib.hid (by have := HB.out; have := HZ1.out; omega)
  have HZ2 : Hid (w.heap.size < W2.heap.size) := Lib.hid (Array.getElem?_eq_some_iff.1 HRW2.out).1
  have HW2 := Lib.hid hW2
  clear hrd hb2 hW2 hk2 hk12 hrd2 CR HW1 HR1 HK1
  go_wp2_with fail
  rw [← HW2.out]
  refine CS.mono ?_
  rintro e w3 ⟨v, rfl, ⟨tv, rfl, hrt, hwf, hnw⟩, hg⟩
  obtain ⟨sx, hsx⟩ : ∃ sx, sx = sbRd (S, 0) := ⟨_, rfl⟩
  have hlen := (sbRd_wf (S, 0)).2.2
  have HYES : Hid (mayS sx = true → putS sx = S → getS S = some sx) := Lib.hid (by rw [hsx]; exact get_yes)
  have HNO : Hid (¬ (mayS sx = true ∧ putS sx = S) → getS S = none) := Lib.hid (by rw [hsx]; exact get_no)
  rw [← hsx] at hrt hwf hlen ⊢
  obtain ⟨p, n, c, rfl⟩ := hrt.sliced
  have hk3 : Kept w w3 := below_touch HKW2.out hg HKW2.out.size (Nat.le_of_lt HBZ.out)
  have hr3 : w3.heap[w.heap.size]? = some (.cells zeroC 25 (0, 0)) := by rw [hg.block _ HZ2.out (fun e => by have := Option.some.inj e; have := HBZ.out; omega)]; exact HRW2.out
  have hz3 : w.heap.size < w3.heap.size := (Array.getElem?_eq_some_iff.1 hr3).1
  have hbx := BoxAt.new hrt hwf
  obtain ⟨W4, hW4⟩ : ∃ W4, W4 = w3.alloc (.cells (sbC sx (.slice p n c)) 25) := ⟨_, rfl⟩
  rw [← hW4] at hbx
  obtain ⟨b4, hb4⟩ : ∃ b, b = w3.heap.size := ⟨_, rfl⟩
  rw [← hb4] at hbx
  have HBX := Lib.hid hbx.1
  have HR4 : Hid (W4.heap[w.heap.size]? = some (.cells zeroC 25 (0, 0))) := Lib.hid (hbx.2.row hr3)
  have HK4 : Hid (Kept w W4) := Lib.hid (hk3.then hbx.2)
  have HNW : Hid (NewAt (.slice p n c) W2) := Lib.hid hnw
  have HNE : Hid (w.heap.size < b4) := Lib.hid (by omega)
  have HB4 := Lib.hid hb4
  have HWF := Lib.hid hwf
  have CP := putOk sx _ W4 hbx.1.at_ (by omega) (HT.out.later HK4.out)
  unfold sbV sbC at CP ⊢
  have HW4 : Hid (W4 = w3.alloc (.cells #[.int .u64 sx.seq, .int .i64 sx.sec, .int .i64 sx.jou, .int .i64 sx.use, .int .i64 sx.siz, .slice p n c] 25)) := Lib.hid hW4
  clear hg hrt hwf hnw hsx hlen hk3 hr3 hz3 hbx hW4 CS HW2 HRW2 HKW2 hb4
  have HPV : Hid (mayS sx = true → putV sx = str (putS sx)) := Lib.hid (fun x => by unfold putV; rw [x]; rfl)
  go_wp2_with fail
  rw [← HW4.out]
  refine CP.mono ?_
  rintro e w5 ⟨rfl, hb5⟩
  have HR5 : Hid (w5.heap[w.heap.size]? = some (.cells #[.int .u64 0, .int .i64 0, .int .i64 0, .int .i64 0, .int .i64 0, .slice none 0 0] 25 (0, 0))) := Lib.hid (Kept.row hb5 HR4.out)
  have HBX5 := Lib.hid (HBX.out.later hb5)
  have HK5 : Hid (Kept w w5) := Lib.hid (HK4.out.then hb5)
  rw [← HB4.out]
  have e0 : w5.cell? ⟨b4, 0, none⟩ = some (.int .u64 sx.seq) := by rw [HBX5.out.cell]; rfl
  have d0 : w5.cell? ⟨w.heap.size, 0, none⟩ = some (.int .u64 0) := by rw [cell_of_row _ _ _ _ _ _ HR5.out]; rfl
  have f0 := frozen_of_row w5 w.heap.size 0 _ _ HR5.out
  have e1 : w5.cell? ⟨b4, 1, none⟩ = some (.int .i64 sx.sec) := by rw [HBX5.out.cell]; rfl
  have d1 : w5.cell? ⟨w.heap.size, 1, none⟩ = some (.int .i64 0) := by rw [cell_of_row _ _ _ _ _ _ HR5.out]; rfl
  have f1 := frozen_of_row w5 w.heap.size 1 _ _ HR5.out
  have e2 : w5.cell? ⟨b4, 2, none⟩ = some (.int .i64 sx.jou) := by rw [HBX5.out.cell]; rfl
  have d2 : w5.cell? ⟨w.heap.size, 2, none⟩ = some (.int .i64 0) := by rw [cell_of_row _ _ _ _ _ _ HR5.out]; rfl
  have f2 := frozen_of_row w5 w.heap.size 2 _ _ HR5.out
  have e3 : w5.cell? ⟨b4, 3, none⟩ = some (.int .i64 sx.use) := by rw [HBX5.out.cell]; rfl
  have d3 : w5.cell? ⟨w.heap.size, 3, none⟩ = some (.int .i64 0) := by rw [cell_of_row _ _ _ _ _ _ HR5.out]; rfl
  have f3 := frozen_of_row w5 w.heap.size 3 _ _ HR5.out
  have e4 : w5.cell? ⟨b4, 4, none⟩ = some (.int .i64 sx.siz) := by rw [HBX5.out.cell]; rfl
  have d4 : w5.cell? ⟨w.heap.size, 4, none⟩ = some (.int .i64 0) := by rw [cell_of_row _ _ _ _ _ _ HR5.out]; rfl
  have f4 := frozen_of_row w5 w.heap.size 4 _ _ HR5.out
  have e5 : w5.cell? ⟨b4, 5, none⟩ = some (.slice p n c) := by rw [HBX5.out.cell]; rfl
  have d5 : w5.cell? ⟨w.heap.size, 5, none⟩ = some (.slice none 0 0) := by rw [cell_of_row _ _ _ _ _ _ HR5.out]; rfl
  have f5 := frozen_of_row w5 w.heap.size 5 _ _ HR5.out
  clear hb5 CP HW4
  cases hmay : mayS sx with
  | false =>
    · rw [show chkE sx = 1 by unfold chkE; rw [hmay]; rfl]
      have HF : Hid (getE S = 110 ∧ getD S = Sb.zero) := Lib.hid (by
        have h0 := HNO.out (fun y => by rw [hmay] at y; exact absurd y.1 (by decide))
        unfold getE getD
        rw [h0]
        exact ⟨rfl, rfl⟩)
      clear HNO HYES HPV HB4 HBX HR4 HK4 hmay
      go_wp2
      refine bodyPost_ret (results_cell_tmp_rowS Tryd.results15 _ _ w.heap.size 25 #[.int .u64 0, .int .i64 0, .int .i64 0, .int .i64 0, .int .i64 0, .slice none 0 0] (0, 0) _ rfl (set6_row HR5.out _ _ _ _ _ _) Tryd.underlying25 rfl infoSb) rfl ⟨⟨.agg zeroC, by rw [HF.out.1]; rfl, by rw [HF.out.2]; exact zero_at _ _⟩, below_set6 HK5.out (Nat.le_refl _) _ _ _ _ _ _⟩

  | true =>
    rw [show chkE sx = 0 by unfold chkE; rw [hmay]; rfl]
    rw [HPV.out hmay]
    obtain ⟨P, hP⟩ : ∃ P, P = str (putS sx) := ⟨_, rfl⟩
    rw [← hP]
    by_cases hpt : P = t
    · have hps : putS sx = S := by rw [HS.out, ← hpt, hP, str_list]
      have HF : Hid (getE S = 0 ∧ getD S = sx) := Lib.hid (by
        have h0 := HYES.out hmay hps
        unfold getE getD
        rw [h0]
        exact ⟨rfl, rfl⟩)
      clear HNO HYES HPV HB4 HBX HR4 HK4 hps hmay hP
      subst hpt
      go_wp2
      refine bodyPost_ret (results_cell_tmp_rowS Tryd.results15 _ _ w.heap.size 25 #[.int .u64 sx.seq, .int .i64 sx.sec, .int .i64 sx.jou, .int .i64 sx.use, .int .i64 sx.siz, .slice p n c] (0, 0) _ rfl (set6_row HR5.out _ _ _ _ _ _) Tryd.underlying25 rfl infoSb) rfl ⟨⟨_, by rw [HF.out.1]; rfl, ?_⟩, below_set6 HK5.out (Nat.le_refl _) _ _ _ _ _ _⟩
      rw [HF.out.2]
      exact ⟨_, rfl, HBX5.out.runs.but (Bs := fun k => k = w.heap.size) (fun a n c e hn hk => by have := HNW.out a n c e hn; have := HZ2.out; omega) (but_set6 _ _ _ _ _ _ _ _), HWF.out, fun a n c e hn => by have := HNW.out a n c e hn; have := HZ2.out; omega⟩
    · have hne := text_neS hpt
      have HF : Hid (getE S = 110 ∧ getD S = Sb.zero) := Lib.hid (by
        have h0 := HNO.out (fun y => hpt (by rw [hP, y.2, HS.out, str_data]))
        unfold getE getD
        rw [h0]
        exact ⟨rfl, rfl⟩)
      clear HNO HYES HPV HB4 HBX HR4 HK4 hpt hmay hP
      go_wp2
      refine bodyPost_ret (results_cell_tmp_rowS Tryd.results15 _ _ w.heap.size 25 #[.int .u64 0, .int .i64 0, .int .i64 0, .int .i64 0, .int .i64 0, .slice none 0 0] (0, 0) _ rfl (set6_row HR5.out _ _ _ _ _ _) Tryd.underlying25 rfl infoSb) rfl ⟨⟨.agg zeroC, by rw [HF.out.1]; rfl, by rw [HF.out.2]; exact zero_at _ _⟩, below_set6 HK5.out (Nat.le_refl _) _ _ _ _ _ _⟩

theorem getOk : YGetOk := fun t w ht hT => (sget_any t (by omega) w hT).mono fun _ _ ⟨⟨v, a, b⟩, c⟩ => ⟨⟨v, a, b.at_⟩, c⟩

end Go.Proofs.YtlfmmhalheohdaaDoor
namespace Go.Proofs.YtlfmmhalheohdaaDoor
open Go.RowKit

/-- The newest so far. -/
def nextN (i : Nat) (S : List UInt8) (x : Sb) : Sb := if (getS S).isSome = true ∧ (getD S).seq % 2 = i ∧ (getD S).seq > x.seq then getD S else x
def newestN (A B : List UInt8) : Nat → Sb
  | 0 => Sb.zero
  | 1 => nextN 0 A Sb.zero
  | _ => nextN 1 B (nextN 0 A Sb.zero)
theorem getD_pos {S : List UInt8} (h : (getS S).isSome = true) : 1 ≤ (getD S).seq := by
  obtain ⟨s, hs⟩ := Option.isSome_iff_exists.1 h
  unfold getD
  rw [hs]
  exact (getS_some hs).2.1.seq
theorem pick_fold (A B : List UInt8) : pickS A B = if (newestN A B 2).seq = 0 then none else some (newestN A B 2) := by
  have hz : Sb.zero.seq = 0 := rfl
  have ha : ∀ S, (getS S).isSome = true → getS S = some (getD S) := by
    intro S h
    obtain ⟨s, hs⟩ := Option.isSome_iff_exists.1 h
    unfold getD
    rw [hs]; rfl
  rw [show newestN A B 2 = nextN 1 B (nextN 0 A Sb.zero) from rfl]
  by_cases hA : (getS A).isSome = true ∧ (getD A).seq % 2 = 0
  · have qa := getD_pos hA.1
    have ea : nextN 0 A Sb.zero = getD A := if_pos ⟨hA.1, hA.2, by rw [hz]; omega⟩
    by_cases hB : (getS B).isSome = true ∧ (getD B).seq % 2 = 1 ∧ (getD B).seq > (getD A).seq
    · have eb : nextN 1 B (getD A) = getD B := if_pos hB
      have ep : pickS A B = getS B := if_pos ⟨hB.1, hB.2.1, fun y => by omega⟩
      rw [ea, eb, ep, if_neg (by omega)]; exact ha B hB.1
    · have eb : nextN 1 B (getD A) = getD A := if_neg hB
      have ep : pickS A B = getS A := by
        unfold pickS
        rw [if_neg (fun y => hB ⟨y.1, y.2.1, by
          have h1 : ¬ (getD B).seq < (getD A).seq := fun z => y.2.2 ⟨hA, z⟩
          have h2 := y.2.1
          have h3 := hA.2
          omega⟩), if_pos hA]
      rw [ea, eb, ep, if_neg (by omega)]; exact ha A hA.1
  · have ea : nextN 0 A Sb.zero = Sb.zero := if_neg (fun y => hA ⟨y.1, y.2.1⟩)
    by_cases hB : (getS B).isSome = true ∧ (getD B).seq % 2 = 1
    · have qb := getD_pos hB.1
      have eb : nextN 1 B Sb.zero = getD B := if_pos ⟨hB.1, hB.2, by rw [hz]; omega⟩
      have ep : pickS A B = getS B := if_pos ⟨hB.1, hB.2, fun y => hA y.1⟩
      rw [ea, eb, ep, if_neg (by omega)]; exact ha B hB.1
    · have eb : nextN 1 B Sb.zero = Sb.zero := if_neg (fun y => hB ⟨y.1, y.2.1⟩)
      have ep : pickS A B = none := by
        unfold pickS
        rw [if_neg (fun y => hB ⟨y.1, y.2.1⟩), if_neg hA]
      rw [ea, eb, ep, if_pos hz]

/-- What stands while the newest is looked for: the result's box, the newest's. -/
structure PI (w : World) (x : Sb) (tv : Value) (wx : World) : Prop where
  kept : Kept w wx
  rowr : wx.heap[w.heap.size]? = some (.cells #[.int .u64 0, .int .i64 0, .int .i64 0, .int .i64 0, .int .i64 0, .slice none 0 0] 25 (0, 0))
  rown : wx.heap[w.heap.size + 1]? = some (.cells #[.int .u64 x.seq, .int .i64 x.sec, .int .i64 x.jou, .int .i64 x.use, .int .i64 x.siz, tv] 25 (0, 0))
  runs : RunsAt x.runs tv wx
  wf : x.wf
  new : ∀ a n c, tv = .slice (some a) n c → n ≠ 0 → w.heap.size + 2 ≤ a.block
theorem PI.later {w : World} {x : Sb} {tv : Value} {wx w' : World} (h : PI w x tv wx) (k : Kept wx w') : PI w x tv w' := ⟨h.kept.then k, k.row h.rowr, k.row h.rown, h.runs.later k, h.wf, h.new⟩

set_option maxRecDepth 100000 in
set_option maxHeartbeats 16000000 in
theorem pickOk : YPickOk := by
  intro ta tb w hta htb hT
  obtain ⟨A, hA⟩ : ∃ A, A = ta.data.toList := ⟨_, rfl⟩
  obtain ⟨B, hB⟩ : ∃ B, B = tb.data.toList := ⟨_, rfl⟩
  rw [← hA, ← hB]
  have HA := Lib.hid hA
  have HBB := Lib.hid hB
  have HT := Lib.hid hT
  have HPF := Lib.hid (pick_fold A B)
  obtain ⟨xs, hxs⟩ : ∃ xs, xs = newestN A B := ⟨_, rfl⟩
  rw [← hxs] at HPF
  have HX0 : Hid (xs 0 = Sb.zero) := Lib.hid (by rw [hxs]; rfl)
  have HX1 : Hid (xs 1 = nextN 0 A (xs 0)) := Lib.hid (by rw [hxs]; rfl)
  have HX2 : Hid (xs 2 = nextN 1 B (xs 1)) := Lib.hid (by rw [hxs]; rfl)
  obtain ⟨pe, hpe⟩ : ∃ pe, pe = pickE A B := ⟨_, rfl⟩
  obtain ⟨pd, hpd⟩ : ∃ pd, pd = pickD A B := ⟨_, rfl⟩
  have HPE : Hid (pe = if (pickS A B).isSome then 0 else 110) := Lib.hid hpe
  have HPD : Hid (pd = (pickS A B).getD Sb.zero) := Lib.hid hpd
  rw [← hpe, ← hpd]
  obtain ⟨W1, hW1⟩ : ∃ W1, W1 = (w.alloc (.cells #[.int .u64 0, .int .i64 0, .int .i64 0, .int .i64 0, .int .i64 0, .slice none 0 0] 25)).alloc (.cells #[.int .u64 0, .int .i64 0, .int .i64 0, .int .i64 0, .int .i64 0, .slice none 0 0] 25) := ⟨_, rfl⟩
  have HI0 : Hid (∃ tv, PI w (xs 0) tv W1) := Lib.hid (by
    refine ⟨.slice none 0 0, ?_, ?_, ?_, ?_, ?_, ?_⟩
    · rw [hW1]; exact (show Kept w _ from box_below w _).then (box_below _ _)
    · rw [hW1]; exact heap_alloc2_old w _ _
    · rw [hW1, HX0.out]; exact heap_alloc2_new w _ _
    · rw [HX0.out]; exact RunsAt.nil _ 0
    · rw [HX0.out]; exact Sb.zero_wf
    · exact fun a n c e => by simp at e)
  have hix0 : ∀ W : World, (Instr.index 78 (.agg #[.string ta, .string tb]) (.int .i64 0)).run Tryd.prog W = .ok (.string ta) W := fun _ => by kernel_rfl
  have hix1 : ∀ W : World, (Instr.index 78 (.agg #[.string ta, .string tb]) (.int .i64 1)).run Tryd.prog W = .ok (.string tb) W := fun _ => by kernel_rfl
  have HW1 := Lib.hid hW1
  clear hA hB hT hxs hpe hpd hW1
  go_enter Tryd.func18, Tryd.ntmps18
  go_wp2
  rw [← HW1.out]
  go_loopg [14] 2 (fun gh s14 wx => ∃ k : Nat, k + gh = 2 ∧ s14 = .int .i64 (k : Int) ∧ Hid (∃ tv, PI w (xs k) tv wx))
  case atStart => exact ⟨0, by omega, rfl, HI0⟩
  case round =>
    clear HI0 HW1
    obtain ⟨k, hk, rfl, HIX⟩ := hrel
    obtain ⟨tv, hI⟩ := HIX.out
    obtain ⟨pt, nt, ct, rfl⟩ := hI.runs.sliced
    have HI := Lib.hid hI
    clear HIX hI
    have hk3 : k = 0 ∨ k = 1 ∨ k = 2 := by omega
    rcases hk3 with rfl | rfl | rfl
    · obtain ⟨x, hx⟩ : ∃ x, x = xs 0 := ⟨_, rfl⟩
      rw [← hx] at HI HX1
      clear hx HX0
      have C := sget_any ta (by omega) wr (HT.out.later HI.out.kept)
      rw [← HA.out] at C
      go_wp2_with fail
      refine C.mono ?_
      rintro e w1 ⟨⟨v, rfl, ⟨tv', rfl, hrt, hwf, hnw⟩⟩, hb1⟩
      obtain ⟨d, hd⟩ : ∃ d, d = getD A := ⟨_, rfl⟩
      rw [← hd] at hrt hwf ⊢
      obtain ⟨p', n', c', rfl⟩ := hrt.sliced
      have hI1 := HI.out.later (show Kept wr w1 from hb1)
      have hbx := BoxAt.new hrt hwf
      obtain ⟨W2, hW2⟩ : ∃ W2, W2 = w1.alloc (.cells (sbC d (.slice p' n' c')) 25) := ⟨_, rfl⟩
      rw [← hW2] at hbx
      have HI2 := Lib.hid (hI1.later hbx.2)
      have HBX := Lib.hid hbx.1
      have HNW : Hid (NewAt (.slice p' n' c') wr) := Lib.hid hnw
      have HWF := Lib.hid hwf
      have HSX : Hid (w.heap.size + 2 ≤ wr.heap.size) := Lib.hid (by have := (Array.getElem?_eq_some_iff.1 HI.out.rown).1; omega)
      have HW2 : Hid (W2 = w1.alloc (.cells #[.int .u64 d.seq, .int .i64 d.sec, .int .i64 d.jou, .int .i64 d.use, .int .i64 d.siz, .slice p' n' c'] 25)) := Lib.hid hW2
      have g0 : W2.cell? ⟨w1.heap.size, 0, none⟩ = some (.int .u64 d.seq) := by rw [HBX.out.cell]; rfl
      have n0 : W2.cell? ⟨w.heap.size + 1, 0, none⟩ = some (.int .u64 x.seq) := by rw [cell_of_row _ _ _ _ _ _ HI2.out.rown]; rfl
      have n0w : w1.cell? ⟨w.heap.size + 1, 0, none⟩ = some (.int .u64 x.seq) := by rw [cell_of_row _ _ _ _ _ _ hI1.rown]; rfl
      have CSL := fun W => slot_any d.seq hwf.seq W
      obtain ⟨pr, hpr⟩ : ∃ pr, pr = d.seq % 2 := ⟨_, rfl⟩
      rw [← hpr] at CSL
      have HNX : Hid (nextN 0 A x = if (getS A).isSome = true ∧ pr = 0 ∧ d.seq > x.seq then d else x) := Lib.hid (by unfold nextN; rw [← hd, ← hpr])
      have HE : Hid (getE A = if (getS A).isSome then 0 else 110) := Lib.hid rfl
      obtain ⟨ge, hge⟩ : ∃ ge, ge = getE A := ⟨_, rfl⟩
      rw [← hge] at HE ⊢
      clear hrt hwf hnw hb1 hd hI1 hbx C HI hge hpr
      unfold sbV sbC
      cases hok : (getS A).isSome with
      | false =>
        obtain rfl : ge = 110 := by rw [HE.out, hok]; rfl
        rw [HW2.out] at g0 n0
        clear hW2
        have HI3 : Hid (∃ tv, PI w (xs 1) tv W2) := Lib.hid (by
          rw [HX1.out, HNX.out, if_neg (fun y => by rw [hok] at y; exact absurd y.1 (by decide))]
          exact ⟨_, HI2.out⟩)
        clear HNX HE HX1 hok
        go_wp2_with (go_at_call 21; refine (CSL _).mono ?_; rintro e w9 ⟨rfl, rfl⟩)
        try rw [← HW2.out]
        go_roundg 1
        case measure => omega
        case rel => exact ⟨1, by omega, rfl, HI3⟩
      | true =>
        obtain rfl : ge = 0 := by rw [HE.out, hok]; rfl
        by_cases hp : pr = 0
        case neg =>
          have bp : ((pr : Int) == 0) = false := by rw [beq_eq_false_iff_ne]; omega
          rw [HW2.out] at g0 n0
          clear hW2
          have HI3 : Hid (∃ tv, PI w (xs 1) tv W2) := Lib.hid (by
            rw [HX1.out, HNX.out, if_neg (fun y => hp y.2.1)]
            exact ⟨_, HI2.out⟩)
          clear HNX HE HX1 hok hp
          go_wp2_with (go_at_call 21; refine (CSL _).mono ?_; rintro e w9 ⟨rfl, rfl⟩)
          try rw [← HW2.out]
          go_roundg 1
          case measure => omega
          case rel => exact ⟨1, by omega, rfl, HI3⟩
        have bp : ((pr : Int) == 0) = true := by rw [beq_iff_eq]; omega
        by_cases hgt : (d.seq : Int) > x.seq
        case neg =>
          have bg : decide (x.seq < d.seq) = false := decide_eq_false (by omega)
          rw [HW2.out] at g0 n0
          clear hW2
          have HI3 : Hid (∃ tv, PI w (xs 1) tv W2) := Lib.hid (by
            rw [HX1.out, HNX.out, if_neg (fun y => hgt (by omega))]
            exact ⟨_, HI2.out⟩)
          clear HNX HE HX1 hok hp hgt
          go_wp2_with (go_at_call 21; refine (CSL _).mono ?_; rintro e w9 ⟨rfl, rfl⟩)
          try rw [← HW2.out]
          go_roundg 1
          case measure => omega
          case rel => exact ⟨1, by omega, rfl, HI3⟩
        have bg : decide (x.seq < d.seq) = true := decide_eq_true (by omega)
        have HXE : Hid (xs 1 = d) := Lib.hid (by rw [HX1.out, HNX.out, if_pos ⟨hok, hp, by omega⟩])
        have g1 : W2.cell? ⟨w1.heap.size, 1, none⟩ = some (.int .i64 d.sec) := by rw [HBX.out.cell]; rfl
        have g2 : W2.cell? ⟨w1.heap.size, 2, none⟩ = some (.int .i64 d.jou) := by rw [HBX.out.cell]; rfl
        have g3 : W2.cell? ⟨w1.heap.size, 3, none⟩ = some (.int .i64 d.use) := by rw [HBX.out.cell]; rfl
        have g4 : W2.cell? ⟨w1.heap.size, 4, none⟩ = some (.int .i64 d.siz) := by rw [HBX.out.cell]; rfl
        have g5 : W2.cell? ⟨w1.heap.size, 5, none⟩ = some (.slice p' n' c') := by rw [HBX.out.cell]; rfl
        have m1 : W2.cell? ⟨w.heap.size + 1, 1, none⟩ = some (.int .i64 x.sec) := by rw [cell_of_row _ _ _ _ _ _ HI2.out.rown]; rfl
        have m2 : W2.cell? ⟨w.heap.size + 1, 2, none⟩ = some (.int .i64 x.jou) := by rw [cell_of_row _ _ _ _ _ _ HI2.out.rown]; rfl
        have m3 : W2.cell? ⟨w.heap.size + 1, 3, none⟩ = some (.int .i64 x.use) := by rw [cell_of_row _ _ _ _ _ _ HI2.out.rown]; rfl
        have m4 : W2.cell? ⟨w.heap.size + 1, 4, none⟩ = some (.int .i64 x.siz) := by rw [cell_of_row _ _ _ _ _ _ HI2.out.rown]; rfl
        have m5 : W2.cell? ⟨w.heap.size + 1, 5, none⟩ = some (.slice pt nt ct) := by rw [cell_of_row _ _ _ _ _ _ HI2.out.rown]; rfl
        have f0 := frozen_of_row W2 (w.heap.size + 1) 0 _ _ HI2.out.rown
        have f1 := frozen_of_row W2 (w.heap.size + 1) 1 _ _ HI2.out.rown
        have f2 := frozen_of_row W2 (w.heap.size + 1) 2 _ _ HI2.out.rown
        have f3 := frozen_of_row W2 (w.heap.size + 1) 3 _ _ HI2.out.rown
        have f4 := frozen_of_row W2 (w.heap.size + 1) 4 _ _ HI2.out.rown
        have f5 := frozen_of_row W2 (w.heap.size + 1) 5 _ _ HI2.out.rown
        have HSET : Hid (∃ tv, PI w (xs 1) tv ((((((W2.setCell ⟨w.heap.size + 1, 0, none⟩ (.int .u64 d.seq)).setCell ⟨w.heap.size + 1, 1, none⟩ (.int .i64 d.sec)).setCell ⟨w.heap.size + 1, 2, none⟩ (.int .i64 d.jou)).setCell ⟨w.heap.size + 1, 3, none⟩ (.int .i64 d.use)).setCell ⟨w.heap.size + 1, 4, none⟩ (.int .i64 d.siz)).setCell ⟨w.heap.size + 1, 5, none⟩ (.slice p' n' c'))) := Lib.hid (by
          have hr := HI2.out
          rw [HXE.out]
          refine ⟨.slice p' n' c', ?_, ?_, set6_row hr.rown _ _ _ _ _ _, ?_, HWF.out, ?_⟩
          · exact below_set6 hr.kept (by omega) _ _ _ _ _ _
          · rw [heap_setCell_other _ _ _ _ (by dsimp only; omega), heap_setCell_other _ _ _ _ (by dsimp only; omega), heap_setCell_other _ _ _ _ (by dsimp only; omega), heap_setCell_other _ _ _ _ (by dsimp only; omega), heap_setCell_other _ _ _ _ (by dsimp only; omega), heap_setCell_other _ _ _ _ (by dsimp only; omega)]
            exact hr.rowr
          · exact HBX.out.runs.but (Bs := fun k => k = w.heap.size + 1) (fun a n c e hn hk => by have h1 := HNW.out a n c e hn; have := HSX.out; omega) (but_set6 _ _ _ _ _ _ _ _)
          · exact fun a n c e hn => by have h1 := HNW.out a n c e hn; have := HSX.out; omega)
        rw [HW2.out] at g0 n0 g1 g2 g3 g4 g5 m1 m2 m3 m4 m5 f0 f1 f2 f3 f4 f5
        clear HNX HE hok hp hgt HI2 HBX HX1 HXE hW2
        go_wp2_with (go_at_call 21; refine (CSL _).mono ?_; rintro e w9 ⟨rfl, rfl⟩)
        try rw [← HW2.out]
        go_roundg 1
        case measure => omega
        case rel => exact ⟨1, by omega, rfl, HSET⟩
    · obtain ⟨x, hx⟩ : ∃ x, x = xs 1 := ⟨_, rfl⟩
      rw [← hx] at HI HX2
      clear hx HX0 HX1
      have C := sget_any tb (by omega) wr (HT.out.later HI.out.kept)
      rw [← HBB.out] at C
      go_wp2_with fail
      refine C.mono ?_
      rintro e w1 ⟨⟨v, rfl, ⟨tv', rfl, hrt, hwf, hnw⟩⟩, hb1⟩
      obtain ⟨d, hd⟩ : ∃ d, d = getD B := ⟨_, rfl⟩
      rw [← hd] at hrt hwf ⊢
      obtain ⟨p', n', c', rfl⟩ := hrt.sliced
      have hI1 := HI.out.later (show Kept wr w1 from hb1)
      have hbx := BoxAt.new hrt hwf
      obtain ⟨W2, hW2⟩ : ∃ W2, W2 = w1.alloc (.cells (sbC d (.slice p' n' c')) 25) := ⟨_, rfl⟩
      rw [← hW2] at hbx
      have HI2 := Lib.hid (hI1.later hbx.2)
      have HBX := Lib.hid hbx.1
      have HNW : Hid (NewAt (.slice p' n' c') wr) := Lib.hid hnw
      have HWF := Lib.hid hwf
      have HSX : Hid (w.heap.size + 2 ≤ wr.heap.size) := Lib.hid (by have := (Array.getElem?_eq_some_iff.1 HI.out.rown).1; omega)
      have HW2 : Hid (W2 = w1.alloc (.cells #[.int .u64 d.seq, .int .i64 d.sec, .int .i64 d.jou, .int .i64 d.use, .int .i64 d.siz, .slice p' n' c'] 25)) := Lib.hid hW2
      have g0 : W2.cell? ⟨w1.heap.size, 0, none⟩ = some (.int .u64 d.seq) := by rw [HBX.out.cell]; rfl
      have n0 : W2.cell? ⟨w.heap.size + 1, 0, none⟩ = some (.int .u64 x.seq) := by rw [cell_of_row _ _ _ _ _ _ HI2.out.rown]; rfl
      have n0w : w1.cell? ⟨w.heap.size + 1, 0, none⟩ = some (.int .u64 x.seq) := by rw [cell_of_row _ _ _ _ _ _ hI1.rown]; rfl
      have CSL := fun W => slot_any d.seq hwf.seq W
      obtain ⟨pr, hpr⟩ : ∃ pr, pr = d.seq % 2 := ⟨_, rfl⟩
      rw [← hpr] at CSL
      have HNX : Hid (nextN 1 B x = if (getS B).isSome = true ∧ pr = 1 ∧ d.seq > x.seq then d else x) := Lib.hid (by unfold nextN; rw [← hd, ← hpr])
      have HE : Hid (getE B = if (getS B).isSome then 0 else 110) := Lib.hid rfl
      obtain ⟨ge, hge⟩ : ∃ ge, ge = getE B := ⟨_, rfl⟩
      rw [← hge] at HE ⊢
      clear hrt hwf hnw hb1 hd hI1 hbx C HI hge hpr
      unfold sbV sbC
      cases hok : (getS B).isSome with
      | false =>
        obtain rfl : ge = 110 := by rw [HE.out, hok]; rfl
        rw [HW2.out] at g0 n0
        clear hW2
        have HI3 : Hid (∃ tv, PI w (xs 2) tv W2) := Lib.hid (by
          rw [HX2.out, HNX.out, if_neg (fun y => by rw [hok] at y; exact absurd y.1 (by decide))]
          exact ⟨_, HI2.out⟩)
        clear HNX HE HX2 hok
        go_wp2_with (go_at_call 21; refine (CSL _).mono ?_; rintro e w9 ⟨rfl, rfl⟩)
        try rw [← HW2.out]
        go_roundg 0
        case measure => omega
        case rel => exact ⟨2, by omega, rfl, HI3⟩
      | true =>
        obtain rfl : ge = 0 := by rw [HE.out, hok]; rfl
        by_cases hp : pr = 1
        case neg =>
          have bp : ((pr : Int) == 1) = false := by rw [beq_eq_false_iff_ne]; omega
          rw [HW2.out] at g0 n0
          clear hW2
          have HI3 : Hid (∃ tv, PI w (xs 2) tv W2) := Lib.hid (by
            rw [HX2.out, HNX.out, if_neg (fun y => hp y.2.1)]
            exact ⟨_, HI2.out⟩)
          clear HNX HE HX2 hok hp
          go_wp2_with (go_at_call 21; refine (CSL _).mono ?_; rintro e w9 ⟨rfl, rfl⟩)
          try rw [← HW2.out]
          go_roundg 0
          case measure => omega
          case rel => exact ⟨2, by omega, rfl, HI3⟩
        have bp : ((pr : Int) == 1) = true := by rw [beq_iff_eq]; omega
        by_cases hgt : (d.seq : Int) > x.seq
        case neg =>
          have bg : decide (x.seq < d.seq) = false := decide_eq_false (by omega)
          rw [HW2.out] at g0 n0
          clear hW2
          have HI3 : Hid (∃ tv, PI w (xs 2) tv W2) := Lib.hid (by
            rw [HX2.out, HNX.out, if_neg (fun y => hgt (by omega))]
            exact ⟨_, HI2.out⟩)
          clear HNX HE HX2 hok hp hgt
          go_wp2_with (go_at_call 21; refine (CSL _).mono ?_; rintro e w9 ⟨rfl, rfl⟩)
          try rw [← HW2.out]
          go_roundg 0
          case measure => omega
          case rel => exact ⟨2, by omega, rfl, HI3⟩
        have bg : decide (x.seq < d.seq) = true := decide_eq_true (by omega)
        have HXE : Hid (xs 2 = d) := Lib.hid (by rw [HX2.out, HNX.out, if_pos ⟨hok, hp, by omega⟩])
        have g1 : W2.cell? ⟨w1.heap.size, 1, none⟩ = some (.int .i64 d.sec) := by rw [HBX.out.cell]; rfl
        have g2 : W2.cell? ⟨w1.heap.size, 2, none⟩ = some (.int .i64 d.jou) := by rw [HBX.out.cell]; rfl
        have g3 : W2.cell? ⟨w1.heap.size, 3, none⟩ = some (.int .i64 d.use) := by rw [HBX.out.cell]; rfl
        have g4 : W2.cell? ⟨w1.heap.size, 4, none⟩ = some (.int .i64 d.siz) := by rw [HBX.out.cell]; rfl
        have g5 : W2.cell? ⟨w1.heap.size, 5, none⟩ = some (.slice p' n' c') := by rw [HBX.out.cell]; rfl
        have m1 : W2.cell? ⟨w.heap.size + 1, 1, none⟩ = some (.int .i64 x.sec) := by rw [cell_of_row _ _ _ _ _ _ HI2.out.rown]; rfl
        have m2 : W2.cell? ⟨w.heap.size + 1, 2, none⟩ = some (.int .i64 x.jou) := by rw [cell_of_row _ _ _ _ _ _ HI2.out.rown]; rfl
        have m3 : W2.cell? ⟨w.heap.size + 1, 3, none⟩ = some (.int .i64 x.use) := by rw [cell_of_row _ _ _ _ _ _ HI2.out.rown]; rfl
        have m4 : W2.cell? ⟨w.heap.size + 1, 4, none⟩ = some (.int .i64 x.siz) := by rw [cell_of_row _ _ _ _ _ _ HI2.out.rown]; rfl
        have m5 : W2.cell? ⟨w.heap.size + 1, 5, none⟩ = some (.slice pt nt ct) := by rw [cell_of_row _ _ _ _ _ _ HI2.out.rown]; rfl
        have f0 := frozen_of_row W2 (w.heap.size + 1) 0 _ _ HI2.out.rown
        have f1 := frozen_of_row W2 (w.heap.size + 1) 1 _ _ HI2.out.rown
        have f2 := frozen_of_row W2 (w.heap.size + 1) 2 _ _ HI2.out.rown
        have f3 := frozen_of_row W2 (w.heap.size + 1) 3 _ _ HI2.out.rown
        have f4 := frozen_of_row W2 (w.heap.size + 1) 4 _ _ HI2.out.rown
        have f5 := frozen_of_row W2 (w.heap.size + 1) 5 _ _ HI2.out.rown
        have HSET : Hid (∃ tv, PI w (xs 2) tv ((((((W2.setCell ⟨w.heap.size + 1, 0, none⟩ (.int .u64 d.seq)).setCell ⟨w.heap.size + 1, 1, none⟩ (.int .i64 d.sec)).setCell ⟨w.heap.size + 1, 2, none⟩ (.int .i64 d.jou)).setCell ⟨w.heap.size + 1, 3, none⟩ (.int .i64 d.use)).setCell ⟨w.heap.size + 1, 4, none⟩ (.int .i64 d.siz)).setCell ⟨w.heap.size + 1, 5, none⟩ (.slice p' n' c'))) := Lib.hid (by
          have hr := HI2.out
          rw [HXE.out]
          refine ⟨.slice p' n' c', ?_, ?_, set6_row hr.rown _ _ _ _ _ _, ?_, HWF.out, ?_⟩
          · exact below_set6 hr.kept (by omega) _ _ _ _ _ _
          · rw [heap_setCell_other _ _ _ _ (by dsimp only; omega), heap_setCell_other _ _ _ _ (by dsimp only; omega), heap_setCell_other _ _ _ _ (by dsimp only; omega), heap_setCell_other _ _ _ _ (by dsimp only; omega), heap_setCell_other _ _ _ _ (by dsimp only; omega), heap_setCell_other _ _ _ _ (by dsimp only; omega)]
            exact hr.rowr
          · exact HBX.out.runs.but (Bs := fun k => k = w.heap.size + 1) (fun a n c e hn hk => by have h1 := HNW.out a n c e hn; have := HSX.out; omega) (but_set6 _ _ _ _ _ _ _ _)
          · exact fun a n c e hn => by have h1 := HNW.out a n c e hn; have := HSX.out; omega)
        rw [HW2.out] at g0 n0 g1 g2 g3 g4 g5 m1 m2 m3 m4 m5 f0 f1 f2 f3 f4 f5
        clear HNX HE hok hp hgt HI2 HBX HX2 HXE hW2
        go_wp2_with (go_at_call 21; refine (CSL _).mono ?_; rintro e w9 ⟨rfl, rfl⟩)
        try rw [← HW2.out]
        go_roundg 0
        case measure => omega
        case rel => exact ⟨2, by omega, rfl, HSET⟩
    · obtain ⟨x, hx⟩ : ∃ x, x = xs 2 := ⟨_, rfl⟩
      rw [← hx] at HI HPF
      clear hx HX0 HX1 HX2
      have hz0 : x.seq < 2 ^ 64 := HI.out.wf.seq
      have n0 : wr.cell? ⟨w.heap.size + 1, 0, none⟩ = some (.int .u64 x.seq) := by rw [cell_of_row _ _ _ _ _ _ HI.out.rown]; rfl
      have m1 : wr.cell? ⟨w.heap.size + 1, 1, none⟩ = some (.int .i64 x.sec) := by rw [cell_of_row _ _ _ _ _ _ HI.out.rown]; rfl
      have m2 : wr.cell? ⟨w.heap.size + 1, 2, none⟩ = some (.int .i64 x.jou) := by rw [cell_of_row _ _ _ _ _ _ HI.out.rown]; rfl
      have m3 : wr.cell? ⟨w.heap.size + 1, 3, none⟩ = some (.int .i64 x.use) := by rw [cell_of_row _ _ _ _ _ _ HI.out.rown]; rfl
      have m4 : wr.cell? ⟨w.heap.size + 1, 4, none⟩ = some (.int .i64 x.siz) := by rw [cell_of_row _ _ _ _ _ _ HI.out.rown]; rfl
      have m5 : wr.cell? ⟨w.heap.size + 1, 5, none⟩ = some (.slice pt nt ct) := by rw [cell_of_row _ _ _ _ _ _ HI.out.rown]; rfl
      have d0 : wr.cell? ⟨w.heap.size, 0, none⟩ = some (.int .u64 0) := by rw [cell_of_row _ _ _ _ _ _ HI.out.rowr]; rfl
      have d1 : wr.cell? ⟨w.heap.size, 1, none⟩ = some (.int .i64 0) := by rw [cell_of_row _ _ _ _ _ _ HI.out.rowr]; rfl
      have d2 : wr.cell? ⟨w.heap.size, 2, none⟩ = some (.int .i64 0) := by rw [cell_of_row _ _ _ _ _ _ HI.out.rowr]; rfl
      have d3 : wr.cell? ⟨w.heap.size, 3, none⟩ = some (.int .i64 0) := by rw [cell_of_row _ _ _ _ _ _ HI.out.rowr]; rfl
      have d4 : wr.cell? ⟨w.heap.size, 4, none⟩ = some (.int .i64 0) := by rw [cell_of_row _ _ _ _ _ _ HI.out.rowr]; rfl
      have d5 : wr.cell? ⟨w.heap.size, 5, none⟩ = some (.slice none 0 0) := by rw [cell_of_row _ _ _ _ _ _ HI.out.rowr]; rfl
      have f0 := frozen_of_row wr w.heap.size 0 _ _ HI.out.rowr
      have f1 := frozen_of_row wr w.heap.size 1 _ _ HI.out.rowr
      have f2 := frozen_of_row wr w.heap.size 2 _ _ HI.out.rowr
      have f3 := frozen_of_row wr w.heap.size 3 _ _ HI.out.rowr
      have f4 := frozen_of_row wr w.heap.size 4 _ _ HI.out.rowr
      have f5 := frozen_of_row wr w.heap.size 5 _ _ HI.out.rowr
      by_cases h0 : x.seq = 0
      · have bz : ((x.seq : Int) == 0) = true := by rw [beq_iff_eq]; omega
        have HF : Hid (pe = 110 ∧ pd = Sb.zero) := Lib.hid (by
          rw [HPE.out, HPD.out, HPF.out, if_pos h0]
          exact ⟨rfl, rfl⟩)
        clear h0 hz0 HPE HPD HPF
        go_wp2
        refine bodyPost_ret (results_cell_tmp_rowS Tryd.results18 _ _ w.heap.size 25 #[.int .u64 0, .int .i64 0, .int .i64 0, .int .i64 0, .int .i64 0, .slice none 0 0] (0, 0) _ rfl (set6_row HI.out.rowr _ _ _ _ _ _) Tryd.underlying25 rfl infoSb) rfl ⟨⟨.agg zeroC, by rw [HF.out.1]; rfl, by rw [HF.out.2]; exact (zero_at wr _).at_⟩, below_set6 HI.out.kept (Nat.le_refl _) _ _ _ _ _ _⟩
      · have bz : ((x.seq : Int) == 0) = false := by rw [beq_eq_false_iff_ne]; omega
        have HF : Hid (pe = 0 ∧ pd = x) := Lib.hid (by
          rw [HPE.out, HPD.out, HPF.out, if_neg h0]
          exact ⟨rfl, rfl⟩)
        clear h0 hz0 HPE HPD HPF
        go_wp2
        refine bodyPost_ret (results_cell_tmp_rowS Tryd.results18 _ _ w.heap.size 25 #[.int .u64 x.seq, .int .i64 x.sec, .int .i64 x.jou, .int .i64 x.use, .int .i64 x.siz, .slice pt nt ct] (0, 0) _ rfl (set6_row HI.out.rowr _ _ _ _ _ _) Tryd.underlying25 rfl infoSb) rfl ⟨⟨_, by rw [HF.out.1]; rfl, ?_⟩, below_set6 HI.out.kept (Nat.le_refl _) _ _ _ _ _ _⟩
        rw [HF.out.2]
        exact ⟨_, rfl, HI.out.runs.but (Bs := fun k => k = w.heap.size) (fun a n c e hn hk => by have h1 := HI.out.new a n c e hn; omega) (but_set6 _ _ _ _ _ _ _ _), HI.out.wf⟩

end Go.Proofs.YtlfmmhalheohdaaDoor
