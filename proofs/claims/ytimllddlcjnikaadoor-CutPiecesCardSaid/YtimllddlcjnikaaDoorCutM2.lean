/- The walks of newSearch, after, Cut. -/
import Derived.Test.YtimllddlcjnikaaDoorCutE
import Derived.Test.YtimllddlcjnikaaDoorCutN
namespace Go.Proofs.YtimllddlcjnikaaDoor
open Go.RowKit

/-- The greater of two numbers, as one step of a walk. -/
theorem wpList_max2 {P : Program} {ops : Array Oper} {rest : List Oper} {o : Oper} {a : Act} {w : World} {Q : Exit → Act → World → Prop} (hgd : o.guard = none) (x y : Operand) (t u : TypeId)
    (ho : o.op = .call { callee := .builtin .max, args := #[x, y], argTypes := #[t, u] }) (k k' : IntKind) (m n r : Int) (hx : a.eval x = .int k m) (hy : a.eval y = .int k' n) (hr : (if n > m then n else m) = r)
    (h : wpList P ops Q rest (a.put o.dst (.int k r)) w) : wpList P ops Q (o :: rest) a w := by
  refine wpList_plain hgd fun K hK => ?_
  subst hr
  unfold Oper.wp execOp
  simp only [ho, resolve, invoke, builtin, Sem.run_bind, Sem.run_pure, Result.andThen_ok, List.map_toArray, List.map_cons, List.map_nil, hx, hy, run_max_int2]
  exact hK _ _ h

/-- The cells of a search. -/
def srchA (C : Array Value) (n fr h k : Nat) : Array Value := C ++ #[.int .i64 n, .int .i64 fr, .int .u32 h, .int .i64 k]

theorem srchA_size (C : Array Value) (n fr h k : Nat) (hC : C.size = 13) : (srchA C n fr h k).size = 17 := by simp [srchA, hC]
theorem srchA_get (C : Array Value) (n fr h k : Nat) (hC : C.size = 13) (i : Nat) : (srchA C n fr h k)[13 + i]? = #[Value.int .i64 n, .int .i64 fr, .int .u32 h, .int .i64 k][i]? := by
  unfold srchA
  rw [Array.getElem?_append_right (by omega), hC, Nat.add_sub_cancel_left]
theorem srchA_row (C : Array Value) (n fr h k : Nat) (hC : C.size = 13) : SrchRow (srchA C n fr h k) 0 C n fr h k where
  size := by rw [srchA_size _ _ _ _ _ hC]; omega
  conf := by
    obtain ⟨l⟩ := C
    match l, hC with
    | [x0, x1, x2, x3, x4, x5, x6, x7, x8, x9, x10, x11, x12], _ => rfl
  cn := srchA_get C n fr h k hC 0
  cf := srchA_get C n fr h k hC 1
  ch := srchA_get C n fr h k hC 2
  ck := srchA_get C n fr h k hC 3
theorem srchA_one (C : Array Value) (n fr h k : Nat) (hC : C.all (·.oneCell') = true) : (srchA C n fr h k).all (·.oneCell') = true := by
  unfold srchA
  rw [Array.all_append, hC]
  simp [Value.oneCell']
theorem info_srch : (Tryd.prog.info? 47).map (·.size) = some 17 := by kernel_rfl

theorem built_lits (x0 x1 x2 x3 x4 x5 x6 x7 x8 x9 x10 x11 x12 : Value) (n fr : Nat) : Tryd.prog.built 47 [(0, .agg #[x0, x1, x2, x3, x4, x5, x6, x7, x8, x9, x10, x11, x12]), (1, .int .i64 n), (2, .int .i64 fr)] = some #[x0, x1, x2, x3, x4, x5, x6, x7, x8, x9, x10, x11, x12, .int .i64 n, .int .i64 fr, .int .u32 0, .int .i64 0] := by kernel_rfl

theorem built_srch (C : Array Value) (n fr : Nat) (hC : C.size = 13) : Tryd.prog.built 47 [(0, .agg C), (1, .int .i64 n), (2, .int .i64 fr)] = some (srchA C n fr 0 0) := by
  obtain ⟨l⟩ := C
  match l, hC with
  | [x0, x1, x2, x3, x4, x5, x6, x7, x8, x9, x10, x11, x12], _ => exact built_lits x0 x1 x2 x3 x4 x5 x6 x7 x8 x9 x10 x11 x12 n fr

set_option maxRecDepth 100000 in
set_option maxHeartbeats 1000000 in
theorem newSearch_any (C : Array Value) (mn mx dm db : Nat) (hC : IsConf C mn mx dm db) (h1 : 1 ≤ mn) (h2 : mn ≤ 4096) (w : World) :
    Calls Tryd.prog 24 #[.agg C] w fun e w' => e = .returned (.agg (srchA C (mn - 1) (max mn 16) 0 0)) ∧ Below w.heap.size w w' := by
  have e0 := hC.c0
  obtain ⟨n, hn⟩ : ∃ n, n = mn - 1 := ⟨_, rfl⟩
  obtain ⟨fr, hfr⟩ : ∃ fr, fr = max mn 16 := ⟨_, rfl⟩
  rw [← hn, ← hfr]
  have hn' : (mn : Int) - 1 = (n : Int) := by omega
  have hmax : (if (16 : Int) > (mn : Int) then (16 : Int) else (mn : Int)) = (fr : Int) := by split <;> omega
  have HMX := Lib.hid hmax
  have HB := Lib.hid (built_srch C n fr hC.size)
  have HLI : Hid ((Tryd.prog.info? 23).map (·.size) = some C.size) := by rw [hC.size]; exact info_conf
  have HSZ := Lib.hid (srchA_size C n fr 0 0 hC.size)
  have HON := Lib.hid (srchA_one C n fr 0 0 hC.one)
  have HCS := Lib.hid hC.size
  obtain ⟨D, hD⟩ : ∃ D, D = srchA C n fr 0 0 := ⟨_, rfl⟩
  rw [← hD] at HB HSZ HON ⊢
  clear hC hn hfr hD hmax
  have HFI : Hid ((Tryd.prog.info? 47).map (·.size) = some D.size) := by rw [HSZ.out]; exact info_srch
  have HUS : Hid ((#[Value.int .i64 0, .int .i64 0, .int .i64 0, .int .i64 0, .int .i64 0, .int .i64 0, .int .i64 0, .int .i64 0, .int .i64 0, .int .i64 0, .int .i64 0, .int .i64 0, .int .i64 0, .int .i64 0, .int .i64 0, .int .u32 0, .int .i64 0] : Array Value).size = D.size) := HSZ.out.symm
  go_enter Tryd.func24, Tryd.ntmps24
  go_wp2_with (first
    | (with_reducible refine wpList_load_row rfl _ _ rfl w.heap.size rfl 23 C (0, 0) _ (heap_alloc2_old w _ _) Tryd.underlying23 rfl HLI.out ?_)
    | (with_reducible refine wpList_max2 rfl _ _ _ _ rfl .i64 .i64 _ _ fr rfl rfl HMX.out ?_)
    | (with_reducible refine wpList_built rfl _ _ rfl [(0, .agg C), (1, .int .i64 n), (2, .int .i64 fr)] ?hpsB D HB.out ?_)
    | (with_reducible refine wpList_store_row rfl _ _ _ rfl (w.heap.size + 1) D rfl rfl 47 _ (heap_alloc2_new w _ _) HFI.out HUS.out HON.out ?_))
  refine bodyPost_ret (results_cell_row Tryd.results24 _ _ (w.heap.size + 1) 47 D (0, 0) _ rfl (setRow_heap _ _ _ _ _ _ (heap_alloc2_new w _ _)) Tryd.underlying47 rfl HFI.out) rfl ⟨rfl, ?_⟩
  exact below_setRow (((Below.refl _ _).alloc (Nat.le_refl _) _).alloc (by simp) _) _ _ (by omega)

theorem srchA_setF (C : Array Value) (n fr h k m : Nat) (hC : C.size = 13) : (srchA C n fr h k).setIfInBounds 14 (.int .i64 m) = srchA C n m h k := by
  obtain ⟨l⟩ := C
  match l, hC with
  | [x0, x1, x2, x3, x4, x5, x6, x7, x8, x9, x10, x11, x12], _ => rfl

set_option maxRecDepth 100000 in
set_option maxHeartbeats 1000000 in
theorem after_any (b o : Nat) (T : TypeId) (R0 C : Array Value) (mn mx dm db n fr h k r : Nat) (hC : IsConf C mn mx dm db) (h1 : 1 ≤ mn) (h2 : mn ≤ 4096) (hr : r ≤ n) (hn : n ≤ 4096) (w : World) (hI : SrchIn b o T R0 C n fr h k w) :
    Calls Tryd.prog 29 #[.pointer (some ⟨b, o, none⟩), .int .i64 r] w fun e w' => e = .returned (.agg (srchA C (mn - 1) (max (max mn 16) (n - r + 1)) 0 0)) ∧ Below w.heap.size w w' := by
  have NS := newSearch_any C mn mx dm db hC h1 h2
  have hlt := hI.lt
  obtain ⟨f0, hf0⟩ : ∃ f, f = max mn 16 := ⟨_, rfl⟩
  obtain ⟨f1, hf1⟩ : ∃ f, f = max f0 (n - r + 1) := ⟨_, rfl⟩
  rw [← hf0] at NS
  rw [← hf0, ← hf1]
  have HC := Lib.hid hC
  have HI := Lib.hid hI
  have HLI : Hid ((Tryd.prog.info? 23).map (·.size) = some 13) := info_conf
  have HFI : Hid ((Tryd.prog.info? 47).map (·.size) = some (srchA C (mn - 1) f0 0 0).size) := by rw [srchA_size _ _ _ _ _ hC.size]; exact info_srch
  have HFI2 : Hid ((Tryd.prog.info? 47).map (·.size) = some (srchA C (mn - 1) f1 0 0).size) := by rw [srchA_size _ _ _ _ _ hC.size]; exact info_srch
  have HUS : Hid ((#[Value.int .i64 0, .int .i64 0, .int .i64 0, .int .i64 0, .int .i64 0, .int .i64 0, .int .i64 0, .int .i64 0, .int .i64 0, .int .i64 0, .int .i64 0, .int .i64 0, .int .i64 0, .int .i64 0, .int .i64 0, .int .u32 0, .int .i64 0] : Array Value).size = (srchA C (mn - 1) f0 0 0).size) := (srchA_size _ _ _ _ _ hC.size).symm
  have HUS2 : Hid ((#[Value.int .i64 0, .int .i64 0, .int .i64 0, .int .i64 0, .int .i64 0, .int .i64 0, .int .i64 0, .int .i64 0, .int .i64 0, .int .i64 0, .int .i64 0, .int .i64 0, .int .i64 0, .int .i64 0, .int .i64 0, .int .u32 0, .int .i64 0] : Array Value).size = (srchA C (mn - 1) f1 0 0).size) := (srchA_size _ _ _ _ _ hC.size).symm
  have HON := Lib.hid (srchA_one C (mn - 1) f0 0 0 hC.one)
  have HON2 := Lib.hid (srchA_one C (mn - 1) f1 0 0 hC.one)
  have HSF := Lib.hid (srchA_setF C (mn - 1) f0 0 0 f1 hC.size)
  have HG14 := Lib.hid (srchA_get C (mn - 1) f0 0 0 hC.size 1)
  obtain ⟨D, hD⟩ : ∃ D, D = srchA C (mn - 1) f0 0 0 := ⟨_, rfl⟩
  obtain ⟨D2, hD2⟩ : ∃ D, D = srchA C (mn - 1) f1 0 0 := ⟨_, rfl⟩
  rw [← hD] at NS HFI HUS HON HSF HG14
  rw [← hD2] at HFI2 HUS2 HON2 HSF
  rw [← hD2]
  obtain ⟨R, hg, hR, hO⟩ := hI
  have H0 := heap_alloc_old w (.cells #[Value.int .i64 0, .int .i64 0, .int .i64 0, .int .i64 0, .int .i64 0, .int .i64 0, .int .i64 0, .int .i64 0, .int .i64 0, .int .i64 0, .int .i64 0, .int .i64 0, .int .i64 0, .int .i64 0, .int .i64 0, .int .u32 0, .int .i64 0] 47) hlt
  rw [hg] at H0
  have HRS := hR.size
  have HRC := hR.conf
  have HF0 := Lib.hid hf0
  have HF1 := Lib.hid hf1
  clear hf0 hf1 hD hD2 hO hC
  go_enter Tryd.func29, Tryd.ntmps29
  go_wp2_with (with_reducible refine wpList_load_sub rfl _ _ rfl b o 13 rfl T R (0, 0) _ H0 Tryd.underlying23 rfl HLI.out (by omega) C HRC ?_)
  refine (NS _).mono ?_
  rintro e w1 ⟨rfl, hb1⟩
  have K0 := box_below w (.cells #[Value.int .i64 0, .int .i64 0, .int .i64 0, .int .i64 0, .int .i64 0, .int .i64 0, .int .i64 0, .int .i64 0, .int .i64 0, .int .i64 0, .int .i64 0, .int .i64 0, .int .i64 0, .int .i64 0, .int .i64 0, .int .u32 0, .int .i64 0] 47)
  have g0 := heap_alloc_last w (.cells #[Value.int .i64 0, .int .i64 0, .int .i64 0, .int .i64 0, .int .i64 0, .int .i64 0, .int .i64 0, .int .i64 0, .int .i64 0, .int .i64 0, .int .i64 0, .int .i64 0, .int .i64 0, .int .i64 0, .int .i64 0, .int .u32 0, .int .i64 0] 47)
  have g1 := (hb1.block _ (Array.getElem?_eq_some_iff.1 g0).1).trans g0
  have H1 := (hb1.block _ (Array.getElem?_eq_some_iff.1 H0).1).trans H0
  have K1 := Below.then' K0 hb1 K0.size
  have hsz1 := K1.size
  clear hb1 K0 g0 H0 hg
  go_wp2_with (with_reducible refine wpList_store_row rfl _ _ _ rfl w1.heap.size D rfl rfl 47 _ (heap_alloc_last w1 _) HFI.out HUS.out HON.out ?_)
  rw [World.setRow_alloc_new]
  obtain ⟨t5, ht5⟩ : ∃ t, t = w1.heap.size := ⟨_, rfl⟩
  obtain ⟨W, hW⟩ : ∃ W, W = w1.alloc (.cells D 47) := ⟨_, rfl⟩
  have G5 : W.heap[t5]? = some (.cells D 47 (0, 0)) := by rw [hW, ht5]; exact heap_alloc_last w1 _
  have GB : W.heap[b]? = some (.cells R T (0, 0)) := by rw [hW]; exact (heap_alloc_old w1 _ (Array.getElem?_eq_some_iff.1 H1).1).trans H1
  have G0 : W.heap[w.heap.size]? = some (.cells #[Value.int .i64 0, .int .i64 0, .int .i64 0, .int .i64 0, .int .i64 0, .int .i64 0, .int .i64 0, .int .i64 0, .int .i64 0, .int .i64 0, .int .i64 0, .int .i64 0, .int .i64 0, .int .i64 0, .int .i64 0, .int .u32 0, .int .i64 0] 47 (0, 0)) := by rw [hW]; exact (heap_alloc_old w1 _ (Array.getElem?_eq_some_iff.1 g1).1).trans g1
  have KW : Below w.heap.size w W := by rw [hW]; exact K1.alloc hsz1 _
  have ht5w : w.heap.size < t5 := by rw [ht5]; exact (Array.getElem?_eq_some_iff.1 g1).1
  rw [← hW, ← ht5]
  have c14 : W.cell? ⟨t5, 14, none⟩ = some (.int .i64 f0) := (cell_of_row _ _ _ _ _ _ G5).trans HG14.out
  have f14 : W.frozen? ⟨t5, 14, none⟩ = false := frozen_of_row _ _ _ _ _ G5
  have c13 : W.cell? ⟨b, o + 13, none⟩ = some (.int .i64 n) := (cell_of_row _ _ _ _ _ _ GB).trans hR.cn
  have G5' : (W.setCell ⟨t5, 14, none⟩ (.int .i64 f1)).heap[t5]? = some (.cells D2 47 (0, 0)) := by rw [← HSF.out]; exact heap_setCell_same _ _ _ _ _ _ G5
  have G0' : (W.setCell ⟨t5, 14, none⟩ (.int .i64 f1)).heap[w.heap.size]? = some (.cells #[Value.int .i64 0, .int .i64 0, .int .i64 0, .int .i64 0, .int .i64 0, .int .i64 0, .int .i64 0, .int .i64 0, .int .i64 0, .int .i64 0, .int .i64 0, .int .i64 0, .int .i64 0, .int .i64 0, .int .i64 0, .int .u32 0, .int .i64 0] 47 (0, 0)) := by rw [heap_setCell_other _ _ _ _ (by show w.heap.size ≠ t5; omega)]; exact G0
  have G5d : (W.setCell ⟨t5, 14, none⟩ (.int .i64 f1)).drew.heap[t5]? = some (.cells D2 47 (0, 0)) := G5'
  have G0d : (W.setCell ⟨t5, 14, none⟩ (.int .i64 f1)).drew.heap[w.heap.size]? = some (.cells #[Value.int .i64 0, .int .i64 0, .int .i64 0, .int .i64 0, .int .i64 0, .int .i64 0, .int .i64 0, .int .i64 0, .int .i64 0, .int .i64 0, .int .i64 0, .int .i64 0, .int .i64 0, .int .i64 0, .int .i64 0, .int .u32 0, .int .i64 0] 47 (0, 0)) := G0'
  have K2 : Below w.heap.size w (W.setCell ⟨t5, 14, none⟩ (.int .i64 f1)).drew := (KW.setCell (by show w.heap.size ≤ t5; omega) _).drew
  obtain ⟨q, hq⟩ : ∃ q, q = n - r := ⟨_, rfl⟩
  have v1 : IntKind.i64.wrap ((n : Int) - (r : Int)) = (q : Int) := by rw [show (n : Int) - (r : Int) = (q : Int) by omega]; exact IntWalk.i64_in _ (by omega)
  obtain ⟨q2, hq2⟩ : ∃ q2, q2 = q + 1 := ⟨_, rfl⟩
  have v2 : IntKind.i64.wrap ((q : Int) + 1) = (q2 : Int) := by rw [show (q : Int) + 1 = (q2 : Int) by omega]; exact IntWalk.i64_in _ (by omega)
  have hmax : (if f0 < q2 then (q2 : Int) else (f0 : Int)) = (f1 : Int) := by have h5 := HF1.out; split <;> omega
  have hq4 : q ≤ 4096 := by omega
  have HK2 := Lib.hid K2
  clear H1 g1 K1 hsz1 hW G5 GB G0 KW ht5 hR HI HRC HRS K2 hq hq2 NS
  go_region
  go_wp2_with (first
    | (with_reducible refine wpList_load_row rfl _ _ rfl t5 rfl 47 D2 (0, 0) _ G5d Tryd.underlying47 rfl HFI2.out ?_)
    | (with_reducible refine wpList_store_row rfl _ _ _ rfl w.heap.size D2 rfl rfl 47 _ G0d HFI2.out HUS2.out HON2.out ?_))
  all_goals refine bodyPost_ret (results_cell_row Tryd.results29 _ _ w.heap.size 47 D2 (0, 0) _ rfl (setRow_heap _ _ _ _ _ _ G0d) Tryd.underlying47 rfl HFI2.out) rfl ⟨rfl, ?_⟩
  all_goals exact below_setRow HK2.out _ _ (Nat.le_refl _)

end Go.Proofs.YtimllddlcjnikaaDoor
