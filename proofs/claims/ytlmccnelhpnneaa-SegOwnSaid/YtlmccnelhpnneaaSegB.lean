/- What decides where segments end: settings that may divide, marks, closures. -/
import Derived.Test.YtlmccnelhpnneaaSegA
namespace Go.Proofs.Ytlmccnelhpnneaa
open Go.RowKit

/-- A place at which a walk stands still. -/
def Halted (p : Prop) : Prop := p
theorem wpList_halt {P : Program} {ops : Array Oper} {rest : List Oper} {o : Oper} {a : Act} {w : World} {Q : Exit → Act → World → Prop} {d : Nat} (_hd : o.dst = some d) (h : Halted (wpList P ops Q (o :: rest) a w)) : wpList P ops Q (o :: rest) a w := h

set_option maxRecDepth 100000 in
set_option maxHeartbeats 1000000 in
theorem mays_any (C : Array Value) (a b d : Int) (hC : IsSeg C a b d) (w : World) :
    Calls Try.prog 9 #[.agg C] w fun e w' => e = .returned (.bool (decide (MayS a b d))) ∧ Below w.heap.size w w' := by
  have e0 := hC.c4
  have e1 := hC.c5
  have e2 := hC.c6
  clear hC
  by_cases p1 : 1 ≤ a
  · by_cases p2 : a ≤ b
    · by_cases p3 : b ≤ 256
      · by_cases p4 : 1 ≤ d
        · by_cases p5 : d ≤ 1048576
          · rw [decide_eq_true (show MayS a b d from ⟨p1, p2, p3, p4, p5⟩)]
            go_enter Try.func9, Try.ntmps9
            go_wp2
            go_ret
            exact ⟨rfl, box_below _ _⟩
          · rw [decide_eq_false fun x : MayS a b d => p5 x.2.2.2.2]
            go_enter Try.func9, Try.ntmps9
            go_wp2
            go_ret
            exact ⟨rfl, box_below _ _⟩
        · rw [decide_eq_false fun x : MayS a b d => p4 x.2.2.2.1]
          go_enter Try.func9, Try.ntmps9
          go_wp2
          go_ret
          exact ⟨rfl, box_below _ _⟩
      · rw [decide_eq_false fun x : MayS a b d => p3 x.2.2.1]
        go_enter Try.func9, Try.ntmps9
        go_wp2
        go_ret
        exact ⟨rfl, box_below _ _⟩
    · rw [decide_eq_false fun x : MayS a b d => p2 x.2.1]
      go_enter Try.func9, Try.ntmps9
      go_wp2
      go_ret
      exact ⟨rfl, box_below _ _⟩
  · rw [decide_eq_false fun x : MayS a b d => p1 x.1]
    go_enter Try.func9, Try.ntmps9
    go_wp2
    go_ret
    exact ⟨rfl, box_below _ _⟩

theorem mayOk : MayOk := mays_any

set_option maxRecDepth 100000 in
theorem marksOf_any (C : Array Value) (a b : Int) (d : Nat) (hC : IsSeg C a b d) (hd : 1 ≤ d ∧ d ≤ 1048576) (w : World) :
    Calls Try.prog 27 #[.agg C] w fun e w' => e = .returned (.func (.func 29) #[] #[.pointer (some ⟨w.heap.size + 1, 0, none⟩)]) ∧
      w'.heap[w.heap.size + 1]? = some (.cells #[.int .u32 d] 48 (0, 0)) ∧ Below w.heap.size w w' := by
  have e2 := hC.c6
  have hu : IntKind.u32.wrap (d : Int) = (d : Int) := by simp [IntKind.wrap, IntKind.bits, IntKind.signed]; omega
  have z1 : (w.alloc (.cells C 24)).heap.size = w.heap.size + 1 := by simp
  clear hC
  go_enter Try.func27, Try.ntmps27
  go_wp2
  go_ret
  refine ⟨rfl, ?_, ?_⟩
  · rw [← z1]; exact heap_alloc_new _ _
  · exact (box_below w _).alloc (by rw [z1]; omega) _

set_option maxRecDepth 100000 in
theorem mark1_any (l : List UInt8) (hl : l.length = 32) (d : Nat) (hd : 1 ≤ d ∧ d ≤ 1048576) (g : Nat) (w : World) (hc : w.cell? ⟨g, 0, none⟩ = some (.int .u32 d)) :
    Calls Try.prog 29 #[.agg (fpA l), .pointer (some ⟨g, 0, none⟩)] w fun e w' => e = .returned (.bool (markB d l)) ∧ Below w.heap.size w w' := by
  obtain ⟨W, hW⟩ : ∃ W, W = w.alloc (.cells (fpA l) 37) := ⟨_, rfl⟩
  have O1 : OneRow w l W := by rw [hW]; exact OneRow.made w l
  have c1 : W.cell? ⟨g, 0, none⟩ = some (.int .u32 d) := (O1.2.cell (World.block_lt_of_cell? _ _ hc)).trans hc
  have NU := fun w' => num_any l hl w'
  have HI := Lib.hid (fp_info l hl)
  have hmk := mark_int l d hd.1
  have hrl := numL_lt l
  obtain ⟨m, hm⟩ : ∃ m, m = markB d l := ⟨_, rfl⟩
  rw [← hm] at hmk ⊢
  obtain ⟨x, hx⟩ : ∃ x, x = numL l := ⟨_, rfl⟩
  rw [← hx] at NU hmk hrl
  obtain ⟨L, hLL⟩ : ∃ L, L = fpA l := ⟨_, rfl⟩
  rw [← hLL] at HI NU ⊢ hW
  have HW := Lib.hid hW
  have g1 : Hid (W.heap[w.heap.size]? = some (.cells L 37 (0, 0))) := by rw [hLL]; exact O1.1
  have HO := Lib.hid O1
  have HC := Lib.hid c1
  have h0 : ¬ ((d : Int) = 0) := by omega
  have h0n : ¬ d = 0 := by omega
  have em : ∃ q : Nat, (x : Int).tmod (d : Int) = q ∧ q < d := ⟨x % d, by rw [Int.tmod_eq_emod_of_nonneg (by omega)]; simp, Nat.mod_lt _ (by omega)⟩
  obtain ⟨q, hq, hqd⟩ := em
  rw [hq] at hmk
  clear hc hm hl O1 hLL c1 hx
  go_enter Try.func29, Try.ntmps29
  go_wp2
  rw [← HW.out]
  clear hW
  refine wp_region_kept (by kernel_rfl) (by kernel_rfl) ?_
  refine wpQuiet_load_row (by kernel_rfl) _ _ rfl w.heap.size rfl 37 L (0, 0) _ (fun _ h => h.row g1.out) Try.underlying37 rfl HI.out (fun K hK => ?_)
  go_simp
  refine hK _ ?_; clear hK K
  refine wpQuiet_call (by kernel_rfl) _ _ _ (fun W => by go_simp) (fun W h => Calls.kept_of h (NU W)) (fun K hK => ?_)
  go_simp
  refine hK _ ?_; clear hK K
  refine wpQuiet_load_int (by kernel_rfl) _ _ rfl ⟨g, 0, none⟩ rfl _ Try.underlying48 _ (fun _ h => h.cell HC.out) (fun K hK => ?_)
  go_simp
  refine hK _ ?_; clear hK K
  refine wpQuiet_pure (v := ?_) (by kernel_rfl) ?_ (fun K hK => ?_)
  case refine_2 => intro W _; go_simp; try with_reducible rfl
  go_simp
  refine hK _ ?_; clear hK K
  refine wpQuiet_pure (v := ?_) (by kernel_rfl) ?_ (fun K hK => ?_)
  case refine_2 => intro W _; go_simp; try with_reducible rfl
  go_simp
  refine hK _ ?_; clear hK K
  refine wpQuiet_pure (v := ?_) (by kernel_rfl) ?_ (fun K hK => ?_)
  case refine_2 => intro W _; go_simp; try with_reducible rfl
  go_simp
  refine hK _ ?_; clear hK K
  refine wpQuiet_nil ?_
  intro w2 hk2

  go_wp2
  go_ret
  exact ⟨rfl, Below.then' HO.out.2 hk2 HO.out.2.size⟩

/-- A store into a new block of one cell. -/
theorem store_new {P : Program} (w : World) (v c : Value) (t : TypeId) (hv : v.oneCell' = true) :
    (store ⟨w.heap.size, 0, none⟩ v).run P (w.alloc (.cells #[c] t)) = .ok () (w.alloc (.cells #[v] t)) := by
  have hg := heap_alloc_last w (.cells #[c] t)
  rw [run_store P _ _ v _ hv, cell_of_row _ _ _ _ _ _ hg, frozen_of_row _ _ _ _ _ hg, World.setCell_alloc_new]
  simp

/-- What decides where a segment ends: a closure over settings, and over a closure over a divisor. -/
def EndsFn (C : Array Value) (d g1 g2 g3 : Nat) (w : World) : Prop := w.heap[g1]? = some (.cells C 24 (0, 0)) ∧
  w.heap[g2]? = some (.cells #[.func (.func 29) #[] #[.pointer (some ⟨g3, 0, none⟩)]] 43 (0, 0)) ∧ w.heap[g3]? = some (.cells #[.int .u32 d] 48 (0, 0))
def endsV (g1 g2 : Nat) : Value := .func (.func 28) #[] #[.pointer (some ⟨g1, 0, none⟩), .pointer (some ⟨g2, 0, none⟩)]

theorem EndsFn.later {C : Array Value} {d g1 g2 g3 : Nat} {w w' : World} (h : EndsFn C d g1 g2 g3 w) (k : Kept w w') : EndsFn C d g1 g2 g3 w' := ⟨k.row h.1, k.row h.2.1, k.row h.2.2⟩

set_option maxRecDepth 100000 in
theorem endsOf_any (C : Array Value) (a b : Int) (d : Nat) (hC : IsSeg C a b d) (hd : 1 ≤ d ∧ d ≤ 1048576) (w : World) :
    Calls Try.prog 23 #[.agg C] w fun e w' => ∃ g1 g2 g3, e = .returned (endsV g1 g2) ∧ (w.heap.size ≤ g1 ∧ w.heap.size ≤ g2 ∧ w.heap.size ≤ g3) ∧ EndsFn C d g1 g2 g3 w' ∧ Below w.heap.size w w' := by
  have gC := heap_alloc_last w (.cells C 24)
  have K0 := box_below w (.cells C 24)
  have HLI : Hid ((Try.prog.info? 24).map (·.size) = some C.size) := by rw [hC.size]; exact info_conf
  have MO := marksOf_any C a b d hC hd
  have z1 : (w.alloc (.cells C 24)).heap.size = w.heap.size + 1 := by simp
  have HG0 := Lib.hid gC
  obtain ⟨W, hW⟩ : ∃ W, W = w.alloc (.cells C 24) := ⟨_, rfl⟩
  have HW := Lib.hid hW
  rw [← hW] at K0 z1
  have HG : Hid (W.heap[w.heap.size]? = some (.cells C 24 (0, 0))) := Lib.hid (by rw [hW]; exact gC)
  have HZ1 := Lib.hid z1
  have HK0 := Lib.hid K0
  clear hC hW z1 K0
  go_enter Try.func23, Try.ntmps23
  go_wp2_with (with_reducible refine wpList_load_row rfl _ _ rfl w.heap.size rfl 24 C (0, 0) _ gC Try.underlying24 rfl HLI.out ?_)
  rw [← HW.out]
  refine (MO W).mono ?_
  rintro e w1 ⟨rfl, g3, hb1⟩
  have HG3 := Lib.hid g3
  have K1 : Kept W w1 := hb1
  have HK1 := Lib.hid K1
  have hst := store_new (P := Try.prog) w1 (.func (.func 29) #[] #[.pointer (some ⟨W.heap.size + 1, 0, none⟩)]) .nilFunc 43 rfl
  clear MO g3 hb1 gC K1
  go_wp2
  clear hst
  go_ret
  refine ⟨w.heap.size, w1.heap.size, W.heap.size + 1, rfl, ⟨Nat.le_refl _, ?_, ?_⟩, ⟨?_, ?_, ?_⟩, ?_⟩
  · have := HK1.out.size; have := HZ1.out; omega
  · have := HZ1.out; omega
  · have k := (Below.refl w1.heap.size w1).alloc (Nat.le_refl _) (.cells #[.func (.func 29) #[] #[.pointer (some ⟨W.heap.size + 1, 0, none⟩)]] 43)
    exact Kept.row k (HK1.out.row HG.out)
  · exact heap_alloc_new _ _
  · have k := (Below.refl w1.heap.size w1).alloc (Nat.le_refl _) (.cells #[.func (.func 29) #[] #[.pointer (some ⟨W.heap.size + 1, 0, none⟩)]] 43)
    exact Kept.row k HG3.out
  · exact (Below.then' HK0.out HK1.out HK0.out.size).alloc (by have := HK1.out.size; have := HZ1.out; omega) _

set_option maxRecDepth 100000 in
set_option maxHeartbeats 1000000 in
theorem ends1_any (C : Array Value) (mn mx d : Nat) (hC : IsSeg C mn mx d) (hb : mn ≤ 256 ∧ mx ≤ 256) (hd : 1 ≤ d ∧ d ≤ 1048576) (g1 g2 g3 n : Nat) (hn : n ≤ 1000000) (l : List UInt8) (hl : l.length = 32) (w : World) (h : EndsFn C d g1 g2 g3 w) :
    Calls Try.prog 28 #[.int .i64 n, .agg (fpA l), .pointer (some ⟨g1, 0, none⟩), .pointer (some ⟨g2, 0, none⟩)] w fun e w' =>
      e = .returned (.bool (decide (mx ≤ n) || (decide (mn ≤ n) && markB d l))) ∧ Below w.heap.size w w' := by
  have O0 := OneRow.made w l
  have MK := fun W hc => mark1_any l hl d hd g3 W hc
  have HI := Lib.hid (fp_info l hl)
  obtain ⟨m, hm⟩ : ∃ m, m = markB d l := ⟨_, rfl⟩
  rw [← hm] at MK ⊢
  obtain ⟨L, hLL⟩ : ∃ L, L = fpA l := ⟨_, rfl⟩
  obtain ⟨W, hW⟩ : ∃ W, W = w.alloc (.cells L 37) := ⟨_, rfl⟩
  have O1 : OneRow w l W := by rw [hW, hLL]; exact O0
  rw [← hLL] at HI MK ⊢
  have gL : (w.alloc (.cells L 37)).heap[w.heap.size]? = some (.cells L 37 (0, 0)) := heap_alloc_last w _
  have hE := h.later O1.2
  rw [hW] at hE
  have c4 : (w.alloc (.cells L 37)).cell? ⟨g1, 4, none⟩ = some (.int .i64 mn) := by rw [cell_of_row _ _ _ _ _ _ hE.1]; exact hC.c4
  have c5 : (w.alloc (.cells L 37)).cell? ⟨g1, 5, none⟩ = some (.int .i64 mx) := by rw [cell_of_row _ _ _ _ _ _ hE.1]; exact hC.c5
  have c0 : (w.alloc (.cells L 37)).cell? ⟨g2, 0, none⟩ = some (.func (.func 29) #[] #[.pointer (some ⟨g3, 0, none⟩)]) := by rw [cell_of_row _ _ _ _ _ _ hE.2.1]; rfl
  have c3 : (w.alloc (.cells L 37)).cell? ⟨g3, 0, none⟩ = some (.int .u32 d) := by rw [cell_of_row _ _ _ _ _ _ hE.2.2]; rfl
  have MK1 := MK _ c3
  rw [hW] at O1
  have HO := Lib.hid O1
  clear h hl hm hLL O0 O1 hC hE MK hW
  by_cases hx : mx ≤ n
  · have t1 : (mx : Int) ≤ n := by omega
    have b1 : decide (mx ≤ n) = true := decide_eq_true hx
    rw [b1]
    clear b1 MK1
    go_enter Try.func28, Try.ntmps28
    go_wp2
    go_ret
    exact ⟨rfl, HO.out.2⟩
  · have t1 : ¬ (mx : Int) ≤ n := by omega
    have b1 : decide (mx ≤ n) = false := decide_eq_false hx
    rw [b1]
    by_cases hy : mn ≤ n
    · have t2 : (mn : Int) ≤ n := by omega
      have b2 : decide (mn ≤ n) = true := decide_eq_true hy
      rw [b2]
      clear b1 b2
      go_enter Try.func28, Try.ntmps28
      go_wp2_with (with_reducible refine wpList_halt (d := 18) rfl ?_)
      unfold Halted
      refine wpList_load_rowS (by kernel_rfl) _ _ rfl w.heap.size rfl 37 L (0, 0) _ gL Try.underlying37 rfl HI.out (fun K hK => ?_)
      go_simp
      refine hK _ _ ?_; clear hK K
      refine BigFrame.wpList_want (by kernel_rfl) (fun K hK => ?_)
      go_simp
      refine MK1.mono ?_
      rintro e w3 ⟨rfl, hb3⟩
      refine hK _ _ ?_; clear hK K
      go_wp2
      go_ret
      refine ⟨by simp, Below.then' HO.out.2 hb3 HO.out.2.size⟩
    · have t2 : ¬ (mn : Int) ≤ n := by omega
      have b2 : decide (mn ≤ n) = false := decide_eq_false hy
      rw [b2]
      clear b1 b2 MK1
      go_enter Try.func28, Try.ntmps28
      go_wp2
      go_ret
      exact ⟨by simp, HO.out.2⟩

end Go.Proofs.Ytlmccnelhpnneaa
