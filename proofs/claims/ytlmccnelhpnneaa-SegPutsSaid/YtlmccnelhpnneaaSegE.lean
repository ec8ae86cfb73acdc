/- A parter: the walks of New, Put, Len, Reset. -/
import Derived.Test.YtlmccnelhpnneaaSegD
import Derived.Test.YtlmccnelhpnneaaSegN
import Derived.Test.YtlmccnelhpnneaaSegP
import Derived.LaidEqlPtr
namespace Go.Proofs.Ytlmccnelhpnneaa
open Go.RowKit

/-- The load of one cell, in every world of the class. -/
theorem wpQuiet_load_cell {P : Program} {ops : Array Oper} {C : World → Prop} {Q : Act → Prop} {a : Act} {o : Oper} {rest : List Oper} (hw : Region.wanted o (yielded ops a.tmps) = true) (ty : TypeId) (x : Operand) (ho : o.op = .load ty x)
    (p : Addr) (hx : a.eval x = .pointer (some p)) (d : TypeDesc) (hu : P.underlying ty = some d) (hd : (match d with | .struct _ | .array _ _ => true | _ => false) = false) (v : Value) (hg : ∀ W, C W → W.cell? p = some v)
    (h : ∀ K : Act → Prop, (∀ a, wpQuiet P ops C Q rest a → K a) → K (a.put o.dst v)) : wpQuiet P ops C Q (o :: rest) a := by
  refine wpQuiet_pure hw v (fun W hC => ?_) h
  have c := hg W hC
  have u := run_underlying hu
  cases d <;> first | (simp at hd; done) | (simp [execOp, ho, hx, Instr.loadAt, Instr.sureAddr, loadVar, isAgg, u, c])

set_option maxRecDepth 100000 in
theorem made_nil (w : World) : Calls Try.prog 26 #[.pointer none] w fun e w' => e = .returned (.bool false) ∧ w = w' := by
  go_enter Try.func26, Try.ntmps26
  go_wp2
  go_ret
  exact ⟨rfl, rfl⟩

set_option maxRecDepth 100000 in
theorem made_self (g : Nat) (w : World) (hc : w.cell? ⟨g, 0, none⟩ = some (.pointer (some ⟨g, 0, none⟩))) :
    Calls Try.prog 26 #[.pointer (some ⟨g, 0, none⟩)] w fun e w' => e = .returned (.bool true) ∧ w = w' := by
  obtain ⟨ti, hti⟩ : ∃ ti, Try.prog.info? 51 = some ti := ⟨_, rfl⟩
  have heq := fun w' => run_eql_ptr_same (P := Try.prog) w' (⟨g, 0, none⟩ : Addr) Try.underlying39 hti
  clear hti
  go_enter Try.func26, Try.ntmps26
  go_wp2
  go_ret
  exact ⟨rfl, rfl⟩

set_option maxRecDepth 100000 in
theorem nilOk : NilOk := by
  refine ⟨fun w => ?_, fun f hf w => ?_, fun w => ?_⟩
  · go_enter Try.func20, Try.ntmps20
    go_wp2_with fail
    refine (made_nil _).mono ?_
    rintro e w' ⟨rfl, rfl⟩
    go_wp2
    first | go_ret | go_end0
    exact ⟨rfl, Below.refl _ _⟩
  · obtain ⟨X, hX⟩ : ∃ X, X = fpA f := ⟨_, rfl⟩
    rw [← hX]
    clear hX hf
    go_enter Try.func21, Try.ntmps21
    go_wp2_with fail
    refine (made_nil _).mono ?_
    rintro e w' ⟨rfl, rfl⟩
    go_wp2
    go_ret
    exact ⟨rfl, box_below _ _⟩
  · go_enter Try.func22, Try.ntmps22
    go_wp2_with fail
    refine (made_nil _).mono ?_
    rintro e w' ⟨rfl, rfl⟩
    go_wp2
    go_ret
    exact ⟨rfl, Below.refl _ _⟩

/-- A parter's cells. -/
def partA (g g1 g2 : Nat) (n : Nat) : Array Value := #[.pointer (some ⟨g, 0, none⟩), endsV g1 g2, .int .i64 n]
/-- A parter in the block g, that has received n since the last end. -/
structure PartAt (C : Array Value) (d B g g1 g2 g3 n : Nat) (Bs : Nat → Prop) (w : World) : Prop where
  bs : ∀ k, Bs k ↔ k = g ∨ k = g1 ∨ k = g2 ∨ k = g3
  above : B ≤ g ∧ B ≤ g1 ∧ B ≤ g2 ∧ B ≤ g3
  row : w.heap[g]? = some (.cells (partA g g1 g2 n) 51 (0, 0))
  ends : EndsFn C d g1 g2 g3 w

section
variable {C : Array Value} {d B g g1 g2 g3 n : Nat} {Bs : Nat → Prop} {w : World} (h : PartAt C d B g g1 g2 g3 n Bs w)
include h

theorem PartAt.lt : ∀ k, Bs k → B ≤ k ∧ k < w.heap.size := by
  intro k hk
  have ha := h.above
  have l0 := (Array.getElem?_eq_some_iff.1 h.row).1
  have l1 := (Array.getElem?_eq_some_iff.1 h.ends.1).1
  have l2 := (Array.getElem?_eq_some_iff.1 h.ends.2.1).1
  have l3 := (Array.getElem?_eq_some_iff.1 h.ends.2.2).1
  rcases (h.bs k).1 hk with rfl | rfl | rfl | rfl
  · exact ⟨ha.1, l0⟩
  · exact ⟨ha.2.1, l1⟩
  · exact ⟨ha.2.2.1, l2⟩
  · exact ⟨ha.2.2.2, l3⟩

theorem PartAt.typ : ∀ k, Bs k → ∀ cur fz, w.heap[k]? ≠ some (.cells cur 37 fz) := by
  intro k hk cur fz e
  rcases (h.bs k).1 hk with rfl | rfl | rfl | rfl
  · rw [h.row] at e; simp at e
  · rw [h.ends.1] at e; simp at e
  · rw [h.ends.2.1] at e; simp at e
  · rw [h.ends.2.2] at e; simp at e

theorem PartAt.stay {w' : World} (hk : ∀ k, Bs k → w'.heap[k]? = w.heap[k]?) : PartAt C d B g g1 g2 g3 n Bs w' where
  bs := h.bs
  above := h.above
  row := by rw [hk g ((h.bs g).2 (Or.inl rfl))]; exact h.row
  ends := ⟨by rw [hk g1 ((h.bs g1).2 (Or.inr (Or.inl rfl)))]; exact h.ends.1, by rw [hk g2 ((h.bs g2).2 (Or.inr (Or.inr (Or.inl rfl))))]; exact h.ends.2.1, by rw [hk g3 ((h.bs g3).2 (Or.inr (Or.inr (Or.inr rfl))))]; exact h.ends.2.2⟩

theorem PartAt.kept {w' : World} (k : Kept w w') : PartAt C d B g g1 g2 g3 n Bs w' := h.stay (fun j hj => k.block j (h.lt j hj).2)

/-- The count written anew. -/
theorem PartAt.set (m : Nat) : PartAt C d B g g1 g2 g3 m Bs (w.setCell ⟨g, 2, none⟩ (.int .i64 m)) where
  bs := h.bs
  above := h.above
  row := by rw [heap_setCell_same _ _ _ _ _ _ h.row]; rfl
  ends := by
    have n1 : g1 ≠ g := fun e => by have h1 := h.ends.1; rw [e, h.row] at h1; simp at h1
    have n2 : g2 ≠ g := fun e => by have h1 := h.ends.2.1; rw [e, h.row] at h1; simp at h1
    have n3 : g3 ≠ g := fun e => by have h1 := h.ends.2.2; rw [e, h.row] at h1; simp at h1
    exact ⟨by rw [heap_setCell_other _ _ _ _ n1]; exact h.ends.1, by rw [heap_setCell_other _ _ _ _ n2]; exact h.ends.2.1, by rw [heap_setCell_other _ _ _ _ n3]; exact h.ends.2.2⟩
end

theorem ButBy.setCell {Bs : Nat → Prop} {w w' : World} (h : ButBy Bs w w') (g i : Nat) (v : Value) (hg : Bs g) : ButBy Bs w (w'.setCell ⟨g, i, none⟩ v) :=
  ⟨h.os, h.tape, h.output, by rw [World.size_setCell]; exact h.size, fun k hk hn => by rw [heap_setCell_other _ _ _ _ (fun e => hn (by rw [e]; exact hg))]; exact h.block k hk hn⟩

theorem part_reset {C : Array Value} {d B g g1 g2 g3 n : Nat} {Bs : Nat → Prop} {w : World} (h : PartAt C d B g g1 g2 g3 n Bs w) :
    Calls Try.prog 20 #[.pointer (some ⟨g, 0, none⟩)] w fun e w' => e = .returned (.tuple #[]) ∧ w' = w.setCell ⟨g, 2, none⟩ (.int .i64 0) := by
  have c0 : w.cell? ⟨g, 0, none⟩ = some (.pointer (some ⟨g, 0, none⟩)) := by rw [cell_of_row _ _ _ _ _ _ h.row]; rfl
  have c2 : w.cell? ⟨g, 2, none⟩ = some (.int .i64 n) := by rw [cell_of_row _ _ _ _ _ _ h.row]; rfl
  have fz := frozen_of_row w g 2 _ _ h.row
  have M := made_self g w c0
  clear h c0
  go_enter Try.func20, Try.ntmps20
  go_wp2_with fail
  refine M.mono ?_
  rintro e w' ⟨rfl, rfl⟩
  go_wp2
  first | go_ret | go_end0
  exact ⟨rfl, rfl⟩

theorem part_len {C : Array Value} {d B g g1 g2 g3 n : Nat} {Bs : Nat → Prop} {w : World} (h : PartAt C d B g g1 g2 g3 n Bs w) :
    Calls Try.prog 22 #[.pointer (some ⟨g, 0, none⟩)] w fun e w' => e = .returned (.int .i64 n) ∧ Below w.heap.size w w' := by
  have c0 : w.cell? ⟨g, 0, none⟩ = some (.pointer (some ⟨g, 0, none⟩)) := by rw [cell_of_row _ _ _ _ _ _ h.row]; rfl
  have c2 : w.cell? ⟨g, 2, none⟩ = some (.int .i64 n) := by rw [cell_of_row _ _ _ _ _ _ h.row]; rfl
  have M := made_self g w c0
  clear h c0
  go_enter Try.func22, Try.ntmps22
  go_wp2_with fail
  refine M.mono ?_
  rintro e w' ⟨rfl, rfl⟩
  go_wp2
  go_ret
  exact ⟨rfl, Below.refl _ _⟩

set_option maxRecDepth 100000 in
set_option maxHeartbeats 1000000 in
theorem part_put {C : Array Value} {mn mx d : Nat} {B g g1 g2 g3 n : Nat} {Bs : Nat → Prop} {w : World} (hC : IsSeg C mn mx d) (hb : mn ≤ 256 ∧ mx ≤ 256) (hd : 1 ≤ d ∧ d ≤ 1048576)
    (h : PartAt C d B g g1 g2 g3 n Bs w) (m : Nat) (hm : m = n + 1) (hs : m ≤ 1000000) (f : List UInt8) (hf : f.length = 32) (r : Bool) (hr : r = (decide (mx ≤ m) || (decide (mn ≤ m) && markB d f))) :
    Calls Try.prog 21 #[.pointer (some ⟨g, 0, none⟩), .agg (fpA f)] w fun e w' =>
      e = .returned (.bool r) ∧ ∃ w1, Kept ((w.alloc (.cells (fpA f) 37)).setCell ⟨g, 2, none⟩ (.int .i64 m)) w1 ∧ w' = if r then w1.setCell ⟨g, 2, none⟩ (.int .i64 0) else w1 := by
  have K0 := box_below w (.cells (fpA f) 37)
  have r0 : (w.alloc (.cells (fpA f) 37)).heap[g]? = some (.cells (partA g g1 g2 n) 51 (0, 0)) := Kept.row K0 h.row
  have c0 : (w.alloc (.cells (fpA f) 37)).cell? ⟨g, 0, none⟩ = some (.pointer (some ⟨g, 0, none⟩)) := by rw [cell_of_row _ _ _ _ _ _ r0]; rfl
  have c2 : (w.alloc (.cells (fpA f) 37)).cell? ⟨g, 2, none⟩ = some (.int .i64 n) := by rw [cell_of_row _ _ _ _ _ _ r0]; rfl
  have fz := frozen_of_row _ g 2 _ _ r0
  have M := made_self g _ c0
  obtain ⟨W, hW⟩ : ∃ W, W = (w.alloc (.cells (fpA f) 37)).setCell ⟨g, 2, none⟩ (.int .i64 m) := ⟨_, rfl⟩
  have gb := heap_alloc_last w (.cells (fpA f) 37)
  have nb : w.heap.size ≠ g := fun e => by have := (h.lt g ((h.bs g).2 (Or.inl rfl))).2; omega
  have gF : Hid (W.heap[w.heap.size]? = some (.cells (fpA f) 37 (0, 0))) := Lib.hid (by rw [hW, heap_setCell_other _ _ _ _ nb]; exact gb)
  have r1 : W.heap[g]? = some (.cells (partA g g1 g2 m) 51 (0, 0)) := by rw [hW, heap_setCell_same _ _ _ _ _ _ r0]; rfl
  have HC1 : Hid (W.cell? ⟨g, 1, none⟩ = some (endsV g1 g2)) := Lib.hid (by rw [cell_of_row _ _ _ _ _ _ r1]; rfl)
  have HC2 : Hid (W.cell? ⟨g, 2, none⟩ = some (.int .i64 m)) := Lib.hid (by rw [cell_of_row _ _ _ _ _ _ r1]; rfl)
  have HFZ : Hid (∀ w1, Kept W w1 → w1.cell? ⟨g, 2, none⟩ = some (.int .i64 m) ∧ w1.frozen? ⟨g, 2, none⟩ = false) := Lib.hid (fun w1 k => ⟨k.cell HC2.out, frozen_of_row _ g 2 _ _ (k.row r1)⟩)
  have hE : EndsFn C d g1 g2 g3 W := by
    have e0 := h.ends.later K0
    have n1 : g1 ≠ g := fun e => by have h1 := h.ends.1; rw [e, h.row] at h1; simp at h1
    have n2 : g2 ≠ g := fun e => by have h1 := h.ends.2.1; rw [e, h.row] at h1; simp at h1
    have n3 : g3 ≠ g := fun e => by have h1 := h.ends.2.2; rw [e, h.row] at h1; simp at h1
    rw [hW]
    exact ⟨by rw [heap_setCell_other _ _ _ _ n1]; exact e0.1, by rw [heap_setCell_other _ _ _ _ n2]; exact e0.2.1, by rw [heap_setCell_other _ _ _ _ n3]; exact e0.2.2⟩
  have EN := fun w1 (k : Kept W w1) => ends1_any C mn mx d hC hb hd g1 g2 g3 m hs f hf w1 (hE.later k)
  rw [← hr] at EN
  have v1 : IntKind.i64.wrap ((n : Int) + 1) = (m : Int) := by rw [show (n : Int) + 1 = (m : Int) by omega]; exact IntWalk.i64_in _ (by omega)
  have HI := Lib.hid (fp_info f hf)
  obtain ⟨X, hX⟩ : ∃ X, X = fpA f := ⟨_, rfl⟩
  rw [← hX] at c0 c2 fz M hW gF EN HI ⊢
  rw [← hW]
  have HW := Lib.hid hW
  unfold endsV at HC1
  clear hE r1 gb K0 r0 h hC hX hf hr hm hW
  go_enter Try.func21, Try.ntmps21
  go_wp2_with fail
  refine M.mono ?_
  rintro e w' ⟨rfl, rfl⟩
  clear M
  go_wp2_with fail
  rw [← HW.out]
  refine wp_region_kept (by kernel_rfl) (by kernel_rfl) ?_
  refine wpQuiet_pure (v := ?_) (by kernel_rfl) ?_ (fun K hK => ?_)
  case refine_2 => intro W _; go_simp; try with_reducible rfl
  go_simp
  refine hK _ ?_; clear hK K
  refine wpQuiet_pure (v := ?_) (by kernel_rfl) ?_ (fun K hK => ?_)
  case refine_2 => intro W _; go_simp; try with_reducible rfl
  go_simp
  refine hK _ ?_; clear hK K
  refine wpQuiet_pure (v := ?_) (by kernel_rfl) ?_ (fun K hK => ?_)
  case refine_2 => intro W _; go_simp; try with_reducible rfl
  go_simp
  refine hK _ ?_; clear hK K
  refine wpQuiet_load_cell (by kernel_rfl) _ _ rfl ⟨g, 1, none⟩ rfl _ Try.underlying46 rfl _ (fun _ h => h.cell HC1.out) (fun K hK => ?_)
  go_simp
  refine hK _ ?_; clear hK K
  refine wpQuiet_pure (v := ?_) (by kernel_rfl) ?_ (fun K hK => ?_)
  case refine_2 => intro W _; go_simp; try with_reducible rfl
  go_simp
  refine hK _ ?_; clear hK K
  refine wpQuiet_pure (v := ?_) (by kernel_rfl) ?_ (fun K hK => ?_)
  case refine_2 => intro W _; go_simp; try with_reducible rfl
  go_simp
  refine hK _ ?_; clear hK K
  refine wpQuiet_pure (v := ?_) (by kernel_rfl) ?_ (fun K hK => ?_)
  case refine_2 => intro W _; go_simp; try with_reducible rfl
  go_simp
  refine hK _ ?_; clear hK K
  refine wpQuiet_load_int (by kernel_rfl) _ _ rfl ⟨g, 2, none⟩ rfl _ Try.underlying3 _ (fun _ h => h.cell HC2.out) (fun K hK => ?_)
  go_simp
  refine hK _ ?_; clear hK K
  refine wpQuiet_load_row (by kernel_rfl) _ _ rfl w.heap.size rfl 37 X (0, 0) _ (fun _ h => h.row gF.out) Try.underlying37 rfl HI.out (fun K hK => ?_)
  go_simp
  refine hK _ ?_; clear hK K
  refine wpQuiet_call (by kernel_rfl) _ _ _ (fun W => by go_simp) (fun W h => Calls.kept_of h (EN W h)) (fun K hK => ?_)
  go_simp
  refine hK _ ?_; clear hK K
  refine wpQuiet_pure (v := ?_) (by kernel_rfl) ?_ (fun K hK => ?_)
  case refine_2 => intro W _; go_simp; try with_reducible rfl
  go_simp
  refine hK _ ?_; clear hK K
  refine wpQuiet_nil ?_
  intro w4 hk4

  cases r with
  | false =>
    go_wp2
    go_ret
    exact ⟨rfl, hk4⟩
  | true =>
    have cc := (HFZ.out w4 hk4).1
    have ff := (HFZ.out w4 hk4).2
    go_wp2
    go_ret
    exact ⟨rfl, w4, hk4, rfl⟩

theorem ButBy.then_kept {Bs : Nat → Prop} {w w1 w2 : World} (h : ButBy Bs w w1) (k : Kept w1 w2) : ButBy Bs w w2 :=
  ⟨k.os.trans h.os, k.tape.trans h.tape, k.output.trans h.output, Nat.le_trans h.size k.size, fun j hj hn => (k.block j (Nat.lt_of_lt_of_le hj h.size)).trans (h.block j hj hn)⟩

/-- A parter as the statement's proof wants it. -/
theorem partOk (C : Array Value) (mn mx d B g g1 g2 g3 : Nat) (hC : IsSeg C mn mx d) (hM : MayS mn mx d) :
    PartOk mn mx d B (.pointer (some ⟨g, 0, none⟩)) (fun l Bs w => PartAt C d B g g1 g2 g3 l.length Bs w ∧ segI mn mx d l = 0) := by
  have hM' := hM
  obtain ⟨h1, h2, h3, h4, h5⟩ := hM'
  have hcu : ∀ l, segI mn mx d l = segN (markB d) mn mx l := fun l => by unfold segI; rw [if_pos hM]; simp only [Int.toNat_natCast]
  refine ⟨fun l Bs w h => h.1.lt, fun l Bs w h => h.1.typ, fun l Bs w w' h _ hk => ⟨h.1.stay hk, h.2⟩, fun l Bs w f h hz hf => ?_, fun l Bs w h => part_len h.1, fun l Bs w h => ?_⟩
  · have hsh := segI_short hM l hz
    have st := ends_step (markB d) mn mx (by omega) (by omega) l f (l.length + 1) rfl (by rw [← hcu]; exact hz)
    rw [← hcu] at st
    have K0 := box_below w (.cells (fpA f) 37)
    have hg : Bs g := (h.1.bs g).2 (Or.inl rfl)
    refine (part_put hC ⟨by omega, by omega⟩ ⟨by omega, by omega⟩ h.1 (l.length + 1) rfl (by omega) f hf _ rfl).mono ?_
    rintro e w' ⟨rfl, w1, hk, rfl⟩
    have b1 := ((ButBy.below (Bs := Bs) K0).setCell g 2 (.int .i64 ((l.length + 1 : Nat) : Int)) hg).then_kept hk
    have p1 := ((h.1.kept K0).set (l.length + 1)).kept hk
    cases hr : (decide (mx ≤ l.length + 1) || (decide (mn ≤ l.length + 1) && markB d f)) with
    | true =>
      have e1 := st.1 hr
      rw [e1]
      refine ⟨by simp, ⟨Bs, ?_, fun k hk => Or.inl hk⟩, ?_⟩
      · rw [if_pos (by omega), if_pos rfl]
        exact ⟨p1.set 0, segI_nil _ _ _⟩
      · rw [if_pos rfl]
        exact b1.setCell g 2 _ hg
    | false =>
      have e1 := st.2 hr
      rw [e1]
      refine ⟨by simp, ⟨Bs, ?_, fun k hk => Or.inl hk⟩, ?_⟩
      · rw [if_neg (by omega), if_neg (by decide)]
        refine ⟨?_, e1⟩
        rw [List.length_append]
        exact p1
      · rw [if_neg (by decide)]
        exact b1
  · have hg : Bs g := (h.1.bs g).2 (Or.inl rfl)
    refine (part_reset h.1).mono ?_
    rintro e w' ⟨rfl, rfl⟩
    exact ⟨rfl, ⟨Bs, ⟨h.1.set 0, segI_nil _ _ _⟩, fun k hk => Or.inl hk⟩, (ButBy.below (Bs := Bs) (Below.refl _ w)).setCell g 2 _ hg⟩

set_option maxRecDepth 100000 in
set_option maxHeartbeats 1000000 in
theorem newOk : NewOk := by
  intro C a b d hC w
  have MA := mayOk C a b d hC
  have HLI : Hid ((Try.prog.info? 24).map (·.size) = some C.size) := by rw [hC.size]; exact info_conf
  have gC := heap_alloc_last w (.cells C 24)
  have K0 := box_below w (.cells C 24)
  by_cases hM : MayS a b d
  · obtain ⟨mn, mx, dv, rfl, rfl, rfl, h1, h2, h3, h4, h5⟩ := mayS_nats hM
    rw [decide_eq_true hM] at MA
    have EO := fun W => endsOf_any C mn mx dv hC ⟨h4, h5⟩ W
    have PO := Lib.hid (fun B g g1 g2 g3 => partOk C mn mx dv B g g1 g2 g3 hC hM)
    have HM := Lib.hid hM
    obtain ⟨w0, hw0⟩ : ∃ w0, w0 = w.alloc (.cells C 24) := ⟨_, rfl⟩
    have g0 : Hid (w0.heap[w.heap.size]? = some (.cells C 24 (0, 0))) := by rw [hw0]; exact gC
    have HK0 : Hid (Below w.heap.size w w0) := by rw [hw0]; exact K0
    have HW0 := Lib.hid hw0
    clear hw0 hC K0 hM
    go_enter Try.func19, Try.ntmps19
    go_wp2_with (with_reducible refine wpList_load_row rfl _ _ rfl w.heap.size rfl 24 C (0, 0) _ gC Try.underlying24 rfl HLI.out ?_)
    refine (MA _).mono ?_
    rintro e w1 ⟨rfl, hb1⟩
    rw [← HW0.out] at hb1
    have K1 : Kept w0 w1 := hb1
    have g1 := K1.row g0.out
    clear gC MA hb1
    go_wp2_with (with_reducible refine wpList_load_row rfl _ _ rfl w.heap.size rfl 24 C (0, 0) _ g1 Try.underlying24 rfl HLI.out ?_)
    refine (EO w1).mono ?_
    rintro e w2 ⟨q1, q2, q3, rfl, hq, hE, hb2⟩
    have K2 := K1.then hb2
    have HK2 := Lib.hid K2
    have HEN := Lib.hid hE
    have HQ := Lib.hid hq
    have HS1 : Hid (w.heap.size ≤ w1.heap.size) := Lib.hid (Nat.le_trans HK0.out.size K1.size)
    have HS2 : Hid (w.heap.size ≤ w2.heap.size) := Lib.hid (Nat.le_trans HK0.out.size K2.size)
    clear EO hE hb2 K1 g1 K2 hq
    unfold endsV
    go_wp2
    first | go_ret | go_ret2
    have K3 : Kept w2 (w2.alloc (.cells (partA w2.heap.size q1 q2 0) 51)) := box_below _ _
    refine ⟨Below.then' HK0.out (HK2.out.then K3) HK0.out.size, Or.inr ⟨HM.out, ⟨w2.heap.size, 0, none⟩, _, fun k => k = w2.heap.size ∨ k = q1 ∨ k = q2 ∨ k = q3, rfl, PO.out w.heap.size w2.heap.size q1 q2 q3, ?_, segI_nil _ _ _⟩⟩
    have hq := HQ.out
    have hs := HS1.out
    exact ⟨fun k => Iff.rfl, ⟨HS2.out, by omega, by omega, by omega⟩, heap_alloc_new _ _, HEN.out.later K3⟩
  · rw [decide_eq_false hM] at MA
    have HM := Lib.hid hM
    clear hC hM
    go_enter Try.func19, Try.ntmps19
    go_wp2_with (with_reducible refine wpList_load_row rfl _ _ rfl w.heap.size rfl 24 C (0, 0) _ gC Try.underlying24 rfl HLI.out ?_)
    refine (MA _).mono ?_
    rintro e w1 ⟨rfl, hb1⟩
    go_wp2
    first | go_ret | go_ret2
    exact ⟨Below.then' K0 hb1 K0.size, Or.inl ⟨HM.out, rfl⟩⟩

end Go.Proofs.Ytlmccnelhpnneaa
