/- Nodes of the landed ring in memory; made, leave, enter, use. -/
import Derived.Test.YtaajadmaamjebaaSyM
import Derived.Test.YtaajadmaamjebaaQTail
import Derived.Test.YtaajadmaamjebaaHC
import Derived.Test.YtaajadmaamjebaaSxA
import Derived.LaidEqlPtr
namespace Go.Proofs.Ytaajadmaamjebaa
open Go.RowKit

/-- A pointer to a block. -/
def pB (b : Nat) : Value := .pointer (some ⟨b, 0, none⟩)
def ndA (d : Nd) : Array Value := fpA d.h ++ #[d.v, pB d.o, pB d.n]
/-- The nodes of a ring. -/
structure NdsAt (σ : Ring) (w : World) : Prop where
  row : ∀ b d, σ b = some d → w.heap[b]? = some (.cells (ndA d) 67 (0, 0))
  h32 : ∀ b d, σ b = some d → d.h.length = 32 ∧ d.v.oneCell' = true
theorem ndA_size {d : Nd} (h : d.h.length = 32) : (ndA d).size = 35 := by unfold ndA; rw [Array.size_append, fpA_size, h]; rfl
theorem ndA_v {d : Nd} (h : d.h.length = 32) : (ndA d)[32]? = some d.v := by unfold ndA; rw [Array.getElem?_append_right (by rw [fpA_size]; omega), fpA_size, h]; rfl
theorem ndA_o {d : Nd} (h : d.h.length = 32) : (ndA d)[33]? = some (pB d.o) := by unfold ndA; rw [Array.getElem?_append_right (by rw [fpA_size]; omega), fpA_size, h]; rfl
theorem ndA_n {d : Nd} (h : d.h.length = 32) : (ndA d)[34]? = some (pB d.n) := by unfold ndA; rw [Array.getElem?_append_right (by rw [fpA_size]; omega), fpA_size, h]; rfl
theorem set_tail {A : Array Value} {x y z : Value} (hA : A.size = 32) (v : Value) :
    (A ++ #[x, y, z]).setIfInBounds 32 v = A ++ #[v, y, z] ∧ (A ++ #[x, y, z]).setIfInBounds 33 v = A ++ #[x, v, z] ∧ (A ++ #[x, y, z]).setIfInBounds 34 v = A ++ #[x, y, v] := by
  refine ⟨?_, ?_, ?_⟩
  all_goals
    apply Array.ext_getElem?
    intro i
    rw [Array.getElem?_setIfInBounds]
    by_cases h : i < A.size
    · rw [Array.getElem?_append_left h, Array.getElem?_append_left h, if_neg (by omega)]
    · rw [Array.getElem?_append_right (by omega), Array.getElem?_append_right (by omega), hA]
      obtain ⟨j, rfl⟩ : ∃ j, i = 32 + j := ⟨i - 32, by omega⟩
      rw [show 32 + j - 32 = j by omega]
      match j with
      | 0 => simp [hA]
      | 1 => simp [hA]
      | 2 => simp [hA]
      | j + 3 => (have e : ¬ 33 = 32 + (j + 3) := by omega); (have e2 : ¬ 34 = 32 + (j + 3) := by omega); simp [e, e2]
section
variable {σ : Ring} {w w' : World} {b : Nat} {d : Nd}
theorem NdsAt.lt (h : NdsAt σ w) (hb : σ b = some d) : b < w.heap.size := (Array.getElem?_eq_some_iff.1 (h.row b d hb)).1
theorem NdsAt.stay (h : NdsAt σ w) (hk : ∀ b d, σ b = some d → w'.heap[b]? = w.heap[b]?) : NdsAt σ w' := ⟨fun b d hb => (hk b d hb).trans (h.row b d hb), h.h32⟩
theorem NdsAt.later (h : NdsAt σ w) (k : Kept w w') : NdsAt σ w' := h.stay (fun b _ hb => k.block b (h.lt hb))
theorem NdsAt.sub (h : NdsAt σ w) {τ : Ring} (hs : ∀ b d, τ b = some d → σ b = some d) : NdsAt τ w := ⟨fun b d hb => h.row b d (hs b d hb), fun b d hb => h.h32 b d (hs b d hb)⟩
theorem NdsAt.co (h : NdsAt σ w) (hb : σ b = some d) : w.cell? ⟨b, 33, none⟩ = some (pB d.o) := by rw [cell_of_row _ _ _ _ _ _ (h.row b d hb)]; exact ndA_o (h.h32 b d hb).1
theorem NdsAt.cn (h : NdsAt σ w) (hb : σ b = some d) : w.cell? ⟨b, 34, none⟩ = some (pB d.n) := by rw [cell_of_row _ _ _ _ _ _ (h.row b d hb)]; exact ndA_n (h.h32 b d hb).1
theorem NdsAt.cv (h : NdsAt σ w) (hb : σ b = some d) : w.cell? ⟨b, 32, none⟩ = some d.v := by rw [cell_of_row _ _ _ _ _ _ (h.row b d hb)]; exact ndA_v (h.h32 b d hb).1
theorem NdsAt.fz (h : NdsAt σ w) (hb : σ b = some d) (i : Nat) : w.frozen? ⟨b, i, none⟩ = false := frozen_of_row w b i _ _ (h.row b d hb)
theorem NdsAt.upd (h : NdsAt σ w) (hb : σ b = some d) (i : Nat) (v : Value) (F : Nd → Nd) (hF : (ndA d).setIfInBounds i v = ndA (F d)) (h1 : (F d).h.length = 32 ∧ (F d).v.oneCell' = true) : NdsAt (updR σ b F) (w.setCell ⟨b, i, none⟩ v) := by
  have hs := heap_setCell_same w b i _ _ v (h.row b d hb)
  rw [hF] at hs
  refine ⟨fun k e hk => ?_, fun k e hk => ?_⟩
  · by_cases hkb : k = b
    · subst hkb
      rw [updR_same hb] at hk
      rw [← Option.some.inj hk]; exact hs
    · rw [updR_other hkb] at hk
      rw [heap_setCell_other _ _ _ _ hkb]; exact h.row k e hk
  · by_cases hkb : k = b
    · subst hkb
      rw [updR_same hb] at hk
      rw [← Option.some.inj hk]; exact h1
    · rw [updR_other hkb] at hk
      exact h.h32 k e hk
theorem NdsAt.stN (h : NdsAt σ w) (hb : σ b = some d) (x : Nat) : NdsAt (stN σ b x) (w.setCell ⟨b, 34, none⟩ (pB x)) :=
  h.upd hb 34 (pB x) _ (set_tail (by rw [fpA_size]; exact (h.h32 b d hb).1) _).2.2 (h.h32 b d hb)
theorem NdsAt.stO (h : NdsAt σ w) (hb : σ b = some d) (x : Nat) : NdsAt (stO σ b x) (w.setCell ⟨b, 33, none⟩ (pB x)) :=
  h.upd hb 33 (pB x) _ (set_tail (by rw [fpA_size]; exact (h.h32 b d hb).1) _).2.1 (h.h32 b d hb)
theorem NdsAt.stV (h : NdsAt σ w) (hb : σ b = some d) (ms : List Nat) (v : Value) (hv : v.oneCell' = true) : NdsAt (stV σ b ms v) (w.setCell ⟨b, 32, none⟩ v) :=
  h.upd hb 32 v _ (set_tail (by rw [fpA_size]; exact (h.h32 b d hb).1) _).1 ⟨(h.h32 b d hb).1, hv⟩
end

set_option maxRecDepth 100000 in
theorem xmade_nil (w : World) : Calls Try.prog 28 #[.pointer none] w fun e w' => e = .returned (.bool false) ∧ w = w' := by
  go_enter Try.func28, Try.ntmps28
  go_wp2
  go_ret
  exact ⟨rfl, rfl⟩

set_option maxRecDepth 100000 in
theorem xmade_self (g : Nat) (w : World) (hc : w.cell? ⟨g, 0, none⟩ = some (.pointer (some ⟨g, 0, none⟩))) :
    Calls Try.prog 28 #[.pointer (some ⟨g, 0, none⟩)] w fun e w' => e = .returned (.bool true) ∧ w = w' := by
  obtain ⟨ti, hti⟩ : ∃ ti, Try.prog.info? 56 = some ti := ⟨_, rfl⟩
  have heq := fun w' => run_eql_ptr_same (P := Try.prog) w' (⟨g, 0, none⟩ : Addr) Try.underlying23 hti
  clear hti
  go_enter Try.func28, Try.ntmps28
  go_wp2
  go_ret
  exact ⟨rfl, rfl⟩

/-- What leave and enter leave: the nodes, and all but some blocks. -/
def LkPost (σ' : Ring) (Bs : Nat → Prop) (w : World) (e : Ending) (w' : World) : Prop := e = .returned (.tuple #[]) ∧ NdsAt σ' w' ∧ ButBy Bs w w'

set_option maxRecDepth 100000 in
set_option maxHeartbeats 2000000 in
theorem leave_any (l : Nat) (σ : Ring) (d : Nd) (w : World) (H : NdsAt σ w) (hl : σ l = some d) (hp : ∃ x, σ d.o = some x) (hq : ∃ x, σ d.n = some x) :
    Calls Try.prog 45 #[.pointer (some ⟨l, 0, none⟩)] w (LkPost (leaveR σ d.o d.n) (fun k => k = d.o ∨ k = d.n) w) := by
  obtain ⟨dp, hp⟩ := hp
  obtain ⟨dq, hq⟩ := hq
  obtain ⟨p, hpp⟩ : ∃ p, p = d.o := ⟨_, rfl⟩
  obtain ⟨q, hqq⟩ : ∃ q, q = d.n := ⟨_, rfl⟩
  have c33 := H.co hl
  have c34 := H.cn hl
  rw [← hpp] at hp c33 ⊢
  rw [← hqq] at hq c34 ⊢
  unfold pB at c33 c34
  have HH := Lib.hid H
  have HP := Lib.hid hp
  have HQ := Lib.hid hq
  clear H hl hp hq hpp hqq
  go_enter Try.func45, Try.ntmps45
  refine wp_region_kept_tail 16 (by kernel_rfl) (by decide) (by kernel_rfl) (by kernel_rfl) ?_
  simp only [List.take_succ_cons, List.take_zero, List.drop_succ_cons, List.drop_zero]
  refine wpQuiet_pure (v := ?_) (by kernel_rfl) ?_ (fun K hK => ?_)
  case refine_2 => intro W _; go_simp; try with_reducible rfl
  go_simp
  refine hK _ ?_; clear hK K
  refine wpQuiet_pure (v := ?_) (by kernel_rfl) ?_ (fun K hK => ?_)
  case refine_2 => intro W _; go_simp; try with_reducible rfl
  go_simp
  refine hK _ ?_; clear hK K
  refine wpQuiet_pure (v := ?_) (by kernel_rfl) ?_ (fun K hK => ?_)
  case refine_2 => intro W _; go_simp; try with_reducible rfl
  go_simp
  refine hK _ ?_; clear hK K
  refine wpQuiet_load_cell (by kernel_rfl) _ _ rfl ⟨l, 33, none⟩ rfl _ Try.underlying53 rfl _ (fun _ h => h.cell c33) (fun K hK => ?_)
  go_simp
  refine hK _ ?_; clear hK K
  refine wpQuiet_pure (v := ?_) (by kernel_rfl) ?_ (fun K hK => ?_)
  case refine_2 => intro W _; go_simp; try with_reducible rfl
  go_simp
  refine hK _ ?_; clear hK K
  refine wpQuiet_pure (v := ?_) (by kernel_rfl) ?_ (fun K hK => ?_)
  case refine_2 => intro W _; go_simp; try with_reducible rfl
  go_simp
  refine hK _ ?_; clear hK K
  refine wpQuiet_pure (v := ?_) (by kernel_rfl) ?_ (fun K hK => ?_)
  case refine_2 => intro W _; go_simp; try with_reducible rfl
  go_simp
  refine hK _ ?_; clear hK K
  refine wpQuiet_load_cell (by kernel_rfl) _ _ rfl ⟨l, 34, none⟩ rfl _ Try.underlying53 rfl _ (fun _ h => h.cell c34) (fun K hK => ?_)
  go_simp
  refine hK _ ?_; clear hK K
  refine wpQuiet_pure (v := ?_) (by kernel_rfl) ?_ (fun K hK => ?_)
  case refine_2 => intro W _; go_simp; try with_reducible rfl
  go_simp
  refine hK _ ?_; clear hK K
  refine wpQuiet_pure (v := ?_) (by kernel_rfl) ?_ (fun K hK => ?_)
  case refine_2 => intro W _; go_simp; try with_reducible rfl
  go_simp
  refine hK _ ?_; clear hK K
  refine wpQuiet_pure (v := ?_) (by kernel_rfl) ?_ (fun K hK => ?_)
  case refine_2 => intro W _; go_simp; try with_reducible rfl
  go_simp
  refine hK _ ?_; clear hK K
  refine wpQuiet_load_cell (by kernel_rfl) _ _ rfl ⟨l, 34, none⟩ rfl _ Try.underlying53 rfl _ (fun _ h => h.cell c34) (fun K hK => ?_)
  go_simp
  refine hK _ ?_; clear hK K
  refine wpQuiet_pure (v := ?_) (by kernel_rfl) ?_ (fun K hK => ?_)
  case refine_2 => intro W _; go_simp; try with_reducible rfl
  go_simp
  refine hK _ ?_; clear hK K
  refine wpQuiet_pure (v := ?_) (by kernel_rfl) ?_ (fun K hK => ?_)
  case refine_2 => intro W _; go_simp; try with_reducible rfl
  go_simp
  refine hK _ ?_; clear hK K
  refine wpQuiet_pure (v := ?_) (by kernel_rfl) ?_ (fun K hK => ?_)
  case refine_2 => intro W _; go_simp; try with_reducible rfl
  go_simp
  refine hK _ ?_; clear hK K
  refine wpQuiet_load_cell (by kernel_rfl) _ _ rfl ⟨l, 33, none⟩ rfl _ Try.underlying53 rfl _ (fun _ h => h.cell c33) (fun K hK => ?_)
  go_simp
  refine hK _ ?_; clear hK K
  refine wpQuiet_nil ?_
  intro w1 hk1
  have H1 := Lib.hid (HH.out.later hk1)
  have q0 := H1.out.cn HP.out
  have z0 := H1.out.fz HP.out 34
  obtain ⟨dq1, hdq1⟩ := some_stN (b := p) (x := q) HQ.out
  have H2 := Lib.hid (H1.out.stN HP.out q)
  have q2 := H2.out.co hdq1
  have z2 := H2.out.fz hdq1 33
  have HS2 := Lib.hid hdq1
  unfold pB at q0 q2
  unfold pB at z2
  have HK1 := Lib.hid hk1
  clear hk1 hdq1 c33 c34
  go_wp2
  first | go_ret | go_end0
  exact ⟨rfl, H2.out.stO HS2.out p, ((ButBy.below HK1.out).setCell p 34 _ (Or.inl rfl)).setCell q 33 _ (Or.inr rfl)⟩

set_option maxRecDepth 100000 in
set_option maxHeartbeats 2000000 in
theorem enter_any (l be : Nat) (σ : Ring) (dl de : Nd) (w : World) (H : NdsAt σ w) (hl : σ l = some dl) (hb : σ be = some de) (hp : ∃ x, σ de.o = some x) (hlp : l ≠ de.o) (hlb : l ≠ be) :
    Calls Try.prog 46 #[.pointer (some ⟨l, 0, none⟩), .pointer (some ⟨be, 0, none⟩)] w (LkPost (enterR σ l be de.o) (fun k => k = l ∨ k = be ∨ k = de.o) w) := by
  obtain ⟨dp, hp⟩ := hp
  obtain ⟨p, hpp⟩ : ∃ p, p = de.o := ⟨_, rfl⟩
  have b33 := H.co hb
  rw [← hpp] at hp b33 hlp ⊢
  have l33 := H.co hl
  have f33 := H.fz hl 33
  obtain ⟨d1, h1⟩ := some_stO (b := l) (x := p) hl
  have H1 := H.stO hl p
  have l34 := H1.cn h1
  have f34 := H1.fz h1 34
  have H2 := Lib.hid (H1.stN h1 be)
  obtain ⟨p2, hp2⟩ := some_stO (b := l) (x := p) hp
  obtain ⟨p3, hp3⟩ := some_stN (b := l) (x := be) hp2
  obtain ⟨b2, hb2⟩ := some_stO (b := l) (x := p) hb
  obtain ⟨b3, hb3⟩ := some_stN (b := l) (x := be) hb2
  obtain ⟨b4, hb4⟩ := some_stN (b := p) (x := l) hb3
  obtain ⟨d2, hd2⟩ := some_stN (b := l) (x := be) h1
  have ho : d2.o = p := by
    have e1 : pvR (stN (stO σ l p) l be) l = some p := by rw [pv_stN, pv_stO hl, if_pos rfl]
    have e2 : pvR (stN (stO σ l p) l be) l = some d2.o := by unfold pvR; rw [hd2]; rfl
    exact Option.some.inj (e2.symm.trans e1)
  have hn : d2.n = be := by
    have e1 : nxR (stN (stO σ l p) l be) l = some be := by rw [nx_stN h1, if_pos rfl]
    have e2 : nxR (stN (stO σ l p) l be) l = some d2.n := by unfold nxR; rw [hd2]; rfl
    exact Option.some.inj (e2.symm.trans e1)
  obtain ⟨W2, hW2⟩ : ∃ W2, W2 = (w.setCell ⟨l, 33, none⟩ (pB p)).setCell ⟨l, 34, none⟩ (pB be) := ⟨_, rfl⟩
  rw [← hW2] at H2
  have HW2 := Lib.hid hW2
  have HB2 : Hid (ButBy (fun k => k = l ∨ k = be ∨ k = p) w W2) := Lib.hid (by rw [hW2]; exact ((but_refl _ w).setCell l 33 _ (Or.inl rfl)).setCell l 34 _ (Or.inl rfl))
  have m33 := H2.out.co hd2
  have m34 := H2.out.cn hd2
  rw [ho] at m33
  rw [hn] at m34
  have HP3 := Lib.hid hp3
  have HB3 := Lib.hid hb3
  have HB4 := Lib.hid hb4
  unfold pB at b33 l33 l34 f34 m33 m34 HW2
  clear hW2 H H1 hl hb hp hpp hp2 hp3 hb2 hb3 hb4 hd2 h1 ho hn
  go_enter Try.func46, Try.ntmps46
  go_wp2_with fail
  rw [← HW2.out]
  clear b33 l33 l34 f33 f34
  have HD : Hid (NdsAt (stN (stO σ l p) l be) W2.drew) := Lib.hid (H2.out.later (below_drewN (Below.refl _ W2) 1))
  have q0 := HD.out.cn HP3.out
  have z0 := HD.out.fz HP3.out 34
  have H4 : Hid (NdsAt (stN (stN (stO σ l p) l be) p l) (W2.setCell ⟨p, 34, none⟩ (pB l)).drew) := Lib.hid (HD.out.stN HP3.out l)
  have q2 := H4.out.co HB4.out
  have z2 := H4.out.fz HB4.out 33
  unfold pB at q0 q2
  unfold pB at z2
  refine wp_region_held_drew (S := fun w' => w'.cell? ⟨l, 33, none⟩ = some (.pointer (some ⟨p, 0, none⟩)) ∧ w'.cell? ⟨l, 34, none⟩ = some (.pointer (some ⟨be, 0, none⟩))) (by kernel_rfl) ⟨m33, m34⟩ (fun hHeld => ?_)
  refine wpAnyH_take (i := 0) (v := ?_) rfl (by kernel_rfl) (by kernel_rfl) (by kernel_rfl) (fun _ _ _ h => h) (Or.inl ⟨by first | kernel_rfl | rfl, ?_⟩) (by assumption) ?_
  case refine_2 => intro w hSw; go_simp; try with_reducible rfl
  refine wpAnyH_take (i := 1) (v := ?_) rfl (by kernel_rfl) (by kernel_rfl) (by kernel_rfl) (fun _ _ _ h => h) (Or.inl ⟨by first | kernel_rfl | rfl, ?_⟩) (by assumption) ?_
  case refine_2 => intro w hSw; go_simp; try with_reducible rfl
  refine wpAnyH_take (i := 2) (v := ?_) rfl (by kernel_rfl) (by kernel_rfl) (by kernel_rfl) (fun _ _ _ h => h) (Or.inl ⟨by first | kernel_rfl | rfl, ?_⟩) (by assumption) ?_
  case refine_2 => intro w hSw; go_simp; try with_reducible rfl
  refine wpAnyH_take (i := 3) (v := ?_) rfl (by kernel_rfl) (by kernel_rfl) (by kernel_rfl) (fun _ _ _ h => h) (Or.inl ⟨by first | kernel_rfl | rfl, ?_⟩) (by assumption) ?_
  case refine_2 => intro w hSw; obtain ⟨hs1, hs2⟩ := hSw;go_simp; try with_reducible rfl
  refine wpAnyH_take (i := 4) (v := ?_) rfl (by kernel_rfl) (by kernel_rfl) (by kernel_rfl) (fun _ _ _ h => h) (Or.inl ⟨by first | kernel_rfl | rfl, ?_⟩) (by assumption) ?_
  case refine_2 => intro w hSw; go_simp; try with_reducible rfl
  refine wpAnyH_take (i := 5) (v := ?_) rfl (by kernel_rfl) (by kernel_rfl) (by kernel_rfl) (fun _ _ _ h => h) (Or.inl ⟨by first | kernel_rfl | rfl, ?_⟩) (by assumption) ?_
  case refine_2 => intro w hSw; go_simp; try with_reducible rfl
  refine wpAnyH_take (i := 6) (v := ?_) rfl (by kernel_rfl) (by kernel_rfl) (by kernel_rfl) (fun _ _ _ h => h) (Or.inl ⟨by first | kernel_rfl | rfl, ?_⟩) (by assumption) ?_
  case refine_2 => intro w hSw; go_simp; try with_reducible rfl
  refine wpAnyH_take (i := 7) (v := ?_) rfl (by kernel_rfl) (by kernel_rfl) (by kernel_rfl) (fun _ _ _ h => h) (Or.inl ⟨by first | kernel_rfl | rfl, ?_⟩) (by assumption) ?_
  case refine_2 => intro w hSw; obtain ⟨hs1, hs2⟩ := hSw;go_simp; try with_reducible rfl
  refine wpAnyH_take (i := 8) (v := ?_) rfl (by kernel_rfl) (by kernel_rfl) (by kernel_rfl) (fun _ _ _ h => h) (Or.inl ⟨by first | kernel_rfl | rfl, ?_⟩) (by assumption) ?_
  case refine_2 => intro w hSw; go_simp; try with_reducible rfl
  refine wpAnyH_take (i := 9) (v := ?_) rfl (by kernel_rfl) (by kernel_rfl) (by kernel_rfl) (fun _ _ _ h => h) (Or.inl ⟨by first | kernel_rfl | rfl, ?_⟩) (by assumption) ?_
  case refine_2 => intro w hSw; go_simp; try with_reducible rfl
  refine wpAnyH_take (i := 10) (v := ?_) rfl (by kernel_rfl) (by kernel_rfl) (by kernel_rfl) (fun _ _ _ h => h) (Or.inl ⟨by first | kernel_rfl | rfl, ?_⟩) (by assumption) ?_
  case refine_2 => intro w hSw; go_simp; try with_reducible rfl
  refine wpAnyH_take (i := 11) (v := ?_) rfl (by kernel_rfl) (by kernel_rfl) (by kernel_rfl) (fun _ _ _ h => h) (Or.inl ⟨by first | kernel_rfl | rfl, ?_⟩) (by assumption) ?_
  case refine_2 => intro w hSw; go_simp; try with_reducible rfl
  have s1 : Hid ((W2.setCell ⟨p, 34, none⟩ (pB l)).drew.cell? ⟨l, 33, none⟩ = some (.pointer (some ⟨p, 0, none⟩)) ∧ (W2.setCell ⟨p, 34, none⟩ (pB l)).drew.cell? ⟨l, 34, none⟩ = some (.pointer (some ⟨be, 0, none⟩))) := Lib.hid ⟨(World.cell?_setCell_far W2 ⟨p, 34, none⟩ ⟨l, 33, none⟩ (pB l) (fun e => hlp e.symm)).trans m33, (World.cell?_setCell_far W2 ⟨p, 34, none⟩ ⟨l, 34, none⟩ (pB l) (fun e => hlp e.symm)).trans m34⟩
  have s2 : Hid (((W2.setCell ⟨p, 34, none⟩ (pB l)).setCell ⟨be, 33, none⟩ (pB l)).drew.cell? ⟨l, 33, none⟩ = some (.pointer (some ⟨p, 0, none⟩)) ∧ ((W2.setCell ⟨p, 34, none⟩ (pB l)).setCell ⟨be, 33, none⟩ (pB l)).drew.cell? ⟨l, 34, none⟩ = some (.pointer (some ⟨be, 0, none⟩))) := Lib.hid ⟨(World.cell?_setCell_far _ ⟨be, 33, none⟩ ⟨l, 33, none⟩ (pB l) (fun e => hlb e.symm)).trans s1.out.1, (World.cell?_setCell_far _ ⟨be, 33, none⟩ ⟨l, 34, none⟩ (pB l) (fun e => hlb e.symm)).trans s1.out.2⟩
  unfold pB at s1 s2
  refine wpAnyH_ready (rs := [12]) (by kernel_rfl) (by simp) (AllReadyH.cons rfl (fun K hK => ?_) AllReadyH.nil)
  go_simp
  refine hK.out _ _ s1.out (fun _ => ?_)
  clear hK K
  refine wpAnyH_take (i := 13) (v := ?_) rfl (by kernel_rfl) (by kernel_rfl) (by kernel_rfl) (fun _ _ _ h => h) (Or.inl ⟨by first | kernel_rfl | rfl, ?_⟩) (by assumption) ?_
  case refine_2 => intro w hSw; go_simp; try with_reducible rfl
  refine wpAnyH_take (i := 14) (v := ?_) rfl (by kernel_rfl) (by kernel_rfl) (by kernel_rfl) (fun _ _ _ h => h) (Or.inl ⟨by first | kernel_rfl | rfl, ?_⟩) (by assumption) ?_
  case refine_2 => intro w hSw; go_simp; try with_reducible rfl
  refine wpAnyH_ready (rs := [15]) (by kernel_rfl) (by simp) (AllReadyH.cons rfl (fun K hK => ?_) AllReadyH.nil)
  go_simp
  refine hK.out _ _ s2.out (fun _ => ?_)
  clear hK K
  refine wpAnyH_done (by kernel_rfl) ?_ _
  go_wp2
  first | go_ret | go_end0
  exact ⟨rfl, H4.out.stO HB4.out l, ((HB2.out.then_kept (below_drewN (Below.refl _ W2) 1)).setCell p 34 _ (Or.inr (Or.inr rfl))).setCell be 33 _ (Or.inr (Or.inl rfl))⟩

end Go.Proofs.Ytaajadmaamjebaa
