/- The landed index in memory, its map and its ring; use, change. change: a list gets other manifests, or is no list any more. The landed index with its rows: what use and change make of them. -/
import Derived.Test.YtaajadmaamjebaaSyP
import Derived.Test.YtaajadmaamjebaaSyE
namespace Go.Proofs.Ytaajadmaamjebaa
open Go.RowKit

structure Low (bx bm be : Nat) (per most pr : Int) (L : List Nat) (σ : Ring) (f : List UInt8 → Option Nat) (n : Nat) (w : World) : Prop where
  x : IxRow bx bm be per most pr w
  m : PtMap bm n f w
  nds : NdsAt σ w
  path : PathR σ be L be
  nod : (be :: L).Nodup
section
variable {bx bm be : Nat} {per most pr : Int} {L : List Nat} {σ : Ring} {f : List UInt8 → Option Nat} {n : Nat} {w w' : World}
theorem Low.stay (h : Low bx bm be per most pr L σ f n w) (h1 : w'.heap[bx]? = w.heap[bx]?) (h2 : w'.heap[bm]? = w.heap[bm]?) (h3 : ∀ b d, σ b = some d → w'.heap[b]? = w.heap[b]?) : Low bx bm be per most pr L σ f n w' := ⟨h.x.stay h1, h.m.stay h2, h.nds.stay h3, h.path, h.nod⟩
theorem Low.later (h : Low bx bm be per most pr L σ f n w) (k : Kept w w') : Low bx bm be per most pr L σ f n w' := ⟨h.x.later k, h.m.later k, h.nds.later k, h.path, h.nod⟩
theorem ix_nd (hx : IxRow bx bm be per most pr w) (hn : NdsAt σ w) {b : Nat} {d : Nd} (hb : σ b = some d) : bx ≠ b := fun e => by
  have h1 := hx.row
  have h2 := hn.row b d hb
  rw [← e, h1] at h2
  simp at h2
theorem ix_map (hx : IxRow bx bm be per most pr w) (hm : PtMap bm n f w) : bx ≠ bm := fun e => by
  have h1 := hx.row
  obtain ⟨es, c, h2⟩ := hm.isMap
  rw [← e, h1] at h2
  cases h2
theorem map_nd (hm : PtMap bm n f w) (hn : NdsAt σ w) {b : Nat} {d : Nd} (hb : σ b = some d) : bm ≠ b := fun e => by
  obtain ⟨es, c, h1⟩ := hm.isMap
  have h2 := hn.row b d hb
  rw [← e, h1] at h2
  cases h2
theorem Low.mem (h : Low bx bm be per most pr L σ f n w) : ∀ k ∈ be :: L, ∃ d, σ k = some d := path_some h.path
end
theorem nd_fp {d : Nd} (h : d.h.length = 32) : 0 + 32 ≤ (ndA d).size ∧ (ndA d).extract 0 (0 + 32) = fpA d.h := by
  refine ⟨by rw [ndA_size h]; omega, ?_⟩
  unfold ndA
  apply Array.ext_getElem?
  intro i
  rw [Array.getElem?_extract]
  by_cases hi : i < 32
  · rw [if_pos (by rw [Array.size_append, fpA_size, h]; simp; omega), Nat.zero_add, Array.getElem?_append_left (by rw [fpA_size, h]; exact hi)]
  · rw [if_neg (by omega), Array.getElem?_eq_none (by rw [fpA_size, h]; omega)]

/-- What use leaves. -/
def UsePost (bx bm be : Nat) (per most pr : Int) (L : List Nat) (l : Nat) (σ : Ring) (f : List UInt8 → Option Nat) (n : Nat) (w : World) (e : Ending) (w' : World) : Prop :=
  e = .returned (.tuple #[]) ∧ ∃ σ', Low bx bm be per most pr (L ++ [l]) σ' f n w' ∧ (∀ k, corR σ' k = corR σ k) ∧ ButBy (fun k => k ∈ be :: L ∨ k = l) w w'

theorem nodup_enter {be l : Nat} {L : List Nat} (h : (be :: L).Nodup) (hl : l ∉ be :: L) : (be :: (L ++ [l])).Nodup := by
  have : (be :: L ++ [l]).Nodup := List.nodup_append.2 ⟨h, by simp, fun a ha b hb e => hl (by rw [List.mem_singleton.1 hb] at e; exact e ▸ ha)⟩
  exact this
theorem nodup_leave {be l : Nat} {L1 L2 : List Nat} (h : (be :: (L1 ++ l :: L2)).Nodup) : (be :: (L1 ++ L2)).Nodup ∧ l ∉ be :: (L1 ++ L2) := by
  obtain ⟨h1, h2⟩ := List.nodup_cons.1 h
  obtain ⟨h3, h4, h5⟩ := List.nodup_append.1 h2
  obtain ⟨h6, h7⟩ := List.nodup_cons.1 h4
  refine ⟨List.nodup_cons.2 ⟨fun x => h1 ?_, List.nodup_append.2 ⟨h3, h7, fun a ha b hb => h5 a ha b (List.mem_cons_of_mem _ hb)⟩⟩, fun x => ?_⟩
  · rcases List.mem_append.1 x with y | y
    · exact List.mem_append_left _ y
    · exact List.mem_append_right _ (List.mem_cons_of_mem _ y)
  · rcases List.mem_cons.1 x with y | y
    · exact h1 (by rw [← y]; exact List.mem_append_right _ (List.mem_cons_self ..))
    · rcases List.mem_append.1 y with z | z
      · exact h5 l z l (List.mem_cons_self ..) rfl
      · exact h6 z

set_option maxRecDepth 100000 in
set_option maxHeartbeats 2000000 in
/-- use, where leave leaves a ring without l. -/
theorem use_of (bx bm be : Nat) (per most pr : Int) (L : List Nat) (l p q : Nat) (σ : Ring) (f : List UInt8 → Option Nat) (n : Nat) (w : World) (HX : IxRow bx bm be per most pr w) (HM : PtMap bm n f w) (HN : NdsAt σ w) (hpq : ∃ d, σ l = some d ∧ d.o = p ∧ d.n = q) (hp : ∃ x, σ p = some x) (hq : ∃ x, σ q = some x)
    (hm : ∀ k, k = p ∨ k = q → k ∈ be :: L ∨ k = l) (hP : PathR (leaveR σ p q) be L be) (hd : (be :: L).Nodup) (hl : l ∉ be :: L) :
    Calls Try.prog 35 #[.pointer (some ⟨bx, 0, none⟩), .pointer (some ⟨l, 0, none⟩)] w (UsePost bx bm be per most pr L l σ f n w) := by
  obtain ⟨d, hd0, rfl, rfl⟩ := hpq
  have LV := leave_any l σ d w HN hd0 hp hq
  obtain ⟨dbe, hbe⟩ := path_some hP be (List.mem_cons_self ..)
  obtain ⟨dl, hdl, -⟩ := some_of_cor (cor_leave (σ := σ) (p := d.o) (q := d.n) (k := l)) hd0
  have hpe : pvR (leaveR σ d.o d.n) be = some dbe.o := by unfold pvR; rw [hbe]; rfl
  have hpm := path_last hpe hP
  obtain ⟨dp, hdp⟩ := path_some hP dbe.o hpm
  have hlp : l ≠ dbe.o := fun e => hl (e ▸ hpm)
  have hlb : l ≠ be := fun e => hl (e ▸ List.mem_cons_self ..)
  have EN := fun W (H : NdsAt (leaveR σ d.o d.n) W) => enter_any l be (leaveR σ d.o d.n) dl dbe W H hdl hbe ⟨dp, hdp⟩ hlp hlb
  have hin : ∀ k d', σ k = some d' → bx ≠ k ∧ bm ≠ k := fun k d' hk => ⟨ix_nd HX HN hk, map_nd HM HN hk⟩
  have HXK : Hid (∀ W, ButBy (fun k => k = d.o ∨ k = d.n) w W → IxRow bx bm be per most pr W ∧ PtMap bm n f W) := Lib.hid (fun W hW => by
    obtain ⟨x1, h1⟩ := hp
    obtain ⟨x2, h2⟩ := hq
    refine ⟨HX.stay (hW.block bx HX.lt ?_), HM.stay (hW.block bm HM.lt ?_)⟩
    · rintro (e | e)
      · exact (hin _ _ h1).1 e
      · exact (hin _ _ h2).1 e
    · rintro (e | e)
      · exact (hin _ _ h1).2 e
      · exact (hin _ _ h2).2 e)
  have HFN : Hid (∀ W W' : World, IxRow bx bm be per most pr W → PtMap bm n f W → NdsAt (leaveR σ d.o d.n) W → NdsAt (enterR (leaveR σ d.o d.n) l be dbe.o) W' → ButBy (fun k => k = d.o ∨ k = d.n) w W → ButBy (fun k => k = l ∨ k = be ∨ k = dbe.o) W W' → UsePost bx bm be per most pr L l σ f n w (.returned (.tuple #[])) W') := Lib.hid (fun W W' ix mp nd0 nd hb1 hb2 => by
    have h1 : ∀ k, (k = l ∨ k = be ∨ k = dbe.o) → ∃ x, (leaveR σ d.o d.n) k = some x := fun k hk => by
      rcases hk with rfl | rfl | rfl
      · exact ⟨_, hdl⟩
      · exact ⟨_, hbe⟩
      · exact ⟨_, hdp⟩
    refine ⟨rfl, enterR (leaveR σ d.o d.n) l be dbe.o, ⟨ix.stay (hb2.block bx ix.lt (fun e => ?_)), mp.stay (hb2.block bm mp.lt (fun e => ?_)), nd, ?_, nodup_enter hd hl⟩, fun k => ?_, ?_⟩
    · obtain ⟨x, hx⟩ := h1 _ e
      exact ix_nd ix nd0 hx rfl
    · obtain ⟨x, hx⟩ := h1 _ e
      exact map_nd mp nd0 hx rfl
    · exact path_enter hd hl hP hpe (fun k => nx_enter hdl hdp) (fun k => pv_enter hdl hbe)
    · rw [cor_enter, cor_leave]
    · refine (hb1.mono (fun k hk => hm k hk)).trans (hb2.mono (fun k hk => ?_))
      rcases hk with rfl | rfl | rfl
      · exact Or.inr rfl
      · exact Or.inl (List.mem_cons_self ..)
      · exact Or.inl hpm)
  clear HX HM HN hp hq hm hP hd hl hd0 hbe hdl hpe hpm hdp hlp hlb hin
  obtain ⟨σ1, hσ1⟩ : ∃ τ, τ = leaveR σ d.o d.n := ⟨_, rfl⟩
  rw [← hσ1] at LV EN HFN
  clear hσ1
  go_enter Try.func35, Try.ntmps35
  go_wp2_with fail
  refine LV.mono ?_
  rintro e w1 ⟨rfl, hn1, hb1⟩
  have HB1 := Lib.hid hb1
  have HN1 := Lib.hid hn1
  have HX1 := Lib.hid (HXK.out w1 hb1)
  have c5 := HX1.out.1.c5
  have EN1 := EN w1 hn1
  clear hb1 hn1 LV EN
  go_wp2_with fail
  refine EN1.mono ?_
  rintro e w2 ⟨rfl, hn2, hb2⟩
  have HF := Lib.hid (HFN.out w1 w2 HX1.out.1 HX1.out.2 HN1.out hn2 HB1.out hb2)
  clear hn2 hb2 EN1
  go_wp2
  first | go_ret | go_end0
  exact HF.out

/-- use of a list of the ring. -/
theorem use_any (bx bm be : Nat) (per most pr : Int) (L1 L2 : List Nat) (l : Nat) (σ : Ring) (f : List UInt8 → Option Nat) (n : Nat) (w : World) (H : Low bx bm be per most pr (L1 ++ l :: L2) σ f n w) :
    Calls Try.prog 35 #[.pointer (some ⟨bx, 0, none⟩), .pointer (some ⟨l, 0, none⟩)] w (UsePost bx bm be per most pr (L1 ++ L2) l σ f n w) := by
  obtain ⟨d, hd⟩ := H.mem l (List.mem_cons_of_mem _ (List.mem_append_right _ (List.mem_cons_self ..)))
  have hp : pvR σ l = some d.o := by unfold pvR; rw [hd]; rfl
  have hq : nxR σ l = some d.n := by unfold nxR; rw [hd]; rfl
  obtain ⟨hA, hB⟩ := path_cut.1 H.path
  have hpm := path_last hp hA
  have hqm : d.n = L2.headD be := Option.some.inj (hq.symm.trans (path_next H.path))
  have hqm2 : d.n ∈ be :: L2 := by
    rw [hqm]
    cases L2 with
    | nil => exact List.mem_cons_self ..
    | cons x L2 => exact List.mem_cons_of_mem _ (List.mem_cons_self ..)
  have sub1 : ∀ k ∈ be :: L1, k ∈ be :: (L1 ++ L2) := fun k hk => by
    rcases List.mem_cons.1 hk with rfl | hk
    · exact List.mem_cons_self ..
    · exact List.mem_cons_of_mem _ (List.mem_append_left _ hk)
  have sub2 : ∀ k ∈ be :: L2, k ∈ be :: (L1 ++ L2) := fun k hk => by
    rcases List.mem_cons.1 hk with rfl | hk
    · exact List.mem_cons_self ..
    · exact List.mem_cons_of_mem _ (List.mem_append_right _ hk)
  have subA : ∀ k ∈ be :: (L1 ++ L2), k ∈ be :: (L1 ++ l :: L2) := fun k hk => by
    rcases List.mem_cons.1 hk with rfl | hk
    · exact List.mem_cons_self ..
    · rcases List.mem_append.1 hk with hk | hk
      · exact List.mem_cons_of_mem _ (List.mem_append_left _ hk)
      · exact List.mem_cons_of_mem _ (List.mem_append_right _ (List.mem_cons_of_mem _ hk))
  obtain ⟨dp, hdp⟩ := H.mem d.o (subA _ (sub1 _ hpm))
  obtain ⟨dq, hdq⟩ := H.mem d.n (subA _ (sub2 _ hqm2))
  obtain ⟨hn1, hn2⟩ := nodup_leave H.nod
  exact use_of bx bm be per most pr (L1 ++ L2) l d.o d.n σ f n w H.x H.m H.nds ⟨d, hd, rfl, rfl⟩ ⟨dp, hdp⟩ ⟨dq, hdq⟩ (fun k hk => by
    rcases hk with rfl | rfl
    · exact Or.inl (sub1 _ hpm)
    · exact Or.inl (sub2 _ hqm2)) (path_leave H.nod H.path hp hq (fun k => nx_leave hdp) (fun k => pv_leave hdq)) hn1 hn2

/-- use of a new list, alone in its ring. -/
theorem use_new (bx bm be : Nat) (per most pr : Int) (L : List Nat) (l : Nat) (σ : Ring) (f : List UInt8 → Option Nat) (n : Nat) (w : World) (H : Low bx bm be per most pr L σ f n w) (hl : l ∉ be :: L) (hd : ∃ d, σ l = some d ∧ d.o = l ∧ d.n = l) :
    Calls Try.prog 35 #[.pointer (some ⟨bx, 0, none⟩), .pointer (some ⟨l, 0, none⟩)] w (UsePost bx bm be per most pr L l σ f n w) := by
  obtain ⟨d, hd0, ho, hn⟩ := hd
  refine use_of bx bm be per most pr L l l l σ f n w H.x H.m H.nds ⟨d, hd0, ho, hn⟩ ⟨d, hd0⟩ ⟨d, hd0⟩ (fun k hk => Or.inr (by rcases hk with h | h <;> exact h)) ?_ H.nod hl
  have e1 : ∀ k, nxR (leaveR σ l l) k = nxR σ k := fun k => by
    rw [nx_leave hd0]
    split
    · rename_i e; subst e; unfold nxR; rw [hd0]; show some _ = some d.n; rw [hn]
    · rfl
  have e2 : ∀ k, pvR (leaveR σ l l) k = pvR σ k := fun k => by
    rw [pv_leave hd0]
    split
    · rename_i e; subst e; unfold pvR; rw [hd0]; show some _ = some d.o; rw [ho]
    · rfl
  exact path_same H.path (fun k _ => e1 k) (fun k _ => e2 k) (e2 be)

end Go.Proofs.Ytaajadmaamjebaa
namespace Go.Proofs.Ytaajadmaamjebaa
open Go.RowKit

/-- What change leaves of a list that is kept. -/
def KeepPost (bx bm be : Nat) (per most pr' : Int) (L : List Nat) (σ' : Ring) (f : List UInt8 → Option Nat) (n l : Nat) (w : World) (e : Ending) (w' : World) : Prop :=
  e = .returned (.tuple #[]) ∧ Low bx bm be per most pr' L σ' f n w' ∧ ButBy (fun k => k = bx ∨ k = l) w w'

set_option maxRecDepth 100000 in
set_option maxHeartbeats 2000000 in
theorem change_keep (bx bm be : Nat) (per most pr : Int) (L : List Nat) (l : Nat) (d : Nd) (σ : Ring) (f : List UInt8 → Option Nat) (n : Nat) (ms : List Nat) (p : Option Addr) (c : Nat) (w : World) (H : Low bx bm be per most pr L σ f n w) (hd : σ l = some d)
    (hv : ∃ q c', d.v = .slice q d.ms.length c') (h0 : 0 < ms.length) (hb : 0 ≤ pr ∧ pr ≤ 1000000 ∧ ms.length ≤ 1000000 ∧ d.ms.length ≤ 1000000) :
    Calls Try.prog 36 #[.pointer (some ⟨bx, 0, none⟩), .pointer (some ⟨l, 0, none⟩), .slice p ms.length c] w
      (KeepPost bx bm be per most (pr + ((ms.length : Int) - (d.ms.length : Int))) L (stV σ l ms (.slice p ms.length c)) f n l w) := by
  obtain ⟨q, c', hv⟩ := hv
  have cl := H.nds.cv hd
  rw [hv] at cl
  have c3 := H.x.c3
  obtain ⟨b1, b2, b3, b4⟩ := hb
  obtain ⟨m, hm⟩ : ∃ m, m = ms.length := ⟨_, rfl⟩
  obtain ⟨k, hk⟩ : ∃ k, k = d.ms.length := ⟨_, rfl⟩
  rw [← hm] at h0 b3 ⊢
  rw [← hk] at cl b4 ⊢
  obtain ⟨z, hz⟩ : ∃ z, z = pr + ((m : Int) - (k : Int)) := ⟨_, rfl⟩
  rw [← hz]
  have v1 : IntKind.i64.wrap ((m : Int) - (k : Int)) = (m : Int) - (k : Int) := IntWalk.i64_in _ (by omega)
  have v2 : IntKind.i64.wrap (pr + ((m : Int) - (k : Int))) = z := by rw [← hz]; exact IntWalk.i64_in _ (by omega)
  have t0 : ((m : Int) == 0) = false := beq_eq_false_iff_ne.2 (by omega)
  have t0' : ¬ m = 0 := by omega
  have HH := Lib.hid H
  have HD := Lib.hid hd
  have HMM := Lib.hid hm
  have hxl : bx ≠ l := ix_nd H.x H.nds hd
  have HXL := Lib.hid hxl
  clear H hd hv hm hk hz b1 b2 b3 b4 h0 hxl
  go_enter Try.func36, Try.ntmps36
  go_wp2_with fail
  refine wp_region_kept_tail 13 (by kernel_rfl) (by decide) (by kernel_rfl) (by kernel_rfl) ?_
  simp only [List.take_succ_cons, List.take_zero, List.drop_succ_cons, List.drop_zero]
  refine wpQuiet_pure (v := ?_) (by kernel_rfl) ?_ (fun K hK => ?_)
  case refine_2 => intro W _; go_simp; try with_reducible rfl
  go_simp
  refine hK _ ?_; clear hK K
  refine wpQuiet_pure (v := ?_) (by kernel_rfl) ?_ (fun K hK => ?_)
  case refine_2 => intro W _; go_simp; try with_reducible rfl
  go_simp
  refine hK _ ?_; clear hK K
  refine wpQuiet_pure (v := ?_) (by kernel_rfl) ?_ (fun K hK => ?_)
  case refine_2 => intro W _; go_simp; try with_reducible rfl
  go_simp
  refine hK _ ?_; clear hK K
  refine wpQuiet_load_cell (by kernel_rfl) _ _ rfl ⟨bx, 3, none⟩ rfl _ Try.underlying3 rfl _ (fun _ h => h.cell c3) (fun K hK => ?_)
  go_simp
  refine hK _ ?_; clear hK K
  refine wpQuiet_pure (v := ?_) (by kernel_rfl) ?_ (fun K hK => ?_)
  case refine_2 => intro W _; go_simp; try with_reducible rfl
  go_simp
  refine hK _ ?_; clear hK K
  refine wpQuiet_pure (v := ?_) (by kernel_rfl) ?_ (fun K hK => ?_)
  case refine_2 => intro W _; go_simp; try with_reducible rfl
  go_simp
  refine hK _ ?_; clear hK K
  refine wpQuiet_pure (v := ?_) (by kernel_rfl) ?_ (fun K hK => ?_)
  case refine_2 => intro W _; go_simp; try with_reducible rfl
  go_simp
  refine hK _ ?_; clear hK K
  refine wpQuiet_pure (v := ?_) (by kernel_rfl) ?_ (fun K hK => ?_)
  case refine_2 => intro W _; go_simp; try with_reducible rfl
  go_simp
  refine hK _ ?_; clear hK K
  refine wpQuiet_pure (v := ?_) (by kernel_rfl) ?_ (fun K hK => ?_)
  case refine_2 => intro W _; go_simp; try with_reducible rfl
  go_simp
  refine hK _ ?_; clear hK K
  refine wpQuiet_load_cell (by kernel_rfl) _ _ rfl ⟨l, 32, none⟩ rfl _ Try.underlying44 rfl _ (fun _ h => h.cell cl) (fun K hK => ?_)
  go_simp
  refine hK _ ?_; clear hK K
  refine wpQuiet_pure (v := ?_) (by kernel_rfl) ?_ (fun K hK => ?_)
  case refine_2 => intro W _; go_simp; try with_reducible rfl
  go_simp
  refine hK _ ?_; clear hK K
  refine wpQuiet_pure (v := ?_) (by kernel_rfl) ?_ (fun K hK => ?_)
  case refine_2 => intro W _; go_simp; try with_reducible rfl
  go_simp
  refine hK _ ?_; clear hK K
  refine wpQuiet_pure (v := ?_) (by kernel_rfl) ?_ (fun K hK => ?_)
  case refine_2 => intro W _; go_simp; try with_reducible rfl
  go_simp
  refine hK _ ?_; clear hK K
  refine wpQuiet_nil ?_
  intro w1 hk1
  have H1 := Lib.hid (HH.out.later hk1)
  have q0 := H1.out.x.c3
  have z0 := H1.out.x.fz 3
  have HX2 := Lib.hid (H1.out.x.set z)
  have HM2 := Lib.hid (H1.out.m.stay (heap_setCell_other w1 ⟨bx, 3, none⟩ bm (.int .i64 z) (fun e => ix_map H1.out.x H1.out.m e.symm)))
  have HN2 := Lib.hid (H1.out.nds.stay (fun b d' hb => heap_setCell_other w1 ⟨bx, 3, none⟩ b (.int .i64 z) (fun e => ix_nd H1.out.x H1.out.nds hb e.symm)))
  have HB2 := Lib.hid ((but_of_kept (Bs := fun k => k = bx ∨ k = l) hk1).setCell bx 3 (.int .i64 z) (Or.inl rfl))
  have q2 := HN2.out.cv HD.out
  have z2 := HN2.out.fz HD.out 32
  clear hk1 cl c3
  go_wp2
  first | go_ret | go_end0
  refine ⟨rfl, ⟨HX2.out.stay (heap_setCell_other _ _ _ _ HXL.out), HM2.out.stay (heap_setCell_other _ _ _ _ (fun e => map_nd HM2.out HN2.out HD.out e)), HN2.out.stV HD.out ms (.slice p m c) rfl, ?_, HH.out.nod⟩, HB2.out.setCell l 32 _ (Or.inr rfl)⟩
  exact path_same HH.out.path (fun k _ => nx_stV) (fun k _ => pv_stV) pv_stV

/-- What change leaves where a list goes. -/
def DropPost (bx bm be : Nat) (per most pr' : Int) (L1 L2 : List Nat) (l : Nat) (σ : Ring) (f' : List UInt8 → Option Nat) (n : Nat) (w : World) (e : Ending) (w' : World) : Prop :=
  e = .returned (.tuple #[]) ∧ ∃ σ', Low bx bm be per most pr' (L1 ++ L2) σ' f' n w' ∧ (∀ k, k ≠ l → corR σ' k = corR σ k) ∧ (∀ k, σ' k ≠ none → σ k ≠ none) ∧ nxR σ' l = some (L2.headD be) ∧ ButBy (fun k => k = bx ∨ k = bm ∨ k ∈ be :: (L1 ++ l :: L2)) w w'

set_option maxRecDepth 100000 in
set_option maxHeartbeats 2000000 in
theorem change_drop (bx bm be : Nat) (per most pr : Int) (L1 L2 : List Nat) (l : Nat) (d : Nd) (σ : Ring) (f : List UInt8 → Option Nat) (n : Nat) (p : Option Addr) (c : Nat) (w : World) (H : Low bx bm be per most pr (L1 ++ l :: L2) σ f (n + 1) w) (hd : σ l = some d)
    (hv : ∃ q c', d.v = .slice q d.ms.length c') (hf : f d.h = some l) (hb : 0 ≤ pr ∧ pr ≤ 1000000 ∧ d.ms.length ≤ 1000000) :
    Calls Try.prog 36 #[.pointer (some ⟨bx, 0, none⟩), .pointer (some ⟨l, 0, none⟩), .slice p 0 c] w
      (DropPost bx bm be per most (pr - (d.ms.length : Int)) L1 L2 l σ (delF f d.h) n w) := by
  obtain ⟨q, c', hv⟩ := hv
  have cl := H.nds.cv hd
  rw [hv] at cl
  have c3 := H.x.c3
  obtain ⟨b1, b2, b4⟩ := hb
  obtain ⟨k, hk⟩ : ∃ k, k = d.ms.length := ⟨_, rfl⟩
  rw [← hk] at cl b4 ⊢
  obtain ⟨z, hz⟩ : ∃ z, z = pr - (k : Int) := ⟨_, rfl⟩
  rw [← hz]
  have v1 : IntKind.i64.wrap (0 - (k : Int)) = -(k : Int) := by rw [Int.zero_sub]; exact IntWalk.i64_in _ (by omega)
  have v1' : IntKind.i64.wrap (-(k : Int)) = -(k : Int) := IntWalk.i64_in _ (by omega)
  have v2 : IntKind.i64.wrap (pr + -(k : Int)) = z := by rw [hz]; exact IntWalk.i64_in _ (by omega)
  have HH := Lib.hid H
  have HD := Lib.hid hd
  have HFF := Lib.hid hf
  have h32 := (H.nds.h32 l d hd).1
  have HH32 := Lib.hid h32
  have hxl : bx ≠ l := ix_nd H.x H.nds hd
  have HXL := Lib.hid hxl
  -- the ring where l has nothing
  have hp : pvR σ l = some d.o := by unfold pvR; rw [hd]; rfl
  have hq : nxR σ l = some d.n := by unfold nxR; rw [hd]; rfl
  obtain ⟨hA, hB⟩ := path_cut.1 H.path
  have hpm := path_last hp hA
  have hqm : d.n = L2.headD be := Option.some.inj (hq.symm.trans (path_next H.path))
  have hmem : ∀ k, k = d.o ∨ k = d.n → k ∈ be :: (L1 ++ l :: L2) ∧ k ≠ l := fun k hk => by
    have hnl := (nodup_leave H.nod).2
    rcases hk with rfl | rfl
    · rcases List.mem_cons.1 hpm with h | h
      · rw [h]
        exact ⟨List.mem_cons_self .., fun e => hnl (by rw [← e]; exact List.mem_cons_self ..)⟩
      · exact ⟨List.mem_cons_of_mem _ (List.mem_append_left _ h), fun e => hnl (by rw [e] at h; exact List.mem_cons_of_mem _ (List.mem_append_left _ h))⟩
    · rw [hqm]
      cases L2 with
      | nil => exact ⟨List.mem_cons_self .., fun e => hnl (by rw [← e]; exact List.mem_cons_self ..)⟩
      | cons x L2 => exact ⟨List.mem_cons_of_mem _ (List.mem_append_right _ (List.mem_cons_of_mem _ (List.mem_cons_self ..))), fun e => hnl (by rw [← e]; exact List.mem_cons_of_mem _ (List.mem_append_right _ (List.mem_cons_self ..)))⟩
  obtain ⟨τ, hτ⟩ : ∃ τ, τ = stV σ l [] (.slice p 0 c) := ⟨_, rfl⟩
  have hcor : ∀ k, k ≠ l → corR τ k = corR σ k := fun k hk => by rw [hτ, cor_stV, if_neg hk]
  have htl : τ l = some { d with ms := [], v := .slice p 0 c } := by rw [hτ]; exact updR_same hd
  have hdom : ∀ k x, σ k = some x → ∃ y, τ k = some y := fun k x hx => by
    rw [hτ]; unfold stV updR
    split
    · rw [hx]; exact ⟨_, rfl⟩
    · exact ⟨x, hx⟩
  have hdom2 : ∀ k, τ k ≠ none → σ k ≠ none := fun k hk e => hk (by rw [hτ]; unfold stV updR; rw [e]; split <;> rfl)
  obtain ⟨xp, hxp⟩ := H.mem d.o (hmem d.o (Or.inl rfl)).1
  obtain ⟨xq, hxq⟩ := H.mem d.n (hmem d.n (Or.inr rfl)).1
  obtain ⟨dp, hdp⟩ := hdom _ _ hxp
  obtain ⟨dq, hdq⟩ := hdom _ _ hxq
  have hpath : PathR τ be (L1 ++ l :: L2) be := by
    rw [hτ]
    exact path_same H.path (fun k _ => nx_stV) (fun k _ => pv_stV) pv_stV
  have hpath2 : PathR (leaveR τ d.o d.n) be (L1 ++ L2) be := path_leave H.nod hpath (by unfold pvR; rw [htl]; rfl) (by unfold nxR; rw [htl]; rfl) (fun k => nx_leave hdp) (fun k => pv_leave hdq)
  have hnx : nxR (leaveR τ d.o d.n) l = some (L2.headD be) := by
    rw [nx_leave hdp, if_neg (fun e => (hmem d.o (Or.inl rfl)).2 e.symm), ← hqm]; unfold nxR; rw [htl]; rfl
  have LV := fun W (HW : NdsAt τ W) => leave_any l τ { d with ms := [], v := .slice p 0 c } W HW htl ⟨dp, hdp⟩ ⟨dq, hdq⟩
  obtain ⟨dl, hdl, hdlh, -, -⟩ := some_of_cor (cor_leave (σ := τ) (p := d.o) (q := d.n) (k := l)) htl
  obtain ⟨ρ, hρ⟩ : ∃ ρ, ρ = leaveR τ d.o d.n := ⟨_, rfl⟩
  have HFIN : Hid (∀ W, IxRow bx bm be per most z W → PtMap bm n (delF f d.h) W → NdsAt ρ W → ButBy (fun k => k = bx ∨ k = bm ∨ k ∈ be :: (L1 ++ l :: L2)) w W → DropPost bx bm be per most z L1 L2 l σ (delF f d.h) n w (.returned (.tuple #[])) W) := Lib.hid (fun W ix mp nd bb => by
    refine ⟨rfl, ρ, ⟨ix, mp, nd, by rw [hρ]; exact hpath2, (nodup_leave H.nod).1⟩, fun k hk => by rw [hρ, cor_leave]; exact hcor k hk, fun k hk => ?_, by rw [hρ]; exact hnx, bb⟩
    refine hdom2 k (fun e => hk ?_)
    have h1 : corR ρ k = corR τ k := by rw [hρ]; exact cor_leave
    unfold corR at h1
    rw [e] at h1
    cases hr : ρ k with
    | none => rfl
    | some y => rw [hr] at h1; cases h1)
  rw [← hρ] at LV hdl
  have HTV : Hid (∀ W, NdsAt σ W → NdsAt τ (W.setCell ⟨l, 32, none⟩ (.slice p 0 c))) := Lib.hid (fun W hW => by rw [hτ]; exact hW.stV hd [] _ rfl)
  have HLM : Hid (l ∈ be :: (L1 ++ l :: L2)) := Lib.hid (List.mem_cons_of_mem _ (List.mem_append_right _ (List.mem_cons_self ..)))
  have HME : Hid (∀ k, k = d.o ∨ k = d.n → k ∈ be :: (L1 ++ l :: L2) ∧ ∃ y, τ k = some y) := Lib.hid (fun k hk => ⟨(hmem k hk).1, by rcases hk with rfl | rfl; exact ⟨_, hdp⟩; exact ⟨_, hdq⟩⟩)
  have HDL : Hid (ρ l = some dl ∧ dl.h = d.h) := Lib.hid ⟨hdl, hdlh⟩
  have HTL := Lib.hid htl
  clear H hd hv hf hk hz b1 b2 b4 hxl h32 hp hq hA hB hpm hqm hmem hτ hcor htl hdom hdom2 hxp hxq hdp hdq hpath hpath2 hnx hdl hdlh hρ
  go_enter Try.func36, Try.ntmps36
  go_wp2_with fail
  refine wp_region_kept_tail 13 (by kernel_rfl) (by decide) (by kernel_rfl) (by kernel_rfl) ?_
  simp only [List.take_succ_cons, List.take_zero, List.drop_succ_cons, List.drop_zero]
  refine wpQuiet_pure (v := ?_) (by kernel_rfl) ?_ (fun K hK => ?_)
  case refine_2 => intro W _; go_simp; try with_reducible rfl
  go_simp
  refine hK _ ?_; clear hK K
  refine wpQuiet_pure (v := ?_) (by kernel_rfl) ?_ (fun K hK => ?_)
  case refine_2 => intro W _; go_simp; try with_reducible rfl
  go_simp
  refine hK _ ?_; clear hK K
  refine wpQuiet_pure (v := ?_) (by kernel_rfl) ?_ (fun K hK => ?_)
  case refine_2 => intro W _; go_simp; try with_reducible rfl
  go_simp
  refine hK _ ?_; clear hK K
  refine wpQuiet_load_cell (by kernel_rfl) _ _ rfl ⟨bx, 3, none⟩ rfl _ Try.underlying3 rfl _ (fun _ h => h.cell c3) (fun K hK => ?_)
  go_simp
  refine hK _ ?_; clear hK K
  refine wpQuiet_pure (v := ?_) (by kernel_rfl) ?_ (fun K hK => ?_)
  case refine_2 => intro W _; go_simp; try with_reducible rfl
  go_simp
  refine hK _ ?_; clear hK K
  refine wpQuiet_pure (v := ?_) (by kernel_rfl) ?_ (fun K hK => ?_)
  case refine_2 => intro W _; go_simp; try with_reducible rfl
  go_simp
  refine hK _ ?_; clear hK K
  refine wpQuiet_pure (v := ?_) (by kernel_rfl) ?_ (fun K hK => ?_)
  case refine_2 => intro W _; go_simp; try with_reducible rfl
  go_simp
  refine hK _ ?_; clear hK K
  refine wpQuiet_pure (v := ?_) (by kernel_rfl) ?_ (fun K hK => ?_)
  case refine_2 => intro W _; go_simp; try with_reducible rfl
  go_simp
  refine hK _ ?_; clear hK K
  refine wpQuiet_pure (v := ?_) (by kernel_rfl) ?_ (fun K hK => ?_)
  case refine_2 => intro W _; go_simp; try with_reducible rfl
  go_simp
  refine hK _ ?_; clear hK K
  refine wpQuiet_load_cell (by kernel_rfl) _ _ rfl ⟨l, 32, none⟩ rfl _ Try.underlying44 rfl _ (fun _ h => h.cell cl) (fun K hK => ?_)
  go_simp
  refine hK _ ?_; clear hK K
  refine wpQuiet_pure (v := ?_) (by kernel_rfl) ?_ (fun K hK => ?_)
  case refine_2 => intro W _; go_simp; try with_reducible rfl
  go_simp
  refine hK _ ?_; clear hK K
  refine wpQuiet_pure (v := ?_) (by kernel_rfl) ?_ (fun K hK => ?_)
  case refine_2 => intro W _; go_simp; try with_reducible rfl
  go_simp
  refine hK _ ?_; clear hK K
  refine wpQuiet_pure (v := ?_) (by kernel_rfl) ?_ (fun K hK => ?_)
  case refine_2 => intro W _; go_simp; try with_reducible rfl
  go_simp
  refine hK _ ?_; clear hK K
  refine wpQuiet_nil ?_
  intro w1 hk1
  have H1 := Lib.hid (HH.out.later hk1)
  have q0 := H1.out.x.c3
  have z0 := H1.out.x.fz 3
  have HX2 := Lib.hid (H1.out.x.set z)
  have HM2 := Lib.hid (H1.out.m.stay (heap_setCell_other w1 ⟨bx, 3, none⟩ bm (.int .i64 z) (fun e => ix_map H1.out.x H1.out.m e.symm)))
  have HN2 := Lib.hid (H1.out.nds.stay (fun b d' hb => heap_setCell_other w1 ⟨bx, 3, none⟩ b (.int .i64 z) (fun e => ix_nd H1.out.x H1.out.nds hb e.symm)))
  have HB2 := Lib.hid ((but_of_kept (Bs := fun k => k = bx ∨ k = bm ∨ k ∈ be :: (L1 ++ l :: L2)) hk1).setCell bx 3 (.int .i64 z) (Or.inl rfl))
  have q2 := HN2.out.cv HD.out
  have z2 := HN2.out.fz HD.out 32
  have HN3 := Lib.hid (HTV.out _ HN2.out)
  have HX3 := Lib.hid (HX2.out.stay (heap_setCell_other (w1.setCell ⟨bx, 3, none⟩ (.int .i64 z)) ⟨l, 32, none⟩ bx (.slice p 0 c) HXL.out))
  have HM3 := Lib.hid (HM2.out.stay (heap_setCell_other (w1.setCell ⟨bx, 3, none⟩ (.int .i64 z)) ⟨l, 32, none⟩ bm (.slice p 0 c) (fun e => map_nd HM2.out HN2.out HD.out e)))
  have HB3 := Lib.hid (HB2.out.setCell l 32 (.slice p 0 c) (Or.inr (Or.inr HLM.out)))
  have LV3 := LV _ HN3.out
  obtain ⟨W3, hW3⟩ : ∃ W3, W3 = (w1.setCell ⟨bx, 3, none⟩ (.int .i64 z)).setCell ⟨l, 32, none⟩ (.slice p 0 c) := ⟨_, rfl⟩
  rw [← hW3] at HN3 HX3 HM3 HB3 LV3
  have HW3 := Lib.hid hW3
  clear hk1 cl c3 LV hW3
  go_wp2_with fail
  rw [← HW3.out]
  refine LV3.mono ?_
  rintro e w4 ⟨rfl, hn4, hb4⟩
  have hne : ∀ k, k = d.o ∨ k = d.n → bx ≠ k ∧ bm ≠ k := fun k hk => by
    obtain ⟨-, y, hy⟩ := HME.out k hk
    exact ⟨ix_nd HX3.out HN3.out hy, map_nd HM3.out HN3.out hy⟩
  have HX4 := Lib.hid (HX3.out.stay (hb4.block bx HX3.out.lt (fun e => (hne _ e).1 rfl)))
  have HM4 := Lib.hid (HM3.out.stay (hb4.block bm HM3.out.lt (fun e => (hne _ e).2 rfl)))
  have HN4 := Lib.hid hn4
  have HB4 := Lib.hid (HB3.out.trans (hb4.mono (fun k hk => Or.inr (Or.inr (HME.out k hk).1))))
  have c4 := HX4.out.c4
  have g4 := HN4.out.row l dl HDL.out.1
  have EX : Hid (0 + 32 ≤ (ndA dl).size ∧ (ndA dl).extract 0 (0 + 32) = fpA d.h) := Lib.hid (by
    have := nd_fp (d := dl) (by rw [HDL.out.2]; exact HH32.out)
    rw [HDL.out.2] at this
    exact this)
  obtain ⟨X, hX⟩ : ∃ X, X = fpA d.h := ⟨_, rfl⟩
  obtain ⟨C4, hC4⟩ : ∃ C4, C4 = ndA dl := ⟨_, rfl⟩
  rw [← hX, ← hC4] at EX
  rw [← hC4] at g4
  have HXF := Lib.hid hX
  clear hn4 hb4 hne hX hC4 q0 z0 q2 z2 LV3
  go_wp2_with fail
  refine wp_region_kept_tail 8 (by kernel_rfl) (by decide) (by kernel_rfl) (by kernel_rfl) ?_
  simp only [List.take_succ_cons, List.take_zero, List.drop_succ_cons, List.drop_zero]
  refine wpQuiet_pure (v := ?_) (by kernel_rfl) ?_ (fun K hK => ?_)
  case refine_2 => intro W _; go_simp; try with_reducible rfl
  go_simp
  refine hK _ ?_; clear hK K
  refine wpQuiet_pure (v := ?_) (by kernel_rfl) ?_ (fun K hK => ?_)
  case refine_2 => intro W _; go_simp; try with_reducible rfl
  go_simp
  refine hK _ ?_; clear hK K
  refine wpQuiet_pure (v := ?_) (by kernel_rfl) ?_ (fun K hK => ?_)
  case refine_2 => intro W _; go_simp; try with_reducible rfl
  go_simp
  refine hK _ ?_; clear hK K
  refine wpQuiet_load_cell (by kernel_rfl) _ _ rfl ⟨bx, 4, none⟩ rfl _ Try.underlying52 rfl _ (fun _ h => h.cell c4) (fun K hK => ?_)
  go_simp
  refine hK _ ?_; clear hK K
  refine wpQuiet_pure (v := ?_) (by kernel_rfl) ?_ (fun K hK => ?_)
  case refine_2 => intro W _; go_simp; try with_reducible rfl
  go_simp
  refine hK _ ?_; clear hK K
  refine wpQuiet_pure (v := ?_) (by kernel_rfl) ?_ (fun K hK => ?_)
  case refine_2 => intro W _; go_simp; try with_reducible rfl
  go_simp
  refine hK _ ?_; clear hK K
  refine wpQuiet_pure (v := ?_) (by kernel_rfl) ?_ (fun K hK => ?_)
  case refine_2 => intro W _; go_simp; try with_reducible rfl
  go_simp
  refine hK _ ?_; clear hK K
  refine wpQuiet_load_sub (by kernel_rfl) _ _ rfl l 0 32 rfl 67 C4 (0, 0) _ (fun _ h => h.row g4) Try.underlying47 rfl infoFp _ EX.out (fun K hK => ?_)
  go_simp
  refine hK _ ?_; clear hK K
  refine wpQuiet_nil ?_
  intro w5 hk5
  have HM5 := Lib.hid (HM4.out.later hk5)
  have HX5 := Lib.hid (HX4.out.later hk5)
  have HN5 := Lib.hid (HN4.out.later hk5)
  have HB5 := Lib.hid (HB4.out.then_kept hk5)
  clear hk5 c4 g4
  go_wp2_with (with_reducible refine wpList_pdel rfl _ _ rfl rfl X rfl d.h HXF.out HH32.out HM5.out l HFF.out ?_)
  intro w6 hm6 hg6
  have HFF6 := Lib.hid (HFIN.out w6 (HX5.out.stay (hg6.block bx HX5.out.lt (fun e => ix_map HX5.out HM5.out (Option.some.inj e)))) hm6 (HN5.out.stay (fun b d' hb => hg6.block b (HN5.out.lt hb) (fun e => map_nd HM5.out HN5.out hb (Option.some.inj e).symm))) (HB5.out.trans ((but_of_grown hg6).mono (fun k hk => Or.inr (Or.inl (Option.some.inj hk).symm)))))
  clear hm6 hg6
  go_wp2
  first | go_ret | go_end0
  exact HFF6.out

end Go.Proofs.Ytaajadmaamjebaa
namespace Go.Proofs.Ytaajadmaamjebaa
open Go.RowKit

def rwR (σ : Ring) (b : Nat) : Option SRow := (σ b).map fun d => (d.h, d.ms)
def hkR (σ : Ring) (b : Nat) : Option (List UInt8) := (σ b).map Nd.h
theorem rw_cor {σ τ : Ring} {k : Nat} (h : corR τ k = corR σ k) : rwR τ k = rwR σ k ∧ hkR τ k = hkR σ k := by
  unfold corR at h
  unfold rwR hkR
  cases h1 : τ k with
  | none =>
    cases h2 : σ k with
    | none => exact ⟨rfl, rfl⟩
    | some d => rw [h1, h2] at h; cases h
  | some e =>
    cases h2 : σ k with
    | none => rw [h1, h2] at h; cases h
    | some d =>
      rw [h1, h2] at h
      simp only [Option.map_some, Option.some.injEq, Prod.mk.injEq] at h
      simp only [Option.map_some, h.1, h.2.1, and_self]
theorem rows_parts {g : Nat → Option SRow} {L1 L2 : List Nat} {l : Nat} {R1 R2 : List SRow} {r : SRow} (h : (L1 ++ l :: L2).map g = (R1 ++ r :: R2).map some) (hl : L1.length = R1.length) : L1.map g = R1.map some ∧ g l = some r ∧ L2.map g = R2.map some := by
  rw [List.map_append, List.map_append, List.map_cons, List.map_cons] at h
  obtain ⟨h1, h2⟩ := List.append_inj h (by rw [List.length_map, List.length_map, hl])
  exact ⟨h1, (List.cons.inj h2).1, (List.cons.inj h2).2⟩
/-- What has come since. -/
def upBs (Bs : Nat → Prop) (w w' : World) (k : Nat) : Prop := Bs k ∨ (w.heap.size ≤ k ∧ k < w'.heap.size)

structure Full (B bx bm be : Nat) (per most : Int) (L : List Nat) (σ : Ring) (f : List UInt8 → Option Nat) (R : List SRow) (Bs : Nat → Prop) (w : World) : Prop where
  low : Low bx bm be per most (lenS R : Nat) L σ f R.length w
  rows : L.map (rwR σ) = R.map some
  fm : ∀ h b, f h = some b ↔ (b ∈ L ∧ hkR σ b = some h)
  own : ∀ b ∈ L, ∀ d, σ b = some d → OwnU B d.ms d.v w
  apart : ∀ b ∈ L, ∀ c ∈ L, b ≠ c → ∀ d e, σ b = some d → σ c = some e → ∀ k, d.v.ownBlock = some k → e.v.ownBlock ≠ some k
  blk : ∀ k, Bs k → B ≤ k ∧ k < w.heap.size
  cov : Bs bx ∧ Bs bm ∧ (∀ b d, σ b = some d → Bs b) ∧ ∀ b ∈ L, ∀ d, σ b = some d → ∀ k, d.v.ownBlock = some k → Bs k

section
variable {B bx bm be : Nat} {per most : Int} {L : List Nat} {σ : Ring} {f : List UInt8 → Option Nat} {R : List SRow} {Bs Cs : Nat → Prop} {w w' : World}
theorem Full.stay (h : Full B bx bm be per most L σ f R Bs w) (hs : w.heap.size ≤ w'.heap.size) (hk : ∀ k, Bs k → w'.heap[k]? = w.heap[k]?) : Full B bx bm be per most L σ f R Bs w' :=
  ⟨h.low.stay (hk _ h.cov.1) (hk _ h.cov.2.1) (fun b d hb => hk b (h.cov.2.2.1 b d hb)), h.rows, h.fm, fun b hb d hd => (h.own b hb d hd).stay (fun k hk2 => hk k (h.cov.2.2.2 b hb d hd k hk2)), h.apart, fun k hk2 => ⟨(h.blk k hk2).1, Nat.lt_of_lt_of_le (h.blk k hk2).2 hs⟩, h.cov⟩
theorem Full.later (h : Full B bx bm be per most L σ f R Bs w) (k : Kept w w') : Full B bx bm be per most L σ f R Bs w' := h.stay k.size (fun j hj => k.block j (h.blk j hj).2)
theorem Full.mono (h : Full B bx bm be per most L σ f R Bs w) (hs : ∀ k, Bs k → Cs k) (hc : ∀ k, Cs k → B ≤ k ∧ k < w.heap.size) : Full B bx bm be per most L σ f R Cs w :=
  ⟨h.low, h.rows, h.fm, h.own, h.apart, hc, hs _ h.cov.1, hs _ h.cov.2.1, fun b d hb => hs _ (h.cov.2.2.1 b d hb), fun b hb d hd k hk => hs _ (h.cov.2.2.2 b hb d hd k hk)⟩
/-- The row of a list is no part of the rest. -/
theorem Full.off (h : Full B bx bm be per most L σ f R Bs w) {b : Nat} (hb : b ∈ L) {d : Nd} (hd : σ b = some d) {k : Nat} (hk : d.v.ownBlock = some k) : k ≠ bx ∧ k ≠ bm ∧ ∀ c x, σ c = some x → k ≠ c := by
  obtain ⟨cs, hc⟩ := (h.own b hb d hd).typ hk
  refine ⟨fun e => ?_, fun e => ?_, fun c x hx e => ?_⟩
  · have := h.low.x.row
    rw [← e, hc] at this
    simp at this
  · obtain ⟨es, c, h2⟩ := h.low.m.isMap
    rw [← e, hc] at h2
    cases h2
  · have := h.low.nds.row c x hx
    rw [← e, hc] at this
    simp at this
theorem Full.hk (h : Full B bx bm be per most L σ f R Bs w) {b : Nat} (hb : b ∈ L) {d : Nd} (hd : σ b = some d) : f d.h = some b := (h.fm d.h b).2 ⟨hb, by unfold hkR; rw [hd]; rfl⟩
theorem Full.len (h : Full B bx bm be per most L σ f R Bs w) : L.length = R.length := by
  have := congrArg List.length h.rows
  rwa [List.length_map, List.length_map] at this
end

set_option maxRecDepth 100000 in
/-- A list is used. -/
theorem fu_use (B bx bm be : Nat) (per most : Int) (L1 L2 : List Nat) (l : Nat) (σ : Ring) (f : List UInt8 → Option Nat) (R1 R2 : List SRow) (r : SRow) (Bs : Nat → Prop) (w : World) (H : Full B bx bm be per most (L1 ++ l :: L2) σ f (R1 ++ r :: R2) Bs w) (hl : L1.length = R1.length) :
    Calls Try.prog 35 #[.pointer (some ⟨bx, 0, none⟩), .pointer (some ⟨l, 0, none⟩)] w fun e w' =>
      e = .returned (.tuple #[]) ∧ ∃ σ', Full B bx bm be per most (L1 ++ L2 ++ [l]) σ' f (R1 ++ R2 ++ [r]) Bs w' ∧ (∀ k, corR σ' k = corR σ k) ∧ ButBy Bs w w' := by
  obtain ⟨h1, h2, h3⟩ := rows_parts H.rows hl
  have hN : (R1 ++ r :: R2).length = (R1 ++ R2 ++ [r]).length := by simp only [List.length_append, List.length_cons, List.length_nil]; omega
  have hS : lenS (R1 ++ r :: R2) = lenS (R1 ++ R2 ++ [r]) := by
    rw [lenS_append, lenS_append, lenS_append]
    show lenS R1 + (r.2.length + lenS R2) = lenS R1 + lenS R2 + (r.2.length + 0)
    omega
  have hmem : ∀ k, k ∈ L1 ++ L2 ++ [l] ↔ k ∈ L1 ++ l :: L2 := fun k => by
    simp only [List.mem_append, List.mem_cons, List.not_mem_nil, or_false]
    constructor
    · rintro ((h | h) | h)
      · exact Or.inl h
      · exact Or.inr (Or.inr h)
      · exact Or.inr (Or.inl h)
    · rintro (h | h | h)
      · exact Or.inl (Or.inl h)
      · exact Or.inr h
      · exact Or.inl (Or.inr h)
  refine (use_any bx bm be per most _ L1 L2 l σ f _ w H.low).mono ?_
  rintro e w' ⟨rfl, σ', hlow, hcor, hb⟩
  have hin : ∀ k, k ∈ be :: (L1 ++ L2) ∨ k = l → ∃ d, σ k = some d := fun k hk => by
    refine H.low.mem k ?_
    rcases hk with hk | rfl
    · rcases List.mem_cons.1 hk with rfl | hk
      · exact List.mem_cons_self ..
      · exact List.mem_cons_of_mem _ ((hmem k).1 (List.mem_append_left _ hk))
    · exact List.mem_cons_of_mem _ (List.mem_append_right _ (List.mem_cons_self ..))
  have hbB : ButBy Bs w w' := hb.mono (fun k hk => by
    obtain ⟨d, hd⟩ := hin k hk
    exact H.cov.2.2.1 k d hd)
  have back : ∀ k d', σ' k = some d' → ∃ d, σ k = some d ∧ d.h = d'.h ∧ d.ms = d'.ms ∧ d.v = d'.v := fun k d' hd' => some_of_cor (hcor k).symm hd'
  refine ⟨rfl, σ', ⟨?_, ?_, fun h b => ?_, fun b hb2 d' hd' => ?_, fun b hb2 c hc2 hne d' e' hd' he' k hk => ?_, fun k hk => ⟨(H.blk k hk).1, Nat.lt_of_lt_of_le (H.blk k hk).2 hb.size⟩, H.cov.1, H.cov.2.1, fun b d' hd' => ?_, fun b hb2 d' hd' k hk => ?_⟩, hcor, hbB⟩
  · rw [← hN, ← hS]; exact hlow
  · have e : (L1 ++ L2 ++ [l]).map (rwR σ') = (L1 ++ L2 ++ [l]).map (rwR σ) := List.map_congr_left (fun k _ => (rw_cor (hcor k)).1)
    rw [e, List.map_append, List.map_append, List.map_append, List.map_append, h1, h3]
    show _ ++ [rwR σ l] = _
    rw [h2]; rfl
  · rw [H.fm, hmem, (rw_cor (hcor b)).2]
  · obtain ⟨d, hd, -, e1, e2⟩ := back b d' hd'
    rw [← e1, ← e2]
    have ho := H.own b ((hmem b).1 hb2) d hd
    refine ho.stay (fun k hk => hb.block k (ho.lt k hk).2 (fun x => ?_))
    obtain ⟨y, hy⟩ := hin k x
    exact (H.off ((hmem b).1 hb2) hd hk).2.2 k y hy rfl
  · obtain ⟨d, hd, -, -, e2⟩ := back b d' hd'
    obtain ⟨x, hx, -, -, e4⟩ := back c e' he'
    rw [← e4]
    exact H.apart b ((hmem b).1 hb2) c ((hmem c).1 hc2) hne d x hd hx k (by rw [e2]; exact hk)
  · obtain ⟨d, hd, -⟩ := back b d' hd'
    exact H.cov.2.2.1 b d hd
  · obtain ⟨d, hd, -, -, e2⟩ := back b d' hd'
    exact H.cov.2.2.2 b ((hmem b).1 hb2) d hd k (by rw [e2]; exact hk)

/-- The ring and the map stand where the row of a list alone was written. -/
theorem Full.low_row {B bx bm be : Nat} {per most : Int} {L : List Nat} {σ : Ring} {f : List UInt8 → Option Nat} {R : List SRow} {Bs : Nat → Prop} {w w1 : World} (H : Full B bx bm be per most L σ f R Bs w) {l : Nat} (hl : l ∈ L) {d : Nd} (hd : σ l = some d) (hb : ButBy (fun k => d.v.ownBlock = some k) w w1) :
    Low bx bm be per most (lenS R : Nat) L σ f R.length w1 :=
  H.low.stay (hb.block bx H.low.x.lt (fun e => (H.off hl hd e).1 rfl)) (hb.block bm H.low.m.lt (fun e => (H.off hl hd e).2.1 rfl)) (fun b x hx => hb.block b (H.low.nds.lt hx) (fun e => (H.off hl hd e).2.2 b x hx rfl))

set_option maxRecDepth 100000 in
/-- A list gets other manifests. -/
theorem fu_keep (B bx bm be : Nat) (per most : Int) (L1 L2 : List Nat) (l : Nat) (d : Nd) (σ : Ring) (f : List UInt8 → Option Nat) (R1 R2 : List SRow) (h : List UInt8) (ms ms' : List Nat) (v' : Value) (Bs : Nat → Prop) (w w1 : World) (hB : B ≤ w.heap.size)
    (H : Full B bx bm be per most (L1 ++ l :: L2) σ f (R1 ++ (h, ms) :: R2) Bs w) (hl : L1.length = R1.length) (hd : σ l = some d) (hb : ButBy (fun k => d.v.ownBlock = some k) w w1) (ho : OwnU B ms' v' w1) (hv : v'.ownBlock = d.v.ownBlock ∨ ∃ k, v'.ownBlock = some k ∧ w.heap.size ≤ k)
    (h0 : 0 < ms'.length) (hle : ms'.length ≤ 1000000 ∧ lenS (R1 ++ (h, ms) :: R2) ≤ 1000000) :
    Calls Try.prog 36 #[.pointer (some ⟨bx, 0, none⟩), .pointer (some ⟨l, 0, none⟩), v'] w1 fun e w' =>
      e = .returned (.tuple #[]) ∧ ∃ σ', Full B bx bm be per most (L1 ++ l :: L2) σ' f (R1 ++ (h, ms') :: R2) (upBs Bs w w') w' ∧ ButBy Bs w w' := by
  obtain ⟨h1, h2, h3⟩ := rows_parts H.rows hl
  have hlL : l ∈ L1 ++ l :: L2 := List.mem_append_right _ (List.mem_cons_self ..)
  have hdh : d.h = h ∧ d.ms = ms := by
    unfold rwR at h2
    rw [hd] at h2
    simpa using h2
  obtain ⟨hd1, hd2⟩ := hdh
  have hS1 : lenS (R1 ++ (h, ms) :: R2) = lenS R1 + (ms.length + lenS R2) := lenS_append _ _
  have hS2 : lenS (R1 ++ (h, ms') :: R2) = lenS R1 + (ms'.length + lenS R2) := lenS_append _ _
  have hLow := H.low_row hlL hd hb
  obtain ⟨p, c, rfl⟩ := ho.slice
  have hov := (H.own l hlL d hd).slice
  refine (change_keep bx bm be per most _ (L1 ++ l :: L2) l d σ f _ ms' p c w1 hLow hd hov h0 ⟨by omega, by omega, hle.1, by rw [hd2]; omega⟩).mono ?_
  rintro e w' ⟨rfl, hlow, hb2⟩
  have hsz := hb.size
  have hsz2 := hb2.size
  have hnl : l ∉ L1 ++ L2 := fun x => (nodup_leave H.low.nod).2 (List.mem_cons_of_mem _ x)
  have hne : ∀ k ∈ L1, k ≠ l := fun k hk e => hnl (List.mem_append_left _ (e ▸ hk))
  have hne2 : ∀ k ∈ L2, k ≠ l := fun k hk e => hnl (List.mem_append_right _ (e ▸ hk))
  have hst : ∀ k, k ≠ l → stV σ l ms' (.slice p ms'.length c) k = σ k := fun k hk => updR_other hk
  have hsl : stV σ l ms' (.slice p ms'.length c) l = some { d with ms := ms', v := .slice p ms'.length c } := updR_same hd
  have hrw : ∀ k, k ≠ l → rwR (stV σ l ms' (.slice p ms'.length c)) k = rwR σ k := fun k hk => by unfold rwR; rw [hst k hk]
  have hfr : ∀ k, k < w1.heap.size → k ≠ bx → k ≠ l → w'.heap[k]? = w1.heap[k]? := fun k hk a b => hb2.block k hk (fun e => by rcases e with e | e; exact a e; exact b e)
  -- the rows of the others
  have hoth : ∀ b ∈ L1 ++ l :: L2, b ≠ l → ∀ x, σ b = some x → OwnU B x.ms x.v w' := fun b hbL hbl x hx => by
    have o1 := H.own b hbL x hx
    refine o1.stay (fun k hk => ?_)
    have hk1 := (o1.lt k hk).2
    have off := H.off hbL hx hk
    rw [hfr k (by omega) off.1 (off.2.2 l d hd)]
    exact hb.block k hk1 (fun e => H.apart b hbL l hlL hbl x d hx hd k hk e)
  refine ⟨rfl, stV σ l ms' (.slice p ms'.length c), ⟨?_, ?_, fun h' b => ?_, fun b hbL x hx => ?_, fun b hbL c' hcL hbc x y hx hy k hk => ?_, fun k hk => ?_, Or.inl H.cov.1, Or.inl H.cov.2.1, fun b x hx => ?_, fun b hbL x hx k hk => ?_⟩, ?_⟩
  · have e1 : ((lenS (R1 ++ (h, ms) :: R2) : Nat) : Int) + ((ms'.length : Int) - (d.ms.length : Int)) = ((lenS (R1 ++ (h, ms') :: R2) : Nat) : Int) := by rw [hd2]; omega
    have e2 : (R1 ++ (h, ms) :: R2).length = (R1 ++ (h, ms') :: R2).length := by simp
    rw [← e1, ← e2]; exact hlow
  · rw [List.map_append, List.map_append, List.map_cons, List.map_cons]
    have a1 : L1.map (rwR (stV σ l ms' (.slice p ms'.length c))) = L1.map (rwR σ) := List.map_congr_left (fun k hk => hrw k (hne k hk))
    have a2 : L2.map (rwR (stV σ l ms' (.slice p ms'.length c))) = L2.map (rwR σ) := List.map_congr_left (fun k hk => hrw k (hne2 k hk))
    have a3 : rwR (stV σ l ms' (.slice p ms'.length c)) l = some (h, ms') := by unfold rwR; rw [hsl]; simp [hd1]
    rw [a1, a2, a3, h1, h3]
  · rw [H.fm]
    have e : hkR (stV σ l ms' (.slice p ms'.length c)) b = hkR σ b := by
      by_cases hbl : b = l
      · subst hbl; unfold hkR; rw [hsl, hd]; rfl
      · unfold hkR; rw [hst b hbl]
    rw [e]
  · by_cases hbl : b = l
    · subst hbl
      rw [hsl] at hx
      rw [← Option.some.inj hx]
      refine ho.stay (fun k hk => ?_)
      have hk1 := (ho.lt k hk).2
      have hk2 : k ≠ bx ∧ k ≠ b := by
        rcases hv with e | ⟨j, e, hj⟩
        · rw [e] at hk
          have := H.off hlL hd hk
          exact ⟨this.1, this.2.2 b d hd⟩
        · rw [hk] at e
          have e2 := Option.some.inj e
          have a := H.low.x.lt
          have c2 := H.low.nds.lt hd
          exact ⟨by omega, by omega⟩
      exact hfr k hk1 hk2.1 hk2.2
    · rw [hst b hbl] at hx
      exact hoth b hbL hbl x hx
  · by_cases hbl : b = l
    · subst hbl
      rw [hsl] at hx
      rw [← Option.some.inj hx] at hk
      rw [hst c' (fun e => hbc e.symm)] at hy
      rcases hv with e | ⟨j, e, hj⟩
      · exact H.apart b hlL c' hcL hbc d y hd hy k (by rw [← e]; exact hk)
      · intro hk2
        have e2 : (Value.slice p ms'.length c).ownBlock = some k := hk
        rw [e] at e2
        have := ((H.own c' hcL y hy).lt k hk2).2
        have := Option.some.inj e2
        omega
    · rw [hst b hbl] at hx
      by_cases hcl : c' = l
      · subst hcl
        rw [hsl] at hy
        rw [← Option.some.inj hy]
        rcases hv with e | ⟨j, e, hj⟩
        · intro hk2
          have hk3 : d.v.ownBlock = some k := by rw [← e]; exact hk2
          exact H.apart b hbL c' hlL hbc x d hx hd k hk hk3
        · intro hk2
          have e2 : (Value.slice p ms'.length c).ownBlock = some k := hk2
          rw [e] at e2
          have := ((H.own b hbL x hx).lt k hk).2
          have := Option.some.inj e2
          omega
      · rw [hst c' hcl] at hy
        exact H.apart b hbL c' hcL hbc x y hx hy k hk
  · rcases hk with hk | ⟨hk1, hk2⟩
    · have := H.blk k hk
      exact ⟨this.1, by omega⟩
    · exact ⟨by omega, hk2⟩
  · by_cases hbl : b = l
    · subst hbl; exact Or.inl (H.cov.2.2.1 b d hd)
    · rw [hst b hbl] at hx; exact Or.inl (H.cov.2.2.1 b x hx)
  · by_cases hbl : b = l
    · subst hbl
      rw [hsl] at hx
      rw [← Option.some.inj hx] at hk
      have hk' : (Value.slice p ms'.length c).ownBlock = some k := hk
      rcases hv with e | ⟨j, e, hj⟩
      · exact Or.inl (H.cov.2.2.2 b hlL d hd k (by rw [← e]; exact hk'))
      · rw [e] at hk'
        have e2 := Option.some.inj hk'
        have := (ho.lt j e).2
        exact Or.inr ⟨by omega, by omega⟩
    · rw [hst b hbl] at hx
      exact Or.inl (H.cov.2.2.2 b hbL x hx k hk)
  · refine (hb.mono (fun k hk => H.cov.2.2.2 l hlL d hd k hk)).trans (hb2.mono (fun k hk => ?_))
    rcases hk with rfl | rfl
    · exact H.cov.1
    · exact H.cov.2.2.1 _ d hd

set_option maxRecDepth 100000 in
/-- A list goes. -/
theorem fu_drop (B bx bm be : Nat) (per most : Int) (L1 L2 : List Nat) (l : Nat) (d : Nd) (σ : Ring) (f : List UInt8 → Option Nat) (R1 R2 : List SRow) (h : List UInt8) (ms : List Nat) (p : Option Addr) (c : Nat) (Bs : Nat → Prop) (w w1 : World) (hB : B ≤ w.heap.size)
    (H : Full B bx bm be per most (L1 ++ l :: L2) σ f (R1 ++ (h, ms) :: R2) Bs w) (hl : L1.length = R1.length) (hd : σ l = some d) (hb : ButBy (fun k => d.v.ownBlock = some k) w w1) (hle : lenS (R1 ++ (h, ms) :: R2) ≤ 1000000) :
    Calls Try.prog 36 #[.pointer (some ⟨bx, 0, none⟩), .pointer (some ⟨l, 0, none⟩), .slice p 0 c] w1 fun e w' =>
      e = .returned (.tuple #[]) ∧ ∃ σ' f', Full B bx bm be per most (L1 ++ L2) σ' f' (R1 ++ R2) (upBs Bs w w') w' ∧ ButBy Bs w w' ∧ ∃ d', σ' l = some d' ∧ d'.n = L2.headD be := by
  obtain ⟨h1, h2, h3⟩ := rows_parts H.rows hl
  have hlL : l ∈ L1 ++ l :: L2 := List.mem_append_right _ (List.mem_cons_self ..)
  have hdh : d.h = h ∧ d.ms = ms := by
    unfold rwR at h2
    rw [hd] at h2
    simpa using h2
  obtain ⟨hd1, hd2⟩ := hdh
  have hS1 : lenS (R1 ++ (h, ms) :: R2) = lenS R1 + (ms.length + lenS R2) := lenS_append _ _
  have hS2 : lenS (R1 ++ R2) = lenS R1 + lenS R2 := lenS_append _ _
  have hLow := H.low_row hlL hd hb
  have hlen : (R1 ++ (h, ms) :: R2).length = (R1 ++ R2).length + 1 := by simp only [List.length_append, List.length_cons]; omega
  rw [hlen] at hLow
  have hfl := H.hk hlL hd
  have hov := (H.own l hlL d hd).slice
  refine (change_drop bx bm be per most _ L1 L2 l d σ f _ p c w1 hLow hd hov hfl ⟨by omega, by omega, by rw [hd2]; omega⟩).mono ?_
  rintro e w' ⟨rfl, σ', hlow, hcor, hdom, hnx, hb2⟩
  have hsz := hb.size
  have hsz2 := hb2.size
  have hnl : l ∉ L1 ++ L2 := fun x => (nodup_leave H.low.nod).2 (List.mem_cons_of_mem _ x)
  have hup : ∀ k ∈ L1 ++ L2, k ∈ L1 ++ l :: L2 ∧ k ≠ l := fun k hk => ⟨by
    rcases List.mem_append.1 hk with x | x
    · exact List.mem_append_left _ x
    · exact List.mem_append_right _ (List.mem_cons_of_mem _ x), fun e => hnl (e ▸ hk)⟩
  have back : ∀ k ∈ L1 ++ L2, ∀ d', σ' k = some d' → ∃ x, σ k = some x ∧ x.h = d'.h ∧ x.ms = d'.ms ∧ x.v = d'.v := fun k hk d' hd' => some_of_cor (hcor k (hup k hk).2).symm hd'
  have hin : ∀ k, (k = bx ∨ k = bm ∨ k ∈ be :: (L1 ++ l :: L2)) → Bs k := fun k hk => by
    rcases hk with rfl | rfl | hk
    · exact H.cov.1
    · exact H.cov.2.1
    · obtain ⟨x, hx⟩ := H.low.mem k hk
      exact H.cov.2.2.1 k x hx
  refine ⟨rfl, σ', delF f d.h, ⟨?_, ?_, fun h' b => ?_, fun b hbL x' hx' => ?_, fun b hbL c' hcL hbc x' y' hx' hy' k hk => ?_, fun k hk => ?_, Or.inl H.cov.1, Or.inl H.cov.2.1, fun b x' hx' => ?_, fun b hbL x' hx' k hk => ?_⟩, ?_, ?_⟩
  · have e1 : ((lenS (R1 ++ (h, ms) :: R2) : Nat) : Int) - (d.ms.length : Int) = ((lenS (R1 ++ R2) : Nat) : Int) := by rw [hd2]; omega
    rw [← e1]; exact hlow
  · have a1 : (L1 ++ L2).map (rwR σ') = (L1 ++ L2).map (rwR σ) := List.map_congr_left (fun k hk => (rw_cor (hcor k (hup k hk).2)).1)
    rw [a1, List.map_append, List.map_append, h1, h3]
  · unfold delF
    by_cases hh : h' = d.h
    · rw [if_pos hh]
      constructor
      · intro e; cases e
      · rintro ⟨hbL, hbh⟩
        rw [(rw_cor (hcor b (hup b hbL).2)).2, hh] at hbh
        have := (H.fm d.h b).2 ⟨(hup b hbL).1, hbh⟩
        rw [hfl] at this
        exact absurd (Option.some.inj this).symm (hup b hbL).2
    · rw [if_neg hh, H.fm]
      constructor
      · rintro ⟨hbL, hbh⟩
        have hbl : b ≠ l := fun e => hh (by
          subst e
          unfold hkR at hbh
          rw [hd] at hbh
          exact (Option.some.inj hbh).symm)
        refine ⟨?_, by rw [(rw_cor (hcor b hbl)).2]; exact hbh⟩
        rcases List.mem_append.1 hbL with x | x
        · exact List.mem_append_left _ x
        · rcases List.mem_cons.1 x with x | x
          · exact absurd x hbl
          · exact List.mem_append_right _ x
      · rintro ⟨hbL, hbh⟩
        exact ⟨(hup b hbL).1, by rw [← (rw_cor (hcor b (hup b hbL).2)).2]; exact hbh⟩
  · obtain ⟨x, hx, -, e1, e2⟩ := back b hbL x' hx'
    rw [← e1, ← e2]
    have o1 := H.own b (hup b hbL).1 x hx
    refine o1.stay (fun k hk => ?_)
    have hk1 := (o1.lt k hk).2
    have off := H.off (hup b hbL).1 hx hk
    rw [hb2.block k (by omega) (fun e => ?_)]
    · exact hb.block k hk1 (fun e => H.apart b (hup b hbL).1 l hlL (hup b hbL).2 x d hx hd k hk e)
    · rcases e with e | e | e
      · exact off.1 e
      · exact off.2.1 e
      · obtain ⟨y, hy⟩ := H.low.mem k e
        exact off.2.2 k y hy rfl
  · obtain ⟨x, hx, -, -, e2⟩ := back b hbL x' hx'
    obtain ⟨y, hy, -, -, e4⟩ := back c' hcL y' hy'
    rw [← e4]
    exact H.apart b (hup b hbL).1 c' (hup c' hcL).1 hbc x y hx hy k (by rw [e2]; exact hk)
  · rcases hk with hk | ⟨hk1, hk2⟩
    · have := H.blk k hk
      exact ⟨this.1, by omega⟩
    · exact ⟨by omega, hk2⟩
  · have hn := hdom b (by rw [hx']; simp)
    cases hs : σ b with
    | none => exact absurd hs hn
    | some x => exact Or.inl (H.cov.2.2.1 b x hs)
  · obtain ⟨x, hx, -, -, e2⟩ := back b hbL x' hx'
    exact Or.inl (H.cov.2.2.2 b (hup b hbL).1 x hx k (by rw [e2]; exact hk))
  · exact (hb.mono (fun k hk => H.cov.2.2.2 l hlL d hd k hk)).trans (hb2.mono hin)
  · obtain ⟨d', hd', e⟩ := Option.map_eq_some_iff.1 hnx
    exact ⟨d', hd', e⟩

end Go.Proofs.Ytaajadmaamjebaa
