/- The landed extent's Map in memory; made, refuses, Free, Room, Take. -/
import Derived.Test.YtkdodffnakdckaaEcN
import Derived.LaidEqlPtr
namespace Go.Proofs.Ytkdodffnakdckaa
open Go.RowKit

def mapA (g : Nat) (s : Mp) (v : Value) : Array Value := #[.pointer (some ⟨g, 0, none⟩), .int .i64 (s.fr : Int), .int .i64 (s.to_ : Int), v]
/-- The program's map: its struct in the block g, its free sectors as a plain list of its own. -/
structure EMap (B g : Nat) (s : Mp) (v : Value) (w : World) : Prop where
  base : B ≤ g
  row : w.heap[g]? = some (.cells (mapA g s v) 69 (0, 0))
  own : OwnRuns B (runsA (freeF s)) v w
def MBs (g : Nat) (v : Value) (k : Nat) : Prop := k = g ∨ v.ownBlock = some k

section
variable {B g : Nat} {s : Mp} {v : Value} {w : World} (h : EMap B g s v w)
include h
theorem EMap.stay {w' : World} (hk : ∀ k, MBs g v k → w'.heap[k]? = w.heap[k]?) : EMap B g s v w' :=
  ⟨h.base, by rw [hk g (Or.inl rfl)]; exact h.row, own_stay h.own (fun k e => hk k (Or.inr e))⟩
theorem EMap.lt : ∀ k, MBs g v k → B ≤ k ∧ k < w.heap.size := by
  intro k hk
  rcases hk with rfl | e
  · exact ⟨h.base, (Array.getElem?_eq_some_iff.1 h.row).1⟩
  · exact World.ownsRow.lt h.own k e
theorem EMap.kept {w' : World} (k : Kept w w') : EMap B g s v w' := h.stay (fun j hj => k.block j (h.lt j hj).2)
theorem EMap.cell (i : Nat) (x : Value) (hx : (mapA g s v)[i]? = some x) : w.cell? ⟨g, i, none⟩ = some x := by rw [cell_of_row _ _ _ _ _ _ h.row]; exact hx
theorem EMap.froz (i : Nat) : w.frozen? ⟨g, i, none⟩ = false := frozen_of_row _ _ _ _ _ h.row
theorem EMap.apart : v.ownBlock ≠ some g := fun e => by
  obtain ⟨cur, hc⟩ := own_typ h.own g e
  rw [h.row] at hc; simp at hc
/-- A new list of free sectors. -/
theorem EMap.turn {s' : Mp} {z : Value} {C : Nat} (hf : s'.fr = s.fr) (ht : s'.to_ = s.to_) (ho : OwnRuns C (runsA (freeF s')) z w) (hB : B ≤ C) (hg : g < C) : EMap B g s' z (w.setCell ⟨g, 3, none⟩ z) := by
  refine ⟨h.base, ?_, own_stay (OwnRuns.base ho hB) (fun k e => set_other _ _ _ _ _ (fun x => by have := (World.ownsRow.lt ho k e).1; omega))⟩
  have := heap_setCell_same w g 3 _ _ z h.row
  unfold mapA at this ⊢
  rw [hf, ht]
  simpa using this

set_option maxRecDepth 100000 in
set_option maxHeartbeats 1000000 in
theorem emade_any : Calls Try.prog 49 #[.pointer (some ⟨g, 0, none⟩)] w fun e w' => e = .returned (.bool true) ∧ w = w' := by
  have c0 : w.cell? ⟨g, 0, none⟩ = some (.pointer (some ⟨g, 0, none⟩)) := h.cell 0 _ rfl
  obtain ⟨ti, hti⟩ : ∃ ti, Try.prog.info? 69 = some ti := ⟨_, rfl⟩
  have heq := fun w' => run_eql_ptr_same (P := Try.prog) w' (⟨g, 0, none⟩ : Addr) Try.underlying35 hti
  clear h hti
  go_enter Try.func49, Try.ntmps49
  go_wp2
  go_ret
  exact ⟨rfl, rfl⟩

set_option maxRecDepth 100000 in
set_option maxHeartbeats 1000000 in
theorem erefuses_any (hs : s.ok) (l : List (Int × Int)) (lv : Value) (hl : RunsAt l lv w) (hl9 : l.length ≤ 1048576) :
    Calls Try.prog 50 #[.pointer (some ⟨g, 0, none⟩), lv] w fun e w' => e = .returned (.int .i64 (if validL s.fr s.to_ l then 0 else 1)) ∧ Kept w w' := by
  have M := emade_any h
  have c1 : w.cell? ⟨g, 1, none⟩ = some (.int .i64 (s.fr : Int)) := h.cell 1 _ rfl
  have c2 : w.cell? ⟨g, 2, none⟩ = some (.int .i64 (s.to_ : Int)) := h.cell 2 _ rfl
  have hs1 := hs.1
  have hs2 := hs.2
  have MY := fun W (k : Kept w W) => emay_any l lv W s.fr s.to_ (hl.later k) hl9 ⟨by omega, by omega⟩ ⟨by omega, by omega⟩
  obtain ⟨p, c, rfl, -, -⟩ := hl.out
  obtain ⟨n, hn⟩ : ∃ n, n = l.length := ⟨_, rfl⟩
  obtain ⟨fr, hfr⟩ : ∃ fr, fr = s.fr := ⟨_, rfl⟩
  obtain ⟨te, hte⟩ : ∃ te, te = s.to_ := ⟨_, rfl⟩
  rw [← hfr] at c1 MY ⊢
  rw [← hte] at c2 MY ⊢
  rw [← hn] at MY ⊢
  clear h hs hs1 hs2 hl hl9 hn hfr hte
  by_cases hv : validL fr te l
  · rw [if_pos hv]
    rw [decide_eq_true hv] at MY
    have HMY := Lib.hid MY
    clear hv MY
    go_enter Try.func50, Try.ntmps50
    go_wp2_with fail
    refine M.mono ?_
    rintro e w1 ⟨rfl, rfl⟩
    clear M
    go_wp2_with fail
    refine wp_region_kept (by kernel_rfl) (by kernel_rfl) ?_
    refine wpQuiet_pure (v := ?_) (by kernel_rfl) ?_ (fun K hK => ?_)
    case refine_2 => intro W _; go_simp; try with_reducible rfl
    go_simp
    refine hK _ ?_; clear hK K
    refine wpQuiet_pure (v := ?_) (by kernel_rfl) ?_ (fun K hK => ?_)
    case refine_2 => intro W _; go_simp; try with_reducible rfl
    go_simp
    refine hK _ ?_; clear hK K
    refine wpQuiet_pure (v := ?_) (by kernel_rfl) ?_ (fun K hK => ?_)
    case refine_2 => intro W _; go_simp; try with_reducible rfl
    go_simp
    refine hK _ ?_; clear hK K
    refine wpQuiet_pure (v := ?_) (by kernel_rfl) ?_ (fun K hK => ?_)
    case refine_2 => intro W _; go_simp; try with_reducible rfl
    go_simp
    refine hK _ ?_; clear hK K
    refine wpQuiet_pure (v := ?_) (by kernel_rfl) ?_ (fun K hK => ?_)
    case refine_2 => intro W hW; have e0 := hW.cell c1; go_simp; try with_reducible rfl
    go_simp
    refine hK _ ?_; clear hK K
    refine wpQuiet_pure (v := ?_) (by kernel_rfl) ?_ (fun K hK => ?_)
    case refine_2 => intro W _; go_simp; try with_reducible rfl
    go_simp
    refine hK _ ?_; clear hK K
    refine wpQuiet_pure (v := ?_) (by kernel_rfl) ?_ (fun K hK => ?_)
    case refine_2 => intro W _; go_simp; try with_reducible rfl
    go_simp
    refine hK _ ?_; clear hK K
    refine wpQuiet_pure (v := ?_) (by kernel_rfl) ?_ (fun K hK => ?_)
    case refine_2 => intro W _; go_simp; try with_reducible rfl
    go_simp
    refine hK _ ?_; clear hK K
    refine wpQuiet_pure (v := ?_) (by kernel_rfl) ?_ (fun K hK => ?_)
    case refine_2 => intro W hW; have e0 := hW.cell c2; go_simp; try with_reducible rfl
    go_simp
    refine hK _ ?_; clear hK K
    refine wpQuiet_call (by kernel_rfl) _ _ _ (fun W => by go_simp) (fun W h => Calls.kept_of h (HMY.out W h)) (fun K hK => ?_)
    go_simp
    refine hK _ ?_; clear hK K
    refine wpQuiet_pure (v := ?_) (by kernel_rfl) ?_ (fun K hK => ?_)
    case refine_2 => intro W _; go_simp; try with_reducible rfl
    go_simp
    refine hK _ ?_; clear hK K
    refine wpQuiet_nil ?_
    intro w3 hk3

    go_wp2
    go_ret
    exact ⟨rfl, hk3⟩
  · rw [if_neg hv]
    rw [decide_eq_false hv] at MY
    have HMY := Lib.hid MY
    clear hv MY
    go_enter Try.func50, Try.ntmps50
    go_wp2_with fail
    refine M.mono ?_
    rintro e w1 ⟨rfl, rfl⟩
    clear M
    go_wp2_with fail
    refine wp_region_kept (by kernel_rfl) (by kernel_rfl) ?_
    refine wpQuiet_pure (v := ?_) (by kernel_rfl) ?_ (fun K hK => ?_)
    case refine_2 => intro W _; go_simp; try with_reducible rfl
    go_simp
    refine hK _ ?_; clear hK K
    refine wpQuiet_pure (v := ?_) (by kernel_rfl) ?_ (fun K hK => ?_)
    case refine_2 => intro W _; go_simp; try with_reducible rfl
    go_simp
    refine hK _ ?_; clear hK K
    refine wpQuiet_pure (v := ?_) (by kernel_rfl) ?_ (fun K hK => ?_)
    case refine_2 => intro W _; go_simp; try with_reducible rfl
    go_simp
    refine hK _ ?_; clear hK K
    refine wpQuiet_pure (v := ?_) (by kernel_rfl) ?_ (fun K hK => ?_)
    case refine_2 => intro W _; go_simp; try with_reducible rfl
    go_simp
    refine hK _ ?_; clear hK K
    refine wpQuiet_pure (v := ?_) (by kernel_rfl) ?_ (fun K hK => ?_)
    case refine_2 => intro W hW; have e0 := hW.cell c1; go_simp; try with_reducible rfl
    go_simp
    refine hK _ ?_; clear hK K
    refine wpQuiet_pure (v := ?_) (by kernel_rfl) ?_ (fun K hK => ?_)
    case refine_2 => intro W _; go_simp; try with_reducible rfl
    go_simp
    refine hK _ ?_; clear hK K
    refine wpQuiet_pure (v := ?_) (by kernel_rfl) ?_ (fun K hK => ?_)
    case refine_2 => intro W _; go_simp; try with_reducible rfl
    go_simp
    refine hK _ ?_; clear hK K
    refine wpQuiet_pure (v := ?_) (by kernel_rfl) ?_ (fun K hK => ?_)
    case refine_2 => intro W _; go_simp; try with_reducible rfl
    go_simp
    refine hK _ ?_; clear hK K
    refine wpQuiet_pure (v := ?_) (by kernel_rfl) ?_ (fun K hK => ?_)
    case refine_2 => intro W hW; have e0 := hW.cell c2; go_simp; try with_reducible rfl
    go_simp
    refine hK _ ?_; clear hK K
    refine wpQuiet_call (by kernel_rfl) _ _ _ (fun W => by go_simp) (fun W h => Calls.kept_of h (HMY.out W h)) (fun K hK => ?_)
    go_simp
    refine hK _ ?_; clear hK K
    refine wpQuiet_pure (v := ?_) (by kernel_rfl) ?_ (fun K hK => ?_)
    case refine_2 => intro W _; go_simp; try with_reducible rfl
    go_simp
    refine hK _ ?_; clear hK K
    refine wpQuiet_nil ?_
    intro w3 hk3

    go_wp2
    go_ret
    exact ⟨rfl, hk3⟩

set_option maxRecDepth 100000 in
set_option maxHeartbeats 1000000 in
theorem efree_any : Calls Try.prog 35 #[.pointer (some ⟨g, 0, none⟩)] w fun e w' => ∃ y, e = .returned y ∧ OwnRuns w.heap.size (runsA (freeF s)) y w' ∧ Below w.heap.size w w' := by
  have M := emade_any h
  have c3 : w.cell? ⟨g, 3, none⟩ = some v := h.cell 3 _ rfl
  have CL := rclone_any v (runsA (freeF s)) (Nat.le_trans (runsA_len _) (by omega)) w (h.own.at_ (runsA_wf _))
  obtain ⟨p, c, hv, -, -⟩ := own_slice h.own
  subst hv
  obtain ⟨n, hn⟩ : ∃ n, n = (runsA (freeF s)).length := ⟨_, rfl⟩
  rw [← hn] at CL c3
  clear h hn
  go_enter Try.func35, Try.ntmps35
  go_wp2_with fail
  refine M.mono ?_
  rintro e w1 ⟨rfl, rfl⟩
  clear M
  go_wp2_with fail
  refine CL.mono ?_
  rintro e w2 ⟨y, rfl, ho, hb⟩
  have HO := Lib.hid ho
  have HB := Lib.hid hb
  clear CL ho hb
  go_wp2
  go_ret
  exact ⟨_, rfl, HO.out, HB.out⟩

set_option maxRecDepth 100000 in
set_option maxHeartbeats 1000000 in
theorem eroom_any : Calls Try.prog 37 #[.pointer (some ⟨g, 0, none⟩)] w fun e w' => e = .returned (.int .i64 (cntA (freeF s) : Nat)) ∧ Below w.heap.size w w' := by
  have F := efree_any h
  obtain ⟨ct, hct⟩ : ∃ ct, ct = cntA (freeF s) := ⟨_, rfl⟩
  rw [← hct]
  have HCT : Hid (cntA (hasR (runsA (freeF s))) = ct) := Lib.hid (by rw [cntA_again, hct])
  clear h hct
  go_enter Try.func37, Try.ntmps37
  go_wp2_with fail
  refine F.mono ?_
  rintro e w1 ⟨y, rfl, ho, hb⟩
  have CT := ecount_any _ y w1 (ho.at_ (runsA_wf _)) (Nat.le_trans (runsA_len _) (by omega))
  rw [HCT.out] at CT
  obtain ⟨p, c, hv, -, -⟩ := own_slice ho
  subst hv
  obtain ⟨n, hn⟩ : ∃ n, n = (runsA (freeF s)).length := ⟨_, rfl⟩
  rw [← hn] at CT ⊢
  have HB := Lib.hid hb
  clear F ho hb hn
  go_wp2_with fail
  refine CT.mono ?_
  rintro e w2 ⟨rfl, hb2⟩
  have HB2 : Hid (Kept w w2) := Lib.hid ((show Kept w w1 from HB.out).then hb2)
  clear CT hb2
  go_wp2
  go_ret
  exact ⟨rfl, HB2.out⟩

def TakePost (B g : Nat) (s : Mp) (v : Value) (w : World) (n : Int) (e : Ending) (w' : World) : Prop :=
  ∃ y z, e = .returned (.tuple #[y, .int .i64 (takeE s n)]) ∧ RunsAt (takeL s n) y w' ∧ Apart y (MBs g z) ∧ NewAt y w ∧ EMap B g (takeS s n) z w' ∧ (∀ k, MBs g z k → MBs g v k ∨ w.heap.size ≤ k) ∧ ButBy (MBs g v) w w'

set_option maxRecDepth 100000 in
set_option maxHeartbeats 4000000 in
theorem etake_any (n : Int) (hn : I64 n) : Calls Try.prog 30 #[.pointer (some ⟨g, 0, none⟩), .int .i64 n] w (TakePost B g s v w n) := by
  have M := emade_any h
  have c3 : w.cell? ⟨g, 3, none⟩ = some v := h.cell 3 _ rfl
  have hlt := (Array.getElem?_eq_some_iff.1 h.row).1
  have hB := h.base
  have LW : Calls Try.prog 26 #[v, .int .i64 n] w fun e w' => ∃ y, e = .returned (.tuple #[y, .int .i64 (takeE s n)]) ∧ OwnRuns w.heap.size (takeL s n) y w' ∧ Kept w w' := by
    refine (elowest_any (runsA (freeF s)) v w n (h.own.at_ (runsA_wf _)) (Nat.le_trans (runsA_len _) (by omega)) hn).mono ?_
    rintro e w' ⟨y, rfl, ho, hb⟩
    refine ⟨y, by unfold takeE; rw [lowE_congr (fun k hk => runsA_has (freeF s) k hk)], ?_, hb⟩
    unfold takeL
    rw [← lowL_congr (fun k hk => runsA_has (freeF s) k hk)]
    exact ho
  have MN : takeE s n = 0 → ∀ W (k : Kept w W) y C, OwnRuns C (takeL s n) y W → Calls Try.prog 21 #[v, y] W fun e w' => ∃ z, e = .returned z ∧ OwnRuns W.heap.size (runsA (freeF (takeS s n))) z w' ∧ Kept W w' := fun h0 W k y C hy => by
    have hll : (takeL s n).length ≤ 16 := lowL_len _ _
    have hm := eminus_any (runsA (freeF s)) (takeL s n) v y W ((h.own.at_ (runsA_wf _)).later k) (hy.at_ (lowL_wf _ _)) (Nat.le_trans (runsA_len _) (by omega)) (by omega)
    have he : runsA (fun k => hasR (runsA (freeF s)) k && !hasR (takeL s n) k) = runsA (freeF (takeS s n)) := runsA_congr fun k hk => by
      rw [runsA_has _ k hk, takeL_ok s n h0, runsA_has _ k hk]
      unfold takeS
      rw [if_pos h0]
      unfold freeF
      simp only [Bool.not_or, Bool.and_assoc]
    rw [he] at hm
    exact hm
  have HNS : Hid (¬ takeE s n = 0 → takeS s n = s ∧ takeL s n = []) := Lib.hid (fun h0 => ⟨by unfold takeS; rw [if_neg h0], by
    have h1 : ¬ lowE (freeF s) n = 0 := h0
    unfold takeL lowL; rw [if_neg h1]⟩)
  have HFT : Hid ((takeS s n).fr = s.fr ∧ (takeS s n).to_ = s.to_) := Lib.hid (by unfold takeS; split <;> exact ⟨rfl, rfl⟩)
  obtain ⟨p, c, hv, -, -⟩ := own_slice h.own
  have HV := Lib.hid hv
  obtain ⟨nf, hnf⟩ : ∃ nf, nf = (runsA (freeF s)).length := ⟨_, rfl⟩
  rw [← hnf] at hv HV
  have HH := Lib.hid h
  have HMN := Lib.hid MN
  have HLT := Lib.hid hlt
  have HBB := Lib.hid hB
  rw [hv] at c3 LW
  clear h hnf MN hlt hB hv
  unfold TakePost
  obtain ⟨er, her⟩ : ∃ er, er = takeE s n := ⟨_, rfl⟩
  rw [← her] at LW HMN HNS ⊢
  clear her
  go_enter Try.func30, Try.ntmps30
  go_wp2_with fail
  refine M.mono ?_
  rintro e w1 ⟨rfl, rfl⟩
  clear M
  go_wp2_with fail
  refine LW.mono ?_
  rintro e w2 ⟨y, rfl, hy, hb2⟩
  have HK2 := Lib.hid hb2
  have HY := Lib.hid hy
  have h2 := HH.out.kept hb2
  have c3' := h2.cell 3 _ rfl
  rw [HV.out] at c3'
  obtain ⟨py, cy, hye, -, -⟩ := own_slice hy
  obtain ⟨ly, hly⟩ : ∃ ly, ly = (takeL s n).length := ⟨_, rfl⟩
  rw [← hly] at hye
  subst hye
  have HH2 := Lib.hid h2
  have hfz := h2.froz 3
  clear LW hb2 hy h2 hly
  by_cases he : er = 0
  · have MN2 := HMN.out he w2 HK2.out _ _ HY.out
    rw [HV.out] at MN2
    subst he
    clear HMN HNS c3 hfz
    go_wp2_with fail
    refine MN2.mono ?_
    rintro e w3 ⟨z, rfl, hz, hb3⟩
    have h3 := HH2.out.kept hb3
    have c4 := h3.cell 3 _ rfl
    have f4 := h3.froz 3
    rw [HV.out] at c4
    have HE : Hid (EMap B g (takeS s n) z (w3.setCell ⟨g, 3, none⟩ z)) := Lib.hid (h3.turn HFT.out.1 HFT.out.2 hz (by have := HBB.out; have := HLT.out; have := HK2.out.size; omega) (by have := HLT.out; have := HK2.out.size; omega))
    have HK3 : Hid (Kept w w3) := Lib.hid (HK2.out.then hb3)
    have HY3 : Hid (RunsAt (takeL s n) (.slice py ly cy) (w3.setCell ⟨g, 3, none⟩ z)) := Lib.hid (OwnRuns.at_ (B := w.heap.size) (own_stay HY.out (fun j hj => (set_other _ _ _ _ _ (fun x => by have := (World.ownsRow.lt HY.out j hj).1; have := HLT.out; omega)).trans (hb3.block j (World.ownsRow.lt HY.out j hj).2))) (lowL_wf _ _))
    have HZ := Lib.hid hz
    obtain ⟨pz, cz, hze, -, -⟩ := own_slice hz
    obtain ⟨lz, hlz⟩ : ∃ lz, lz = (runsA (freeF (takeS s n))).length := ⟨_, rfl⟩
    rw [← hlz] at hze
    subst hze
    clear MN2 hz hb3 h3 c3' hlz
    go_wp2
    go_ret2
    refine ⟨_, _, rfl, HY3.out, ?_, ?_, HE.out, ?_, ?_⟩
    · intro a n' c' e' hn' hk
      simp only [Value.slice.injEq] at e'
      obtain ⟨rfl, rfl, rfl⟩ := e'
      have hy1 := World.ownsRow.lt HY.out a.block rfl
      rcases hk with hk | hk
      · have := HLT.out; omega
      · have := (World.ownsRow.lt HZ.out _ hk).1; omega
    · intro a n' c' e' hn'
      simp only [Value.slice.injEq] at e'
      obtain ⟨rfl, rfl, rfl⟩ := e'
      exact (World.ownsRow.lt HY.out a.block rfl).1
    · intro k hk
      rcases hk with hk | hk
      · exact Or.inl (Or.inl hk)
      · exact Or.inr (Nat.le_trans HK2.out.size (World.ownsRow.lt HZ.out k hk).1)
    · exact ButBy.setCell (ButBy.below HK3.out) g 3 _ (Or.inl rfl)
  · have be : (er != 0) = true := bne_iff_ne.2 he
    have HS := Lib.hid (HNS.out he)
    have HE : Hid (EMap B g (takeS s n) v w2) := Lib.hid (by rw [HS.out.1]; exact HH2.out)
    clear he HMN c3 c3' hfz
    go_wp2
    go_ret2
    refine ⟨_, v, rfl, by rw [HS.out.2]; exact RunsAt.nil _ _, fun a n' c' e' => by simp at e', fun a n' c' e' => by simp at e', HE.out, fun k hk => Or.inl hk, ButBy.below HK2.out⟩
end

end Go.Proofs.Ytkdodffnakdckaa
