/- The landed extent's Join, Minus; slices.Grow, slices.Concat. -/
import Derived.Test.YtkdodffnakdckaaEcC
import Derived.Lib.AppendZerosOnto
namespace Go.Proofs.Ytkdodffnakdckaa
open Go.RowKit

set_option maxRecDepth 100000 in
set_option maxHeartbeats 4000000 in
/-- slices.Grow of nothing. -/
theorem grow_any (n : Nat) (hn : n ≤ 2097152) (w : World) :
    Calls Try.prog 57 #[.slice none 0 0, .int .i64 n] w fun e w' => ∃ v, e = .returned v ∧ w'.ownsRow w.heap.size 57 2 v 0 [] ∧ Below w.heap.size w w' := by
  obtain ⟨ir, hir, hx⟩ := Option.map_eq_some_iff.1 infoRun
  simp only [Prod.mk.injEq] at hx
  obtain ⟨hz0, hz1, hz2⟩ := hx
  have HIR := Lib.hid hir
  have HZ0 := Lib.hid hz0
  have HZ1 := Lib.hid hz1
  have HZ2 := Lib.hid hz2
  have HFI : Hid ((Try.prog.info? 57).map (·.size) = some 2) := Lib.hid (by rw [hir]; simp [hz1])
  clear hir hz0 hz1 hz2
  by_cases h0 : n = 0
  · subst h0
    go_enter Try.func57, Try.ntmps57
    go_wp2
    go_ret
    exact ⟨_, rfl, World.ownsRow_nil _ _ _ _, Below.refl _ _⟩
  · have h1 : ¬ ((n : Int) < 0) := by omega
    have h2 : (n : Int) > 0 := by omega
    have v1 : IntKind.i64.wrap (n : Int) = n := IntWalk.i64_in _ (by omega)
    have v2 : wrap64 (n : Int) = n := IntWalk.wrap64_in _ (by omega)
    have hz1 := HZ1.out
    have hz2 := HZ2.out
    have hrz : ∀ ty, (Builtin.append_ #[22, 3] ty #[.slice none 0 0, .int .i64 (n : Int)]).run Try.prog w =
        .ok (.slice (some ⟨w.heap.size, 0, none⟩) n (grownCap w n 0 57)) (w.drew.alloc (.cells ((#[] : Array Value) ++ Builtin.zeroCells (Value.agg #[.int .i64 0, .int .i64 0]).cells n ++ Builtin.zeroCells (Value.agg #[.int .i64 0, .int .i64 0]).cells (grownCap w n 0 57 - n)) 57)) := fun ty => by
      have h := Lib.run_append_grow_zeros (P := Try.prog) w 22 3 ty 57 ir (.agg #[.int .i64 0, .int .i64 0]) .i64 .i64 Try.underlying22 Try.underlying3 HIR.out HZ0.out none 0 0 [] (by rw [hz1]; exact run_firstCells_none _ _ _ _ _) n (by omega) (by omega) (by omega) (by omega) (by rw [hz2]; omega) (growslice_fits (by omega) (by rw [hz2]; omega))
      rw [Nat.zero_add] at h
      exact h
    have hG1 := grownCap_ge w n 0 57
    have hG2 := grownCap_le_maxLen w n 0 57 (by unfold maxLen; omega)
    obtain ⟨G, hG⟩ : ∃ G, G = grownCap w n 0 57 := ⟨_, rfl⟩
    rw [← hG] at hrz hG1 hG2
    obtain ⟨Z, hZ⟩ : ∃ Z, Z = (#[] : Array Value) ++ Builtin.zeroCells (Value.agg #[.int .i64 0, .int .i64 0]).cells n ++ Builtin.zeroCells (Value.agg #[.int .i64 0, .int .i64 0]).cells (G - n) := ⟨_, rfl⟩
    rw [← hZ] at hrz
    have hZs : Z.size = G * 2 := by
      have e : (Value.agg #[.int .i64 0, .int .i64 0]).cells.size = 2 := rfl
      rw [hZ, Array.size_append, Array.size_append, size_zeroCells, size_zeroCells, e]
      simp; omega
    have HZS := Lib.hid hZs
    have HG2 := Lib.hid hG2
    have HRZ := Lib.hid hrz
    have HB : Hid (Below w.heap.size w (w.drew.alloc (.cells Z 57))) := Lib.hid ((Below.drew (Below.refl _ w)).alloc (Nat.le_refl _) _)
    have i1 : (0 : Int) ≤ G := by omega
    clear hrz hZ hG hZs hG2 hz1 hz2 h0
    go_enter Try.func57, Try.ntmps57
    go_wp2_with (at_builtin; refine Lib.wpList_append_run _ rfl _ _ _ _ rfl _ _ rfl rfl _ _ (HRZ.out _) ?_)
    go_ret
    exact ⟨_, rfl, ⟨rfl, Or.inr ⟨w.heap.size, G, Z, rfl, Nat.le_refl _, heap_alloc_last w.drew _, Nat.zero_le _, HG2.out, HZS.out, rfl⟩⟩, HB.out⟩

def fstL (la lb : List (Int × Int)) : Nat → List (Int × Int)
  | 0 => []
  | 1 => la
  | _ => la ++ lb

set_option maxRecDepth 100000 in
set_option maxHeartbeats 4000000 in
/-- slices.Concat of two slices of runs. -/
theorem concat_any (la lb : List (Int × Int)) (pa pb : Option Addr) (na nb ca cb : Nat) (b : Nat) (w : World) (hna : na = la.length) (hnb : nb = lb.length) (ha : RunsAt la (.slice pa na ca) w) (hb : RunsAt lb (.slice pb nb cb) w)
    (hl : na + nb ≤ 2097152) (h0 : w.cell? ⟨b, 0, none⟩ = some (.slice pa na ca)) (h1 : w.cell? ⟨b, 1, none⟩ = some (.slice pb nb cb)) :
    Calls Try.prog 47 #[.slice (some ⟨b, 0, none⟩) 2 2] w fun e w' => ∃ v, e = .returned v ∧ OwnRuns w.heap.size (la ++ lb) v w' ∧ Below w.heap.size w w' := by
  obtain ⟨ir, hir, hx⟩ := Option.map_eq_some_iff.1 infoRun
  simp only [Prod.mk.injEq] at hx
  obtain ⟨hz0, hz1, hz2⟩ := hx
  have HIR := Lib.hid hir
  have HZ0 := Lib.hid hz0
  have HZ1 := Lib.hid hz1
  have HZ2 := Lib.hid hz2
  have HFI : Hid ((Try.prog.info? 57).map (·.size) = some 2) := Lib.hid (by rw [hir]; simp [hz1])
  clear hir hz0 hz1 hz2
  have HA := Lib.hid ha.at_
  have HB := Lib.hid hb.at_
  have HNA := Lib.hid hna
  have HNB := Lib.hid hnb
  have H0 := Lib.hid h0
  have H1 := Lib.hid h1
  obtain ⟨m, hm⟩ : ∃ m, m = na + nb := ⟨_, rfl⟩
  have hmi : (na : Int) + (nb : Int) = (m : Int) := by omega
  have v1 : IntKind.i64.wrap (na : Int) = na := IntWalk.i64_in _ (by omega)
  have v2 : IntKind.i64.wrap (m : Int) = m := IntWalk.i64_in _ (by omega)
  have v3 : IntKind.i64.wrap ((na : Int) + (nb : Int)) = m := by rw [hmi]; exact v2
  have p1 : ¬ ((na : Int) < 0) := by omega
  have p2 : ¬ ((m : Int) < 0) := by omega
  have HM := Lib.hid hm
  have GR := fun W => grow_any m (by omega) W
  clear ha hb hna hnb hm hmi
  go_enter Try.func47, Try.ntmps47
  go_wp2
  go_loopg [3, 11] 2 (fun gh s3 s11 wx => ∃ (i sz : Nat), i + gh = 2 ∧ s11 = .int .i64 i ∧ s3 = .int .i64 sz ∧ Hid ((i = 0 ∧ sz = 0) ∨ (i = 1 ∧ sz = na) ∨ (i = 2 ∧ sz = m)) ∧ w = wx)
  case atStart => exact ⟨0, 0, by omega, rfl, rfl, Lib.hid (Or.inl ⟨rfl, rfl⟩), rfl⟩
  case round =>
    obtain ⟨i, sz, hi, rfl, rfl, HI, rfl⟩ := hrel
    rcases HI.out with ⟨rfl, rfl⟩ | ⟨rfl, rfl⟩ | ⟨rfl, rfl⟩
    · clear HI
      go_wp2
      go_roundg 1
      case measure => omega
      case rel => exact ⟨1, na, by omega, by first | rfl | (congr 1; omega), by first | rfl | (congr 1; omega), Lib.hid (Or.inr (Or.inl ⟨rfl, rfl⟩)), rfl⟩
    · clear HI
      go_wp2
      go_roundg 0
      case measure => omega
      case rel => exact ⟨2, m, by omega, by first | rfl | (congr 1; omega), by first | rfl | (congr 1; omega), Lib.hid (Or.inr (Or.inr ⟨rfl, rfl⟩)), rfl⟩
    · clear HI
      go_wp2_with fail
      refine (GR w).mono ?_
      rintro e w1 ⟨x, rfl, ho1, hb1⟩
      have HK1 := Lib.hid hb1
      have O0 : Hid (w1.ownsRow w.heap.size 57 2 x (fstL la lb 0).length (runC (fstL la lb 0))) := Lib.hid ho1
      have K0 : Hid (Kept w w1) := Lib.hid hb1
      obtain ⟨px, cx, rfl, -, -⟩ := own_slice ho1
      clear GR ho1 hb1
      go_wp2
      go_loopg [6, 27] 2 (fun gh s6 s27 wx => ∃ (i : Nat), i + gh = 2 ∧ s27 = .int .i64 i ∧ Hid (wx.ownsRow w.heap.size 57 2 s6 (fstL la lb i).length (runC (fstL la lb i))) ∧ Hid (Kept w wx))
      case atStart => exact ⟨0, by omega, rfl, O0, K0⟩
      case round =>
        clear O0 K0
        obtain ⟨i, hi, rfl, HO, HK⟩ := hrel
        obtain ⟨pv, cv, hv, hcv, -⟩ := own_slice HO.out
        subst hv
        match i, HO, hi, hcv with
        | 0, HO, hi, hcv =>
          have c0 := HK.out.cell H0.out
          have ho := HO.out
          have HHA : Hid (FlatAt 2 na (runC la) (.slice pa na ca) wr) := Lib.hid (by have h := HA.out.later HK.out; rw [← HNA.out] at h; exact h)
          have HKS : Hid (w.heap.size ≤ wr.heap.size) := Lib.hid HK.out.size
          have HEND : Hid (∀ v2 wz, wz.ownsRow w.heap.size 57 2 v2 na (runC [] ++ runC la) → wr.grownBy wz (Value.slice pv 0 cv).ownBlock → Hid (wz.ownsRow w.heap.size 57 2 v2 (fstL la lb 1).length (runC (fstL la lb 1))) ∧ Hid (Kept w wz)) := Lib.hid (fun v2 wz h1 h2 => ⟨Lib.hid (by
              have h1' : wz.ownsRow w.heap.size 57 2 v2 na (runC la) := by simpa [runC] using h1
              show wz.ownsRow _ _ _ _ la.length (runC la)
              rw [← HNA.out]; exact h1'), Lib.hid (Below.grown HK.out h2 HKS.out (fun j hj => (ho.lt j hj).1))⟩)
          have HOA : Hid (wr.ownsRow w.heap.size 57 2 (.slice pv 0 cv) 0 (runC [])) := Lib.hid ho
          simp only [fstL, List.length_nil]
          clear ho HO
          go_wp2_with (at_builtin; refine wpList_append_flat rfl _ _ 22 rfl w.heap.size 57 ir (.agg #[.int .i64 0, .int .i64 0]) 2 16 Try.underlying22 HIR.out HZ0.out HZ1.out HZ2.out rfl (by decide) _ 0 _ rfl HOA.out _ na _ rfl HHA.out ?wa1 ?wa2 ?wa3 ?_)
          case wa1 => unfold maxLen; omega
          case wa2 => omega
          try case wa3 => exact HKS.out
          intro v2 w5 hown2 hgr2 _
          obtain ⟨HO5, HK5⟩ := HEND.out v2 w5 hown2 hgr2
          clear hown2 hgr2 HEND
          go_wp2
          go_roundg 1
          case measure => omega
          case rel => exact ⟨1, by omega, by first | rfl | (congr 1; omega), HO5, HK5⟩
        | 1, HO, hi, hcv =>
          have c0 := HK.out.cell H1.out
          have ho : wr.ownsRow w.heap.size 57 2 (.slice pv la.length cv) la.length (runC la) := HO.out
          rw [← HNA.out] at ho
          have HHB : Hid (FlatAt 2 nb (runC lb) (.slice pb nb cb) wr) := Lib.hid (by have h := HB.out.later HK.out; rw [← HNB.out] at h; exact h)
          have HKS : Hid (w.heap.size ≤ wr.heap.size) := Lib.hid HK.out.size
          have HEND : Hid (∀ v2 wz, wz.ownsRow w.heap.size 57 2 v2 (na + nb) (runC la ++ runC lb) → wr.grownBy wz (Value.slice pv na cv).ownBlock → Hid (wz.ownsRow w.heap.size 57 2 v2 (fstL la lb 2).length (runC (fstL la lb 2))) ∧ Hid (Kept w wz)) := Lib.hid (fun v2 wz h1 h2 => ⟨Lib.hid (by
              show wz.ownsRow _ _ _ _ (la ++ lb).length (runC (la ++ lb))
              rw [List.length_append, runC_append, ← HNA.out, ← HNB.out]; exact h1), Lib.hid (Below.grown HK.out h2 HKS.out (fun j hj => (ho.lt j hj).1))⟩)
          have HOA : Hid (wr.ownsRow w.heap.size 57 2 (.slice pv na cv) na (runC la)) := Lib.hid ho
          have ev : Value.slice pv (fstL la lb 1).length cv = .slice pv na cv := by rw [HNA.out]; rfl
          rw [ev]
          clear ho HO ev
          go_wp2_with (at_builtin; refine wpList_append_flat rfl _ _ 22 rfl w.heap.size 57 ir (.agg #[.int .i64 0, .int .i64 0]) 2 16 Try.underlying22 HIR.out HZ0.out HZ1.out HZ2.out rfl (by decide) _ na _ rfl HOA.out _ nb _ rfl HHB.out ?wb1 ?wb2 ?wb3 ?_)
          case wb1 => unfold maxLen; omega
          case wb2 => omega
          try case wb3 => exact HKS.out
          intro v2 w5 hown2 hgr2 _
          obtain ⟨HO5, HK5⟩ := HEND.out v2 w5 hown2 hgr2
          clear hown2 hgr2 HEND
          go_wp2
          go_roundg 0
          case measure => omega
          case rel => exact ⟨2, by omega, by first | rfl | (congr 1; omega), HO5, HK5⟩
        | i + 2, HO, hi, hcv =>
          obtain rfl : i = 0 := by omega
          have HE : Hid (OwnRuns w.heap.size (la ++ lb) (.slice pv (fstL la lb (0 + 2)).length cv) wr) := Lib.hid HO.out
          obtain ⟨nz, hnz⟩ : ∃ nz, nz = (fstL la lb (0 + 2)).length := ⟨_, rfl⟩
          rw [← hnz] at HE ⊢
          clear hnz
          go_wp2
          go_ret
          exact ⟨_, rfl, HE.out, HK.out⟩

set_option maxRecDepth 100000 in
set_option maxHeartbeats 4000000 in
theorem ejoin_any (la lb : List (Int × Int)) (u v : Value) (w : World) (ha : RunsAt la u w) (hb : RunsAt lb v w) (hla : la.length ≤ 524288) (hlb : lb.length ≤ 524288) :
    Calls Try.prog 20 #[u, v] w fun e w' => ∃ x, e = .returned x ∧ OwnRuns w.heap.size (runsA (fun k => hasR la k || hasR lb k)) x w' ∧ Below w.heap.size w w' := by
  obtain ⟨pa, ca, hua, -, -⟩ := ha.out
  obtain ⟨pb, cb, hub, -, -⟩ := hb.out
  obtain ⟨na, hna⟩ : ∃ na, na = la.length := ⟨_, rfl⟩
  obtain ⟨nb, hnb⟩ : ∃ nb, nb = lb.length := ⟨_, rfl⟩
  rw [← hna] at hua
  rw [← hnb] at hub
  subst hua hub
  have HF : Hid (runsA (hasR (la ++ lb)) = runsA (fun k => hasR la k || hasR lb k)) := Lib.hid (runsA_congr (fun k _ => hasR_append la lb k))
  have K1 := box_below w (.cells #[.slice pa na ca, .slice pb nb cb] 22)
  have hr := heap_alloc_last w (.cells #[.slice pa na ca, .slice pb nb cb] 22)
  have CC := concat_any la lb pa pb na nb ca cb w.heap.size _ hna hnb (ha.later K1) (hb.later K1) (by omega) (by rw [cell_of_row _ _ _ _ _ _ hr]; rfl) (by rw [cell_of_row _ _ _ _ _ _ hr]; rfl)
  have HWF : Hid (wfR (la ++ lb)) := Lib.hid (wfR_append ha.wf hb.wf)
  have HLL : Hid ((la ++ lb).length ≤ 1048576) := Lib.hid (by rw [List.length_append]; omega)
  have HK1 := Lib.hid K1
  clear ha hb hna hnb hla hlb hr K1
  go_enter Try.func20, Try.ntmps20
  go_wp2_with fail
  refine CC.mono ?_
  rintro e w1 ⟨x, rfl, ho1, hb1⟩
  have PL := eplain_any (la ++ lb) x w1 (ho1.at_ HWF.out) HLL.out
  rw [HF.out] at PL
  obtain ⟨px, cx, rfl, -, -⟩ := own_slice ho1
  have HK2 : Hid (Kept w w1) := Lib.hid ((show Kept w _ from HK1.out).then hb1)
  obtain ⟨nz, hnz⟩ : ∃ nz, nz = (la ++ lb).length := ⟨_, rfl⟩
  rw [← hnz] at PL ⊢
  clear CC ho1 hb1 hnz
  go_wp2_with fail
  refine PL.mono ?_
  rintro e w2 ⟨y, rfl, ho2, hb2⟩
  have HO2 := Lib.hid (OwnRuns.base ho2 HK2.out.size)
  have HK3 : Hid (Kept w w2) := Lib.hid (HK2.out.then hb2)
  clear PL ho2 hb2
  go_wp2
  go_ret
  exact ⟨_, rfl, HO2.out, HK3.out⟩

set_option maxRecDepth 100000 in
set_option maxHeartbeats 4000000 in
theorem eminus_any (la lb : List (Int × Int)) (u v : Value) (w : World) (ha : RunsAt la u w) (hb : RunsAt lb v w) (hla : la.length ≤ 1048576) (hlb : lb.length ≤ 1048576) :
    Calls Try.prog 21 #[u, v] w fun e w' => ∃ x, e = .returned x ∧ OwnRuns w.heap.size (runsA (fun k => hasR la k && !hasR lb k)) x w' ∧ Below w.heap.size w w' := by
  have RE := erest_any lb v w hb hlb
  have CM := fun W (k : Kept w W) x (h : RunsAt (runsA (fun k => !hasR lb k)) x W) => ecommon_any la (runsA (fun k => !hasR lb k)) u x W (ha.later k) h hla (Nat.le_trans (runsA_len _) (by omega))
  have HE : Hid (runsA (fun k => hasR la k && hasR (runsA (fun k => !hasR lb k)) k) = runsA (fun k => hasR la k && !hasR lb k)) := Lib.hid (runsA_congr fun k hk => by rw [runsA_has _ k hk])
  rw [HE.out] at CM
  obtain ⟨pa, ca, rfl, -, -⟩ := ha.out
  obtain ⟨pb, cb, rfl, -, -⟩ := hb.out
  obtain ⟨n, hn⟩ : ∃ n, n = la.length := ⟨_, rfl⟩
  obtain ⟨m, hm⟩ : ∃ m, m = lb.length := ⟨_, rfl⟩
  rw [← hn] at CM ⊢
  rw [← hm] at RE ⊢
  have HCM := Lib.hid CM
  clear ha hb hla hlb hn hm CM
  go_enter Try.func21, Try.ntmps21
  go_wp2_with fail
  refine RE.mono ?_
  rintro e w1 ⟨x, rfl, ho1, hb1⟩
  have CM := HCM.out w1 hb1 x (ho1.at_ (runsA_wf _))
  obtain ⟨px, cx, rfl, -, -⟩ := own_slice ho1
  have HK1 : Hid (Kept w w1) := Lib.hid hb1
  obtain ⟨nz, hnz⟩ : ∃ nz, nz = (runsA (fun k => !hasR lb k)).length := ⟨_, rfl⟩
  rw [← hnz] at CM ⊢
  clear RE ho1 hb1 hnz HCM
  go_wp2_with fail
  refine CM.mono ?_
  rintro e w2 ⟨y, rfl, ho2, hb2⟩
  have HO2 := Lib.hid (OwnRuns.base ho2 HK1.out.size)
  have HK3 : Hid (Kept w w2) := Lib.hid (HK1.out.then hb2)
  clear CM ho2 hb2
  go_wp2
  go_ret
  exact ⟨_, rfl, HO2.out, HK3.out⟩

end Go.Proofs.Ytkdodffnakdckaa
