/- The landed extent's rest, Minus. -/
import Derived.Test.YtkdodffnakdckaaEcP
namespace Go.Proofs.Ytkdodffnakdckaa
open Go.RowKit

/-- The gaps of a plain list, and the last one behind them. -/
def RInv (P : List (Int × Int)) (i : Nat) (a : Int) (G : List (Int × Int)) : Prop := (i ≤ P.length ∧ GInv P i a G) ∨ (i = P.length + 1 ∧ G = runsA (fun k => !hasR P k))
theorem RInv.step {P G : List (Int × Int)} {i : Nat} {a x y : Int} (hP : PlainL P) (h : RInv P i a G) (hi : i < (P ++ [((8192 : Int), (0 : Int))]).length) (hr : (P ++ [((8192 : Int), (0 : Int))])[i] = (x, y)) :
    (a < x → RInv P (i + 1) (x + y) (G ++ [(a, x - a)])) ∧ (¬ a < x → RInv P (i + 1) (x + y) G) ∧ 0 ≤ x ∧ 0 ≤ y ∧ x + y ≤ 8192 := by
  have hi2 : i < P.length + 1 := by simpa using hi
  rcases h with ⟨hle, hG⟩ | ⟨he, _⟩
  · by_cases hlt : i < P.length
    · rw [List.getElem_append_left hlt] at hr
      have hn := hG.next hP hlt
      rw [hr] at hn
      have hb := hP.nat _ (List.getElem_mem hlt)
      rw [hr] at hb
      simp only at hb
      exact ⟨fun h1 => Or.inl ⟨by omega, hn.1 h1⟩, fun h1 => Or.inl ⟨by omega, hn.2 h1⟩, by omega, by omega, by omega⟩
    · have hie : i = P.length := by omega
      subst hie
      rw [List.getElem_append_right (Nat.le_refl _)] at hr
      simp only [Nat.sub_self, List.getElem_cons_zero, Prod.mk.injEq] at hr
      obtain ⟨rfl, rfl⟩ := hr
      have hl := hG.last
      exact ⟨fun h1 => Or.inr ⟨rfl, hl.1 h1⟩, fun h1 => Or.inr ⟨rfl, hl.2 h1⟩, by omega, by omega, by omega⟩
  · omega
theorem RInv.len {P G : List (Int × Int)} {i : Nat} {a : Int} (h : RInv P i a G) : G.length ≤ 8192 := by
  rcases h with ⟨_, hG⟩ | ⟨_, hG⟩
  · rw [plain_runsA hG.pl fun _ _ => rfl]; exact runsA_len _
  · rw [hG]; exact runsA_len _

set_option maxRecDepth 100000 in
set_option maxHeartbeats 8000000 in
theorem erest_any (l : List (Int × Int)) (v : Value) (w : World) (h : RunsAt l v w) (hl : l.length ≤ 1048576) :
    Calls Try.prog 48 #[v] w fun e w' => ∃ u, e = .returned u ∧ OwnRuns w.heap.size (runsA (fun k => !hasR l k)) u w' ∧ Below w.heap.size w w' := by
  obtain ⟨ir, hir, hx⟩ := Option.map_eq_some_iff.1 infoRun
  simp only [Prod.mk.injEq] at hx
  obtain ⟨hz0, hz1, hz2⟩ := hx
  have HIR := Lib.hid hir
  have HZ0 := Lib.hid hz0
  have HZ1 := Lib.hid hz1
  have HZ2 := Lib.hid hz2
  have HFI : Hid ((Try.prog.info? 57).map (·.size) = some 2) := Lib.hid (by rw [hir]; simp [hz1])
  clear hir hz0 hz1 hz2
  have PL := eplain_any l v w h hl
  obtain ⟨p, c, rfl, -, -⟩ := h.out
  obtain ⟨nl, hnl⟩ : ∃ nl, nl = l.length := ⟨_, rfl⟩
  rw [← hnl] at PL ⊢
  have HPP : Hid (PlainL (runsA (hasR l))) := Lib.hid (runsA_plain _)
  have HPE : Hid (runsA (fun k => !hasR (runsA (hasR l)) k) = runsA (fun k => !hasR l k)) := Lib.hid (runsA_congr fun k hk => by rw [runsA_has _ k hk])
  have HPL8 := runsA_len (hasR l)
  obtain ⟨P, hP⟩ : ∃ P, P = runsA (hasR l) := ⟨_, rfl⟩
  rw [← hP] at PL HPP HPE HPL8
  clear h hl hnl hP
  go_enter Try.func48, Try.ntmps48
  go_wp2_with fail
  refine PL.mono ?_
  rintro e w1 ⟨u, rfl, ho, hb1⟩
  obtain ⟨pu, cu, rfl, hcu, -⟩ := own_slice ho
  have ho4 : w1.ownsRow w.heap.size 57 2 (.slice pu P.length cu) P.length (runC P) := ho
  obtain ⟨np, hnp⟩ : ∃ np, np = P.length := ⟨_, rfl⟩
  rw [← hnp] at ho4 HPL8 ⊢
  have HNP := Lib.hid hnp
  have K1 : Kept w w1 := hb1
  clear PL ho hcu hnp hb1
  have HOA : Hid ((w1.alloc (.cells #[.int .i64 8192, .int .i64 0] 57)).ownsRow w.heap.size 57 2 (.slice pu np cu) np (runC P)) := Lib.hid (ho4.alloc _)
  have HFN : Hid (FlatAt 2 1 [.int .i64 8192, .int .i64 0] (.slice (some ⟨w1.heap.size, 0, none⟩) 1 1) (w1.alloc (.cells #[.int .i64 8192, .int .i64 0] 57))) := Lib.hid (FlatAt.new w1 57 2 1 1 #[.int .i64 8192, .int .i64 0] rfl (by intro x hx; simp at hx; rcases hx with rfl | rfl <;> rfl))
  have HKS : Hid (w.heap.size ≤ w1.heap.size) := Lib.hid (by have := (K1).size; first | exact this | (simp at this ⊢; omega))
  have HEND : Hid (∀ v2 wz, wz.ownsRow w.heap.size 57 2 v2 (np + 1) (runC P ++ [.int .i64 8192, .int .i64 0]) → (w1.alloc (.cells #[.int .i64 8192, .int .i64 0] 57)).grownBy wz (Value.slice pu np cu).ownBlock →
      Hid (wz.ownsRow w.heap.size 57 2 v2 (P ++ [(8192, 0)]).length (runC (P ++ [(8192, 0)]))) ∧ Hid (Kept w wz) ∧ Hid (∀ k, k < w1.heap.size → (Value.slice pu np cu).ownBlock ≠ some k → wz.heap[k]? = w1.heap[k]?)) := Lib.hid (fun v2 wz h1 h2 => ⟨Lib.hid (by
        rw [List.length_append, runC_append, ← HNP.out]; exact h1), Lib.hid (((K1).then (box_below w1 _)).grown h2 (Nat.le_trans HKS.out (by simp)) (fun j hj => (ho4.lt j hj).1)), Lib.hid (fun k hk hne => (h2.block k (Nat.lt_of_lt_of_le hk (box_below w1 _).size) (by first | exact hne | exact fun e => hne e.symm)).trans ((box_below w1 _).block k hk))⟩)
  clear ho4
  go_wp2_with (at_builtin; refine wpList_append_flat rfl _ _ 22 rfl w.heap.size 57 ir (.agg #[.int .i64 0, .int .i64 0]) 2 16 Try.underlying22 HIR.out HZ0.out HZ1.out HZ2.out rfl (by decide) _ np _ rfl HOA.out _ 1 _ rfl HFN.out ?wa1 ?wa2 ?wa3 ?_)
  case wa1 => unfold maxLen; omega
  case wa2 => omega
  try case wa3 => have := HKS.out; first | omega | (simp; omega) | (simp at this ⊢; omega)
  intro v2 w5 hown2 hgr2 _
  obtain ⟨HO5, HK5, HBK5⟩ := HEND.out v2 w5 hown2 hgr2
  clear hown2 hgr2 HEND HOA HFN HKS

  clear K1
  obtain ⟨p2, c2, hv2, hcu2, hcell⟩ := own_slice HO5.out
  have HC := Lib.hid hcell
  have hlen : (P ++ [((8192 : Int), (0 : Int))]).length = np + 1 := by rw [List.length_append, ← HNP.out]; rfl
  have HLN := Lib.hid hlen
  rw [hlen] at hv2 hcu2
  subst hv2
  have R0 : Hid (RInv P 0 0 []) := Lib.hid (Or.inl ⟨Nat.zero_le _, GInv.zero P HPP.out⟩)
  have O0 : Hid (w5.ownsRow w5.heap.size 57 2 (.slice none 0 0) ([] : List (Int × Int)).length (runC [])) := Lib.hid (World.ownsRow_nil _ _ _ _)
  have K0 : Hid (Kept w5 w5) := Lib.hid (Kept.refl w5)
  have HKW : Hid (Kept w w5) := HK5
  obtain ⟨n, hn⟩ : ∃ n, n = np + 1 := ⟨_, rfl⟩
  have hnI : ((np : Int) + 1) = (n : Int) := by omega
  rw [← hn] at hcu2 HLN ⊢
  have hn9 : n ≤ 8193 := by omega
  have HN := Lib.hid hn
  clear hlen hcell HO5 HK5 hn
  go_wp2
  go_loopg [3, 4, 13] n (fun gh s3 s4 s13 wx => ∃ (i : Nat) (a : Int) (G : List (Int × Int)), i + gh = n ∧ s13 = .int .i64 i ∧ s4 = .int .i64 a ∧ Hid (RInv P i a G) ∧ Hid (0 ≤ a ∧ a ≤ 8192) ∧ Hid (wx.ownsRow w5.heap.size 57 2 s3 G.length (runC G)) ∧ Hid (Kept w5 wx))
  case atStart => exact ⟨0, 0, [], by omega, rfl, rfl, R0, Lib.hid (by omega), O0, K0⟩
  case round =>
    clear R0 O0 K0
    obtain ⟨i, a, G, hi, rfl, rfl, HR, HA, HO, HK⟩ := hrel
    obtain ⟨i1, hi1⟩ : ∃ i1, i1 = i + 1 := ⟨_, rfl⟩
    have v1 : IntKind.i64.wrap ((i : Int) + 1) = (i1 : Int) := by rw [show (i : Int) + 1 = (i1 : Int) by omega]; exact IntWalk.i64_in _ (by omega)
    obtain ⟨pv, cv, hv, hcv, -⟩ := own_slice HO.out
    subst hv
    by_cases hin : i < n
    · have hki : (i : Int) < n := by omega
      have bk : decide ((i : Int) < (n : Int)) = true := by simpa using hki
      have hki0 : (0 : Int) ≤ i := by omega
      have hil : i < (P ++ [((8192 : Int), (0 : Int))]).length := by rw [HLN.out]; exact hin
      rcases HC.out with h0 | ⟨g, rfl, hgb, hcell⟩
      · omega
      have hgc := runC_get (P ++ [((8192 : Int), (0 : Int))]) i hil
      have d1 := HK.out.cell (hcell _ _ hgc.1)
      have d2 := HK.out.cell (hcell _ _ hgc.2)
      obtain ⟨r, hr⟩ : ∃ r, r = (P ++ [((8192 : Int), (0 : Int))])[i] := ⟨_, rfl⟩
      rw [← hr] at d1 d2
      obtain ⟨x, y⟩ := r
      have ST := HR.out.step HPP.out hil hr.symm
      rw [← hi1] at ST
      have HST := Lib.hid ST
      have hx0 := ST.2.2.1
      have hy0 := ST.2.2.2.1
      have hxy := ST.2.2.2.2
      have ha0 := HA.out.1
      have ha8 := HA.out.2
      obtain ⟨z, hz⟩ : ∃ z, z = x + y := ⟨_, rfl⟩
      have EN := fun W => eend_any x y ⟨by omega, by omega⟩ W
      rw [← hz] at EN
      have HAZ : Hid (0 ≤ z ∧ z ≤ 8192) := Lib.hid (by omega)
      have HZE := Lib.hid hz
      have hgl := HR.out.len
      have hr1 := cell_of_row (wr.alloc (.cells #[.int .i64 x, .int .i64 y] 57))
      obtain ⟨np2, hnp2⟩ : ∃ np2, np2 = G.length := ⟨_, rfl⟩
      have ho := HO.out
      rw [← hnp2] at ho hgl ⊢
      have HNP2 := Lib.hid hnp2
      clear hgc hr hcell hgb hil ST hz hr1 hnp2 HO
      by_cases hax : a < x
      · obtain ⟨q, hq⟩ : ∃ q, q = x - a := ⟨_, rfl⟩
        have v2 : IntKind.i64.wrap (x - a) = q := by rw [hq]; exact IntWalk.i64_in _ (by omega)
        have HR2 : Hid (RInv P i1 z (G ++ [(a, q)])) := Lib.hid (by rw [hq, HZE.out]; exact HST.out.1 hax)
        have K4 : Kept w5 (wr.alloc (.cells #[.int .i64 x, .int .i64 y] 57)) := HK.out.then (box_below wr _)
        have hob : Hid ((Value.slice pv np2 cv).ownBlock ≠ some wr.heap.size) := Lib.hid (fun e => Nat.lt_irrefl _ (ho.lt _ e).2)
        have ho4 := ho.alloc (.cells #[.int .i64 x, .int .i64 y] 57)
        have g0 : Hid ((wr.alloc (.cells #[.int .i64 x, .int .i64 y] 57)).heap[wr.heap.size]? = some (.cells #[.int .i64 x, .int .i64 y] 57 (0, 0))) := Lib.hid (heap_alloc_last wr _)
        clear ho HR HST hq
        have HOA : Hid (((wr.alloc (.cells #[.int .i64 x, .int .i64 y] 57)).alloc (.cells #[.int .i64 a, .int .i64 q] 57)).ownsRow w5.heap.size 57 2 (.slice pv np2 cv) np2 (runC G)) := Lib.hid (ho4.alloc _)
        have HFN : Hid (FlatAt 2 1 [.int .i64 a, .int .i64 q] (.slice (some ⟨wr.heap.size + 1, 0, none⟩) 1 1) ((wr.alloc (.cells #[.int .i64 x, .int .i64 y] 57)).alloc (.cells #[.int .i64 a, .int .i64 q] 57))) := Lib.hid (by have h := FlatAt.new (wr.alloc (.cells #[.int .i64 x, .int .i64 y] 57)) 57 2 1 1 #[.int .i64 a, .int .i64 q] rfl (by intro x hx; simp at hx; rcases hx with rfl | rfl <;> rfl); rw [show (wr.alloc (.cells #[.int .i64 x, .int .i64 y] 57)).heap.size = wr.heap.size + 1 from by simp] at h; exact h)
        have HKS : Hid (w5.heap.size ≤ (wr.alloc (.cells #[.int .i64 x, .int .i64 y] 57)).heap.size) := Lib.hid (by have := (K4).size; first | exact this | (simp at this ⊢; omega))
        have HEND : Hid (∀ v2 wz, wz.ownsRow w5.heap.size 57 2 v2 (np2 + 1) (runC G ++ [.int .i64 a, .int .i64 q]) → ((wr.alloc (.cells #[.int .i64 x, .int .i64 y] 57)).alloc (.cells #[.int .i64 a, .int .i64 q] 57)).grownBy wz (Value.slice pv np2 cv).ownBlock →
            Hid (wz.ownsRow w5.heap.size 57 2 v2 (G ++ [(a, q)]).length (runC (G ++ [(a, q)]))) ∧ Hid (Kept w5 wz) ∧ Hid (∀ k, k < (wr.alloc (.cells #[.int .i64 x, .int .i64 y] 57)).heap.size → (Value.slice pv np2 cv).ownBlock ≠ some k → wz.heap[k]? = (wr.alloc (.cells #[.int .i64 x, .int .i64 y] 57)).heap[k]?)) := Lib.hid (fun v2 wz h1 h2 => ⟨Lib.hid (by
              rw [List.length_append, runC_append, ← HNP2.out]; exact h1), Lib.hid (((K4).then (box_below (wr.alloc (.cells #[.int .i64 x, .int .i64 y] 57)) _)).grown h2 (Nat.le_trans HKS.out (by simp)) (fun j hj => (ho4.lt j hj).1)), Lib.hid (fun k hk hne => (h2.block k (Nat.lt_of_lt_of_le hk (box_below (wr.alloc (.cells #[.int .i64 x, .int .i64 y] 57)) _).size) (by first | exact hne | exact fun e => hne e.symm)).trans ((box_below (wr.alloc (.cells #[.int .i64 x, .int .i64 y] 57)) _).block k hk))⟩)
        clear ho4
        go_wp2_with (at_builtin; refine wpList_append_flat rfl _ _ 22 rfl w5.heap.size 57 ir (.agg #[.int .i64 0, .int .i64 0]) 2 16 Try.underlying22 HIR.out HZ0.out HZ1.out HZ2.out rfl (by decide) _ np2 _ rfl HOA.out _ 1 _ rfl HFN.out ?wa1 ?wa2 ?wa3 ?_)
        case wa1 => unfold maxLen; omega
        case wa2 => omega
        try case wa3 => have := HKS.out; first | omega | (simp; omega) | (simp at this ⊢; omega)
        intro v2 w6 hown2 hgr2 _
        obtain ⟨HO5, HK5, HBK5⟩ := HEND.out v2 w6 hown2 hgr2
        clear hown2 hgr2 HEND HOA HFN HKS
        have r6 := (HBK5.out wr.heap.size (by simp) hob.out).trans g0.out
        have q3 : w6.cell? ⟨wr.heap.size, 0, none⟩ = some (.int .i64 x) := by rw [cell_of_row _ _ _ _ _ _ r6]; rfl
        have q4 : w6.cell? ⟨wr.heap.size, 1, none⟩ = some (.int .i64 y) := by rw [cell_of_row _ _ _ _ _ _ r6]; rfl
        clear r6 K4
        go_wp2_with fail
        refine (EN _).mono ?_
        rintro e w7 ⟨rfl, hb7⟩
        have HO7 : Hid (w7.ownsRow w5.heap.size 57 2 v2 (G ++ [(a, q)]).length (runC (G ++ [(a, q)]))) := Lib.hid (own_stay HO5.out (fun j hj => hb7.block j (HO5.out.lt j hj).2))
        have HK7 : Hid (Kept w5 w7) := Lib.hid ((show Kept w5 w6 from HK5.out).then hb7)
        clear hb7 HO5 HK5 HBK5 q3 q4 EN
        go_wp2
        go_roundg (n - i1)
        case measure => omega
        case rel => exact ⟨i1, z, G ++ [(a, q)], by omega, by first | rfl | (congr 1; omega), rfl, HR2, HAZ, HO7, HK7⟩
      · have HR2 : Hid (RInv P i1 z G) := Lib.hid (by rw [HZE.out]; exact HST.out.2.1 hax)
        have K4 : Kept w5 (wr.alloc (.cells #[.int .i64 x, .int .i64 y] 57)) := HK.out.then (box_below wr _)
        have bax : decide (a < x) = false := decide_eq_false hax
        have HO4 := Lib.hid (ho.alloc (.cells #[.int .i64 x, .int .i64 y] 57))
        have HK4 := Lib.hid K4
        clear ho HR HST K4
        go_wp2_with fail
        refine (EN _).mono ?_
        rintro e w7 ⟨rfl, hb7⟩
        have HO7 : Hid (w7.ownsRow w5.heap.size 57 2 (.slice pv np2 cv) G.length (runC G)) := Lib.hid (by rw [← HNP2.out]; exact own_stay HO4.out (fun j hj => hb7.block j (HO4.out.lt j hj).2))
        have HK7 : Hid (Kept w5 w7) := Lib.hid (HK4.out.then hb7)
        clear hb7 HO4 HK4 EN
        go_wp2
        go_roundg (n - i1)
        case measure => omega
        case rel => exact ⟨i1, z, G, by omega, by first | rfl | (congr 1; omega), rfl, HR2, HAZ, HO7, HK7⟩
    · have hki : ¬ (i : Int) < n := by omega
      have bk : decide ((i : Int) < (n : Int)) = false := by simpa using hki
      have hie : i = n := by omega
      have HGE : Hid (G = runsA (fun k => !hasR l k)) := Lib.hid (by
        rcases HR.out with ⟨h1, _⟩ | ⟨_, h2⟩
        · have := HN.out; have := HNP.out; omega
        · rw [h2]; exact HPE.out)
      have HE : Hid (OwnRuns w.heap.size (runsA (fun k => !hasR l k)) (.slice pv G.length cv) wr) := Lib.hid (by
        rw [← HGE.out]
        exact OwnRuns.base HO.out HKW.out.size)
      have HKE : Hid (Kept w wr) := Lib.hid (HKW.out.then HK.out)
      obtain ⟨np2, hnp2⟩ : ∃ np2, np2 = G.length := ⟨_, rfl⟩
      rw [← hnp2] at HE ⊢
      clear hie hnp2
      go_wp2
      go_ret
      exact ⟨_, rfl, HE.out, HKE.out⟩

end Go.Proofs.Ytkdodffnakdckaa
