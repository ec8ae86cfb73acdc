/- The document's Drop. -/
import Derived.Test.YtaajadmaamjebaaSxH
namespace Go.Proofs.Ytaajadmaamjebaa
open Go.RowKit

theorem built_rowL (x0 x1 x2 x3 x4 x5 x6 x7 x8 x9 x10 x11 x12 x13 x14 x15 x16 x17 x18 x19 x20 x21 x22 x23 x24 x25 x26 x27 x28 x29 x30 x31 : Value) (p : Option Addr) (n c : Nat) : Try.prog.built 73 [(0, .agg #[x0, x1, x2, x3, x4, x5, x6, x7, x8, x9, x10, x11, x12, x13, x14, x15, x16, x17, x18, x19, x20, x21, x22, x23, x24, x25, x26, x27, x28, x29, x30, x31]), (1, .slice p n c)] = some #[x0, x1, x2, x3, x4, x5, x6, x7, x8, x9, x10, x11, x12, x13, x14, x15, x16, x17, x18, x19, x20, x21, x22, x23, x24, x25, x26, x27, x28, x29, x30, x31, .slice p n c] := by kernel_rfl
theorem built_row (C : Array Value) (p : Option Addr) (n c : Nat) (hC : C.size = 32) : Try.prog.built 73 [(0, .agg C), (1, .slice p n c)] = some (C ++ #[.slice p n c]) := by
  obtain ⟨l⟩ := C
  match l, hC with
  | [x0, x1, x2, x3, x4, x5, x6, x7, x8, x9, x10, x11, x12, x13, x14, x15, x16, x17, x18, x19, x20, x21, x22, x23, x24, x25, x26, x27, x28, x29, x30, x31], _ => exact built_rowL x0 x1 x2 x3 x4 x5 x6 x7 x8 x9 x10 x11 x12 x13 x14 x15 x16 x17 x18 x19 x20 x21 x22 x23 x24 x25 x26 x27 x28 x29 x30 x31 p n c
/-- W has all blocks of w from B on but the own block of v. -/
def OnButG (B : Nat) (v : Value) (w W : World) : Prop := ∀ j, B ≤ j → j < w.heap.size → v.ownBlock ≠ some j → W.heap[j]? = w.heap[j]?
theorem each_nextG {α : Type} {Pr : α → Value → World → Prop} {T : TypeId} {sz : Nat} {wr w2 w9 : World} {B : Nat} {v v4 : Value} {LA : List (α × Value)} {x : α} {tx : Value} {X : Array Value} {k : Nat} {xs : List Value}
    (h : ∀ a ∈ LA, ∀ W, OnButG B v wr W → Pr a.1 a.2 W) (hr : ∀ W : World, (∀ j, wr.heap.size ≤ j → j < w2.heap.size → W.heap[j]? = w2.heap[j]?) → Pr x tx W)
    (ho : wr.ownsRow B T sz v k xs) (hB : B ≤ wr.heap.size) (k2 : Kept wr w2) (hg : (w2.alloc (.cells X T)).grownBy w9 v.ownBlock)
    (hw : v4.ownBlock = v.ownBlock ∨ v4.ownBlock = some (w2.alloc (.cells X T)).heap.size) :
    ∀ a ∈ LA ++ [(x, tx)], ∀ W, OnButG B v4 w9 W → Pr a.1 a.2 W := by
  have ka : Kept w2 (w2.alloc (.cells X T)) := box_below _ _
  have s1 := k2.size
  have s3 := ka.size
  have s4 := hg.size
  have all : ∀ j, j < (w2.alloc (.cells X T)).heap.size → v.ownBlock ≠ some j → w9.heap[j]? = (w2.alloc (.cells X T)).heap[j]? := fun j hj hn => hg.block j hj (fun e => hn e.symm)
  have no4 : ∀ j, j < w2.heap.size → v.ownBlock ≠ some j → v4.ownBlock ≠ some j := fun j hj hn e => by
    rcases hw with e2 | e2
    · exact hn (e2.symm.trans e)
    · have := Option.some.inj (e2.symm.trans e); omega
  intro a ha W hW
  rcases List.mem_append.1 ha with y | y
  · refine h a y W (fun j h1 h2 h3 => ?_)
    rw [hW j h1 (by omega) (no4 j (by omega) h3), all j (by omega) h3, ka.block j (by omega), k2.block j h2]
  · rw [List.mem_singleton.1 y]
    refine hr W (fun j h1 h2 => ?_)
    have hn : v.ownBlock ≠ some j := fun e => by have := (ho.lt j e).2; omega
    rw [hW j (by omega) (by omega) (no4 j h2 hn), all j (by omega) hn, ka.block j (by omega)]
theorem keepS_take (man : Nat) (l : List Nat) (j : Nat) (h : j < l.length) : keepS man (l.take (j + 1)) = if l[j] = man then keepS man (l.take j) else keepS man (l.take j) ++ [l[j]] := by
  unfold keepS
  rw [List.take_succ_eq_append_getElem h, List.filter_append]
  by_cases e : l[j] = man
  · rw [if_pos e]; simp [e]
  · rw [if_neg e]; simp [e]
theorem dropS_append (man : Nat) : ∀ (A B : List SRow), dropS man (A ++ B) = dropS man A ++ dropS man B
  | [], B => rfl
  | r :: A, B => by
    have ih := dropS_append man A B
    show (if 0 < (keepS man r.2).length then (r.1, keepS man r.2) :: dropS man (A ++ B) else dropS man (A ++ B)) = (if 0 < (keepS man r.2).length then (r.1, keepS man r.2) :: dropS man A else dropS man A) ++ dropS man B
    rw [ih]
    split <;> simp
theorem dropS_take (man : Nat) (R : List SRow) (k : Nat) (h : k < R.length) : dropS man (R.take (k + 1)) = if 0 < (keepS man R[k].2).length then dropS man (R.take k) ++ [(R[k].1, keepS man R[k].2)] else dropS man (R.take k) := by
  rw [List.take_succ_eq_append_getElem h, dropS_append]
  have e : dropS man [R[k]] = if 0 < (keepS man R[k].2).length then [(R[k].1, keepS man R[k].2)] else [] := rfl
  rw [e]
  split <;> simp

set_option maxRecDepth 100000 in
set_option maxHeartbeats 32000000 in
theorem rdrop17_any (E : Nat → Prop) (g : Nat) (per most : Int) (A : List (SRow × Value)) (tv : Value) (w : World) (H : IxAt E g per most A tv w) (hr : A.length ≤ 1000000) (hl : lenS (A.map Prod.fst) ≤ 1000000) (man : Nat) :
    Calls Try.prog 23 #[.pointer (some ⟨g, 0, none⟩), .int .u32 (man : Nat)] w fun e w' => e = .returned (.int .i64 ((lenS (A.map Prod.fst) : Int) - (lenS (dropS man (A.map Prod.fst)) : Int))) ∧ (∃ A' tv', IxAt E g per most A' tv' w' ∧ A'.map Prod.fst = dropS man (A.map Prod.fst)) ∧ ButBy (fun m => m = g) w w' := by
  have HBD := Lib.hid (show E g ∧ ∀ k, E k → k < w.heap.size from ⟨H.mem, H.bnd⟩)
  obtain ⟨ir, zr, i1, i2, i3, i4, i5⟩ := infoSxF
  have HIR := Lib.hid i1
  have HZ0 := Lib.hid i2
  have HZ1 := Lib.hid i3
  have HZ2 := Lib.hid i4
  have HZS := Lib.hid i5
  obtain ⟨iu, hiu, hx⟩ := Option.map_eq_some_iff.1 info_u32
  simp only [Prod.mk.injEq] at hx
  obtain ⟨u1, u2, u3⟩ := hx
  have HIU := Lib.hid hiu
  have HU0 := Lib.hid u1
  have HU1 := Lib.hid u2
  have HU2 := Lib.hid u3
  have CL := rlen17_any E g per most A tv w H (by omega) hr
  obtain ⟨p, c, rfl⟩ := H.in_.cut
  obtain ⟨n, hn⟩ : ∃ n, n = A.length := ⟨_, rfl⟩
  have CD := fun (A' : List (SRow × Value)) (tv' : Value) (W : World) (h : IxAt E g per most A' tv' W) (h1 : lenS (A'.map Prod.fst) ≤ 1000000) (h2 : A'.length ≤ 1000000) => rlen17_any E g per most A' tv' W h (by omega) h2
  have HCD := Lib.hid CD
  rw [← hn] at H
  have HN := Lib.hid hn
  obtain ⟨R, hR⟩ : ∃ R, R = A.map Prod.fst := ⟨_, rfl⟩
  rw [← hR] at CL hl ⊢
  have HR := Lib.hid hR
  have HRN : Hid (R.length = n ∧ n ≤ 1000000 ∧ lenS R ≤ 1000000) := Lib.hid ⟨by rw [hR, List.length_map, hn], by omega, hl⟩
  obtain ⟨n0, hn0⟩ : ∃ n, n = lenS R := ⟨_, rfl⟩
  rw [← hn0] at CL ⊢
  have HN0 := Lib.hid hn0
  have HH0 := Lib.hid H
  have HGW : Hid (g < w.heap.size) := Lib.hid (Array.getElem?_eq_some_iff.1 H.row).1
  clear i1 i2 i3 i4 i5 hiu u1 u2 u3 hn H hr hl hR CD hn0
  go_enter Try.func23, Try.ntmps23
  go_wp2_with fail
  refine CL.mono ?_
  rintro e W1 ⟨rfl, hk1⟩
  have HK1 := Lib.hid hk1
  have HH := Lib.hid (HH0.out.later hk1)
  clear hk1 CL
  go_wp2
  go_loopg [6, 7] n (fun gh y6 y7 wr => ∃ (k : Nat) (LA : List (SRow × Value)), k + gh = n ∧ y7 = .int .i64 k ∧ LA.length ≤ k ∧ Hid (wr.ownsRow W1.heap.size 73 33 y6 LA.length (flatR sxL LA)) ∧
    Hid (LA.map Prod.fst = dropS man (R.take k)) ∧ Hid (∀ a ∈ LA, okSx a) ∧ Hid (∀ a ∈ LA, ∀ W, OnButG W1.heap.size y6 wr W → UsAt a.1.2 a.2 W) ∧ Hid (Kept W1 wr))
  case atStart => exact ⟨0, [], by omega, rfl, Nat.le_refl _, Lib.hid (World.ownsRow_nil _ _ _ _), Lib.hid rfl, Lib.hid (fun a ha => by cases ha), Lib.hid (fun a ha => by cases ha), Lib.hid (Below.refl _ W1)⟩
  case round =>
    obtain ⟨k, LA, hk, rfl, hlk, HOW, HMAP, HOKS, HEACH, HK⟩ := hrel
    obtain ⟨wo, rfl⟩ : ∃ W, W = wr := ⟨_, rfl⟩
    have HI := Lib.hid (HH.out.later HK.out)
    have e2 := HI.out.c2
    obtain ⟨pv, cv, htv, -, -⟩ := own_slice HOW.out
    obtain ⟨lk, hlk2⟩ : ∃ x, x = LA.length := ⟨_, rfl⟩
    rw [← hlk2] at htv HOW
    subst htv
    have HLK := Lib.hid hlk2
    by_cases hlt : k < n
    · have hki : (k : Int) < n := by omega
      have bk : decide ((k : Int) < (n : Int)) = true := by simpa using hki
      have hki0 : (0 : Int) ≤ k := by omega
      have hkA : k < A.length := by rw [← HN.out]; exact hlt
      have hkR : k < R.length := by rw [HRN.out.1]; exact hlt
      obtain ⟨b, off, cs, t, fr, hp, hel⟩ := HI.out.in_.elem (g := g) HN.out hlt
      have IX := fun W => idx_rec (P := Try.prog) Try.underlying30 (fun w => Try.sizeOf73 w) b off n c k hlt W
      have ok := HI.out.in_.rows.good _ (List.getElem_mem hkA)
      have hmn := HI.out.in_.each _ (List.getElem_mem hkA)
      have hRk : R[k] = A[k].1 := by simp [HR.out]
      have hdt := dropS_take man R k hkR
      rw [hRk] at hdt
      have hfp := hel.fp hkA
      have htv := hel.tv hkA
      have hbw : b < wo.heap.size := (Array.getElem?_eq_some_iff.1 hel.hg).1
      obtain ⟨pm, cm, hpm, -, hmc⟩ := hmn.out encU
      have HGD := Lib.hid hmn.good
      obtain ⟨xl, hxl⟩ : ∃ x, x = A[k].1.1 := ⟨_, rfl⟩
      obtain ⟨L, hL⟩ : ∃ x, x = A[k].1.2 := ⟨_, rfl⟩
      obtain ⟨m, hm⟩ : ∃ x, x = L.length := ⟨_, rfl⟩
      rw [hpm, ← hL, ← hm] at htv
      rw [← hL] at hmc HGD
      rw [← hxl] at hfp
      rw [← hxl, ← hL] at hdt
      have hx32 : xl.length = 32 := by rw [hxl]; exact ok.1
      obtain ⟨X, hX⟩ : ∃ X, X = fpA xl := ⟨_, rfl⟩
      rw [← hX] at hfp
      have hXs : X.size = 32 := by rw [hX, fpA_size, hx32]
      have HES := Lib.hid hfp
      have HG0 := Lib.hid hel.hg
      have HTV := Lib.hid htv
      have HMC := Lib.hid hmc
      have HML := Lib.hid hm
      have HX := Lib.hid hX
      have HX32 := Lib.hid hx32
      have HXS := Lib.hid hXs
      have hLm : L.length ≤ lenS R := by
        have h1 := lenS_take R k hkR
        have h2 := lenS_take_le R (k + 1)
        rw [hRk, ← hL] at h1
        omega
      have HM6 : Hid (m ≤ 1000000) := Lib.hid (by have := HRN.out.2.2; omega)
      obtain ⟨k1, hk1⟩ : ∃ k1, k1 = k + 1 := ⟨_, rfl⟩
      have v1 : IntKind.i64.wrap ((k : Int) + 1) = (k1 : Int) := by rw [show (k : Int) + 1 = (k1 : Int) by omega]; exact IntWalk.i64_in _ (by have := HRN.out; omega)
      have HKK : Hid (k1 = k + 1 ∧ k + gk = n ∧ k < n ∧ lk ≤ k) := Lib.hid ⟨hk1, hk, hlt, by omega⟩
      rw [← hk1] at hdt
      have HDT := Lib.hid hdt
      subst hp
      have HE2 := Lib.hid e2
      clear hkA hkR hel ok hmn hRk hdt hfp htv hbw hpm hmc hxl hL hm hx32 hX hXs hLm hk1 hk hlt hlk2 hlk
      go_wp2
      go_loopg [8, 9] m (fun gh y8 y9 wq => ∃ (j : Nat), j + gh = m ∧ y9 = .int .i64 j ∧ Hid (wq.ownsRow wo.heap.size 33 1 y8 (keepS man (L.take j)).length (flatR uL (keepS man (L.take j)))) ∧ Hid (Kept wo wq))
      case atStart => exact ⟨0, by omega, rfl, Lib.hid (by simpa [keepS, flatR] using World.ownsRow_nil _ _ _ _), Lib.hid (Below.refl _ wo)⟩
      case round =>
        obtain ⟨j, hj, rfl, HOL, HKQ⟩ := hrel
        have HKL := Lib.hid (HK.out.then HKQ.out)
        have q2 := Kept.cell HKQ.out HE2.out
        have hgb : wr.heap[b]? = some (.cells cs t fr) := Kept.row HKQ.out HG0.out
        have d0 : wr.cell? ⟨b, off + k * 33 + 32, none⟩ = some (.slice pm m cm) := by rw [cell_of_row _ _ _ _ _ _ hgb]; exact HTV.out
        obtain ⟨KL, hKL⟩ : ∃ x, x = keepS man (L.take j) := ⟨_, rfl⟩
        rw [← hKL] at HOL
        have hKll : KL.length ≤ j := by
          rw [hKL]
          unfold keepS
          have h1 := List.length_filter_le (fun m => decide (m ≠ man)) (L.take j)
          rw [List.length_take] at h1
          omega
        have hKlo : ∀ x ∈ KL, wfU x := fun x hx => by
          rw [hKL] at hx
          exact HGD.out x (List.mem_of_mem_take (List.mem_filter.1 hx).1)
        have HKLO := Lib.hid hKlo
        obtain ⟨kl, hkl⟩ : ∃ x, x = KL.length := ⟨_, rfl⟩
        rw [← hkl] at HOL
        obtain ⟨pl, cl, htl, -, -⟩ := own_slice HOL.out
        subst htl
        have HKLL := Lib.hid hkl
        by_cases hjm : j < m
        · have hji : (j : Int) < m := by omega
          have bj : decide ((j : Int) < (m : Int)) = true := by simpa using hji
          have hji0 : (0 : Int) ≤ j := by omega
          have hjL : j < L.length := by rw [← HML.out]; exact hjm
          have hkt := keepS_take man L j hjL
          rw [← hKL] at hkt
          rcases HMC.out with h0 | ⟨bm, om, rfl, hcm⟩
          · rw [h0] at hjL; omega
          have d1 := Kept.cell HKQ.out (hcm j hjL 0 _ rfl)
          rw [Nat.mul_one, Nat.add_zero] at d1
          have hx32' := HGD.out _ (List.getElem_mem hjL)
          obtain ⟨xm, hxm⟩ : ∃ x, x = L[j] := ⟨_, rfl⟩
          rw [← hxm] at d1 hkt hx32'
          have HWU : Hid (wfU xm) := Lib.hid hx32'
          obtain ⟨j1, hj1⟩ : ∃ j1, j1 = j + 1 := ⟨_, rfl⟩
          have vj : IntKind.i64.wrap ((j : Int) + 1) = (j1 : Int) := by rw [show (j : Int) + 1 = (j1 : Int) by omega]; exact IntWalk.i64_in _ (by have := HM6.out; omega)
          have HJJ : Hid (j1 = j + 1 ∧ j + gk = m ∧ j < m ∧ kl ≤ j) := Lib.hid ⟨hj1, hj, hjm, by omega⟩
          rw [← hj1] at hkt
          by_cases hxe : xm = man
          · have bx : ((xm : Int) != (man : Int)) = false := by simp [hxe]
            rw [if_pos hxe] at hkt
            have HOL2 : Hid (wr.ownsRow wo.heap.size 33 1 (.slice pl kl cl) (keepS man (L.take j1)).length (flatR uL (keepS man (L.take j1)))) := Lib.hid (by rw [hkt, ← hkl]; exact HOL.out)
            clear hjL hkt hcm hx32' hxm hj1 hj hjm hxe hKL hKll hKlo hkl
            go_wp2
            go_roundg (m - j1)
            · exact ⟨j1, by have := HJJ.out; omega, by first | rfl | (have := HJJ.out; congr 1; omega), HOL2, HKQ⟩
            · have := HJJ.out; omega
          · have bx : ((xm : Int) != (man : Int)) = true := bne_iff_ne.2 (by omega)
            rw [if_neg hxe] at hkt
            have HONE := Lib.hid (fun (W : World) => flat_rec encU W 33 xm HWU.out #[.int .u32 (xm : Nat)] rfl)
            have HST : Hid (∀ (wx : World) (v : Value), wx.ownsRow wo.heap.size 33 1 v (kl + 1) (flatR uL KL ++ uL xm) → wx.ownsRow wo.heap.size 33 1 v (keepS man (L.take j1)).length (flatR uL (keepS man (L.take j1)))) := Lib.hid (fun wx v h => by
              rw [hkt, List.length_append, ← flatR_snoc, ← hkl]
              exact h)
            clear hjL hkt hcm hx32' hxm hj1 hj hjm hxe hKL hKll hKlo hkl
            go_wp2_with (at_builtin; refine wpList_append_flat rfl _ _ 44 rfl wo.heap.size 33 iu (.int .u32 0) 1 4 Try.underlying44 HIU.out HU0.out HU1.out HU2.out rfl (by decide) _ _ _ rfl (HOL.out.alloc _) _ 1 (uL xm) rfl (HONE.out _) ?qd2 ?qd3 ?qd4 ?_)
            case qd2 => have := HJJ.out; have := HM6.out; unfold maxLen; omega
            case qd3 => have := HJJ.out; have := HM6.out; omega
            case qd4 => have := HKQ.out.size; simp; omega
            intro v4 w9 hown hgrow _
            have HKQ9 : Hid (Kept wo w9) := Lib.hid (append_keptX HKQ.out (Nat.le_refl _) HOL.out hgrow)
            have HOL9 := Lib.hid (HST.out w9 v4 hown)
            obtain ⟨pv', cv', htv', -, -⟩ := own_slice hown
            subst htv'
            clear hown hgrow HST
            go_wp2
            go_roundg (m - j1)
            · exact ⟨j1, by have := HJJ.out; omega, by first | rfl | (have := HJJ.out; congr 1; omega), HOL9, HKQ9⟩
            · have := HJJ.out; omega
        · have hji : ¬ (j : Int) < m := by omega
          have bj : decide ((j : Int) < (m : Int)) = false := by simpa using hji
          have htl : L.take j = L := List.take_of_length_le (by rw [← HML.out]; omega)
          rw [htl] at hKL
          have hdt := HDT.out
          rw [← hKL, ← hkl] at hdt
          have HOWr : Hid (wr.ownsRow W1.heap.size 73 33 (.slice pv lk cv) lk (flatR sxL LA)) := Lib.hid (own_stay HOW.out (fun q hq => HKQ.out.block q (HOW.out.lt q hq).2))
          have HKL6 : Hid (kl ≤ 1000000) := Lib.hid (by have := HM6.out; omega)
          by_cases hk0 : 0 < kl
          · have bz : decide ((kl : Int) > 0) = true := decide_eq_true (by omega)
            have bzi : (0 : Int) < kl := by omega
            rw [if_pos hk0] at hdt
            have HMAP1 : Hid ((LA ++ [((xl, KL), Value.slice pl kl cl)]).map Prod.fst = dropS man (R.take k1)) := Lib.hid (by rw [hdt, List.map_append, HMAP.out]; rfl)
            have HBU := Lib.hid (built_row X pl kl cl HXS.out)
            obtain ⟨XE, hXE⟩ : ∃ x, x = X ++ #[.slice pl kl cl] := ⟨_, rfl⟩
            rw [← hXE] at HBU
            have hXEs : XE.size = 33 := by rw [hXE, Array.size_append, HXS.out]; rfl
            have HXES := Lib.hid hXEs
            have hokx : okSx ((xl, KL), Value.slice pl kl cl) := ⟨HX32.out, rfl⟩
            have hxe : XE = (sxL ((xl, KL), Value.slice pl kl cl)).toArray := by
              rw [hXE, HX.out]
              apply Array.toList_inj.1
              unfold sxL
              simp
            have HONE := Lib.hid (fun (W : World) => flat_rec encSx W 73 ((xl, KL), Value.slice pl kl cl) hokx XE hxe)
            have HOKX := Lib.hid hokx
            have g2 := hgb
            clear hXE hXEs hokx hxe hdt htl hKL hKll hKlo hkl hj hjm hk0
            go_wp2_with (first
              | (with_reducible refine wpList_load_sub rfl _ _ rfl b (off + k * 33) 32 rfl t cs fr _ g2 Try.underlying47 rfl infoFp HES.out.1 X HES.out.2 ?_)
              | (with_reducible refine wpList_built rfl _ _ rfl [(0, .agg X), (1, .slice pl kl cl)] ?hps XE HBU.out ?_)
              | (with_reducible refine wpList_buildR rfl _ _ _ rfl 33 ir zr Try.underlying30 HIR.out HZ1.out HZ0.out (by decide) (by decide) XE rfl HXES.out ?_)
              | (at_builtin; refine wpList_append_flat rfl _ _ 30 rfl W1.heap.size 73 ir zr 33 56 Try.underlying30 HIR.out HZ0.out HZ1.out HZ2.out HZS.out (by decide) _ _ _ rfl (HOWr.out.alloc _) _ 1 (sxL ((xl, KL), Value.slice pl kl cl)) rfl (HONE.out _) ?qe2 ?qe3 ?qe4 ?_))
            case qe2 => have := HKK.out; have := HRN.out; unfold maxLen; omega
            case qe3 => have := HKK.out; have := HRN.out; omega
            case qe4 => have := HKL.out.size; simp; omega
            intro v4 w9 hown hgrow hwh
            have HK9 : Hid (Kept W1 w9) := Lib.hid (append_keptX HKL.out (Nat.le_refl _) HOWr.out hgrow)
            have HOW9 : Hid (w9.ownsRow W1.heap.size 73 33 v4 (LA ++ [((xl, KL), Value.slice pl kl cl)]).length (flatR sxL (LA ++ [((xl, KL), Value.slice pl kl cl)]))) := Lib.hid (by
              rw [List.length_append, ← flatR_snoc, ← HLK.out]
              exact hown)
            have HOK9 : Hid (∀ a ∈ LA ++ [((xl, KL), Value.slice pl kl cl)], okSx a) := Lib.hid (fun a ha => by
              rcases List.mem_append.1 ha with x | x
              · exact HOKS.out a x
              · rw [List.mem_singleton.1 x]; exact HOKX.out)
            have HEACH9 : Hid (∀ a ∈ LA ++ [((xl, KL), Value.slice pl kl cl)], ∀ W, OnButG W1.heap.size v4 w9 W → UsAt a.1.2 a.2 W) := Lib.hid (each_nextG (Pr := fun (r : SRow) v W => UsAt r.2 v W) HEACH.out (fun W hW => RowsAt.own encU HKLO.out (by
              rw [← HKLL.out]
              exact own_stay HOL.out (fun q hq => hW q (HOL.out.lt q hq).1 (HOL.out.lt q hq).2))) HOW.out HK.out.size HKQ.out hgrow (by simpa using hwh))
            obtain ⟨pv', cv', htv', -, -⟩ := own_slice hown
            subst htv'
            clear hown hgrow hwh g2
            go_wp2
            go_roundg (n - k1)
            · exact ⟨k1, LA ++ [((xl, KL), Value.slice pl kl cl)], by have := HKK.out; omega, by first | rfl | (have := HKK.out; congr 1; omega), by have := HKK.out; have := HLK.out; simp; omega, HOW9, HMAP1, HOK9, HEACH9, HK9⟩
            · have := HKK.out; omega
          · have bz : decide ((kl : Int) > 0) = false := decide_eq_false (by omega)
            have bzi : ¬ (0 : Int) < kl := by omega
            rw [if_neg hk0] at hdt
            have HMAP1 : Hid (LA.map Prod.fst = dropS man (R.take k1)) := Lib.hid (by rw [hdt, HMAP.out])
            have HEACH1 : Hid (∀ a ∈ LA, ∀ W, OnButG W1.heap.size (.slice pv lk cv) wr W → UsAt a.1.2 a.2 W) := Lib.hid (fun a ha W hW => HEACH.out a ha W (fun q h1 h2 h3 => by
              rw [hW q h1 (Nat.lt_of_lt_of_le h2 HKQ.out.size) h3, HKQ.out.block q h2]))
            clear hdt htl hKL hKll hKlo hkl hj hjm hk0
            go_wp2
            go_roundg (n - k1)
            · exact ⟨k1, LA, by have := HKK.out; omega, by first | rfl | (have := HKK.out; congr 1; omega), by have := HKK.out; have := HLK.out; omega, by rw [← HLK.out]; exact HOWr, HMAP1, HOKS, HEACH1, HKL⟩
            · have := HKK.out; omega
    · have hki : ¬ (k : Int) < n := by omega
      have bk : decide ((k : Int) < (n : Int)) = false := by simpa using hki
      have hmp := HMAP.out
      rw [List.take_of_length_le (by rw [HRN.out.1]; omega)] at hmp
      have HMPE := Lib.hid hmp
      have hbut : ButBy (fun m => m = g) w (wo.setCell ⟨g, 2, none⟩ (.slice pv lk cv)) := (ButBy.below (HK1.out.then HK.out)).setCell g 2 _ rfl
      have hgB : g < W1.heap.size := Nat.lt_of_lt_of_le HGW.out HK1.out.size
      have hix : IxAt E g per most LA (.slice pv lk cv) (wo.setCell ⟨g, 2, none⟩ (.slice pv lk cv)) := by
        have hag : ∀ W, Off E (wo.setCell ⟨g, 2, none⟩ (.slice pv lk cv)) W → ∀ q, W1.heap.size ≤ q → q < wo.heap.size → W.heap[q]? = wo.heap[q]? := fun W hW q h1 h2 => by
          rw [hW q (fun e => by have := HBD.out.2 q e; have := HK1.out.size; omega) (by show q < (wo.heap.modify _ _).size; rw [Array.size_modify]; exact h2), heap_setCell_other _ _ _ _ (by show q ≠ g; omega)]
        refine ⟨heap_setCell_same wo g 2 _ _ _ HI.out.row, ?rr, HBD.out.1, fun j hj => Nat.lt_of_lt_of_le (HBD.out.2 j hj) hbut.size⟩
        refine (fun W hW => ⟨fun a ha => HEACH.out a ha W (fun q h1 h2 _ => hag W hW q h1 h2), RowsAt.own (base := W1.heap.size) (e := 73) encSx HOKS.out ?_⟩)
        rw [← HLK.out]
        exact own_stay HOW.out (fun q hq => hag W hW q (HOW.out.lt q hq).1 (HOW.out.lt q hq).2)
      have hdl := drop_len man R
      have C2 := HCD.out LA (.slice pv lk cv) _ hix (by rw [hmp]; have := HRN.out.2.2; omega) (by have := HRN.out; omega)
      rw [hmp] at C2
      obtain ⟨d, hd⟩ : ∃ d, d = lenS (dropS man R) := ⟨_, rfl⟩
      rw [← hd] at C2 hdl
      have HD := Lib.hid hd
      have vd : IntKind.i64.wrap ((n0 : Int) - (d : Int)) = (n0 : Int) - (d : Int) := IntWalk.i64_in _ (by have := HN0.out; have := HRN.out.2.2; omega)
      have f2 := frozen_of_row wo g 2 _ _ HI.out.row
      have HIX := Lib.hid hix
      have HB := Lib.hid hbut
      clear hmp hbut hgB hix hdl hd hlk2 hk hlt hlk
      go_wp2_with fail
      refine C2.mono ?_
      rintro e w9 ⟨rfl, hk9⟩
      have HIX9 := Lib.hid (HIX.out.later hk9)
      have HB9 := Lib.hid (HB.out.then_kept hk9)
      clear hk9 C2
      go_wp2
      go_ret
      exact ⟨by rw [← HD.out]; rfl, ⟨LA, _, HIX9.out, HMPE.out⟩, HB9.out⟩

end Go.Proofs.Ytaajadmaamjebaa
