/- slices.Clone of numbers of 32 bits; the landed recipes' Of. -/
import Derived.Test.YtijdbmapdmhknaaDoorRyB
import Derived.Test.YtijdbmapdmhknaaDoorGF
namespace Go.Proofs.YtijdbmapdmhknaaDoor
open Go.RowKit

set_option maxRecDepth 100000 in
set_option maxHeartbeats 1000000 in
theorem uclone_some (a : Addr) (c : Nat) (l : List Nat) (hs : l.length ≤ 1000000) (w : World) (h : UsAt l (.slice (some a) l.length c) w) :
    Calls Tryd.prog 48 #[.slice (some a) l.length c] w fun e w' => ∃ v', e = .returned v' ∧ w'.ownsRow w.heap.size 53 1 v' l.length (flatR uL l) ∧ Below w.heap.size w w' := by
  obtain ⟨ir, hir, hx⟩ := Option.map_eq_some_iff.1 info_u32
  simp only [Prod.mk.injEq] at hx
  obtain ⟨hz0, hz1, hz2⟩ := hx
  have HIR := Lib.hid hir
  have HZ0 := Lib.hid hz0
  have HZ1 := Lib.hid hz1
  have HZ2 := Lib.hid hz2
  have q22 : ∀ (w : World) (a : Option Addr) (n c n' c' : Nat), (binOp .eql 22 (.slice a n c) (.slice none n' c')).run Tryd.prog w = .ok (.bool a.isNone) w := fun w a n c n' c' => Lib.run_eql_slice_nil w _ _ a n c n' c' Tryd.underlying22
  have HF : Hid (FlatAt 1 l.length (flatR uL l) (.slice (some a) l.length c) (w.alloc (.cells #[] 53))) := Lib.hid (h.at_.later (box_below w _))
  have HK1 := Lib.hid (box_below w (.cells #[] 53))
  obtain ⟨n, hn⟩ : ∃ n, n = l.length := ⟨_, rfl⟩
  have HN := Lib.hid hn
  rw [← hn] at hs HF ⊢
  clear hn h hir hz0 hz1 hz2
  go_enter Tryd.func48, Tryd.ntmps48
  go_wp2_with (at_builtin; refine wpList_append_flat rfl _ _ 22 rfl w.heap.size 53 ir (.int .u32 0) 1 4 Tryd.underlying22 HIR.out HZ0.out HZ1.out HZ2.out rfl (by decide) _ _ _ rfl (World.ownsRow_made w #[] 0 (Nat.le_refl _) (Nat.zero_le _) (by simp)) _ n (flatR uL l) rfl HF.out ?wa1 ?wa2 ?wa3 ?_)
  case wa1 => unfold maxLen; omega
  case wa2 => omega
  try case wa3 => simp
  intro v1 w1 hown1 hgr1 _
  have K2 : Kept w w1 := Below.grown (show Kept w _ from HK1.out) hgr1 (by simp) (fun j hj => by
    have h2 : (Value.slice (some ⟨w.heap.size, 0, none⟩) 0 0).ownBlock = some j := hj
    have h3 := Option.some.inj h2
    exact Nat.le_of_eq h3)
  have HO1 : Hid (w1.ownsRow w.heap.size 53 1 v1 n (flatR uL l)) := Lib.hid (by simpa using hown1)
  clear hown1 hgr1
  go_wp2
  go_ret
  exact ⟨_, rfl, HO1.out, K2⟩

set_option maxRecDepth 100000 in
theorem uclone_none (n c : Nat) (w : World) :
    Calls Tryd.prog 48 #[.slice none n c] w fun e w' => e = .returned (.slice none 0 0) ∧ w = w' := by
  have q22 : ∀ (w : World) (a : Option Addr) (n c n' c' : Nat), (binOp .eql 22 (.slice a n c) (.slice none n' c')).run Tryd.prog w = .ok (.bool a.isNone) w := fun w a n c n' c' => Lib.run_eql_slice_nil w _ _ a n c n' c' Tryd.underlying22
  go_enter Tryd.func48, Tryd.ntmps48
  go_wp2
  go_ret
  exact ⟨rfl, rfl⟩

/-- slices.Clone of any slice of numbers of 32 bits. -/
theorem uclone_any (v : Value) (l : List Nat) (hs : l.length ≤ 1000000) (w : World) (h : UsAt l v w) :
    Calls Tryd.prog 48 #[v] w fun e w' => ∃ v', e = .returned v' ∧ w'.ownsRow w.heap.size 53 1 v' l.length (flatR uL l) ∧ Below w.heap.size w w' := by
  obtain ⟨p, c, rfl, -, hc⟩ := h.out encU
  cases p with
  | some a => exact uclone_some a c l hs w h
  | none =>
    have h0 : l = [] := by
      rcases hc with h0 | ⟨b, off, h0, _⟩
      · exact List.eq_nil_of_length_eq_zero (by omega)
      · cases h0
    subst h0
    refine (uclone_none _ c w).mono ?_
    rintro e w' ⟨he, rfl⟩
    exact ⟨_, he, World.ownsRow_nil _ _ _ _, Below.refl _ _⟩

theorem ofR_small {name s : List UInt8} {l : List Nat} (h : s.length ≤ 1000000) : mayQ (⟨name, (s.length : Int), 0, 0, l⟩ : Rp) ↔ mayQ (ofR name s l) := by
  have a := wRe_abs 0 s
  have b := wIm_abs 0 s
  have h1 : partQ (wRe 0 s) := by unfold partQ; omega
  have h2 : partQ (wIm 0 s) := by unfold partQ; omega
  constructor
  · exact fun x => ⟨x.1, x.2.1, ⟨h1, h2⟩, x.2.2.2⟩
  · exact fun x => ⟨x.1, x.2.1, ⟨show partQ 0 by decide, show partQ 0 by decide⟩, x.2.2.2⟩

set_option maxRecDepth 100000 in
set_option maxHeartbeats 16000000 in
theorem rofOk : ROfOk := by
  intro name t l v w hn ht H hl
  obtain ⟨p, c, rfl, -, -⟩ := H.out encU
  obtain ⟨n, hn0⟩ : ∃ n, n = l.length := ⟨_, rfl⟩
  rw [← hn0] at H ⊢
  obtain ⟨tv, htv⟩ : ∃ tv, tv = Value.slice p n c := ⟨_, rfl⟩
  rw [← htv] at H
  have hS := data_len t
  obtain ⟨S, eS⟩ : ∃ S, S = t.data.toList := ⟨_, rfl⟩
  have CO := fun W => of_any t (by omega) W
  rw [← eS] at CO hS ⊢
  obtain ⟨G, hG⟩ : ∃ G, G = ofQ name S l := ⟨_, rfl⟩
  rw [← hG]
  have HG := Lib.hid hG
  have hwf : (ofR name S l).wf := ofR_wf (by unfold maxLen; omega) (by omega)
  have hw0 : (⟨name, (S.length : Int), 0, 0, l⟩ : Rp).wf := ⟨hwf.name, hwf.size, show isQ 0 by decide, show isQ 0 by decide⟩
  have CM := fun v W h => rcheckOk ⟨name, (S.length : Int), 0, 0, l⟩ v W h hl
  have hsm := ofR_small (name := name) (s := S) (l := l) (by omega)
  have ha := wRe_abs 0 S
  have hb := wIm_abs 0 S
  have nx : Num (flt (wRe 0 S)) (wRe 0 S) := num_flt _ (by omega)
  have ny : Num (flt (wIm 0 S)) (wIm 0 S) := num_flt _ (by omega)
  have CP := fun W => partsOf_yes nx ny W
  unfold wOf at CO
  obtain ⟨N, hN⟩ : ∃ N, N = str name := ⟨_, rfl⟩
  obtain ⟨z, hz⟩ : ∃ z, z = t.size := ⟨_, rfl⟩
  obtain ⟨x, hx⟩ : ∃ x, x = wRe 0 S := ⟨_, rfl⟩
  obtain ⟨y, hy⟩ : ∃ y, y = wIm 0 S := ⟨_, rfl⟩
  rw [← hx, ← hy] at CO CP
  obtain ⟨fx, hfx⟩ : ∃ fx, fx = flt x := ⟨_, rfl⟩
  obtain ⟨fy, hfy⟩ : ∃ fx, fx = flt y := ⟨_, rfl⟩
  rw [← hfx, ← hfy] at CO CP
  have HX : Hid (rpC (ofR name S l) = fun tv => #[.string N, .int .i64 (z : Int), .int .i64 x, .int .i64 y, tv]) := Lib.hid (by funext tv; unfold rpC ofR; rw [hN, hx, hy, hz, hS])
  have HX0 : Hid (rpC ⟨name, (S.length : Int), 0, 0, l⟩ tv = #[.string N, .int .i64 (z : Int), .int .i64 0, .int .i64 0, .slice p n c]) := Lib.hid (by unfold rpC; rw [hN, hz, hS, htv])
  rw [← hN]
  have hz' : t.size = z := hz.symm
  have HN0 := Lib.hid hn0
  have HWF := Lib.hid hwf
  have HW0 := Lib.hid hw0
  have HU := Lib.hid H
  have HSM := Lib.hid hsm
  have HCM := Lib.hid CM
  have HTV := Lib.hid htv
  have CC := Lib.hid (fun W h => uclone_any tv l (by omega) W h)
  have hs1 : (w.alloc (.cells #[.string ⟨#[]⟩, .int .i64 0, .int .i64 0, .int .i64 0, .slice none 0 0] 24)).heap.size = w.heap.size + 1 := by simp
  obtain ⟨W1, hW1⟩ : ∃ W, W = (w.alloc (.cells #[.string ⟨#[]⟩, .int .i64 0, .int .i64 0, .int .i64 0, .slice none 0 0] 24)).alloc (.cells #[.string N, .int .i64 (z : Int), .int .i64 0, .int .i64 0, .slice p n c] 24) := ⟨_, rfl⟩
  have hk1 : Kept w W1 := by rw [hW1]; exact (show Kept w _ from box_below _ _).then (box_below _ _)
  have HK1 := Lib.hid hk1
  have HA1 : Hid (Row5 w.heap.size (.string ⟨#[]⟩) (.int .i64 0) (.int .i64 0) (.int .i64 0) (.slice none 0 0) W1) := Lib.hid ⟨by rw [hW1]; exact Kept.row (box_below _ _) (heap_alloc_last w _)⟩
  have HB1 : Hid (Row5 (w.heap.size + 1) (.string N) (.int .i64 (z : Int)) (.int .i64 0) (.int .i64 0) (.slice p n c) W1) := Lib.hid ⟨by
    have := heap_alloc_last (w.alloc (.cells #[.string ⟨#[]⟩, .int .i64 0, .int .i64 0, .int .i64 0, .slice none 0 0] 24)) (.cells #[.string N, .int .i64 (z : Int), .int .i64 0, .int .i64 0, .slice p n c] 24)
    rw [hs1] at this
    rw [hW1]; exact this⟩
  have HMAY := Lib.hid (HCM.out (.agg #[.string N, .int .i64 (z : Int), .int .i64 0, .int .i64 0, .slice p n c]) W1 ⟨tv, by rw [HX0.out], HU.out.later hk1, HW0.out⟩)
  have HW1 := Lib.hid hW1
  clear hW1 H htv hn0 hS eS hG hwf hw0 CM hN hx hy hz ht hs1 hk1 hsm ha hb nx ny hfx hfy hl hn
  have c0 := HB1.out.c0
  have c1 := HB1.out.c1
  have c2 := HB1.out.c2
  have c3 := HB1.out.c3
  have c4 := HB1.out.c4
  rw [HW1.out] at c0 c1 c2 c3 c4
  by_cases hm : mayQ (ofR name S l)
  · have CM := HMAY.out
    rw [if_pos (HSM.out.2 hm)] at CM
    have HYES : Hid (G = some (ofR name S l)) := Lib.hid (by rw [HG.out]; exact if_pos hm)
    clear hm HMAY HG HSM
    go_enter Tryd.func21, Tryd.ntmps21
    go_wp2_with fail
    rw [← HW1.out]
    refine CM.mono ?_
    rintro e W2 ⟨rfl, hb2⟩
    have HK2 : Hid (Kept w W2) := Lib.hid ((show Kept w W1 from HK1.out).then hb2)
    have HA2 := Lib.hid (HA1.out.later hb2)
    have HB2 := Lib.hid (HB1.out.later hb2)
    clear hb2 CM c0 c1 c2 c3 c4 HA1 HB1 HK1 HW1
    go_wp2_with fail
    refine (CO _).mono ?_
    rintro e W3 ⟨rfl, hb3⟩
    have HK3 : Hid (Kept w W3) := Lib.hid ((show Kept w W2 from HK2.out).then hb3)
    have HA3 := Lib.hid (HA2.out.later hb3)
    have HB3 := Lib.hid (HB2.out.later hb3)
    clear hb3 CO HA2 HB2 HK2
    go_wp2_with fail
    refine (CP _).mono ?_
    rintro e W4 ⟨rfl, rfl⟩
    have f2 := HB3.out.fz 2
    have f3 := HB3.out.fz 3
    have e2 := HB3.out.c2
    have e3 := HB3.out.c3
    obtain ⟨W5, hW5⟩ : ∃ W, W = (W3.setCell ⟨w.heap.size + 1, 2, none⟩ (.int .i64 x)).setCell ⟨w.heap.size + 1, 3, none⟩ (.int .i64 y) := ⟨_, rfl⟩
    have HW5 := Lib.hid hW5
    have hbt5 : ButBy (fun k => k = w.heap.size + 1) W3 W5 := by rw [hW5]; exact ((but_refl (fun k => k = w.heap.size + 1) W3).setCell _ _ _ rfl).setCell _ _ _ rfl
    have HK5 : Hid (Kept w W5) := Lib.hid (ButBy.kept hbt5 (fun m hm => by omega) HK3.out HK3.out.size)
    have HA5 : Hid (Row5 w.heap.size (.string ⟨#[]⟩) (.int .i64 0) (.int .i64 0) (.int .i64 0) (.slice none 0 0) W5) := Lib.hid ⟨by rw [hbt5.block _ (Array.getElem?_eq_some_iff.1 HA3.out.row).1 (by omega)]; exact HA3.out.row⟩
    have HB5 : Hid (Row5 (w.heap.size + 1) (.string N) (.int .i64 (z : Int)) (.int .i64 x) (.int .i64 y) (.slice p n c) W5) := Lib.hid ⟨by
      rw [hW5]; exact heap_setCell_same _ _ _ _ _ _ (heap_setCell_same _ _ _ _ _ _ HB3.out.row)⟩
    have CL := CC.out W5 (HU.out.later HK5.out)
    rw [HTV.out] at CL
    clear hW5 hbt5 HK3 HA3 HB3 CP CC
    go_wp2_with fail
    rw [← HW5.out]
    refine CL.mono ?_
    rintro e W6 ⟨v6, rfl, hown6, hb6⟩
    have HK6 : Hid (Kept w W6) := Lib.hid ((show Kept w W5 from HK5.out).then hb6)
    have HA6 := Lib.hid (HA5.out.later hb6)
    have HB6 := Lib.hid (HB5.out.later hb6)
    obtain ⟨p6, c6, hv6, -, -⟩ := own_slice hown6
    rw [← HN0.out] at hv6
    subst hv6
    have HO6 := Lib.hid hown6
    have HBS : Hid (w.heap.size + 1 < W5.heap.size) := Lib.hid (Array.getElem?_eq_some_iff.1 HB5.out.row).1
    have g4 := HB6.out.fz 4
    have h4 := HB6.out.c4
    clear hb6 hown6 CL HK5 HA5 HB5 HW5 f2 f3 e2 e3
    go_wp2_with (with_reducible refine wpList_halt (d := 42) rfl ?_)
    unfold Halted
    obtain ⟨W7, hW7⟩ : ∃ W, W = W6.setCell ⟨w.heap.size + 1, 4, none⟩ (.slice p6 n c6) := ⟨_, rfl⟩
    rw [← hW7]
    have hbt7 : ButBy (fun k => k = w.heap.size + 1) W6 W7 := by rw [hW7]; exact (but_refl (fun k => k = w.heap.size + 1) W6).setCell _ _ _ rfl
    have HK7 : Hid (Kept w W7) := Lib.hid (ButBy.kept hbt7 (fun m hm => by omega) HK6.out HK6.out.size)
    have HA7 : Hid (Row5 w.heap.size (.string ⟨#[]⟩) (.int .i64 0) (.int .i64 0) (.int .i64 0) (.slice none 0 0) W7) := Lib.hid ⟨by rw [hbt7.block _ (Array.getElem?_eq_some_iff.1 HA6.out.row).1 (by omega)]; exact HA6.out.row⟩
    have HB7 : Hid (Row5 (w.heap.size + 1) (.string N) (.int .i64 (z : Int)) (.int .i64 x) (.int .i64 y) (.slice p6 n c6) W7) := Lib.hid ⟨by
      rw [hW7]; exact heap_setCell_same _ _ _ _ _ _ HB6.out.row⟩
    have HO7 : Hid (W7.ownsRow W5.heap.size 53 1 (.slice p6 n c6) l.length (flatR uL l)) := Lib.hid (own_stay HO6.out (fun k hk => hbt7.block _ (HO6.out.lt k hk).2 (by have := (HO6.out.lt k hk).1; have := HBS.out; omega)))
    clear hW7 hbt7 HK6 HA6 HB6 HO6 g4 h4
    have e0 := HB7.out.c0
    have e1 := HB7.out.c1
    have e2 := HB7.out.c2
    have e3 := HB7.out.c3
    have e4 := HB7.out.c4
    have g0 := HA7.out.c0
    have g1 := HA7.out.c1
    have g2 := HA7.out.c2
    have g3 := HA7.out.c3
    have g4 := HA7.out.c4
    have f0 := HA7.out.fz 0
    have f1 := HA7.out.fz 1
    have f2 := HA7.out.fz 2
    have f3 := HA7.out.fz 3
    have f4 := HA7.out.fz 4
    go_wp2
    refine bodyPost_ret (results_cell_tmp_rowQ Tryd.results21 _ _ w.heap.size 24 #[.string N, .int .i64 (z : Int), .int .i64 x, .int .i64 y, .slice p6 n c6] (0, 0) _ rfl (set5_rowQ HA7.out.row _ _ _ _ _) Tryd.underlying24 rfl infoRp) rfl ?_
    have hbt8 : ButBy (fun k => k = w.heap.size) W7 _ := but_set5Q (w := W7) (g := w.heap.size) (.string N) (.int .i64 (z : Int)) (.int .i64 x) (.int .i64 y) (.slice p6 n c6)
    have hk := below_set5Q (show Below w.heap.size w W7 from HK7.out) HK7.out.size (Nat.le_refl _) (.string N) (.int .i64 (z : Int)) (.int .i64 x) (.int .i64 y) (.slice p6 n c6)
    refine ⟨⟨_, by rw [HYES.out]; rfl, fun W hW _ => ?_⟩, hk⟩
    rw [HYES.out]
    have ho8 := own_stay HO7.out (fun k hk => hbt8.block _ (HO7.out.lt k hk).2 (by have := (HO7.out.lt k hk).1; have := HBS.out; omega))
    refine ⟨.slice p6 n c6, congrArg Value.agg (congrFun HX.out (.slice p6 n c6)).symm, RowsAt.own encU HU.out.good (own_stay ho8 (fun k hk => hW k ?_ (ho8.lt k hk).2)), HWF.out⟩
    have := (ho8.lt k hk).1; have := HBS.out; omega
  · have CM := HMAY.out
    rw [if_neg (fun h => hm (HSM.out.1 h))] at CM
    have HNO : Hid (G = none) := Lib.hid (by rw [HG.out]; exact if_neg hm)
    clear hm HMAY HG HSM CO CP CC
    go_enter Tryd.func21, Tryd.ntmps21
    go_wp2_with fail
    rw [← HW1.out]
    refine CM.mono ?_
    rintro e W2 ⟨rfl, hb2⟩
    have HK2 : Hid (Kept w W2) := Lib.hid ((show Kept w W1 from HK1.out).then hb2)
    have HA2 := Lib.hid (HA1.out.later hb2)
    clear hb2 CM c0 c1 c2 c3 c4 HA1 HB1 HK1 HW1
    have g0 := HA2.out.c0
    have g1 := HA2.out.c1
    have g2 := HA2.out.c2
    have g3 := HA2.out.c3
    have g4 := HA2.out.c4
    have f0 := HA2.out.fz 0
    have f1 := HA2.out.fz 1
    have f2 := HA2.out.fz 2
    have f3 := HA2.out.fz 3
    have f4 := HA2.out.fz 4
    go_wp2
    refine bodyPost_ret (results_cell_tmp_rowQ Tryd.results21 _ _ w.heap.size 24 #[.string ⟨#[]⟩, .int .i64 0, .int .i64 0, .int .i64 0, .slice none 0 0] (0, 0) _ rfl (set5_rowQ HA2.out.row _ _ _ _ _) Tryd.underlying24 rfl infoRp) rfl ?_
    have hk := below_set5Q (show Below w.heap.size w W2 from HK2.out) HK2.out.size (Nat.le_refl _) (.string ⟨#[]⟩) (.int .i64 0) (.int .i64 0) (.int .i64 0) (.slice none 0 0)
    refine ⟨⟨_, by rw [HNO.out]; rfl, fun W _ _ => ?_⟩, hk⟩
    rw [HNO.out]
    exact RpIs.zero _

end Go.Proofs.YtijdbmapdmhknaaDoor
