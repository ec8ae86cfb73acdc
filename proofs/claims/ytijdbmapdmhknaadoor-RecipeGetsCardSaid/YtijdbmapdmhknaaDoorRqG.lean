/- The document's Get. -/
import Derived.Test.YtijdbmapdmhknaaDoorRqK
import Derived.Test.YtijdbmapdmhknaaDoorRqV
import Derived.Test.YtijdbmapdmhknaaDoorGD
import Derived.Deep.LoopGhost
namespace Go.Proofs.YtijdbmapdmhknaaDoor
open Go.RowKit

theorem rnumQ (b : Nat) (s : RdSt) (k : Nat) (i : Int) (hi : i = k) (hk : k ≤ 8) (q : Nat) (s' : RdSt) (hT : numR s k = (q, s')) (w : World) (h : RfAt b s w) :
    Calls Tryd.prog 43 #[.pointer (some ⟨b, 0, none⟩), .int .i64 i] w (RfPost b (.int .u64 (q : Nat)) s' w) := by
  subst hi
  have h2 := rnum_any b s k hk w h
  rw [hT] at h2
  exact h2
theorem numR_erQ {s : RdSt} {k : Nat} (h : (numR s k).2.2 = 0) : s.2 = 0 := (numR_ok (s := s) (k := k) (n := (numR s k).1) (l := (numR s k).2.1) (by rw [← h])).1
theorem mansR_er : ∀ (k : Nat) (s : RdSt) (acc : List Nat), (mansR k s acc).2.2 = 0 → s.2 = 0
  | 0, _, _, h => h
  | k + 1, _, _, h => numR_erQ (mansR_er k _ _ h)
theorem mansR_lt : ∀ (k : Nat) (s : RdSt) (acc : List Nat), (∀ m ∈ acc, m < 4294967296) → ∀ m ∈ (mansR k s acc).1, m < 4294967296
  | 0, _, _, h => h
  | k + 1, s, acc, h => mansR_lt k _ _ (fun m hm => by
    rcases List.mem_append.1 hm with x | x
    · exact h m x
    · rw [List.mem_singleton.1 x]; exact numR_lt s 4)
theorem mansR_len : ∀ (k : Nat) (s : RdSt) (acc : List Nat), (mansR k s acc).1.length = acc.length + k
  | 0, _, _ => rfl
  | k + 1, s, acc => by
    show (mansR k _ (acc ++ [_])).1.length = _
    rw [mansR_len k, List.length_append]; simp; omega
theorem sgnQ_is (n : Nat) (h : n < 4294967296) : -2147483648 ≤ sgnQ n ∧ sgnQ n ≤ 2147483647 := by
  unfold sgnQ
  split <;> omega
theorem textR_few (s : RdSt) : (textR s).1.length ≤ 65536 := by
  unfold textR takeR
  have h : (lenR s 65536).1 ≤ 65536 := by
    unfold lenR
    split
    · exact Nat.zero_le _
    · rename_i h; omega
  split
  · exact Nat.zero_le _
  · split
    · exact Nat.zero_le _
    · split
      · exact Nat.zero_le _
      · simp; omega
theorem text_neQ {a b : ByteArray} (h : a ≠ b) : (a.toList == b.toList) = false := by
  rw [Lib.toList_data, Lib.toList_data, beq_eq_false_iff_ne]
  exact fun e => h (ByteArray.ext (Array.ext' e))
/-- A recipe that is made, in the block b5, beside the result's block. -/
structure QI (w : World) (b5 base : Nat) (x0 x1 x2 x3 tv : Value) (l : List Nat) (wx : World) : Prop where
  kept : Kept w wx
  size : base ≤ wx.heap.size
  row0 : Row5 w.heap.size (.string ⟨#[]⟩) (.int .i64 0) (.int .i64 0) (.int .i64 0) (.slice none 0 0) wx
  row5 : Row5 b5 x0 x1 x2 x3 tv wx
  own : wx.ownsRow base 53 1 tv l.length (flatR uL l)
  ord : w.heap.size < base ∧ b5 < base ∧ w.heap.size < b5
section
variable {w wx wy wd w6 : World} {b5 base br : Nat} {x0 x1 x2 x3 tv v' : Value} {l : List Nat} {s : RdSt} {XA : Array Value} {q : Nat}
theorem QI.later (h : QI w b5 base x0 x1 x2 x3 tv l wx) (k : Kept wx wy) : QI w b5 base x0 x1 x2 x3 tv l wy :=
  ⟨h.kept.then k, Nat.le_trans h.size k.size, h.row0.later k, h.row5.later k, own_stay h.own (fun m hm => k.block m (h.own.lt m hm).2), h.ord⟩
/-- Behind another's writing: the block br alone, below base, beside both. -/
theorem QI.grown (h : QI w b5 base x0 x1 x2 x3 tv l wx) (k : wx.grownBy wy (some br)) (hb : br < base ∧ br ≠ b5 ∧ w.heap.size < br) : QI w b5 base x0 x1 x2 x3 tv l wy := by
  have h0 := (Array.getElem?_eq_some_iff.1 h.row0.row).1
  have h5 := (Array.getElem?_eq_some_iff.1 h.row5.row).1
  refine ⟨below_touch h.kept k h.kept.size (by omega), Nat.le_trans h.size k.size, ⟨?_⟩, ⟨?_⟩, own_stay h.own (fun m hm => k.block m (h.own.lt m hm).2 (fun e => by have := (h.own.lt m hm).1; have := Option.some.inj e; omega)), h.ord⟩
  · rw [k.block _ h0 (fun e => by have := Option.some.inj e; omega)]; exact h.row0.row
  · rw [k.block _ h5 (fun e => by have := Option.some.inj e; omega)]; exact h.row5.row
theorem QI.set (h : QI w b5 base x0 x1 x2 x3 tv l wx) (j : Nat) (y : Value) {y0 y1 y2 y3 : Value} (hr : Row5 b5 y0 y1 y2 y3 tv (wx.setCell ⟨b5, j, none⟩ y)) : QI w b5 base y0 y1 y2 y3 tv l (wx.setCell ⟨b5, j, none⟩ y) := by
  have hord := h.ord
  refine ⟨below_touch h.kept (grown_set _ _ _ _) h.kept.size (by omega), ?_, ⟨?_⟩, hr, own_stay h.own (fun m hm => heap_setCell_other _ _ _ _ (by show m ≠ b5; have := (h.own.lt m hm).1; omega)), hord⟩
  · have := h.size
    show base ≤ (wx.heap.modify _ _).size
    rw [Array.size_modify]; omega
  · rw [heap_setCell_other _ _ _ _ (by show w.heap.size ≠ b5; omega)]; exact h.row0.row
theorem QI.set0 (h : QI w b5 base x0 x1 x2 x3 tv l wx) (y : Value) : QI w b5 base y x1 x2 x3 tv l (wx.setCell ⟨b5, 0, none⟩ y) := h.set 0 y ⟨heap_setCell_same _ _ _ _ _ _ h.row5.row⟩
theorem QI.set2 (h : QI w b5 base x0 x1 x2 x3 tv l wx) (y : Value) : QI w b5 base x0 x1 y x3 tv l (wx.setCell ⟨b5, 2, none⟩ y) := h.set 2 y ⟨heap_setCell_same _ _ _ _ _ _ h.row5.row⟩
theorem QI.set3 (h : QI w b5 base x0 x1 x2 x3 tv l wx) (y : Value) : QI w b5 base x0 x1 x2 y tv l (wx.setCell ⟨b5, 3, none⟩ y) := h.set 3 y ⟨heap_setCell_same _ _ _ _ _ _ h.row5.row⟩
/-- A manifest's number is appended. -/
theorem QI.app (h : QI w b5 base x0 x1 x2 x3 tv l wd)
    (ho6 : w6.ownsRow base 53 1 v' (l.length + 1) (flatR uL l ++ uL q)) (hg : (wd.alloc (.cells XA 53)).grownBy w6 tv.ownBlock) :
    Row5 b5 x0 x1 x2 x3 tv w6 ∧ Kept w w6 ∧ QI w b5 base x0 x1 x2 x3 v' (l ++ [q]) (w6.setCell ⟨b5, 4, none⟩ v') := by
  have hka : Kept wd (wd.alloc (.cells XA 53)) := box_below _ _
  have hl0 := (Array.getElem?_eq_some_iff.1 h.row0.row).1
  have hl5 := (Array.getElem?_eq_some_iff.1 h.row5.row).1
  have nb : ∀ m, tv.ownBlock = some m → base ≤ m := fun m hm => (h.own.lt m hm).1
  have nb' : ∀ m, v'.ownBlock = some m → base ≤ m := fun m hm => (ho6.lt m hm).1
  have hb6 : ButBy (fun m => tv.ownBlock = some m) wd w6 := ⟨hg.os.trans hka.os, hg.tape.trans hka.tape, hg.output.trans hka.output, Nat.le_trans hka.size hg.size, fun m hm hn => (hg.block m (Nat.lt_of_lt_of_le hm hka.size) (fun e => hn e.symm)).trans (hka.block m hm)⟩
  have h5 := (hb6.block b5 hl5 (fun e => by have := nb _ e; have := h.ord; omega)).trans h.row5.row
  have h0 := (hb6.block _ hl0 (fun e => by have := nb _ e; have := h.ord; omega)).trans h.row0.row
  have hk6 : Kept w w6 := ButBy.kept hb6 (fun m hm => by have := nb m hm; have := h.ord; omega) h.kept h.kept.size
  have hord := h.ord
  refine ⟨⟨h5⟩, hk6, below_touch hk6 (grown_set _ _ _ _) hk6.size (by omega), ?_, ⟨?_⟩, ⟨heap_setCell_same w6 b5 4 #[x0, x1, x2, x3, tv] 24 v' h5⟩, ?_, hord⟩
  · have := hb6.size
    have := h.size
    show base ≤ (w6.heap.modify _ _).size
    rw [Array.size_modify]; omega
  · rw [heap_setCell_other _ _ _ _ (by show w.heap.size ≠ b5; omega)]; exact h0
  · have e1 : (l ++ [q]).length = l.length + 1 := by simp
    rw [e1, ← flatR_snoc]
    exact own_stay ho6 (fun m hm => heap_setCell_other _ _ _ _ (by show m ≠ b5; have := nb' m hm; omega))
theorem rd_appQ (hr : RfAt br s wd) (h : QI w b5 base x0 x1 x2 x3 tv l wd) (hb : br < base ∧ br ≠ b5)
    (hg : (wd.alloc (.cells XA 53)).grownBy w6 tv.ownBlock) : RfAt br s (w6.setCell ⟨b5, 4, none⟩ v') :=
  RfAt.later (RfAt.later (hr.later (w' := wd.alloc (.cells XA 53)) (r := none) (grown_below ((Below.refl _ _).alloc (Nat.le_refl _) _) none) (by simp)) hg (fun e => by have := (h.own.lt br e.symm).1; omega)) (grown_set _ _ _ _) (fun e => hb.2 (Option.some.inj e))
/-- The value of a recipe that is made. -/
theorem QI.is {r : Rp} {sz a b : Int} (h : QI w b5 base (.string (str r.name)) (.int .i64 sz) (.int .i64 a) (.int .i64 b) tv r.mans wx) (hs : r.size = sz) (ha : r.re = a) (hb : r.im = b) (hwf : r.wf) (hok : ∀ m ∈ r.mans, m < 4294967296) : RpIs r (.agg #[.string (str r.name), .int .i64 sz, .int .i64 a, .int .i64 b, tv]) wx :=
  ⟨tv, by unfold rpC; rw [hs, ha, hb], RowsAt.own encU hok h.own, hwf⟩
/-- Handed back: the five cells copied into the result's block. -/
theorem QI.done {r : Rp} {sz a b : Int} (h : QI w b5 base (.string (str r.name)) (.int .i64 sz) (.int .i64 a) (.int .i64 b) tv r.mans wx) (hs : r.size = sz) (ha : r.re = a) (hb : r.im = b) (hwf : r.wf) (hok : ∀ m ∈ r.mans, m < 4294967296) :
    RpIs r (.agg #[.string (str r.name), .int .i64 sz, .int .i64 a, .int .i64 b, tv]) (((((wx.setCell ⟨w.heap.size, 0, none⟩ (.string (str r.name))).setCell ⟨w.heap.size, 1, none⟩ (.int .i64 sz)).setCell ⟨w.heap.size, 2, none⟩ (.int .i64 a)).setCell ⟨w.heap.size, 3, none⟩ (.int .i64 b)).setCell ⟨w.heap.size, 4, none⟩ tv) :=
  ⟨tv, by unfold rpC; rw [hs, ha, hb], RowsAt.own encU hok (own_stay h.own (fun m hm => (but_set5Q (w := wx) (g := w.heap.size) _ _ _ _ tv).block m (h.own.lt m hm).2 (fun e => by have := (h.own.lt m hm).1; have := h.ord; omega))), hwf⟩
end

set_option maxRecDepth 100000 in
set_option maxHeartbeats 32000000 in
theorem rget16_any (t : ByteArray) (ht : t.size ≤ 1000000) (w : World) :
    Calls Tryd.prog 19 #[.string t] w fun e w' => (∃ v, e = .returned (.tuple #[v, .bool (getQ t.data.toList).isSome]) ∧ RpIs ((getQ t.data.toList).getD Rp.zero) v w') ∧ Kept w w' := by
  obtain ⟨ir, hir, hx⟩ := Option.map_eq_some_iff.1 info_u32
  simp only [Prod.mk.injEq] at hx
  obtain ⟨hz0, hz1, hz2⟩ := hx
  have HIR := Lib.hid hir
  have HZ0 := Lib.hid hz0
  have HZ1 := Lib.hid hz1
  have HZ2 := Lib.hid hz2
  obtain ⟨S, hS⟩ : ∃ S, S = t.data.toList := ⟨_, rfl⟩
  have hSl : S.length ≤ 1000000 := by rw [hS, data_len]; exact ht
  have hts : t = str S := by rw [hS, str_data]
  obtain ⟨G, hG⟩ : ∃ G, G = getQ S := ⟨_, rfl⟩
  rw [← hS, ← hG]
  have HTS := Lib.hid hts
  obtain ⟨W2, hW2⟩ : ∃ W, W = (w.alloc (.cells #[.string ⟨#[]⟩, .int .i64 0, .int .i64 0, .int .i64 0, .slice none 0 0] 24)).alloc (.cells #[.string t, .int .i64 0, .int .i64 0] 78) := ⟨_, rfl⟩
  have HW2 := Lib.hid hW2
  have hk2 : Kept w W2 := by rw [hW2]; exact (show Kept w _ from box_below _ _).then (box_below _ _)
  have hrow0 : Row5 w.heap.size (.string ⟨#[]⟩) (.int .i64 0) (.int .i64 0) (.int .i64 0) (.slice none 0 0) W2 := ⟨by
    rw [hW2]
    exact Kept.row (box_below _ _) (heap_alloc_last w _)⟩
  have hrd : RfAt (w.heap.size + 1) (S, 0) W2 := by
    have := heap_alloc_last (w.alloc (.cells #[.string ⟨#[]⟩, .int .i64 0, .int .i64 0, .int .i64 0, .slice none 0 0] 24)) (.cells #[.string t, .int .i64 0, .int .i64 0] 78)
    have e : (w.alloc (.cells #[.string ⟨#[]⟩, .int .i64 0, .int .i64 0, .int .i64 0, .slice none 0 0] 24)).heap.size = w.heap.size + 1 := by simp
    rw [e, hts] at this
    exact ⟨S, 0, by rw [hW2, hts]; exact this, rfl, Nat.zero_le _, hSl⟩
  obtain ⟨br, hbr⟩ : ∃ br, br = w.heap.size + 1 := ⟨_, rfl⟩
  have HBRE := Lib.hid hbr
  rw [← hbr] at hrd
  have HK2 := Lib.hid hk2
  have HROW := Lib.hid hrow0
  have HRD := Lib.hid hrd
  obtain ⟨sz, hsz⟩ : ∃ x, x = (rqZ S).1 := ⟨_, rfl⟩
  have hszl : sz < 4294967296 := by rw [hsz]; exact numR_lt _ 4
  obtain ⟨re, hre⟩ : ∃ x, x = (rqR S).1 := ⟨_, rfl⟩
  have hrel' : re < 4294967296 := by rw [hre]; exact numR_lt _ 4
  obtain ⟨im, him⟩ : ∃ x, x = (rqI S).1 := ⟨_, rfl⟩
  have himl : im < 4294967296 := by rw [him]; exact numR_lt _ 4
  obtain ⟨nm, hnm⟩ : ∃ x, x = (rqN S).1 := ⟨_, rfl⟩
  have hnml : nm.length ≤ 65536 := by rw [hnm]; exact textR_few _
  obtain ⟨n, hn⟩ : ∃ x, x = (rqC S).1 := ⟨_, rfl⟩
  have hnl : n < 65536 := by rw [hn]; exact numR_lt _ 2
  have q0 : rqZ S = (sz, (rqZ S).2) := by rw [hsz]
  have q1 : rqR S = (re, (rqR S).2) := by rw [hre]
  have q2 : rqI S = (im, (rqI S).2) := by rw [him]
  have q3 : rqN S = (nm, (rqN S).2) := by rw [hnm]
  have q4 : rqC S = (n, (rqC S).2) := by rw [hn]
  obtain ⟨FIN, hFIN⟩ : ∃ x, x = rqM S := ⟨_, rfl⟩
  have HFIN : Hid (mansR n (rqC S).2 [] = FIN) := Lib.hid (by rw [hFIN, hn]; rfl)
  have HRQ : Hid (readQ S = ⟨nm, (sz : Int), sgnQ re, sgnQ im, FIN.1⟩) := Lib.hid (by unfold readQ; rw [hsz, hre, him, hnm, hFIN])
  have HNO0 : Hid (FIN.2.2 ≠ 0 → G = none) := Lib.hid (fun h => by
    rw [hG]
    exact if_neg (fun ok => h (by rw [hFIN]; exact ok.1)))
  have HNO1 : Hid (¬ (mayQ (readQ S) ∧ recpB (readQ S) = S) → G = none) := Lib.hid (fun h => by
    rw [hG]
    exact if_neg (fun ok => h ok.2))
  have HYES0 : Hid (FIN.2.2 = 0 → mayQ (readQ S) → recpB (readQ S) = S → G = some (readQ S)) := Lib.hid (fun h1 h2 h3 => by
    rw [hG]
    exact if_pos ⟨by rw [← hFIN]; exact h1, h2, h3⟩)
  have HWFR : Hid (Rp.wf ⟨nm, (sz : Int), sgnQ re, sgnQ im, FIN.1⟩) := Lib.hid (by
    have a := sgnQ_is re hrel'
    have b := sgnQ_is im himl
    refine ⟨?_, ?_, ?_, ?_⟩
    · show nm.length ≤ maxLen
      unfold maxLen; omega
    · exact ⟨by simp only; omega, by simp only; omega⟩
    · exact ⟨by simp only; omega, by simp only; omega⟩
    · exact ⟨by simp only; omega, by simp only; omega⟩)
  have HOKM : Hid (∀ m ∈ FIN.1, m < 4294967296) := Lib.hid (by rw [hFIN]; exact mansR_lt _ _ _ (fun m hm => by cases hm))
  have HFL : Hid (FIN.1.length = n) := Lib.hid (by rw [hFIN, hn]; show (mansR _ _ []).1.length = _; rw [mansR_len]; simp)
  have u0 : IntKind.i64.wrap (sz : Int) = (sz : Int) := IntWalk.i64_in _ (by omega)
  have CSR := fun W => rsigned_any re hrel' W
  have CSI := fun W => rsigned_any im himl W
  obtain ⟨sr, hsr⟩ : ∃ x, x = sgnQ re := ⟨_, rfl⟩
  obtain ⟨si, hsi⟩ : ∃ x, x = sgnQ im := ⟨_, rfl⟩
  rw [← hsr] at CSR HRQ HWFR
  rw [← hsi] at CSI HRQ HWFR
  have Q0 := Lib.hid q0
  have Q1 := Lib.hid q1
  have Q2 := Lib.hid q2
  have Q3 := Lib.hid q3
  have Q4 := Lib.hid q4
  have HNL := Lib.hid hnl
  have HNML := Lib.hid hnml
  obtain ⟨N, hN⟩ : ∃ N, N = str nm := ⟨_, rfl⟩
  have HN := Lib.hid hN
  clear hir hz0 hz1 hz2 hG hts hS hSl ht hW2 hk2 hrow0 hrd hbr hsz hszl hre hrel' him himl hnm hnml hn q0 q1 q2 q3 q4 hFIN hsr hsi hN
  go_enter Tryd.func19, Tryd.ntmps19
  go_wp2_with fail
  rw [← HW2.out]
  rw [← HBRE.out]
  refine (rtake_any br (S, 0) 4 (by decide) W2 HRD.out).mono ?_
  rintro e W3 ⟨rfl, hr3, hb3⟩
  have HR3 : Hid (RfAt br (rqA S) W3) := Lib.hid hr3
  have HK3 : Hid (Kept w W3) := Lib.hid (below_touch (show Below w.heap.size w W2 from HK2.out) hb3 HK2.out.size (by have := HBRE.out; omega))
  have HROW3 : Hid (Row5 w.heap.size (.string ⟨#[]⟩) (.int .i64 0) (.int .i64 0) (.int .i64 0) (.slice none 0 0) W3) := Lib.hid ⟨by rw [hb3.block _ (Array.getElem?_eq_some_iff.1 HROW.out.row).1 (fun e => by have := Option.some.inj e; have := HBRE.out; omega)]; exact HROW.out.row⟩
  clear hr3 hb3 HRD HK2 HROW
  go_wp2_with fail
  refine (rnumQ br (rqA S) 4 4 rfl (by omega) sz (rqZ S).2 Q0.out W3 HR3.out).mono ?_
  rintro e W4 ⟨rfl, hr4, hb4⟩
  have HR4 : Hid (RfAt br (rqZ S).2 W4) := Lib.hid hr4
  have HK4 : Hid (Kept w W4) := Lib.hid (below_touch (show Below w.heap.size w W3 from HK3.out) hb4 HK3.out.size (by have := HBRE.out; omega))
  have HROW4 : Hid (Row5 w.heap.size (.string ⟨#[]⟩) (.int .i64 0) (.int .i64 0) (.int .i64 0) (.slice none 0 0) W4) := Lib.hid ⟨by rw [hb4.block _ (Array.getElem?_eq_some_iff.1 HROW3.out.row).1 (fun e => by have := Option.some.inj e; have := HBRE.out; omega)]; exact HROW3.out.row⟩
  clear hr4 hb4 HR3 HK3 HROW3
  obtain ⟨b5, hb5⟩ : ∃ b5, b5 = W4.heap.size := ⟨_, rfl⟩
  have HB5 := Lib.hid hb5
  obtain ⟨W5, hW5⟩ : ∃ W5, W5 = W4.alloc (.cells #[.string ⟨#[]⟩, .int .i64 (sz : Nat), .int .i64 0, .int .i64 0, .slice none 0 0] 24) := ⟨_, rfl⟩
  have HW5 := Lib.hid hW5
  have hk5 : Kept W4 W5 := by rw [hW5]; exact box_below _ _
  have hlt : br < b5 := by rw [hb5]; exact HR4.out.lt
  have HBR : Hid (br < b5 + 1 ∧ br ≠ b5 ∧ w.heap.size < br) := Lib.hid ⟨by omega, by omega, by have := HBRE.out; omega⟩
  have HI5 : Hid (QI w b5 (b5 + 1) (.string ⟨#[]⟩) (.int .i64 (sz : Nat)) (.int .i64 0) (.int .i64 0) (.slice none 0 0) [] W5) := Lib.hid (by
    refine ⟨HK4.out.then hk5, by rw [hW5, hb5]; simp, HROW4.out.later hk5, ⟨by rw [hW5, hb5]; exact heap_alloc_last W4 _⟩, World.ownsRow_nil _ _ _ _, ?_⟩
    have := HBRE.out
    omega)
  have HR5 : Hid (RfAt br (rqZ S).2 W5) := Lib.hid (HR4.out.later (grown_below hk5 none) (by simp))
  clear hb5 hW5 hk5 hlt HR4 HK4 HROW4
  go_wp2_with fail
  rw [← HB5.out]
  rw [← HW5.out]
  refine (rnumQ br (rqZ S).2 4 4 rfl (by omega) re (rqR S).2 Q1.out W5 HR5.out).mono ?_
  rintro e W6 ⟨rfl, hr6, hb6⟩
  have HI6 := Lib.hid (HI5.out.grown hb6 HBR.out)
  have HR6 := Lib.hid hr6
  clear hr6 hb6 HI5 HR5
  go_wp2_with fail
  refine (CSR W6).mono ?_
  rintro e W6' ⟨rfl, rfl⟩
  have c2 := HI6.out.row5.c2
  have f2 := HI6.out.row5.fz 2
  have HI7 := Lib.hid (HI6.out.set2 (.int .i64 sr))
  have HR7 : Hid (RfAt br (rqR S).2 (W6.setCell ⟨b5, 2, none⟩ (.int .i64 sr))) := Lib.hid (HR6.out.later (grown_set _ _ _ _) (fun e => HBR.out.2.1 (Option.some.inj e)))
  clear HI6 HR6
  go_wp2_with fail
  refine (rnumQ br (rqR S).2 4 4 rfl (by omega) im (rqI S).2 Q2.out _ HR7.out).mono ?_
  rintro e W8 ⟨rfl, hr8, hb8⟩
  have HI8 := Lib.hid (HI7.out.grown hb8 HBR.out)
  have HR8 := Lib.hid hr8
  clear hr8 hb8 HI7 HR7 c2 f2
  go_wp2_with fail
  refine (CSI W8).mono ?_
  rintro e W8' ⟨rfl, rfl⟩
  have c3 := HI8.out.row5.c3
  have f3 := HI8.out.row5.fz 3
  have HI9 := Lib.hid (HI8.out.set3 (.int .i64 si))
  have HR9 : Hid (RfAt br (rqI S).2 (W8.setCell ⟨b5, 3, none⟩ (.int .i64 si))) := Lib.hid (HR8.out.later (grown_set _ _ _ _) (fun e => HBR.out.2.1 (Option.some.inj e)))
  clear HI8 HR8
  go_wp2_with fail
  have CT := rtext_any br (rqI S).2 _ HR9.out
  rw [show textR (rqI S).2 = (nm, (rqN S).2) from Q3.out, ← HN.out] at CT
  refine CT.mono ?_
  rintro e W10 ⟨rfl, hr10, hb10⟩
  have HI10 := Lib.hid (HI9.out.grown hb10 HBR.out)
  have HR10 := Lib.hid hr10
  clear hr10 hb10 HI9 HR9 CT c3 f3
  have c0 := HI10.out.row5.c0
  have f0 := HI10.out.row5.fz 0
  have HI11 := Lib.hid (HI10.out.set0 (.string N))
  have HR11 : Hid (RfAt br (rqN S).2 (W10.setCell ⟨b5, 0, none⟩ (.string N))) := Lib.hid (HR10.out.later (grown_set _ _ _ _) (fun e => HBR.out.2.1 (Option.some.inj e)))
  clear HI10 HR10
  go_wp2_with fail
  refine (rnumQ br (rqN S).2 2 2 rfl (by omega) n (rqC S).2 Q4.out _ HR11.out).mono ?_
  rintro e W12 ⟨rfl, hr12, hb12⟩
  have HI12 := Lib.hid (HI11.out.grown hb12 HBR.out)
  have HR12 := Lib.hid hr12
  clear hr12 hb12 HI11 HR11 c0 f0
  go_wp2
  go_loopg [7] n (fun gh y wr => ∃ (k : Nat) (l : List Nat) (tv : Value) (s' : RdSt), k + gh = n ∧ y = .int .u64 k ∧ l.length = k ∧ Hid (QI w b5 (b5 + 1) (.string N) (.int .i64 (sz : Nat)) (.int .i64 sr) (.int .i64 si) tv l wr) ∧ Hid (RfAt br s' wr) ∧ Hid (mansR gh s' l = FIN))
  case atStart => exact ⟨0, [], _, _, by omega, rfl, rfl, HI12, HR12, HFIN⟩
  case round =>
    clear HI12 HR12 HFIN
    obtain ⟨k, l, tv, s', hk, rfl, hlk, HH, HR, HSF⟩ := hrel
    obtain ⟨pv, cv, htv, -, -⟩ := own_slice HH.out.own
    subst htv
    obtain ⟨SS, ii, hin, -⟩ := HR.out
    have ce := hin.c2
    obtain ⟨E, hE⟩ : ∃ E, E = s'.2 := ⟨_, rfl⟩
    rw [← hE] at ce
    clear hin
    have HE := Lib.hid hE
    by_cases hlt : k < n
    · have hki : (k : Int) < n := by omega
      have bk : decide ((k : Int) < (n : Int)) = true := by simpa using hki
      by_cases hE0 : E = 0
      · have be : (E == 0) = true := by simp [hE0]
        obtain ⟨gk', hgk'⟩ : ∃ g, gk = g + 1 := ⟨gk - 1, by omega⟩
        subst hgk'
        have hsf := HSF.out
        rw [mansR] at hsf
        have hq32 : (numR s' 4).1 < 4294967296 := numR_lt s' 4
        obtain ⟨q, hq⟩ : ∃ q, q = (numR s' 4).1 := ⟨_, rfl⟩
        obtain ⟨t1, ht1⟩ : ∃ t, t = (numR s' 4).2 := ⟨_, rfl⟩
        have C1 := Lib.hid (fun W (h : RfAt br s' W) => rnumQ br s' 4 4 rfl (by omega) q t1 (by rw [hq, ht1]) W h)
        rw [← hq, ← ht1] at hsf
        rw [← hq] at hq32
        have HQ32 : Hid (wfU q) := Lib.hid hq32
        have u4 : IntKind.u32.wrap (q : Int) = (q : Int) := IntWalk.u32_in _ (by omega)
        obtain ⟨k1, hk1⟩ : ∃ k1, k1 = k + 1 := ⟨_, rfl⟩
        have v1 : IntKind.u64.wrap ((k : Int) + 1) = (k1 : Int) := by rw [show (k : Int) + 1 = (k1 : Int) by omega]; exact IntWalk.u64_in _ (by have := HNL.out; omega)
        have HK1 := Lib.hid hk1
        replace HSF : Hid (mansR gk' t1 (l ++ [q]) = FIN) := Lib.hid hsf
        have HKLT : Hid (k < 65536 ∧ l.length = k) := Lib.hid ⟨by have := HNL.out; omega, hlk⟩
        have HKL1 : Hid (l.length + 1 = k1) := Lib.hid (by omega)
        have HGK : Hid (k + (gk' + 1) = n) := Lib.hid hk
        have c1 := HH.out.row5.c4
        have HD : Hid (QI w b5 (b5 + 1) (.string N) (.int .i64 (sz : Nat)) (.int .i64 sr) (.int .i64 si) (.slice pv l.length cv) l wr.drew ∧ RfAt br s' wr.drew) := Lib.hid ⟨HH.out.later (show Kept wr wr.drew from (Below.refl _ wr).drew), HR.out⟩
        clear hsf hq32 hq ht1 hk1 hlk HR hk HH hE HE hlt
        go_wp2_with fail
        refine wp_region_held_drew (S := fun _ => True) (by kernel_rfl) trivial (fun hHeld => ?_)
        refine wpAnyH_take (i := 0) (v := ?_) rfl (by kernel_rfl) (by kernel_rfl) (by kernel_rfl) (fun _ _ _ h => h) (Or.inl ⟨by first | kernel_rfl | rfl, ?_⟩) (by assumption) ?_
        case refine_2 => intro w hSw; go_simp; try with_reducible rfl
        refine wpAnyH_take (i := 2) (v := ?_) rfl (by kernel_rfl) (by kernel_rfl) (by kernel_rfl) (fun _ _ _ h => h) (Or.inl ⟨by first | kernel_rfl | rfl, ?_⟩) (by assumption) ?_
        case refine_2 => intro w hSw; go_simp; try with_reducible rfl
        refine wpAnyH_ready (rs := [1, 3]) (by kernel_rfl) (by simp) (AllReadyH.cons rfl (fun K hK => ?_) (AllReadyH.cons rfl (fun K hK => ?_) AllReadyH.nil))
        · go_simp
          refine hK.out _ _ trivial (fun _ => ?_)
          clear hK K
          refine wpAnyH_ready (rs := [3]) (by kernel_rfl) (by simp) (AllReadyH.cons rfl (fun K hK => ?_) AllReadyH.nil)
          go_simp
          refine (C1.out _ HD.out.2).mono ?_
          rintro e w3 ⟨rfl, hr3, hb3⟩
          have HH3 := Lib.hid (HD.out.1.grown hb3 HBR.out)
          have HR3 := Lib.hid hr3
          have c3 := HH3.out.row5.c4
          clear hr3 hb3
          refine hK.out _ _ trivial (fun _ => ?_)
          clear hK K
          refine wpAnyH_take (i := 4) (v := ?_) rfl (by kernel_rfl) (by kernel_rfl) (by kernel_rfl) (fun _ _ _ h => h) (Or.inl ⟨by first | kernel_rfl | rfl, ?_⟩) (by assumption) ?_
          case refine_2 => intro w hSw; go_simp; try with_reducible rfl
          refine wpAnyH_ready (rs := [5]) (by kernel_rfl) (by simp) (AllReadyH.cons rfl (fun K hK => ?_) AllReadyH.nil)
          go_simp
          have HH4 := Lib.hid (HH3.out.later (box_below w3 (.cells #[.int .u32 (q : Nat)] 53)))
          have c4 := HH4.out.row5.c4
          refine hK.out _ _ trivial (fun _ => ?_)
          clear hK K
          refine wpAnyH_ready (rs := [6]) (by kernel_rfl) (by simp) (AllReadyH.cons rfl (fun K hK => ?_) AllReadyH.nil)
          rw [if_pos (by rfl)]
          refine wp_append_flat _ _ 22 rfl (b5 + 1) 53 ir (.int .u32 0) 1 4 Tryd.underlying22 HIR.out HZ0.out HZ1.out HZ2.out rfl (by decide) _ l.length (flatR uL l) ?q0 HH4.out.own _ 1 (uL q) rfl (flat_rec encU w3 53 q HQ32.out _ rfl) ?q1 ?q2 ?q3 ?_
          case q0 => rfl
          case q1 => have := HKLT.out; unfold maxLen; omega
          case q2 => have := HKLT.out; omega
          case q3 => exact HH4.out.size
          intro v' w6 hown6 hg6 _
          obtain ⟨hr6, hk6, hh6⟩ := HH3.out.app hown6 hg6
          have x5 := hr6.c4
          have f5 := hr6.fz 4
          have HR6 := Lib.hid (rd_appQ (v' := v') HR3.out HH3.out ⟨HBR.out.1, HBR.out.2.1⟩ hg6)
          have HH6 := Lib.hid hh6
          obtain ⟨pv', cv', htv', -, -⟩ := own_slice hown6
          rw [HKL1.out] at htv'
          subst htv'
          clear hown6 hg6 hr6 hk6 hh6
          refine hK.out _ _ trivial (fun _ => ?_)
          clear hK K
          refine wpAnyH_take (i := 7) (v := ?_) rfl (by kernel_rfl) (by kernel_rfl) (by kernel_rfl) (fun _ _ _ h => h) (Or.inl ⟨by first | kernel_rfl | rfl, ?_⟩) (by assumption) ?_
          case refine_2 => intro w hSw; go_simp; try with_reducible rfl
          refine wpAnyH_ready (rs := [8]) (by kernel_rfl) (by simp) (AllReadyH.cons rfl (fun K hK => ?_) AllReadyH.nil)
          go_simp
          refine hK.out _ _ trivial (fun _ => ?_)
          clear hK K
          refine wpAnyH_done (by kernel_rfl) ?_ _
          go_wp2
          go_roundg gk'
          · exact ⟨k1, l ++ [q], _, t1, by have := HK1.out; have := HGK.out; omega, by first | rfl | (have := HK1.out; simp; omega), by have := HK1.out; have := HKLT.out; simp; omega, HH6, HR6, HSF⟩
          · have := HGK.out; omega
        · go_simp
          refine (C1.out _ HD.out.2).mono ?_
          rintro e w3 ⟨rfl, hr3, hb3⟩
          have HH3 := Lib.hid (HD.out.1.grown hb3 HBR.out)
          have HR3 := Lib.hid hr3
          have c3 := HH3.out.row5.c4
          clear hr3 hb3
          refine hK.out _ _ trivial (fun _ => ?_)
          clear hK K
          refine wpAnyH_take (i := 4) (v := ?_) rfl (by kernel_rfl) (by kernel_rfl) (by kernel_rfl) (fun _ _ _ h => h) (Or.inl ⟨by first | kernel_rfl | rfl, ?_⟩) (by assumption) ?_
          case refine_2 => intro w hSw; go_simp; try with_reducible rfl
          refine wpAnyH_ready (rs := [1, 5]) (by kernel_rfl) (by simp) (AllReadyH.cons rfl (fun K hK => ?_) (AllReadyH.cons rfl (fun K hK => ?_) AllReadyH.nil))
          · go_simp
            refine hK.out _ _ trivial (fun _ => ?_)
            clear hK K
            refine wpAnyH_ready (rs := [5]) (by kernel_rfl) (by simp) (AllReadyH.cons rfl (fun K hK => ?_) AllReadyH.nil)
            go_simp
            have HH4 := Lib.hid (HH3.out.later (box_below w3 (.cells #[.int .u32 (q : Nat)] 53)))
            have c4 := HH4.out.row5.c4
            refine hK.out _ _ trivial (fun _ => ?_)
            clear hK K
            refine wpAnyH_ready (rs := [6]) (by kernel_rfl) (by simp) (AllReadyH.cons rfl (fun K hK => ?_) AllReadyH.nil)
            rw [if_pos (by rfl)]
            refine wp_append_flat _ _ 22 rfl (b5 + 1) 53 ir (.int .u32 0) 1 4 Tryd.underlying22 HIR.out HZ0.out HZ1.out HZ2.out rfl (by decide) _ l.length (flatR uL l) ?q0 HH4.out.own _ 1 (uL q) rfl (flat_rec encU w3 53 q HQ32.out _ rfl) ?q1 ?q2 ?q3 ?_
            case q0 => rfl
            case q1 => have := HKLT.out; unfold maxLen; omega
            case q2 => have := HKLT.out; omega
            case q3 => exact HH4.out.size
            intro v' w6 hown6 hg6 _
            obtain ⟨hr6, hk6, hh6⟩ := HH3.out.app hown6 hg6
            have x5 := hr6.c4
            have f5 := hr6.fz 4
            have HR6 := Lib.hid (rd_appQ (v' := v') HR3.out HH3.out ⟨HBR.out.1, HBR.out.2.1⟩ hg6)
            have HH6 := Lib.hid hh6
            obtain ⟨pv', cv', htv', -, -⟩ := own_slice hown6
            rw [HKL1.out] at htv'
            subst htv'
            clear hown6 hg6 hr6 hk6 hh6
            refine hK.out _ _ trivial (fun _ => ?_)
            clear hK K
            refine wpAnyH_take (i := 7) (v := ?_) rfl (by kernel_rfl) (by kernel_rfl) (by kernel_rfl) (fun _ _ _ h => h) (Or.inl ⟨by first | kernel_rfl | rfl, ?_⟩) (by assumption) ?_
            case refine_2 => intro w hSw; go_simp; try with_reducible rfl
            refine wpAnyH_ready (rs := [8]) (by kernel_rfl) (by simp) (AllReadyH.cons rfl (fun K hK => ?_) AllReadyH.nil)
            go_simp
            refine hK.out _ _ trivial (fun _ => ?_)
            clear hK K
            refine wpAnyH_done (by kernel_rfl) ?_ _
            go_wp2
            go_roundg gk'
            · exact ⟨k1, l ++ [q], _, t1, by have := HK1.out; have := HGK.out; omega, by first | rfl | (have := HK1.out; simp; omega), by have := HK1.out; have := HKLT.out; simp; omega, HH6, HR6, HSF⟩
            · have := HGK.out; omega
          · go_simp
            have HH4 := Lib.hid (HH3.out.later (box_below w3 (.cells #[.int .u32 (q : Nat)] 53)))
            have c4 := HH4.out.row5.c4
            refine hK.out _ _ trivial (fun _ => ?_)
            clear hK K
            refine wpAnyH_ready (rs := [1]) (by kernel_rfl) (by simp) (AllReadyH.cons rfl (fun K hK => ?_) AllReadyH.nil)
            go_simp
            refine hK.out _ _ trivial (fun _ => ?_)
            clear hK K
            refine wpAnyH_ready (rs := [6]) (by kernel_rfl) (by simp) (AllReadyH.cons rfl (fun K hK => ?_) AllReadyH.nil)
            rw [if_pos (by rfl)]
            refine wp_append_flat _ _ 22 rfl (b5 + 1) 53 ir (.int .u32 0) 1 4 Tryd.underlying22 HIR.out HZ0.out HZ1.out HZ2.out rfl (by decide) _ l.length (flatR uL l) ?q0 HH4.out.own _ 1 (uL q) rfl (flat_rec encU w3 53 q HQ32.out _ rfl) ?q1 ?q2 ?q3 ?_
            case q0 => rfl
            case q1 => have := HKLT.out; unfold maxLen; omega
            case q2 => have := HKLT.out; omega
            case q3 => exact HH4.out.size
            intro v' w6 hown6 hg6 _
            obtain ⟨hr6, hk6, hh6⟩ := HH3.out.app hown6 hg6
            have x5 := hr6.c4
            have f5 := hr6.fz 4
            have HR6 := Lib.hid (rd_appQ (v' := v') HR3.out HH3.out ⟨HBR.out.1, HBR.out.2.1⟩ hg6)
            have HH6 := Lib.hid hh6
            obtain ⟨pv', cv', htv', -, -⟩ := own_slice hown6
            rw [HKL1.out] at htv'
            subst htv'
            clear hown6 hg6 hr6 hk6 hh6
            refine hK.out _ _ trivial (fun _ => ?_)
            clear hK K
            refine wpAnyH_take (i := 7) (v := ?_) rfl (by kernel_rfl) (by kernel_rfl) (by kernel_rfl) (fun _ _ _ h => h) (Or.inl ⟨by first | kernel_rfl | rfl, ?_⟩) (by assumption) ?_
            case refine_2 => intro w hSw; go_simp; try with_reducible rfl
            refine wpAnyH_ready (rs := [8]) (by kernel_rfl) (by simp) (AllReadyH.cons rfl (fun K hK => ?_) AllReadyH.nil)
            go_simp
            refine hK.out _ _ trivial (fun _ => ?_)
            clear hK K
            refine wpAnyH_done (by kernel_rfl) ?_ _
            go_wp2
            go_roundg gk'
            · exact ⟨k1, l ++ [q], _, t1, by have := HK1.out; have := HGK.out; omega, by first | rfl | (have := HK1.out; simp; omega), by have := HK1.out; have := HKLT.out; simp; omega, HH6, HR6, HSF⟩
            · have := HGK.out; omega
      · have be : (E == 0) = false := beq_eq_false_iff_ne.2 hE0
        have be2 : (E != 0) = true := bne_iff_ne.2 hE0
        have HNO : Hid (G = none) := Lib.hid (HNO0.out (fun h => hE0 (by rw [hE]; exact mansR_er _ _ _ (by rw [HSF.out]; exact h))))
        clear hE0 hlk hk hlt HSF HR hE HE
        have g0 := HH.out.row0.c0
        have f0 := HH.out.row0.fz 0
        have g1 := HH.out.row0.c1
        have f1 := HH.out.row0.fz 1
        have g2 := HH.out.row0.c2
        have f2 := HH.out.row0.fz 2
        have g3 := HH.out.row0.c3
        have f3 := HH.out.row0.fz 3
        have g4 := HH.out.row0.c4
        have f4 := HH.out.row0.fz 4
        go_wp2
        refine bodyPost_ret (results_cell_tmp_rowQ Tryd.results19 _ _ w.heap.size 24 #[.string ⟨#[]⟩, .int .i64 0, .int .i64 0, .int .i64 0, .slice none 0 0] (0, 0) _ rfl (set5_rowQ HH.out.row0.row _ _ _ _ _) Tryd.underlying24 rfl infoRp) rfl ⟨⟨.agg #[.string ⟨#[]⟩, .int .i64 0, .int .i64 0, .int .i64 0, .slice none 0 0], by rw [HNO.out]; rfl, by rw [HNO.out]; exact RpIs.zero _⟩, below_set5Q (show Below w.heap.size w _ from HH.out.kept) HH.out.kept.size (Nat.le_refl _) _ _ _ _ _⟩
    · have hki : ¬ (k : Int) < n := by omega
      have bk : decide ((k : Int) < (n : Int)) = false := by simpa using hki
      have hkn : k = n := by omega
      have hg0 : gk = 0 := by omega
      subst hg0
      have hsf : (l, s') = FIN := HSF.out
      by_cases hE0 : E = 0
      · have be2 : (E != 0) = false := by simp [hE0]
        have hfl : FIN.1 = l := by rw [← hsf]
        have hfe : FIN.2.2 = 0 := by rw [← hsf]; show s'.2 = 0; rw [← hE]; exact hE0
        obtain ⟨R, hR⟩ : ∃ R : Rp, R = ⟨nm, (sz : Int), sr, si, l⟩ := ⟨_, rfl⟩
        have hRR : readQ S = R := by rw [HRQ.out, hR, hfl]
        have HHQ : Hid (∀ wx, QI w b5 (b5 + 1) (.string N) (.int .i64 (sz : Nat)) (.int .i64 sr) (.int .i64 si) (.slice pv l.length cv) l wx → RpIs R (.agg #[.string N, .int .i64 (sz : Nat), .int .i64 sr, .int .i64 si, .slice pv l.length cv]) wx) := Lib.hid (fun wx h => by
          have hw := HWFR.out
          have ho := HOKM.out
          rw [hfl] at hw ho
          rw [HN.out] at h ⊢
          rw [hR]
          exact QI.is (r := ⟨nm, (sz : Int), sr, si, l⟩) h rfl rfl rfl hw ho)
        have HHD : Hid (∀ wx, QI w b5 (b5 + 1) (.string N) (.int .i64 (sz : Nat)) (.int .i64 sr) (.int .i64 si) (.slice pv l.length cv) l wx → RpIs R (.agg #[.string N, .int .i64 (sz : Nat), .int .i64 sr, .int .i64 si, .slice pv l.length cv]) (((((wx.setCell ⟨w.heap.size, 0, none⟩ (.string N)).setCell ⟨w.heap.size, 1, none⟩ (.int .i64 (sz : Nat))).setCell ⟨w.heap.size, 2, none⟩ (.int .i64 sr)).setCell ⟨w.heap.size, 3, none⟩ (.int .i64 si)).setCell ⟨w.heap.size, 4, none⟩ (.slice pv l.length cv))) := Lib.hid (fun wx h => by
          have hw := HWFR.out
          have ho := HOKM.out
          rw [hfl] at hw ho
          rw [HN.out] at h ⊢
          rw [hR]
          exact QI.done (r := ⟨nm, (sz : Int), sr, si, l⟩) h rfl rfl rfl hw ho)
        have CM := rmay16_any R _ wr (HHQ.out _ HH.out) (by rw [hR]; show l.length ≤ _; have := HNL.out; omega)
        have HNK : Hid (¬ (mayQ R ∧ recpB R = S) → G = none) := Lib.hid (by rw [← hRR]; exact HNO1.out)
        have HOK : Hid (mayQ R → recpB R = S → G = some R) := Lib.hid (by rw [← hRR]; exact HYES0.out hfe)
        obtain ⟨kk, hkk⟩ : ∃ kk, kk = l.length := ⟨_, rfl⟩
        rw [← hkk] at CM
        have HKK := Lib.hid hkk
        have d0 := HH.out.row5.c0
        have d1 := HH.out.row5.c1
        have d2 := HH.out.row5.c2
        have d3 := HH.out.row5.c3
        have d4 := HH.out.row5.c4
        rw [← hkk] at d4 HH HHQ HHD
        clear hE0 hlk hk hlt HSF HR hkn hsf hfl hfe hR hRR hkk hE HE
        by_cases hm : mayQ R
        · have CP := fun W h => rput16_any R hm (.agg #[.string N, .int .i64 (sz : Nat), .int .i64 sr, .int .i64 si, .slice pv kk cv]) W h
          obtain ⟨RES, hRES⟩ : ∃ X, X = str (recpB R) := ⟨_, rfl⟩
          rw [← hRES] at CP
          rw [decide_eq_true hm] at CM
          have CP' := Lib.hid CP
          by_cases hb : recpB R = S
          · have hRt : RES = t := by rw [hRES, hb, HTS.out]
            have HYES := Lib.hid (HOK.out hm hb)
            rw [hRt] at CP'
            clear CP hRES hb hm hRt
            go_wp2_with fail
            refine CM.mono ?_
            rintro e w8 ⟨rfl, hb8⟩
            have HH8 := Lib.hid (HH.out.later hb8)
            have e0 := HH8.out.row5.c0
            have e1 := HH8.out.row5.c1
            have e2 := HH8.out.row5.c2
            have e3 := HH8.out.row5.c3
            have e4 := HH8.out.row5.c4
            clear hb8 CM d0 d1 d2 d3 d4
            go_wp2_with fail
            refine (CP'.out w8 (HHQ.out _ HH8.out)).mono ?_
            rintro e w9 ⟨rfl, hb9⟩
            have HH9 := Lib.hid (HH8.out.later hb9)
            have d0 := HH9.out.row5.c0
            have d1 := HH9.out.row5.c1
            have d2 := HH9.out.row5.c2
            have d3 := HH9.out.row5.c3
            have d4 := HH9.out.row5.c4
            clear hb9 e0 e1 e2 e3 e4
            have g0 := HH9.out.row0.c0
            have f0 := HH9.out.row0.fz 0
            have g1 := HH9.out.row0.c1
            have f1 := HH9.out.row0.fz 1
            have g2 := HH9.out.row0.c2
            have f2 := HH9.out.row0.fz 2
            have g3 := HH9.out.row0.c3
            have f3 := HH9.out.row0.fz 3
            have g4 := HH9.out.row0.c4
            have f4 := HH9.out.row0.fz 4
            go_wp2
            have hk := below_set5Q (show Below w.heap.size w w9 from HH9.out.kept) HH9.out.kept.size (Nat.le_refl _) (.string N) (.int .i64 (sz : Nat)) (.int .i64 sr) (.int .i64 si) (.slice pv kk cv)
            refine bodyPost_ret (results_cell_tmp_rowQ Tryd.results19 _ _ w.heap.size 24 #[.string N, .int .i64 (sz : Nat), .int .i64 sr, .int .i64 si, .slice pv kk cv] (0, 0) _ rfl (set5_rowQ HH9.out.row0.row _ _ _ _ _) Tryd.underlying24 rfl infoRp) rfl ⟨⟨_, by rw [HYES.out]; rfl, ?_⟩, hk⟩
            rw [HYES.out]
            exact HHD.out _ HH9.out
          · have hRt : RES ≠ t := fun e => hb (by
              have h := congrArg (fun b : ByteArray => b.data.toList) (show str (recpB R) = str S by rw [← hRES, e, HTS.out])
              simp only [str_list] at h
              exact h)
            have tn := text_neQ hRt
            have tn2 : (!(RES.toList == t.toList)) = true := by rw [tn]; rfl
            have tn3 : (RES.toList != t.toList) = true := tn2
            have HNO := Lib.hid (HNK.out (fun h => hb h.2))
            clear CP hRES hb hm hRt
            go_wp2_with fail
            refine CM.mono ?_
            rintro e w8 ⟨rfl, hb8⟩
            have HH8 := Lib.hid (HH.out.later hb8)
            have e0 := HH8.out.row5.c0
            have e1 := HH8.out.row5.c1
            have e2 := HH8.out.row5.c2
            have e3 := HH8.out.row5.c3
            have e4 := HH8.out.row5.c4
            clear hb8 CM d0 d1 d2 d3 d4
            go_wp2_with fail
            refine (CP'.out w8 (HHQ.out _ HH8.out)).mono ?_
            rintro e w9 ⟨rfl, hb9⟩
            have HH9 := Lib.hid (HH8.out.later hb9)
            clear hb9 e0 e1 e2 e3 e4
            have g0 := HH9.out.row0.c0
            have f0 := HH9.out.row0.fz 0
            have g1 := HH9.out.row0.c1
            have f1 := HH9.out.row0.fz 1
            have g2 := HH9.out.row0.c2
            have f2 := HH9.out.row0.fz 2
            have g3 := HH9.out.row0.c3
            have f3 := HH9.out.row0.fz 3
            have g4 := HH9.out.row0.c4
            have f4 := HH9.out.row0.fz 4
            go_wp2
            refine bodyPost_ret (results_cell_tmp_rowQ Tryd.results19 _ _ w.heap.size 24 #[.string ⟨#[]⟩, .int .i64 0, .int .i64 0, .int .i64 0, .slice none 0 0] (0, 0) _ rfl (set5_rowQ HH9.out.row0.row _ _ _ _ _) Tryd.underlying24 rfl infoRp) rfl ⟨⟨.agg #[.string ⟨#[]⟩, .int .i64 0, .int .i64 0, .int .i64 0, .slice none 0 0], by rw [HNO.out]; rfl, by rw [HNO.out]; exact RpIs.zero _⟩, below_set5Q (show Below w.heap.size w _ from HH9.out.kept) HH9.out.kept.size (Nat.le_refl _) _ _ _ _ _⟩
        · rw [decide_eq_false hm] at CM
          have HNO := Lib.hid (HNK.out (fun h => hm h.1))
          clear hm
          go_wp2_with fail
          refine CM.mono ?_
          rintro e w9 ⟨rfl, hb9⟩
          have HH9 := Lib.hid (HH.out.later hb9)
          clear hb9 CM d0 d1 d2 d3 d4
          have g0 := HH9.out.row0.c0
          have f0 := HH9.out.row0.fz 0
          have g1 := HH9.out.row0.c1
          have f1 := HH9.out.row0.fz 1
          have g2 := HH9.out.row0.c2
          have f2 := HH9.out.row0.fz 2
          have g3 := HH9.out.row0.c3
          have f3 := HH9.out.row0.fz 3
          have g4 := HH9.out.row0.c4
          have f4 := HH9.out.row0.fz 4
          go_wp2
          refine bodyPost_ret (results_cell_tmp_rowQ Tryd.results19 _ _ w.heap.size 24 #[.string ⟨#[]⟩, .int .i64 0, .int .i64 0, .int .i64 0, .slice none 0 0] (0, 0) _ rfl (set5_rowQ HH9.out.row0.row _ _ _ _ _) Tryd.underlying24 rfl infoRp) rfl ⟨⟨.agg #[.string ⟨#[]⟩, .int .i64 0, .int .i64 0, .int .i64 0, .slice none 0 0], by rw [HNO.out]; rfl, by rw [HNO.out]; exact RpIs.zero _⟩, below_set5Q (show Below w.heap.size w _ from HH9.out.kept) HH9.out.kept.size (Nat.le_refl _) _ _ _ _ _⟩
      · have be2 : (E != 0) = true := bne_iff_ne.2 hE0
        have be : (E == 0) = false := beq_eq_false_iff_ne.2 hE0
        have HNO : Hid (G = none) := Lib.hid (HNO0.out (fun h => hE0 (by rw [hE]; rw [← hsf] at h; exact h)))
        clear hE0 hlk hk hlt HSF HR hkn hsf hE HE
        have g0 := HH.out.row0.c0
        have f0 := HH.out.row0.fz 0
        have g1 := HH.out.row0.c1
        have f1 := HH.out.row0.fz 1
        have g2 := HH.out.row0.c2
        have f2 := HH.out.row0.fz 2
        have g3 := HH.out.row0.c3
        have f3 := HH.out.row0.fz 3
        have g4 := HH.out.row0.c4
        have f4 := HH.out.row0.fz 4
        go_wp2
        refine bodyPost_ret (results_cell_tmp_rowQ Tryd.results19 _ _ w.heap.size 24 #[.string ⟨#[]⟩, .int .i64 0, .int .i64 0, .int .i64 0, .slice none 0 0] (0, 0) _ rfl (set5_rowQ HH.out.row0.row _ _ _ _ _) Tryd.underlying24 rfl infoRp) rfl ⟨⟨.agg #[.string ⟨#[]⟩, .int .i64 0, .int .i64 0, .int .i64 0, .slice none 0 0], by rw [HNO.out]; rfl, by rw [HNO.out]; exact RpIs.zero _⟩, below_set5Q (show Below w.heap.size w _ from HH.out.kept) HH.out.kept.size (Nat.le_refl _) _ _ _ _ _⟩

end Go.Proofs.YtijdbmapdmhknaaDoor
