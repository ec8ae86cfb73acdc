/- The document's disk: the walks of stand, Flush, Power. -/
import Derived.Test.YtpnnlpmkgglgdaaDkW
namespace Go.Proofs.Ytpnnlpmkgglgdaa
open Go.RowKit

/-- One cell of an own row written. -/
theorem own_set {w : World} {base g c n : Nat} {e : TypeId} {xs : List Value} (h : w.ownsRow base e 1 (.slice (some ⟨g, 0, none⟩) n c) n xs) (i : Nat) (_hi : i < n) (x : Value) :
    (w.setCell ⟨g, i, none⟩ x).ownsRow base e 1 (.slice (some ⟨g, 0, none⟩) n c) n (xs.set i x) ∧ w.frozen? ⟨g, i, none⟩ = false := by
  rcases h.2 with ⟨h0, _⟩ | ⟨g', cap, cur, hv, hb, hg, hc, hm, hs, ht⟩
  · cases h0
  simp only [Value.slice.injEq, Option.some.injEq, Addr.mk.injEq, and_true, true_and] at hv
  obtain ⟨rfl, rfl⟩ := hv
  refine ⟨⟨by rw [List.length_set]; exact h.1, Or.inr ⟨g, c, cur.setIfInBounds i x, rfl, hb, heap_setCell_same _ _ _ _ _ _ hg, hc, hm, by rw [Array.size_setIfInBounds]; exact hs, ?_⟩⟩, frozen_of_row _ _ _ _ _ hg⟩
  rw [Array.toList_setIfInBounds, List.take_set, ht]

/-- A slice of truths. -/
def BoolAt (l : List Bool) (v : Value) (w : World) : Prop :=
  ∃ p c, v = .slice p l.length c ∧ (l = [] ∨ ∃ b off, p = some ⟨b, off, none⟩ ∧ ∀ i, i < l.length → w.cell? ⟨b, off + i, none⟩ = some (.bool (l.getD i false)))

theorem BoolAt.later {l : List Bool} {v : Value} {w w' : World} (h : BoolAt l v w) (k : Kept w w') : BoolAt l v w' := by
  obtain ⟨p, c, rfl, h⟩ := h
  refine ⟨p, c, rfl, ?_⟩
  rcases h with h0 | ⟨b, off, hp, hc⟩
  · exact Or.inl h0
  · exact Or.inr ⟨b, off, hp, fun i hi => k.cell (hc i hi)⟩
theorem BoolAt.nil (w : World) : BoolAt [] (.slice none 0 0) w := ⟨none, 0, rfl, Or.inl rfl⟩

/-- Which are kept: all, or those of a list. -/
def KeepAt (keep : Nat → Bool) (all : Bool) (v : Value) (w : World) : Prop := (all = true ∧ ∀ k, keep k = true) ∧ (∃ p n c, v = .slice p n c) ∨ all = false ∧ ∃ l, keep = keepL l ∧ BoolAt l v w

theorem standK_next (keep : Nat → Bool) (st : List (List UInt8)) (ws : List (Nat × List UInt8)) (k : Nat) (hk : k < ws.length) :
    standK keep st ws (k + 1) = if keep k = true then (standK keep st ws k).set ws[k].1 ws[k].2 else standK keep st ws k := by
  conv => lhs; unfold standK
  rw [List.getD_eq_getElem?_getD, List.getElem?_eq_getElem hk]
  rfl

set_option maxRecDepth 100000 in
set_option maxHeartbeats 4000000 in
/-- What stands behind: of what waits, all or what is kept. -/
theorem rstand_any {B g : Nat} {s : Dk} {vs vw : Value} {w : World} (h : RAt B g s vs vw w) (hok : s.ok) (hlo : s.ops ≤ 4294967296) (hB : B ≤ w.heap.size) (keep : Nat → Bool) (all : Bool) (kv : Value) (hkv : KeepAt keep all kv w) :
    Calls Try.prog 43 #[.pointer (some ⟨g, 0, none⟩), kv, .bool all] w (RPost B g (s.stand keep) vs vw (.tuple #[]) w) := by
  obtain ⟨ps, cs, hvs, -, -⟩ := own_slice h.st
  obtain ⟨pw, cw, hvw, -, hcw⟩ := own_slice h.wt
  have hkp : ∃ pk nk ck, kv = .slice pk nk ck ∧ (all = true ∧ (∀ k, keep k = true) ∨ all = false ∧ ∀ k, keep k = true ↔ k < nk ∧ ∃ b off, pk = some ⟨b, off, none⟩ ∧ w.cell? ⟨b, off + k, none⟩ = some (.bool true)) ∧ (all = false → ∀ k, k < nk → ∃ b off x, pk = some ⟨b, off, none⟩ ∧ w.cell? ⟨b, off + k, none⟩ = some (.bool x)) := by
    rcases hkv with ⟨⟨ha, hk⟩, p, n, c, rfl⟩ | ⟨ha, l, rfl, p, c, rfl, hc⟩
    · exact ⟨p, n, c, rfl, Or.inl ⟨ha, hk⟩, fun x => by rw [ha] at x; cases x⟩
    · have hcell : ∀ k, k < l.length → ∃ b off, p = some ⟨b, off, none⟩ ∧ w.cell? ⟨b, off + k, none⟩ = some (.bool (l.getD k false)) := fun k hk => by
        rcases hc with h0 | ⟨b, off, hp, hc⟩
        · rw [h0] at hk; simp at hk
        · exact ⟨b, off, hp, hc k hk⟩
      refine ⟨p, l.length, c, rfl, Or.inr ⟨ha, fun k => ⟨fun hk => ?_, fun ⟨hk, b, off, hp, hx⟩ => ?_⟩⟩, fun _ k hk => ?_⟩
      · unfold keepL at hk
        have hkl : k < l.length := by
          by_cases hh : k < l.length
          · exact hh
          · rw [List.getD_eq_getElem?_getD, List.getElem?_eq_none (by omega)] at hk; simp at hk
        obtain ⟨b, off, hp, hx⟩ := hcell k hkl
        rw [hk] at hx
        exact ⟨hkl, b, off, hp, hx⟩
      · obtain ⟨b', off', hp', hx'⟩ := hcell k hk
        rw [hp] at hp'
        simp only [Option.some.injEq, Addr.mk.injEq, and_true] at hp'
        obtain ⟨rfl, rfl⟩ := hp'
        rw [hx] at hx'
        simp only [Option.some.injEq, Value.bool.injEq] at hx'
        exact hx'.symm
      · obtain ⟨b, off, hp, hx⟩ := hcell k hk
        exact ⟨b, off, _, hp, hx⟩
  obtain ⟨pk, nk, ck, rfl, hall, hkc⟩ := hkp
  obtain ⟨is, his, hx⟩ := Option.map_eq_some_iff.1 infoS
  simp only [Prod.mk.injEq] at hx
  obtain ⟨hz0, hz1, hz2⟩ := hx
  have HIS := Lib.hid his
  have HZ0 := Lib.hid hz0
  have HZ1 := Lib.hid hz1
  have HZ2 := Lib.hid hz2
  have c0 : w.cell? ⟨g, 0, none⟩ = some vs := h.cell 0 _ rfl
  have c1 : w.cell? ⟨g, 1, none⟩ = some vw := h.cell 1 _ rfl
  have hpos := hok.pos
  have hmost := hok.most
  have HF1 : Hid (FlatAt 1 s.stands.length (stC s.stands) vs (w.alloc (.cells #[] 9))) := Lib.hid ((FlatAt.own h.st (stC_one _)).later (box_below _ _))
  have HH := Lib.hid h
  have HWT := Lib.hid (fun p hp => (hok.wait p hp).1)
  have hml : s.waits.length ≤ 4294967296 := Nat.le_trans hok.few hlo
  rw [hvs] at c0 HF1
  rw [hvw] at c1
  obtain ⟨n, hn⟩ : ∃ n, n = s.stands.length := ⟨_, rfl⟩
  rw [← hn] at c0 HF1 hpos hmost HWT
  obtain ⟨ws, hws⟩ : ∃ ws, ws = s.waits := ⟨_, rfl⟩
  have HSW := Lib.hid hws
  rw [← hws] at c1 HWT hml hcw
  obtain ⟨m, hm⟩ : ∃ m, m = ws.length := ⟨_, rfl⟩
  rw [← hm] at c1 hml hcw
  have HM := Lib.hid hm
  have HN := Lib.hid hn
  have HCW := Lib.hid hcw
  have HALL := Lib.hid hall
  have HKC := Lib.hid hkc
  have HVS := Lib.hid hvs
  have HVW := Lib.hid hvw
  have c0a : (w.alloc (.cells #[] 9)).cell? ⟨g, 0, none⟩ = some (.slice ps n cs) := Kept.cell (box_below w _) c0
  obtain ⟨st, hst⟩ : ∃ st, st = s.stands := ⟨_, rfl⟩
  rw [← hst] at HF1
  have HST := Lib.hid hst
  obtain ⟨sN, hsN⟩ : ∃ sN, sN = s.stand keep := ⟨_, rfl⟩
  rw [← hsN]
  have HSN := Lib.hid hsN
  clear hsN hst hm hn hws h hok hkv hvs hvw hcw hz0 hz1 hz2 his hlo hall hkc
  have HC1 := Lib.hid c1
  have HC0 := Lib.hid c0
  clear c0 c1
  go_enter Try.func43, Try.ntmps43
  go_wp2_with (at_builtin; refine wpList_append_flat rfl _ _ 51 rfl w.heap.size 9 is (.string ⟨#[]⟩) 1 16 Try.underlying51 HIS.out HZ0.out HZ1.out HZ2.out rfl (by decide) _ _ _ rfl (World.ownsRow_made w #[] 0 (Nat.le_refl _) (Nat.zero_le _) (by simp)) _ n (stC st) rfl HF1.out ?wa1 ?wa2 ?wa3 ?_)
  case wa1 => unfold maxLen; omega
  case wa2 => omega
  try case wa3 => simp
  intro v1 w1 hown1 hgr1 hwh1
  have K1 : Kept w w1 := (box_below w _).grown hgr1 (by simp) (by intro k hk; simp [Value.ownBlock] at hk; omega)
  have ho1 : w1.ownsRow w.heap.size 9 1 v1 n (stC st) := by simpa using hown1
  obtain ⟨pl, cl, rfl, -, hpl⟩ := own_slice ho1
  rcases hpl with h0 | ⟨gl, rfl, hgl, -⟩
  · omega
  have HO1 := Lib.hid ho1
  have HK1 := Lib.hid K1
  clear hown1 hgr1 hwh1 K1 ho1 HF1 c0a
  go_wp2
  go_loopg [7] m (fun gh s7 wx => ∃ k : Nat, k + gh = m ∧ s7 = .int .i64 k ∧ Hid (wx.ownsRow w.heap.size 9 1 (.slice (some ⟨gl, 0, none⟩) n cl) n (stC (standK keep st ws k))) ∧ Hid (Kept w wx))
  case atStart => exact ⟨0, by omega, rfl, HO1, HK1⟩
  case round =>
    clear HO1 HK1
    obtain ⟨k, hk, rfl, HO, HK⟩ := hrel
    have d1 := HK.out.cell HC1.out
    by_cases hkm : k < m
    · have hki : (k : Int) < m := by omega
      have bk : decide ((k : Int) < (m : Int)) = true := by simpa using hki
      have hkl : k < ws.length := by rw [← HM.out]; exact hkm
      rcases HCW.out with h0 | ⟨gw, rfl, -, hcellw⟩
      · omega
      have d2 := HK.out.cell (hcellw _ _ (wtC_get ws k hkl).1)
      have d3 := HK.out.cell (hcellw _ _ (wtC_get ws k hkl).2)
      have hnx := standK_next keep st ws k hkl
      have hin := HWT.out _ (List.getElem_mem hkl)
      obtain ⟨a, ha⟩ : ∃ a, a = ws[k].1 := ⟨_, rfl⟩
      obtain ⟨b, hb⟩ : ∃ b, b = ws[k].2 := ⟨_, rfl⟩
      rw [← ha, ← hb] at hnx
      rw [← ha] at d2 hin
      rw [← hb] at d3
      obtain ⟨tb, htb⟩ : ∃ tb, tb = str b := ⟨_, rfl⟩
      rw [← htb] at d3
      obtain ⟨k1, hk1⟩ : ∃ k1, k1 = k + 1 := ⟨_, rfl⟩
      rw [← hk1] at hnx
      have v1 : IntKind.i64.wrap ((k : Int) + 1) = (k1 : Int) := by rw [show (k : Int) + 1 = (k1 : Int) by omega]; exact IntWalk.i64_in _ (by omega)
      cases hkeep : keep k with
      | true =>
        rw [hkeep, if_pos rfl] at hnx
        have os := own_set HO.out a hin (.string tb)
        have e1 := os.2
        have HO2 : Hid ((wr.setCell ⟨gl, a, none⟩ (.string tb)).ownsRow w.heap.size 9 1 (.slice (some ⟨gl, 0, none⟩) n cl) n (stC (standK keep st ws k1))) := Lib.hid (by
          have h := os.1
          rw [htb, stC_set, ← hnx, ← htb] at h
          exact h)
        have HK2 : Hid (Kept w (wr.setCell ⟨gl, a, none⟩ (.string tb))) := Lib.hid (below_touch HK.out (grown_set wr gl a _) HK.out.size hgl)
        have he : ∃ x, wr.cell? ⟨gl, a, none⟩ = some x := by
          obtain ⟨p', c', hv', -, hcs'⟩ := own_slice HO.out
          simp only [Value.slice.injEq, true_and] at hv'
          obtain ⟨rfl, rfl⟩ := hv'
          rcases hcs' with h0 | ⟨g', hg', -, hc'⟩
          · omega
          · simp only [Option.some.injEq, Addr.mk.injEq, and_true] at hg'
            subst hg'
            have hl : a < (stC (standK keep st ws k)).length := by rw [HO.out.1]; omega
            exact ⟨_, hc' a _ (List.getElem?_eq_getElem hl)⟩
        obtain ⟨x, e2⟩ := he
        have hai : (a : Int) < n := by omega
        have ha0 : (0 : Int) ≤ a := by omega
        have hA := HALL.out
        clear os hnx htb ha hb hkl hcellw HO hin
        rcases hA with ⟨rfl, _⟩ | ⟨rfl, hkk⟩
        · go_wp2
          go_region
          go_wp2
          go_roundg (m - k1)
          case measure => omega
          case rel => exact ⟨k1, by omega, by first | rfl | (congr 1; omega), HO2, Lib.hid (Below.drew HK2.out)⟩
        · obtain ⟨hkn, bb, off, rfl, hcb⟩ := (hkk k).1 hkeep
          have hcb2 := HK.out.cell hcb
          have hkni : (k : Int) < nk := by omega
          clear hcb hkk
          go_wp2
          go_region
          go_wp2
          go_roundg (m - k1)
          case measure => omega
          case rel => exact ⟨k1, by omega, by first | rfl | (congr 1; omega), HO2, Lib.hid (Below.drew HK2.out)⟩
      | false =>
        rw [hkeep, if_neg (by decide)] at hnx
        have HO2 : Hid (wr.ownsRow w.heap.size 9 1 (.slice (some ⟨gl, 0, none⟩) n cl) n (stC (standK keep st ws k1))) := by rw [hnx]; exact HO
        have hA := HALL.out
        clear hnx htb ha hb hkl hcellw HO hin
        rcases hA with ⟨_, hh⟩ | ⟨rfl, hkk⟩
        · rw [hh k] at hkeep; cases hkeep
        · by_cases hkn : k < nk
          · obtain ⟨bb, off, x, rfl, hcb⟩ := HKC.out rfl k hkn
            have hx : x = false := by
              cases x with
              | false => rfl
              | true => have := (hkk k).2 ⟨hkn, bb, off, rfl, hcb⟩; rw [hkeep] at this; cases this
            subst hx
            have hcb2 := HK.out.cell hcb
            have hkni : (k : Int) < nk := by omega
            clear hcb hkk
            go_wp2
            go_roundg (m - k1)
            case measure => omega
            case rel => exact ⟨k1, by omega, by first | rfl | (congr 1; omega), HO2, HK⟩
          · have hkni : ¬ (k : Int) < nk := by omega
            clear hkk
            go_wp2
            go_roundg (m - k1)
            case measure => omega
            case rel => exact ⟨k1, by omega, by first | rfl | (congr 1; omega), HO2, HK⟩
    · have hke : k = m := by omega
      have hki : ¬ (k : Int) < m := by omega
      have bk : decide ((k : Int) < (m : Int)) = false := by simpa using hki
      have r1 := HH.out.kept HK.out
      have d0 : wr.cell? ⟨g, 0, none⟩ = some (.slice ps n cs) := HK.out.cell HC0.out
      have f0 := r1.froz 0
      have f1 := r1.froz 1
      have n0 : gl ≠ g := by have := (Array.getElem?_eq_some_iff.1 HH.out.row).1; omega
      obtain ⟨W1, hW1⟩ : ∃ W1, W1 = wr.setCell ⟨g, 0, none⟩ (.slice (some ⟨gl, 0, none⟩) n cl) := ⟨_, rfl⟩
      have rr1 : W1.heap[g]? = some (.cells (rA s (.slice (some ⟨gl, 0, none⟩) n cl) vw) 54 (0, 0)) := by rw [hW1, heap_setCell_same _ _ _ _ _ _ r1.row]; rfl
      have d1' : W1.cell? ⟨g, 1, none⟩ = some vw := by rw [cell_of_row _ _ _ _ _ _ rr1]; rfl
      have f1' := frozen_of_row W1 g 1 _ _ rr1
      have fin : RPost B g sN vs vw (.tuple #[]) w (.returned (.tuple #[])) (W1.setCell ⟨g, 1, none⟩ (.slice none 0 0)) := by
        refine ⟨rfl, .slice (some ⟨gl, 0, none⟩) n cl, .slice none 0 0, ⟨HH.out.base, ?_, ?_, ?_⟩, ?_, ?_⟩
        · rw [heap_setCell_same _ _ _ _ _ _ rr1, HSN.out]; rfl
        · have hst : sN.stands = standK keep st ws m := by rw [HSN.out, HST.out, HM.out, HSW.out]; rfl
          rw [hst, standK_len, show st.length = n by rw [HST.out, HN.out], ← hke]
          refine own_base (own_stay HO.out (fun j e => ?_)) hB
          simp only [Value.ownBlock, Option.some.injEq] at e
          rw [set_other _ _ _ _ _ (by omega), hW1, set_other _ _ _ _ _ (by omega)]
        · rw [show sN.waits = [] by rw [HSN.out]; rfl]
          exact World.ownsRow_nil _ _ _ _
        · intro j hj
          rcases hj with e | e | e
          · exact Or.inl (Or.inl e)
          · simp only [Value.ownBlock, Option.some.injEq] at e
            exact Or.inr (by omega)
          · simp [Value.ownBlock] at e
        · rw [hW1]
          exact ButBy.setCell (Bs := fun k => k = g) (ButBy.setCell (Bs := fun k => k = g) (ButBy.below HK.out) g 0 _ rfl) g 1 _ rfl
      have FIN := Lib.hid fin
      rw [hW1] at d1' f1' FIN
      rw [HVW.out, ← HSW.out, ← HM.out] at d1'
      clear fin rr1 r1 hke hW1 W1
      go_wp2
      first | go_ret | go_end0
      exact FIN.out

theorem keepAt_all (w : World) : KeepAt keepAll true (.slice none 0 0) w := Or.inl ⟨⟨rfl, fun _ => rfl⟩, none, 0, 0, rfl⟩

set_option maxRecDepth 100000 in
set_option maxHeartbeats 1000000 in
/-- The document's Flush. -/
theorem rflush_any {B g : Nat} {s : Dk} {vs vw : Value} {w : World} (h : RAt B g s vs vw w) (hok : s.ok) (hlo : s.ops ≤ 4294967295) (hB : B ≤ w.heap.size) :
    Calls Try.prog 28 #[.pointer (some ⟨g, 0, none⟩)] w (RPost B g s.flushS vs vw (.int .i64 s.flushE) w) := by
  have c4 : w.cell? ⟨g, 4, none⟩ = some (.bool s.down) := h.cell 4 _ rfl
  by_cases hd : s.down = true
  · have e1 : s.flushE = 90 := by unfold Dk.flushE; rw [if_pos hd]
    have e2 : s.flushS = s := by unfold Dk.flushS; rw [if_pos hd]
    rw [e1, e2]
    rw [hd] at c4
    have H := Lib.hid h
    clear h hok e1 e2 hd
    go_enter Try.func28, Try.ntmps28
    go_wp2
    go_ret
    exact ⟨rfl, vs, vw, H.out, fun k hk => Or.inl hk, but_refl _ _⟩
  · have hdf : s.down = false := by simpa using hd
    rw [hdf] at c4
    have CU := rcut_any h (Nat.le_trans hlo (by omega)) hok.fz
    have H := Lib.hid h
    have HOK := Lib.hid hok
    by_cases h0 : s.fuse = 0
    · have e1 : s.flushE = 90 := by unfold Dk.flushE; rw [if_neg hd, if_pos h0]
      have e2 : s.flushS = s.cut := by unfold Dk.flushS; rw [if_neg hd, if_pos h0]
      rw [e1, e2]
      rw [show (s.fuse == 0) = true by rw [h0]; rfl] at CU
      clear h hok e1 e2 hd hdf h0
      go_enter Try.func28, Try.ntmps28
      go_wp2_with fail
      refine CU.mono ?_
      rintro e w1 ⟨rfl, r1, hb1⟩
      have R1 := Lib.hid r1
      have HB1 := Lib.hid hb1
      clear r1 hb1 CU
      go_wp2
      go_ret
      exact ⟨rfl, vs, vw, R1.out, fun k hk => Or.inl hk, HB1.out⟩
    · have e1 : s.flushE = 0 := by unfold Dk.flushE; rw [if_neg hd, if_neg h0]
      have e2 : s.flushS = s.cut.stand keepAll := by unfold Dk.flushS; rw [if_neg hd, if_neg h0]
      rw [e1, e2]
      rw [show (s.fuse == 0) = false from beq_eq_false_iff_ne.2 h0] at CU
      have HLO := Lib.hid hlo
      clear h hok e1 e2 hd hdf h0 hlo
      go_enter Try.func28, Try.ntmps28
      go_wp2_with fail
      refine CU.mono ?_
      rintro e w1 ⟨rfl, r1, hb1⟩
      have ST := rstand_any r1 HOK.out.cut (by show s.ops + 1 ≤ _; have := HLO.out; omega) (Nat.le_trans hB hb1.size) keepAll true (.slice none 0 0) (keepAt_all w1)
      have HB1 := Lib.hid hb1
      clear r1 hb1 CU
      go_wp2_with fail
      refine ST.mono ?_
      rintro e w2 ⟨rfl, vs', vw', r2, hs2, hb2⟩
      have fin : RPost B g (s.cut.stand keepAll) vs vw (.int .i64 0) w (.returned (.int .i64 0)) w2 :=
        ⟨rfl, vs', vw', r2, fun k hk => (hs2 k hk).imp id (fun h => Nat.le_trans HB1.out.size h), HB1.out.trans hb2⟩
      have FIN := Lib.hid fin
      clear fin r2 hs2 hb2 ST
      go_wp2
      go_ret
      exact FIN.out

set_option maxRecDepth 100000 in
set_option maxHeartbeats 1000000 in
/-- The document's Power. -/
theorem rpower_any {B g : Nat} {s : Dk} {vs vw : Value} {w : World} (h : RAt B g s vs vw w) (hok : s.ok) (hlo : s.ops ≤ 4294967296) (hB : B ≤ w.heap.size) (l : List Bool) (kv : Value) (hkv : BoolAt l kv w) :
    Calls Try.prog 29 #[.pointer (some ⟨g, 0, none⟩), kv] w (RPost B g (s.powerS l) vs vw (.tuple #[]) w) := by
  have ST := rstand_any h hok hlo hB (keepL l) false kv (Or.inr ⟨rfl, l, rfl, hkv⟩)
  obtain ⟨pk, ck, rfl, -⟩ := hkv
  clear h hok hlo hB
  go_enter Try.func29, Try.ntmps29
  go_wp2_with fail
  refine ST.mono ?_
  rintro e w1 ⟨rfl, vs', vw', r1, hs1, hb1⟩
  have c2 : w1.cell? ⟨g, 2, none⟩ = some (.int .i64 s.fuse) := r1.cell 2 _ rfl
  have f2 := r1.froz 2
  obtain ⟨W1, hW1⟩ : ∃ W1, W1 = w1.setCell ⟨g, 2, none⟩ (.int .i64 (-1)) := ⟨_, rfl⟩
  have rr1 : W1.heap[g]? = some (.cells #[vs', vw', .int .i64 (-1), .int .i64 (s.ops : Int), .bool s.down] 54 (0, 0)) := by rw [hW1, heap_setCell_same _ _ _ _ _ _ r1.row]; rfl
  have c4 : W1.cell? ⟨g, 4, none⟩ = some (.bool s.down) := by rw [cell_of_row _ _ _ _ _ _ rr1]; rfl
  have f4 := frozen_of_row W1 g 4 _ _ rr1
  have fin : RPost B g (s.powerS l) vs vw (.tuple #[]) w (.returned (.tuple #[])) (W1.setCell ⟨g, 4, none⟩ (.bool false)) := by
    refine ⟨rfl, vs', vw', r1.fields ?_ (fun k hk hn => ?_) rfl rfl, hs1, ?_⟩
    · rw [heap_setCell_same _ _ _ _ _ _ rr1]; rfl
    · rw [set_other _ _ _ _ _ hn, hW1, set_other _ _ _ _ _ hn]
    · rw [hW1]
      exact ButBy.setCell (Bs := fun k => k = g) (ButBy.setCell (Bs := fun k => k = g) hb1 g 2 _ rfl) g 4 _ rfl
  have FIN := Lib.hid fin
  rw [hW1] at c4 f4 FIN
  clear fin rr1 hW1 W1 r1 hs1 hb1 ST
  go_wp2
  first | go_ret | go_end0
  exact FIN.out

end Go.Proofs.Ytpnnlpmkgglgdaa
