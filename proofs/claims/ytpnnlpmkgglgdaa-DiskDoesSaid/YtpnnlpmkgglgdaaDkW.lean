/- The document's disk: the walks of cut, Write. -/
import Derived.Test.YtpnnlpmkgglgdaaDkR
namespace Go.Proofs.Ytpnnlpmkgglgdaa
open Go.RowKit

/-- What a call that changes the document's disk leaves. -/
def RPost (B g : Nat) (s' : Dk) (vs vw ret : Value) (w : World) (e : Ending) (w' : World) : Prop :=
  e = .returned ret ∧ ∃ vs' vw', RAt B g s' vs' vw' w' ∧ (∀ k, RBs g vs' vw' k → RBs g vs vw k ∨ w.heap.size ≤ k) ∧ ButBy (fun k => k = g) w w'

section
variable {B g : Nat} {s : Dk} {vs vw : Value} {w : World} (h : RAt B g s vs vw w)
include h

/-- Its plain fields written anew. -/
theorem RAt.fields {s' : Dk} {w' : World} (hr : w'.heap[g]? = some (.cells (rA s' vs vw) 54 (0, 0))) (ho : ∀ k, k < w.heap.size → k ≠ g → w'.heap[k]? = w.heap[k]?) (hs : s'.stands = s.stands) (hw : s'.waits = s.waits) : RAt B g s' vs vw w' := by
  have ha := h.apart
  refine ⟨h.base, hr, ?_, ?_⟩
  · rw [hs]; exact own_stay h.st (fun k e => ho k (h.st.lt k e).2 (fun x => ha.1 (by rw [e, x])))
  · rw [hw]; exact own_stay h.wt (fun k e => ho k (h.wt.lt k e).2 (fun x => ha.2.1 (by rw [e, x])))

theorem RAt.set (i : Nat) (x : Value) : (w.setCell ⟨g, i, none⟩ x).heap[g]? = some (.cells ((rA s vs vw).setIfInBounds i x) 54 (0, 0)) := heap_setCell_same _ _ _ _ _ _ h.row
end

theorem set_other (w : World) (g i k : Nat) (x : Value) (hk : k ≠ g) : (w.setCell ⟨g, i, none⟩ x).heap[k]? = w.heap[k]? := heap_setCell_other _ _ _ _ hk

theorem but_refl (Bs : Nat → Prop) (w : World) : ButBy Bs w w := ButBy.below (Below.refl _ w)
theorem ButBy.mono {Bs Cs : Nat → Prop} {w w' : World} (h : ButBy Bs w w') (hs : ∀ k, Bs k → Cs k) : ButBy Cs w w' := ⟨h.os, h.tape, h.output, h.size, fun k hk hn => h.block k hk (fun x => hn (hs k x))⟩
theorem ButBy.trans {Bs : Nat → Prop} {w w1 w2 : World} (h : ButBy Bs w w1) (k : ButBy Bs w1 w2) : ButBy Bs w w2 :=
  ⟨k.os.trans h.os, k.tape.trans h.tape, k.output.trans h.output, Nat.le_trans h.size k.size, fun j hj hn => (k.block j (Nat.lt_of_lt_of_le hj h.size) hn).trans (h.block j hj hn)⟩

set_option maxRecDepth 100000 in
set_option maxHeartbeats 1000000 in
/-- An operation begins. -/
theorem rcut_any {B g : Nat} {s : Dk} {vs vw : Value} {w : World} (h : RAt B g s vs vw w) (hlo : s.ops ≤ 4294967296) (hfz : -9223372036854775808 ≤ s.fuse ∧ s.fuse ≤ 9223372036854775807) :
    Calls Try.prog 42 #[.pointer (some ⟨g, 0, none⟩)] w fun e w' => e = .returned (.bool (s.fuse == 0)) ∧ RAt B g s.cut vs vw w' ∧ ButBy (fun k => k = g) w w' := by
  have c3 : w.cell? ⟨g, 3, none⟩ = some (.int .i64 (s.ops : Int)) := h.cell 3 _ rfl
  have f3 := h.froz 3
  have f4 := h.froz 4
  have f2 := h.froz 2
  have w1r := h.set 3 (.int .i64 ((s.ops + 1 : Nat) : Int))
  have hw1 : (rA s vs vw).setIfInBounds 3 (.int .i64 ((s.ops + 1 : Nat) : Int)) = #[vs, vw, .int .i64 s.fuse, .int .i64 ((s.ops + 1 : Nat) : Int), .bool s.down] := rfl
  rw [hw1] at w1r
  have HO : Hid (∀ k, k ≠ g → (w.setCell ⟨g, 3, none⟩ (.int .i64 ((s.ops + 1 : Nat) : Int))).heap[k]? = w.heap[k]?) := Lib.hid (fun k hk => set_other _ _ _ _ _ hk)
  have HB1 : Hid (ButBy (fun k => k = g) w (w.setCell ⟨g, 3, none⟩ (.int .i64 ((s.ops + 1 : Nat) : Int)))) := Lib.hid ((but_refl _ w).setCell g 3 _ rfl)
  have H := Lib.hid h
  have v1 : IntKind.i64.wrap ((s.ops : Int) + 1) = ((s.ops + 1 : Nat) : Int) := by rw [show (s.ops : Int) + 1 = ((s.ops + 1 : Nat) : Int) by omega]; exact IntWalk.i64_in _ (by omega)
  have HCUT : Hid (s.cut = ⟨s.stands, s.waits, if 0 < s.fuse then s.fuse - 1 else s.fuse, s.ops + 1, s.down || s.fuse == 0⟩) := Lib.hid rfl
  obtain ⟨o1, ho1⟩ : ∃ o1, o1 = s.ops + 1 := ⟨_, rfl⟩
  rw [← ho1] at w1r HO HB1 v1 HCUT
  obtain ⟨fz, hfe⟩ : ∃ fz, fz = s.fuse := ⟨_, rfl⟩
  rw [← hfe] at w1r hfz HCUT ⊢
  obtain ⟨W1, hW1⟩ : ∃ W1, W1 = w.setCell ⟨g, 3, none⟩ (.int .i64 (o1 : Int)) := ⟨_, rfl⟩
  rw [← hW1] at w1r HO HB1
  have HW1 := Lib.hid hW1
  have W1R := Lib.hid w1r
  have d2 : W1.cell? ⟨g, 2, none⟩ = some (.int .i64 fz) := by rw [cell_of_row _ _ _ _ _ _ w1r]; rfl
  have d4 : W1.cell? ⟨g, 4, none⟩ = some (.bool s.down) := by rw [cell_of_row _ _ _ _ _ _ w1r]; rfl
  have e2 := frozen_of_row W1 g 2 _ _ w1r
  have e4 := frozen_of_row W1 g 4 _ _ w1r
  clear h w1r hw1 hW1 hfe ho1 hlo
  rw [HW1.out] at d2 d4 e2 e4
  by_cases h0 : fz = 0
  · subst h0
    go_enter Try.func42, Try.ntmps42
    go_wp2
    go_ret
    rw [← HW1.out]
    refine ⟨rfl, H.out.fields ?_ (fun k hk hn => (set_other _ _ _ _ _ hn).trans (HO.out k hn)) rfl rfl, HB1.out.setCell g 4 _ rfl⟩
    rw [heap_setCell_same _ _ _ _ _ _ W1R.out, HCUT.out]
    simp [rA]
  · have hne : (fz == 0) = false := beq_eq_false_iff_ne.2 h0
    rw [hne] at HCUT ⊢
    by_cases hp : 0 < fz
    · have v2 : IntKind.i64.wrap (fz - 1) = fz - 1 := IntWalk.i64_in _ (by omega)
      have hgt : fz > 0 := hp
      have HP := Lib.hid hp
      clear hp
      go_enter Try.func42, Try.ntmps42
      go_wp2
      go_ret
      rw [← HW1.out]
      refine ⟨rfl, H.out.fields ?_ (fun k hk hn => (set_other _ _ _ _ _ hn).trans (HO.out k hn)) rfl rfl, HB1.out.setCell g 2 _ rfl⟩
      rw [heap_setCell_same _ _ _ _ _ _ W1R.out, HCUT.out, if_pos HP.out]
      simp [rA]
    · have hgt : ¬ fz > 0 := hp
      have HP := Lib.hid hp
      clear hp
      go_enter Try.func42, Try.ntmps42
      go_wp2
      go_ret
      rw [← HW1.out]
      refine ⟨rfl, H.out.fields ?_ (fun k hk hn => HO.out k hn) rfl rfl, HB1.out⟩
      rw [W1R.out, HCUT.out, if_neg (by have := HP.out; omega)]
      simp [rA]

theorem infoWt : (Try.prog.info? 70).map (fun i => (i.zero, i.size, i.bytes)) = some (some (.agg #[.int .i64 0, .string ⟨#[]⟩]), 2, 24) := by kernel_rfl
theorem infoS : (Try.prog.info? 9).map (fun i => (i.zero, i.size, i.bytes)) = some (some (.string ⟨#[]⟩), 1, 16) := by kernel_rfl

set_option maxRecDepth 100000 in
set_option maxHeartbeats 1000000 in
/-- The document's Write. -/
theorem rwrite_any {B g : Nat} {s : Dk} {vs vw : Value} {w : World} (h : RAt B g s vs vw w) (hok : s.ok) (hlo : s.ops ≤ 4294967295) (hB : B ≤ w.heap.size) (i : Int) (t : ByteArray) :
    Calls Try.prog 32 #[.pointer (some ⟨g, 0, none⟩), .int .i64 i, .string t] w (RPost B g (s.writeS i t.data.toList) vs vw (.int .i64 (s.writeE i t.data.toList)) w) := by
  have c4 : w.cell? ⟨g, 4, none⟩ = some (.bool s.down) := h.cell 4 _ rfl
  have hts := str_len t
  have HT : Hid (t = str t.data.toList) := Lib.hid (str_of t).symm
  obtain ⟨l, hl⟩ : ∃ l, l = t.data.toList := ⟨_, rfl⟩
  rw [← hl] at hts HT ⊢
  clear hl
  by_cases hd : s.down = true
  · have e1 : s.writeE i l = 90 := by unfold Dk.writeE; rw [if_pos hd]
    have e2 : s.writeS i l = s := by unfold Dk.writeS; rw [if_pos (show s.bad i l from Or.inl hd)]
    rw [e1, e2]
    rw [hd] at c4
    have H := Lib.hid h
    clear h hok e1 e2 hd
    go_enter Try.func32, Try.ntmps32
    go_wp2
    go_ret
    exact ⟨rfl, vs, vw, H.out, fun k hk => Or.inl hk, but_refl _ _⟩
  · have hdf : s.down = false := by simpa using hd
    rw [hdf] at c4
    obtain ⟨ps, cs, hvs, -, -⟩ := own_slice h.st
    have c0 : w.cell? ⟨g, 0, none⟩ = some vs := h.cell 0 _ rfl
    have c1 : w.cell? ⟨g, 1, none⟩ = some vw := h.cell 1 _ rfl
    rw [hvs] at c0
    have H := Lib.hid h
    by_cases ho : s.out i
    · have e1 : s.writeE i l = 5 := by unfold Dk.writeE; rw [if_neg hd, if_pos ho]
      have e2 : s.writeS i l = s := by unfold Dk.writeS; rw [if_pos (show s.bad i l from Or.inr (Or.inl ho))]
      rw [e1, e2]
      unfold Dk.out at ho
      obtain ⟨n, hn⟩ : ∃ n, n = s.stands.length := ⟨_, rfl⟩
      rw [← hn] at c0 ho
      clear h hok e1 e2 hd hdf hvs hn c1
      by_cases h0 : i < 0
      · go_enter Try.func32, Try.ntmps32
        go_wp2
        go_ret
        exact ⟨rfl, vs, vw, H.out, fun k hk => Or.inl hk, but_refl _ _⟩
      · have h1 : (n : Int) ≤ i := by omega
        go_enter Try.func32, Try.ntmps32
        go_wp2
        go_ret
        exact ⟨rfl, vs, vw, H.out, fun k hk => Or.inl hk, but_refl _ _⟩
    · have ho' := ho
      unfold Dk.out at ho'
      obtain ⟨n, hn⟩ : ∃ n, n = s.stands.length := ⟨_, rfl⟩
      rw [← hn] at c0 ho'
      have hq0 : ¬ i < 0 := by omega
      have hqn : ¬ (n : Int) ≤ i := by omega
      by_cases h128 : l.length = 128
      · obtain ⟨q, rfl⟩ : ∃ q : Nat, i = q := ⟨i.toNat, by omega⟩
        have e1 : s.writeE q l = if s.fuse = 0 then 90 else 0 := by unfold Dk.writeE; rw [if_neg hd, if_neg ho, if_neg (fun x => x h128)]
        have e2 : s.writeS q l = ({ s with waits := s.waits ++ [(q, l)] } : Dk).cut := by
          unfold Dk.writeS; rw [if_neg (show ¬ s.bad q l from fun x => x.elim hd (fun y => y.elim ho (fun z => z h128))), Int.toNat_natCast]
        rw [e1, e2]
        obtain ⟨rt, hrt⟩ : ∃ rt : Int, rt = if s.fuse = 0 then 90 else 0 := ⟨_, rfl⟩
        rw [← hrt]
        have HRT := Lib.hid hrt
        clear hrt
        have b1 : ((t.size : Int) != 128) = false := by rw [bne_eq_false_iff_eq]; omega
        obtain ⟨iw, hiw, hx⟩ := Option.map_eq_some_iff.1 infoWt
        simp only [Prod.mk.injEq] at hx
        obtain ⟨hz0, hz1, hz2⟩ := hx
        have HIW := Lib.hid hiw
        have HZ0 := Lib.hid hz0
        have HZ1 := Lib.hid hz1
        have HZ2 := Lib.hid hz2
        have hm40 : s.waits.length ≤ 4294967295 := Nat.le_trans hok.few hlo
        have HF1 : Hid (FlatAt 2 s.waits.length (wtC s.waits) vw (w.alloc (.cells #[] 70))) := Lib.hid ((FlatAt.own h.wt (wtC_one _)).later (box_below _ _))
        have HLO := Lib.hid hlo
        have HFZ := Lib.hid hok.fz
        obtain ⟨m, hm⟩ : ∃ m, m = s.waits.length := ⟨_, rfl⟩
        rw [← hm] at HF1 hm40
        have HM := Lib.hid hm
        have c1a : (w.alloc (.cells #[] 70)).cell? ⟨g, 1, none⟩ = some vw := (box_below w _).cell (p := ⟨g, 1, none⟩) (World.block_lt_of_cell? _ _ c1) |>.trans c1
        obtain ⟨pw, cw, hvw, -, -⟩ := own_slice h.wt
        rw [hvw] at c1a
        rw [← hm] at c1a
        have HF2 : Hid (FlatAt 2 m (wtC s.waits) (.slice pw m cw) (w.alloc (.cells #[] 70))) := by have h := HF1.out; rw [hvw, ← hm] at h; exact h
        have hB1 : B ≤ w.heap.size := hB
        have HC1 := Lib.hid c1
        clear h hok e1 e2 hd hdf hvs hn h128 ho ho' hz0 hz1 hz2 hiw hlo hm hvw HF1 c1
        go_enter Try.func32, Try.ntmps32
        go_wp2_with (at_builtin; refine wpList_append_flat rfl _ _ 52 rfl w.heap.size 70 iw (.agg #[.int .i64 0, .string ⟨#[]⟩]) 2 24 Try.underlying52 HIW.out HZ0.out HZ1.out HZ2.out rfl (by decide) _ _ _ rfl (World.ownsRow_made w #[] 0 (Nat.le_refl _) (Nat.zero_le _) (by simp)) _ m (wtC s.waits) rfl HF2.out ?wa1 ?wa2 ?wa3 ?_)
        case wa1 => unfold maxLen; omega
        case wa2 => omega
        try case wa3 => simp
        intro v1 w1 hown1 hgr1 hwh1
        have K1 : Kept w w1 := (box_below w _).grown hgr1 (by simp) (by intro k hk; simp [Value.ownBlock] at hk; omega)
        have HO1 : Hid (w1.ownsRow w.heap.size 70 2 v1 m (wtC s.waits)) := Lib.hid (by simpa using hown1)
        have HK1 := Lib.hid K1
        clear hown1 hgr1 K1 HF2 hwh1
        have HFN := Lib.hid (FlatAt.new w1 70 2 1 1 #[.int .i64 (q : Int), .string t] rfl (by intro x hx; simp at hx; rcases hx with rfl | rfl <;> rfl))
        go_wp2_with (at_builtin; refine wpList_append_flat rfl _ _ 52 rfl w.heap.size 70 iw (.agg #[.int .i64 0, .string ⟨#[]⟩]) 2 24 Try.underlying52 HIW.out HZ0.out HZ1.out HZ2.out rfl (by decide) _ _ _ rfl (HO1.out.alloc _) _ 1 _ rfl HFN.out ?wb1 ?wb2 ?wb3 ?_)
        case wb1 => unfold maxLen; omega
        case wb2 => omega
        try case wb3 => have := HK1.out.size; first | omega | (simp; omega)
        intro v2 w2 hown2 hgr2 hwh2
        have K2 : Kept w w2 := (HK1.out.then (box_below w1 _)).grown hgr2 (by have := HK1.out.size; simp; omega) (fun k hk => (HO1.out.lt k hk).1)
        obtain ⟨p2, c2, rfl, -, -⟩ := own_slice hown2
        have HO2 : Hid (w2.ownsRow w.heap.size 70 2 (.slice p2 (m + 1) c2) (s.waits ++ [(q, l)]).length (wtC (s.waits ++ [(q, l)]))) := Lib.hid (by
          rw [List.length_append, wtC_append, ← HM.out, show wtC [(q, l)] = [Value.int .i64 (q : Int), Value.string t] by rw [HT.out]; rfl]
          exact hown2)
        have HK2 := Lib.hid K2
        have hc1 : w2.cell? ⟨g, 1, none⟩ = some vw := K2.cell HC1.out
        have hf1 : w2.frozen? ⟨g, 1, none⟩ = false := (H.out.kept K2).froz 1
        clear hown2 hgr2 K2 HO1 hwh2
        go_wp2_with fail
        have r2 := (H.out.kept HK2.out)
        have r3 : RAt B g ⟨s.stands, s.waits ++ [(q, l)], s.fuse, s.ops, s.down⟩ vs (.slice p2 (m + 1) c2) (w2.setCell ⟨g, 1, none⟩ (.slice p2 (m + 1) c2)) := by
          refine ⟨r2.base, ?_, ?_, ?_⟩
          · rw [heap_setCell_same _ _ _ _ _ _ r2.row]; rfl
          · exact own_stay r2.st (fun k e => set_other _ _ _ _ _ (fun x => r2.apart.1 (by rw [e, x])))
          · refine own_base (own_stay HO2.out (fun k e => set_other _ _ _ _ _ (fun x => ?_))) hB1
            have h1 := (HO2.out.lt k e).1
            have h2 := (Array.getElem?_eq_some_iff.1 H.out.row).1
            omega
        have HB3 : Hid (ButBy (fun k => k = g) w (w2.setCell ⟨g, 1, none⟩ (.slice p2 (m + 1) c2))) := Lib.hid ((ButBy.below HK2.out).setCell g 1 _ rfl)
        have HNEW : Hid (∀ k, (Value.slice p2 (m + 1) c2).ownBlock = some k → w.heap.size ≤ k) := Lib.hid (fun k e => (HO2.out.lt k e).1)
        refine (rcut_any r3 (Nat.le_trans HLO.out (by omega)) HFZ.out).mono ?_
        rintro e w4 ⟨rfl, r4, hb4⟩
        have R4 := Lib.hid r4
        have HB4 := Lib.hid hb4
        clear r2 r3 r4 hb4
        have fin : RPost B g (({ s with waits := s.waits ++ [(q, l)] } : Dk).cut) vs vw (.int .i64 rt) w (.returned (.int .i64 rt)) w4 :=
          ⟨rfl, vs, _, R4.out, fun k hk => by
            rcases hk with e | e | e
            · exact Or.inl (Or.inl e)
            · exact Or.inl (Or.inr (Or.inl e))
            · exact Or.inr (HNEW.out k e), HB3.out.trans HB4.out⟩
        have FIN := Lib.hid fin
        clear fin
        by_cases h0 : s.fuse = 0
        · have hb : (s.fuse == 0) = true := by rw [h0]; rfl
          have hr9 : rt = 90 := by rw [HRT.out, if_pos h0]
          subst hr9
          clear h0
          go_wp2
          go_ret
          exact FIN.out
        · have hb : (s.fuse == 0) = false := beq_eq_false_iff_ne.2 h0
          have hr9 : rt = 0 := by rw [HRT.out, if_neg h0]
          subst hr9
          clear h0
          go_wp2
          go_ret
          exact FIN.out
      · have e1 : s.writeE i l = 1 := by unfold Dk.writeE; rw [if_neg hd, if_neg ho, if_pos h128]
        have e2 : s.writeS i l = s := by unfold Dk.writeS; rw [if_pos (show s.bad i l from Or.inr (Or.inr h128))]
        rw [e1, e2]
        have b1 : ((t.size : Int) != 128) = true := by rw [bne_iff_ne]; omega
        clear h hok e1 e2 hd hdf hvs hn c1 h128 ho ho'
        go_enter Try.func32, Try.ntmps32
        go_wp2
        go_ret
        exact ⟨rfl, vs, vw, H.out, fun k hk => Or.inl hk, but_refl _ _⟩

end Go.Proofs.Ytpnnlpmkgglgdaa
