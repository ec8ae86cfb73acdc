/- A map, the document's map in two places, and lists that were told, while calls go on: what each step leaves. -/
import Derived.Test.YtkdodffnakdckaaExD
namespace Go.Proofs.Ytkdodffnakdckaa
open Go.RowKit

def mpV (s : Mp) (tv : Value) : Value := .agg #[.int .i64 (s.fr : Int), .int .i64 (s.to_ : Int), tv]
def mpC (s : Mp) (tv : Value) : Array Value := #[.int .i64 (s.fr : Int), .int .i64 (s.to_ : Int), tv]
def CsOf (Bs : Nat → Prop) (bw bx : Nat) (tk : Value) (k : Nat) : Prop := Bs k ∨ k = bw ∨ k = bx ∨ tk.ownBlock = some k

structure TI (B bw bx : Nat) (P : Mp → (Nat → Prop) → World → Prop) (sp sw sx : Mp) (tw tx : Value) (Bs : Nat → Prop) (tk : Value) (Ls : List (List (Int × Int))) (vs : List Value) (w : World) : Prop where
  hp : P sp Bs w
  roww : w.heap[bw]? = some (.cells (mpC sw tw) 39 (0, 0))
  rowx : w.heap[bx]? = some (.cells (mpC sx tx) 39 (0, 0))
  mpw : MpAt sw (mpV sw tw) w
  apw : Apart tw (CsOf Bs bw bx tk)
  mpx : MpAt sx (mpV sx tx) w
  apx : Apart tx (CsOf Bs bw bx tk)
  own : w.ownsRow B 22 1 tk vs.length vs
  len : vs.length = Ls.length
  els : ∀ i (h : i < vs.length), LiveAt (Ls.getD i []) vs[i] (CsOf Bs bw bx tk) w ∧ (Ls.getD i []).length ≤ 16
  nb : ¬ Bs bw ∧ ¬ Bs bx ∧ bw ≠ bx
  nt : ∀ k, tk.ownBlock = some k → ¬ Bs k ∧ k ≠ bw ∧ k ≠ bx
  hB : B ≤ bw ∧ B ≤ bx

theorem MpAt.but {s : Mp} {tv : Value} {Bs : Nat → Prop} {w w' : World} (h : MpAt s (mpV s tv) w) (ha : Apart tv Bs) (hb : ButBy Bs w w') : MpAt s (mpV s tv) w' := by
  obtain ⟨tl, tv', he, ht, h3, h4⟩ := h
  have e : tv = tv' := by
    unfold mpV at he
    simp only [Value.agg.injEq] at he
    have := congrArg (fun a => a.getD 2 .nilFunc) he
    simpa using this
  subst e
  exact ⟨tl, tv, rfl, ht.but ha hb, h3, h4⟩
theorem MpAt.block {s : Mp} {a : Addr} {n c : Nat} {w : World} (h : MpAt s (mpV s (.slice (some a) n c)) w) (hn : n ≠ 0) : a.block < w.heap.size := by
  obtain ⟨tl, tv', he, ht, h3, h4⟩ := h
  have e : Value.slice (some a) n c = tv' := by
    unfold mpV at he
    simp only [Value.agg.injEq] at he
    have := congrArg (fun a => a.getD 2 .nilFunc) he
    simpa using this
  subst e
  exact ht.block hn
theorem Apart.sub {v : Value} {Bs Cs : Nat → Prop} (h : Apart v Bs) (hs : ∀ k, Cs k → Bs k) : Apart v Cs := fun a n c e hn hk => h a n c e hn (hs _ hk)
theorem MpAt.apart_turn {s : Mp} {tv : Value} {Bs Cs : Nat → Prop} {w : World} (h : MpAt s (mpV s tv) w) (ha : Apart tv Bs) (hs : ∀ k, Cs k → Bs k ∨ w.heap.size ≤ k) : Apart tv Cs := fun a n c e hn hk => by
  subst e
  rcases hs _ hk with x | x
  · exact ha _ _ _ rfl hn x
  · have := h.block hn; omega

section
variable {B bw bx : Nat} {x : Value} {P : Mp → (Nat → Prop) → World → Prop} {sp sw sx : Mp} {tw tx : Value} {Bs : Nat → Prop} {tk : Value} {Ls : List (List (Int × Int))} {vs : List Value} {w : World}

/-- All blocks of it. -/
theorem TI.cs (D : MapOk B x P) (h : TI B bw bx P sp sw sx tw tx Bs tk Ls vs w) : ∀ k, CsOf Bs bw bx tk k → B ≤ k ∧ k < w.heap.size := by
  rintro k (e | rfl | rfl | e)
  · exact D.above _ _ _ h.hp k e
  · exact ⟨h.hB.1, (Array.getElem?_eq_some_iff.1 h.roww).1⟩
  · exact ⟨h.hB.2, (Array.getElem?_eq_some_iff.1 h.rowx).1⟩
  · exact h.own.lt k e

theorem TI.later (D : MapOk B x P) (h : TI B bw bx P sp sw sx tw tx Bs tk Ls vs w) {w' : World} (k : Kept w w') : TI B bw bx P sp sw sx tw tx Bs tk Ls vs w' where
  hp := D.kept h.hp k
  roww := k.row h.roww
  rowx := k.row h.rowx
  mpw := h.mpw.later k
  apw := h.apw
  mpx := h.mpx.later k
  apx := h.apx
  own := own_stay h.own (fun j e => k.block j (h.own.lt j e).2)
  len := h.len
  els i hi := ⟨(h.els i hi).1.later k, (h.els i hi).2⟩
  nb := h.nb
  nt := h.nt
  hB := h.hB

/-- The program's map turns. -/
theorem TI.turn (h : TI B bw bx P sp sw sx tw tx Bs tk Ls vs w) {sp' : Mp} {Bs' : Nat → Prop} {w' : World} (hp : P sp' Bs' w') (hs : ∀ k, Bs' k → Bs k ∨ w.heap.size ≤ k) (hb : ButBy Bs w w') :
    TI B bw bx P sp' sw sx tw tx Bs' tk Ls vs w' ∧ (∀ k, CsOf Bs' bw bx tk k → CsOf Bs bw bx tk k ∨ w.heap.size ≤ k) ∧ ButBy (CsOf Bs bw bx tk) w w' := by
  have hlw := (Array.getElem?_eq_some_iff.1 h.roww).1
  have hlx := (Array.getElem?_eq_some_iff.1 h.rowx).1
  have hcs : ∀ k, CsOf Bs' bw bx tk k → CsOf Bs bw bx tk k ∨ w.heap.size ≤ k := by
    rintro k (e | e | e | e)
    · exact (hs k e).imp Or.inl id
    · exact Or.inl (Or.inr (Or.inl e))
    · exact Or.inl (Or.inr (Or.inr (Or.inl e)))
    · exact Or.inl (Or.inr (Or.inr (Or.inr e)))
  have hbc : ButBy (CsOf Bs bw bx tk) w w' := hb.mono (fun k e => Or.inl e)
  refine ⟨⟨hp, by rw [hb.block bw hlw h.nb.1]; exact h.roww, by rw [hb.block bx hlx h.nb.2.1]; exact h.rowx, h.mpw.but h.apw hbc, h.mpw.apart_turn h.apw hcs, h.mpx.but h.apx hbc, h.mpx.apart_turn h.apx hcs,
    own_stay h.own (fun j e => hb.block j (h.own.lt j e).2 (h.nt j e).1), h.len, fun i hi => ⟨(h.els i hi).1.turn hcs hbc, (h.els i hi).2⟩, ⟨?_, ?_, h.nb.2.2⟩, fun k e => ⟨?_, (h.nt k e).2⟩, h.hB⟩, hcs, hbc⟩
  · intro e; rcases hs _ e with y | y
    · exact h.nb.1 y
    · omega
  · intro e; rcases hs _ e with y | y
    · exact h.nb.2.1 y
    · omega
  · intro e'; rcases hs _ e' with y | y
    · exact (h.nt k e).1 y
    · have := (h.own.lt k e).2; omega

theorem but_setRow (w : World) (g : Nat) (x y z : Value) : ButBy (fun k => k = g) w (((w.setCell ⟨g, 0, none⟩ x).setCell ⟨g, 1, none⟩ y).setCell ⟨g, 2, none⟩ z) :=
  (((but_refl (fun k => k = g) w).setCell g 0 x rfl).setCell g 1 y rfl).setCell g 2 z rfl

/-- The document's next map is laid beside. -/
theorem TI.setx (D : MapOk B x P) (h : TI B bw bx P sp sw sx tw tx Bs tk Ls vs w) {s' : Mp} {t' : Value} (hm : MpAt s' (mpV s' t') w) (ha : Apart t' (CsOf Bs bw bx tk)) :
    TI B bw bx P sp sw s' tw t' Bs tk Ls vs (((w.setCell ⟨bx, 0, none⟩ (.int .i64 (s'.fr : Int))).setCell ⟨bx, 1, none⟩ (.int .i64 (s'.to_ : Int))).setCell ⟨bx, 2, none⟩ t') ∧
      ButBy (CsOf Bs bw bx tk) w (((w.setCell ⟨bx, 0, none⟩ (.int .i64 (s'.fr : Int))).setCell ⟨bx, 1, none⟩ (.int .i64 (s'.to_ : Int))).setCell ⟨bx, 2, none⟩ t') := by
  have hb0 := but_setRow w bx (.int .i64 (s'.fr : Int)) (.int .i64 (s'.to_ : Int)) t'
  have hb : ButBy (CsOf Bs bw bx tk) w _ := hb0.mono (fun k e => Or.inr (Or.inr (Or.inl e)))
  have hcs : ∀ k, CsOf Bs bw bx tk k → CsOf Bs bw bx tk k ∨ w.heap.size ≤ k := fun k e => Or.inl e
  have hlw := (Array.getElem?_eq_some_iff.1 h.roww).1
  refine ⟨⟨D.stay _ _ _ _ h.hp hb0.size (fun k e => hb0.block k (D.above _ _ _ h.hp k e).2 (fun y => h.nb.2.1 (by rw [← y]; exact e))), by rw [hb0.block bw hlw h.nb.2.2]; exact h.roww, set3_row h.rowx _ _ _, h.mpw.but h.apw hb, h.apw, hm.but ha hb, ha,
    own_stay h.own (fun j e => hb0.block j (h.own.lt j e).2 (h.nt j e).2.2), h.len, fun i hi => ⟨(h.els i hi).1.turn hcs hb, (h.els i hi).2⟩, h.nb, h.nt, h.hB⟩, hb⟩

/-- It becomes the document's map. -/
theorem TI.setw (D : MapOk B x P) (h : TI B bw bx P sp sw sx tw tx Bs tk Ls vs w) :
    TI B bw bx P sp sx sx tx tx Bs tk Ls vs (((w.setCell ⟨bw, 0, none⟩ (.int .i64 (sx.fr : Int))).setCell ⟨bw, 1, none⟩ (.int .i64 (sx.to_ : Int))).setCell ⟨bw, 2, none⟩ tx) ∧
      ButBy (CsOf Bs bw bx tk) w (((w.setCell ⟨bw, 0, none⟩ (.int .i64 (sx.fr : Int))).setCell ⟨bw, 1, none⟩ (.int .i64 (sx.to_ : Int))).setCell ⟨bw, 2, none⟩ tx) := by
  have hb0 := but_setRow w bw (.int .i64 (sx.fr : Int)) (.int .i64 (sx.to_ : Int)) tx
  have hb : ButBy (CsOf Bs bw bx tk) w _ := hb0.mono (fun k e => Or.inr (Or.inl e))
  have hcs : ∀ k, CsOf Bs bw bx tk k → CsOf Bs bw bx tk k ∨ w.heap.size ≤ k := fun k e => Or.inl e
  have hlx := (Array.getElem?_eq_some_iff.1 h.rowx).1
  refine ⟨⟨D.stay _ _ _ _ h.hp hb0.size (fun k e => hb0.block k (D.above _ _ _ h.hp k e).2 (fun y => h.nb.1 (by rw [← y]; exact e))), set3_row h.roww _ _ _, by rw [hb0.block bx hlx h.nb.2.2.symm]; exact h.rowx, h.mpx.but h.apx hb, h.apx, h.mpx.but h.apx hb, h.apx,
    own_stay h.own (fun j e => hb0.block j (h.own.lt j e).2 (h.nt j e).2.1), h.len, fun i hi => ⟨(h.els i hi).1.turn hcs hb, (h.els i hi).2⟩, h.nb, h.nt, h.hB⟩, hb⟩

/-- A list that a turn of the map told. -/
theorem TI.told (D : MapOk B x P) (h : TI B bw bx P sp sw sx tw tx Bs tk Ls vs w) {l : List (Int × Int)} {y : Value} {Bs' : Nat → Prop} {w' : World} (hy : RunsAt l y w') (ha : Apart y Bs') (hn : NewAt y w) : LiveAt l y (CsOf Bs' bw bx tk) w' := by
  refine ⟨hy, fun a n c e hn0 hk => ?_⟩
  have hnew := hn a n c e hn0
  rcases hk with z | z | z | z
  · exact ha a n c e hn0 z
  · have := (Array.getElem?_eq_some_iff.1 h.roww).1; omega
  · have := (Array.getElem?_eq_some_iff.1 h.rowx).1; omega
  · have := (h.own.lt _ z).2; omega

/-- One more list is kept. -/
theorem TI.app (D : MapOk B x P) (h : TI B bw bx P sp sw sx tw tx Bs tk Ls vs w) {l : List (Int × Int)} {y : Value} (hy : LiveAt l y (CsOf Bs bw bx tk) w) (hl : l.length ≤ 16) {W6 w5 : World} {tk' : Value} (k : Kept w W6)
    (ho : w5.ownsRow B 22 1 tk' (vs.length + 1) (vs ++ [y])) (hg : W6.grownBy w5 tk.ownBlock) (hw : tk'.ownBlock = tk.ownBlock ∨ tk'.ownBlock = some W6.heap.size) :
    TI B bw bx P sp sw sx tw tx Bs tk' (Ls ++ [l]) (vs ++ [y]) w5 ∧ (∀ k, CsOf Bs bw bx tk' k → CsOf Bs bw bx tk k ∨ w.heap.size ≤ k) ∧ ButBy (CsOf Bs bw bx tk) w w5 := by
  have hb0 : ButBy (fun j => tk.ownBlock = some j) w w5 := ⟨hg.os.trans k.os, hg.tape.trans k.tape, hg.output.trans k.output, Nat.le_trans k.size hg.size, fun j hj hn => (hg.block j (Nat.lt_of_lt_of_le hj k.size) (fun e => hn e.symm)).trans (k.block j hj)⟩
  have hb : ButBy (CsOf Bs bw bx tk) w w5 := hb0.mono (fun j e => Or.inr (Or.inr (Or.inr e)))
  have hcs : ∀ j, CsOf Bs bw bx tk' j → CsOf Bs bw bx tk j ∨ w.heap.size ≤ j := by
    rintro j (e | e | e | e)
    · exact Or.inl (Or.inl e)
    · exact Or.inl (Or.inr (Or.inl e))
    · exact Or.inl (Or.inr (Or.inr (Or.inl e)))
    · rcases hw with y | y
      · rw [y] at e; exact Or.inl (Or.inr (Or.inr (Or.inr e)))
      · rw [y] at e
        have := Option.some.inj e
        have := k.size
        exact Or.inr (by omega)
  have hlw := (Array.getElem?_eq_some_iff.1 h.roww).1
  have hlx := (Array.getElem?_eq_some_iff.1 h.rowx).1
  have hall := h.cs D
  refine ⟨⟨D.stay _ _ _ _ h.hp hb0.size (fun j e => hb0.block j (D.above _ _ _ h.hp j e).2 (fun z => (h.nt j z).1 e)), by rw [hb0.block bw hlw (fun e => (h.nt bw e).2.1 rfl)]; exact h.roww, by rw [hb0.block bx hlx (fun e => (h.nt bx e).2.2 rfl)]; exact h.rowx,
    h.mpw.but h.apw hb, h.mpw.apart_turn h.apw hcs, h.mpx.but h.apx hb, h.mpx.apart_turn h.apx hcs, by rw [List.length_append]; exact ho, by rw [List.length_append, List.length_append, h.len]; rfl, fun i hi => ?_, h.nb, fun j e => ?_, h.hB⟩, hcs, hb⟩
  · by_cases hlt : i < vs.length
    · rw [List.getElem_append_left hlt, List.getD_eq_getElem?_getD, List.getElem?_append_left (by rw [← h.len]; exact hlt), ← List.getD_eq_getElem?_getD]
      exact ⟨(h.els i hlt).1.turn hcs hb, (h.els i hlt).2⟩
    · have hie : i = vs.length := by rw [List.length_append] at hi; simp at hi; omega
      subst hie
      rw [List.getElem_append_right (Nat.le_refl _), List.getD_eq_getElem?_getD, List.getElem?_append_right (by rw [h.len]; exact Nat.le_refl _)]
      simp only [h.len, Nat.sub_self, List.getElem?_cons_zero, Option.getD_some, List.getElem_cons_zero]
      exact ⟨hy.turn hcs hb, hl⟩
  · rcases hw with y | y
    · rw [y] at e; exact h.nt j e
    · rw [y] at e
      have e2 := Option.some.inj e
      have hsz := k.size
      refine ⟨fun z => ?_, by omega, by omega⟩
      have := (D.above _ _ _ h.hp j z).2
      omega
def C1Of (Bs : Nat → Prop) (bw : Nat) (tk : Value) (k : Nat) : Prop := Bs k ∨ k = bw ∨ tk.ownBlock = some k
/-- Between two calls. -/
structure MI (B bw : Nat) (P : Mp → (Nat → Prop) → World → Prop) (s : Mp) (tv : Value) (Bs : Nat → Prop) (tk : Value) (Ls : List (List (Int × Int))) (vs : List Value) (w : World) : Prop where
  hp : P s Bs w
  roww : w.heap[bw]? = some (.cells (mpC s tv) 39 (0, 0))
  mpw : MpAt s (mpV s tv) w
  apw : Apart tv (C1Of Bs bw tk)
  own : w.ownsRow B 22 1 tk vs.length vs
  len : vs.length = Ls.length
  els : ∀ i (h : i < vs.length), LiveAt (Ls.getD i []) vs[i] (C1Of Bs bw tk) w ∧ (Ls.getD i []).length ≤ 16
  nb : ¬ Bs bw
  nt : ∀ k, tk.ownBlock = some k → ¬ Bs k ∧ k ≠ bw
  hB : B ≤ bw

variable {s : Mp} {tv : Value}
theorem MI.later (D : MapOk B x P) (h : MI B bw P s tv Bs tk Ls vs w) {w' : World} (k : Kept w w') : MI B bw P s tv Bs tk Ls vs w' where
  hp := D.kept h.hp k
  roww := k.row h.roww
  mpw := h.mpw.later k
  apw := h.apw
  own := own_stay h.own (fun j e => k.block j (h.own.lt j e).2)
  len := h.len
  els i hi := ⟨(h.els i hi).1.later k, (h.els i hi).2⟩
  nb := h.nb
  nt := h.nt
  hB := h.hB

theorem MI.cs (D : MapOk B x P) (h : MI B bw P s tv Bs tk Ls vs w) : ∀ k, C1Of Bs bw tk k → B ≤ k ∧ k < w.heap.size := by
  rintro k (e | rfl | e)
  · exact D.above _ _ _ h.hp k e
  · exact ⟨h.hB, (Array.getElem?_eq_some_iff.1 h.roww).1⟩
  · exact h.own.lt k e

/-- A copy is laid beside. -/
theorem MI.begin (D : MapOk B x P) (h : MI B bw P s tv Bs tk Ls vs w) :
    TI B bw w.heap.size P s s s tv tv Bs tk Ls vs (w.alloc (.cells (mpC s tv) 39)) ∧ (∀ k, CsOf Bs bw w.heap.size tk k → C1Of Bs bw tk k ∨ w.heap.size ≤ k) := by
  have hk : Kept w (w.alloc (.cells (mpC s tv) 39)) := box_below _ _
  have hcs : ∀ k, CsOf Bs bw w.heap.size tk k → C1Of Bs bw tk k ∨ w.heap.size ≤ k := by
    rintro k (e | e | e | e)
    · exact Or.inl (Or.inl e)
    · exact Or.inl (Or.inr (Or.inl e))
    · exact Or.inr (Nat.le_of_eq e.symm)
    · exact Or.inl (Or.inr (Or.inr e))
  have hbw := (Array.getElem?_eq_some_iff.1 h.roww).1
  have hap := h.mpw.apart_turn h.apw hcs
  have hbB := h.hB
  refine ⟨⟨D.kept h.hp hk, hk.row h.roww, heap_alloc_last _ _, h.mpw.later hk, hap, h.mpw.later hk, hap, own_stay h.own (fun j e => hk.block j (h.own.lt j e).2), h.len, fun i hi => ⟨(h.els i hi).1.turn hcs (ButBy.below hk), (h.els i hi).2⟩, ⟨h.nb, fun e => ?_, by omega⟩, fun j e => ⟨(h.nt j e).1, (h.nt j e).2, ?_⟩, ⟨hbB, by omega⟩⟩, hcs⟩
  · have := (D.above _ _ _ h.hp _ e).2; omega
  · have := (h.own.lt j e).2; omega

theorem TI.done (h : TI B bw bx P s s s tv tv Bs tk Ls vs w) : MI B bw P s tv Bs tk Ls vs w := by
  have hs : ∀ k, C1Of Bs bw tk k → CsOf Bs bw bx tk k := by
    rintro k (e | e | e)
    · exact Or.inl e
    · exact Or.inr (Or.inl e)
    · exact Or.inr (Or.inr (Or.inr e))
  exact ⟨h.hp, h.roww, h.mpw, h.apw.sub hs, h.own, h.len, fun i hi => ⟨⟨(h.els i hi).1.at_, (h.els i hi).1.apart.sub hs⟩, (h.els i hi).2⟩, h.nb.1, fun k e => ⟨(h.nt k e).1, (h.nt k e).2.1⟩, h.hB.1⟩

/-- A new value of the document's map is apart. -/
theorem MpNew.apart (D : MapOk B x P) (h : TI B bw bx P sp sw sx tw tx Bs tk Ls vs w) {s' : Mp} {u' : Value} {w' : World} (hn : MpNew w.heap.size (mpV sw tw) u' w') (hm : MpAt s' u' w') (hfr : s'.fr = sw.fr) (hto : s'.to_ = sw.to_) :
    ∃ t', u' = mpV s' t' ∧ Apart t' (CsOf Bs bw bx tk) := by
  rcases hn with rfl | ⟨a, b, f, t', rfl, ho⟩
  · refine ⟨tw, by unfold mpV; rw [hfr, hto], h.apw⟩
  · obtain ⟨tl, tv', he, ht, h3, h4⟩ := hm
    simp only [Value.agg.injEq] at he
    have e0 := congrArg (fun a => a.getD 0 .nilFunc) he
    have e1 := congrArg (fun a => a.getD 1 .nilFunc) he
    simp at e0 e1
    refine ⟨t', by unfold mpV; rw [e0, e1], (LiveAt.own ho (runsA_wf f) (fun k hk => (h.cs D k hk).2)).apart⟩
end

end Go.Proofs.Ytkdodffnakdckaa
