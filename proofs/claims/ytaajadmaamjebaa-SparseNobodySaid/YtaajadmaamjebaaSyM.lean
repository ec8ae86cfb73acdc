/- The landed sparse index: what a Put makes of a list, and rings of blocks; mathematics of stage 17, of no program. -/
import Derived.Test.YtaajadmaamjebaaSxN
namespace Go.Proofs.Ytaajadmaamjebaa

/-! ### The list that a Put makes -/
def firstM (per : Int) (man : Nat) (old : List Nat) : List Nat := (man :: keepS man old).take per.toNat
theorem fold_first (per : Int) (hp : 0 ≤ per) (man : Nat) : ∀ (old l : List Nat), (l.length : Int) ≤ per → old.foldl (addS per man) l = (l ++ keepS man old).take per.toNat
  | [], l, h => by
    have e : keepS man [] = [] := rfl
    rw [e, List.append_nil, List.take_of_length_le (by omega)]; rfl
  | m :: old, l, h => by
    rw [List.foldl_cons, show addS per man l m = if m ≠ man ∧ (l.length : Int) < per then l ++ [m] else l from rfl]
    by_cases hm : m = man
    · have e : keepS man (m :: old) = keepS man old := by unfold keepS; rw [List.filter_cons_of_neg (by simpa using hm)]
      rw [if_neg (fun x => x.1 hm), e]
      exact fold_first per hp man old l h
    · have e : keepS man (m :: old) = m :: keepS man old := by unfold keepS; rw [List.filter_cons_of_pos (by simpa using hm)]
      rw [e]
      by_cases hl : (l.length : Int) < per
      · rw [if_pos ⟨hm, hl⟩]
        have := fold_first per hp man old (l ++ [m]) (by simp only [List.length_append, List.length_cons, List.length_nil]; omega)
        rw [this, List.append_assoc]; rfl
      · rw [if_neg (fun x => hl x.2)]
        have h1 : per.toNat = l.length := by omega
        have := fold_first per hp man old l h
        rw [this, h1, List.take_left' rfl, List.take_left' rfl]
theorem listS_first {per : Int} (h : 1 ≤ per) (man : Nat) (old : List Nat) : listS per man old = firstM per man old :=
  fold_first per (by omega) man old [man] (by simp only [List.length_cons, List.length_nil]; omega)
def rowM (per : Int) (man : Nat) (h : List UInt8) (old : List Nat) : List SRow := if (firstM per man old).length = 0 then [] else [(h, firstM per man old)]
/-- What the landed put makes of the rows. -/
def landOne (per most : Int) (man : Nat) (R : List SRow) (h : List UInt8) : List SRow := trimS most (cutS R (atS R h) ++ rowM per man h (peekS R h))
theorem rows_nil {per : Int} {R : List SRow} (ok : OkS per R) (h : per ≤ 0 ∨ lenS R = 0) : R = [] := by
  cases R with
  | nil => rfl
  | cons r R =>
    have h1 := ok.pos r (List.mem_cons_self ..)
    have h2 := ok.per r (List.mem_cons_self ..)
    rcases h with h | h
    · omega
    · have : r.2.length + lenS R = 0 := h
      omega
theorem landOne_put {per most : Int} {man : Nat} {R : List SRow} (ok : OkI per most R) (h : List UInt8) : landOne per most man R h = if 0 < per ∧ 0 < most then putOne per most man R h else R := by
  have hm := ok.m.1
  by_cases hp : 0 < per
  · have e1 : listS per man (peekS R h) = firstM per man (peekS R h) := listS_first (by omega) _ _
    have h1 := listS_pos per man (peekS R h)
    rw [e1] at h1
    have e2 : rowM per man h (peekS R h) = [(h, firstM per man (peekS R h))] := if_neg (by omega)
    by_cases hm2 : 0 < most
    · rw [if_pos ⟨hp, hm2⟩]
      unfold landOne putOne lastS
      rw [e1, e2]
    · rw [if_neg (fun x => hm2 x.2)]
      have h0 : R = [] := rows_nil ok.ok (Or.inr (by have := ok.len; omega))
      unfold landOne
      rw [e2, h0]
      show trimS most [(h, firstM per man (peekS [] h))] = []
      rw [h0] at h1
      unfold trimS
      rw [if_pos (by simp only [lenS]; omega)]; rfl
  · rw [if_neg (fun x => hp x.1)]
    have h0 : R = [] := rows_nil ok.ok (Or.inl (by omega))
    have e2 : rowM per man h (peekS R h) = [] := if_pos (by unfold firstM; rw [show per.toNat = 0 by omega]; rfl)
    unfold landOne
    rw [e2, h0]; rfl
theorem put_land {per most : Int} {man : Nat} : ∀ (S : List (List UInt8)) (R : List SRow), OkI per most R → (∀ k ∈ S, k.length = 32) → man < 4294967296 → S.foldl (landOne per most man) R = if 0 < per ∧ 0 < most then S.foldl (putOne per most man) R else R
  | [], R, _, _, _ => by split <;> rfl
  | h :: S, R, ok, h32, hman => by
    rw [List.foldl_cons, List.foldl_cons, landOne_put ok h]
    have h3 : OkI per most (if 0 < per ∧ 0 < most then putOne per most man R h else R) := by
      have := ok.put hman (ls := [h]) (fun k hk => by rw [List.mem_singleton.1 hk]; exact h32 h (List.mem_cons_self ..))
      exact this
    have IH := put_land (man := man) S _ h3 (fun k hk => h32 k (List.mem_cons_of_mem _ hk)) hman
    rw [IH]
    split
    · rfl
    · rfl
theorem landOne_ok {per most : Int} {man : Nat} {R : List SRow} (ok : OkI per most R) {h : List UInt8} (h32 : h.length = 32) (hman : man < 4294967296) : OkI per most (landOne per most man R h) := by
  rw [landOne_put ok h]
  have := ok.put hman (ls := [h]) (fun k hk => by rw [List.mem_singleton.1 hk]; exact h32)
  exact this

/-! ### Rings -/
structure Nd where
  h : List UInt8
  ms : List Nat
  v : Value
  o : Nat
  n : Nat
abbrev Ring := Nat → Option Nd
def nxR (σ : Ring) (b : Nat) : Option Nat := (σ b).map Nd.n
def pvR (σ : Ring) (b : Nat) : Option Nat := (σ b).map Nd.o
def PathR (σ : Ring) : Nat → List Nat → Nat → Prop
  | a, [], e => nxR σ a = some e ∧ pvR σ e = some a
  | a, b :: L, e => nxR σ a = some b ∧ pvR σ b = some a ∧ PathR σ b L e
theorem path_cut {σ : Ring} {b e : Nat} {L2 : List Nat} : ∀ {a : Nat} {L1 : List Nat}, PathR σ a (L1 ++ b :: L2) e ↔ PathR σ a L1 b ∧ PathR σ b L2 e
  | a, [] => by
    show nxR σ a = some b ∧ pvR σ b = some a ∧ PathR σ b L2 e ↔ (nxR σ a = some b ∧ pvR σ b = some a) ∧ PathR σ b L2 e
    exact and_assoc.symm
  | a, x :: L1 => by
    show nxR σ a = some x ∧ pvR σ x = some a ∧ PathR σ x (L1 ++ b :: L2) e ↔ (nxR σ a = some x ∧ pvR σ x = some a ∧ PathR σ x L1 b) ∧ PathR σ b L2 e
    rw [path_cut (L1 := L1), and_assoc, and_assoc]
theorem path_last {σ : Ring} {b p : Nat} (hp : pvR σ b = some p) : ∀ {a : Nat} {L : List Nat}, PathR σ a L b → p ∈ a :: L
  | a, [], h => by
    have := h.2
    rw [hp] at this
    rw [Option.some.inj this]; exact List.mem_cons_self ..
  | a, x :: L, h => List.mem_cons_of_mem _ (path_last hp h.2.2)
theorem path_same {σ σ' : Ring} {e : Nat} : ∀ {a : Nat} {L : List Nat}, PathR σ a L e → (∀ k ∈ a :: L, nxR σ' k = nxR σ k) → (∀ k ∈ L, pvR σ' k = pvR σ k) → pvR σ' e = pvR σ e → PathR σ' a L e
  | a, [], h, h1, _, h3 => ⟨(h1 a (List.mem_cons_self ..)).trans h.1, h3.trans h.2⟩
  | a, x :: _, h, h1, h2, h3 => ⟨(h1 a (List.mem_cons_self ..)).trans h.1, (h2 x (List.mem_cons_self ..)).trans h.2.1, path_same h.2.2 (fun k hk => h1 k (List.mem_cons_of_mem _ hk)) (fun k hk => h2 k (List.mem_cons_of_mem _ hk)) h3⟩
/-- A path that ends elsewhere. -/
theorem path_end {σ σ' : Ring} {b c p : Nat} (hp : pvR σ b = some p) (h1 : nxR σ' p = some c) (h2 : pvR σ' c = some p) : ∀ {a : Nat} {L : List Nat}, PathR σ a L b → (a :: L).Nodup → (∀ k ∈ a :: L, k ≠ p → nxR σ' k = nxR σ k) → (∀ k ∈ L, pvR σ' k = pvR σ k) → PathR σ' a L c
  | a, [], h, _, _, _ => by
    have := h.2
    rw [hp] at this
    have e := Option.some.inj this
    subst e
    exact ⟨h1, h2⟩
  | a, x :: L, h, hd, h3, h4 => by
    have hm := path_last hp h.2.2
    have hne : a ≠ p := fun e => (List.nodup_cons.1 hd).1 (e ▸ hm)
    exact ⟨(h3 a (List.mem_cons_self ..) hne).trans h.1, (h4 x (List.mem_cons_self ..)).trans h.2.1,
      path_end hp h1 h2 h.2.2 (List.nodup_cons.1 hd).2 (fun k hk => h3 k (List.mem_cons_of_mem _ hk)) (fun k hk => h4 k (List.mem_cons_of_mem _ hk))⟩
/-- One leaves. -/
theorem path_leave {σ σ' : Ring} {be l p q : Nat} {L1 L2 : List Nat} (hd : (be :: (L1 ++ l :: L2)).Nodup) (h : PathR σ be (L1 ++ l :: L2) be) (hp : pvR σ l = some p) (hq : nxR σ l = some q)
    (hn : ∀ k, nxR σ' k = if k = p then some q else nxR σ k) (ho : ∀ k, pvR σ' k = if k = q then some p else pvR σ k) : PathR σ' be (L1 ++ L2) be := by
  obtain ⟨hA, hB⟩ := path_cut.1 h
  obtain ⟨hd0, hd1⟩ := List.nodup_cons.1 hd
  obtain ⟨hd2, hd3, hd4⟩ := List.nodup_append.1 hd1
  have hpm := path_last hp hA
  have hdA : (be :: L1).Nodup := List.nodup_cons.2 ⟨fun x => hd0 (List.mem_append_left _ x), hd2⟩
  have hnp : nxR σ' p = some q := by rw [hn, if_pos rfl]
  have hoq : pvR σ' q = some p := by rw [ho, if_pos rfl]
  cases L2 with
  | nil =>
    rw [List.append_nil]
    have e : q = be := by
      have := hB.1
      rw [hq] at this
      exact Option.some.inj this
    subst e
    exact path_end hp hnp hoq hA hdA (fun k _ hk => by rw [hn, if_neg hk]) (fun k hk => by rw [ho, if_neg (fun e => by subst e; exact (List.nodup_cons.1 hdA).1 hk)])
  | cons x L2 =>
    have e : q = x := by
      have := hB.1
      rw [hq] at this
      exact Option.some.inj this
    subst e
    have hxL : q ∉ L1 := fun hk => hd4 q hk q (List.mem_cons_of_mem _ (List.mem_cons_self ..)) rfl
    have hx2 := (List.nodup_cons.1 (List.nodup_cons.1 hd3).2).1
    have hpq : ∀ k ∈ q :: L2, k ≠ p := fun k hk e => by
      subst e
      rcases List.mem_cons.1 hpm with y | y
      · subst y; exact hd0 (List.mem_append_right _ (List.mem_cons_of_mem _ hk))
      · exact hd4 k y k (List.mem_cons_of_mem _ hk) rfl
    refine path_cut.2 ⟨path_end hp hnp hoq hA hdA (fun k _ hk => by rw [hn, if_neg hk]) (fun k hk => by rw [ho, if_neg (fun e : k = q => hxL (e ▸ hk))]), ?_⟩
    refine path_same hB.2.2 (fun k hk => by rw [hn, if_neg (hpq k hk)]) (fun k hk => by rw [ho, if_neg (fun e : k = q => hx2 (e ▸ hk))]) ?_
    rw [ho, if_neg (fun e => hd0 (by rw [e]; exact List.mem_append_right _ (List.mem_cons_of_mem _ (List.mem_cons_self ..))))]
/-- One enters as the last. -/
theorem path_enter {σ σ' : Ring} {be l p : Nat} {L : List Nat} (hd : (be :: L).Nodup) (hl : l ∉ be :: L) (h : PathR σ be L be) (hp : pvR σ be = some p)
    (hn : ∀ k, nxR σ' k = if k = p then some l else if k = l then some be else nxR σ k) (ho : ∀ k, pvR σ' k = if k = be then some l else if k = l then some p else pvR σ k) : PathR σ' be (L ++ [l]) be := by
  have hpm := path_last hp h
  have hlp : l ≠ p := fun e => hl (e ▸ hpm)
  have hlb : l ≠ be := fun e => hl (e ▸ List.mem_cons_self ..)
  refine path_cut.2 ⟨path_end hp (by rw [hn, if_pos rfl]) (by rw [ho, if_neg hlb, if_pos rfl]) h hd (fun k hk hkp => ?_) (fun k hk => ?_), by rw [hn, if_neg hlp, if_pos rfl], by rw [ho, if_pos rfl]⟩
  · rw [hn, if_neg hkp, if_neg (fun e : k = l => hl (e ▸ hk))]
  · rw [ho, if_neg (fun e : k = be => (List.nodup_cons.1 hd).1 (e ▸ hk)), if_neg (fun e : k = l => hl (e ▸ List.mem_cons_of_mem _ hk))]
/-- Where the first one is, and the next one of each. -/
theorem path_head {σ : Ring} {be : Nat} {L : List Nat} (h : PathR σ be L be) : nxR σ be = some (L.headD be) := by
  cases L with
  | nil => exact h.1
  | cons x L => exact h.1
theorem path_next {σ : Ring} {be b : Nat} {L1 L2 : List Nat} (h : PathR σ be (L1 ++ b :: L2) be) : nxR σ b = some (L2.headD be) := by
  have h2 := (path_cut.1 h).2
  cases L2 with
  | nil => exact h2.1
  | cons x L => exact h2.1
theorem path_some {σ : Ring} {a e : Nat} {L : List Nat} (h : PathR σ a L e) : ∀ k ∈ a :: L, ∃ d, σ k = some d := by
  have each : ∀ {a : Nat} {L : List Nat}, PathR σ a L e → ∀ k ∈ a :: L, ∃ d, σ k = some d := by
    intro a L
    induction L generalizing a with
    | nil =>
      intro h k hk
      rw [List.mem_singleton.1 hk]
      obtain ⟨d, hd, -⟩ := Option.map_eq_some_iff.1 h.1
      exact ⟨d, hd⟩
    | cons x L ih =>
      intro h k hk
      rcases List.mem_cons.1 hk with rfl | hk
      · obtain ⟨d, hd, -⟩ := Option.map_eq_some_iff.1 h.1
        exact ⟨d, hd⟩
      · exact ih h.2.2 k hk
  exact each h

/-! ### Rings written -/
def updR (σ : Ring) (b : Nat) (F : Nd → Nd) : Ring := fun k => if k = b then (σ k).map F else σ k
def stN (σ : Ring) (b x : Nat) : Ring := updR σ b (fun d => { d with n := x })
def stO (σ : Ring) (b x : Nat) : Ring := updR σ b (fun d => { d with o := x })
def stV (σ : Ring) (b : Nat) (ms : List Nat) (v : Value) : Ring := updR σ b (fun d => { d with ms := ms, v := v })
section
variable {σ : Ring} {b x k : Nat}
theorem updR_other {F : Nd → Nd} (h : k ≠ b) : updR σ b F k = σ k := if_neg h
theorem updR_same {F : Nd → Nd} {d : Nd} (h : σ b = some d) : updR σ b F b = some (F d) := by unfold updR; rw [if_pos rfl, h]; rfl
theorem nx_stN {d : Nd} (h : σ b = some d) : nxR (stN σ b x) k = if k = b then some x else nxR σ k := by
  unfold nxR stN updR
  split
  · rename_i e; subst e; rw [h]; rfl
  · rfl
theorem pv_stN : pvR (stN σ b x) k = pvR σ k := by
  unfold pvR stN updR
  split
  · cases σ k <;> rfl
  · rfl
theorem pv_stO {d : Nd} (h : σ b = some d) : pvR (stO σ b x) k = if k = b then some x else pvR σ k := by
  unfold pvR stO updR
  split
  · rename_i e; subst e; rw [h]; rfl
  · rfl
theorem nx_stO : nxR (stO σ b x) k = nxR σ k := by
  unfold nxR stO updR
  split
  · cases σ k <;> rfl
  · rfl
theorem nx_stV {ms : List Nat} {v : Value} : nxR (stV σ b ms v) k = nxR σ k := by
  unfold nxR stV updR
  split
  · cases σ k <;> rfl
  · rfl
theorem pv_stV {ms : List Nat} {v : Value} : pvR (stV σ b ms v) k = pvR σ k := by
  unfold pvR stV updR
  split
  · cases σ k <;> rfl
  · rfl
end
/-- What a node has beside its neighbours. -/
def corR (σ : Ring) (b : Nat) : Option (List UInt8 × List Nat × Value) := (σ b).map fun d => (d.h, d.ms, d.v)
theorem cor_stN {σ : Ring} {b x k : Nat} : corR (stN σ b x) k = corR σ k := by
  unfold corR stN updR
  split
  · cases σ k <;> rfl
  · rfl
theorem cor_stO {σ : Ring} {b x k : Nat} : corR (stO σ b x) k = corR σ k := by
  unfold corR stO updR
  split
  · cases σ k <;> rfl
  · rfl
theorem cor_stV {σ : Ring} {b k : Nat} {ms : List Nat} {v : Value} : corR (stV σ b ms v) k = if k = b then (σ b).map (fun d => (d.h, ms, v)) else corR σ k := by
  unfold corR stV updR
  split
  · rename_i e; subst e; cases σ k <;> rfl
  · rfl
theorem some_of_cor {σ σ' : Ring} {k : Nat} (h : corR σ' k = corR σ k) {d : Nd} (hd : σ k = some d) : ∃ d', σ' k = some d' ∧ d'.h = d.h ∧ d'.ms = d.ms ∧ d'.v = d.v := by
  unfold corR at h
  rw [hd] at h
  obtain ⟨d', h1, h2⟩ := Option.map_eq_some_iff.1 h
  simp only [Prod.mk.injEq] at h2
  exact ⟨d', h1, h2⟩
def leaveR (σ : Ring) (p q : Nat) : Ring := stO (stN σ p q) q p
def enterR (σ : Ring) (l be p : Nat) : Ring := stO (stN (stN (stO σ l p) l be) p l) be l
theorem some_stN {σ : Ring} {b x k : Nat} {d : Nd} (h : σ k = some d) : ∃ d', stN σ b x k = some d' := by
  unfold stN updR
  split
  · rw [h]; exact ⟨_, rfl⟩
  · exact ⟨d, h⟩
theorem some_stO {σ : Ring} {b x k : Nat} {d : Nd} (h : σ k = some d) : ∃ d', stO σ b x k = some d' := by
  unfold stO updR
  split
  · rw [h]; exact ⟨_, rfl⟩
  · exact ⟨d, h⟩
theorem nx_leave {σ : Ring} {p q k : Nat} {d : Nd} (hp : σ p = some d) : nxR (leaveR σ p q) k = if k = p then some q else nxR σ k := by
  unfold leaveR; rw [nx_stO, nx_stN hp]
theorem pv_leave {σ : Ring} {p q k : Nat} {d : Nd} (hq : σ q = some d) : pvR (leaveR σ p q) k = if k = q then some p else pvR σ k := by
  obtain ⟨d', h⟩ := some_stN (b := p) (x := q) hq
  unfold leaveR; rw [pv_stO h, pv_stN]
theorem cor_leave {σ : Ring} {p q k : Nat} : corR (leaveR σ p q) k = corR σ k := by unfold leaveR; rw [cor_stO, cor_stN]
theorem nx_enter {σ : Ring} {l be p k : Nat} {dl dp : Nd} (hl : σ l = some dl) (hp : σ p = some dp) : nxR (enterR σ l be p) k = if k = p then some l else if k = l then some be else nxR σ k := by
  obtain ⟨d1, h1⟩ := some_stO (b := l) (x := p) hl
  obtain ⟨d2, h2⟩ := some_stO (b := l) (x := p) hp
  obtain ⟨d3, h3⟩ := some_stN (b := l) (x := be) h2
  unfold enterR; rw [nx_stO, nx_stN h3, nx_stN h1, nx_stO]
theorem pv_enter {σ : Ring} {l be p k : Nat} {dl de : Nd} (hl : σ l = some dl) (he : σ be = some de) : pvR (enterR σ l be p) k = if k = be then some l else if k = l then some p else pvR σ k := by
  obtain ⟨d1, h1⟩ := some_stO (b := l) (x := p) he
  obtain ⟨d2, h2⟩ := some_stN (b := l) (x := be) h1
  obtain ⟨d3, h3⟩ := some_stN (b := p) (x := l) h2
  unfold enterR; rw [pv_stO h3, pv_stN, pv_stN, pv_stO hl]
theorem cor_enter {σ : Ring} {l be p k : Nat} : corR (enterR σ l be p) k = corR σ k := by unfold enterR; rw [cor_stO, cor_stN, cor_stN, cor_stO]

end Go.Proofs.Ytaajadmaamjebaa
