/- What the calls of a sparse index keep, and what is newest: the mathematics of stage 17, of no program. -/
import Derived.Test.YtaajadmaamjebaaSxM
namespace Go.Proofs.Ytaajadmaamjebaa

/-! ### Look-ups by membership -/
theorem nodup_at {R : List SRow} (h : (R.map Prod.fst).Nodup) {i j : Nat} (hi : i < R.length) (hj : j < R.length) (e : R[i].1 = R[j].1) : i = j := by
  have hp := List.pairwise_iff_getElem.1 h
  rcases Nat.lt_trichotomy i j with h1 | h1 | h1
  · exact absurd (show (R.map Prod.fst)[i]'(by simpa using hi) = (R.map Prod.fst)[j]'(by simpa using hj) by rw [List.getElem_map, List.getElem_map]; exact e) (hp i j (by simpa using hi) (by simpa using hj) h1)
  · exact h1
  · exact absurd (show (R.map Prod.fst)[j]'(by simpa using hj) = (R.map Prod.fst)[i]'(by simpa using hi) by rw [List.getElem_map, List.getElem_map]; exact e.symm) (hp j i (by simpa using hj) (by simpa using hi) h1)
theorem peek_none {R : List SRow} {k : List UInt8} (h : ∀ r ∈ R, r.1 ≠ k) : peekS R k = [] := by
  unfold peekS
  cases e : idxS R k with
  | none => rfl
  | some i =>
    obtain ⟨hi, h1⟩ := idxS_lt e
    exact absurd h1 (h _ (List.getElem_mem hi))
theorem peek_mem {R : List SRow} {k : List UInt8} {l : List Nat} (h1 : (R.map Prod.fst).Nodup) (hm : (k, l) ∈ R) : peekS R k = l := by
  obtain ⟨j, hj, ej⟩ := List.getElem_of_mem hm
  cases e : idxS R k with
  | none => exact absurd rfl (idxS_none e _ hm)
  | some i =>
    obtain ⟨hi, hp⟩ := peek_len e
    obtain ⟨_, hk⟩ := idxS_lt e
    have hij := nodup_at h1 hi hj (by rw [hk, ej])
    subst hij
    rw [hp, ej]
theorem peek_in {R : List SRow} {k : List UInt8} : peekS R k = [] ∨ (k, peekS R k) ∈ R := by
  cases e : idxS R k with
  | none => left; unfold peekS; rw [e]
  | some i =>
    obtain ⟨hi, hp⟩ := peek_len e
    obtain ⟨_, hk⟩ := idxS_lt e
    right
    rw [hp, ← hk]
    exact List.getElem_mem hi
/-- The rows behind the one of a hook is taken out. -/
theorem cut_mem {R : List SRow} (h1 : (R.map Prod.fst).Nodup) (k : List UInt8) (r : SRow) : r ∈ cutS R (atS R k) ↔ r ∈ R ∧ r.1 ≠ k := by
  cases e : idxS R k with
  | none =>
    have ha : atS R k = -1 := by unfold atS; rw [e]
    rw [ha]
    show r ∈ R ↔ _
    exact ⟨fun h => ⟨h, idxS_none e r h⟩, fun h => h.1⟩
  | some i =>
    obtain ⟨hi, hk⟩ := idxS_lt e
    have ha : atS R k = (i : Int) := by unfold atS; rw [e]
    rw [ha]
    unfold cutS
    rw [if_neg (by omega), Int.toNat_natCast, List.mem_eraseIdx_iff_getElem]
    constructor
    · rintro ⟨j, hj, hji, rfl⟩
      exact ⟨List.getElem_mem hj, fun e2 => hji (nodup_at h1 hj hi (by rw [e2, hk]))⟩
    · rintro ⟨hm, hne⟩
      obtain ⟨j, hj, rfl⟩ := List.getElem_of_mem hm
      exact ⟨j, hj, fun e2 => hne (by subst e2; exact hk), rfl⟩
theorem last_mem {R : List SRow} (h1 : (R.map Prod.fst).Nodup) (k : List UInt8) (l : List Nat) (r : SRow) : r ∈ lastS R (atS R k) (k, l) ↔ (r ∈ R ∧ r.1 ≠ k) ∨ r = (k, l) := by
  unfold lastS
  rw [List.mem_append, cut_mem h1, List.mem_singleton]

/-! ### What is kept -/
theorem OkS.last {per : Int} {R : List SRow} (h : OkS per R) {k : List UInt8} (hk : k.length = 32) {l : List Nat} (h1 : 1 ≤ l.length) (h2 : (l.length : Int) ≤ per) (h3 : ∀ m ∈ l, m < 4294967296) : OkS per (lastS R (atS R k) (k, l)) := by
  have hm := fun r => (last_mem h.one k l r).1
  refine ⟨fun r hr => ?_, fun r hr => ?_, fun r hr => ?_, fun r hr => ?_, ?_⟩
  · rcases hm r hr with ⟨x, -⟩ | x
    · exact h.key r x
    · rw [x]; exact hk
  · rcases hm r hr with ⟨x, -⟩ | x
    · exact h.pos r x
    · rw [x]; exact h1
  · rcases hm r hr with ⟨x, -⟩ | x
    · exact h.per r x
    · rw [x]; exact h2
  · rcases hm r hr with ⟨x, -⟩ | x
    · exact h.lo r x
    · rw [x]; exact h3
  · unfold lastS
    rw [List.map_append, List.nodup_append]
    refine ⟨(h.cut _).one, by simp, fun a ha b hb => ?_⟩
    obtain ⟨r, hr, rfl⟩ := List.mem_map.1 ha
    have h4 := ((cut_mem h.one k r).1 hr).2
    simp only [List.map_cons, List.map_nil, List.mem_singleton] at hb
    rw [hb]; exact h4
theorem OkS.trim {per : Int} {R : List SRow} (h : OkS per R) (most : Int) : OkS per (trimS most R) := by
  obtain ⟨P, e⟩ := trim_suffix (most := most) R
  exact h.sub (by conv => rhs; rw [e]
                  exact List.sublist_append_right _ _)
theorem foldS_mem (per : Int) (man : Nat) : ∀ (old l : List Nat) (m : Nat), m ∈ old.foldl (addS per man) l → m ∈ l ∨ m ∈ old
  | [], _, _, h => Or.inl h
  | a :: old, l, m, h => by
    rcases foldS_mem per man old _ m h with x | x
    · unfold addS at x
      split at x
      · rcases List.mem_append.1 x with y | y
        · exact Or.inl y
        · rw [List.mem_singleton.1 y]; exact Or.inr (List.mem_cons_self ..)
      · exact Or.inl x
    · exact Or.inr (List.mem_cons_of_mem _ x)
theorem OkS.peek_lo {per : Int} {R : List SRow} (h : OkS per R) (k : List UInt8) : ∀ m ∈ peekS R k, m < 4294967296 := fun m hm => by
  rcases peek_in (R := R) (k := k) with x | x
  · rw [x] at hm; cases hm
  · exact h.lo _ x m hm
theorem OkS.one_ {per most : Int} {R : List SRow} (h : OkS per R) (hp : 1 ≤ per) {man : Nat} (hman : man < 4294967296) {k : List UInt8} (hk : k.length = 32) : OkS per (lastS R (atS R k) (k, listS per man (peekS R k))) ∧ OkS per (putOne per most man R k) := by
  have h1 : OkS per (lastS R (atS R k) (k, listS per man (peekS R k))) := h.last hk (listS_pos per man _) (foldS_per per man _ [man] (by simpa using hp)) (fun m hm => by
    rcases foldS_mem per man _ _ m hm with x | x
    · rw [List.mem_singleton.1 x]; exact hman
    · exact h.peek_lo k m x)
  exact ⟨h1, h1.trim most⟩
theorem OkS.fold {per : Int} (most : Int) (hp : 1 ≤ per) {man : Nat} (hman : man < 4294967296) : ∀ (S : List (List UInt8)) (R : List SRow), OkS per R → (∀ k ∈ S, k.length = 32) → OkS per (S.foldl (putOne per most man) R)
  | [], _, h, _ => h
  | k :: S, _, h, hS => OkS.fold most hp hman S _ (h.one_ hp hman (hS k (List.mem_cons_self ..))).2 (fun x hx => hS x (List.mem_cons_of_mem _ hx))
theorem OkS.look {per : Int} {R : List SRow} (h : OkS per R) (k : List UInt8) : OkS per (lookS R k) := by
  unfold lookS
  cases e : idxS R k with
  | none => exact h
  | some i =>
    obtain ⟨hi, hk⟩ := idxS_lt e
    have ha : atS R k = (i : Int) := by unfold atS; rw [e]
    have hg : R.getD i ([], []) = R[i] := by rw [List.getD_eq_getElem?_getD, List.getElem?_eq_getElem hi]; rfl
    have hm := List.getElem_mem hi
    show OkS per (lastS R (i : Int) (R.getD i ([], [])))
    rw [hg, ← ha, show R[i] = (k, R[i].2) from Prod.ext hk rfl]
    exact h.last (by rw [← hk]; exact h.key _ hm) (h.pos _ hm) (h.per _ hm) (h.lo _ hm)
theorem drop_mem (man : Nat) : ∀ (R : List SRow) (r : SRow), r ∈ dropS man R → ∃ q ∈ R, r = (q.1, keepS man q.2) ∧ 0 < r.2.length
  | [], _, h => by cases h
  | q :: R, r, h => by
    unfold dropS at h
    split at h
    · rename_i hp
      rcases List.mem_cons.1 h with x | x
      · exact ⟨q, List.mem_cons_self .., x, by rw [x]; exact hp⟩
      · obtain ⟨q', h1, h2⟩ := drop_mem man R r x
        exact ⟨q', List.mem_cons_of_mem _ h1, h2⟩
    · obtain ⟨q', h1, h2⟩ := drop_mem man R r h
      exact ⟨q', List.mem_cons_of_mem _ h1, h2⟩
theorem drop_keys (man : Nat) : ∀ R : List SRow, ((dropS man R).map Prod.fst).Sublist (R.map Prod.fst)
  | [] => List.Sublist.slnil
  | q :: R => by
    unfold dropS
    split
    · exact (drop_keys man R).cons_cons q.1
    · exact (drop_keys man R).cons q.1
theorem OkS.drop {per : Int} {R : List SRow} (h : OkS per R) (man : Nat) : OkS per (dropS man R) := by
  refine ⟨fun r hr => ?_, fun r hr => ?_, fun r hr => ?_, fun r hr m hm => ?_, h.one.sublist (drop_keys man R)⟩
  · obtain ⟨q, hq, e, -⟩ := drop_mem man R r hr
    rw [e]; exact h.key q hq
  · obtain ⟨q, hq, e, hp⟩ := drop_mem man R r hr
    exact hp
  · obtain ⟨q, hq, e, -⟩ := drop_mem man R r hr
    have h1 : (keepS man q.2).length ≤ q.2.length := List.length_filter_le _ _
    have h2 := h.per q hq
    rw [e]
    show ((keepS man q.2).length : Int) ≤ per
    omega
  · obtain ⟨q, hq, e, -⟩ := drop_mem man R r hr
    rw [e] at hm
    exact h.lo q hq m ((List.mem_filter.1 hm).1)

/-- What any index keeps, with its bounds. -/
structure OkI (per most : Int) (R : List SRow) : Prop where
  ok : OkS per R
  len : (lenS R : Int) ≤ most
  p : 0 ≤ per ∧ per ≤ 64
  m : 0 ≤ most ∧ most ≤ 65536
theorem OkI.nil {per most : Int} (p : 0 ≤ per ∧ per ≤ 64) (m : 0 ≤ most ∧ most ≤ 65536) : OkI per most [] := ⟨OkS.nil per, m.1, p, m⟩
theorem OkI.look {per most : Int} {R : List SRow} (h : OkI per most R) (k : List UInt8) : OkI per most (lookS R k) := ⟨h.ok.look k, by rw [lenS_look]; exact h.len, h.p, h.m⟩
theorem OkI.drop {per most : Int} {R : List SRow} (h : OkI per most R) (man : Nat) : OkI per most (dropS man R) := ⟨h.ok.drop man, by have := drop_len man R; have := h.len; omega, h.p, h.m⟩
theorem OkI.put {per most : Int} {R : List SRow} (h : OkI per most R) {man : Nat} (hman : man < 4294967296) {ls : List (List UInt8)} (hls : ∀ k ∈ ls, k.length = 32) : OkI per most (putS per most man R ls) := by
  refine ⟨?_, put_len h.m.1 man R ls h.len, h.p, h.m⟩
  unfold putS
  split
  · rename_i hc
    exact OkS.fold most (by omega) hman _ _ h.ok (fun k hk => hls k ((setL_mem ls k).1 hk))
  · exact h.ok
theorem OkI.rows {per most : Int} {R : List SRow} (h : OkI per most R) : R.length ≤ 65536 ∧ lenS R ≤ 65536 := by
  have h1 := h.ok.count
  have h2 := h.len
  have h3 := h.m.2
  omega
theorem OkI.peek {per most : Int} {R : List SRow} (h : OkI per most R) (k : List UInt8) : (peekS R k).length ≤ 64 := by
  rcases peek_in (R := R) (k := k) with x | x
  · rw [x]; exact Nat.zero_le _
  · have h1 := h.ok.per _ x
    have h2 := h.p.2
    simp only at h1
    omega

/-! ### Newest -/
theorem setL_len (ls : List (List UInt8)) : (setL ls).length ≤ ls.length := by
  have hins : ∀ (x : List UInt8) (l : List (List UInt8)), (ins x l).length = l.length + 1 := by
    intro x l
    induction l with
    | nil => rfl
    | cons a l ih =>
      unfold ins
      split
      · rw [List.length_cons, ih, List.length_cons]
      · rfl
  have : ∀ (ls out : List (List UInt8)), (ls.foldl add1 out).length ≤ out.length + ls.length := by
    intro ls
    induction ls with
    | nil => intro out; simp
    | cons a ls ih =>
      intro out
      have h1 := ih (add1 out a)
      have h2 : (add1 out a).length ≤ out.length + 1 := by
        unfold add1
        split
        · omega
        · rw [hins]; omega
      rw [List.foldl_cons, List.length_cons]; omega
  have h := this ls []
  simpa [setL] using h
theorem fold_len (per most : Int) (man : Nat) : ∀ (S : List (List UInt8)) (R : List SRow), lenS (S.foldl (putOne per most man) R) ≤ lenS R + S.length
  | [], R => Nat.le_refl _
  | k :: S, R => by
    have h1 := fold_len per most man S (putOne per most man R k)
    have h2 := one_len per man R k
    have h3 : lenS (putOne per most man R k) ≤ lenS (lastS R (atS R k) (k, listS per man (peekS R k))) := by
      obtain ⟨P, e⟩ := trim_suffix (most := most) (lastS R (atS R k) (k, listS per man (peekS R k)))
      show lenS (trimS most _) ≤ _
      conv => rhs; rw [e]
      rw [lenS_append]; omega
    rw [List.foldl_cons, List.length_cons]; omega
theorem putS_len (per most : Int) (man : Nat) (R : List SRow) (ls : List (List UInt8)) : lenS (putS per most man R ls) ≤ lenS R + ls.length := by
  unfold putS
  split
  · have h1 := fold_len per most man (setL ls) R
    have h2 := setL_len ls
    omega
  · omega
/-- A row of which nothing behind is written is the newest, or gone. -/
theorem newest_last {per most : Int} {R : List SRow} (h : OkS per R) (hp : 1 ≤ per) {man : Nat} (hman : man < 4294967296) {k : List UInt8} (hk : k.length = 32) :
    peekS (putOne per most man R k) k = [] ∨ (peekS (putOne per most man R k) k).head? = some man := by
  obtain ⟨h1, h2⟩ := h.one_ (most := most) hp hman hk
  rcases peek_in (R := putOne per most man R k) (k := k) with x | x
  · exact Or.inl x
  · right
    obtain ⟨P, e⟩ := trim_suffix (most := most) (lastS R (atS R k) (k, listS per man (peekS R k)))
    have hm : (k, peekS (putOne per most man R k) k) ∈ lastS R (atS R k) (k, listS per man (peekS R k)) := by
      rw [e]; exact List.mem_append_right _ x
    rcases (last_mem h.one k _ _).1 hm with ⟨-, y⟩ | y
    · exact absurd rfl y
    · rw [(Prod.mk.inj y).2]
      exact listS_head per man _
/-- Where there is room for all pairs, all that are put have it first. -/
theorem newest_all {per most : Int} (hp : 1 ≤ per) {man : Nat} (hman : man < 4294967296) : ∀ (S : List (List UInt8)) (R : List SRow), OkS per R → (∀ k ∈ S, k.length = 32) → (lenS R + S.length : Int) ≤ most →
    ∀ k, (k ∈ S ∨ (peekS R k).head? = some man) → (peekS (S.foldl (putOne per most man) R) k).head? = some man
  | [], R, _, _, _, k, hk => by
    rcases hk with x | x
    · cases x
    · exact x
  | a :: S, R, h, hS, hl, k, hk => by
    obtain ⟨h1, h2⟩ := h.one_ (most := most) hp hman (hS a (List.mem_cons_self ..))
    have hlen := one_len per man R a
    rw [List.length_cons] at hl
    have ht : putOne per most man R a = lastS R (atS R a) (a, listS per man (peekS R a)) := trim_id _ (by omega)
    rw [List.foldl_cons]
    refine newest_all hp hman S _ h2 (fun x hx => hS x (List.mem_cons_of_mem _ hx)) (by rw [ht]; omega) k ?_
    by_cases hka : k = a
    · right
      subst hka
      rw [ht, peek_mem h1.one ((last_mem h.one k _ _).2 (Or.inr rfl))]
      exact listS_head per man _
    · rcases hk with x | x
      · rcases List.mem_cons.1 x with y | y
        · exact absurd y hka
        · exact Or.inl y
      · right
        rcases peek_in (R := R) (k := k) with y | y
        · rw [y] at x; cases x
        · rw [ht, peek_mem h1.one ((last_mem h.one a _ _).2 (Or.inl ⟨y, hka⟩))]
          exact x

end Go.Proofs.Ytaajadmaamjebaa
