/- Segments as rows of their own: where an append's row lies; the walk of Split. -/
import Derived.Test.YtlmccnelhpnneaaSegD
import Derived.Test.YtlmccnelhpnneaaSegH
namespace Go.Proofs.Ytlmccnelhpnneaa
open Go.RowKit

/-- Where the row of an append's result lies: where the old one lay, or in a new block. -/
theorem append_where {P : Program} (w : World) (base : Nat) (t ty e : TypeId) (i : TypeInfo) (z : Value) (size bytes : Nat) (ht : P.underlying t = some (.slice e)) (hi : P.info? e = some i) (hz : i.zero = some z)
    (hsize : i.size = size) (hby : i.bytes = bytes) (v : Value) (n : Nat) (xs : List Value) (hown : w.ownsRow base e size v n xs)
    (a : Addr) (m c : Nat) (news : List Value) (hl : news.length = m * size) (hnews : ∀ j u, news[j]? = some u → w.cell? (a.add j) = some u) (h1 : ∀ u ∈ news, u.oneCell' = true)
    (h63 : n + m ≤ maxLen) (hbytes : (n + m) * bytes ≤ 140737488355328) {v' : Value} {w' : World} (hr : (Builtin.append_ #[t, t] ty #[v, .slice (some a) m c]).run P w = .ok v' w') :
    v'.ownBlock = v.ownBlock ∨ v'.ownBlock = some w.heap.size := by
  subst hsize
  subst hby
  have hsmall : n + m ≤ 9223372036854775807 := by simp only [maxLen] at h63; omega
  rcases hown.2 with ⟨rfl, rfl⟩ | ⟨g, cap, cur, rfl, hbg, hg, hnc, hcm, hcs, htake⟩
  · by_cases hm : m = 0
    · subst hm
      have hn : news = [] := List.eq_nil_of_length_eq_zero (by simpa using hl)
      subst hn
      left
      have hq : (Builtin.append_ #[t, t] ty #[.slice none 0 0, .slice (some a) 0 c]).run P w = .ok (.slice none 0 0) w := by
        simp [Builtin.append_, run_underlying ht, sizeOf, typeInfo, hi, Builtin.lenOf, Builtin.firstCells, loadCells, loadCellsFrom]
      rw [hq] at hr
      simp only [Result.ok.injEq] at hr
      rw [← hr.1]
    · right
      have hq := run_append_nil (P := P) w t ty e i z ht hi hz a m c news hl hnews (by omega) (by omega) (by have hb := hbytes; simp only [Nat.zero_add] at hb; omega)
      rw [hq] at hr
      simp only [Result.ok.injEq] at hr
      rw [← hr.1]
      rfl
  · by_cases hroom : n + m ≤ cap
    · left
      have hfit : n * i.size + news.length ≤ cur.size := by rw [hl, hcs, ← Nat.add_mul]; exact Nat.mul_le_mul_right _ hroom
      have hq := run_append_room (P := P) w t ty e i ht hi g n cap cur hg a m c news hl hnews h1 hroom hfit
      rw [hq] at hr
      simp only [Result.ok.injEq] at hr
      rw [← hr.1]
      rfl
    · right
      have holds : ∀ j u, xs[j]? = some u → w.cell? ((⟨g, 0, none⟩ : Addr).add j) = some u := hown.cells (g := g) rfl
      have hq := run_append_grow (P := P) w t ty e i z ht hi hz ⟨g, 0, none⟩ n cap xs hown.1 holds a m c news hl hnews (by omega) (by omega) (growslice_fits (by omega) hbytes)
      rw [hq] at hr
      simp only [Result.ok.injEq] at hr
      rw [← hr.1]
      rfl

/-- 'append' onto an own row: and where its result's row lies. -/
theorem wpList_append_at {P : Program} {ops : Array Oper} {rest : List Oper} {o : Oper} {a : Act} {w : World} {Q : Exit → Act → World → Prop} (hgd : o.guard = none) (s x : Operand) (t : TypeId)
    (ho : o.op = .call { callee := .builtin .append, args := #[s, x], argTypes := #[t, t] })
    (base : Nat) (e : TypeId) (i : TypeInfo) (z : Value) (size bytes : Nat) (ht : P.underlying t = some (.slice e)) (hi : P.info? e = some i) (hz : i.zero = some z)
    (hsize : i.size = size) (hby : i.bytes = bytes) (hzs : z.cells.size = size) (hsz : 0 < size)
    (v : Value) (n : Nat) (xs : List Value) (hs : a.eval s = v) (hown : w.ownsRow base e size v n xs)
    (ad : Addr) (m c : Nat) (news : List Value) (hx : a.eval x = .slice (some ad) m c) (hl : news.length = m * size) (hnews : ∀ j u, news[j]? = some u → w.cell? (ad.add j) = some u) (h1 : ∀ u ∈ news, u.oneCell' = true)
    (h63 : n + m ≤ maxLen) (hbytes : (n + m) * bytes ≤ 140737488355328) (hbase : base ≤ w.heap.size)
    (h : ∀ v' w', w'.ownsRow base e size v' (n + m) (xs ++ news) → w.grownBy w' v.ownBlock → (v'.ownBlock = v.ownBlock ∨ v'.ownBlock = some w.heap.size) → wpList P ops Q rest (a.put o.dst v') w') : wpList P ops Q (o :: rest) a w := by
  obtain ⟨v', w', hr, h2, h3, _⟩ := run_append_own w base t o.type e i z size bytes ht hi hz hsize hby hzs hsz v n xs hown ad m c news hl hnews h1 h63 hbytes hbase
  have h4 := append_where w base t o.type e i z size bytes ht hi hz hsize hby v n xs hown ad m c news hl hnews h1 h63 hbytes hr
  refine wpList_plain hgd fun K hK => ?_
  unfold Oper.wp execOp
  simp only [ho, resolve, invoke, builtin, Sem.run_bind, Sem.run_pure, Result.andThen_ok, List.map_toArray, List.map_cons, List.map_nil, hs, hx]
  simp only [hr]
  exact hK _ _ (h v' w' h2 h3 h4)

/-- A slice of fingerprints in a block of its own. -/
structure Ent where
  ls : List (List UInt8)
  g : Nat
  cap : Nat
def Ent.val (e : Ent) : Value := .slice (some ⟨e.g, 0, none⟩) e.ls.length e.cap

/-- A slice of such, in memory of the call's own: the rows apart from each other. -/
structure OwnSegs (B : Nat) (E : List Ent) (v : Value) (w : World) : Prop where
  outer : w.ownsRow B 22 1 v E.length (E.map Ent.val)
  each : ∀ i (h : i < E.length), OwnFps B E[i].ls E[i].val w
  apart : ∀ i j (hi : i < E.length) (hj : j < E.length), i ≠ j → E[i].g ≠ E[j].g

theorem Ent.row {B : Nat} {e : Ent} {w : World} (h : OwnFps B e.ls e.val w) : ∃ rest, B ≤ e.g ∧ RowAt e.g e.ls rest w ∧ e.ls.length ≤ e.cap ∧ e.cap ≤ maxLen ∧ e.ls.length * 32 + rest.length = e.cap * 32 := by
  rcases h.parts with ⟨h1, _⟩ | ⟨g, cap, rest, h1, h2, h3, h4, h5, h6⟩
  · simp [Ent.val] at h1
  · simp only [Ent.val, Value.slice.injEq, Option.some.injEq, Addr.mk.injEq, and_true, true_and] at h1
    obtain ⟨rfl, rfl⟩ := h1
    exact ⟨rest, h2, h3, h4, h5, h6⟩

theorem OwnFps.row_kept {B : Nat} {e : Ent} {w w' : World} (h : OwnFps B e.ls e.val w) (hb : w'.heap[e.g]? = w.heap[e.g]?) : OwnFps B e.ls e.val w' := by
  obtain ⟨rest, h2, h3, h4, h5, h6⟩ := Ent.row h
  exact OwnFps.of_row h2 ⟨h3.1, by rw [hb]; exact h3.2⟩ h4 h5 h6

section
variable {B : Nat} {E : List Ent} {v : Value} {w : World}

theorem OwnSegs.nil (B : Nat) (w : World) : OwnSegs B [] (.slice none 0 0) w :=
  ⟨World.ownsRow_nil w B _ 1, fun i h => by simp at h, fun i j hi => by simp at hi⟩

theorem OwnSegs.later (h : OwnSegs B E v w) {w' : World} (k : Kept w w') : OwnSegs B E v w' :=
  ⟨ownS_later h.outer k, fun i hi => (h.each i hi).later k, h.apart⟩

theorem OwnSegs.base (h : OwnSegs B E v w) {B' : Nat} (hB : B' ≤ B) : OwnSegs B' E v w := by
  refine ⟨⟨h.outer.1, ?_⟩, fun i hi => (h.each i hi).base hB, h.apart⟩
  rcases h.outer.2 with hn | ⟨g, cap, cur, rfl, hb, hr⟩
  · exact Or.inl hn
  · exact Or.inr ⟨g, cap, cur, rfl, Nat.le_trans hB hb, hr⟩

/-- A row is not the outer one. -/
theorem OwnSegs.not_outer (h : w.ownsRow B 22 1 v E.length (E.map Ent.val)) {e : Ent} {B' : Nat} (he : OwnFps B' e.ls e.val w) : v.ownBlock ≠ some e.g := by
  intro hv
  obtain ⟨rest, _, h3, _⟩ := Ent.row he
  rcases h.2 with ⟨rfl, _⟩ | ⟨g, cap, cur, rfl, hb, hg, hr⟩
  · simp [Value.ownBlock] at hv
  · simp only [Value.ownBlock, Option.some.injEq] at hv
    rw [hv, h3.2] at hg
    simp at hg

theorem OwnSegs.lt (h : OwnSegs B E v w) (i : Nat) (hi : i < E.length) : B ≤ E[i].g ∧ E[i].g < w.heap.size := by
  obtain ⟨rest, h1, h3, _⟩ := Ent.row (h.each i hi)
  exact ⟨h1, h3.lt⟩

/-- One more row. -/
theorem OwnSegs.snoc (h : OwnSegs B E v w) {e : Ent} (he : OwnFps B e.ls e.val w) (hne : ∀ i (hi : i < E.length), E[i].g ≠ e.g) {v' : Value} {w' : World}
    (ho : w'.ownsRow B 22 1 v' (E.length + 1) (E.map Ent.val ++ [e.val])) (hg : w.grownBy w' v.ownBlock) : OwnSegs B (E ++ [e]) v' w' := by
  have keep : ∀ x : Ent, OwnFps B x.ls x.val w → OwnFps B x.ls x.val w' := fun x hx => by
    obtain ⟨rest, _, h3, _⟩ := Ent.row hx
    exact hx.row_kept (hg.block x.g h3.lt (fun q => OwnSegs.not_outer h.outer hx q.symm))
  refine ⟨by rw [List.length_append, List.map_append]; exact ho, fun i hi => ?_, fun i j hi hj hij => ?_⟩
  · rw [List.length_append, List.length_singleton] at hi
    by_cases hl : i < E.length
    · rw [List.getElem_append_left hl]
      exact keep _ (h.each i hl)
    · rw [List.getElem_append_right (by omega)]
      simp only [List.getElem_singleton]
      exact keep _ he
  · rw [List.length_append, List.length_singleton] at hi hj
    by_cases hl : i < E.length
    · by_cases hm : j < E.length
      · rw [List.getElem_append_left hl, List.getElem_append_left hm]
        exact h.apart i j hl hm hij
      · rw [List.getElem_append_left hl, List.getElem_append_right (by omega)]
        simp only [List.getElem_singleton]
        exact hne i hl
    · by_cases hm : j < E.length
      · rw [List.getElem_append_right (by omega), List.getElem_append_left hm]
        simp only [List.getElem_singleton]
        exact (hne j hm).symm
      · omega

/-- The outer row's cells. -/
theorem OwnSegs.cell (h : OwnSegs B E v w) (i : Nat) (hi : i < E.length) : ∃ gp cap, v = .slice (some ⟨gp, 0, none⟩) E.length cap ∧ B ≤ gp ∧ w.cell? ⟨gp, i, none⟩ = some E[i].val := by
  rcases h.outer.2 with ⟨rfl, h0⟩ | ⟨g, cap, cur, rfl, hb, hg, hr⟩
  · omega
  · refine ⟨g, cap, rfl, hb, ?_⟩
    have := h.outer.cells (g := g) rfl i E[i].val (by rw [List.getElem?_map, List.getElem?_eq_getElem hi]; rfl)
    rwa [add_plain, Nat.zero_add] at this

/-- As slices of slices. -/
theorem OwnSegs.segs (h : OwnSegs B E v w) : SegsAt (E.map Ent.ls) v w := by
  by_cases h0 : E = []
  · subst h0
    rcases h.outer.2 with ⟨rfl, _⟩ | ⟨g, cap, cur, rfl, _⟩
    · exact ⟨none, 0, [], rfl, rfl, Or.inl rfl, fun i hi => by simp at hi⟩
    · exact ⟨_, cap, [], rfl, rfl, Or.inl rfl, fun i hi => by simp at hi⟩
  · have hl : 0 < E.length := List.length_pos_iff.2 h0
    obtain ⟨gp, cap, rfl, _, _⟩ := h.cell 0 hl
    refine ⟨_, cap, E.map Ent.val, by rw [List.length_map], by rw [List.length_map, List.length_map], Or.inr ⟨gp, 0, rfl, fun i hi => ?_⟩, fun i hi h2 => ?_⟩
    · rw [List.length_map] at hi
      obtain ⟨gp', cap', e, _, hc⟩ := h.cell i hi
      simp only [Value.slice.injEq, Option.some.injEq, Addr.mk.injEq, and_true, true_and] at e
      obtain ⟨rfl, _⟩ := e
      rw [Nat.zero_add, hc]
      simp
    · rw [List.length_map] at hi
      simp only [List.getElem_map]
      exact (h.each i hi).fps

/-- One row changed. -/
theorem OwnSegs.change (h : OwnSegs B E v w) (i : Nat) (_hi : i < E.length) {e : Ent} {w' : World} (ho : w'.ownsRow B 22 1 v E.length ((E.set i e).map Ent.val)) (he : OwnFps B e.ls e.val w')
    (hk : ∀ j (hj : j < E.length), j ≠ i → w'.heap[E[j].g]? = w.heap[E[j].g]?) (hne : ∀ j (hj : j < E.length), j ≠ i → E[j].g ≠ e.g) : OwnSegs B (E.set i e) v w' := by
  refine ⟨by rw [List.length_set]; exact ho, fun j hj => ?_, fun j k hj hk2 hjk => ?_⟩
  · rw [List.length_set] at hj
    rw [List.getElem_set]
    by_cases hij : i = j
    · rw [if_pos hij]; exact he
    · rw [if_neg hij]
      exact (h.each j hj).row_kept (hk j hj (fun e => hij e.symm))
  · rw [List.length_set] at hj hk2
    rw [List.getElem_set, List.getElem_set]
    by_cases h1 : i = j
    · rw [if_pos h1, if_neg (by omega)]
      exact (hne k hk2 (by omega)).symm
    · rw [if_neg h1]
      by_cases h2 : i = k
      · rw [if_pos h2]
        exact hne j hj (by omega)
      · rw [if_neg h2]
        exact h.apart j k hj hk2 hjk
end

end Go.Proofs.Ytlmccnelhpnneaa
