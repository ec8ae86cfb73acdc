/- Lists of runs in memory; rows of truths; the document's end, over, Same; few. -/
import Derived.Test.YtkdodffnakdckaaRows
import Derived.Test.YtkdodffnakdckaaExM
import Derived.Test.YtkdodffnakdckaaFlat
import Derived.Test.YtkdodffnakdckaaGen
import Derived.Laws.OwnMore
namespace Go.Proofs.Ytkdodffnakdckaa
open Go.RowKit

def runC (l : List (Int × Int)) : List Value := l.flatMap fun r => [Value.int .i64 r.1, Value.int .i64 r.2]
theorem runC_append (a b : List (Int × Int)) : runC (a ++ b) = runC a ++ runC b := List.flatMap_append
theorem runC_len : ∀ (l : List (Int × Int)), (runC l).length = l.length * 2
  | [] => rfl
  | r :: l => by
    show ([Value.int .i64 r.1, Value.int .i64 r.2] ++ runC l).length = (l.length + 1) * 2
    rw [List.length_append, runC_len l]; simp; omega
theorem runC_one (l : List (Int × Int)) : ∀ x ∈ runC l, x.oneCell' = true := fun x hx => by
  obtain ⟨r, _, hr⟩ := List.mem_flatMap.1 hx
  simp only [List.mem_cons, List.not_mem_nil, or_false] at hr
  rcases hr with rfl | rfl <;> rfl
theorem runC_get : ∀ (l : List (Int × Int)) (k : Nat) (h : k < l.length), (runC l)[k * 2]? = some (.int .i64 l[k].1) ∧ (runC l)[k * 2 + 1]? = some (.int .i64 l[k].2)
  | [], k, h => by simp at h
  | r :: l, 0, _ => ⟨rfl, rfl⟩
  | r :: l, k + 1, h => by
    have ih := runC_get l k (by simpa using h)
    have e : runC (r :: l) = [Value.int .i64 r.1, Value.int .i64 r.2] ++ runC l := rfl
    rw [e, List.getElem?_append_right (by simp; omega), List.getElem?_append_right (by simp; omega)]
    simp only [List.length_cons, List.length_nil, List.getElem_cons_succ]
    rw [show (k + 1) * 2 - (0 + 1 + 1) = k * 2 by omega, show (k + 1) * 2 + 1 - (0 + 1 + 1) = k * 2 + 1 by omega]
    exact ih
theorem runC_take (l : List (Int × Int)) (n : Nat) : runC (l.take n) = (runC l).take (n * 2) := by
  have h := runC_append (l.take n) (l.drop n)
  rw [List.take_append_drop] at h
  by_cases hn : n ≤ l.length
  · rw [h, List.take_left' (by rw [runC_len, List.length_take]; omega)]
  · rw [List.take_of_length_le (by omega), List.take_of_length_le (by rw [runC_len]; omega)]
/-- A list whose last run has one sector more. -/
theorem runC_bump (l : List (Int × Int)) (h : 0 < l.length) : runC (bump l) = (runC l).set ((l.length - 1) * 2 + 1) (.int .i64 ((l.getD (l.length - 1) (0, 0)).2 + 1)) := by
  obtain ⟨pre, r, rfl⟩ : ∃ pre r, l = pre ++ [r] := ⟨l.dropLast, l.getLast (by intro e; rw [e] at h; simp at h), (List.dropLast_concat_getLast _).symm⟩
  have e : (pre ++ [r]).getD pre.length (0, 0) = r := by rw [List.getD_eq_getElem?_getD, List.getElem?_append_right (Nat.le_refl _), Nat.sub_self]; rfl
  have e2 : (pre ++ [r]).length - 1 = pre.length := by simp
  rw [bump_snoc, runC_append, runC_append, e2, e, List.set_append_right _ _ (by rw [runC_len]; omega), runC_len, show pre.length * 2 + 1 - pre.length * 2 = 1 by omega]
  rfl

/-- A slice of runs. -/
structure RunsAt (l : List (Int × Int)) (v : Value) (w : World) : Prop where
  wf : wfR l
  cap : ∀ p n c, v = .slice p n c → n ≤ c
  at_ : FlatAt 2 l.length (runC l) v w

theorem RunsAt.later {l : List (Int × Int)} {v : Value} {w w' : World} (h : RunsAt l v w) (k : Kept w w') : RunsAt l v w' := ⟨h.wf, h.cap, h.at_.later k⟩
theorem RunsAt.nil (w : World) (c : Nat) : RunsAt [] (.slice none 0 c) w := ⟨wfR_nil, fun p n c' e => by simp only [Value.slice.injEq] at e; omega, rfl, fun x hx => (by cases hx), none, c, rfl, Or.inl rfl⟩
/-- As it lies. -/
theorem RunsAt.out {l : List (Int × Int)} {v : Value} {w : World} (h : RunsAt l v w) : ∃ p c, v = .slice p l.length c ∧ l.length ≤ c ∧
    (l.length = 0 ∨ ∃ b off, p = some ⟨b, off, none⟩ ∧ ∀ k (hk : k < l.length), w.cell? ⟨b, off + k * 2, none⟩ = some (.int .i64 l[k].1) ∧ w.cell? ⟨b, off + k * 2 + 1, none⟩ = some (.int .i64 l[k].2)) := by
  obtain ⟨hl, h1, p, c, rfl, hc⟩ := h.at_
  refine ⟨p, c, rfl, h.cap _ _ _ rfl, ?_⟩
  rcases hc with h0 | ⟨b, off, hp, hc⟩
  · exact Or.inl h0
  · refine Or.inr ⟨b, off, hp, fun k hk => ?_⟩
    have hg := runC_get l k hk
    exact ⟨hc _ _ hg.1, by rw [show off + k * 2 + 1 = off + (k * 2 + 1) by omega]; exact hc _ _ hg.2⟩
theorem RunsAt.own {w : World} {base : Nat} {e : TypeId} {v : Value} {l : List (Int × Int)} (h : w.ownsRow base e 2 v l.length (runC l)) (hw : wfR l) : RunsAt l v w := by
  refine ⟨hw, fun p n c e => ?_, FlatAt.own h (runC_one l)⟩
  rcases h.2 with ⟨rfl, _⟩ | ⟨g, cap, cur, rfl, _, _, hc, _⟩
  · simp only [Value.slice.injEq] at e; omega
  · simp only [Value.slice.injEq] at e; omega
theorem RunsAt.of_cells {l : List (Int × Int)} {w : World} (hw : wfR l) (p : Option Addr) (c : Nat) (hc : l.length ≤ c) (h : l.length = 0 ∨ ∃ b off, p = some ⟨b, off, none⟩ ∧ ∀ j x, (runC l)[j]? = some x → w.cell? ⟨b, off + j, none⟩ = some x) : RunsAt l (.slice p l.length c) w :=
  ⟨hw, fun p' n' c' e => by simp only [Value.slice.injEq] at e; omega, runC_len l, runC_one l, p, c, rfl, h⟩

/-- A row of so many truths. -/
def RowF (b : Nat) (f : Nat → Bool) (w : World) : Prop := ∃ cs : Array Value, w.heap[b]? = some (.cells cs 4 (0, 0)) ∧ cs.size = 8192 ∧ ∀ k, k < 8192 → cs[k]? = some (.bool (f k))

section
variable {b : Nat} {f : Nat → Bool} {w : World} (h : RowF b f w)
include h
theorem RowF.lt : b < w.heap.size := by obtain ⟨cs, hb, _⟩ := h; exact (Array.getElem?_eq_some_iff.1 hb).1
theorem RowF.stay {w' : World} (hk : w'.heap[b]? = w.heap[b]?) : RowF b f w' := by obtain ⟨cs, hb, r⟩ := h; exact ⟨cs, hk.trans hb, r⟩
theorem RowF.kept {w' : World} (k : Kept w w') : RowF b f w' := h.stay (k.block b h.lt)
theorem RowF.cell (k : Nat) (hk : k < 8192) : w.cell? ⟨b, k, none⟩ = some (.bool (f k)) := by
  obtain ⟨cs, hb, _, hc⟩ := h
  rw [cell_of_row _ _ k _ _ _ hb]; exact hc k hk
theorem RowF.froz (k : Nat) : w.frozen? ⟨b, k, none⟩ = false := by obtain ⟨cs, hb, _⟩ := h; exact frozen_of_row _ _ _ _ _ hb
theorem RowF.congr {g : Nat → Bool} (e : ∀ k, k < 8192 → f k = g k) : RowF b g w := by
  obtain ⟨cs, hb, hs, hc⟩ := h
  exact ⟨cs, hb, hs, fun k hk => by rw [← e k hk]; exact hc k hk⟩
theorem RowF.set (i : Nat) (x : Bool) : RowF b (fun k => if k = i then x else f k) (w.setCell ⟨b, i, none⟩ (.bool x)) := by
  obtain ⟨cs, hb, hs, hc⟩ := h
  refine ⟨_, heap_setCell_same _ _ _ _ _ _ hb, by simpa using hs, fun k hk => ?_⟩
  rw [Array.getElem?_setIfInBounds]
  by_cases e : k = i
  · subst e; rw [if_pos rfl, if_pos (by omega)]; show _ = some (Value.bool (if k = k then x else f k)); rw [if_pos rfl]
  · rw [if_neg (fun x => e x.symm)]; show _ = some (Value.bool (if k = i then x else f k)); rw [if_neg e]; exact hc k hk
end

/-- The sector behind a run's last one, at most 8192; 0: it has none. -/
def endI (r : Int × Int) : Int := if r.2 < 1 ∨ 8192 ≤ r.1 then 0 else if 0 ≤ r.1 ∧ 8192 - r.1 < r.2 then 8192 else min (max (r.1 + r.2) 0) 8192
theorem endI_in (r : Int × Int) (k : Nat) : (max r.1 0 ≤ (k : Int) ∧ (k : Int) < endI r) ↔ (k < 8192 ∧ inR r k = true) := by
  unfold endI inR
  simp only [decide_eq_true_eq]
  split
  · omega
  · split
    · omega
    · omega

set_option maxRecDepth 100000 in
set_option maxHeartbeats 1000000 in
theorem rend_any (a n : Int) (ha : -9223372036854775808 ≤ a ∧ a ≤ 9223372036854775807) (hn : -9223372036854775808 ≤ n ∧ n ≤ 9223372036854775807) (w : World) :
    Calls Try.prog 55 #[.agg #[.int .i64 a, .int .i64 n]] w fun e w' => e = .returned (.int .i64 (endI (a, n))) ∧ Below w.heap.size w w' := by
  obtain ⟨x, hx⟩ : ∃ x, x = endI (a, n) := ⟨_, rfl⟩
  rw [← hx]
  unfold endI at hx
  by_cases h1 : n < 1
  · rw [if_pos (Or.inl h1)] at hx
    subst hx
    go_enter Try.func55, Try.ntmps55
    go_wp2
    go_ret
    exact ⟨rfl, box_below _ _⟩
  · by_cases h2 : a ≥ 8192
    · rw [if_pos (Or.inr h2)] at hx
      subst hx
      go_enter Try.func55, Try.ntmps55
      go_wp2
      go_ret
      exact ⟨rfl, box_below _ _⟩
    · rw [if_neg (fun y => y.elim h1 h2)] at hx
      by_cases h3 : a ≥ 0
      · obtain ⟨d, hd⟩ : ∃ d, d = 8192 - a := ⟨_, rfl⟩
        have v1 : IntKind.i64.wrap (8192 - a) = d := by rw [← hd]; exact IntWalk.i64_in _ (by omega)
        by_cases h4 : n > d
        · rw [if_pos ⟨h3, by show 8192 - a < n; omega⟩] at hx
          subst hx
          clear hd
          go_enter Try.func55, Try.ntmps55
          go_wp2
          go_ret
          exact ⟨rfl, box_below _ _⟩
        · rw [if_neg (fun y => h4 (by have h5 : 8192 - a < n := y.2; omega))] at hx
          have hx2 : x = a + n := by rw [hx]; show min (max (a + n) 0) 8192 = _; omega
          have v2 : IntKind.i64.wrap (a + n) = x := by rw [hx2]; exact IntWalk.i64_in _ (by omega)
          have h5 : ¬ (0 : Int) > x := by omega
          have h6 : ¬ (8192 : Int) < x := by omega
          clear hd hx hx2
          go_enter Try.func55, Try.ntmps55
          go_wp2
          go_ret
          exact ⟨rfl, box_below _ _⟩
      · rw [if_neg (fun y => h3 y.1)] at hx
        obtain ⟨s, hs⟩ : ∃ s, s = a + n := ⟨_, rfl⟩
        have v2 : IntKind.i64.wrap (a + n) = s := by rw [hs]; exact IntWalk.i64_in _ (by omega)
        have hx2 : x = min (max s 0) 8192 := by rw [hx, hs]
        by_cases h5 : (0 : Int) > s
        · have h6 : ¬ (8192 : Int) < 0 := by omega
          obtain rfl : x = 0 := by omega
          clear hs hx hx2
          go_enter Try.func55, Try.ntmps55
          go_wp2
          go_ret
          exact ⟨rfl, box_below _ _⟩
        · by_cases h6 : (8192 : Int) < s
          · obtain rfl : x = 8192 := by omega
            clear hs hx hx2
            go_enter Try.func55, Try.ntmps55
            go_wp2
            go_ret
            exact ⟨rfl, box_below _ _⟩
          · obtain rfl : x = s := by omega
            clear hs hx hx2
            go_enter Try.func55, Try.ntmps55
            go_wp2
            go_ret
            exact ⟨rfl, box_below _ _⟩

/-- What few returns. -/
def fewV (l : List (Int × Int)) (v : Value) : Value := match v with
  | .slice p n c => if 30 < l.length then .slice p 30 c else .slice p n c
  | x => x
theorem fewV_at {l : List (Int × Int)} {v : Value} {w : World} (h : RunsAt l v w) : RunsAt (l.take 30) (fewV l v) w := by
  obtain ⟨hl, h1, p, c, rfl, hc⟩ := h.at_
  have hcap := h.cap _ _ _ rfl
  have hwf := wfR_take h.wf 30
  show RunsAt (l.take 30) (if 30 < l.length then .slice p 30 c else .slice p l.length c) w
  by_cases hb : 30 < l.length
  · rw [if_pos hb]
    have hlt : (l.take 30).length = 30 := by rw [List.length_take]; omega
    rcases hc with h0 | ⟨b, off, rfl, hcell⟩
    · omega
    have := RunsAt.of_cells (w := w) hwf (some ⟨b, off, none⟩) c (by rw [hlt]; omega) (Or.inr ⟨b, off, rfl, fun j x hx => hcell j x (by
      rw [runC_take, List.getElem?_take] at hx
      split at hx
      · exact hx
      · cases hx)⟩)
    rw [hlt] at this
    exact this
  · rw [if_neg hb, List.take_of_length_le (by omega)]
    exact h

set_option maxRecDepth 100000 in
set_option maxHeartbeats 1000000 in
theorem few_val (l : List (Int × Int)) (v : Value) (w : World) (h : RunsAt l v w) : Calls Try.prog 9 #[v] w fun e w' => e = .returned (fewV l v) ∧ w = w' := by
  obtain ⟨p, c, rfl, hcap, -⟩ := h.out
  by_cases hb : 30 < l.length
  · have hb1 : (l.length : Int) > 30 := by omega
    have e1 : fewV l (.slice p l.length c) = .slice p 30 c := by show (if 30 < l.length then _ else _) = _; rw [if_pos hb]
    have hadd : ∀ a, p = some a → True := fun _ _ => trivial
    rw [e1]
    obtain ⟨hl, h1, p', c', he, hc⟩ := h.at_
    simp only [Value.slice.injEq] at he
    obtain ⟨rfl, -, rfl⟩ := he
    rcases hc with h0 | ⟨b, off, rfl, hcell⟩
    · omega
    obtain ⟨n, hn⟩ : ∃ n, n = l.length := ⟨_, rfl⟩
    rw [← hn] at hb1 hcap ⊢
    have i1 : (30 : Int) ≤ c := by omega
    clear hl h1 hcell h hn hb e1 hadd
    go_enter Try.func9, Try.ntmps9
    go_wp2
    go_ret
    exact ⟨rfl, rfl⟩
  · have hb1 : ¬ (l.length : Int) > 30 := by omega
    have e1 : fewV l (.slice p l.length c) = .slice p l.length c := by show (if 30 < l.length then _ else _) = _; rw [if_neg hb]
    rw [e1]
    obtain ⟨n, hn⟩ : ∃ n, n = l.length := ⟨_, rfl⟩
    rw [← hn] at hb1 hcap ⊢
    clear h hn hb e1
    go_enter Try.func9, Try.ntmps9
    go_wp2
    go_ret
    exact ⟨rfl, rfl⟩
theorem few_any (l : List (Int × Int)) (v : Value) (w : World) (h : RunsAt l v w) : Calls Try.prog 9 #[v] w fun e w' => (∃ u, e = .returned u ∧ RunsAt (l.take 30) u w) ∧ w = w' :=
  (few_val l v w h).mono fun _ _ ⟨a, b⟩ => ⟨⟨_, a, fewV_at h⟩, b⟩

end Go.Proofs.Ytkdodffnakdckaa
