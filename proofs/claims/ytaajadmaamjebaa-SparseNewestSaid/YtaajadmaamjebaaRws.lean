/- Slices of records, whatever these are made of: their cells, one record behind another. -/
import Derived.Test.YtaajadmaamjebaaOwn
import Derived.Test.YtaajadmaamjebaaArr
import Derived.Great.BuildSlice
import Derived.Shelf.GgSortFunc.RowK
namespace Go.Proofs.Ytaajadmaamjebaa
open Go.RowKit

/-- How a record lies in memory: k cells. -/
structure Enc {α : Type} (enc : α → List Value) (k : Nat) (ok : α → Prop) : Prop where
  len : ∀ a, ok a → (enc a).length = k
  one : ∀ a, ok a → ∀ x ∈ enc a, x.oneCell' = true
  pos : 0 < k
def flatR {α : Type} (enc : α → List Value) (l : List α) : List Value := l.flatMap enc
theorem flatR_append {α : Type} (enc : α → List Value) (a b : List α) : flatR enc (a ++ b) = flatR enc a ++ flatR enc b := List.flatMap_append
theorem flatR_snoc {α : Type} (enc : α → List Value) (l : List α) (a : α) : flatR enc l ++ enc a = flatR enc (l ++ [a]) := by rw [flatR_append]; simp [flatR]
theorem flatR_one {α : Type} (enc : α → List Value) (a : α) : flatR enc [a] = enc a := by simp [flatR]

section
variable {α : Type} {enc : α → List Value} {k : Nat} {ok : α → Prop}

theorem flatR_len (E : Enc enc k ok) : ∀ l : List α, (∀ a ∈ l, ok a) → (flatR enc l).length = l.length * k
  | [], _ => by simp [flatR]
  | a :: l, h => by
    show (enc a ++ flatR enc l).length = _
    rw [List.length_append, E.len a (h a (List.mem_cons_self ..)), flatR_len E l (fun x hx => h x (List.mem_cons_of_mem _ hx)), List.length_cons, Nat.add_mul]
    omega
theorem flatR_ones (E : Enc enc k ok) (l : List α) (h : ∀ a ∈ l, ok a) : ∀ x ∈ flatR enc l, x.oneCell' = true := fun x hx => by
  obtain ⟨a, ha, hx⟩ := List.mem_flatMap.1 hx
  exact E.one a (h a ha) x hx
theorem flatR_get (E : Enc enc k ok) : ∀ (l : List α), (∀ a ∈ l, ok a) → ∀ (i : Nat) (hi : i < l.length) (j : Nat), j < k → (flatR enc l)[i * k + j]? = (enc l[i])[j]?
  | [], _, i, hi, _, _ => by simp at hi
  | a :: l, h, 0, _, j, hj => by
    have e : flatR enc (a :: l) = enc a ++ flatR enc l := rfl
    rw [e, Nat.zero_mul, Nat.zero_add, List.getElem?_append_left (by rw [E.len a (h a (List.mem_cons_self ..))]; exact hj)]
    rfl
  | a :: l, h, i + 1, hi, j, hj => by
    have e : flatR enc (a :: l) = enc a ++ flatR enc l := rfl
    have hl := E.len a (h a (List.mem_cons_self ..))
    have e2 : (i + 1) * k + j - k = i * k + j := by rw [Nat.succ_mul]; omega
    rw [e, List.getElem?_append_right (by rw [hl, Nat.succ_mul]; omega), hl, e2, flatR_get E l (fun x hx => h x (List.mem_cons_of_mem _ hx)) i (by simpa using hi) j hj]
    rfl

/-- A slice of records. -/
structure RowsAt (enc : α → List Value) (k : Nat) (ok : α → Prop) (l : List α) (v : Value) (w : World) : Prop where
  cap : ∀ p n c, v = .slice p n c → n ≤ c
  good : ∀ a ∈ l, ok a
  at_ : FlatAt k l.length (flatR enc l) v w
theorem RowsAt.later {l : List α} {v : Value} {w w' : World} (h : RowsAt enc k ok l v w) (kk : Kept w w') : RowsAt enc k ok l v w' := ⟨h.cap, h.good, h.at_.later kk⟩
theorem RowsAt.nil (w : World) (c : Nat) : RowsAt enc k ok [] (.slice none 0 c) w :=
  ⟨fun p n c' e => by simp only [Value.slice.injEq] at e; omega, fun a ha => (by cases ha), by simp [flatR], fun x hx => (by cases hx), none, c, rfl, Or.inl rfl⟩
theorem RowsAt.out (E : Enc enc k ok) {l : List α} {v : Value} {w : World} (h : RowsAt enc k ok l v w) : ∃ p c, v = .slice p l.length c ∧ l.length ≤ c ∧
    (l.length = 0 ∨ ∃ b off, p = some ⟨b, off, none⟩ ∧ ∀ (i : Nat) (hi : i < l.length) (j : Nat) (x : Value), (enc l[i])[j]? = some x → w.cell? ⟨b, off + i * k + j, none⟩ = some x) := by
  obtain ⟨-, -, p, c, rfl, hc⟩ := h.at_
  refine ⟨p, c, rfl, h.cap _ _ _ rfl, ?_⟩
  rcases hc with h0 | ⟨b, off, hp, hc⟩
  · exact Or.inl h0
  · refine Or.inr ⟨b, off, hp, fun i hi j x hx => ?_⟩
    have hj : j < k := by
      have := (List.getElem?_eq_some_iff.1 hx).1
      rw [E.len _ (h.good _ (List.getElem_mem hi))] at this
      exact this
    rw [Nat.add_assoc]
    exact hc _ _ (by rw [flatR_get E l h.good i hi j hj]; exact hx)
theorem RowsAt.own (E : Enc enc k ok) {w : World} {base : Nat} {e : TypeId} {v : Value} {l : List α} (hok : ∀ a ∈ l, ok a) (h : w.ownsRow base e k v l.length (flatR enc l)) : RowsAt enc k ok l v w := by
  refine ⟨fun p n c e => ?_, hok, FlatAt.own h (flatR_ones E l hok)⟩
  obtain ⟨p', c', rfl, hc, -⟩ := own_slice h
  simp only [Value.slice.injEq] at e
  omega
/-- The row in which a record lies. -/
theorem row_of_recs {w : World} {b o : Nat} {L : List Value} (h0 : 0 < L.length) (h : ∀ j x, L[j]? = some x → w.cell? ⟨b, o + j, none⟩ = some x) :
    ∃ cs t fr, w.heap[b]? = some (.cells cs t fr) ∧ o + L.length ≤ cs.size ∧ cs.extract o (o + L.length) = L.toArray := by
  have hz := h 0 L[0] (List.getElem?_eq_getElem h0)
  unfold World.cell? at hz
  split at hz
  · rename_i cs t fr hb
    have each : ∀ j (hj : j < L.length), cs[o + j]? = some L[j] := by
      intro j hj
      have := h j L[j] (List.getElem?_eq_getElem hj)
      unfold World.cell? at this
      simpa [hb] using this
    have hsz : o + L.length ≤ cs.size := by
      have := (Array.getElem?_eq_some_iff.1 (each (L.length - 1) (by omega))).1
      omega
    refine ⟨cs, t, fr, hb, hsz, ?_⟩
    apply Array.ext_getElem?
    intro j
    by_cases hj : j < L.length
    · rw [Array.getElem?_extract, if_pos (by omega), each j hj, List.getElem?_toArray, List.getElem?_eq_getElem hj]
    · rw [Array.getElem?_eq_none (by rw [Array.size_extract]; omega), Array.getElem?_eq_none (by simp; omega)]
  · simp_all
theorem RowsAt.elem (E : Enc enc k ok) {l : List α} {p : Option Addr} {c i : Nat} {w : World} (h : RowsAt enc k ok l (.slice p l.length c) w) (hi : i < l.length) :
    ∃ b off cs t fr, p = some ⟨b, off, none⟩ ∧ w.heap[b]? = some (.cells cs t fr) ∧ off + i * k + k ≤ cs.size ∧ cs.extract (off + i * k) (off + i * k + k) = (enc l[i]).toArray ∧ ∀ (j : Nat) (x : Value), (enc l[i])[j]? = some x → w.cell? ⟨b, off + i * k + j, none⟩ = some x := by
  obtain ⟨p', c', e, -, hc⟩ := h.out E
  simp only [Value.slice.injEq, true_and] at e
  obtain ⟨rfl, rfl⟩ := e
  have hl := E.len _ (h.good _ (List.getElem_mem hi))
  rcases hc with h0 | ⟨b, off, rfl, hc⟩
  · omega
  · obtain ⟨cs, t, fr, h1, h2, h3⟩ := row_of_recs (o := off + i * k) (L := enc l[i]) (by rw [hl]; exact E.pos) (fun j x hx => hc i hi j x hx)
    rw [hl] at h2 h3
    exact ⟨b, off, cs, t, fr, rfl, h1, h2, h3, fun j x hx => hc i hi j x hx⟩
/-- A slice of one record, in a new block. -/
theorem flat_rec (E : Enc enc k ok) (w : World) (e : TypeId) (a : α) (ha : ok a) (X : Array Value) (hX : X = (enc a).toArray) : FlatAt k 1 (enc a) (.slice (some ⟨w.heap.size, 0, none⟩) 1 1) (w.alloc (.cells X e)) := by
  have h := FlatAt.new w e k 1 1 X (by rw [hX, Nat.one_mul]; simp [E.len a ha]) (fun x hx => by rw [hX] at hx; exact E.one a ha x (by simpa using hx))
  have e2 : X.toList = enc a := by rw [hX]
  rw [e2] at h
  exact h
end

/-! ### A slice of records, indexed, cut in two -/
section
variable {P : Program} {S T : TypeId} {k : Nat}
theorem idx_rec (hS : P.underlying S = some (.slice T)) (hT : ∀ w, (Go.sizeOf T).run P w = .ok k w) (g o n c i : Nat) (hi : i < n) (w : World) :
    (Instr.indexAt S (.slice (some ⟨g, o, none⟩) n c) (.int .i64 i)).run P w = .ok (.pointer (some ⟨g, o + i * k, none⟩)) w := by
  have hk' : (i : Int) < n := by omega
  have h0 : (0 : Int) ≤ i := by omega
  simp [Instr.indexAt, run_underlying hS, asIntOf, h0, addr_add, hT]
  intro h
  omega
theorem cut_loR (hS : P.underlying S = some (.slice T)) (hT : ∀ w, (Go.sizeOf T).run P w = .ok k w) (g o n c i : Nat) (hi : i ≤ n) (hc : i < c) (w : World) :
    (Instr.sliceAt S (.slice (some ⟨g, o, none⟩) n c) (some (.int .i64 i)) none none).run P w = .ok (.slice (some ⟨g, o + i * k, none⟩) (n - i) (c - i)) w := by
  have hk' : (i : Int) ≤ n := by omega
  have h0 : (0 : Int) ≤ i := by omega
  have hne : ¬ c = i := by omega
  simp [Instr.sliceAt, Instr.slice, run_underlying hS, Instr.sliceBounds, Instr.sliceBound, asIntOf, h0, addr_add, hne, hT]
  intro h
  omega
theorem cut_hiR (hS : P.underlying S = some (.slice T)) (hT : ∀ w, (Go.sizeOf T).run P w = .ok k w) (g o n c i : Nat) (hi : i ≤ c) (hc : 0 < c) (w : World) :
    (Instr.sliceAt S (.slice (some ⟨g, o, none⟩) n c) none (some (.int .i64 i)) none).run P w = .ok (.slice (some ⟨g, o, none⟩) i c) w := by
  have hk' : (i : Int) ≤ c := by omega
  have h0 : (0 : Int) ≤ i := by omega
  have hne : ¬ c = 0 := by omega
  simp [Instr.sliceAt, Instr.slice, run_underlying hS, Instr.sliceBounds, Instr.sliceBound, asIntOf, h0, addr_add, hne, hT]
  intro h
  omega
theorem own_cutsR {α : Type} {enc : α → List Value} {ok : α → Prop} (E : Enc enc k ok) (hS : P.underlying S = some (.slice T)) (hT : ∀ w, (Go.sizeOf T).run P w = .ok k w) {B : Nat} {l : List α} {v : Value} {w : World} (hok : ∀ a ∈ l, ok a)
    (h : w.ownsRow B T k v l.length (flatR enc l)) (i : Nat) (hi : i ≤ l.length) :
    ∃ v1 v2, (∀ w', (Instr.sliceAt S v none (some (.int .i64 i)) none).run P w' = .ok v1 w') ∧ RowsAt enc k ok (l.take i) v1 w ∧
      (∀ w', (Instr.sliceAt S v (some (.int .i64 i)) none none).run P w' = .ok v2 w') ∧ RowsAt enc k ok (l.drop i) v2 w := by
  have ht : ∀ a ∈ l.take i, ok a := fun a ha => hok a (List.mem_of_mem_take ha)
  have hd : ∀ a ∈ l.drop i, ok a := fun a ha => hok a (List.mem_of_mem_drop ha)
  have ht0 := flatR_len E _ ht
  have hd0 := flatR_len E _ hd
  rw [List.length_take, Nat.min_eq_left hi] at ht0
  rw [List.length_drop] at hd0
  have hfl : flatR enc l = flatR enc (l.take i) ++ flatR enc (l.drop i) := by rw [← flatR_append, List.take_append_drop]
  have hemp : ∀ c, RowsAt enc k ok ([] : List α) (.slice none 0 c) w := fun c => RowsAt.nil w c
  rcases h.2 with ⟨rfl, h0⟩ | ⟨g, cap, cur, rfl, hB, hg, hc, hm, hs, htk⟩
  · have hl : l = [] := List.length_eq_zero_iff.1 h0
    subst hl
    obtain rfl : i = 0 := by simpa using hi
    refine ⟨.slice none 0 0, .slice none 0 0, fun w' => ?_, hemp 0, fun w' => ?_, hemp 0⟩
    · simp [Instr.sliceAt, Instr.slice, run_underlying hS, Instr.sliceBounds, Instr.sliceBound, asIntOf, hT]
    · simp [Instr.sliceAt, Instr.slice, run_underlying hS, Instr.sliceBounds, Instr.sliceBound, asIntOf, hT]
  · have hcell : ∀ j x, (flatR enc l)[j]? = some x → w.cell? ⟨g, j, none⟩ = some x := fun j x hx => by
      have := h.cells (g := g) rfl j x hx
      rwa [addr_add, Nat.zero_add] at this
    have f1 : RowsAt enc k ok (l.take i) (.slice (some ⟨g, 0, none⟩) i cap) w := by
      refine ⟨fun p n c e => by simp only [Value.slice.injEq] at e; omega, ht, by rw [ht0, List.length_take, Nat.min_eq_left hi], flatR_ones E _ ht, some ⟨g, 0, none⟩, cap, by rw [List.length_take, Nat.min_eq_left hi], Or.inr ⟨g, 0, rfl, fun j x hx => ?_⟩⟩
      rw [Nat.zero_add]
      refine hcell j x ?_
      rw [hfl, List.getElem?_append_left (List.getElem?_eq_some_iff.1 hx).1]
      exact hx
    by_cases h0 : cap = 0
    · subst h0
      have hl : l = [] := List.length_eq_zero_iff.1 (by omega)
      subst hl
      obtain rfl : i = 0 := by simpa using hi
      have f2 : RowsAt enc k ok ([] : List α) (.slice (some ⟨g, 0, none⟩) 0 0) w := f1
      refine ⟨.slice (some ⟨g, 0, none⟩) 0 0, .slice (some ⟨g, 0, none⟩) 0 0, fun w' => ?_, f2, fun w' => ?_, f2⟩
      · simp [Instr.sliceAt, Instr.slice, run_underlying hS, Instr.sliceBounds, Instr.sliceBound, asIntOf, hT]
      · simp [Instr.sliceAt, Instr.slice, run_underlying hS, Instr.sliceBounds, Instr.sliceBound, asIntOf, hT]
    · have C1 := fun w' => cut_hiR hS hT g 0 l.length cap i (by omega) (by omega) w'
      by_cases hkc : i < cap
      · have C2 := fun w' => cut_loR hS hT g 0 l.length cap i hi hkc w'
        refine ⟨_, _, C1, f1, C2, fun p n c e => by simp only [Value.slice.injEq] at e; omega, hd, by rw [hd0, List.length_drop], flatR_ones E _ hd, some ⟨g, 0 + i * k, none⟩, cap - i, by rw [List.length_drop], Or.inr ⟨g, 0 + i * k, rfl, fun j x hx => ?_⟩⟩
        rw [Nat.zero_add]
        refine hcell _ x ?_
        rw [hfl, List.getElem?_append_right (by rw [ht0]; omega), ht0, show i * k + j - i * k = j by omega]
        exact hx
      · have hil : i = l.length := by omega
        have hcl : cap = l.length := by omega
        subst hil
        have e : l.drop l.length = [] := List.drop_length
        rw [e]
        refine ⟨_, .slice (some ⟨g, 0, none⟩) 0 0, C1, f1, fun w' => ?_, fun p n c e => by simp only [Value.slice.injEq] at e; omega, fun a ha => (by cases ha), by simp [flatR], fun x hx => (by cases hx), some ⟨g, 0, none⟩, 0, rfl, Or.inl rfl⟩
        subst hcl
        simp [Instr.sliceAt, Instr.slice, run_underlying hS, Instr.sliceBounds, Instr.sliceBound, asIntOf, hT]
end

/-! ### A slice of one record, built -/
theorem fold_manyR (off : Nat) : ∀ (l : List Value) (j : Nat) (cells : Array Value), (l.zipIdx j).foldl (fun cs p => cs.setIfInBounds (off + p.2) p.1) cells = Sort.setMany cells (off + j) l
  | [], _, _ => rfl
  | v :: l, j, cells => by
    rw [List.zipIdx_cons, List.foldl_cons, fold_manyR off l (j + 1)]
    rfl
theorem fold_arrR (off : Nat) (X cells : Array Value) : X.zipIdx.foldl (fun cs (p : Value × Nat) => cs.setIfInBounds (off + p.2) p.1) cells = Sort.setMany cells off X.toList := by
  rw [← Array.foldl_toList, Array.toList_zipIdx, fold_manyR off X.toList 0 cells, Nat.add_zero]
theorem fill_rec (n : Nat) (X cells : Array Value) (hX : X.size = n) (hc : cells.size = n) : Instr.fill (fun i => some (i * n, n)) cells [(0, .agg X)] = some X := by
  have h1 : (Value.agg X).cells = X := rfl
  simp only [Instr.fill, h1, hX, hc]
  rw [if_neg (by simp)]
  congr 1
  refine (fold_arrR (0 * n) X cells).trans ?_
  apply Sort.ext_get! (by rw [Sort.size_setMany, hX, hc])
  intro t ht
  rw [Sort.size_setMany] at ht
  rw [Sort.get_setMany _ _ _ t ht, if_pos (by rw [Array.length_toList, hX]; omega)]
  rw [Nat.zero_mul, Nat.sub_zero, getElem!_pos X t (by omega), getElem!_pos X.toList t (by rw [Array.length_toList]; omega)]
  simp
theorem wpList_buildR {P : Program} {ops : Array Oper} {rest : List Oper} {o : Oper} {a : Act} {w : World} {Q : Exit → Act → World → Prop} (hg : o.guard = none) (S T : TypeId) (x : Operand) (ho : o.op = .buildSlice S 1 #[(0, x)]) (n : Nat)
    (i : TypeInfo) (z : Value) (hS : P.underlying S = some (.slice T)) (hi : P.info? T = some i) (hsz : i.size = n) (hz : i.zero = some z) (hn : n ≤ 1000000) (hn0 : 0 < n) (X : Array Value) (hx : a.eval x = .agg X) (hX : X.size = n)
    (h : wpList P ops Q rest (a.put o.dst (.slice (some ⟨w.heap.size, 0, none⟩) 1 1)) (w.alloc (.cells X T))) : wpList P ops Q (o :: rest) a w := by
  refine wpList_buildSlice hg S T 1 _ ho X i z hS hi hz (by rw [hsz]; omega) (by omega) ?_ h
  rw [hsz]
  have e : (#[(0, x)].map fun (p : Nat × Operand) => (p.1, a.eval p.2)).toList = [(0, Value.agg X)] := by simp [hx]
  refine (congrArg _ e).trans (fill_rec n X _ hX (by simp))

end Go.Proofs.Ytaajadmaamjebaa
