/- How many first bits are 0, the document's; hooks. Rows of fingerprints; what is appended to them. Sorted, without duplicates: the list as a set. Mathematics, of no program. -/
import Derived.Test.YtaajadmaamjebaaHA
import Derived.Test.YtaajadmaamjebaaArr
import Derived.Deep.RegionHeld
import Derived.Deep.MidRow
import Derived.Test.YtaajadmaamjebaaGen
import Derived.Laws.AppendOwn
import Derived.Lib.AppendStr
namespace Go.Proofs.Ytaajadmaamjebaa
open Go.RowKit

/-- What a bit is worth. -/
def worthN (k : Nat) : Nat := 128 / 2 ^ k

theorem worth_next (k : Nat) : worthN k / 2 = worthN (k + 1) := by
  unfold worthN
  rw [Nat.div_div_eq_div_mul, Nat.pow_succ]

theorem worth_pos : ∀ k : Fin 8, 0 < worthN k.val ∧ worthN k.val ≤ 128 := by decide +kernel
theorem worth_end : worthN 8 = 0 := by decide +kernel
theorem bit_set : ∀ (k : Fin 8) (x : Fin 256), x.val < 2 ^ (8 - k.val) → x.val / worthN k.val % 2 = 1 → x.val ≠ 0 ∧ 8 - Lib.bitLen x.val = k.val := by decide +kernel
theorem bit_clear : ∀ (k : Fin 8) (x : Fin 256), x.val < 2 ^ (8 - k.val) → x.val / worthN k.val % 2 ≠ 1 → x.val < 2 ^ (8 - (k.val + 1)) := by decide +kernel

end Go.Proofs.Ytaajadmaamjebaa
namespace Go.Proofs.Ytaajadmaamjebaa
open Go.RowKit

/-- The cells of some fingerprints. -/
def flatL (ls : List (List UInt8)) : List Value := ls.flatMap fun l => (fpA l).toList
def rowA (ls : List (List UInt8)) (rest : List Value) : Array Value := (flatL ls ++ rest).toArray
/-- All have 32 bytes. -/
def All32 (ls : List (List UInt8)) : Prop := ∀ l ∈ ls, l.length = 32

theorem fpL_len (l : List UInt8) : (fpA l).toList.length = l.length := by rw [Array.length_toList, fpA_size]

theorem flatL_append (a b : List (List UInt8)) : flatL (a ++ b) = flatL a ++ flatL b := List.flatMap_append
theorem flatL_cons (x : List UInt8) (b : List (List UInt8)) : flatL (x :: b) = (fpA x).toList ++ flatL b := List.flatMap_cons
theorem flatL_one (x : List UInt8) : flatL [x] = (fpA x).toList := by rw [flatL_cons]; simp [flatL]

theorem flatL_len : ∀ ls : List (List UInt8), All32 ls → (flatL ls).length = ls.length * 32
  | [], _ => rfl
  | x :: ls, h => by
    rw [flatL_cons, List.length_append, fpL_len, h x (List.mem_cons_self ..), flatL_len ls (fun l hl => h l (List.mem_cons_of_mem _ hl)), List.length_cons]
    omega

theorem flatL_one' : ∀ (ls : List (List UInt8)) (u : Value), u ∈ flatL ls → u.oneCell' = true := by
  intro ls u hu
  obtain ⟨l, _, hl⟩ := List.mem_flatMap.1 hu
  simp only [fpA, List.mem_map] at hl
  obtain ⟨c, _, rfl⟩ := hl
  rfl

theorem flat_split (ls : List (List UInt8)) (i : Nat) (hi : i < ls.length) : flatL ls = flatL (ls.take i) ++ ((fpA ls[i]).toList ++ flatL (ls.drop (i + 1))) := by
  conv => lhs; rw [← List.take_append_drop i ls, List.drop_eq_getElem_cons hi]
  rw [flatL_append, flatL_cons]

theorem all32_take {ls : List (List UInt8)} (h : All32 ls) (i : Nat) : All32 (ls.take i) := fun l hl => h l (List.mem_of_mem_take hl)
theorem all32_drop {ls : List (List UInt8)} (h : All32 ls) (i : Nat) : All32 (ls.drop i) := fun l hl => h l (List.mem_of_mem_drop hl)
theorem all32_set {ls : List (List UInt8)} (h : All32 ls) (i : Nat) (x : List UInt8) (hx : x.length = 32) : All32 (ls.set i x) := fun l hl => by
  rcases List.mem_or_eq_of_mem_set hl with e | e
  · exact h l e
  · rw [e]; exact hx

theorem take_flat_len {ls : List (List UInt8)} (h : All32 ls) (i : Nat) (hi : i ≤ ls.length) : (flatL (ls.take i)).length = i * 32 := by
  rw [flatL_len _ (all32_take h i), List.length_take, Nat.min_eq_left hi]

theorem rowA_size (ls : List (List UInt8)) (rest : List Value) (h : All32 ls) : (rowA ls rest).size = ls.length * 32 + rest.length := by
  simp [rowA, flatL_len ls h]

theorem rowA_extract (ls : List (List UInt8)) (rest : List Value) (h : All32 ls) (i : Nat) (hi : i < ls.length) : (rowA ls rest).extract (i * 32) (i * 32 + 32) = fpA ls[i] := by
  have e0 := take_flat_len h i (by omega)
  have e1 : (fpA ls[i]).toList.length = 32 := by rw [fpL_len]; exact h _ (List.getElem_mem hi)
  apply Array.toList_inj.1
  rw [Array.toList_extract]
  unfold rowA
  rw [flat_split ls i hi]
  simp only [List.extract_eq_take_drop]
  rw [List.append_assoc, List.drop_left' e0, List.append_assoc, show i * 32 + 32 - i * 32 = 32 by omega, List.take_left' e1]

theorem rowA_set (ls : List (List UInt8)) (rest : List Value) (h : All32 ls) (i : Nat) (hi : i < ls.length) (x : List UInt8) (hx : x.length = 32) : laidOver (rowA ls rest) (i * 32) (fpA x).toList = rowA (ls.set i x) rest := by
  have e0 := take_flat_len h i (by omega)
  have e1 : (fpA ls[i]).toList.length = 32 := by rw [fpL_len]; exact h _ (List.getElem_mem hi)
  have e2 : (fpA x).toList.length = 32 := by rw [fpL_len]; exact hx
  have s1 : flatL (ls.set i x) = flatL (ls.take i) ++ ((fpA x).toList ++ flatL (ls.drop (i + 1))) := by
    rw [List.set_eq_take_append_cons_drop, if_pos hi, flatL_append, flatL_cons]
  unfold laidOver rowA
  congr 1
  rw [s1, flat_split ls i hi, e2]
  simp only [List.append_assoc]
  rw [List.take_left' e0, ← List.drop_drop, List.drop_left' e0, List.drop_left' e1]

theorem rowA_cell (ls : List (List UInt8)) (rest : List Value) (h : All32 ls) (i c : Nat) (hi : i < ls.length) (hc : c < 32) : (rowA ls rest)[i * 32 + c]? = (fpA ls[i])[c]? := by
  have hs := rowA_size ls rest h
  rw [← rowA_extract ls rest h i hi, Array.getElem?_extract, if_pos (by rw [hs]; have := Nat.mul_le_mul_right 32 (show i + 1 ≤ ls.length from hi); omega)]

/-- The first elements of a row. -/
theorem rowA_take (ls : List (List UInt8)) (rest : List Value) (k : Nat) : rowA ls rest = rowA (ls.take k) (flatL (ls.drop k) ++ rest) := by
  unfold rowA
  rw [← List.append_assoc, ← flatL_append, List.take_append_drop]

/-- A row of fingerprints in the block g. -/
def RowAt (g : Nat) (ls : List (List UInt8)) (rest : List Value) (w : World) : Prop := All32 ls ∧ w.heap[g]? = some (.cells (rowA ls rest) 47 (0, 0))

theorem RowAt.lt {g : Nat} {ls : List (List UInt8)} {rest : List Value} {w : World} (h : RowAt g ls rest w) : g < w.heap.size := (Array.getElem?_eq_some_iff.1 h.2).1
theorem RowAt.kept {g : Nat} {ls : List (List UInt8)} {rest : List Value} {w w' : World} (h : RowAt g ls rest w) (k : Below w.heap.size w w') : RowAt g ls rest w' :=
  ⟨h.1, by rw [k.block _ h.lt]; exact h.2⟩

/-- A slice of fingerprints in memory of the call's own. -/
def OwnFps (B : Nat) (ls : List (List UInt8)) (v : Value) (w : World) : Prop := All32 ls ∧ w.ownsRow B 47 32 v ls.length (flatL ls)

theorem OwnFps.nil (B : Nat) (w : World) : OwnFps B [] (.slice none 0 0) w := ⟨(fun _ h => by cases h), World.ownsRow_nil w B _ 32⟩

theorem OwnFps.parts {B : Nat} {ls : List (List UInt8)} {v : Value} {w : World} (h : OwnFps B ls v w) : (v = .slice none 0 0 ∧ ls = []) ∨
    ∃ g cap rest, v = .slice (some ⟨g, 0, none⟩) ls.length cap ∧ B ≤ g ∧ RowAt g ls rest w ∧ ls.length ≤ cap ∧ cap ≤ maxLen ∧ ls.length * 32 + rest.length = cap * 32 := by
  rcases h.2.2 with ⟨rfl, h0⟩ | ⟨g, cap, cur, rfl, hb, hg, hc, hm, hs, ht⟩
  · exact Or.inl ⟨rfl, List.length_eq_zero_iff.1 h0⟩
  · right
    have e : cur = rowA ls (cur.toList.drop (ls.length * 32)) := by
      apply Array.toList_inj.1
      unfold rowA
      rw [← ht]
      simp
    refine ⟨g, cap, _, rfl, hb, ⟨h.1, by rw [← e]; exact hg⟩, hc, hm, ?_⟩
    rw [List.length_drop]
    have e2 : cur.toList.length = cur.size := Array.length_toList
    have := Nat.mul_le_mul_right 32 hc
    omega

theorem OwnFps.of_row {B g cap : Nat} {ls : List (List UInt8)} {rest : List Value} {w : World} (hB : B ≤ g) (h : RowAt g ls rest w) (hc : ls.length ≤ cap) (hm : cap ≤ maxLen) (hs : ls.length * 32 + rest.length = cap * 32) :
    OwnFps B ls (.slice (some ⟨g, 0, none⟩) ls.length cap) w :=
  ⟨h.1, flatL_len ls h.1, Or.inr ⟨g, cap, _, rfl, hB, h.2, hc, hm, by rw [rowA_size _ _ h.1]; exact hs, by rw [← flatL_len ls h.1]; simp [rowA]⟩⟩

theorem RowAt.fps {g cap : Nat} {ls : List (List UInt8)} {rest : List Value} {w : World} (h : RowAt g ls rest w) : FpsAt 32 ls (.slice (some ⟨g, 0, none⟩) ls.length cap) w := by
  refine ⟨h.1, some ⟨g, 0, none⟩, cap, rfl, Or.inr ⟨g, 0, rfl, fun i hi j hj => ?_⟩⟩
  rw [Nat.zero_add, cell_of_row _ _ _ _ _ _ h.2, rowA_cell ls rest h.1 i j hi hj, fpA_get _ _ (by rw [h.1 _ (List.getElem_mem hi)]; exact hj)]

theorem OwnFps.fps {B : Nat} {ls : List (List UInt8)} {v : Value} {w : World} (h : OwnFps B ls v w) : FpsAt 32 ls v w := by
  rcases h.parts with ⟨rfl, rfl⟩ | ⟨g, cap, rest, rfl, _, hr, _⟩
  · exact ⟨h.1, none, 0, rfl, Or.inl rfl⟩
  · exact hr.fps

theorem OwnFps.later {B : Nat} {ls : List (List UInt8)} {v : Value} {w w' : World} (h : OwnFps B ls v w) (k : Below w.heap.size w w') : OwnFps B ls v w' := by
  refine ⟨h.1, h.2.1, ?_⟩
  rcases h.2.2 with hn | ⟨g, cap, cur, rfl, hb, hg, hr⟩
  · exact Or.inl hn
  · exact Or.inr ⟨g, cap, cur, rfl, hb, by rw [k.block _ (Array.getElem?_eq_some_iff.1 hg).1]; exact hg, hr⟩

theorem OwnFps.base {B B' : Nat} {ls : List (List UInt8)} {v : Value} {w : World} (h : OwnFps B ls v w) (hB : B' ≤ B) : OwnFps B' ls v w := by
  refine ⟨h.1, h.2.1, ?_⟩
  rcases h.2.2 with hn | ⟨g, cap, cur, rfl, hb, hr⟩
  · exact Or.inl hn
  · exact Or.inr ⟨g, cap, cur, rfl, Nat.le_trans hB hb, hr⟩

theorem OwnFps.lt {B : Nat} {ls : List (List UInt8)} {v : Value} {w : World} (h : OwnFps B ls v w) : ∀ k, v.ownBlock = some k → B ≤ k ∧ k < w.heap.size := World.ownsRow.lt h.2

/-- The row in which an element of a slice lies. -/
theorem FpsAt.elem {ls : List (List UInt8)} {w : World} {p : Option Addr} {c i : Nat} (h : FpsAt 32 ls (.slice p ls.length c) w) (hi : i < ls.length) :
    ∃ b off cs t fr, p = some ⟨b, off, none⟩ ∧ w.heap[b]? = some (.cells cs t fr) ∧ off + i * 32 + 32 ≤ cs.size ∧ cs.extract (off + i * 32) (off + i * 32 + 32) = fpA ls[i] := by
  obtain ⟨hn, p', c', e, h⟩ := h
  simp only [Value.slice.injEq, true_and] at e
  obtain ⟨rfl, rfl⟩ := e
  rcases h with rfl | ⟨b, off, rfl, hc⟩
  · simp at hi
  · obtain ⟨cs, t, fr, h1, h2, h3⟩ := row_of_cells (o := off + i * 32) (hn _ (List.getElem_mem hi)) (by decide) (fun j hj => by rw [Nat.add_assoc]; exact hc i hi j hj)
    exact ⟨b, off, cs, t, fr, rfl, h1, h2, h3⟩

theorem grown_same (w : World) (row : Option Nat) : w.grownBy w row := ⟨rfl, rfl, rfl, Nat.le_refl _, fun _ _ _ => rfl⟩

/-- 'append(l, p...)' of fingerprints onto a row of the call's own, whatever p is. -/
theorem wpList_append_fps {P : Program} {ops : Array Oper} {rest : List Oper} {o : Oper} {a : Act} {w : World} {Q : Exit → Act → World → Prop} (hgd : o.guard = none) (s x : Operand) (t : TypeId)
    (ho : o.op = .call { callee := .builtin .append, args := #[s, x], argTypes := #[t, t] })
    (base : Nat) (e : TypeId) (i : TypeInfo) (z : Value) (bytes : Nat) (ht : P.underlying t = some (.slice e)) (hi : P.info? e = some i) (hz : i.zero = some z)
    (hsize : i.size = 32) (hby : i.bytes = bytes) (hzs : z.cells.size = 32)
    (v : Value) (n : Nat) (xs : List Value) (hs : a.eval s = v) (hown : w.ownsRow base e 32 v n xs)
    (u : Value) (ss : List (List UInt8)) (hx : a.eval x = u) (hu : FpsAt 32 ss u w)
    (h63 : n + ss.length ≤ maxLen) (hbytes : (n + ss.length) * bytes ≤ 140737488355328) (hbase : base ≤ w.heap.size)
    (h : ∀ v' w', w'.ownsRow base e 32 v' (n + ss.length) (xs ++ flatL ss) → w.grownBy w' v.ownBlock → wpList P ops Q rest (a.put o.dst v') w') : wpList P ops Q (o :: rest) a w := by
  obtain ⟨h32, p, c, rfl, hc⟩ := hu
  rcases hc with hss | ⟨b, off, rfl, hcell⟩
  · subst hss
    cases p with
    | some ad =>
      exact wpList_append_own w hgd s x t ho base e i z 32 bytes ht hi hz hsize hby hzs (by decide) v n xs hs hown ad 0 c [] hx rfl (fun j u hj => by simp at hj) (fun u hu => by simp at hu) h63 hbytes hbase (fun v' w' h1 h2 _ => h v' w' (by simpa [flatL] using h1) h2)
    | none =>
      refine wpList_plain hgd fun K hK => ?_
      have hfin := h v w (by simpa [flatL] using hown) (grown_same w _)
      rcases hown.2 with ⟨rfl, rfl⟩ | ⟨g, cap, cur, rfl, hb, hg, hnc, hcm, hcs, htake⟩
      · unfold Oper.wp execOp
        simp only [ho, resolve, invoke, builtin, Sem.run_bind, Sem.run_pure, Result.andThen_ok, List.map_toArray, List.map_cons, List.map_nil, hs, hx]
        have hr : (Builtin.append_ #[t, t] o.type #[.slice none 0 0, .slice none 0 c]).run P w = .ok (.slice none 0 0) w := by
          simp [Builtin.append_, run_underlying ht, sizeOf, typeInfo, hi, Builtin.lenOf, Builtin.firstCells]
        simp only [List.length_nil, hr]
        exact hK _ _ hfin
      · unfold Oper.wp execOp
        simp only [ho, resolve, invoke, builtin, Sem.run_bind, Sem.run_pure, Result.andThen_ok, List.map_toArray, List.map_cons, List.map_nil, hs, hx]
        have hr : (Builtin.append_ #[t, t] o.type #[.slice (some ⟨g, 0, none⟩) n cap, .slice none 0 c]).run P w = .ok (.slice (some ⟨g, 0, none⟩) n cap) w := by
          simp [Builtin.append_, run_underlying ht, sizeOf, typeInfo, hi, Builtin.lenOf, Builtin.firstCells, hnc, storeCells]
        simp only [List.length_nil, hr]
        exact hK _ _ hfin
  · exact wpList_append_own w hgd s x t ho base e i z 32 bytes ht hi hz hsize hby hzs (by decide) v n xs hs hown ⟨b, off, none⟩ ss.length c (flatL ss) hx (flatL_len ss h32)
      (fun j u hj => by
        rw [addr_add]
        have hjl : j < ss.length * 32 := by have := (List.getElem?_eq_some_iff.1 hj).1; rwa [flatL_len ss h32] at this
        have hd : j = j / 32 * 32 + j % 32 := by omega
        have hq : j / 32 < ss.length := by omega
        have hr := rowA_cell ss [] h32 (j / 32) (j % 32) hq (by omega)
        rw [← hd] at hr
        have he : (rowA ss [])[j]? = (flatL ss)[j]? := by simp [rowA]
        rw [he, hj, fpA_get _ _ (by rw [h32 _ (List.getElem_mem hq)]; omega)] at hr
        have := hcell (j / 32) hq (j % 32) (by omega)
        rw [← hd] at this
        rw [this]
        exact hr.symm)
      (fun u hu => flatL_one' ss u hu) h63 hbytes hbase (fun v' w' h1 h2 _ => h v' w' h1 h2)

end Go.Proofs.Ytaajadmaamjebaa
namespace Go.Proofs.Ytaajadmaamjebaa

/-- Each once, where equals stand together. -/
def onceL : List (List UInt8) → List (List UInt8)
  | [] => []
  | [a] => [a]
  | a :: b :: l => if a = b then onceL (b :: l) else a :: onceL (b :: l)

theorem onceL_mem : ∀ (l : List (List UInt8)) (x : List UInt8), x ∈ onceL l ↔ x ∈ l
  | [], x => Iff.rfl
  | [a], x => Iff.rfl
  | a :: b :: l, x => by
    have ih := onceL_mem (b :: l) x
    unfold onceL
    split
    · rename_i e
      subst e
      rw [ih, List.mem_cons (a := x) (b := a) (l := a :: l)]
      constructor
      · exact Or.inr
      · rintro (h | h)
        · rw [h]; exact List.mem_cons_self ..
        · exact h
    · rw [List.mem_cons, ih, List.mem_cons (a := x) (b := a)]

theorem onceL_snoc (x y : List UInt8) : ∀ l : List (List UInt8), onceL (l ++ [y] ++ [x]) = if y = x then onceL (l ++ [y]) else onceL (l ++ [y]) ++ [x]
  | [] => by
    simp only [List.nil_append, List.cons_append, onceL]
    by_cases h : y = x
    · subst h; simp
    · simp [h]
  | [a] => by
    have ih := onceL_snoc x y []
    simp only [List.nil_append, List.cons_append] at ih ⊢
    rw [onceL]
    rw [show onceL [a, y] = if a = y then onceL [y] else a :: onceL [y] from rfl]
    by_cases h : a = y
    · rw [if_pos h, if_pos h]; exact ih
    · rw [if_neg h, if_neg h, ih]
      by_cases h2 : y = x
      · rw [if_pos h2, if_pos h2]
      · rw [if_neg h2, if_neg h2]; rfl
  | a :: b :: l => by
    have ih := onceL_snoc x y (b :: l)
    simp only [List.cons_append] at ih ⊢
    rw [onceL]
    rw [show onceL (a :: b :: (l ++ [y])) = if a = b then onceL (b :: (l ++ [y])) else a :: onceL (b :: (l ++ [y])) from rfl]
    by_cases h : a = b
    · rw [if_pos h, if_pos h]; exact ih
    · rw [if_neg h, if_neg h, ih]
      by_cases h2 : y = x
      · rw [if_pos h2, if_pos h2]
      · rw [if_neg h2, if_neg h2]; rfl

theorem onceL_one (a : List UInt8) : onceL [a] = [a] := rfl

/-- One more element. -/
theorem onceL_take (ls : List (List UInt8)) (j : Nat) (hj : j + 1 < ls.length) : onceL (ls.take (j + 2)) = if ls[j] = ls[j + 1] then onceL (ls.take (j + 1)) else onceL (ls.take (j + 1)) ++ [ls[j + 1]] := by
  rw [List.take_succ_eq_append_getElem hj, List.take_succ_eq_append_getElem (show j < ls.length by omega)]
  exact onceL_snoc _ _ _

/-- Sorted lists: each once is in increasing order. -/
theorem onceL_incr (n : Nat) : ∀ l : List (List UInt8), (∀ x ∈ l, x.length = n) → l.Pairwise (fun a b => ltB b a = false) → Incr (onceL l)
  | [], _, _ => by simp [onceL, Incr]
  | [a], _, _ => by simp [onceL, Incr]
  | a :: b :: l, hn, h => by
    rw [List.pairwise_cons] at h
    have ih := onceL_incr n (b :: l) (fun x hx => hn x (List.mem_cons_of_mem _ hx)) h.2
    unfold onceL
    split
    · exact ih
    · rename_i hab
      rw [Incr, List.pairwise_cons]
      refine ⟨fun x hx => ?_, ih⟩
      have hx' := (onceL_mem _ x).1 hx
      have hbl : b.length = n := hn b (by simp)
      have hal : a.length = n := hn a (by simp)
      have hba : ltB b a = false := h.1 b (by simp)
      have lab : ltB a b = true := ltB_total b a (by omega) hba (fun e => hab e.symm)
      rcases List.mem_cons.1 hx' with e | e
      · rw [e]; exact lab
      · have hbx : ltB x b = false := (List.pairwise_cons.1 h.2).1 x e
        by_cases hxb : x = b
        · rw [hxb]; exact lab
        · have := ltB_total x b (by rw [hn x (by simp [e])]; omega) hbx hxb
          exact ltB_trans _ _ _ lab this

/-- A sorted permutation, each once, is the list as a set. -/
theorem once_set (n : Nat) (l m : List (List UInt8)) (hl : ∀ x ∈ l, x.length = n) (hp : m.Perm l) (hs : m.Pairwise (fun a b => ltB b a = false)) : onceL m = setL l :=
  setL_unique n l _ hl (onceL_incr n m (fun x hx => hl x (hp.mem_iff.1 hx)) hs) (fun y => (onceL_mem m y).trans hp.mem_iff)

theorem onceL_le : ∀ l : List (List UInt8), (onceL l).length ≤ l.length
  | [] => Nat.le_refl _
  | [a] => Nat.le_refl _
  | a :: b :: l => by
    have := onceL_le (b :: l)
    unfold onceL
    split
    · rw [List.length_cons (a := a)]; omega
    · rw [List.length_cons, List.length_cons (a := a)]; omega

theorem once_pos (a : List UInt8) : ∀ l : List (List UInt8), 0 < (onceL (a :: l)).length
  | [] => Nat.one_pos
  | b :: l => by
    unfold onceL
    split
    · exact once_pos b l
    · exact Nat.succ_pos _

end Go.Proofs.Ytaajadmaamjebaa
