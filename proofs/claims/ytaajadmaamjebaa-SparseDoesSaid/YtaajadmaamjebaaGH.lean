/- Fingerprints, their order, sets of them: the mathematics of stage 7, of no program. Fingerprints as texts, as numbers: the mathematics of stage 7, of no program. -/
import Derived.Test.YtaajadmaamjebaaPlain
namespace Go.Proofs.Ytaajadmaamjebaa

/-- Less, byte by byte. -/
def ltB : List UInt8 → List UInt8 → Bool
  | a :: l, b :: m => if a = b then ltB l m else decide (a.toNat < b.toNat)
  | _, _ => false

theorem ltB_irrefl : ∀ l : List UInt8, ltB l l = false
  | [] => rfl
  | a :: l => by simp [ltB, ltB_irrefl l]

theorem ltB_trans : ∀ l m k : List UInt8, ltB l m = true → ltB m k = true → ltB l k = true
  | [], _, _, h, _ => by simp [ltB] at h
  | _ :: _, [], _, h, _ => by simp [ltB] at h
  | _ :: _, _ :: _, [], _, h => by simp [ltB] at h
  | a :: l, b :: m, c :: k, h1, h2 => by
    simp only [ltB] at h1 h2 ⊢
    by_cases ab : a = b
    · subst ab
      rw [if_pos rfl] at h1
      by_cases ac : a = c
      · subst ac
        rw [if_pos rfl] at h2 ⊢
        exact ltB_trans l m k h1 h2
      · rw [if_neg ac] at h2 ⊢
        exact h2
    · rw [if_neg ab] at h1
      have h1' := of_decide_eq_true h1
      by_cases bc : b = c
      · subst bc
        rw [if_neg ab]
        exact h1
      · rw [if_neg bc] at h2
        have h2' := of_decide_eq_true h2
        have ac : ¬ a = c := fun e => by rw [e] at h1'; omega
        rw [if_neg ac]
        exact decide_eq_true (by omega)

theorem ltB_total : ∀ l m : List UInt8, l.length = m.length → ltB l m = false → l ≠ m → ltB m l = true
  | [], [], _, _, h => absurd rfl h
  | [], _ :: _, h, _, _ => by simp at h
  | _ :: _, [], h, _, _ => by simp at h
  | a :: l, b :: m, hl, h1, h2 => by
    simp only [ltB] at h1 ⊢
    by_cases ab : a = b
    · subst ab
      rw [if_pos rfl] at h1 ⊢
      exact ltB_total l m (by simpa using hl) h1 (fun e => h2 (by rw [e]))
    · rw [if_neg ab] at h1
      rw [if_neg (fun e => ab e.symm)]
      have h1' := of_decide_eq_false h1
      have hne : a.toNat ≠ b.toNat := fun e => ab (UInt8.toNat_inj.1 e)
      exact decide_eq_true (by omega)

theorem ltB_asymm (l m : List UInt8) (h : ltB l m = true) : ltB m l = false := by
  cases h2 : ltB m l with
  | false => rfl
  | true =>
    have := ltB_trans l m l h h2
    rw [ltB_irrefl] at this
    cases this

/-- In increasing order. -/
abbrev Incr (l : List (List UInt8)) : Prop := l.Pairwise fun a b => ltB a b = true

/-- Two lists in increasing order with the same elements are one. -/
theorem incr_unique : ∀ l m : List (List UInt8), Incr l → Incr m → (∀ x, x ∈ l ↔ x ∈ m) → l = m
  | [], [], _, _, _ => rfl
  | [], b :: m, _, _, h => by have := (h b).2 (List.mem_cons_self ..); cases this
  | a :: l, [], _, _, h => by have := (h a).1 (List.mem_cons_self ..); cases this
  | a :: l, b :: m, hl, hm, h => by
    rw [Incr, List.pairwise_cons] at hl hm
    have hab : a = b := by
      rcases List.mem_cons.1 ((h a).1 (List.mem_cons_self ..)) with e | e
      · exact e
      · rcases List.mem_cons.1 ((h b).2 (List.mem_cons_self ..)) with e2 | e2
        · exact e2.symm
        · have h1 := hm.1 a e
          have h2 := hl.1 b e2
          rw [ltB_asymm _ _ h1] at h2
          cases h2
    subst hab
    congr 1
    refine incr_unique l m hl.2 hm.2 (fun x => ⟨fun hx => ?_, fun hx => ?_⟩)
    · rcases List.mem_cons.1 ((h x).1 (List.mem_cons_of_mem _ hx)) with e | e
      · subst e
        have := hl.1 x hx
        rw [ltB_irrefl] at this
        cases this
      · exact e
    · rcases List.mem_cons.1 ((h x).2 (List.mem_cons_of_mem _ hx)) with e | e
      · subst e
        have := hm.1 x hx
        rw [ltB_irrefl] at this
        cases this
      · exact e

/-- Put in its place. -/
def ins (x : List UInt8) : List (List UInt8) → List (List UInt8)
  | [] => [x]
  | a :: l => if ltB a x then a :: ins x l else x :: a :: l

theorem ins_mem (x : List UInt8) : ∀ l y, y ∈ ins x l ↔ y = x ∨ y ∈ l
  | [], y => by simp [ins]
  | a :: l, y => by
    unfold ins
    split
    · rw [List.mem_cons, ins_mem x l y, List.mem_cons]
      constructor
      · rintro (h | h | h)
        · exact Or.inr (Or.inl h)
        · exact Or.inl h
        · exact Or.inr (Or.inr h)
      · rintro (h | h | h)
        · exact Or.inr (Or.inl h)
        · exact Or.inl h
        · exact Or.inr (Or.inr h)
    · rw [List.mem_cons]

theorem ins_incr (n : Nat) (x : List UInt8) (hx : x.length = n) : ∀ l, (∀ y ∈ l, y.length = n) → Incr l → x ∉ l → Incr (ins x l)
  | [], _, _, _ => by simp [ins, Incr]
  | a :: l, hn, h, hne => by
    unfold ins
    rw [Incr, List.pairwise_cons] at h
    split
    · rename_i hax
      rw [Incr, List.pairwise_cons]
      refine ⟨fun y hy => ?_, ins_incr n x hx l (fun y hy => hn y (List.mem_cons_of_mem _ hy)) h.2 (fun e => hne (List.mem_cons_of_mem _ e))⟩
      rcases (ins_mem x l y).1 hy with e | e
      · rw [e]; exact hax
      · exact h.1 y e
    · rename_i hax
      have hax' : ltB a x = false := by simpa using hax
      have hxa : ltB x a = true := ltB_total a x ((hn a (List.mem_cons_self ..)).trans hx.symm) hax' (fun e => hne (by rw [e]; exact List.mem_cons_self ..))
      rw [Incr, List.pairwise_cons]
      refine ⟨fun y hy => ?_, List.pairwise_cons.2 h⟩
      rcases List.mem_cons.1 hy with e | e
      · rw [e]; exact hxa
      · exact ltB_trans _ _ _ hxa (h.1 y e)

/-- One more into a set. -/
def add1 (out : List (List UInt8)) (x : List UInt8) : List (List UInt8) := if x ∈ out then out else ins x out
/-- A list as a set. -/
def setL (l : List (List UInt8)) : List (List UInt8) := l.foldl add1 []

theorem add1_mem (out : List (List UInt8)) (x y : List UInt8) : y ∈ add1 out x ↔ y = x ∨ y ∈ out := by
  unfold add1
  split
  · rename_i h
    constructor
    · exact Or.inr
    · rintro (e | e)
      · rw [e]; exact h
      · exact e
  · exact ins_mem x out y

theorem fold_mem : ∀ (l out : List (List UInt8)) (y : List UInt8), y ∈ l.foldl add1 out ↔ y ∈ out ∨ y ∈ l
  | [], out, y => by simp
  | x :: l, out, y => by
    rw [List.foldl_cons, fold_mem l, add1_mem, List.mem_cons]
    constructor
    · rintro ((h | h) | h)
      · exact Or.inr (Or.inl h)
      · exact Or.inl h
      · exact Or.inr (Or.inr h)
    · rintro (h | h | h)
      · exact Or.inl (Or.inr h)
      · exact Or.inl (Or.inl h)
      · exact Or.inr h

theorem setL_mem (l : List (List UInt8)) (y : List UInt8) : y ∈ setL l ↔ y ∈ l := by
  unfold setL
  rw [fold_mem]
  simp

theorem fold_incr (n : Nat) : ∀ (l out : List (List UInt8)), (∀ y ∈ l, y.length = n) → (∀ y ∈ out, y.length = n) → Incr out → Incr (l.foldl add1 out)
  | [], _, _, _, h => h
  | x :: l, out, hl, ho, h => by
    rw [List.foldl_cons]
    have hx := hl x (List.mem_cons_self ..)
    refine fold_incr n l _ (fun y hy => hl y (List.mem_cons_of_mem _ hy)) (fun y hy => ?_) ?_
    · rcases (add1_mem out x y).1 hy with e | e
      · rw [e]; exact hx
      · exact ho y e
    · unfold add1
      split
      · exact h
      · rename_i hne
        exact ins_incr n x hx out ho h hne

theorem setL_incr (n : Nat) (l : List (List UInt8)) (hl : ∀ y ∈ l, y.length = n) : Incr (setL l) := fold_incr n l [] hl (fun y hy => by cases hy) (by simp [Incr])

/-- What has the elements of a list, in order, is the list as a set. -/
theorem setL_unique (n : Nat) (l m : List (List UInt8)) (hl : ∀ y ∈ l, y.length = n) (hm : Incr m) (h : ∀ y, y ∈ m ↔ y ∈ l) : m = setL l :=
  incr_unique _ _ hm (setL_incr n l hl) (fun x => (h x).trans (setL_mem l x).symm)

/-- Set after set is set. -/
theorem setL_setL (n : Nat) (l : List (List UInt8)) (hl : ∀ y ∈ l, y.length = n) : setL (setL l) = setL l :=
  (setL_unique n (setL l) (setL l) (fun y hy => hl y ((setL_mem l y).1 hy)) (setL_incr n l hl) (fun _ => Iff.rfl)).symm

theorem setL_filter (n : Nat) (l : List (List UInt8)) (p : List UInt8 → Bool) (hl : ∀ y ∈ l, y.length = n) : setL (l.filter p) = (setL l).filter p := by
  refine (setL_unique n _ _ (fun y hy => hl y (List.mem_filter.1 hy).1) ((setL_incr n l hl).filter p) (fun y => ?_)).symm
  rw [List.mem_filter, List.mem_filter, setL_mem]

/-- Those of a that b has not. -/
def minusL (a b : List (List UInt8)) : List (List UInt8) := setL (a.filter fun x => !b.contains x)
/-- How many both have. -/
def commonN (a b : List (List UInt8)) : Nat := (setL a).length - (minusL a b).length

theorem filter_not_length {α : Type} (p : α → Bool) : ∀ l : List α, (l.filter p).length + (l.filter fun x => !p x).length = l.length
  | [] => rfl
  | a :: l => by
    have := filter_not_length p l
    simp only [List.filter_cons]
    cases p a <;> simp <;> omega

theorem common_both (n : Nat) (a b : List (List UInt8)) (ha : ∀ y ∈ a, y.length = n) : commonN a b = ((setL a).filter fun x => b.contains x).length ∧ commonN a b + (minusL a b).length = (setL a).length := by
  have h1 : minusL a b = (setL a).filter fun x => !b.contains x := setL_filter n a _ ha
  have h2 := filter_not_length (fun x => b.contains x) (setL a)
  unfold commonN
  rw [h1]
  omega

theorem common_comm (n : Nat) (a b : List (List UInt8)) (ha : ∀ y ∈ a, y.length = n) (hb : ∀ y ∈ b, y.length = n) : commonN a b = commonN b a := by
  rw [(common_both n a b ha).1, (common_both n b a hb).1]
  congr 1
  refine incr_unique _ _ ((setL_incr n a ha).filter _) ((setL_incr n b hb).filter _) (fun x => ?_)
  rw [List.mem_filter, List.mem_filter, setL_mem, setL_mem, List.contains_iff_mem, List.contains_iff_mem]
  exact And.comm

/-- The bits of a byte, the greatest first. -/
def bits8 (b : UInt8) : List Bool := [128, 64, 32, 16, 8, 4, 2, 1].map fun k => b.toNat / k % 2 == 1
def fbitsB (l : List UInt8) : List Bool := l.flatMap bits8
/-- How many first bits are 0. -/
def zerosB (l : List UInt8) : Nat := ((fbitsB l).takeWhile (!·)).length

theorem bits8_len (b : UInt8) : (bits8 b).length = 8 := rfl
theorem fbitsB_len (l : List UInt8) : (fbitsB l).length = 8 * l.length := by
  induction l with
  | nil => rfl
  | cons b l ih => simp only [fbitsB, List.flatMap_cons, List.length_append, bits8_len] at ih ⊢; rw [List.length_cons]; omega
theorem zerosB_le (l : List UInt8) : zerosB l ≤ 8 * l.length := by
  rw [← fbitsB_len]
  exact (List.takeWhile_sublist _).length_le

/-- Is it a hook for so many bits? -/
def hookB (l : List UInt8) (bits : Int) : Bool := decide (min bits 256 ≤ (zerosB l : Int))

end Go.Proofs.Ytaajadmaamjebaa
namespace Go.Proofs.Ytaajadmaamjebaa

/-- A hexadecimal digit, and its worth. -/
def hexD (n : Nat) : UInt8 := if n < 10 then UInt8.ofNat (48 + n) else UInt8.ofNat (87 + n)
def valD (c : UInt8) : Option Nat := if 48 ≤ c.toNat ∧ c.toNat ≤ 57 then some (c.toNat - 48) else if 97 ≤ c.toNat ∧ c.toNat ≤ 102 then some (c.toNat - 87) else none

theorem hexD_nat (n : Nat) (h : n < 16) : (hexD n).toNat = if n < 10 then 48 + n else 87 + n := by
  unfold hexD
  split <;> (rw [UInt8.toNat_ofNat']; omega)

theorem valD_hexD (n : Nat) (h : n < 16) : valD (hexD n) = some n := by
  unfold valD
  rw [hexD_nat n h]
  by_cases h10 : n < 10
  · rw [if_pos h10, if_pos (by omega)]
    simp
  · rw [if_neg h10, if_neg (by omega), if_pos (by omega)]
    simp

theorem valD_lt (c : UInt8) (n : Nat) (h : valD c = some n) : n < 16 := by
  unfold valD at h
  split at h
  · injection h; omega
  · split at h
    · injection h; omega
    · cases h

theorem hexD_valD (c : UInt8) (n : Nat) (h : valD c = some n) : hexD n = c := by
  have hn := valD_lt c n h
  apply UInt8.toNat_inj.1
  rw [hexD_nat n hn]
  unfold valD at h
  split at h
  · injection h; split <;> omega
  · split at h
    · injection h; split <;> omega
    · cases h

/-- The text of some bytes. -/
def hexL (l : List UInt8) : List UInt8 := l.flatMap fun b => [hexD (b.toNat / 16), hexD (b.toNat % 16)]

theorem hexL_len (l : List UInt8) : (hexL l).length = 2 * l.length := by
  induction l with
  | nil => rfl
  | cons b l ih => simp only [hexL, List.flatMap_cons, List.length_append, List.length_cons, List.length_nil] at ih ⊢; omega

/-- The bytes of a text, where it is one of bytes. -/
def unhex : List UInt8 → Option (List UInt8)
  | [] => some []
  | [_] => none
  | a :: b :: l => match valD a, valD b, unhex l with
    | some x, some y, some r => some (UInt8.ofNat (x * 16 + y) :: r)
    | _, _, _ => none

theorem unhex_hexL : ∀ l : List UInt8, unhex (hexL l) = some l
  | [] => rfl
  | b :: l => by
    have hb := b.toNat_lt
    have e : hexL (b :: l) = hexD (b.toNat / 16) :: hexD (b.toNat % 16) :: hexL l := rfl
    rw [e, unhex, valD_hexD _ (by omega), valD_hexD _ (by omega), unhex_hexL l]
    simp only
    congr 2
    apply UInt8.toNat_inj.1
    rw [UInt8.toNat_ofNat']
    omega

theorem hexL_unhex : ∀ (l r : List UInt8), unhex l = some r → hexL r = l
  | [], r, h => by simp only [unhex, Option.some.injEq] at h; rw [← h]; rfl
  | [_], _, h => by simp [unhex] at h
  | a :: b :: l, r, h => by
    unfold unhex at h
    split at h
    · rename_i x y q hx hy hq
      injection h with h
      have h1 := valD_lt a x hx
      have h2 := valD_lt b y hy
      rw [← h]
      have e : hexL (UInt8.ofNat (x * 16 + y) :: q) = hexD ((UInt8.ofNat (x * 16 + y)).toNat / 16) :: hexD ((UInt8.ofNat (x * 16 + y)).toNat % 16) :: hexL q := rfl
      rw [e, UInt8.toNat_ofNat', show (x * 16 + y) % 2 ^ 8 / 16 = x by omega, show (x * 16 + y) % 2 ^ 8 % 16 = y by omega, hexD_valD a x hx, hexD_valD b y hy, hexL_unhex l q hq]
    · cases h

/-- A text of so many digits alone is one of bytes. -/
theorem unhex_some : ∀ (n : Nat) (l : List UInt8), l.length = 2 * n → (∀ c ∈ l, (valD c).isSome = true) → ∃ r, unhex l = some r ∧ r.length = n
  | 0, l, hl, _ => by
    have := List.eq_nil_of_length_eq_zero (show l.length = 0 by omega)
    subst this
    exact ⟨[], rfl, rfl⟩
  | n + 1, l, hl, h => by
    match l, hl with
    | a :: b :: l, hl =>
      obtain ⟨x, hx⟩ := Option.isSome_iff_exists.1 (h a (by simp))
      obtain ⟨y, hy⟩ := Option.isSome_iff_exists.1 (h b (by simp))
      obtain ⟨r, hr, hrl⟩ := unhex_some n l (by simp only [List.length_cons] at hl; omega) (fun c hc => h c (by simp [hc]))
      exact ⟨_, by rw [unhex, hx, hy, hr], by simp [hrl]⟩

theorem unhex_digits : ∀ (l r : List UInt8), unhex l = some r → ∀ c ∈ l, (valD c).isSome = true
  | [], _, _, c, hc => by cases hc
  | [_], _, h, _, _ => by simp [unhex] at h
  | a :: b :: l, r, h, c, hc => by
    unfold unhex at h
    split at h
    · rename_i x y q hx hy hq
      rcases List.mem_cons.1 hc with e | hc
      · rw [e, hx]; rfl
      · rcases List.mem_cons.1 hc with e | hc
        · rw [e, hy]; rfl
        · exact unhex_digits l q hq c hc
    · cases h

theorem unhex_len (l r : List UInt8) (h : unhex l = some r) : l.length = 2 * r.length := by rw [← hexL_unhex l r h, hexL_len]

/-- Where an element goes. -/
theorem ins_split (x : List UInt8) : ∀ l, ins x l = l.take (l.takeWhile fun a => ltB a x).length ++ x :: l.drop (l.takeWhile fun a => ltB a x).length
  | [] => rfl
  | a :: l => by
    unfold ins
    by_cases h : ltB a x = true
    · rw [if_pos h, List.takeWhile_cons_of_pos (p := fun a => ltB a x) h, ins_split x l]
      simp
    · rw [if_neg h, List.takeWhile_cons_of_neg (p := fun a => ltB a x) h]
      simp

end Go.Proofs.Ytaajadmaamjebaa
