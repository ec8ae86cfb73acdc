/- What was read, laid again, gives the very bytes; what was laid is read again. -/
import Derived.Test.YtdmbebafpamgfaaDoorPlain
namespace Go.Proofs.YtdmbebafpamgfaaDoor
open Go.RowKit

theorem leB_ofLE : ∀ l : List UInt8, leB l.length (ofLE l) = l
  | [] => rfl
  | b :: l => by
    have h := leB_ofLE l
    have hb := b.toNat_lt
    have e1 : (b.toNat + 256 * ofLE l) / 256 = ofLE l := by omega
    have e2 : UInt8.ofNat (b.toNat + 256 * ofLE l) = b := by
      apply UInt8.toNat_inj.1
      rw [UInt8.toNat_ofNat']
      omega
    simp only [List.length_cons, ofLE, leB, e1, e2, h]

theorem ofLE_leB : ∀ k n, n < 256 ^ k → ofLE (leB k n) = n
  | 0, n, h => by simp at h; simp [ofLE, leB, h]
  | k + 1, n, h => by
    have ih := ofLE_leB k (n / 256) (by rw [Nat.pow_succ] at h; omega)
    simp only [leB, ofLE, ih, UInt8.toNat_ofNat']
    omega

/-- A reading without an error. -/
theorem takeR_ok {s : RdSt} {n : Int} {x l : List UInt8} (h : takeR s n = (x, (l, 0))) : s.2 = 0 ∧ 0 ≤ n ∧ s.1 = x ++ l ∧ x.length = n.toNat := by
  unfold takeR at h
  split at h
  · rename_i h0
    simp only [Prod.mk.injEq] at h
    exact absurd (by rw [h.2]) h0
  · rename_i h0
    split at h
    · simp at h
    · split at h
      · simp at h
      · simp only [Prod.mk.injEq, and_true] at h
        obtain ⟨rfl, rfl⟩ := h
        refine ⟨by simpa using h0, by omega, (List.take_append_drop _ _).symm, ?_⟩
        rw [List.length_take]
        omega

theorem numR_ok {s : RdSt} {k n : Nat} {l : List UInt8} (h : numR s k = (n, (l, 0))) : s.2 = 0 ∧ s.1 = leB k n ++ l := by
  unfold numR at h
  simp only [Prod.mk.injEq] at h
  obtain ⟨h1, h2⟩ := h
  obtain ⟨a, b, c, d⟩ := takeR_ok (s := s) (n := k) (x := (takeR s k).1) (l := l) (by rw [← h2])
  refine ⟨a, ?_⟩
  rw [c, ← h1]
  congr 1
  have := leB_ofLE (takeR s k).1
  rw [d] at this
  simpa using this.symm

theorem lenR_ok {s : RdSt} {m n : Nat} {l : List UInt8} (h : lenR s m = (n, (l, 0))) : s.2 = 0 ∧ s.1 = leB 4 n ++ l ∧ n ≤ m := by
  unfold lenR at h
  split at h
  · simp at h
  · rename_i hm
    obtain ⟨a, b⟩ := numR_ok h
    rw [h] at hm
    exact ⟨a, b, by simpa using hm⟩

theorem textR_ok {s : RdSt} {x l : List UInt8} (h : textR s = (x, (l, 0))) : s.2 = 0 ∧ s.1 = textB (str x) ++ l := by
  unfold textR at h
  obtain ⟨a, b, c, d⟩ := takeR_ok h
  have hl : lenR s 65536 = ((lenR s 65536).1, ((lenR s 65536).2.1, 0)) := by rw [← a]
  obtain ⟨a', b', _⟩ := lenR_ok hl
  refine ⟨a', ?_⟩
  rw [b', c]
  simp only [textB, str_size, str_list, d, Int.toNat_natCast, List.append_assoc]

theorem textsR_ok : ∀ (k : Nat) (s : RdSt) (acc out : List (List UInt8)) (l : List UInt8), textsR k s acc = (out, (l, 0)) →
    s.2 = 0 ∧ ∃ ts : List (List UInt8), out = acc ++ ts ∧ ts.length = k ∧ s.1 = textsB (ts.map str) ++ l
  | 0, s, acc, out, l, h => by
    simp only [textsR, Prod.mk.injEq] at h
    obtain ⟨rfl, rfl⟩ := h
    exact ⟨rfl, [], by simp, rfl, by simp [textsB]⟩
  | k + 1, s, acc, out, l, h => by
    unfold textsR at h
    split at h
    · rename_i h0
      obtain ⟨_, ts, h1, h2, h3⟩ := textsR_ok k _ _ _ _ h
      have ht : textR s = ((textR s).1, ((textR s).2.1, 0)) := by rw [← h0]
      obtain ⟨a, b⟩ := textR_ok ht
      refine ⟨a, (textR s).1 :: ts, by rw [h1]; simp, by simp [h2], ?_⟩
      rw [b, h3]
      simp [textsB]
    · rename_i h0
      simp only [Prod.mk.injEq] at h
      exact absurd (by rw [h.2]) h0

theorem listR_ok {s : RdSt} {ts : List (List UInt8)} {l : List UInt8} (h : listR s = (ts, (l, 0))) : s.2 = 0 ∧ s.1 = listB (ts.map str) ++ l := by
  unfold listR at h
  obtain ⟨a, ts', h1, h2, h3⟩ := textsR_ok _ _ _ _ _ h
  have hl : lenR s 65536 = ((lenR s 65536).1, ((lenR s 65536).2.1, 0)) := by rw [← a]
  obtain ⟨a', b', _⟩ := lenR_ok hl
  refine ⟨a', ?_⟩
  rw [b', h3]
  simp only [List.nil_append] at h1
  subst h1
  simp [listB, h2]

/-! ### What was laid is read again. -/
theorem takeR_app (x l : List UInt8) (n : Nat) (h : x.length = n) : takeR (x ++ l, 0) n = (x, (l, 0)) := by
  subst h
  unfold takeR
  rw [if_neg (by simp), if_neg (by omega), if_neg (by simp; omega)]
  simp

theorem leB_mod : ∀ k n, leB k (n % 256 ^ k) = leB k n
  | 0, _ => rfl
  | k + 1, n => by
    have ih := leB_mod k (n / 256)
    have e1 : n % 256 ^ (k + 1) / 256 = n / 256 % 256 ^ k := by
      rw [Nat.pow_succ, Nat.mul_comm, Nat.mod_mul_right_div_self]
    have e2 : UInt8.ofNat (n % 256 ^ (k + 1)) = UInt8.ofNat n := by
      apply UInt8.toNat_inj.1
      rw [UInt8.toNat_ofNat', UInt8.toNat_ofNat', Nat.pow_succ, Nat.mul_comm]
      exact Nat.mod_mul_right_mod _ _ _
    simp only [leB, e1, e2, ih]

theorem numR_app (n k : Nat) (l : List UInt8) : numR (leB k n ++ l, 0) k = (n % 256 ^ k, (l, 0)) := by
  unfold numR
  rw [takeR_app _ _ _ (leB_len k n)]
  simp only
  rw [← leB_mod, ofLE_leB]
  exact Nat.mod_lt _ (Nat.pow_pos (by omega))

theorem lenR_app (n m : Nat) (l : List UInt8) (h : n ≤ m) (hm : n < 256 ^ 4) : lenR (leB 4 n ++ l, 0) m = (n, (l, 0)) := by
  unfold lenR
  rw [numR_app, Nat.mod_eq_of_lt hm, if_neg (by simpa using h)]

theorem textR_app (s : ByteArray) (l : List UInt8) (h : s.size ≤ 65536) : textR (textB s ++ l, 0) = (s.data.toList, (l, 0)) := by
  unfold textR textB
  rw [List.append_assoc, lenR_app _ _ _ h (by omega)]
  exact takeR_app _ _ _ (data_len s)

theorem textsR_app : ∀ (ss : List ByteArray) (acc : List (List UInt8)) (l : List UInt8), (∀ s ∈ ss, s.size ≤ 65536) →
    textsR ss.length (textsB ss ++ l, 0) acc = (acc ++ ss.map (·.data.toList), (l, 0))
  | [], acc, l, _ => by simp [textsR, textsB]
  | s :: ss, acc, l, h => by
    have e : textsB (s :: ss) ++ l = textB s ++ (textsB ss ++ l) := by simp [textsB]
    have ih := textsR_app ss (acc ++ [s.data.toList]) l (fun t ht => h t (List.mem_cons_of_mem _ ht))
    rw [List.length_cons, e]
    unfold textsR
    rw [textR_app s _ (h s List.mem_cons_self)]
    simp only
    rw [if_pos trivial, ih]
    simp

theorem listR_app (ss : List ByteArray) (l : List UInt8) (hn : ss.length ≤ 65536) (h : ∀ s ∈ ss, s.size ≤ 65536) : listR (listB ss ++ l, 0) = (ss.map (·.data.toList), (l, 0)) := by
  unfold listR listB
  rw [List.append_assoc, lenR_app _ _ _ hn (by omega)]
  simpa using textsR_app ss [] l h

theorem str_map (ss : List ByteArray) : (ss.map (·.data.toList)).map str = ss := by
  rw [List.map_map]
  conv => rhs; rw [← List.map_id ss]
  apply List.map_congr_left
  intro s _
  exact str_data s

theorem listB_light (ss : List ByteArray) (hn : ss.length ≤ 40) (h : ∀ s ∈ ss, s.size ≤ 500) : (listB ss).length ≤ 20164 := by
  have texts : ∀ ss : List ByteArray, (∀ s ∈ ss, s.size ≤ 500) → (textsB ss).length ≤ 504 * ss.length := by
    intro ss
    induction ss with
    | nil => simp [textsB]
    | cons s ss ih =>
      intro h
      have e : textsB (s :: ss) = textB s ++ textsB ss := by simp [textsB]
      have h1 := ih (fun t ht => h t (List.mem_cons_of_mem _ ht))
      have h2 := h s List.mem_cons_self
      rw [e, List.length_append, textB_len, List.length_cons]
      omega
  have := texts ss h
  simp only [listB, List.length_append, leB_len]
  omega

end Go.Proofs.YtdmbebafpamgfaaDoor
