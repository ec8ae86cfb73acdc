/- What was read, laid again, gives the very bytes; what was laid is read again. -/
import Derived.Test.YtpicaiikejohaaaPlain
namespace Go.Proofs.Ytpicaiikejohaaa
open Go.RowKit

theorem leB_ofLE : ∀ l : List UInt8, leB l.length (ofLE l) = l
  | [] => rfl
  | b :: l => by
    have h := leB_ofLE l
    have hb := b.toNat_lt
    have e1 : (b.toNat + 256 * ofLE l) / 256 = ofLE l := by omega
    have e2 : UInt8.ofNat (b.toNat + 256 * ofLE l) = b := by
      apply UInt8.toNat_inj.1
      rw [UInt8.toNat_ofNat']
      omega
    simp only [List.length_cons, ofLE, leB, e1, e2, h]

theorem ofLE_leB : ∀ k n, n < 256 ^ k → ofLE (leB k n) = n
  | 0, n, h => by simp at h; simp [ofLE, leB, h]
  | k + 1, n, h => by
    have ih := ofLE_leB k (n / 256) (by rw [Nat.pow_succ] at h; omega)
    simp only [leB, ofLE, ih, UInt8.toNat_ofNat']
    omega

/-- A reading without an error. -/
theorem takeR_ok {s : RdSt} {n : Int} {x l : List UInt8} (h : takeR s n = (x, (l, 0))) : s.2 = 0 ∧ 0 ≤ n ∧ s.1 = x ++ l ∧ x.length = n.toNat := by
  unfold takeR at h
  split at h
  · rename_i h0
    simp only [Prod.mk.injEq] at h
    exact absurd (by rw [h.2]) h0
  · rename_i h0
    split at h
    · simp at h
    · split at h
      · simp at h
      · simp only [Prod.mk.injEq, and_true] at h
        obtain ⟨rfl, rfl⟩ := h
        refine ⟨by simpa using h0, by omega, (List.take_append_drop _ _).symm, ?_⟩
        rw [List.length_take]
        omega

theorem numR_ok {s : RdSt} {k n : Nat} {l : List UInt8} (h : numR s k = (n, (l, 0))) : s.2 = 0 ∧ s.1 = leB k n ++ l := by
  unfold numR at h
  simp only [Prod.mk.injEq] at h
  obtain ⟨h1, h2⟩ := h
  obtain ⟨a, b, c, d⟩ := takeR_ok (s := s) (n := k) (x := (takeR s k).1) (l := l) (by rw [← h2])
  refine ⟨a, ?_⟩
  rw [c, ← h1]
  congr 1
  have := leB_ofLE (takeR s k).1
  rw [d] at this
  simpa using this.symm

theorem lenR_ok {s : RdSt} {m n : Nat} {l : List UInt8} (h : lenR s m = (n, (l, 0))) : s.2 = 0 ∧ s.1 = leB 4 n ++ l ∧ n ≤ m := by
  unfold lenR at h
  split at h
  · simp at h
  · rename_i hm
    obtain ⟨a, b⟩ := numR_ok h
    rw [h] at hm
    exact ⟨a, b, by simpa using hm⟩

theorem textR_ok {s : RdSt} {x l : List UInt8} (h : textR s = (x, (l, 0))) : s.2 = 0 ∧ s.1 = textB (str x) ++ l := by
  unfold textR at h
  obtain ⟨a, b, c, d⟩ := takeR_ok h
  have hl : lenR s 65536 = ((lenR s 65536).1, ((lenR s 65536).2.1, 0)) := by rw [← a]
  obtain ⟨a', b', _⟩ := lenR_ok hl
  refine ⟨a', ?_⟩
  rw [b', c]
  simp only [textB, str_size, str_list, d, Int.toNat_natCast, List.append_assoc]

theorem textsR_ok : ∀ (k : Nat) (s : RdSt) (acc out : List (List UInt8)) (l : List UInt8), textsR k s acc = (out, (l, 0)) →
    s.2 = 0 ∧ ∃ ts : List (List UInt8), out = acc ++ ts ∧ ts.length = k ∧ s.1 = textsB (ts.map str) ++ l
  | 0, s, acc, out, l, h => by
    simp only [textsR, Prod.mk.injEq] at h
    obtain ⟨rfl, rfl⟩ := h
    exact ⟨rfl, [], by simp, rfl, by simp [textsB]⟩
  | k + 1, s, acc, out, l, h => by
    unfold textsR at h
    split at h
    · rename_i h0
      obtain ⟨_, ts, h1, h2, h3⟩ := textsR_ok k _ _ _ _ h
      have ht : textR s = ((textR s).1, ((textR s).2.1, 0)) := by rw [← h0]
      obtain ⟨a, b⟩ := textR_ok ht
      refine ⟨a, (textR s).1 :: ts, by rw [h1]; simp, by simp [h2], ?_⟩
      rw [b, h3]
      simp [textsB]
    · rename_i h0
      simp only [Prod.mk.injEq] at h
      exact absurd (by rw [h.2]) h0

theorem listR_ok {s : RdSt} {ts : List (List UInt8)} {l : List UInt8} (h : listR s = (ts, (l, 0))) : s.2 = 0 ∧ s.1 = listB (ts.map str) ++ l := by
  unfold listR at h
  obtain ⟨a, ts', h1, h2, h3⟩ := textsR_ok _ _ _ _ _ h
  have hl : lenR s 65536 = ((lenR s 65536).1, ((lenR s 65536).2.1, 0)) := by rw [← a]
  obtain ⟨a', b', _⟩ := lenR_ok hl
  refine ⟨a', ?_⟩
  rw [b', h3]
  simp only [List.nil_append] at h1
  subst h1
  simp [listB, h2]

end Go.Proofs.Ytpicaiikejohaaa
