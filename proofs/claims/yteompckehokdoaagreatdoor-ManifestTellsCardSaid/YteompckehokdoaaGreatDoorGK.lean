/- What the document's reader reads of a manifest's bytes. The document's Get. -/
import Derived.Test.YteompckehokdoaaGreatDoorGJ
import Derived.Test.YteompckehokdoaaGreatDoorGD
namespace Go.Proofs.YteompckehokdoaaGreatDoor
open Go.RowKit

theorem takeR_fits {L : List UInt8} {k : Nat} (h : k ≤ L.length) : takeR (L, 0) k = (L.take k, (L.drop k, 0)) := by
  unfold takeR
  rw [if_neg (by simp), if_neg (by omega), if_neg (by simp; omega)]
  simp
theorem numR_fits {L : List UInt8} {k : Nat} (h : k ≤ L.length) : numR (L, 0) k = (ofLE (L.take k), (L.drop k, 0)) := by
  unfold numR
  rw [takeR_fits h]
theorem takeR_zero {s : RdSt} {k : Nat} (h : (takeR s k).2.2 = 0) : s.2 = 0 ∧ k ≤ s.1.length := by
  have e0 : takeR s k = ((takeR s k).1, ((takeR s k).2.1, 0)) := Prod.ext rfl (Prod.ext rfl h)
  obtain ⟨a, -, c, d⟩ := takeR_ok e0
  refine ⟨a, ?_⟩
  rw [c, List.length_append, d]
  omega
theorem numR_zero {s : RdSt} {k : Nat} (h : (numR s k).2.2 = 0) : s.2 = 0 ∧ k ≤ s.1.length := takeR_zero h
/-- The reader behind the ID, behind the number of entries. -/
def idRM (S : List UInt8) : Nat × RdSt := numR (takeR (S, 0) 4).2 4
def cnRM (S : List UInt8) : Nat × RdSt := numR (idRM S).2 2
theorem cnRM_fits {S : List UInt8} (h : 10 ≤ S.length) : idRM S = (idM S, (S.drop 8, 0)) ∧ cnRM S = (cntM S, (S.drop 10, 0)) := by
  have e1 : idRM S = (idM S, (S.drop 8, 0)) := by
    have h1 : takeR (S, 0) 4 = (S.take 4, (S.drop 4, 0)) := takeR_fits (k := 4) (by omega)
    unfold idRM
    rw [h1, numR_fits (by rw [List.length_drop]; omega), List.drop_drop]
    rfl
  refine ⟨e1, ?_⟩
  unfold cnRM
  rw [e1, numR_fits (by rw [List.length_drop]; omega), List.drop_drop]
  rfl
theorem cnRM_zero {S : List UInt8} (h : (cnRM S).2.2 = 0) : 10 ≤ S.length := by
  obtain ⟨h1, h2⟩ := numR_zero h
  obtain ⟨h3, h4⟩ := numR_zero (s := (takeR (S, 0) 4).2) h1
  obtain ⟨-, h5⟩ := takeR_zero (s := (S, 0)) (k := 4) h3
  have e1 : takeR (S, 0) 4 = (S.take 4, (S.drop 4, 0)) := takeR_fits (k := 4) h5
  rw [e1] at h4
  have e2 : idRM S = (idM S, (S.drop 8, 0)) := by
    unfold idRM
    rw [e1, numR_fits h4, List.drop_drop]
    rfl
  rw [e2] at h2
  simp only [List.length_drop] at h4 h2
  omega
theorem numR_lt2 (s : RdSt) (k : Nat) : (numR s k).1 < 256 ^ k := by
  refine Nat.lt_of_lt_of_le (ofLE_lt _) (Nat.pow_le_pow_right (by omega) ?_)
  unfold takeR
  split
  · exact Nat.zero_le _
  · split
    · exact Nat.zero_le _
    · split
      · exact Nat.zero_le _
      · simp; omega
theorem readEs_snoc : ∀ (k : Nat) (s : List UInt8), readEs (k + 1) s = readEs k s ++ [readE (s.drop (40 * k))]
  | 0, s => by simp [readEs]
  | k + 1, s => by
    show readE s :: readEs (k + 1) (s.drop 40) = readE s :: readEs k (s.drop 40) ++ _
    rw [readEs_snoc k, List.drop_drop, List.cons_append, show 40 + 40 * k = 40 * (k + 1) by omega]
/-- An entry whose fingerprint is set, byte by byte. -/
def halfE (F : List UInt8) (j : Nat) (a : Int) (b : Nat) (c : Int) : En := ⟨F.take j ++ List.replicate (32 - j) 0, a, b, c⟩
theorem halfE_len {F : List UInt8} (h : F.length = 32) (j : Nat) (hj : j ≤ 32) (a : Int) (b : Nat) (c : Int) : (halfE F j a b c).fp.length = 32 := by
  unfold halfE
  simp [h]; omega
theorem half_set {F : List UInt8} (h : F.length = 32) {j : Nat} (hj : j < 32) (a : Int) (b : Nat) (c : Int) (q : Nat) (hq : (F[j]'(by omega)).toNat = q) :
    (enC (halfE F j a b c)).setIfInBounds j (.int .u8 (q : Nat)) = enC (halfE F (j + 1) a b c) := by
  apply Array.toList_inj.1
  have e1 : List.replicate (32 - j) (0 : UInt8) = 0 :: List.replicate (32 - (j + 1)) 0 := by rw [show 32 - j = (32 - (j + 1)) + 1 by omega, List.replicate_succ]
  have e2 : F.take (j + 1) = F.take j ++ [F[j]'(by omega)] := List.take_succ_eq_append_getElem (by omega)
  unfold enC enL halfE
  simp only [Array.toList_setIfInBounds]
  rw [List.set_append_left _ _ (by simp [fpA_size, h]; omega), e1, e2]
  unfold fpA
  simp only [List.map_append, List.map_cons]
  rw [List.set_append_right _ _ (by simp [h]; omega)]
  simp [h, hq, Nat.min_eq_left (Nat.le_of_lt hj)]
theorem half_end {F : List UInt8} (h : F.length = 32) (a : Int) (b : Nat) (c : Int) : halfE F 32 a b c = ⟨F, a, b, c⟩ := by
  unfold halfE
  rw [List.take_of_length_le (by omega)]
  simp
theorem half_get {F : List UInt8} (h : F.length = 32) (j : Nat) (hj : j < 32) (a : Int) (b : Nat) (c : Int) : ∃ q : Nat, (enC (halfE F j a b c))[j]? = some (.int .u8 (q : Nat)) := by
  refine ⟨((halfE F j a b c).fp.getD j 0).toNat, ?_⟩
  unfold enC
  rw [List.getElem?_toArray]
  exact enL_fp (halfE_len h j (Nat.le_of_lt hj) a b c) j hj
theorem built_en0 (a : Int) (b : Nat) (c : Int) : Tryz.prog.built 41 [(1, .int .i64 a), (2, .int .u32 (b : Nat)), (3, .int .i64 c)] = some (enC ⟨[0, 0, 0, 0, 0, 0, 0, 0, 0, 0, 0, 0, 0, 0, 0, 0, 0, 0, 0, 0, 0, 0, 0, 0, 0, 0, 0, 0, 0, 0, 0, 0], a, b, c⟩) := by kernel_rfl
theorem built_en (a : Int) (b : Nat) (c : Int) (F : List UInt8) : Tryz.prog.built 41 [(1, .int .i64 a), (2, .int .u32 (b : Nat)), (3, .int .i64 c)] = some (enC (halfE F 0 a b c)) := by
  have e : halfE F 0 a b c = ⟨[0, 0, 0, 0, 0, 0, 0, 0, 0, 0, 0, 0, 0, 0, 0, 0, 0, 0, 0, 0, 0, 0, 0, 0, 0, 0, 0, 0, 0, 0, 0, 0], a, b, c⟩ := by unfold halfE; rfl
  rw [e]
  exact built_en0 a b c

end Go.Proofs.YteompckehokdoaaGreatDoor
namespace Go.Proofs.YteompckehokdoaaGreatDoor
open Go.RowKit

theorem text_neM {a b : ByteArray} (h : a ≠ b) : (a.toList == b.toList) = false := by
  rw [Lib.toList_data, Lib.toList_data, beq_eq_false_iff_ne]
  exact fun e => h (ByteArray.ext (Array.ext' e))
theorem readM_len (S : List UInt8) : (readM S).es.length = cntM S := readEs_len _ _

end Go.Proofs.YteompckehokdoaaGreatDoor
