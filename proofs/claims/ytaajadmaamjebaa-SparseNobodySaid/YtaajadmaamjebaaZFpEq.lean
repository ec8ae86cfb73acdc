/- Two fingerprints against each other; of no program. -/
import Derived.Test.YtaajadmaamjebaaZFp
import Derived.ChangeKeysEq
import Derived.LaidEqlPtr
namespace Go.Proofs.Ytaajadmaamjebaa
open Go.RowKit

theorem run_items_eq {P : Program} (d : Nat) (e : TypeId) (l m : List UInt8) (he : P.underlying e = some (.int .u8)) :
    ∀ (js : List Nat) (w : World), (∀ j ∈ js, j < l.length ∧ j < m.length) → (Op.eqItems (d + 1) e 1 (fpA l) (fpA m) js).run P w = .ok (js.all fun j => l.getD j 0 == m.getD j 0) w
  | [], w, _ => by simp [Op.eqItems]
  | j :: js, w, h => by
    obtain ⟨h1, h2⟩ := h j (by simp)
    have ih := run_items_eq d e l m he js w (fun i hi => h i (by simp [hi]))
    have hp : (part e (fpA l) (j * 1)).run P w = .ok (.int .u8 ((l.getD j 0).toNat : Int)) w := by
      simp only [part, isAgg, run_underlying he, Sem.run_bind, Result.andThen_ok, Nat.mul_one]
      simp [fpA_get l j h1]
    have hq : (part e (fpA m) (j * 1)).run P w = .ok (.int .u8 ((m.getD j 0).toNat : Int)) w := by
      simp only [part, isAgg, run_underlying he, Sem.run_bind, Result.andThen_ok, Nat.mul_one]
      simp [fpA_get m j h2]
    simp only [Op.eqItems, Sem.run_bind, hp, hq, Result.andThen_ok]
    rw [run_equalIn_int w d e .u8 .u8 _ _ he]
    by_cases hab : l.getD j 0 = m.getD j 0
    · have : (((l.getD j 0).toNat : Int) == ((m.getD j 0).toNat : Int)) = true := by rw [hab]; simp
      rw [this]
      simp only [List.all_cons, hab, BEq.rfl, Bool.true_and]
      simpa using ih
    · have : (((l.getD j 0).toNat : Int) == ((m.getD j 0).toNat : Int)) = false := by
        rw [beq_eq_false_iff_ne]
        intro hn
        exact hab (UInt8.toNat_inj.1 (by omega))
      rw [this]
      have h3 : (l.getD j 0 == m.getD j 0) = false := beq_eq_false_iff_ne.2 hab
      simp only [List.all_cons, h3, Bool.false_and]
      simp

theorem all_range_eq {n : Nat} {l m : List UInt8} (hl : l.length = n) (hm : m.length = n) : ((List.range n).all fun j => l.getD j 0 == m.getD j 0) = (l == m) := by
  rw [Bool.eq_iff_iff, List.all_eq_true, beq_iff_eq]
  constructor
  · intro h
    apply List.ext_getElem (by omega)
    intro i h1 h2
    have := h i (by simp; omega)
    simpa [List.getD, h1, h2] using this
  · rintro rfl j _
    simp

/-- Two arrays of n bytes are equal where their bytes are. -/
theorem run_eq_fp {P : Program} (t e : TypeId) (n : Nat) (l m : List UInt8) (hl : l.length = n) (hm : m.length = n) (ht : P.underlying t = some (.array n e)) (hi : (P.info? e).isSome = true) (hc : P.cellsOf e = 1)
    (he : P.underlying e = some (.int .u8)) (w : World) : (Op.equalIn 10000 t (.agg (fpA l)) (.agg (fpA m))).run P w = .ok (l == m) w := by
  obtain ⟨i, hi⟩ := Option.isSome_iff_exists.1 hi
  rw [show (10000 : Nat) = 9998 + 1 + 1 from rfl, run_equalIn_array w (9998 + 1) (fpA l) (fpA m) ht hi, hc]
  rw [run_items_eq 9998 e l m he _ w (fun j hj => by have := List.mem_range.1 hj; omega), all_range_eq hl hm]

end Go.Proofs.Ytaajadmaamjebaa
