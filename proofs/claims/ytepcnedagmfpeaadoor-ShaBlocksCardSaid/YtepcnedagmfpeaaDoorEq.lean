/- An array against itself. -/
import Derived.Test.YtepcnedagmfpeaaDoorExp
import Derived.ChangeKeysEq
import Derived.LaidEqlPtr
namespace Go.Proofs.YtepcnedagmfpeaaDoor
open Go.RowKit

theorem run_items_same {P : Program} (d : Nat) (e : TypeId) (ik : IntKind) (cs : Array Value) (he : P.underlying e = some (.int ik)) :
    ∀ (js : List Nat) (w : World), (∀ j ∈ js, ∃ z, cs[j]? = some (.int ik z)) → (Op.eqItems (d + 1) e 1 cs cs js).run P w = .ok true w
  | [], w, _ => by simp [Op.eqItems]
  | j :: js, w, h => by
    obtain ⟨z, hz⟩ := h j (by simp)
    have ih := run_items_same d e ik cs he js w (fun i hi => h i (by simp [hi]))
    have hp : (part e cs (j * 1)).run P w = .ok (.int ik z) w := by
      simp [part, isAgg, run_underlying he, hz]
    simp only [Op.eqItems, Sem.run_bind, hp, Result.andThen_ok]
    rw [run_equalIn_int w d e ik ik z z he]
    simp [ih]

theorem run_same_arr {P : Program} (t e : TypeId) (n : Nat) (ik : IntKind) (cs : Array Value) (i : TypeInfo) (ht : P.underlying t = some (.array n e)) (hi : P.info? e = some i) (hc : P.cellsOf e = 1) (he : P.underlying e = some (.int ik))
    (h : ∀ j, j < n → ∃ z, cs[j]? = some (.int ik z)) (w : World) : (Op.equalIn 10000 t (.agg cs) (.agg cs)).run P w = .ok true w := by
  rw [show (10000 : Nat) = 9998 + 1 + 1 from rfl, run_equalIn_array w (9998 + 1) cs cs ht hi, hc]
  exact run_items_same 9998 e ik cs he _ w (fun j hj => h j (List.mem_range.1 hj))

theorem cellsU8 : Tryd.prog.cellsOf 5 = 1 := by kernel_rfl
theorem cellsU32 : Tryd.prog.cellsOf 36 = 1 := by kernel_rfl

theorem info_some {P : Program} {t : TypeId} {n : Nat} (h : (P.info? t).map (·.size) = some n) : ∃ i, P.info? t = some i := by
  cases hq : P.info? t with
  | none => rw [hq] at h; cases h
  | some i => exact ⟨i, rfl⟩

theorem same_fp (l : List UInt8) (hl : l.length = 32) (w : World) : (Op.equalIn 10000 24 (.agg (byA l)) (.agg (byA l))).run Tryd.prog w = .ok true w := by
  obtain ⟨i, hi⟩ := info_some infoU8
  exact run_same_arr 24 5 32 .u8 _ i Tryd.underlying24 hi cellsU8 Tryd.underlying5 (fun j hj => ⟨_, byA_get l j (by omega)⟩) w

theorem same_st (l : List Nat) (hl : l.length = 8) (w : World) : (Op.equalIn 10000 39 (.agg (nuA l)) (.agg (nuA l))).run Tryd.prog w = .ok true w := by
  obtain ⟨i, hi⟩ := info_some infoU32
  exact run_same_arr 39 36 8 .u32 _ i Tryd.underlying39 hi cellsU32 Tryd.underlying36 (fun j hj => ⟨_, nuA_get l j (by omega)⟩) w

end Go.Proofs.YtepcnedagmfpeaaDoor
