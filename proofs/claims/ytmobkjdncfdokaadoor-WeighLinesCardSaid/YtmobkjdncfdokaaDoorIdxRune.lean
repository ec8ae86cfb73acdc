/- The walk of strings.IndexRune over the text of the two signs, at every rune that a decoder gives. -/
import Derived.Test.YtmobkjdncfdokaaDoorTabW
import Derived.Test.YtmobkjdncfdokaaDoorPlain
import Derived.Laws.Runes
import Derived.Laws.RangeString
import Derived.Laws.Strings3
import Derived.WalkKit
import Derived.WalkSpells
import Derived.WalkLawsBesides
import Derived.WalkMore
import Derived.Scope
import Derived.RegionTactic
import Derived.BigRegion
import Derived.Deep.QuietTactic
import Derived.BigQuiet
import Derived.Deep.RegionWith
import Derived.Deep.LoopGhost
import Derived.Lib.TrimU
import Derived.Lib.Hide
namespace Go.Proofs.YtmobkjdncfdokaaDoor
open Go.RowKit

theorem flipW {P : Program} {f : FuncId} {args : Array Value} {w : World} {v : Ending} (h : Calls P f args w fun e w' => e = v ∧ w' = w) : Calls P f args w fun e w' => e = v ∧ w = w' :=
  h.mono fun _ _ h => ⟨h.1, h.2.symm⟩

/-- The two signs. -/
abbrev signsB : ByteArray := ⟨#[43, 45]⟩

/-- Is a rune one of them? -/
def isSign (r : Nat) : Bool := r == 43 || r == 45

theorem index_signs (r : Nat) (h : r < 128) : (0 ≤ Lib.indexByte signsB.data.toList ((r : Int)).toNat.toUInt8 ↔ isSign r = true) := by
  have all : ∀ k : Fin 128, (decide (0 ≤ Lib.indexByte signsB.data.toList ((k.val : Int)).toNat.toUInt8)) = isSign k.val := by decide +kernel
  have := all ⟨r, h⟩
  simp only at this
  rw [← this]
  simp

/-- What is asked of an index: not below 0 just where the rune is a sign. -/
def IdxPost (w : World) (r : Nat) (e : Ending) (w' : World) : Prop := (∃ v : Int, e = .returned (.int .i64 v) ∧ (0 ≤ v ↔ isSign r = true)) ∧ Below w.heap.size w w'

set_option maxRecDepth 100000 in
set_option maxHeartbeats 8000000 in
theorem idxRune_any (r : Nat) (hr : r ≤ 1114111) (w : World) :
    Calls Tryd.prog 27 #[.string signsB, .int .i32 r] w (IdxPost w r) := by
  by_cases h128 : r < 128
  · refine (Tryd.strings_IndexRune_ascii signsB r w (by omega) (by omega)).mono ?_
    rintro e w' ⟨rfl, rfl⟩
    exact ⟨⟨_, rfl, index_signs r h128⟩, Below.refl _ _⟩
  have hns : isSign r = false := by unfold isSign; simp; omega
  have fin : ∀ (w' : World), Below w.heap.size w w' → IdxPost w r (.returned (.int .i64 (-1))) w' := fun w' hb => ⟨⟨-1, rfl, by rw [hns]; simp⟩, hb⟩
  have HF := Lib.hid fin
  have g1 : ¬ ((r : Int) < 128) := by omega
  have g0 : (0 : Int) ≤ (r : Int) := by omega
  clear fin hns
  by_cases he : r = 65533
  · subst he
    clear g1 g0 h128 hr
    go_enter Tryd.func27, Tryd.ntmps27
    go_wp2
    go_loopg [5, 6] 2 (fun g _ _ wx => ∃ i : Nat, i + g = 2 ∧ wx = w.iter signsB i)
    case atStart => exact ⟨0, by omega, rfl⟩
    case round =>
      obtain ⟨i, hig, rfl⟩ := hrel
      cases gk with
      | zero =>
        obtain rfl : i = 2 := by omega
        have hnx := fun ty => run_next_end (P := Tryd.prog) w signsB 2 ty (by decide)
        go_wp2
        go_ret
        refine HF.out _ ?_
        exact (Below.refl _ _).alloc (Nat.le_refl _) _
      | succ g =>
        have hi : i < signsB.size := by show i < 2; omega
        have hb : (signsB[i]'hi).toNat = 43 ∨ (signsB[i]'hi).toNat = 45 := by
          have : i = 0 ∨ i = 1 := by omega
          rcases this with rfl | rfl
          · left; rfl
          · right; rfl
        have hnx := fun ty => run_next_ascii (P := Tryd.prog) w signsB i ty hi (by omega)
        rcases hb with hb | hb
        all_goals
          rw [hb] at hnx
          go_wp2
          go_roundg g
          case rel => exact ⟨i + 1, by omega, rfl⟩
          case measure => omega
  · have he' : ((r : Int) == 65533) = false := by simp; omega
    have VR := fun w => flipW (Tryd.utf8_ValidRune (r : Int) w)
    have hvr := validRune_eq (r : Int)
    by_cases hv : Lib.validRune (r : Int) = true
    · have hv' : Utf8.valid (r : Int) = true := by rw [hvr]; exact hv
      obtain ⟨e1, e2, e3⟩ := encode_facts (r : Int) hv' (by omega)
      obtain ⟨E, hE⟩ : ∃ E, E = Utf8.encode (r : Int) := ⟨_, rfl⟩
      rw [← hE] at e1 e2 e3
      have HE := Lib.hid hE
      have hl := e3 (by omega)
      clear e3 hv' hvr hE
      rw [hv] at VR
      clear hv
      have hrs : ∀ w', (convert 21 9 (.int .i32 (r : Int))).run Tryd.prog w' = .ok (.string E) w' := fun w' => by
        rw [HE.out]; exact run_convert_int_string w' 21 9 .i32 (r : Int) (by rw [Tryd.underlying21]; rfl) Tryd.underlying9
      by_cases h2 : E.size = 2
      · have z2 : (E.size : Int) = 2 := by omega
        go_enter Tryd.func27, Tryd.ntmps27
        go_wp2_with ((go_at_call 44; refine (VR _).mono ?_; rintro e w' ⟨rfl, rfl⟩))
        go_step3
        go_wp2
        go_loopw [9, 10] (fun x y wr => x = .int .i64 1 ∧ y = .int .i64 0 ∧ wr = w) (fun _ _ _ => 0)
        case atStart => exact ⟨rfl, rfl, rfl⟩
        case round =>
          obtain ⟨rfl, rfl, rfl⟩ := hrel
          have hl1 : 128 ≤ (E[1]'(by omega)).toNat := by
            have : ∀ k (hk : k < E.size), k = 1 → 128 ≤ (E[E.size - 1]'(by omega)).toNat → 128 ≤ (E[k]'hk).toNat := by
              intro k hk h1 h
              have : E.size - 1 = k := by omega
              simpa [this] using h
            exact this 1 (by omega) rfl hl
          obtain ⟨c, hc⟩ : ∃ c : Nat, (E[1]'(by omega)).toNat = c := ⟨_, rfl⟩
          have hc2 : 128 ≤ c := by omega
          have hs1 : (signsB[1]'(by decide)).toNat = 45 := rfl
          have hne : ((45 : Int) != (c : Int)) = true := by simp; omega
          have IB := fun w c => flipW (Tryd.strings_IndexByte ByteArray.empty c w)
          go_wp2
          go_step3
          go_wp2
          go_region
          go_wp2
          go_region_with ((go_at_call 43; refine (IB _ _).mono ?_; rintro e w' ⟨rfl, rfl⟩))
          all_goals
            go_wp2
            rw [Exit.noGoto_ret]
            simp only [Exit.inBlock]
            refine bodyPost_ret (results_tmp rfl _ _ _) rfl ?_
            exact HF.out _ ((Below.refl _ _).drew.drew)
      · have z2 : ¬ ((E.size : Int) - 1 < 2) := by omega
        go_enter Tryd.func27, Tryd.ntmps27
        go_wp2_with ((go_at_call 44; refine (VR _).mono ?_; rintro e w' ⟨rfl, rfl⟩))
        go_step3
        go_wp2
        go_loopw [9, 10] (fun x y wr => x = .int .i64 ((E.size : Int) - 1) ∧ y = .int .i64 0 ∧ wr = w) (fun _ _ _ => 0)
        case atStart => exact ⟨rfl, rfl, rfl⟩
        case round =>
          obtain ⟨rfl, rfl, rfl⟩ := hrel
          go_wp2
          rw [Exit.noGoto_ret]
          simp only [Exit.inBlock]
          go_ret
          exact HF.out _ (Below.refl _ _)
    · have hv' : Lib.validRune (r : Int) = false := by simpa using hv
      rw [hv'] at VR
      clear hv hv' hvr
      go_enter Tryd.func27, Tryd.ntmps27
      go_wp2_with ((go_at_call 44; refine (VR _).mono ?_; rintro e w' ⟨rfl, rfl⟩))
      go_ret
      exact HF.out _ (Below.refl _ _)

end Go.Proofs.YtmobkjdncfdokaaDoor
