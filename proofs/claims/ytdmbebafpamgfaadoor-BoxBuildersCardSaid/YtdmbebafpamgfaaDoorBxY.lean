/- The landed boxes' New; a builder that is nil; the contracts by their names. -/
import Derived.Test.YtdmbebafpamgfaaDoorBxCj
import Derived.Test.YtdmbebafpamgfaaDoorBxP
namespace Go.Proofs.YtdmbebafpamgfaaDoor
open Go.RowKit

theorem bdOk (B g id S M : Nat) (hid : idOk id) (hS : S ≤ 256) (hM : M ≤ 65536) : BdOk B (.pointer (some ⟨g, 0, none⟩)) id S M (BdP B g id S M) where
  above := by
    rintro L Bs w ⟨tv, hBs, h⟩ k hk
    rcases (hBs k).1 hk with e | e
    · rw [e]; exact ⟨h.base, h.gsize⟩
    · have := h.own.lt k e
      have := h.base
      omega
  stay := by
    rintro L Bs w w' ⟨tv, hBs, h⟩ _ hk
    exact ⟨tv, hBs, h.stay (fun k e => hk k ((hBs k).2 e))⟩
  add := by
    rintro L Bs w c ⟨tv, hBs, h⟩ hc
    exact badd_any h hS hM Bs hBs c hc
  len := by
    rintro L Bs w ⟨tv, _, h⟩
    exact blen_any h
  chunk := by
    rintro L Bs w k ⟨tv, _, h⟩ _
    exact bchunk_any h k
  shut := by
    rintro L Bs w ⟨tv, _, h⟩ hT
    exact bshut_any h hid hS hM hT

def BNewPost (id : Nat) (slots bytes : Int) (w : World) (e : Ending) (w' : World) : Prop := Kept w w' ∧
    ((¬ newOk id slots bytes ∧ e = .returned (.tuple #[.pointer none, .int .i64 1])) ∨
     (newOk id slots bytes ∧ ∃ ad P Bs, e = .returned (.tuple #[.pointer (some ad), .int .i64 0]) ∧ BdOk w.heap.size (.pointer (some ad)) id slots.toNat bytes.toNat P ∧ P [] Bs w'))

set_option maxRecDepth 100000 in
set_option maxHeartbeats 8000000 in
theorem bnew_any (id : Nat) (slots bytes : Int) (w : World) (hid : id < 4294967296) :
    Calls Tryd.prog 24 #[.int .u32 (id : Nat), .int .i64 slots, .int .i64 bytes] w (BNewPost id slots bytes w) := by
  have CV := validID_any id hid w
  by_cases hi : idOk id
  · rw [decide_eq_true hi] at CV
    by_cases h1 : slots < 1
    · have HN : Hid (∀ w', Kept w w' → BNewPost id slots bytes w (.returned (.tuple #[.pointer none, .int .i64 1])) w') := Lib.hid (fun w' k => ⟨k, Or.inl ⟨fun x => by have := x.2.1.1; omega, rfl⟩⟩)
      have b1 : decide (slots < 1) = true := decide_eq_true h1
      clear hid hi h1
      go_enter Tryd.func24, Tryd.ntmps24
      go_wp2_with fail
      refine CV.mono ?_
      rintro e w1 ⟨rfl, hb1⟩
      have HK := Lib.hid hb1
      clear hb1 CV
      go_wp2
      first | go_ret | go_ret2
      exact HN.out _ HK.out
    · have b1 : decide (slots < 1) = false := decide_eq_false h1
      by_cases h2 : slots > 256
      · have HN : Hid (∀ w', Kept w w' → BNewPost id slots bytes w (.returned (.tuple #[.pointer none, .int .i64 1])) w') := Lib.hid (fun w' k => ⟨k, Or.inl ⟨fun x => by have := x.2.1.2; omega, rfl⟩⟩)
        have b2 : decide (slots > 256) = true := decide_eq_true h2
        clear hid hi h1 h2
        go_enter Tryd.func24, Tryd.ntmps24
        go_wp2_with fail
        refine CV.mono ?_
        rintro e w1 ⟨rfl, hb1⟩
        have HK := Lib.hid hb1
        clear hb1 CV
        go_wp2
        first | go_ret | go_ret2
        exact HN.out _ HK.out
      · have b2 : decide (slots > 256) = false := decide_eq_false h2
        by_cases h3 : bytes < 1
        · have HN : Hid (∀ w', Kept w w' → BNewPost id slots bytes w (.returned (.tuple #[.pointer none, .int .i64 1])) w') := Lib.hid (fun w' k => ⟨k, Or.inl ⟨fun x => by have := x.2.2.1; omega, rfl⟩⟩)
          have b3 : decide (bytes < 1) = true := decide_eq_true h3
          clear hid hi h1 h2 h3
          go_enter Tryd.func24, Tryd.ntmps24
          go_wp2_with fail
          refine CV.mono ?_
          rintro e w1 ⟨rfl, hb1⟩
          have HK := Lib.hid hb1
          clear hb1 CV
          go_wp2
          first | go_ret | go_ret2
          exact HN.out _ HK.out
        · have b3 : decide (bytes < 1) = false := decide_eq_false h3
          by_cases h4 : bytes > 65536
          · have HN : Hid (∀ w', Kept w w' → BNewPost id slots bytes w (.returned (.tuple #[.pointer none, .int .i64 1])) w') := Lib.hid (fun w' k => ⟨k, Or.inl ⟨fun x => by have := x.2.2.2; omega, rfl⟩⟩)
            have b4 : decide (bytes > 65536) = true := decide_eq_true h4
            clear hid hi h1 h2 h3 h4
            go_enter Tryd.func24, Tryd.ntmps24
            go_wp2_with fail
            refine CV.mono ?_
            rintro e w1 ⟨rfl, hb1⟩
            have HK := Lib.hid hb1
            clear hb1 CV
            go_wp2
            first | go_ret | go_ret2
            exact HN.out _ HK.out
          · have b4 : decide (bytes > 65536) = false := decide_eq_false h4
            obtain ⟨S, rfl⟩ : ∃ S : Nat, slots = S := ⟨slots.toNat, by omega⟩
            obtain ⟨M, rfl⟩ : ∃ M : Nat, bytes = M := ⟨bytes.toNat, by omega⟩
            have HY : Hid (∀ (w1 w' : World), Kept w w1 → Kept w1 w' → w'.heap[w1.heap.size]? = some (.cells #[.pointer (some ⟨w1.heap.size, 0, none⟩), .int .i64 0, .int .i64 0, .int .i64 (S : Nat), .int .i64 (M : Nat), .int .u32 (id : Nat), .slice none 0 0] 92 (0, 0)) →
                BNewPost id (S : Nat) (M : Nat) w (.returned (.tuple #[.pointer (some ⟨w1.heap.size, 0, none⟩), .int .i64 0])) w') := Lib.hid (fun w1 w' k k2 hr => by
              refine ⟨k.then k2, Or.inr ⟨⟨hi, ⟨by omega, by omega⟩, by omega, by omega⟩, ⟨w1.heap.size, 0, none⟩, BdP w.heap.size w1.heap.size id S M, (fun m => m = w1.heap.size), rfl, ?_, ?_⟩⟩
              · have := bdOk w.heap.size w1.heap.size id S M hi (by omega) (by omega)
                rw [Int.toNat_natCast, Int.toNat_natCast]
                exact this
              · refine ⟨.slice none 0 0, fun m => ⟨fun e => Or.inl e, fun e => ?_⟩, k.size, hr, World.ownsRow_nil _ _ _ _, ⟨fun x hx => (by cases hx), Nat.zero_le _, Nat.zero_le _⟩⟩
                rcases e with e | e
                · exact e
                · cases e)
            clear hid hi h1 h2 h3 h4
            go_enter Tryd.func24, Tryd.ntmps24
            go_wp2_with fail
            refine CV.mono ?_
            rintro e w1 ⟨rfl, hb1⟩
            have HK := Lib.hid hb1
            clear hb1 CV
            go_wp2
            first | go_ret | go_ret2
            refine HY.out w1 _ HK.out ?_ ?_
            · first | exact box_below _ _ | exact (box_below _ _).setCell (Nat.le_refl _) _
            · first | exact heap_alloc_last w1 _ | exact heap_setCell_same _ _ _ _ _ _ (heap_alloc_last w1 _)
  · rw [decide_eq_false hi] at CV
    have HN : Hid (∀ w', Kept w w' → BNewPost id slots bytes w (.returned (.tuple #[.pointer none, .int .i64 1])) w') := Lib.hid (fun w' k => ⟨k, Or.inl ⟨fun x => hi x.1, rfl⟩⟩)
    clear hid hi
    go_enter Tryd.func24, Tryd.ntmps24
    go_wp2_with fail
    refine CV.mono ?_
    rintro e w1 ⟨rfl, hb1⟩
    have HK := Lib.hid hb1
    clear hb1 CV
    go_wp2
    first | go_ret | go_ret2
    exact HN.out _ HK.out
theorem newOkB : BNewOk := fun id slots bytes w hid _ _ => bnew_any id slots bytes w hid

/-! ### A builder that is nil -/
set_option maxRecDepth 100000 in
theorem bmade_nil (w : World) : Calls Tryd.prog 51 #[.pointer none] w fun e w' => e = .returned (.bool false) ∧ w = w' := by
  obtain ⟨ti, hti⟩ : ∃ ti, Tryd.prog.info? 92 = some ti := ⟨_, rfl⟩
  clear hti
  go_enter Tryd.func51, Tryd.ntmps51
  go_wp2
  go_ret
  exact ⟨rfl, rfl⟩
theorem nilOkB : BdNil where
  add := by
    intro c w _
    have CM := bmade_nil w
    go_enter Tryd.func26, Tryd.ntmps26
    go_wp2_with fail
    refine CM.mono ?_
    rintro e w1 ⟨rfl, rfl⟩
    clear CM
    go_wp2
    first | go_ret | go_ret2
    exact ⟨rfl, Kept.refl _⟩
  len := by
    intro w
    have CM := bmade_nil w
    go_enter Tryd.func28, Tryd.ntmps28
    go_wp2_with fail
    refine CM.mono ?_
    rintro e w1 ⟨rfl, rfl⟩
    clear CM
    go_wp2
    go_ret
    exact ⟨rfl, Kept.refl _⟩
  chunk := by
    intro k w _
    have CM := bmade_nil w
    go_enter Tryd.func30, Tryd.ntmps30
    go_wp2_with fail
    refine CM.mono ?_
    rintro e w1 ⟨rfl, rfl⟩
    clear CM
    go_wp2
    first | go_ret | go_ret2
    exact ⟨rfl, Kept.refl _⟩
  shut := by
    intro w
    have CM := bmade_nil w
    go_enter Tryd.func29, Tryd.ntmps29
    go_wp2_with fail
    refine CM.mono ?_
    rintro e w1 ⟨rfl, rfl⟩
    clear CM
    go_wp2
    first | go_ret | go_ret2
    exact ⟨rfl, Kept.refl _⟩

end Go.Proofs.YtdmbebafpamgfaaDoor
