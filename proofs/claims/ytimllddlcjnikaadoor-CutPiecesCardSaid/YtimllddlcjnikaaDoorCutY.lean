/- The builder's text; made, Left, keep. -/
import Derived.Test.YtimllddlcjnikaaDoorCutX
namespace Go.Proofs.YtimllddlcjnikaaDoor
open Go.RowKit

theorem KeptBut.drew (xb : Nat) (w : World) : KeptBut xb w w.drew := ⟨rfl, rfl, rfl, Nat.le_refl _, fun _ _ _ _ => rfl⟩

theorem freeze_other (w : World) (g n k : Nat) (h : k ≠ g) : (w.freeze ⟨g, 0, none⟩ n).heap[k]? = w.heap[k]? := by
  unfold World.freeze
  split
  · rfl
  · simp only [Array.getElem?_modify]
    rw [if_neg (fun e => h e.symm)]

theorem freeze_size (w : World) (g n : Nat) : (w.freeze ⟨g, 0, none⟩ n).heap.size = w.heap.size := by
  unfold World.freeze
  split
  · rfl
  · simp

theorem freeze_os (w : World) (g n : Nat) : (w.freeze ⟨g, 0, none⟩ n).os = w.os ∧ (w.freeze ⟨g, 0, none⟩ n).tape = w.tape ∧ (w.freeze ⟨g, 0, none⟩ n).output = w.output := by
  unfold World.freeze
  split <;> exact ⟨rfl, rfl, rfl⟩

theorem KeptBut.freeze {xb : Nat} {w : World} {g n : Nat} {cur : Array Value} {fz : Nat × Nat} (hg : w.heap[g]? = some (.cells cur 5 fz)) : KeptBut xb w (w.freeze ⟨g, 0, none⟩ n) :=
  ⟨(freeze_os w g n).1, (freeze_os w g n).2.1, (freeze_os w g n).2.2, by rw [freeze_size]; exact Nat.le_refl _, fun k hk hne hb => freeze_other w g n k (fun e => hb cur fz (by rw [e]; exact hg))⟩

theorem own_frozen {w : World} {B g cap m : Nat} {xs : List Value} (hown : w.ownsRowF B 5 1 (.slice (some ⟨g, 0, none⟩) m cap) m xs) (n : Nat) (hn : n ≤ m) : (w.freeze ⟨g, 0, none⟩ n).ownsRowF B 5 1 (.slice (some ⟨g, 0, none⟩) m cap) m xs := by
  refine ⟨hown.1, ?_⟩
  rcases hown.2 with ⟨hv, _⟩ | ⟨g', cap', cur, fz, hv, hbg, hg, hfz, rest⟩
  · cases hv
  · injection hv with ha _ hcap
    injection ha with ha
    injection ha with hgg _ _
    subst hgg
    subst hcap
    unfold World.freeze
    split
    · exact .inr ⟨g, _, cur, fz, rfl, hbg, hg, hfz, rest⟩
    · obtain ⟨lo, hi⟩ := fz
      refine .inr ⟨g, _, cur, (if lo == hi then (0, 0 + n) else (min lo 0, max hi (0 + n))), rfl, hbg, ?_, ?_, rest⟩
      · simp [Array.getElem?_modify, hg]
      · simp only at hfz
        split <;> simp <;> omega

set_option maxHeartbeats 2000000 in
set_option maxRecDepth 100000 in
theorem bstr_any (B xb : Nat) (C : Array Value) (n fr h k : Nat) (l : List UInt8) (hl : l.length ≤ 1000000) (w : World) (hBw : B ≤ w.heap.size) (hc : CutAt B xb C n fr h k l w) :
    Calls Tryd.prog 34 #[.pointer (some ⟨xb, 1, none⟩)] w fun e w' => e = .returned (.string (str l)) ∧ CutAt B xb C n fr h k l w' ∧ Below B w w' ∧ KeptBut xb w w' := by
  have hUN := fun W q => Lib.run_unsafeString_none (P := Tryd.prog) W 69 3 9 q
  have hlt := hc.lt
  obtain ⟨hB, R, p, v, hg, hr, hp, hown, hne⟩ := hc
  have hcellB : Tryd.prog.cellsOf 5 = 1 := by kernel_rfl
  by_cases h0 : l = []
  · subst h0
    rcases hown.2 with ⟨rfl, _⟩ | ⟨g, cap, cur, fz, rfl, hbg, hgg, hfz, hnc, hcm, hcs, htake⟩
    · have c2 : w.drew.cell? ⟨xb, 2, none⟩ = some (.slice none 0 0) := (cell_of_row w.drew _ _ _ _ _ hg).trans hr.r2
      have hSD : (Builtin.unsafeSliceData_ #[56] 69 #[.slice none 0 0]).run Tryd.prog w.drew = .ok (.pointer none) w.drew := rfl
      have hC : CutAt B xb C n fr h k [] w.drew := ⟨hB, R, p, _, hg, hr, hp, hown, hne⟩
      have HC := Lib.hid hC
      clear hg hr hp hown hne hC hcellB
      go_enter Tryd.func34, Tryd.ntmps34
      go_wp2
      go_region
      all_goals (go_wp2; go_ret; exact ⟨rfl, HC.out, Below.drew ((Below.refl _ _).mono hBw), KeptBut.drew _ _⟩)
    · by_cases hc0 : cap = 0
      · subst hc0
        have c2 : w.drew.cell? ⟨xb, 2, none⟩ = some (.slice (some ⟨g, 0, none⟩) 0 0) := (cell_of_row w.drew _ _ _ _ _ hg).trans hr.r2
        have hSD : (Builtin.unsafeSliceData_ #[56] 69 #[.slice (some ⟨g, 0, none⟩) 0 0]).run Tryd.prog w.drew = .ok (.pointer (some ⟨w.drew.heap.size, 0, none⟩)) (w.drew.alloc (.view ⟨g, 0, none⟩ 5)) :=
          Lib.run_unsafeSliceData_zero w.drew _ _ 5 Tryd.underlying69 ⟨g, 0, none⟩ 0 (5, cur.size) (by have hg' : w.drew.heap[g]? = some (.cells cur 5 fz) := hgg; simp [World.shape?, hg'])
        have d2 : (w.alloc (.view ⟨g, 0, none⟩ 5)).drew.cell? ⟨xb, 2, none⟩ = some (.slice (some ⟨g, 0, none⟩) 0 0) := (cell_of_row (w.alloc (.view ⟨g, 0, none⟩ 5)).drew _ _ _ _ _ ((heap_alloc_old w _ hlt).trans hg)).trans hr.r2
        have hC : CutAt B xb C n fr h k [] (w.alloc (.view ⟨g, 0, none⟩ 5)) := CutAt.later ⟨hB, R, p, _, hg, hr, hp, hown, hne⟩ (box_below _ _)
        have HC := Lib.hid hC
        clear hg hr hp hown hne hC hcellB hgg hfz hnc hcm hcs htake
        go_enter Tryd.func34, Tryd.ntmps34
        go_wp2
        go_region
        all_goals (go_wp2; go_ret; exact ⟨rfl, HC.out, (((Below.refl _ _).mono hBw).drew).alloc hBw _, (KeptBut.drew _ _).trans (KeptBut.below (box_below _ _))⟩)
      · have c2 : w.drew.cell? ⟨xb, 2, none⟩ = some (.slice (some ⟨g, 0, none⟩) 0 cap) := (cell_of_row w.drew _ _ _ _ _ hg).trans hr.r2
        have hSD : (Builtin.unsafeSliceData_ #[56] 69 #[.slice (some ⟨g, 0, none⟩) 0 cap]).run Tryd.prog w.drew = .ok (.pointer (some ⟨g, 0, none⟩)) w.drew := Lib.run_unsafeSliceData_row _ _ _ _ _ _ hc0
        have hC : CutAt B xb C n fr h k [] w.drew := ⟨hB, R, p, _, hg, hr, hp, hown, hne⟩
        have HC := Lib.hid hC
        clear hg hr hp hown hne hC hcellB hgg hfz hnc hcm hcs htake hc0
        go_enter Tryd.func34, Tryd.ntmps34
        go_wp2
        go_region
        all_goals (go_wp2; go_ret; exact ⟨rfl, HC.out, Below.drew ((Below.refl _ _).mono hBw), KeptBut.drew _ _⟩)
  · have hl0 : l.length ≠ 0 := fun e => h0 (List.eq_nil_of_length_eq_zero e)
    rcases hown.2 with ⟨_, hz⟩ | ⟨g, cap, cur, fz, rfl, hbg, hgg, hfz, hnc, hcm, hcs, htake⟩
    · exact absurd hz hl0
    · have c2 : w.drew.cell? ⟨xb, 2, none⟩ = some (.slice (some ⟨g, 0, none⟩) l.length cap) := (cell_of_row w.drew _ _ _ _ _ hg).trans hr.r2
      have hSD : (Builtin.unsafeSliceData_ #[56] 69 #[.slice (some ⟨g, 0, none⟩) l.length cap]).run Tryd.prog w.drew = .ok (.pointer (some ⟨g, 0, none⟩)) w.drew := Lib.run_unsafeSliceData_row _ _ _ _ _ _ (by omega)
      have hUS : (Builtin.unsafeString_ #[69, 3] 9 #[.pointer (some ⟨g, 0, none⟩), .int .i64 l.length]).run Tryd.prog w.drew = .ok (.string (str l)) (w.drew.freeze ⟨g, 0, none⟩ l.length) := by
        refine Lib.run_unsafeString_row w.drew 69 3 9 5 Tryd.underlying69 hcellB g cur.size (by have hg' : w.drew.heap[g]? = some (.cells cur 5 fz) := hgg; simp [World.shape?, hg']) l h0 (by omega) (by omega) ?_
        intro j x hx
        exact hown.cells (g := g) rfl j (.int .u8 x.toNat) (by simp [Lib.byteCells, hx])
      have hgx : g ≠ xb := fun e => hne (by rw [e]; rfl)
      have hC : CutAt B xb C n fr h k l (w.drew.freeze ⟨g, 0, none⟩ l.length) := ⟨hB, R, p, _, by rw [freeze_other _ _ _ _ (fun e => hgx e.symm)]; exact hg, hr, hp, own_frozen (w := w.drew) hown l.length (Nat.le_refl _), hne⟩
      have hK : KeptBut xb w (w.drew.freeze ⟨g, 0, none⟩ l.length) := (KeptBut.drew _ _).trans (KeptBut.freeze (w := w.drew) hgg)
      have HC := Lib.hid hC
      have HK := Lib.hid hK
      clear hg hr hp hown hne hC hK hcellB hgg hfz hnc hcm hcs htake hl0 h0
      go_enter Tryd.func34, Tryd.ntmps34
      go_wp2
      go_region
      all_goals (go_wp2; go_ret; exact ⟨rfl, HC.out, Lib.below_freeze (Below.drew ((Below.refl _ _).mono hBw)) (p := ⟨g, 0, none⟩) hbg _, HK.out⟩)

theorem info_cutter : (Tryd.prog.info? 60).map (·.size) = some 20 := by kernel_rfl

theorem made_yes (B xb : Nat) (C : Array Value) (n fr h k : Nat) (l : List UInt8) (w : World) (hc : CutAt B xb C n fr h k l w) :
    Calls Tryd.prog 32 #[.pointer (some ⟨xb, 0, none⟩)] w fun e w' => e = .returned (.bool true) ∧ w = w' := by
  obtain ⟨hB, R, p, v, hg, hr, _⟩ := hc
  have c0 : w.cell? ⟨xb, 0, none⟩ = some (.pointer (some ⟨xb, 0, none⟩)) := (cell_of_row _ _ _ _ _ _ hg).trans hr.r0
  obtain ⟨ti, hti, _⟩ := Option.map_eq_some_iff.1 info_cutter
  have heq := fun w' => run_eql_ptr_same (P := Tryd.prog) w' (⟨xb, 0, none⟩ : Addr) Tryd.underlying34 hti
  clear hg hr hti
  go_enter Tryd.func32, Tryd.ntmps32
  go_wp2
  go_ret
  exact ⟨rfl, rfl⟩

theorem left_any (B xb : Nat) (C : Array Value) (n fr h k : Nat) (l : List UInt8) (w : World) (hc : CutAt B xb C n fr h k l w) :
    Calls Tryd.prog 21 #[.pointer (some ⟨xb, 0, none⟩)] w fun e w' => e = .returned (.int .i64 l.length) ∧ w = w' := by
  have MD := made_yes B xb C n fr h k l w hc
  have LE := blen_any B xb C n fr h k l w hc
  clear hc
  go_enter Tryd.func21, Tryd.ntmps21
  go_wp2_with fail
  refine MD.mono ?_
  rintro e w' ⟨rfl, rfl⟩
  go_wp2_with fail
  refine LE.mono ?_
  rintro e w' ⟨rfl, rfl⟩
  go_wp2
  go_ret
  exact ⟨rfl, rfl⟩

theorem keep_any (B xb : Nat) (C : Array Value) (n fr h k : Nat) (l : List UInt8) (s : ByteArray) (hs : s.size ≤ 1000000) (w : World) (hBw : B ≤ w.heap.size) (hc : CutAt B xb C n fr h k l w) :
    Calls Tryd.prog 35 #[.pointer (some ⟨xb, 0, none⟩), .string s] w fun e w' => e = .returned (.tuple #[]) ∧ CutAt B xb C n fr h k s.data.toList w' ∧ Below B w w' ∧ KeptBut xb w w' := by
  have RE := breset_any B xb C n fr h k l w hBw hc
  have WS := fun w' hB' h' => wstr_any B xb C n fr h k [] s w' (by simpa using hs) hB' h'
  clear hc
  go_enter Tryd.func35, Tryd.ntmps35
  go_wp2_with fail
  refine RE.mono ?_
  rintro e w1 ⟨rfl, hC1, hK1, hG1⟩
  go_wp2_with fail
  refine (WS _ (Nat.le_trans hBw hG1.size) hC1).mono ?_
  rintro e w2 ⟨rfl, hC2, hK2, hKB2⟩
  go_wp2
  go_end0
  exact ⟨rfl, hC2, hK1.trans hK2, (KeptBut.grown hG1).trans hKB2⟩

end Go.Proofs.YtimllddlcjnikaaDoor
