/- What the landed extent sorts by: cmp.Compare, the closure; Clone. -/
import Derived.Test.YtppbknlhknadbaaEcA
import Derived.Shelf.SlSortCmp.InsertionK
namespace Go.Proofs.Ytppbknlhknadbaa
open Go.RowKit Go.Sort

/-- A run's two cells. -/
def encR (x : Int × Int) : List Value := [.int .i64 x.1, .int .i64 x.2]
def cmpI (x y : Int) : Int := if x < y then -1 else if x > y then 1 else 0
def cmpR (x y : Int × Int) : Int := cmpI x.1 y.1
theorem ltR (x y : Int × Int) : ltOf cmpR x y = decide (x.1 < y.1) := by
  unfold ltOf cmpR cmpI
  by_cases h1 : x.1 < y.1
  · rw [if_pos h1]; exact (decide_eq_true (by omega)).trans (decide_eq_true h1).symm
  · rw [if_neg h1, decide_eq_false h1]; split <;> exact decide_eq_false (by omega)
theorem swoR : SWO (ltOf cmpR) where
  irrefl x := by rw [ltR]; simp
  trans x y z h1 h2 := by rw [ltR] at *; simp at *; omega
  ntrans x y z h1 h2 := by rw [ltR] at *; simp at *; omega

set_option maxRecDepth 100000 in
set_option maxHeartbeats 1000000 in
theorem isNaN_any (x : Int) (w : World) : Calls Try.prog 81 #[.int .i64 x] w fun e w' => e = .returned (.bool false) ∧ w = w' := by
  go_enter Try.func81, Try.ntmps81
  go_wp2
  go_ret
  exact ⟨by simp, rfl⟩

set_option maxRecDepth 100000 in
set_option maxHeartbeats 1000000 in
theorem compare_any (x y : Int) (w : World) : Calls Try.prog 76 #[.int .i64 x, .int .i64 y] w fun e w' => e = .returned (.int .i64 (cmpI x y)) ∧ w = w' := by
  obtain ⟨r, hr⟩ : ∃ r, r = cmpI x y := ⟨_, rfl⟩
  rw [← hr]
  unfold cmpI at hr
  have N := fun z W => isNaN_any z W
  by_cases h1 : x < y
  · rw [if_pos h1] at hr
    subst hr
    have b1 : decide (x < y) = true := decide_eq_true h1
    go_enter Try.func76, Try.ntmps76
    go_wp2_with (first | (refine (N _ _).mono ?_; rintro e w' ⟨rfl, rfl⟩))
    go_ret
    exact ⟨rfl, rfl⟩
  · by_cases h2 : x > y
    · rw [if_neg h1, if_pos h2] at hr
      subst hr
      go_enter Try.func76, Try.ntmps76
      go_wp2_with (first | (refine (N _ _).mono ?_; rintro e w' ⟨rfl, rfl⟩))
      go_ret
      exact ⟨rfl, rfl⟩
    · rw [if_neg h1, if_neg h2] at hr
      subst hr
      go_enter Try.func76, Try.ntmps76
      go_wp2_with (first | (refine (N _ _).mono ?_; rintro e w' ⟨rfl, rfl⟩))
      go_ret
      exact ⟨rfl, rfl⟩

set_option maxRecDepth 100000 in
set_option maxHeartbeats 1000000 in
theorem ordCmp_any (x y : Int × Int) (w : World) : Calls Try.prog 75 #[.agg #[.int .i64 x.1, .int .i64 x.2], .agg #[.int .i64 y.1, .int .i64 y.2]] w fun e w' => e = .returned (.int .i64 (cmpR x y)) ∧ ∃ q os', w' = grow (w.drewN q) os' := by
  have C := fun W => compare_any x.1 y.1 W
  change ∀ W, Calls Try.prog 76 _ W fun e w' => e = .returned (.int .i64 (cmpR x y)) ∧ W = w' at C
  generalize cmpR x y = r at C ⊢
  go_enter Try.func75, Try.ntmps75
  go_wp2_with (first | (refine (C _).mono ?_; rintro e w' ⟨rfl, rfl⟩))
  go_ret
  exact ⟨rfl, 0, _, by rw [alloc_eq_grow, alloc_eq_grow, grow_grow]; rfl⟩

set_option maxRecDepth 100000 in
set_option maxHeartbeats 1000000 in
theorem rclone_some (a : Addr) (c : Nat) (l : List (Int × Int)) (hs : l.length ≤ 1048576) (w : World) (h : RunsAt l (.slice (some a) l.length c) w) :
    Calls Try.prog 57 #[.slice (some a) l.length c] w fun e w' => ∃ v', e = .returned v' ∧ OwnRuns w.heap.size l v' w' ∧ Below w.heap.size w w' := by
  obtain ⟨ir, hir, hx⟩ := Option.map_eq_some_iff.1 infoRun
  simp only [Prod.mk.injEq] at hx
  obtain ⟨hz0, hz1, hz2⟩ := hx
  have HIR := Lib.hid hir
  have HZ0 := Lib.hid hz0
  have HZ1 := Lib.hid hz1
  have HZ2 := Lib.hid hz2
  have q22 : ∀ (w : World) (a : Option Addr) (n c n' c' : Nat), (binOp .eql 22 (.slice a n c) (.slice none n' c')).run Try.prog w = .ok (.bool a.isNone) w := fun w a n c n' c' => Lib.run_eql_slice_nil w _ _ a n c n' c' Try.underlying22
  have HF : Hid (FlatAt 2 l.length (runC l) (.slice (some a) l.length c) (w.alloc (.cells #[] 66))) := Lib.hid (h.at_.later (box_below w _))
  have HK1 := Lib.hid (box_below w (.cells #[] 66))
  obtain ⟨n, hn⟩ : ∃ n, n = l.length := ⟨_, rfl⟩
  have HN := Lib.hid hn
  rw [← hn] at hs HF ⊢
  clear hn h hir hz0 hz1 hz2
  go_enter Try.func57, Try.ntmps57
  go_wp2_with (at_builtin; refine wpList_append_flat rfl _ _ 22 rfl w.heap.size 66 ir (.agg #[.int .i64 0, .int .i64 0]) 2 16 Try.underlying22 HIR.out HZ0.out HZ1.out HZ2.out rfl (by decide) _ _ _ rfl (World.ownsRow_made w #[] 0 (Nat.le_refl _) (Nat.zero_le _) (by simp)) _ n (runC l) rfl HF.out ?wa1 ?wa2 ?wa3 ?_)
  case wa1 => unfold maxLen; omega
  case wa2 => omega
  try case wa3 => simp
  intro v1 w1 hown1 hgr1 _
  have K2 : Kept w w1 := Below.grown (show Kept w _ from HK1.out) hgr1 (by simp) (fun j hj => by
    have h2 : (Value.slice (some ⟨w.heap.size, 0, none⟩) 0 0).ownBlock = some j := hj
    have h3 := Option.some.inj h2
    exact Nat.le_of_eq h3)
  have HO1 : Hid (w1.ownsRow w.heap.size 66 2 v1 n (runC l)) := Lib.hid (by simpa using hown1)
  clear hown1 hgr1
  go_wp2
  go_ret
  exact ⟨_, rfl, by show w1.ownsRow _ _ _ _ l.length _; rw [← HN.out]; exact HO1.out, K2⟩

set_option maxRecDepth 100000 in
theorem rclone_none (n c : Nat) (w : World) :
    Calls Try.prog 57 #[.slice none n c] w fun e w' => e = .returned (.slice none 0 0) ∧ w = w' := by
  have q22 : ∀ (w : World) (a : Option Addr) (n c n' c' : Nat), (binOp .eql 22 (.slice a n c) (.slice none n' c')).run Try.prog w = .ok (.bool a.isNone) w := fun w a n c n' c' => Lib.run_eql_slice_nil w _ _ a n c n' c' Try.underlying22
  go_enter Try.func57, Try.ntmps57
  go_wp2
  go_ret
  exact ⟨rfl, rfl⟩

/-- slices.Clone of any slice of runs. -/
theorem rclone_any (v : Value) (l : List (Int × Int)) (hs : l.length ≤ 1048576) (w : World) (h : RunsAt l v w) :
    Calls Try.prog 57 #[v] w fun e w' => ∃ v', e = .returned v' ∧ OwnRuns w.heap.size l v' w' ∧ Below w.heap.size w w' := by
  obtain ⟨p, c, rfl, -, hc⟩ := h.out
  cases p with
  | some a => exact rclone_some a c l hs w h
  | none =>
    have h0 : l = [] := by
      rcases hc with h0 | ⟨b, off, h0, _⟩
      · exact List.eq_nil_of_length_eq_zero h0
      · cases h0
    subst h0
    refine (rclone_none _ c w).mono ?_
    rintro e w' ⟨he, rfl⟩
    exact ⟨_, he, World.ownsRow_nil _ _ _ _, Below.refl _ _⟩

end Go.Proofs.Ytppbknlhknadbaa
