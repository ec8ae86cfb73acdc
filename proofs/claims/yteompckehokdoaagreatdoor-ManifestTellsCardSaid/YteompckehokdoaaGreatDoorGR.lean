/- What the landed manifests sort places by: cmp.Compare, cmp.Or, the closure; slices.SortFunc by the library's contract. The landed manifests' Places. The landed manifests' Places: sorted, each once. The landed manifests' Places: the walk. -/
import Derived.Test.YteompckehokdoaaGreatDoorMjP
import Derived.Test.YteompckehokdoaaGreatDoorLay
import Derived.Shelf.SlSortCmp.NoneTotal
import Derived.Test.YteompckehokdoaaGreatDoorGU
import Derived.Laws.MakeOwn
namespace Go.Proofs.YteompckehokdoaaGreatDoor
open Go.RowKit Go.Sort

def cmpZ (x y : Int) : Int := if x < y then -1 else if x > y then 1 else 0
def cmpPl (x y : Pl) : Int := if cmpZ x.1 y.1 ≠ 0 then cmpZ x.1 y.1 else cmpZ x.2 y.2
theorem ltPl (x y : Pl) : ltOf cmpPl x y = ltP x y := by
  rw [Bool.eq_iff_iff, ltP_iff]
  unfold ltOf cmpPl cmpZ
  rw [decide_eq_true_eq]
  repeat' split
  all_goals omega
theorem swoPl : SWO (ltOf cmpPl) where
  irrefl x := by rw [ltPl]; exact ltP_irr x
  trans x y z h1 h2 := by rw [ltPl] at *; exact ltP_trans h1 h2
  ntrans x y z h1 h2 := by
    rw [ltPl] at *
    cases h3 : ltP x z with
    | false => rfl
    | true =>
      by_cases hxy : x = y
      · rw [hxy] at h3; rw [h3] at h2; cases h2
      · have h4 := ltP_tri h1 hxy
        rw [ltP_trans h4 h3] at h2; cases h2

set_option maxRecDepth 100000 in
set_option maxHeartbeats 1000000 in
theorem nan_u32 (x : Int) (w : World) : Calls Tryz.prog 42 #[.int .u32 x] w fun e w' => e = .returned (.bool false) ∧ w = w' := by
  go_enter Tryz.func42, Tryz.ntmps42
  go_wp2
  go_ret
  exact ⟨by simp, rfl⟩
set_option maxRecDepth 100000 in
set_option maxHeartbeats 1000000 in
theorem nan_i64 (x : Int) (w : World) : Calls Tryz.prog 43 #[.int .i64 x] w fun e w' => e = .returned (.bool false) ∧ w = w' := by
  go_enter Tryz.func43, Tryz.ntmps43
  go_wp2
  go_ret
  exact ⟨by simp, rfl⟩
set_option maxRecDepth 100000 in
set_option maxHeartbeats 1000000 in
theorem cmp_u32 (x y : Int) (w : World) (r : Int) (hr : r = cmpZ x y) : Calls Tryz.prog 23 #[.int .u32 x, .int .u32 y] w fun e w' => e = .returned (.int .i64 r) ∧ w' = w := by
  unfold cmpZ at hr
  have N := fun z W => nan_u32 z W
  by_cases h1 : x < y
  · rw [if_pos h1] at hr
    subst hr
    have b1 : decide (x < y) = true := decide_eq_true h1
    go_enter Tryz.func23, Tryz.ntmps23
    go_wp2_with (first | (refine (N _ _).mono ?_; rintro e w' ⟨rfl, rfl⟩))
    go_ret
    exact ⟨rfl, rfl⟩
  · by_cases h2 : x > y
    · rw [if_neg h1, if_pos h2] at hr
      subst hr
      go_enter Tryz.func23, Tryz.ntmps23
      go_wp2_with (first | (refine (N _ _).mono ?_; rintro e w' ⟨rfl, rfl⟩))
      go_ret
      exact ⟨rfl, rfl⟩
    · rw [if_neg h1, if_neg h2] at hr
      subst hr
      go_enter Tryz.func23, Tryz.ntmps23
      go_wp2_with (first | (refine (N _ _).mono ?_; rintro e w' ⟨rfl, rfl⟩))
      go_ret
      exact ⟨rfl, rfl⟩
set_option maxRecDepth 100000 in
set_option maxHeartbeats 1000000 in
theorem cmp_i64 (x y : Int) (w : World) (r : Int) (hr : r = cmpZ x y) : Calls Tryz.prog 24 #[.int .i64 x, .int .i64 y] w fun e w' => e = .returned (.int .i64 r) ∧ w' = w := by
  unfold cmpZ at hr
  have N := fun z W => nan_i64 z W
  by_cases h1 : x < y
  · rw [if_pos h1] at hr
    subst hr
    have b1 : decide (x < y) = true := decide_eq_true h1
    go_enter Tryz.func24, Tryz.ntmps24
    go_wp2_with (first | (refine (N _ _).mono ?_; rintro e w' ⟨rfl, rfl⟩))
    go_ret
    exact ⟨rfl, rfl⟩
  · by_cases h2 : x > y
    · rw [if_neg h1, if_pos h2] at hr
      subst hr
      go_enter Tryz.func24, Tryz.ntmps24
      go_wp2_with (first | (refine (N _ _).mono ?_; rintro e w' ⟨rfl, rfl⟩))
      go_ret
      exact ⟨rfl, rfl⟩
    · rw [if_neg h1, if_neg h2] at hr
      subst hr
      go_enter Tryz.func24, Tryz.ntmps24
      go_wp2_with (first | (refine (N _ _).mono ?_; rintro e w' ⟨rfl, rfl⟩))
      go_ret
      exact ⟨rfl, rfl⟩

set_option maxRecDepth 100000 in
set_option maxHeartbeats 4000000 in
/-- cmp.Or of two numbers. -/
theorem or_two (g : Nat) (x y : Int) (w : World) (h0 : w.cell? ⟨g, 0, none⟩ = some (.int .i64 x)) (h1 : w.cell? ⟨g, 1, none⟩ = some (.int .i64 y)) (r : Int) (hr : r = if x ≠ 0 then x else y) :
    Calls Tryz.prog 22 #[.slice (some ⟨g, 0, none⟩) 2 2] w fun e w' => e = .returned (.int .i64 r) ∧ w' = w := by
  have HR := Lib.hid hr
  clear hr
  go_enter Tryz.func22, Tryz.ntmps22
  go_wp2
  go_loopg [5, 8] 2 (fun gh s z wr => ∃ k : Nat, k + gh = 2 ∧ z = .int .i64 k ∧ wr = w ∧ Hid (1 ≤ k → x = 0) ∧ Hid (2 ≤ k → y = 0))
  case atStart => exact ⟨0, rfl, rfl, rfl, Lib.hid (fun h => by omega), Lib.hid (fun h => by omega)⟩
  case round =>
    obtain ⟨k, hk, rfl, rfl, HX, HY⟩ := hrel
    by_cases k0 : k = 0
    · subst k0
      by_cases hx : x = 0
      · subst hx
        go_wp2
        go_roundg 1
        · exact ⟨1, rfl, by first | rfl | simp, by first | rfl | trivial, Lib.hid (by first | exact fun _ => rfl | trivial | simp), Lib.hid (fun h => by omega)⟩
        · omega
      · have bx : (x != 0) = true := bne_iff_ne.2 hx
        have bx2 : (x == 0) = false := beq_eq_false_iff_ne.2 hx
        obtain rfl : r = x := by rw [HR.out, if_pos hx]
        clear HR HX HY
        go_wp2
        go_ret
        exact ⟨rfl, rfl⟩
    · by_cases k1 : k = 1
      · subst k1
        have hx0 := HX.out (Nat.le_refl _)
        by_cases hy : y = 0
        · subst hy
          go_wp2
          go_roundg 0
          · exact ⟨2, rfl, by first | rfl | simp, by first | rfl | trivial, Lib.hid (fun _ => hx0), Lib.hid (by first | exact fun _ => rfl | trivial | simp)⟩
          · omega
        · have by1 : (y != 0) = true := bne_iff_ne.2 hy
          have by2 : (y == 0) = false := beq_eq_false_iff_ne.2 hy
          obtain rfl : r = y := by rw [HR.out, if_neg (fun h => h hx0)]
          clear HR HX HY hx0
          go_wp2
          go_ret
          exact ⟨rfl, rfl⟩
      · obtain rfl : k = 2 := by omega
        have hx0 := HX.out (by omega)
        have hy0 := HY.out (by omega)
        obtain rfl : r = 0 := by rw [HR.out, if_neg (fun h => h hx0), hy0]
        clear HR HX HY hx0 hy0
        go_wp2
        go_ret
        exact ⟨rfl, rfl⟩

end Go.Proofs.YteompckehokdoaaGreatDoor
namespace Go.Proofs.YteompckehokdoaaGreatDoor
open Go.RowKit Go.Sort

set_option maxRecDepth 100000 in
set_option maxHeartbeats 8000000 in
theorem ordPl_any (x y : Pl) (w : World) : Calls Tryz.prog 21 #[.agg #[.int .u32 (x.1 : Nat), .int .i64 x.2], .agg #[.int .u32 (y.1 : Nat), .int .i64 y.2]] w fun e w' => e = .returned (.int .i64 (cmpPl x y)) ∧ ∃ q os', w' = grow (w.drewN q) os' := by
  obtain ⟨x1, x2⟩ := x
  obtain ⟨y1, y2⟩ := y
  obtain ⟨r, hr⟩ : ∃ r, r = cmpPl (x1, x2) (y1, y2) := ⟨_, rfl⟩
  rw [← hr]
  obtain ⟨r1, hr1⟩ : ∃ r, r = cmpZ (x1 : Int) (y1 : Int) := ⟨_, rfl⟩
  obtain ⟨r2, hr2⟩ : ∃ r, r = cmpZ x2 y2 := ⟨_, rfl⟩
  have HR : Hid (r = if r1 ≠ 0 then r1 else r2) := Lib.hid (by rw [hr, hr1, hr2]; rfl)
  have C1 := fun W => cmp_u32 (x1 : Int) (y1 : Int) W r1 hr1
  have C2 := fun W => cmp_i64 x2 y2 W r2 hr2
  have hs1 : (w.alloc (.cells #[.int .u32 (x1 : Nat), .int .i64 x2] 35)).heap.size = w.heap.size + 1 := by simp
  obtain ⟨W1, hW1⟩ : ∃ W, W = (w.alloc (.cells #[.int .u32 (x1 : Nat), .int .i64 x2] 35)).alloc (.cells #[.int .u32 (y1 : Nat), .int .i64 y2] 35) := ⟨_, rfl⟩
  have hrowa : W1.heap[w.heap.size]? = some (.cells #[.int .u32 (x1 : Nat), .int .i64 x2] 35 (0, 0)) := by rw [hW1]; exact Kept.row (box_below _ _) (heap_alloc_last w _)
  have hrowb : W1.heap[w.heap.size + 1]? = some (.cells #[.int .u32 (y1 : Nat), .int .i64 y2] 35 (0, 0)) := by
    have := heap_alloc_last (w.alloc (.cells #[.int .u32 (x1 : Nat), .int .i64 x2] 35)) (.cells #[.int .u32 (y1 : Nat), .int .i64 y2] 35)
    rw [hs1] at this
    rw [hW1]; exact this
  have E0 : Hid (W1.cell? ⟨w.heap.size, 0, none⟩ = some (.int .u32 (x1 : Nat))) := Lib.hid (by rw [cell_of_row _ _ _ _ _ _ hrowa]; rfl)
  have E2 : Hid (W1.cell? ⟨w.heap.size, 1, none⟩ = some (.int .i64 x2)) := Lib.hid (by rw [cell_of_row _ _ _ _ _ _ hrowa]; rfl)
  have E1 : Hid (W1.cell? ⟨w.heap.size + 1, 0, none⟩ = some (.int .u32 (y1 : Nat))) := Lib.hid (by rw [cell_of_row _ _ _ _ _ _ hrowb]; rfl)
  have E3 : Hid (W1.cell? ⟨w.heap.size + 1, 1, none⟩ = some (.int .i64 y2)) := Lib.hid (by rw [cell_of_row _ _ _ _ _ _ hrowb]; rfl)
  have HW1 := Lib.hid hW1
  clear hr hr1 hr2 hs1 hrowa hrowb hW1
  go_enter Tryz.func21, Tryz.ntmps21
  go_wp2_with fail
  rw [← HW1.out]
  refine wp_region_held_drew (S := fun W => Kept W1 W) (by kernel_rfl) (show Kept W1 W1.drew from (Below.refl _ W1).drew) (fun hHeld => ?_)
  refine wpAnyH_take (i := 0) (v := ?_) rfl (by kernel_rfl) (by kernel_rfl) (by kernel_rfl) (fun _ _ _ h => h) (Or.inl ⟨by first | kernel_rfl | rfl, ?_⟩) (by assumption) ?_
  case refine_2 => intro w hSw; go_simp; try with_reducible rfl
  refine wpAnyH_take (i := 1) (v := ?_) rfl (by kernel_rfl) (by kernel_rfl) (by kernel_rfl) (fun _ _ _ h => h) (Or.inl ⟨by first | kernel_rfl | rfl, ?_⟩) (by assumption) ?_
  case refine_2 => intro w hSw; have e0 := (show Kept W1 w from hSw).cell E0.out; go_simp; try with_reducible rfl
  refine wpAnyH_take (i := 2) (v := ?_) rfl (by kernel_rfl) (by kernel_rfl) (by kernel_rfl) (fun _ _ _ h => h) (Or.inl ⟨by first | kernel_rfl | rfl, ?_⟩) (by assumption) ?_
  case refine_2 => intro w hSw; go_simp; try with_reducible rfl
  refine wpAnyH_take (i := 3) (v := ?_) rfl (by kernel_rfl) (by kernel_rfl) (by kernel_rfl) (fun _ _ _ h => h) (Or.inl ⟨by first | kernel_rfl | rfl, ?_⟩) (by assumption) ?_
  case refine_2 => intro w hSw; have e0 := (show Kept W1 w from hSw).cell E1.out; go_simp; try with_reducible rfl
  refine wpAnyH_take (i := 5) (v := ?_) rfl (by kernel_rfl) (by kernel_rfl) (by kernel_rfl) (fun _ _ _ h => h) (Or.inl ⟨by first | kernel_rfl | rfl, ?_⟩) (by assumption) ?_
  case refine_2 => intro w hSw; go_simp; try with_reducible rfl
  refine wpAnyH_take (i := 6) (v := ?_) rfl (by kernel_rfl) (by kernel_rfl) (by kernel_rfl) (fun _ _ _ h => h) (Or.inl ⟨by first | kernel_rfl | rfl, ?_⟩) (by assumption) ?_
  case refine_2 => intro w hSw; have e0 := (show Kept W1 w from hSw).cell E2.out; go_simp; try with_reducible rfl
  refine wpAnyH_take (i := 7) (v := ?_) rfl (by kernel_rfl) (by kernel_rfl) (by kernel_rfl) (fun _ _ _ h => h) (Or.inl ⟨by first | kernel_rfl | rfl, ?_⟩) (by assumption) ?_
  case refine_2 => intro w hSw; go_simp; try with_reducible rfl
  refine wpAnyH_take (i := 8) (v := ?_) rfl (by kernel_rfl) (by kernel_rfl) (by kernel_rfl) (fun _ _ _ h => h) (Or.inl ⟨by first | kernel_rfl | rfl, ?_⟩) (by assumption) ?_
  case refine_2 => intro w hSw; have e0 := (show Kept W1 w from hSw).cell E3.out; go_simp; try with_reducible rfl
  refine wpAnyH_ready (rs := [4]) (by kernel_rfl) (by simp) (AllReadyH.cons rfl (fun K hK => ?_) AllReadyH.nil)
  go_simp
  refine (C1 _).mono ?_
  rintro e w' ⟨rfl, rfl⟩
  refine hK.out _ _ (show Kept W1 W1.drew from (Below.refl _ W1).drew) (fun _ => ?_)
  clear hK K
  refine wpAnyH_ready (rs := [9]) (by kernel_rfl) (by simp) (AllReadyH.cons rfl (fun K hK => ?_) AllReadyH.nil)
  go_simp
  refine (C2 _).mono ?_
  rintro e w' ⟨rfl, rfl⟩
  refine hK.out _ _ (show Kept W1 W1.drew from (Below.refl _ W1).drew) (fun _ => ?_)
  clear hK K
  refine wpAnyH_ready (rs := [10]) (by kernel_rfl) (by simp) (AllReadyH.cons rfl (fun K hK => ?_) AllReadyH.nil)
  go_simp
  obtain ⟨W3, hW3⟩ : ∃ W, W = (W1.alloc (.cells #[.int .i64 r1, .int .i64 r2] 3)).drew := ⟨_, rfl⟩
  have hr3 : W3.heap[W1.heap.size]? = some (.cells #[.int .i64 r1, .int .i64 r2] 3 (0, 0)) := by rw [hW3]; exact heap_alloc_last W1 _
  have C3 := or_two W1.heap.size r1 r2 W3 (by rw [cell_of_row _ _ _ _ _ _ hr3]; rfl) (by rw [cell_of_row _ _ _ _ _ _ hr3]; rfl) r HR.out
  have hk3 : Kept W1 W3 := by rw [hW3]; exact (show Kept W1 _ from box_below W1 (.cells #[.int .i64 r1, .int .i64 r2] 3)).then ((Below.refl _ _).drew)
  rw [hW3] at C3 hk3
  clear hr3 hW3
  refine hK.out _ _ (hk3) (fun _ => ?_)
  clear hK K
  refine wpAnyH_ready (rs := [11]) (by kernel_rfl) (by simp) (AllReadyH.cons rfl (fun K hK => ?_) AllReadyH.nil)
  go_simp
  refine C3.mono ?_
  rintro e w' ⟨rfl, rfl⟩
  refine hK.out _ _ (hk3) (fun _ => ?_)
  clear hK K
  refine wpAnyH_take (i := 12) (v := ?_) rfl (by kernel_rfl) (by kernel_rfl) (by kernel_rfl) (fun _ _ _ h => h) (Or.inl ⟨by first | kernel_rfl | rfl, ?_⟩) (by assumption) ?_
  case refine_2 => intro w hSw; go_simp; try with_reducible rfl
  refine wpAnyH_done (by kernel_rfl) ?_ _
  go_wp2
  go_ret
  refine ⟨rfl, 1, #[.cells #[.int .u32 (x1 : Nat), .int .i64 x2] 35, .cells #[.int .u32 (y1 : Nat), .int .i64 y2] 35, .cells #[.int .i64 r1, .int .i64 r2] 3], ?_⟩
  rw [HW1.out, alloc_eq_grow, alloc_eq_grow, alloc_eq_grow, grow_grow, grow_grow]
  rfl

end Go.Proofs.YteompckehokdoaaGreatDoor
namespace Go.Proofs.YteompckehokdoaaGreatDoor
open Go.RowKit Go.Sort

theorem onceG_incP : ∀ l : List Pl, l.Pairwise (fun a b => ltP b a = false) → IncP (onceG l)
  | [], _ => trivial
  | [a], _ => ⟨fun b hb => (by cases hb), trivial⟩
  | a :: b :: l, h => by
    rw [List.pairwise_cons] at h
    have ih := onceG_incP (b :: l) h.2
    unfold onceG
    split
    · exact ih
    · rename_i hab
      refine ⟨fun x hx => ?_, ih⟩
      have hx' := (onceG_mem _ x).1 hx
      have lab : ltP a b = true := ltP_tri (h.1 b (by simp)) (fun e => hab e.symm)
      rcases List.mem_cons.1 hx' with e | e
      · rw [e]; exact lab
      · have hbx : ltP x b = false := (List.pairwise_cons.1 h.2).1 x e
        by_cases hxb : x = b
        · rw [hxb]; exact lab
        · exact ltP_trans lab (ltP_tri hbx hxb)
theorem once_places (l m : List Pl) (hp : m.Perm l) (hs : m.Pairwise (fun a b => ltP b a = false)) : onceG m = psetL l :=
  psetL_unique l _ (onceG_incP m hs) (fun y => (onceG_mem m y).trans hp.mem_iff)

/-! ### SortFunc -/
def SortPostP (B : Nat) (l : List Pl) (v : Value) (w : World) (e : Ending) (w' : World) : Prop :=
  e = .returned (.tuple #[]) ∧ ∃ s : List Pl, s.Perm l ∧ s.Pairwise (fun a b => ltP b a = false) ∧ w'.ownsRow B 35 2 v s.length (flatR plL s) ∧ w.grownBy w' v.ownBlock
theorem plL_one (x : Pl) : ∀ v ∈ plL x, v.oneCell' = true := fun v hv => by
  unfold plL at hv
  simp only [List.mem_cons, List.not_mem_nil, or_false] at hv
  rcases hv with rfl | rfl <;> rfl
theorem encPT : Enc plL 2 (fun _ => True) := ⟨fun _ _ => rfl, fun p _ => plL_one p, by decide⟩
theorem flat_plR (l : List Pl) (t : Nat) (ht : t < l.length * 2) : (flatR plL l)[t]? = some ((flatK plL 2 l.toArray)[t]!) := by
  have hq : t / 2 < l.length := by omega
  have hd : t = t / 2 * 2 + t % 2 := by omega
  have hg := flatR_get encPT l (fun _ _ => trivial) (t / 2) hq (t % 2) (by omega)
  rw [← hd] at hg
  have e2 : (l.toArray)[t / 2]! = l[t / 2] := by rw [getElem!_pos _ _ (by simpa using hq)]; simp
  rw [get_flatK _ _ _ t (by simpa using ht), e2, hg]
  have hl : t % 2 < (plL l[t / 2]).length := by show t % 2 < 2; omega
  rw [getElem!_pos (plL l[t / 2]) (t % 2) hl]
  exact List.getElem?_eq_getElem hl
theorem flat_allP (l : List Pl) : (flatK plL 2 l.toArray).toList = flatR plL l := by
  apply List.ext_getElem?
  intro t
  by_cases ht : t < l.length * 2
  · rw [flat_plR l t ht, Array.getElem?_toList, getElem!_pos _ t (by simpa using ht)]
    exact Array.getElem?_eq_getElem _
  · rw [List.getElem?_eq_none (by simp; omega), List.getElem?_eq_none (by rw [flatR_len encPT l (fun _ _ => trivial)]; omega)]
theorem row_sortedP {g : Nat} {cur : Array Value} {T : TypeId} {w : World} (hg : w.heap[g]? = some (.cells cur T (0, 0))) (n : Nat) (d : Array Pl) (os : Array Obj) :
    (sortWorldK plL 2 w g 0 n d os).heap[g]? = some (.cells (putCells id 0 (flatK plL 2 d) cur) T (0, 0)) ∧ w.grownBy (sortWorldK plL 2 w g 0 n d os) (some g) := by
  have hlt := (Array.getElem?_eq_some_iff.1 hg).1
  have e0 : ∀ k, k < w.heap.size → (sortWorldK plL 2 w g 0 n d os).heap[k]? = (mapBlock (Sort.ahead w n) g (putCells id 0 (flatK plL 2 d))).heap[k]? := fun k hk => by
    unfold sortWorldK putRowK putRow
    rw [heap_grow_old _ _ (by simpa [mapBlock] using hk)]
  refine ⟨?_, ⟨rfl, rfl, rfl, ?_, fun k hk hne => ?_⟩⟩
  · rw [e0 g hlt]
    show ((w.heap.modify g (onCells _)))[g]? = _
    rw [Array.getElem?_modify, if_pos rfl, hg]
    rfl
  · unfold sortWorldK putRowK putRow
    rw [size_grow]
    show w.heap.size ≤ (w.heap.modify g _).size + _
    rw [Array.size_modify]
    omega
  · rw [e0 k hk]
    show ((w.heap.modify g (onCells _)))[k]? = _
    rw [Array.getElem?_modify, if_neg (fun e => hne (by rw [e]))]
theorem put_takeP (F cur : Array Value) (h : F.size ≤ cur.size) : (putCells id 0 F cur).toList.take F.size = F.toList := by
  apply List.ext_getElem?
  intro k
  rw [List.getElem?_take]
  by_cases hk : k < F.size
  · rw [if_pos hk, Array.getElem?_toList, Array.getElem?_toList]
    unfold putCells
    rw [Array.getElem?_mapIdx, Array.getElem?_eq_getElem (show k < cur.size by omega)]
    simp only [Option.map_some, id]
    rw [if_pos (by omega), Nat.sub_zero, getElem!_pos _ k hk, Array.getElem?_eq_getElem hk]
  · rw [if_neg hk, List.getElem?_eq_none (by simp; omega)]
theorem cmpLaysP (blk off size : Nat) (w : World) : CmpLays Tryz.prog 21 #[] plL 2 cmpPl blk off size w := fun _ _ _ _ x y => ordPl_any x y _

/-- slices.SortFunc of an own slice of places. -/
theorem psort_any (B : Nat) (l : List Pl) (hs : l.length ≤ 1000000) (v : Value) (w : World) (h : w.ownsRow B 35 2 v l.length (flatR plL l)) :
    Calls Tryz.prog 20 #[v, .func (.func 21) #[] #[]] w (SortPostP B l v w) := by
  have hcells : ∀ j, j < (flatK plL 2 l.toArray).size → ∀ g c, v = .slice (some ⟨g, 0, none⟩) l.length c → w.cell? ⟨g, 0 + j, none⟩ = some ((flatK plL 2 l.toArray)[j]!) ∧ w.frozen? ⟨g, 0 + j, none⟩ = false := fun j hj g c hv => by
    subst hv
    have hj2 : j < l.length * 2 := by simpa using hj
    have h1 := World.ownsRow.cells h (g := g) rfl j _ (flat_plR l j hj2)
    rw [addr_add] at h1
    exact ⟨h1, World.ownsRow.frozenAt h _⟩
  rcases h.2 with ⟨rfl, h0⟩ | ⟨g, cap, cur, rfl, hbg, hg, hnc, hcm, hcs, htake⟩
  · have h1 : l = [] := List.eq_nil_of_length_eq_zero h0
    subst h1
    refine (AnyF.slices_SortFunc_none Tryz.sortP none 0 _ w).mono ?_
    rintro e w' ⟨he, rfl⟩
    exact ⟨he, [], List.Perm.refl _, List.Pairwise.nil, h, grown_refl _ _⟩
  · have hH : HoldsK plL 2 w g 0 l.toArray := fun j hj => by
      have h1 := hcells j hj g cap rfl
      exact ⟨h1.1, h1.2⟩
    have hcon := AnyQ.slices_SortFunc (P := Tryz.prog) Tryz.sortP 2 Tryz.isAgg35 Tryz.sizeOf35 plL (fun _ => rfl) plL_one cmpPl swoPl 21 #[] g 0 cap l.toArray w (enters_of Tryz.func21 (by kernel_rfl) rfl)
      (cmpLaysP g 0 l.toArray.size w) hH (Array.getElem?_eq_some_iff.1 hg).1 (by simp; omega)
    rw [show l.toArray.size = l.length from List.size_toArray] at hcon
    change Calls Tryz.prog 20 _ _ _ at hcon
    refine hcon.mono ?_
    rintro e w' ⟨he, d, n, os, hp, hsd, rfl⟩
    have hds : d.size = l.length := by have := hp.1; simpa using this
    have hperm : d.toList.Perm l := by
      have := hp.2.2
      rw [show d.extract 0 l.length = d from by rw [← hds]; simp] at this
      simpa using this
    have hlen : d.toList.length = l.length := hperm.length_eq
    have R := row_sortedP hg n d os
    refine ⟨he, d.toList, hperm, ?_, ⟨flatR_len encPT _ (fun _ _ => trivial), Or.inr ⟨g, cap, _, by rw [hlen], hbg, R.1, by rw [hlen]; exact hnc, hcm, ?_, ?_⟩⟩, R.2⟩
    · rw [List.pairwise_iff_getElem]
      intro i j hi hj hij
      have h1 := hsd i j (Nat.zero_le _) hij (by rw [← hlen]; exact hj)
      rw [ltPl] at h1
      have e1 : d[i]! = d.toList[i] := by rw [getElem!_pos d i (by simpa using hi)]; simp
      have e2 : d[j]! = d.toList[j] := by rw [getElem!_pos d j (by simpa using hj)]; simp
      rw [e1, e2] at h1
      exact h1
    · unfold putCells; rw [Array.size_mapIdx]; exact hcs
    · have e3 : (flatK plL 2 d).size = d.toList.length * 2 := by simp
      rw [← e3, put_takeP _ _ (by rw [e3, hlen, hcs]; exact Nat.mul_le_mul_right _ hnc)]
      have := flat_allP d.toList
      simpa using this

/-! ### Compact -/
set_option maxRecDepth 100000 in
theorem compact_shortP (p : Option Addr) (n c : Nat) (h : n < 2) (w : World) :
    Calls Tryz.prog 25 #[.slice p n c] w fun e w' => e = .returned (.slice p n c) ∧ w' = w := by
  have h2' : (n : Int) < 2 := by omega
  have b2 : decide ((n : Int) < 2) = true := by simpa using h2'
  go_enter Tryz.func25, Tryz.ntmps25
  go_wp2
  go_ret
  exact ⟨rfl, rfl⟩
/-- slices.Compact of an own slice of places. -/
theorem compact_anyP (B : Nat) (ls : List Pl) (hok : ∀ p ∈ ls, wfP p) (hs : ls.length ≤ 1000000) (v : Value) (w : World) (h : w.ownsRow B 35 2 v ls.length (flatR plL ls)) :
    Calls Tryz.prog 25 #[v] w fun e w' => ∃ v', e = .returned v' ∧ w'.ownsRow B 35 2 v' (onceG ls).length (flatR plL (onceG ls)) ∧ w.grownBy w' v.ownBlock := by
  rcases own_parts encP hok h with ⟨rfl, rfl⟩ | ⟨g, cap, rest, rfl, hB, hr, hc, hm, hsz⟩
  · refine (compact_shortP none 0 0 (by decide) w).mono ?_
    rintro e w' ⟨he, rfl⟩
    exact ⟨_, he, h, grown_refl _ _⟩
  · by_cases h2 : ls.length < 2
    · refine (compact_shortP _ _ cap h2 w).mono ?_
      rintro e w' ⟨he, rfl⟩
      rw [onceG_short ls h2]
      exact ⟨_, he, h, grown_refl _ _⟩
    · refine (compact_twoP g cap ls rest hs (by omega) hc w hr).mono ?_
      rintro e w' ⟨ms, rest', he, hms, hle, hr', hsz', hg⟩
      subst hms
      exact ⟨_, he, own_of_row encP hB hr' (by omega) hm (by omega), hg⟩

/-! ### Places -/
set_option maxRecDepth 100000 in
set_option maxHeartbeats 4000000 in
theorem placeOf_any (e : En) (he : wfE e) (X : Array Value) (hX : X = enC e) (p : Pl) (hp : p = plE e) (w : World) :
    Calls Tryz.prog 19 #[.agg X] w fun e' w' => e' = .returned (.agg (plL p).toArray) ∧ Kept w w' := by
  have hs1 : (w.alloc (.cells X 41)).heap.size = w.heap.size + 1 := by simp
  obtain ⟨q, hq⟩ : ∃ q, q = e.box := ⟨_, rfl⟩
  obtain ⟨s, hs⟩ : ∃ s, s = e.slot := ⟨_, rfl⟩
  obtain ⟨W1, hW1⟩ : ∃ W, W = (w.alloc (.cells X 41)).alloc (.cells #[.int .u32 0, .int .i64 0] 35) := ⟨_, rfl⟩
  have hrow : W1.heap[w.heap.size]? = some (.cells X 41 (0, 0)) := by rw [hW1]; exact Kept.row (box_below _ _) (heap_alloc_last w _)
  have c1 : W1.cell? ⟨w.heap.size, 33, none⟩ = some (.int .u32 (q : Nat)) := by rw [cell_of_row _ _ _ _ _ _ hrow, hX, hq]; exact enC_b he.1
  have c2 : W1.cell? ⟨w.heap.size, 34, none⟩ = some (.int .i64 s) := by rw [cell_of_row _ _ _ _ _ _ hrow, hX, hs]; exact enC_s he.1
  rw [hW1] at c1 c2
  have HPV : Hid (Value.agg (plL p).toArray = .agg #[.int .u32 (q : Nat), .int .i64 s]) := Lib.hid (by rw [hp, hq, hs]; rfl)
  rw [HPV.out]
  have hk : ∀ Y : Array Value, Kept w ((w.alloc (.cells X 41)).alloc (.cells Y 35)) := fun Y => (show Kept w _ from box_below _ _).then (box_below _ _)
  have HK := Lib.hid hk
  clear hrow hW1 hX he hp hq hs hk hs1
  clear W1
  go_enter Tryz.func19, Tryz.ntmps19
  go_wp2
  refine bodyPost_ret (results_cell_row Tryz.results19 _ _ (w.heap.size + 1) 35 #[.int .u32 (q : Nat), .int .i64 s] (0, 0) _ rfl (heap_alloc2_new w _ _) Tryz.underlying35 rfl infoPl2) rfl ⟨rfl, HK.out _⟩

end Go.Proofs.YteompckehokdoaaGreatDoor
namespace Go.Proofs.YteompckehokdoaaGreatDoor
open Go.RowKit Go.Sort

set_option maxRecDepth 100000 in
set_option maxHeartbeats 16000000 in
theorem placesOkM : MPlacesOk := by
  intro m v w H hl
  obtain ⟨ir, hir, hx⟩ := Option.map_eq_some_iff.1 info_pl
  simp only [Prod.mk.injEq] at hx
  obtain ⟨hz0, hz1, hz2⟩ := hx
  have HIR := Lib.hid hir
  have HZ0 := Lib.hid hz0
  have HZ1 := Lib.hid hz1
  have HZ2 := Lib.hid hz2
  obtain ⟨hid, sv, rfl, he⟩ := H
  obtain ⟨p, c, rfl, hcap, -⟩ := he.out encE
  have HE := Lib.hid he
  obtain ⟨n, hn⟩ : ∃ n, n = m.es.length := ⟨_, rfl⟩
  have HN := Lib.hid hn
  obtain ⟨id, hidd⟩ : ∃ i, i = m.id := ⟨_, rfl⟩
  rw [← hn] at hl hcap
  rw [← hn, ← hidd]
  have HL := Lib.hid hl
  obtain ⟨PL, hPL⟩ : ∃ l, l = m.es.map plE := ⟨_, rfl⟩
  have HPL := Lib.hid hPL
  have HPN : Hid (PL.length = n) := Lib.hid (by rw [hPL, List.length_map, hn])
  have HPW : Hid (∀ q ∈ PL, wfP q) := Lib.hid (fun q hq => by
    rw [hPL] at hq
    obtain ⟨e, h1, rfl⟩ := List.mem_map.1 hq
    exact plE_wf (he.good e h1))
  have HPM : Hid (placesM m = psetL PL) := Lib.hid (by rw [hPL]; rfl)
  rw [HPM.out]
  obtain ⟨W1, hW1⟩ : ∃ W1, W1 = w.alloc (.cells #[.int .u32 (id : Nat), .slice p n c] 25) := ⟨_, rfl⟩
  have hrow := heap_alloc_last w (.cells #[.int .u32 (id : Nat), .slice p n c] 25)
  rw [← hW1] at hrow
  have hk1 : Kept w W1 := by rw [hW1]; exact box_below _ _
  have hs1 : W1.heap.size = w.heap.size + 1 := by rw [hW1]; simp
  have e1 : W1.cell? ⟨w.heap.size, 1, none⟩ = some (.slice p n c) := by rw [cell_of_row _ _ _ _ _ _ hrow]; rfl
  obtain ⟨B, hB⟩ : ∃ B, B = w.heap.size + 1 := ⟨_, rfl⟩
  obtain ⟨W2, hmk, hown, hgr⟩ := run_make_own (P := Tryz.prog) W1 B 28 35 ir (.agg #[.int .u32 0, .int .i64 0]) 2 Tryz.underlying28 hir hz0 hz1 .i64 .i64 n (by rw [hz2]; omega) (by unfold maxLen; omega) (by omega)
  have hk2 : Kept W1 W2 := ⟨hgr.os, hgr.tape, hgr.output, hgr.size, fun k hk => hgr.block k hk (by simp)⟩
  have HK2 : Hid (Kept w W2) := Lib.hid (hk1.then hk2)
  have e2 : W2.cell? ⟨w.heap.size, 1, none⟩ = some (.slice p n c) := hk2.cell e1
  have HO2 : Hid (W2.ownsRow B 35 2 (.slice (some ⟨w.heap.size + 1, 0, none⟩) 0 n) (PL.take 0).length (flatR plL (PL.take 0))) := Lib.hid (by rw [← hs1]; exact hown)
  rw [hW1] at hmk e1
  have HBW : Hid (w.heap.size ≤ B) := Lib.hid (by omega)
  have HBR : Hid (B = w.heap.size + 1) := Lib.hid hB
  clear hir hz0 hz1 hz2 hid he hn hidd hl hcap hPL hW1 hrow hk1 hs1 hown hgr hk2 hB
  clear W1
  go_enter Tryz.func6, Tryz.ntmps6
  go_wp2
  clear hmk e1 e2
  go_loopg [3, 13] n (fun gh s y wr => ∃ (k : Nat) (tv : Value), k + gh = n ∧ tv = s ∧ y = .int .i64 k ∧ Hid (wr.ownsRow B 35 2 tv (PL.take k).length (flatR plL (PL.take k))) ∧ Hid (Kept w wr))
  case atStart => exact ⟨0, _, by omega, rfl, rfl, HO2, HK2⟩
  case round =>
    clear HO2 HK2
    obtain ⟨k, tv, hk, rfl, rfl, HO, HK⟩ := hrel
    by_cases hlt : k < n
    · have hki : (k : Int) < n := by omega
      have bk : decide ((k : Int) < (n : Int)) = true := by simpa using hki
      have hki0 : (0 : Int) ≤ k := by omega
      have hkl : k < m.es.length := by have := HN.out; omega
      obtain ⟨b, off, cs, t, fr, rfl, hg, hsz, hex, -⟩ := HE.out.elem encE hkl
      have g2 := Kept.row HK.out hg
      have hwf := HE.out.good _ (List.getElem_mem hkl)
      have hpl : k < PL.length := by rw [HPN.out]; exact hlt
      have htk : PL.take (k + 1) = PL.take k ++ [PL[k]] := List.take_succ_eq_append_getElem hpl
      have hpk : PL[k] = plE m.es[k] := by
        have e : ∀ (l : List Pl) (h : l = m.es.map plE) (h2 : k < l.length), l[k] = plE m.es[k] := fun l h h2 => by subst h; simp
        exact e PL HPL.out hpl
      obtain ⟨E, hE⟩ : ∃ E, E = m.es[k] := ⟨_, rfl⟩
      rw [← hE] at hex hwf hpk
      obtain ⟨Q, hQ⟩ : ∃ Q, Q = PL[k] := ⟨_, rfl⟩
      rw [← hQ] at htk hpk
      obtain ⟨X, hX⟩ : ∃ X, X = enC E := ⟨_, rfl⟩
      have hex2 : cs.extract (off + k * 35) (off + k * 35 + 35) = X := by rw [hX]; exact hex
      have HXS : Hid (X.size = 35) := Lib.hid (by rw [hX]; exact enC_size hwf.1)
      have HXI : Hid ((Tryz.prog.info? 41).map (·.size) = some X.size) := Lib.hid (by rw [HXS.out]; exact infoEn)
      have HXO : Hid (X.all (·.oneCell') = true) := Lib.hid (by rw [hX, Array.all_eq_true_iff_forall_mem]; intro x hx; exact encE.one _ hwf x (by unfold enC at hx; simpa using hx))
      have HES : Hid (off + k * 35 + 35 ≤ cs.size ∧ cs.extract (off + k * 35) (off + k * 35 + 35) = X) := Lib.hid ⟨hsz, hex2⟩
      have HSX : Hid (0 + 35 ≤ X.size ∧ X.extract 0 (0 + 35) = X) := Lib.hid ⟨by rw [HXS.out]; exact Nat.le_refl _, by rw [show 0 + 35 = X.size by rw [HXS.out]]; exact Array.extract_size⟩
      obtain ⟨W4, hW4⟩ : ∃ W, W = wr.alloc (.cells X 41) := ⟨_, rfl⟩
      have HW4 := Lib.hid hW4
      have hk4 : Kept wr W4 := by rw [hW4]; exact box_below _ _
      have HR4 : Hid (W4.heap[wr.heap.size]? = some (.cells X 41 (0, 0))) := Lib.hid (by rw [hW4]; exact heap_alloc_last wr _)
      have CP := placeOf_any E hwf X hX Q hpk W4
      have HQW : Hid (wfP Q) := Lib.hid (by rw [hpk]; exact plE_wf hwf)
      have HONE := Lib.hid (fun (W : World) => flat_rec encP W 35 Q HQW.out (plL Q).toArray rfl)
      obtain ⟨YQ, hYQ⟩ : ∃ Y, Y = (plL Q).toArray := ⟨_, rfl⟩
      rw [← hYQ] at CP HONE
      have HYS : Hid (YQ.size = 2) := Lib.hid (by rw [hYQ]; rfl)
      obtain ⟨k1, hk1⟩ : ∃ k1, k1 = k + 1 := ⟨_, rfl⟩
      have v1 : IntKind.i64.wrap ((k : Int) + 1) = (k1 : Int) := by rw [show (k : Int) + 1 = (k1 : Int) by omega]; exact IntWalk.i64_in _ (by have := HL.out; omega)
      have HKK : Hid (k1 = k + 1 ∧ k + gk = n ∧ k < n) := Lib.hid ⟨hk1, hk, hlt⟩
      have HPT : Hid (PL.take k1 = PL.take k ++ [Q]) := Lib.hid (by rw [hk1]; exact htk)
      have HPK : Hid ((PL.take k).length = k ∧ (PL.take k1).length = k1) := Lib.hid (by rw [List.length_take, List.length_take, HPN.out]; omega)
      have HK4 : Hid (Kept w W4) := Lib.hid ((show Kept w wr from HK.out).then hk4)
      have HO4 : Hid (W4.ownsRow B 35 2 tv (PL.take k).length (flatR plL (PL.take k))) := Lib.hid (own_stay HO.out (fun j hj => hk4.block j (HO.out.lt j hj).2))
      have HB4 : Hid (B ≤ W4.heap.size) := Lib.hid (by rw [HBR.out, hW4]; simp; exact HK.out.size)
      clear hg hsz hex hex2 hwf hpl htk hpk hE hQ hX hYQ hk1 hk hlt hkl hW4 hk4
      go_wp2_with (first
        | (with_reducible refine wpList_load_sub rfl _ _ rfl b (off + k * 35) 35 rfl t cs fr _ g2 Tryz.underlying41 rfl infoEn HES.out.1 X HES.out.2 ?_)
        | ((with_reducible refine wpList_store_row rfl _ _ _ rfl wr.heap.size X rfl rfl 41 _ (heap_alloc_last wr _) HXI.out ?hold HXO.out ?_); rotate_left; rw [World.setRow_alloc_new, ← HW4.out])
        | (with_reducible refine wpList_load_sub rfl _ _ rfl wr.heap.size 0 35 rfl 41 X (0, 0) _ HR4.out Tryz.underlying41 rfl infoEn HSX.out.1 X HSX.out.2 ?_))
      case hold => rw [HXS.out]; rfl
      refine CP.mono ?_
      rintro e w5 ⟨rfl, hb5⟩
      have HK5 : Hid (Kept w w5) := Lib.hid ((show Kept w W4 from HK4.out).then hb5)
      have HO5 : Hid (w5.ownsRow B 35 2 tv (PL.take k).length (flatR plL (PL.take k))) := Lib.hid (own_stay HO4.out (fun j hj => hb5.block j (HO4.out.lt j hj).2))
      have HB5 : Hid (B ≤ w5.heap.size) := Lib.hid (Nat.le_trans HB4.out hb5.size)
      clear hb5 CP g2 HO HK HK4 HO4 HB4 HR4
      go_wp2_with (first
        | (with_reducible refine wpList_buildR rfl _ _ _ rfl 2 ir (.agg #[.int .u32 0, .int .i64 0]) Tryz.underlying28 HIR.out HZ1.out HZ0.out (by decide) (by decide) YQ rfl HYS.out ?_)
        | (at_builtin; refine wpList_append_flat rfl _ _ 28 rfl B 35 ir (.agg #[.int .u32 0, .int .i64 0]) 2 16 Tryz.underlying28 HIR.out HZ0.out HZ1.out HZ2.out rfl (by decide) _ _ _ rfl (HO5.out.alloc _) _ 1 (plL Q) rfl (HONE.out _) ?qd2 ?qd3 ?qd4 ?_))
      case qd2 => have := HPK.out; have := HKK.out; have := HL.out; unfold maxLen; omega
      case qd3 => have := HPK.out; have := HKK.out; have := HL.out; omega
      case qd4 => have := HB5.out; simp; omega
      intro v4 w6 hown6 hgrow6 _
      have H6 : Hid (w6.ownsRow B 35 2 v4 (PL.take k1).length (flatR plL (PL.take k1))) := Lib.hid (by
        have h := hown6
        rw [flatR_snoc, ← HPT.out] at h
        have e : min k PL.length + 1 = k1 := by rw [HPN.out]; have := HKK.out; omega
        first | rw [e] at h | rw [HPK.out.1, ← HKK.out.1] at h
        rw [HPK.out.2]
        exact h)
      have H7 : Hid (Kept w w6) := Lib.hid (append_keptX (show Kept w w5 from HK5.out) HBW.out HO5.out hgrow6)
      clear hown6 hgrow6 HO5 HK5 HB5
      go_wp2
      go_roundg (n - k1)
      · exact ⟨k1, _, by have := HKK.out; omega, rfl, by first | rfl | (have := HKK.out; congr 1; omega), H6, H7⟩
      · have := HKK.out; omega
    · have hki : ¬ (k : Int) < n := by omega
      have bk : decide ((k : Int) < (n : Int)) = false := by simpa using hki
      have hkn : k = n := by omega
      have ho := HO.out
      rw [hkn, List.take_of_length_le (by rw [HPN.out]; exact Nat.le_refl _)] at ho
      have CS := psort_any B PL (by rw [HPN.out]; have := HL.out; omega) tv wr ho
      have hlo := World.ownsRow.lt ho
      have HLO := Lib.hid hlo
      clear ho hlo hkn hk hlt HO
      go_wp2_with fail
      refine CS.mono ?_
      rintro e w5 ⟨rfl, S, hp, hpw, ho5, hg5⟩
      have hSW : ∀ q ∈ S, wfP q := fun q hq => HPW.out q (hp.mem_iff.1 hq)
      have CC := compact_anyP B S hSW (by rw [hp.length_eq, HPN.out]; have := HL.out; omega) tv w5 ho5
      rw [once_places PL S hp hpw] at CC
      have HK5 : Hid (Kept w w5) := Lib.hid (Below.grown (show Below w.heap.size w wr from HK.out) hg5 HK.out.size (fun j hj => by have := (HLO.out j hj).1; have := HBW.out; omega))
      have HLO5 := Lib.hid (World.ownsRow.lt ho5)
      clear hp hpw ho5 hg5 hSW CS HK
      go_wp2_with fail
      refine CC.mono ?_
      rintro e w6 ⟨v', rfl, ho6, hg6⟩
      have HPA : Hid (PlsAt (psetL PL) v' w6) := Lib.hid (RowsAt.own encP (psetL_wf HPW.out) ho6)
      have HK6 : Hid (Kept w w6) := Lib.hid (Below.grown (show Below w.heap.size w w5 from HK5.out) hg6 HK5.out.size (fun j hj => by have := (HLO5.out j hj).1; have := HBW.out; omega))
      clear ho6 hg6 CC
      go_wp2
      go_ret
      exact ⟨_, rfl, HPA.out, HK6.out⟩

end Go.Proofs.YteompckehokdoaaGreatDoor
