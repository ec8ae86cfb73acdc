/- The contracts of the program's calls, by name, whatever they are made of; the statements' example. -/
import Derived.Test.YtkdodffnakdckaaExKa
import Derived.Test.YtkdodffnakdckaaExKb
namespace Go.Proofs.Ytkdodffnakdckaa
open Go.RowKit

def XMayOk : Prop := ∀ (l : List (Int × Int)) (v : Value) (w : World) (a b : Int), RunsAt l v w → l.length ≤ 65536 → I64 a → I64 b → Calls Try.prog 11 #[v, .int .i64 a, .int .i64 b] w fun e w' => e = .returned (.bool (decide (validL a b l))) ∧ Kept w w'
def XCountOk : Prop := ∀ (l : List (Int × Int)) (v : Value) (w : World), RunsAt l v w → l.length ≤ 65536 → Calls Try.prog 13 #[v] w fun e w' => e = .returned (.int .i64 (cntA (hasR l) : Nat)) ∧ Kept w w'
def XHasOk : Prop := ∀ (l : List (Int × Int)) (v : Value) (w : World) (a : Int), RunsAt l v w → l.length ≤ 65536 → I64 a → Calls Try.prog 15 #[v, .int .i64 a] w fun e w' => e = .returned (.bool (hasSec l a)) ∧ Kept w w'
def XPlainOk : Prop := ∀ (l : List (Int × Int)) (v : Value) (w : World), RunsAt l v w → l.length ≤ 65536 → Calls Try.prog 10 #[v] w fun e w' => ∃ x, e = .returned x ∧ RunsAt (runsA (hasR l)) x w' ∧ Kept w w'
def XJoinOk : Prop := ∀ (la lb : List (Int × Int)) (u v : Value) (w : World), RunsAt la u w → RunsAt lb v w → la.length ≤ 65536 → lb.length ≤ 65536 → Calls Try.prog 20 #[u, v] w fun e w' => ∃ x, e = .returned x ∧ RunsAt (runsA (fun k => hasR la k || hasR lb k)) x w' ∧ Kept w w'
def XMinusOk : Prop := ∀ (la lb : List (Int × Int)) (u v : Value) (w : World), RunsAt la u w → RunsAt lb v w → la.length ≤ 65536 → lb.length ≤ 65536 → Calls Try.prog 21 #[u, v] w fun e w' => ∃ x, e = .returned x ∧ RunsAt (runsA (fun k => hasR la k && !hasR lb k)) x w' ∧ Kept w w'
def XCommonOk : Prop := ∀ (la lb : List (Int × Int)) (u v : Value) (w : World), RunsAt la u w → RunsAt lb v w → la.length ≤ 65536 → lb.length ≤ 65536 → Calls Try.prog 22 #[u, v] w fun e w' => ∃ x, e = .returned x ∧ RunsAt (runsA (fun k => hasR la k && hasR lb k)) x w' ∧ Kept w w'
def XLowestOk : Prop := ∀ (l : List (Int × Int)) (v : Value) (w : World) (n : Int), RunsAt l v w → l.length ≤ 65536 → I64 n → Calls Try.prog 26 #[v, .int .i64 n] w fun e w' => ∃ x, e = .returned (.tuple #[x, .int .i64 (lowE (hasR l) n)]) ∧ RunsAt (lowL (hasR l) n) x w' ∧ Kept w w'

/-- What a call that changes a map leaves. -/
def XPost (P : Mp → (Nat → Prop) → World → Prop) (Bs : Nat → Prop) (s' : Mp) (w : World) (Bs' : Nat → Prop) (w' : World) : Prop :=
  P s' Bs' w' ∧ (∀ k, Bs' k → Bs k ∨ w.heap.size ≤ k) ∧ ButBy Bs w w'
structure MapOk (B : Nat) (x : Value) (P : Mp → (Nat → Prop) → World → Prop) : Prop where
  above : ∀ s Bs w, P s Bs w → ∀ k, Bs k → B ≤ k ∧ k < w.heap.size
  stay : ∀ s Bs w w', P s Bs w → w.heap.size ≤ w'.heap.size → (∀ k, Bs k → w'.heap[k]? = w.heap[k]?) → P s Bs w'
  take : ∀ s Bs w n, P s Bs w → s.ok → I64 n → Calls Try.prog 30 #[x, .int .i64 n] w fun e w' => ∃ y Bs', e = .returned (.tuple #[y, .int .i64 (takeE s n)]) ∧ RunsAt (takeL s n) y w' ∧ Apart y Bs' ∧ NewAt y w ∧ XPost P Bs (takeS s n) w Bs' w'
  hold : ∀ s Bs w l v, P s Bs w → s.ok → RunsAt l v w → l.length ≤ 65536 → Apart v Bs → Calls Try.prog 32 #[x, v] w fun e w' => ∃ Bs', e = .returned (.int .i64 (holdE s l)) ∧ XPost P Bs (holdS s l) w Bs' w'
  give : ∀ s Bs w l v, P s Bs w → s.ok → RunsAt l v w → l.length ≤ 65536 → Apart v Bs → Calls Try.prog 34 #[x, v] w fun e w' => ∃ Bs', e = .returned (.int .i64 (giveE s l)) ∧ XPost P Bs (giveS s l) w Bs' w'
  free : ∀ s Bs w, P s Bs w → s.ok → Calls Try.prog 35 #[x] w fun e w' => ∃ y, e = .returned y ∧ RunsAt (runsA (freeF s)) y w' ∧ Apart y Bs ∧ Kept w w'
  room : ∀ s Bs w, P s Bs w → s.ok → Calls Try.prog 37 #[x] w fun e w' => e = .returned (.int .i64 (cntA (freeF s) : Nat)) ∧ Kept w w'
def XNewOk : Prop := ∀ (a b : Int) w, I64 a → I64 b → Calls Try.prog 28 #[.int .i64 a, .int .i64 b] w fun e w' => Kept w w' ∧
  ((¬ (0 ≤ a ∧ a ≤ b ∧ b ≤ 8192) ∧ e = .returned (.tuple #[.pointer none, .int .i64 5])) ∨
   ((0 ≤ a ∧ a ≤ b ∧ b ≤ 8192) ∧ ∃ ad P Bs, e = .returned (.tuple #[.pointer (some ad), .int .i64 0]) ∧ MapOk w.heap.size (.pointer (some ad)) P ∧ P ⟨a.toNat, b.toNat, fun _ => false⟩ Bs w'))
/-- A nil map. -/
def XNilOk : Prop :=
  (∀ n w, Calls Try.prog 30 #[.pointer none, .int .i64 n] w fun e w' => (∃ p c, e = .returned (.tuple #[.slice p 0 c, .int .i64 4])) ∧ Kept w w') ∧
  (∀ p n c w, Calls Try.prog 32 #[.pointer none, .slice p n c] w fun e w' => e = .returned (.int .i64 4) ∧ Kept w w') ∧
  (∀ p n c w, Calls Try.prog 34 #[.pointer none, .slice p n c] w fun e w' => e = .returned (.int .i64 4) ∧ Kept w w') ∧
  (∀ w, Calls Try.prog 35 #[.pointer none] w fun e w' => (∃ p c, e = .returned (.slice p 0 c)) ∧ Kept w w') ∧
  (∀ w, Calls Try.prog 37 #[.pointer none] w fun e w' => e = .returned (.int .i64 0) ∧ Kept w w')

theorem MapOk.kept {B : Nat} {x : Value} {P : Mp → (Nat → Prop) → World → Prop} (D : MapOk B x P) {s : Mp} {Bs : Nat → Prop} {w w' : World} (h : P s Bs w) (k : Kept w w') : P s Bs w' :=
  D.stay s Bs w w' h k.size (fun j hj => k.block j (D.above s Bs w h j hj).2)

/-! ### The example -/
theorem runsF_stop (f : Nat → Bool) (m : Nat) : ∀ j, (∀ k, m ≤ k → k < m + j → f k = false) → runsF f (m + j) = runsF f m
  | 0, _ => rfl
  | j + 1, h => by
    show runsF f (m + j + 1) = _
    rw [runsF, if_neg (by rw [h (m + j) (by omega) (by omega)]; decide)]
    exact runsF_stop f m j (fun k h1 h2 => h k h1 (by omega))
theorem runsA_to (f g : Nat → Bool) (m : Nat) (hm : m ≤ 8192) (hf : ∀ k, m ≤ k → k < 8192 → f k = false) (hg : ∀ k, k < m → f k = g k) : runsA f = runsF g m := by
  have h := runsF_stop f m (8192 - m) (fun k h1 h2 => hf k h1 (by omega))
  rw [show m + (8192 - m) = mxS by show _ = 8192; omega] at h
  unfold runsA
  rw [h]
  exact runsF_congr m hg

theorem ex_a : runsA (hasR [(4, 2), (0, 2), (2, 2)]) = [(0, 6)] := by
  rw [runsA_to (hasR [(4, 2), (0, 2), (2, 2)]) (fun _ => true) 6 (by omega) (fun k h1 _ => by
    unfold hasR inR; simp; omega) (fun k hk => by unfold hasR inR; simp; omega)]
  decide
theorem ex_b : runsA (fun k => hasR [(0, 10)] k && !hasR [(3, 2)] k) = [(0, 3), (5, 5)] := by
  rw [runsA_to (fun k => hasR [(0, 10)] k && !hasR [(3, 2)] k) (fun k => !decide (3 ≤ k ∧ k < 5)) 10 (by omega) (fun k h1 _ => by
    unfold hasR inR; simp; omega) (fun k hk => by
    have e1 : hasR [(0, 10)] k = true := by unfold hasR inR; simp; omega
    have e2 : hasR [(3, 2)] k = decide (3 ≤ k ∧ k < 5) := by
      rw [hasR_one]; unfold inR; refine decide_eq_decide.2 ?_
      show (3 : Int) ≤ k ∧ (k : Int) < 3 + 2 ↔ _
      omega
    rw [e1, e2]; rfl)]
  decide

/-- A slice of runs that is laid in a new block. -/
theorem RunsAt.new (w : World) (l : List (Int × Int)) (hl : wfR l) (n : Nat) (hn : l.length = n) (X : Array Value) (hX : X.toList = runC l) : RunsAt l (.slice (some ⟨w.heap.size, 0, none⟩) n n) (w.alloc (.cells X 57)) := by
  subst hn
  exact RunsAt.of_cells hl _ _ (Nat.le_refl _) (Or.inr ⟨w.heap.size, 0, rfl, fun j x hx => by
    rw [Nat.zero_add, cell_of_row _ _ _ _ _ _ (heap_alloc_new w _), ← Array.getElem?_toList, hX]; exact hx⟩)

set_option maxRecDepth 100000 in
set_option maxHeartbeats 4000000 in
theorem xawake_any (HP : XPlainOk) (HM : XMinusOk) (w : World) : Calls Try.prog 17 #[] w fun e w' => e = .returned (.bool true) ∧ Kept w w' := by
  have HPH := Lib.hid HP
  have HMH := Lib.hid HM
  clear HP HM
  go_enter Try.func17, Try.ntmps17
  go_wp2_with fail
  refine (HPH.out [(4, 2), (0, 2), (2, 2)] _ _ (RunsAt.new w _ (by intro r hr; simp at hr; rcases hr with rfl | rfl | rfl <;> decide) 3 rfl _ rfl) (by decide)).mono ?_
  rintro e w1 ⟨x, rfl, hx, hb1⟩
  rw [ex_a] at hx
  have HX1 := Lib.hid hx
  have K1 : Hid (Kept w w1) := Lib.hid ((show Kept w _ from box_below w _).then hb1)
  clear hx hb1
  go_wp2_with fail
  refine (HMH.out [(0, 10)] [(3, 2)] _ _ _ ((RunsAt.new w1 [(0, 10)] (by intro r hr; simp at hr; subst hr; decide) 1 rfl _ rfl).later (box_below _ _)) (by
    have h := RunsAt.new (w1.alloc (.cells #[.int .i64 0, .int .i64 10] 57)) [(3, 2)] (by intro r hr; simp at hr; subst hr; decide) 1 rfl #[.int .i64 3, .int .i64 2] rfl
    simpa using h) (by decide) (by decide)).mono ?_
  rintro e w2 ⟨y, rfl, hy, hb2⟩
  rw [ex_b] at hy
  have HY2 := Lib.hid hy
  have hk12 : Kept w1 w2 := ((show Kept w1 _ from box_below w1 _).then (box_below _ _)).then hb2
  have HX2 := Lib.hid (HX1.out.later hk12)
  have K2 : Hid (Kept w w2) := Lib.hid (K1.out.then hk12)
  clear hy hb2 hk12 HX1 K1
  go_wp2_with fail
  refine (rsame_any [(0, 6)] [(0, 6)] x _ _ (HX2.out.later (box_below _ _)) (RunsAt.new w2 [(0, 6)] (by intro r hr; simp at hr; subst hr; decide) 1 rfl _ rfl) (by decide)).mono ?_
  rw [decide_eq_true rfl]
  rintro e w3 ⟨rfl, hb3⟩
  have hk23 : Kept w2 w3 := (show Kept w2 _ from box_below w2 _).then hb3
  have HY3 := Lib.hid (HY2.out.later hk23)
  have K3 : Hid (Kept w w3) := Lib.hid (K2.out.then hk23)
  clear hb3 hk23 HX2 HY2 K2
  go_wp2_with fail
  refine (rsame_any [(0, 3), (5, 5)] [(0, 3), (5, 5)] y _ _ (HY3.out.later (box_below _ _)) (RunsAt.new w3 [(0, 3), (5, 5)] (by intro r hr; simp at hr; rcases hr with rfl | rfl <;> decide) 2 rfl _ rfl) (by decide)).mono ?_
  rw [decide_eq_true rfl]
  rintro e w4 ⟨rfl, hb4⟩
  have K4 : Hid (Kept w w4) := Lib.hid (K3.out.then ((show Kept w3 _ from box_below w3 _).then hb4))
  clear hb4
  go_wp2
  go_ret
  exact ⟨rfl, K4.out⟩

end Go.Proofs.Ytkdodffnakdckaa
