/- The document's map of sectors: Free, Take, Hold, Give. -/
import Derived.Test.YtkdodffnakdckaaExL
namespace Go.Proofs.Ytkdodffnakdckaa
open Go.RowKit

/-- From where on, up to where, and what is taken. -/
structure Mp where
  fr : Nat
  to_ : Nat
  tk : Nat → Bool

def Mp.ok (s : Mp) : Prop := s.fr ≤ s.to_ ∧ s.to_ ≤ 8192
def freeF (s : Mp) (k : Nat) : Bool := decide (s.fr ≤ k ∧ k < s.to_) && !s.tk k
def takeE (s : Mp) (n : Int) : Int := lowE (freeF s) n
def takeL (s : Mp) (n : Int) : List (Int × Int) := lowL (freeF s) n
def takeS (s : Mp) (n : Int) : Mp := if takeE s n = 0 then ⟨s.fr, s.to_, fun k => s.tk k || lowF (freeF s) n.toNat k⟩ else s
def holdE (s : Mp) (l : List (Int × Int)) : Int := if ¬ validL s.fr s.to_ l then 1 else if 0 < cntA (fun k => s.tk k && hasR l k) then 100 else 0
def holdS (s : Mp) (l : List (Int × Int)) : Mp := if holdE s l = 0 then ⟨s.fr, s.to_, fun k => s.tk k || hasR l k⟩ else s
def giveE (s : Mp) (l : List (Int × Int)) : Int := if ¬ validL s.fr s.to_ l then 1 else if 0 < cntA (fun k => hasR l k && !s.tk k) then 6 else 0
def giveS (s : Mp) (l : List (Int × Int)) : Mp := if giveE s l = 0 then ⟨s.fr, s.to_, fun k => s.tk k && !hasR l k⟩ else s

theorem takeS_ok {s : Mp} (h : s.ok) (n : Int) : (takeS s n).ok := by unfold takeS; split <;> exact h
theorem holdS_ok {s : Mp} (h : s.ok) (l : List (Int × Int)) : (holdS s l).ok := by unfold holdS; split <;> exact h
theorem giveS_ok {s : Mp} (h : s.ok) (l : List (Int × Int)) : (giveS s l).ok := by unfold giveS; split <;> exact h
theorem lowL_len (f : Nat → Bool) (n : Int) : (lowL f n).length ≤ 16 := by
  unfold lowL
  split
  · rename_i h
    unfold lowE at h
    split at h
    · cases h
    · split at h
      · cases h
      · rename_i h2
        omega
  · exact Nat.zero_le _
theorem lowL_wf (f : Nat → Bool) (n : Int) : wfR (lowL f n) := by unfold lowL; split; · exact runsA_wf _
                                                                  exact wfR_nil

/-- The document's map as a value. -/
def MpAt (s : Mp) (u : Value) (w : World) : Prop := ∃ tl tv, u = .agg #[.int .i64 (s.fr : Int), .int .i64 (s.to_ : Int), tv] ∧ RunsAt tl tv w ∧ tl.length ≤ 8192 ∧ ∀ k, k < 8192 → hasR tl k = s.tk k
theorem MpAt.later {s : Mp} {u : Value} {w w' : World} (h : MpAt s u w) (k : Kept w w') : MpAt s u w' := by
  obtain ⟨tl, tv, h1, h2, h3, h4⟩ := h
  exact ⟨tl, tv, h1, h2.later k, h3, h4⟩
theorem MpAt.of_own {s : Mp} {B : Nat} {f : Nat → Bool} {tv : Value} {w : World} (h : OwnRuns B (runsA f) tv w) (hf : ∀ k, k < 8192 → f k = s.tk k) : MpAt s (.agg #[.int .i64 (s.fr : Int), .int .i64 (s.to_ : Int), tv]) w :=
  ⟨runsA f, tv, rfl, h.at_ (runsA_wf f), runsA_len f, fun k hk => (runsA_has f k hk).trans (hf k hk)⟩

/-- A map's value behind a call: what it was, or one whose list the call made. -/
def MpNew (B : Nat) (u u' : Value) (w' : World) : Prop := u' = u ∨ ∃ a b f tv, u' = .agg #[a, b, tv] ∧ OwnRuns B (runsA f) tv w'

set_option maxRecDepth 100000 in
set_option maxHeartbeats 1000000 in
theorem rfree_any (s : Mp) (hs : s.ok) (u : Value) (w : World) (h : MpAt s u w) :
    Calls Try.prog 36 #[u] w fun e w' => ∃ x, e = .returned x ∧ OwnRuns w.heap.size (runsA (freeF s)) x w' ∧ Below w.heap.size w w' := by
  obtain ⟨tl, tv, rfl, ht, htl, htk⟩ := h
  have hs1 := hs.1
  have hs2 := hs.2
  obtain ⟨d, hd⟩ : ∃ d : Nat, d = s.to_ - s.fr := ⟨_, rfl⟩
  have v1 : IntKind.i64.wrap ((s.to_ : Int) - (s.fr : Int)) = (d : Int) := by rw [show (s.to_ : Int) - (s.fr : Int) = (d : Int) by omega]; exact IntWalk.i64_in _ (by omega)
  have MN := fun W (k : Kept w W) v (hv : RunsAt [((s.fr : Int), (d : Int))] v W) => rminus_any [((s.fr : Int), (d : Int))] tl v tv W hv (ht.later k) (by simp) (by omega)
  have HF : Hid (runsA (fun k => hasR [((s.fr : Int), (d : Int))] k && !hasR tl k) = runsA (freeF s)) := Lib.hid (runsA_congr (fun k hk => by
    unfold freeF
    rw [htk k hk, hasR_one]
    congr 1
    unfold inR
    refine decide_eq_decide.2 ?_
    show (s.fr : Int) ≤ k ∧ (k : Int) < (s.fr : Int) + (d : Int) ↔ _
    omega))
  obtain ⟨p, c, hp, -, -⟩ := ht.out
  obtain ⟨fr, hfr⟩ : ∃ fr, fr = s.fr := ⟨_, rfl⟩
  obtain ⟨te, hte⟩ : ∃ te, te = s.to_ := ⟨_, rfl⟩
  rw [← hfr, ← hte] at v1 ⊢
  rw [← hfr] at MN HF
  have HTV := Lib.hid hp
  obtain ⟨nl, hnl⟩ : ∃ nl, nl = tl.length := ⟨_, rfl⟩
  rw [← hnl] at hp
  subst hp
  have HW1 : Hid (wfR [((fr : Int), (d : Int))]) := Lib.hid (fun r hr => by rw [List.mem_singleton.1 hr]; show ((-9223372036854775808 : Int) ≤ (fr : Int) ∧ (fr : Int) ≤ 9223372036854775807) ∧ ((-9223372036854775808 : Int) ≤ (d : Int) ∧ (d : Int) ≤ 9223372036854775807); omega)
  clear hs hs1 hs2 hd ht htl htk hfr hte hnl HTV
  go_enter Try.func36, Try.ntmps36
  go_wp2_with fail
  refine (MN _ ?k1 _ ?k2).mono ?_
  case k1 => exact (show Kept w _ from box_below w _).then (box_below _ _)
  case k2 => exact RunsAt.of_cells HW1.out _ 1 (Nat.le_refl _) (Or.inr ⟨_, 0, rfl, fun j x hx => by rw [Nat.zero_add]; refine (cell_of_row _ _ _ _ _ _ (heap_alloc2_new w _ _)).trans ?_; rw [← Array.getElem?_toList]; exact hx⟩)
  rintro e w3 ⟨x, rfl, ho, hb3⟩
  rw [HF.out] at ho
  have HO : Hid (OwnRuns w.heap.size (runsA (freeF s)) x w3) := Lib.hid (ho.base (by simp; omega))
  have HK : Hid (Kept w w3) := Lib.hid (((show Kept w _ from box_below w _).then (box_below _ _)).then hb3)
  clear ho hb3 MN
  go_wp2
  go_ret
  exact ⟨_, rfl, HO.out, HK.out⟩

theorem lowE_congr {f g : Nat → Bool} (h : ∀ k, k < 8192 → f k = g k) (n : Int) : lowE f n = lowE g n := by
  unfold lowE
  rw [cntA_congr h, runsA_congr (f := lowF f n.toNat) (g := lowF g n.toNat) (fun k hk => lowF_congr n.toNat mxS h k hk)]
theorem lowL_congr {f g : Nat → Bool} (h : ∀ k, k < 8192 → f k = g k) (n : Int) : lowL f n = lowL g n := by
  unfold lowL
  rw [lowE_congr h, runsA_congr (f := lowF f n.toNat) (g := lowF g n.toNat) (fun k hk => lowF_congr n.toNat mxS h k hk)]
theorem takeL_ok (s : Mp) (n : Int) (h : takeE s n = 0) : takeL s n = runsA (lowF (freeF s) n.toNat) := by
  have h' : lowE (freeF s) n = 0 := h
  unfold takeL lowL; rw [if_pos h']

theorem results_cell2 {P : Program} {fn : Func} {p u v : Tmp} {ty : TypeId} (h : fn.results = #[.cell p ty, .tmp u, .tmp v]) (tmps : Array Value) (w : World) (g : Nat) (t : TypeId) (cs : Array Value) (fr : Nat × Nat) (d : TypeDesc)
    (hp : tmps.getD p undef = .pointer (some ⟨g, 0, none⟩)) (hg : w.heap[g]? = some (.cells cs t fr))
    (hu : P.underlying ty = some d) (hd : (match d with | .struct _ | .array _ _ => true | _ => false) = true) (hi : (P.info? ty).map (·.size) = some cs.size) :
    (results fn tmps).run P w = .ok (.tuple #[.agg cs, tmps.getD u undef, tmps.getD v undef]) w := by
  have hp' : tmps[p]?.getD undef = .pointer (some ⟨g, 0, none⟩) := by simpa using hp
  simp only [results, h]
  simp [Sem.run_bind, Result.andThen, hp', asAddr, run_loadVar_row w g t ty cs fr d hg hu hd hi]
theorem results_cell1 {P : Program} {fn : Func} {p u : Tmp} {ty : TypeId} (h : fn.results = #[.cell p ty, .tmp u]) (tmps : Array Value) (w : World) (g : Nat) (t : TypeId) (cs : Array Value) (fr : Nat × Nat) (d : TypeDesc)
    (hp : tmps.getD p undef = .pointer (some ⟨g, 0, none⟩)) (hg : w.heap[g]? = some (.cells cs t fr))
    (hu : P.underlying ty = some d) (hd : (match d with | .struct _ | .array _ _ => true | _ => false) = true) (hi : (P.info? ty).map (·.size) = some cs.size) :
    (results fn tmps).run P w = .ok (.tuple #[.agg cs, tmps.getD u undef]) w := by
  have hp' : tmps[p]?.getD undef = .pointer (some ⟨g, 0, none⟩) := by simpa using hp
  simp only [results, h]
  simp [Sem.run_bind, Result.andThen, hp', asAddr, run_loadVar_row w g t ty cs fr d hg hu hd hi]
theorem set3_row {w : World} {g : Nat} {a b c : Value} {T : TypeId} (h : w.heap[g]? = some (.cells #[a, b, c] T (0, 0))) (x y z : Value) : (((w.setCell ⟨g, 0, none⟩ x).setCell ⟨g, 1, none⟩ y).setCell ⟨g, 2, none⟩ z).heap[g]? = some (.cells #[x, y, z] T (0, 0)) := by
  rw [heap_setCell_same _ _ _ _ _ _ (heap_setCell_same _ _ _ _ _ _ (heap_setCell_same _ _ _ _ _ _ h))]
  rfl

end Go.Proofs.Ytkdodffnakdckaa
