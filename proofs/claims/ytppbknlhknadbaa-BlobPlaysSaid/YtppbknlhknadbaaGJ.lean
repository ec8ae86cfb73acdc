/- The document's map of sectors: Free, Take, Hold, Give. The document's Take. The document's Hold, Give. The contracts of the program's calls, by name, whatever they are made of; the statements' example. -/
import Derived.Test.YtppbknlhknadbaaExL
namespace Go.Proofs.Ytppbknlhknadbaa
open Go.RowKit

/-- From where on, up to where, and what is taken. -/
structure Mp where
  fr : Nat
  to_ : Nat
  tk : Nat → Bool

def Mp.ok (s : Mp) : Prop := s.fr ≤ s.to_ ∧ s.to_ ≤ 8192
def freeF (s : Mp) (k : Nat) : Bool := decide (s.fr ≤ k ∧ k < s.to_) && !s.tk k
def takeE (s : Mp) (n : Int) : Int := lowE (freeF s) n
def takeL (s : Mp) (n : Int) : List (Int × Int) := lowL (freeF s) n
def takeS (s : Mp) (n : Int) : Mp := if takeE s n = 0 then ⟨s.fr, s.to_, fun k => s.tk k || lowF (freeF s) n.toNat k⟩ else s
def holdE (s : Mp) (l : List (Int × Int)) : Int := if ¬ validL s.fr s.to_ l then 1 else if 0 < cntA (fun k => s.tk k && hasR l k) then 100 else 0
def holdS (s : Mp) (l : List (Int × Int)) : Mp := if holdE s l = 0 then ⟨s.fr, s.to_, fun k => s.tk k || hasR l k⟩ else s
def giveE (s : Mp) (l : List (Int × Int)) : Int := if ¬ validL s.fr s.to_ l then 1 else if 0 < cntA (fun k => hasR l k && !s.tk k) then 6 else 0
def giveS (s : Mp) (l : List (Int × Int)) : Mp := if giveE s l = 0 then ⟨s.fr, s.to_, fun k => s.tk k && !hasR l k⟩ else s

theorem takeS_ok {s : Mp} (h : s.ok) (n : Int) : (takeS s n).ok := by unfold takeS; split <;> exact h
theorem holdS_ok {s : Mp} (h : s.ok) (l : List (Int × Int)) : (holdS s l).ok := by unfold holdS; split <;> exact h
theorem giveS_ok {s : Mp} (h : s.ok) (l : List (Int × Int)) : (giveS s l).ok := by unfold giveS; split <;> exact h
theorem lowL_len (f : Nat → Bool) (n : Int) : (lowL f n).length ≤ 16 := by
  unfold lowL
  split
  · rename_i h
    unfold lowE at h
    split at h
    · cases h
    · split at h
      · cases h
      · rename_i h2
        omega
  · exact Nat.zero_le _
theorem lowL_wf (f : Nat → Bool) (n : Int) : wfR (lowL f n) := by unfold lowL; split; · exact runsA_wf _
                                                                  exact wfR_nil

/-- The document's map as a value. -/
def MpAt (s : Mp) (u : Value) (w : World) : Prop := ∃ tl tv, u = .agg #[.int .i64 (s.fr : Int), .int .i64 (s.to_ : Int), tv] ∧ RunsAt tl tv w ∧ tl.length ≤ 8192 ∧ ∀ k, k < 8192 → hasR tl k = s.tk k
theorem MpAt.later {s : Mp} {u : Value} {w w' : World} (h : MpAt s u w) (k : Kept w w') : MpAt s u w' := by
  obtain ⟨tl, tv, h1, h2, h3, h4⟩ := h
  exact ⟨tl, tv, h1, h2.later k, h3, h4⟩
theorem MpAt.of_own {s : Mp} {B : Nat} {f : Nat → Bool} {tv : Value} {w : World} (h : OwnRuns B (runsA f) tv w) (hf : ∀ k, k < 8192 → f k = s.tk k) : MpAt s (.agg #[.int .i64 (s.fr : Int), .int .i64 (s.to_ : Int), tv]) w :=
  ⟨runsA f, tv, rfl, h.at_ (runsA_wf f), runsA_len f, fun k hk => (runsA_has f k hk).trans (hf k hk)⟩

/-- A map's value behind a call: what it was, or one whose list the call made. -/
def MpNew (B : Nat) (u u' : Value) (w' : World) : Prop := u' = u ∨ ∃ a b f tv, u' = .agg #[a, b, tv] ∧ OwnRuns B (runsA f) tv w'

theorem lowE_congr {f g : Nat → Bool} (h : ∀ k, k < 8192 → f k = g k) (n : Int) : lowE f n = lowE g n := by
  unfold lowE
  rw [cntA_congr h, runsA_congr (f := lowF f n.toNat) (g := lowF g n.toNat) (fun k hk => lowF_congr n.toNat mxS h k hk)]
theorem lowL_congr {f g : Nat → Bool} (h : ∀ k, k < 8192 → f k = g k) (n : Int) : lowL f n = lowL g n := by
  unfold lowL
  rw [lowE_congr h, runsA_congr (f := lowF f n.toNat) (g := lowF g n.toNat) (fun k hk => lowF_congr n.toNat mxS h k hk)]
theorem takeL_ok (s : Mp) (n : Int) (h : takeE s n = 0) : takeL s n = runsA (lowF (freeF s) n.toNat) := by
  have h' : lowE (freeF s) n = 0 := h
  unfold takeL lowL; rw [if_pos h']

theorem results_cell2 {P : Program} {fn : Func} {p u v : Tmp} {ty : TypeId} (h : fn.results = #[.cell p ty, .tmp u, .tmp v]) (tmps : Array Value) (w : World) (g : Nat) (t : TypeId) (cs : Array Value) (fr : Nat × Nat) (d : TypeDesc)
    (hp : tmps.getD p undef = .pointer (some ⟨g, 0, none⟩)) (hg : w.heap[g]? = some (.cells cs t fr))
    (hu : P.underlying ty = some d) (hd : (match d with | .struct _ | .array _ _ => true | _ => false) = true) (hi : (P.info? ty).map (·.size) = some cs.size) :
    (results fn tmps).run P w = .ok (.tuple #[.agg cs, tmps.getD u undef, tmps.getD v undef]) w := by
  have hp' : tmps[p]?.getD undef = .pointer (some ⟨g, 0, none⟩) := by simpa using hp
  simp only [results, h]
  simp [Result.andThen, hp', asAddr, run_loadVar_row w g t ty cs fr d hg hu hd hi]
theorem results_cell1 {P : Program} {fn : Func} {p u : Tmp} {ty : TypeId} (h : fn.results = #[.cell p ty, .tmp u]) (tmps : Array Value) (w : World) (g : Nat) (t : TypeId) (cs : Array Value) (fr : Nat × Nat) (d : TypeDesc)
    (hp : tmps.getD p undef = .pointer (some ⟨g, 0, none⟩)) (hg : w.heap[g]? = some (.cells cs t fr))
    (hu : P.underlying ty = some d) (hd : (match d with | .struct _ | .array _ _ => true | _ => false) = true) (hi : (P.info? ty).map (·.size) = some cs.size) :
    (results fn tmps).run P w = .ok (.tuple #[.agg cs, tmps.getD u undef]) w := by
  have hp' : tmps[p]?.getD undef = .pointer (some ⟨g, 0, none⟩) := by simpa using hp
  simp only [results, h]
  simp [Result.andThen, hp', asAddr, run_loadVar_row w g t ty cs fr d hg hu hd hi]
theorem set3_row {w : World} {g : Nat} {a b c : Value} {T : TypeId} (h : w.heap[g]? = some (.cells #[a, b, c] T (0, 0))) (x y z : Value) : (((w.setCell ⟨g, 0, none⟩ x).setCell ⟨g, 1, none⟩ y).setCell ⟨g, 2, none⟩ z).heap[g]? = some (.cells #[x, y, z] T (0, 0)) := by
  rw [heap_setCell_same _ _ _ _ _ _ (heap_setCell_same _ _ _ _ _ _ (heap_setCell_same _ _ _ _ _ _ h))]
  rfl

end Go.Proofs.Ytppbknlhknadbaa
namespace Go.Proofs.Ytppbknlhknadbaa
open Go.RowKit

end Go.Proofs.Ytppbknlhknadbaa
namespace Go.Proofs.Ytppbknlhknadbaa
open Go.RowKit

end Go.Proofs.Ytppbknlhknadbaa
namespace Go.Proofs.Ytppbknlhknadbaa
open Go.RowKit

def XMayOk : Prop := ∀ (l : List (Int × Int)) (v : Value) (w : World) (a b : Int), RunsAt l v w → l.length ≤ 65536 → I64 a → I64 b → Calls Try.prog 31 #[v, .int .i64 a, .int .i64 b] w fun e w' => e = .returned (.bool (decide (validL a b l))) ∧ Kept w w'
def XCountOk : Prop := ∀ (l : List (Int × Int)) (v : Value) (w : World), RunsAt l v w → l.length ≤ 65536 → Calls Try.prog 32 #[v] w fun e w' => e = .returned (.int .i64 (cntA (hasR l) : Nat)) ∧ Kept w w'
def XPlainOk : Prop := ∀ (l : List (Int × Int)) (v : Value) (w : World), RunsAt l v w → l.length ≤ 65536 → Calls Try.prog 63 #[v] w fun e w' => ∃ x, e = .returned x ∧ RunsAt (runsA (hasR l)) x w' ∧ Kept w w'
def XCommonOk : Prop := ∀ (la lb : List (Int × Int)) (u v : Value) (w : World), RunsAt la u w → RunsAt lb v w → la.length ≤ 65536 → lb.length ≤ 65536 → Calls Try.prog 56 #[u, v] w fun e w' => ∃ x, e = .returned x ∧ RunsAt (runsA (fun k => hasR la k && hasR lb k)) x w' ∧ Kept w w'
/-- What a call that changes a map leaves. -/
def XPost (P : Mp → (Nat → Prop) → World → Prop) (Bs : Nat → Prop) (s' : Mp) (w : World) (Bs' : Nat → Prop) (w' : World) : Prop :=
  P s' Bs' w' ∧ (∀ k, Bs' k → Bs k ∨ w.heap.size ≤ k) ∧ ButBy Bs w w'
structure MapOk (B : Nat) (x : Value) (P : Mp → (Nat → Prop) → World → Prop) : Prop where
  above : ∀ s Bs w, P s Bs w → ∀ k, Bs k → B ≤ k ∧ k < w.heap.size
  stay : ∀ s Bs w w', P s Bs w → w.heap.size ≤ w'.heap.size → (∀ k, Bs k → w'.heap[k]? = w.heap[k]?) → P s Bs w'
theorem MapOk.kept {B : Nat} {x : Value} {P : Mp → (Nat → Prop) → World → Prop} (D : MapOk B x P) {s : Mp} {Bs : Nat → Prop} {w w' : World} (h : P s Bs w) (k : Kept w w') : P s Bs w' :=
  D.stay s Bs w w' h k.size (fun j hj => k.block j (D.above s Bs w h j hj).2)

/-! ### The example -/
theorem runsF_stop (f : Nat → Bool) (m : Nat) : ∀ j, (∀ k, m ≤ k → k < m + j → f k = false) → runsF f (m + j) = runsF f m
  | 0, _ => rfl
  | j + 1, h => by
    show runsF f (m + j + 1) = _
    rw [runsF, if_neg (by rw [h (m + j) (by omega) (by omega)]; decide)]
    exact runsF_stop f m j (fun k h1 h2 => h k h1 (by omega))
theorem runsA_to (f g : Nat → Bool) (m : Nat) (hm : m ≤ 8192) (hf : ∀ k, m ≤ k → k < 8192 → f k = false) (hg : ∀ k, k < m → f k = g k) : runsA f = runsF g m := by
  have h := runsF_stop f m (8192 - m) (fun k h1 h2 => hf k h1 (by omega))
  rw [show m + (8192 - m) = mxS by show _ = 8192; omega] at h
  unfold runsA
  rw [h]
  exact runsF_congr m hg

theorem ex_a : runsA (hasR [(4, 2), (0, 2), (2, 2)]) = [(0, 6)] := by
  rw [runsA_to (hasR [(4, 2), (0, 2), (2, 2)]) (fun _ => true) 6 (by omega) (fun k h1 _ => by
    unfold hasR inR; simp; omega) (fun k hk => by unfold hasR inR; simp; omega)]
  decide
theorem ex_b : runsA (fun k => hasR [(0, 10)] k && !hasR [(3, 2)] k) = [(0, 3), (5, 5)] := by
  rw [runsA_to (fun k => hasR [(0, 10)] k && !hasR [(3, 2)] k) (fun k => !decide (3 ≤ k ∧ k < 5)) 10 (by omega) (fun k h1 _ => by
    unfold hasR inR; simp; omega) (fun k hk => by
    have e1 : hasR [(0, 10)] k = true := by unfold hasR inR; simp; omega
    have e2 : hasR [(3, 2)] k = decide (3 ≤ k ∧ k < 5) := by
      rw [hasR_one]; unfold inR; refine decide_eq_decide.2 ?_
      show (3 : Int) ≤ k ∧ (k : Int) < 3 + 2 ↔ _
      omega
    rw [e1, e2]; rfl)]
  decide

end Go.Proofs.Ytppbknlhknadbaa
