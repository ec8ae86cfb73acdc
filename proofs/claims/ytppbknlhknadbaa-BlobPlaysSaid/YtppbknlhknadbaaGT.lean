/- A loop over an iterator whose body writes a disk: what it may write, what it keeps. Writes in the order of an iterator: the mathematics; what a loop that writes a disk keeps besides; a result in a cell. -/
import Derived.Test.YtppbknlhknadbaaGF
import Derived.Test.YtppbknlhknadbaaGE
namespace Go.Proofs.Ytppbknlhknadbaa
open Go.RowKit Go.Shelf

/-- The worlds of a loop that writes a disk and its own boxes X; what it may write. -/
def GD (P : Dk → (Nat → Prop) → World → Prop) (Rd X : Nat → Prop) (W : World) : Prop := (∃ s Bs, P s Bs W ∧ ∀ k, Bs k → ¬ Rd k) ∧ ∀ k, X k → k < W.heap.size
def FtD (P : Dk → (Nat → Prop) → World → Prop) (X : Nat → Prop) (W : World) (k : Nat) : Prop := X k ∨ ∃ s Bs, P s Bs W ∧ Bs k

section
variable {B : Nat} {x : Value} {P : Dk → (Nat → Prop) → World → Prop} (D : DiskOk B x P)
include D

theorem footD {Rd X : Nat → Prop} (hX : ∀ k, X k → ¬ Rd k) : Foot (FtD P X) (GD P Rd X) Rd where
  low := by
    rintro W k ⟨⟨s, Bs, hp, hn⟩, _⟩ (h | ⟨s', Bs', hp', hk⟩)
    · exact hX k h
    · rw [D.one _ _ _ _ _ hp' hp] at hk
      exact hn k hk
  lt := by
    rintro W k ⟨_, hl⟩ (h | ⟨s', Bs', hp', hk⟩)
    · exact hl k h
    · exact (D.above _ _ _ hp' k hk).2
  good := by
    rintro W W' ⟨⟨s, Bs, hp, hn⟩, hl⟩ K
    exact ⟨⟨s, Bs, D.kept hp K, hn⟩, fun k hk => Nat.lt_of_lt_of_le (hl k hk) K.size⟩
  later := by
    rintro W W' k ⟨⟨s, Bs, hp, _⟩, _⟩ K (h | ⟨s', Bs', hp', hk⟩)
    · exact Or.inl h
    · rw [D.one _ _ _ _ _ hp' (D.kept hp K)] at hk
      exact Or.inr ⟨s, Bs, hp, hk⟩

/-- A disk abides the turns of the loop's own records. -/
theorem diskFrom {s0 s : Dk} {Bs0 Bs : Nat → Prop} {w0 W W' : World} {row : Option Nat} (hp0 : P s0 Bs0 w0) (hp : P s Bs W) (hg : W.grownBy W' row)
    (hr : ∀ r, row = some r → w0.heap.size ≤ r ∧ ∃ o : Obj, W.heap[r]? = some o ∧ o.isCells = false) : P s Bs W' :=
  D.stay s Bs W W' hp hg.size (fun k hk => hg.block k (D.above _ _ _ hp k hk).2 (fun e => by
    obtain ⟨h1, o, ho, hc⟩ := hr k e.symm
    rcases D.grow _ _ _ _ _ _ k hp0 hp hk with y | ⟨cs, T, fr, y⟩
    · have := (D.above _ _ _ hp0 k y).2; omega
    · rw [y] at ho
      have := Option.some.inj ho
      subst this
      cases hc))
theorem ownFrom_disk {β : Type} {s0 : Dk} {Bs0 : Nat → Prop} {w0 : World} (hp0 : P s0 Bs0 w0) (Cnd : β → Dk → (Nat → Prop) → Prop) : OwnFrom w0.heap.size (fun b W => ∃ s Bs, P s Bs W ∧ Cnd b s Bs) :=
  fun _ _ _ _ ⟨s, Bs, hp, hc⟩ hg hr => ⟨s, Bs, diskFrom D hp0 hp hg hr, hc⟩
theorem kpD_put {Rd X : Nat → Prop} {s0 : Dk} {Bs0 : Nat → Prop} {w0 : World} (hp0 : P s0 Bs0 w0) (W : World) (l : Nat) (o o' : Obj) (hl : w0.heap.size ≤ l) (ho : W.heap[l]? = some o) (hc : o.isCells = false) :
    KpF (FtD P X) (GD P Rd X) W (W.putObj l o') := by
  have hg := grownBy_putObj' W l o'
  have hst : ∀ {s : Dk} {Bs : Nat → Prop}, P s Bs W → P s Bs (W.putObj l o') := fun hp => diskFrom D hp0 hp hg (fun r e => by cases e; exact ⟨hl, o, ho, hc⟩)
  refine ⟨hg.size, fun _ k cs T fr hk _ => ?_, fun ⟨⟨s, Bs, hp, _⟩, _⟩ k hk => ?_, fun ⟨⟨s, Bs, hp, hn⟩, hx⟩ => ⟨⟨s, Bs, hst hp, hn⟩, fun k hk => Nat.lt_of_lt_of_le (hx k hk) hg.size⟩⟩
  · have e : k ≠ l := fun e => by
      subst e
      rw [hk] at ho
      have := Option.some.inj ho
      subst this
      cases hc
    rw [World.putObj_heap_other e]
    exact hk
  · rcases hk with h | ⟨s', Bs', hp', hk⟩
    · exact Or.inl (Or.inl h)
    · rw [D.one _ _ _ _ _ hp' (hst hp)] at hk
      exact Or.inl (Or.inr ⟨s, Bs, hp, hk⟩)
/-- A round of the body. -/
theorem kpD_step {Rd X : Nat → Prop} {s s' : Dk} {Bs Bs' : Nat → Prop} {W W' : World} (hp : P s Bs W) (hp' : P s' Bs' W') (hs : ∀ k, Bs' k → Bs k ∨ W.heap.size ≤ k) (hb : ButBy (fun k => Bs k ∨ X k) W W') (hR : ∀ k, Rd k → k < W.heap.size) :
    KpF (FtD P X) (GD P Rd X) W W' := by
  refine ⟨hb.size, fun _ k cs T fr hk hn => ?_, fun _ k hk => ?_, fun ⟨⟨s1, Bs1, hp1, hn⟩, hx⟩ => ⟨⟨s', Bs', hp', fun k hk hr => ?_⟩, fun k hk => Nat.lt_of_lt_of_le (hx k hk) hb.size⟩⟩
  · rw [hb.block k (Array.getElem?_eq_some_iff.1 hk).1 (fun y => hn (y.elim (fun z => Or.inr ⟨s, Bs, hp, z⟩) Or.inl))]
    exact hk
  · rcases hk with h | ⟨s2, Bs2, hp2, hk⟩
    · exact Or.inl (Or.inl h)
    · rw [D.one _ _ _ _ _ hp2 hp'] at hk
      exact (hs k hk).imp (fun y => Or.inr ⟨s, Bs, hp, y⟩) id
  · rcases hs k hk with y | y
    · rw [D.one _ _ _ _ _ hp hp1] at y
      exact hn k y hr
    · have := hR k hr; omega
theorem keepsFrom_disk {X : Nat → Prop} {s0 s : Dk} {Bs0 Bs : Nat → Prop} {w0 W W' : World} (hp0 : P s0 Bs0 w0) (hp : P s Bs W) (hX : ∀ k, X k → ∃ cs T fr, W.heap[k]? = some (.cells cs T fr)) (hb : ButBy (fun k => Bs k ∨ X k) W W') :
    KeepsFrom w0.heap.size W W' :=
  ⟨hb.size, fun k o hk ho hc => (hb.block k (Array.getElem?_eq_some_iff.1 ho).1 (fun y => by
    have hcell : ∃ cs T fr, W.heap[k]? = some (.cells cs T fr) := by
      rcases y with y | y
      · rcases D.grow _ _ _ _ _ _ k hp0 hp y with z | z
        · have := (D.above _ _ _ hp0 k z).2; omega
        · exact z
      · exact hX k y
    obtain ⟨cs, T, fr, z⟩ := hcell
    rw [z] at ho
    have := Option.some.inj ho
    subst this
    cases hc)).trans ho⟩
end

end Go.Proofs.Ytppbknlhknadbaa
namespace Go.Proofs.Ytppbknlhknadbaa
open Go.RowKit Go.Shelf

/-- The disk behind the writes of these sectors, from part k on; were they all without error? -/
def putR (t : List UInt8) : Nat → Dk → List (Fin 8192) → Dk
  | _, s, [] => s
  | k, s, x :: xs => putR t (k + 1) (s.writeS (x.val : Int) (partB t k)) xs
def okR (t : List UInt8) : Nat → Dk → List (Fin 8192) → Prop
  | _, _, [] => True
  | k, s, x :: xs => s.writeE (x.val : Int) (partB t k) = 0 ∧ okR t (k + 1) (s.writeS (x.val : Int) (partB t k)) xs
theorem putR_snoc (t : List UInt8) (x : Fin 8192) : ∀ (l : List (Fin 8192)) (k : Nat) (s : Dk), putR t k s (l ++ [x]) = (putR t k s l).writeS (x.val : Int) (partB t (k + l.length))
  | [], _, _ => rfl
  | y :: l, k, s => by
    show putR t (k + 1) _ (l ++ [x]) = _
    rw [putR_snoc t x l (k + 1), List.length_cons, show k + 1 + l.length = k + (l.length + 1) by omega]
    rfl
theorem okR_snoc (t : List UInt8) (x : Fin 8192) : ∀ (l : List (Fin 8192)) (k : Nat) (s : Dk), okR t k s (l ++ [x]) ↔ okR t k s l ∧ (putR t k s l).writeE (x.val : Int) (partB t (k + l.length)) = 0
  | [], k, s => by
    show s.writeE (x.val : Int) (partB t k) = 0 ∧ True ↔ True ∧ s.writeE (x.val : Int) (partB t (k + 0)) = 0
    simp
  | y :: l, k, s => by
    show s.writeE (y.val : Int) (partB t k) = 0 ∧ okR t (k + 1) _ (l ++ [x]) ↔ (s.writeE (y.val : Int) (partB t k) = 0 ∧ okR t (k + 1) _ l) ∧ _
    rw [okR_snoc t x l (k + 1), List.length_cons, show k + 1 + l.length = k + (l.length + 1) by omega, and_assoc]
    rfl
/-- All have come. -/
theorem putG_all (t : List UInt8) (L : List Nat) : ∀ (l : List (Fin 8192)) (k : Nat) (s : Dk), okR t k s l → (∀ i (h : i < l.length), L.getD (k + i) 0 = l[i].val) → putG s L t k l.length = (putR t k s l, 0)
  | [], _, _, _, _ => rfl
  | x :: l, k, s, h, hL => by
    have h0 : L.getD k 0 = x.val := hL 0 (by simp)
    show (if s.writeE (L.getD k 0 : Nat) (partB t k) = 0 then putG (s.writeS (L.getD k 0 : Nat) (partB t k)) L t (k + 1) l.length else _) = _
    rw [h0, if_pos h.1]
    exact putG_all t L l (k + 1) _ h.2 (fun i hi => by
      have := hL (i + 1) (by simpa using hi)
      rw [show k + 1 + i = k + (i + 1) by omega]
      exact this)
/-- One has an error. -/
theorem putG_stop (t : List UInt8) (L : List Nat) (x : Fin 8192) (er : Int) (he : er ≠ 0) : ∀ (l : List (Fin 8192)) (k : Nat) (s : Dk), okR t k s l → (putR t k s l).writeE (x.val : Int) (partB t (k + l.length)) = er →
    (∀ i (h : i < (l ++ [x]).length), L.getD (k + i) 0 = (l ++ [x])[i].val) → ∀ g, l.length + 1 ≤ g → putG s L t k g = (putR t k s (l ++ [x]), er)
  | [], k, s, _, hx, hL, g, hg => by
    obtain ⟨g, rfl⟩ : ∃ g', g = g' + 1 := ⟨g - 1, by simp at hg; omega⟩
    have h0 : L.getD k 0 = x.val := hL 0 (by simp)
    have hx' : s.writeE (x.val : Int) (partB t k) = er := hx
    show (if s.writeE (L.getD k 0 : Nat) (partB t k) = 0 then _ else (s.writeS (L.getD k 0 : Nat) (partB t k), s.writeE (L.getD k 0 : Nat) (partB t k))) = _
    rw [h0, if_neg (by rw [hx']; exact he), hx']
    rfl
  | y :: l, k, s, h, hx, hL, g, hg => by
    obtain ⟨g, rfl⟩ : ∃ g', g = g' + 1 := ⟨g - 1, by simp at hg; omega⟩
    have h0 : L.getD k 0 = y.val := hL 0 (by simp)
    show (if s.writeE (L.getD k 0 : Nat) (partB t k) = 0 then putG (s.writeS (L.getD k 0 : Nat) (partB t k)) L t (k + 1) g else _) = _
    rw [h0, if_pos h.1]
    refine putG_stop t L x er he l (k + 1) _ h.2 ?_ (fun i hi => ?_) g (by simp at hg; omega)
    · rw [List.length_cons, show k + (l.length + 1) = k + 1 + l.length by omega] at hx
      exact hx
    · have := hL (i + 1) (by simpa using hi)
      rw [show k + 1 + i = k + (i + 1) by omega]
      exact this
/-- What has come is a head of the runs' sectors. -/
theorem secF_head {l : List (Int × Int)} (hv : validL 0 8192 l) {pre : List (Fin 8192)} (h : pre <+: secF l) : ∀ i (hi : i < pre.length), (allR l).getD (0 + i) 0 = pre[i].val := fun i hi => by
  obtain ⟨r, hr⟩ := h
  have hs : secsL l = allR l := if_pos hv
  have hlen : i < (allR l).length := by
    have : (secF l).length = (allR l).length := by unfold secF; rw [List.length_map, hs]
    rw [← this, ← hr, List.length_append]
    omega
  have e : (secF l)[i]? = some pre[i] := by rw [← hr, List.getElem?_append_left hi, List.getElem?_eq_getElem hi]
  unfold secF at e
  rw [hs, List.getElem?_map, List.getElem?_eq_getElem hlen] at e
  have e2 := Option.some.inj e
  rw [Nat.zero_add, List.getD_eq_getElem?_getD, List.getElem?_eq_getElem hlen, ← e2]
  exact (Nat.mod_eq_of_lt (allR_lt hv _ (List.getElem_mem hlen))).symm

theorem ownFrom_butBy {β : Type} {Bs : Nat → Prop} {w w0 : World} (h : w.heap.size ≤ w0.heap.size) : OwnFrom w0.heap.size (fun (_ : β) W => ButBy Bs w W) :=
  fun _ W W' row hs hg hr => ⟨hg.os.trans hs.os, hg.tape.trans hs.tape, hg.output.trans hs.output, Nat.le_trans hs.size hg.size, fun k hk hn => (hg.block k (Nat.lt_of_lt_of_le hk hs.size) (fun e => by
    have := (hr k e.symm).1; omega)).trans (hs.block k hk hn)⟩

theorem results_cellA1 {P : Program} {fn : Func} {p : Tmp} {ty : TypeId} {k : IntKind} (h : fn.results = #[.cell p ty]) (tmps : Array Value) (w : World) (a : Addr) (hp : tmps.getD p undef = .pointer (some a)) (hu : P.underlying ty = some (.int k)) (v : Value) (hc : w.cell? a = some v) :
    (results fn tmps).run P w = .ok v w := by
  have u := run_underlying hu
  have hp' : tmps[p]?.getD undef = .pointer (some a) := by simpa using hp
  simp [results, h, hp', asAddr, loadVar, isAgg, u, hc]

end Go.Proofs.Ytppbknlhknadbaa
