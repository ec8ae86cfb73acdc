/- The statement's told: what an iterator yields, up to so many; Each's contract by name. The law BlobFits, out of the contracts by name. What was put, flushed, is got; all else stays: the mathematics of BlobBack, of no program. -/
import Derived.Test.YtppbknlhknadbaaBlR
import Derived.RangeFuncNested
import Derived.RangeFuncBound
import Derived.RangeFuncCalls
import Derived.RangeFuncLeaves
import Derived.RangeFuncBox
import Derived.Shelf.Abstract
import Derived.OwnWalkIn
import Derived.TacticsInMore
import Derived.LoopNIn
import Derived.LoopIn
import Derived.Maps.AppendAt
import Derived.Test.YtppbknlhknadbaaGE
import Derived.Test.YtppbknlhknadbaaGA
namespace Go.Proofs.Ytppbknlhknadbaa
open Go.RowKit Go.Shelf
attribute [local go_sem] Oper.semAt_some

/-- What a loop's body may write (Ft), in the worlds that it keeps to (G): nothing that the iterator reads (Rd); only blocks that are there; and what is laid besides changes neither. -/
structure Foot (Ft : World → Nat → Prop) (G : World → Prop) (Rd : Nat → Prop) : Prop where
  low : ∀ W k, G W → Ft W k → ¬ Rd k
  lt : ∀ W k, G W → Ft W k → k < W.heap.size
  good : ∀ W W', G W → Kept W W' → G W'
  later : ∀ W W' k, G W → Kept W W' → Ft W' k → Ft W k
/-- What a round keeps: all cells but those. -/
structure KpF (Ft : World → Nat → Prop) (G : World → Prop) (W W' : World) : Prop where
  size : W.heap.size ≤ W'.heap.size
  row : G W → ∀ (k : Nat) (cs : Array Value) (T : TypeId) (fr : Nat × Nat), W.heap[k]? = some (.cells cs T fr) → ¬ Ft W k → W'.heap[k]? = some (.cells cs T fr)
  foot : G W → ∀ k, Ft W' k → Ft W k ∨ W.heap.size ≤ k
  good : G W → G W'
theorem KpF.trans {Ft : World → Nat → Prop} {G : World → Prop} {A B C : World} (h : KpF Ft G A B) (k : KpF Ft G B C) : KpF Ft G A C where
  size := Nat.le_trans h.size k.size
  row := fun g j cs T fr hj hn => k.row (h.good g) j cs T fr (h.row g j cs T fr hj hn) (fun x => by
    rcases h.foot g j x with y | y
    · exact hn y
    · have := (Array.getElem?_eq_some_iff.1 hj).1; omega)
  foot := fun g j hj => by
    rcases k.foot (h.good g) j hj with y | y
    · exact h.foot g j y
    · exact Or.inr (Nat.le_trans h.size y)
  good := fun x => k.good (h.good x)

def OwnFnE (f : FuncId) : Prop := ∀ (args : Array Value) (w : World), (callFunc f args).run Try.prog w = .ok (.enter f args) w
/-- A function value of the program's own that yields the numbers of a list, in order, to any body that leaves alone what it reads. -/
def IterAt (g : Nat) (lb : Array Value) (L : List (Fin 8192)) (Rd : Nat → Prop) (w : World) : Prop := ∀ (W0 : World) (Ft : World → Nat → Prop) (G : World → Prop), Kept w W0 → G W0 → Foot Ft G Rd → ∀ n, 5 ≤ n →
  SeqStopsK Fence.wide n Try.prog g lb (fun x : Fin 8192 => #[.int .i64 (x.val : Int)]) (KpF Ft G) (fun ys => ys = L) (fun pre => pre <+: L) L.length W0
def secI (l : List (Int × Int)) : List Int := List.map (fun (k : Nat) => (k : Int)) (secsL l)
def secF (l : List (Int × Int)) : List (Fin 8192) := (secsL l).map (Fin.ofNat 8192)
def fints (l : List (Fin 8192)) : List Int := l.map (fun k => (k.val : Int))
theorem fints_len (l : List (Fin 8192)) : (fints l).length = l.length := List.length_map _
theorem fints_append (a b : List (Fin 8192)) : fints (a ++ b) = fints a ++ fints b := List.map_append
theorem fints_take (l : List (Fin 8192)) (k : Nat) : fints (l.take k) = (fints l).take k := List.map_take
theorem allR_lt {l : List (Int × Int)} (hv : validL 0 8192 l) : ∀ k ∈ allR l, k < 8192 := fun k hk => by
  have hn := validL_nonneg hv
  obtain ⟨r, hr, hk2⟩ := (hasR_iff l k).1 ((allR_mem (l := l) (fun r hr => (hn r hr).1) k).1 hk)
  have := hn r hr
  omega
theorem secsL_lt (l : List (Int × Int)) : ∀ k ∈ secsL l, k < 8192 := fun k hk => by
  unfold secsL at hk
  split at hk
  · rename_i hv; exact allR_lt hv k hk
  · simp at hk
theorem fints_secF (l : List (Int × Int)) : fints (secF l) = secI l := by
  unfold fints secF secI
  rw [List.map_map]
  refine List.map_congr_left (fun k hk => ?_)
  have := secsL_lt l k hk
  simp only [Function.comp, Fin.ofNat]
  rw [Nat.mod_eq_of_lt this]
def BEachOk : Prop := ∀ (l : List (Int × Int)) (v : Value) (w : World), RunsAt l v w → l.length ≤ 65536 →
  Calls Try.prog 29 #[v] w fun e w' => (∃ g lb Rd, e = .returned (.func (.func g) #[] lb) ∧ OwnFnE g ∧ IterAt g lb (secF l) Rd w' ∧
    ∀ k, Rd k → k < w'.heap.size ∧ (w.heap.size ≤ k ∨ ∃ (a : Addr) (n c : Nat), v = .slice (some a) n c ∧ n ≠ 0 ∧ a.block = k)) ∧ Kept w w'

theorem wpListIn_append_flat {F : Fence} {n : Nat} {P : Program} (w : World) {ops : Array Oper} {rest : List Oper} {o : Oper} {a : Act} {Q : Exit → Act → World → Prop}
    (hg : o.guard = none) (s x : Operand) (t : TypeId) (hop : o.op = Op.call { callee := Callee.builtin Builtin.append, args := #[s, x], argTypes := #[t, t] })
    (base : Nat) (e : TypeId) (i : TypeInfo) (z : Value) (size bytes : Nat) (h1 : P.underlying t = some (.slice e)) (h2 : P.info? e = some i) (h3 : i.zero = some z) (h4 : i.size = size) (h5 : i.bytes = bytes) (h6 : z.cells.size = size) (h7 : 0 < size)
    (v : Value) (k : Nat) (xs : List Value) (hs : a.eval s = v) (hown : w.ownsRow base e size v k xs) (u : Value) (m : Nat) (news : List Value) (hx : a.eval x = u) (hu : FlatAt size m news u w)
    (b1 : k + m ≤ maxLen) (b2 : (k + m) * bytes ≤ 140737488355328) (b3 : base ≤ w.heap.size)
    (hK : ∀ v' w', w'.ownsRow base e size v' (k + m) (xs ++ news) → w.grownBy w' v.ownBlock → (v'.ownBlock = v.ownBlock ∨ v'.ownBlock = some w.heap.size) → wpListIn F n P ops Q rest (a.put o.dst v') w') :
    wpListIn F n P ops Q (o :: rest) a w := by
  refine wpListIn_plain hg fun K hK' => ?_
  obtain ⟨v', w', hrun, r1, r2, r3⟩ := run_append_flat (P := P) w base t o.type e i z size bytes h1 h2 h3 h4 h5 h6 h7 v k xs hown u m news hu b1 b2 b3
  unfold Oper.wpIn
  refine ⟨?_, ?_⟩
  · simp [Oper.about, hop, resolve, Target.leads, Sem.run_pure]
  · rw [Oper.semAt_plain F _ _ (by rw [hop]; intro c hc'; cases hc')]
    simp [execOp, hop, resolve, invoke, builtin, hs, hx, hrun, Result.andThen]
    exact hK' _ _ (hK v' w' r1 r2 r3)

theorem infoInt : (Try.prog.info? 3).map (fun i => (i.zero, i.size, i.bytes)) = some (some (.int .i64 0), 1, 8) := by kernel_rfl

/-- A box that holds an own row of numbers. -/
def BoxRow (n₀ bl : Nat) (L : List Int) (W : World) : Prop := ∃ v, Boxed W bl 24 v ∧ W.ownsRow n₀ 3 1 v L.length (L.map (Value.int .i64))
def GoodB (n₀ bl : Nat) (W : World) : Prop := n₀ ≤ bl ∧ ∃ v, Boxed W bl 24 v ∧ ∀ k, v.ownBlock = some k → n₀ ≤ k ∧ k < W.heap.size
def FtB (n₀ bl : Nat) (W : World) (k : Nat) : Prop := n₀ ≤ k ∧ (k = bl ∨ ∃ v, Boxed W bl 24 v ∧ v.ownBlock = some k)
theorem Boxed.one {W : World} {b : Nat} {t : TypeId} {u v : Value} (h : Boxed W b t u) (k : Boxed W b t v) : u = v := by
  have := (show W.heap[b]? = _ from h).symm.trans k
  simpa using this
theorem footB (n₀ bl : Nat) (Rd : Nat → Prop) (hR : ∀ k, Rd k → k < n₀) : Foot (FtB n₀ bl) (GoodB n₀ bl) Rd where
  low := fun W k _ h hk => absurd h.1 (Nat.not_le.2 (hR k hk))
  lt := fun W k ⟨_, v, hv, hl⟩ ⟨_, hk⟩ => by
    rcases hk with rfl | ⟨v', hv', hk⟩
    · exact hv.lt
    · rw [← Boxed.one hv hv'] at hk; exact (hl k hk).2
  good := fun W W' ⟨h0, v, hv, hl⟩ k => ⟨h0, v, k.row hv, fun j hj => ⟨(hl j hj).1, Nat.lt_of_lt_of_le (hl j hj).2 k.size⟩⟩
  later := fun W W' j ⟨_, v, hv, hl⟩ k ⟨h0, hj⟩ => by
    refine ⟨h0, ?_⟩
    rcases hj with rfl | ⟨v', hv', hj⟩
    · exact Or.inl rfl
    · rw [← Boxed.one (show Boxed W' bl _ v from k.row hv) hv'] at hj
      exact Or.inr ⟨v, hv, hj⟩
theorem kpB_put {n₀ bl : Nat} (W : World) (l : Nat) (o o' : Obj) (hl : W.heap[l]? = some o) (ho : o.isCells = false) : KpF (FtB n₀ bl) (GoodB n₀ bl) W (W.putObj l o') := by
  have hg := grownBy_putObj' W l o'
  have hne : GoodB n₀ bl W → bl ≠ l := fun ⟨_, v, hv, _⟩ e => by
    subst e
    have := (show W.heap[bl]? = _ from hv).symm.trans hl
    injection this with this
    rw [← this] at ho; cases ho
  have hbox : GoodB n₀ bl W → ∀ v, Boxed (W.putObj l o') bl 24 v ↔ Boxed W bl 24 v := fun hG v => by
    unfold Boxed
    rw [World.putObj_heap_other (hne hG)]
  refine ⟨hg.size, fun hG k cs T fr hk hn => ?_, fun hG k hk => ?_, fun hG => ?_⟩
  · by_cases e : k = l
    · subst e
      rw [hk] at hl
      injection hl with hl
      rw [← hl] at ho; cases ho
    · rw [World.putObj_heap_other e]; exact hk
  · obtain ⟨h0, hk⟩ := hk
    rcases hk with rfl | ⟨v, hv, hk⟩
    · exact Or.inl ⟨h0, Or.inl rfl⟩
    · exact Or.inl ⟨h0, Or.inr ⟨v, (hbox hG v).1 hv, hk⟩⟩
  · obtain ⟨h0, v, hv, hlt⟩ := hG
    exact ⟨h0, v, (hbox ⟨h0, v, hv, hlt⟩ v).2 hv, fun k hk => ⟨(hlt k hk).1, Nat.lt_of_lt_of_le (hlt k hk).2 hg.size⟩⟩
theorem boxRow_own (n₀ bl : Nat) : Own (fun (L : List Int) W => BoxRow n₀ bl L W) := fun s X Y row ⟨v, a, b⟩ hg hr => by
  obtain ⟨v', a', b', _⟩ := holdsRow_own (β := List Int) n₀ bl 24 3 1 (fun L => L.length) (fun L => L.map (Value.int .i64)) (fun _ _ => True) s X Y row ⟨v, a, b, trivial⟩ hg hr
  exact ⟨v', a', b'⟩
/-- What stands between two rounds; what stands where the body has broken off. -/
def ToldI (n₀ most : Nat) (w1 : World) (pre : List (Fin 8192)) (W : World) : Prop := (BoxRow n₀ n₀ (fints pre) W ∧ pre.length ≤ most) ∧ Below n₀ w1 W
def ToldX (n₀ most : Nat) (w1 : World) (c : Code) (xs : List (Fin 8192)) (W : World) : Prop := (c = .exit 0 ∧ ∃ pre x, xs = pre ++ [x] ∧ pre.length = most ∧ BoxRow n₀ n₀ (fints pre) W) ∧ Below n₀ w1 W

set_option maxRecDepth 100000 in
set_option maxHeartbeats 2000000 in
theorem told_any (HE : BEachOk) (l : List (Int × Int)) (v : Value) (w : World) (h : RunsAt l v w) (hl : l.length ≤ 65536) (most : Nat) (hm : most ≤ 100000) :
    Calls Try.prog 8 #[v, .int .i64 most] w fun e w' => (∃ u, e = .returned (.tuple #[u, .bool true]) ∧ w'.ownsRow w.heap.size 3 1 u ((secI l).take most).length (((secI l).take most).map (Value.int .i64))) ∧ Below w.heap.size w w' := by
  obtain ⟨i0, hi, hz⟩ := Option.map_eq_some_iff.1 infoInt
  simp only [Prod.mk.injEq] at hz
  obtain ⟨hz0, hz1, hz2⟩ := hz
  have hk0 : Kept w (w.alloc (.cells #[.int .i64 most] 3)) := box_below _ _
  have hb0 := heap_alloc_last w (.cells #[.int .i64 most] 3)
  have HC := HE l v _ (h.later hk0) hl
  have hnil : ∀ (g : Nat) (lb : Array Value) (W : World), (binOp .eql 63 (.func (.func g) #[] lb) .nilFunc).run Try.prog W = .ok (.bool false) W := fun g lb W => by
    have h : ∀ d : Nat, (Op.equalIn (d + 1) 63 (.func (.func g) #[] lb) .nilFunc).run Try.prog W = .ok false W := fun d => by
      simp [Op.equalIn, run_underlying Try.underlying63]
    simp only [binOp]
    simp [Op.equal, Op.maxDepth, h 9999]
  refine (callsIn_wide (n := 9)).1 ?_
  refine callsIn_of_wp_marks Try.func8 rfl trivial ?_ rfl
  simp only [Try.ntmps8, List.size_toArray, List.length_cons, List.length_nil, Nat.reduceAdd, Nat.reduceSub, Array.replicate_succ, Array.replicate_zero, List.push_toArray, List.append_toArray, List.nil_append, List.cons_append]
  gi_wp2_with (refine ⟨trivial, ?_⟩; gi_at_call 29; refine (callsIn_wide.2 HC).mono ?_; rintro e w1 ⟨⟨g, lb, Rd, rfl, hent, hit, hrd⟩, hk1⟩)
  obtain ⟨n₀, hn₀⟩ : ∃ n₀, n₀ = w1.heap.size := ⟨_, rfl⟩
  have hkw1 : Kept w w1 := hk0.then hk1
  have hbm : w1.heap[w.heap.size]? = some (.cells #[.int .i64 most] 3 (0, 0)) := Kept.row hk1 hb0
  have hbmlt : w.heap.size < n₀ := by rw [hn₀]; exact (Array.getElem?_eq_some_iff.1 hbm).1
  have hbc : w1.cell? ⟨w.heap.size, 0, none⟩ = some (.int .i64 most) := by rw [cell_of_row _ _ _ _ _ _ hbm]; rfl
  rw [← hn₀] at hrd
  gi_wp2
  have hkW2 : Kept w1 (w1.alloc (.cells #[.slice none 0 0] 24)) := box_below _ _
  have hbl : Boxed (w1.alloc (.cells #[.slice none 0 0] 24)) n₀ 24 (.slice none 0 0) := by rw [hn₀]; exact Boxed.new w1 _ _
  have hg0 : GoodB n₀ n₀ (w1.alloc (.cells #[.slice none 0 0] 24)) := ⟨Nat.le_refl _, _, hbl, fun k hk => by simp [Value.ownBlock] at hk⟩
  have hsz : (w1.alloc (.cells #[.slice none 0 0] 24)).heap.size = n₀ + 1 := by simp [hn₀]
  have hB0 : Below n₀ w1 (w1.alloc (.cells #[.slice none 0 0] 24)) := by rw [hn₀]; exact hkW2
  have hnle : n₀ ≤ w1.heap.size := by omega
  rw [← hn₀]
  have HN0 := Lib.hid hn₀
  obtain ⟨W2, hW2⟩ : ∃ W2, W2 = w1.alloc (.cells #[.slice none 0 0] 24) := ⟨_, rfl⟩
  rw [← hW2] at hkW2 hbl hg0 hsz hB0 ⊢
  clear hn₀ hW2
  refine wpIn_rangeFunc_ownG rfl (by omega) (gf := g) (lb := lb) rfl trivial hent (hit _ (FtB n₀ n₀) (GoodB n₀ n₀) hkW2 hg0 (footB n₀ n₀ Rd (fun k hk => (hrd k hk).1)) 8 (by omega)) KpF.trans (fun W l o o' _ hl ho _ => kpB_put W l o o' hl ho) (Below.refl _ _) (fun _ => rfl)
    (ToldI n₀ most w1) (ToldX n₀ most w1)
    (OwnFrom.and (OwnFrom.and (Own.from (fun (s : List (Fin 8192)) X Y row a b c => boxRow_own n₀ n₀ (fints s) X Y row a b c) _) (ownFrom_pure _ (fun (pre : List (Fin 8192)) => pre.length ≤ most))) (ownFrom_below hnle (by omega)))
    (fun c s W W' row hs hg hr => by
      obtain ⟨⟨e, pre, x, e1, e2, hb⟩, hB⟩ := hs
      exact ⟨⟨e, pre, x, e1, e2, boxRow_own n₀ n₀ (fints pre) W W' row hb hg (fun r e => (hr r e).2)⟩, ownFrom_below hnle (by omega) s W W' row hB hg hr⟩)
    ⟨⟨⟨_, hbl, World.ownsRow_nil _ _ _ _⟩, Nat.zero_le _⟩, hB0⟩
    (fun x => { tmps := #[v, .int .i64 most, undef, .pointer (some ⟨w.heap.size, 0, none⟩), .slice none 0 0, .bool false, .func (.func g) #[] lb, .pointer (some ⟨n₀, 0, none⟩), .int .i64 (x.val : Int), v, .func (.func g) #[] lb, .func (.func g) #[] lb, .bool false, .func (.func g) #[] lb, .int .i64 (x.val : Int), undef, undef, undef, undef, undef, undef, undef, undef, undef], defers := [] }) ?assign ?body ?done ?stop
  case assign =>
    intro l x W K hK
    gi_wp2
    exact hK
  case body =>
    rintro l pre x W ⟨⟨⟨v, hv, hrow0⟩, hlen⟩, hB⟩ hlt
    have hrow := hrow0
    rw [fints_len] at hrow
    obtain ⟨p, c, rfl, -, -⟩ := own_slice hrow
    have hc := hv.cell
    have hbm2 : W.cell? ⟨w.heap.size, 0, none⟩ = some (.int .i64 most) := (hB.cell hbmlt).trans hbc
    have hWs : n₀ ≤ W.heap.size := Nat.le_trans hnle hB.size
    by_cases hge : pre.length = most
    · have b1 : decide ((pre.length : Int) ≥ (most : Int)) = true := decide_eq_true (by omega)
      gi_wp2
      exact ⟨KeepsFrom.refl _ _, ⟨rfl, pre, x, rfl, hge, _, hv, hrow0⟩, hB⟩
    · have b1 : decide ((pre.length : Int) ≥ (most : Int)) = false := decide_eq_false (by omega)
      gi_wp2_with (gi_at_builtin; refine wpListIn_append_flat _ rfl _ _ 24 rfl n₀ 3 i0 (.int .i64 0) 1 8 Try.underlying24 hi hz0 hz1 hz2 rfl (by decide) _ _ _ rfl (hrow.alloc _) _ 1 [.int .i64 (x.val : Int)] rfl (int_flat W (x.val : Int)) (by unfold maxLen; omega) (by omega) (by simp; omega) ?_; intro v' w2 hown' hgrow hwhere; obtain ⟨g', cap', rfl⟩ := ownsRow_succ hown'; obtain ⟨hv1, hv2, hr2, hk2, hb2⟩ := hv.appended (by decide) hrow hWs (Nat.le_refl _) hown' hgrow; have hc1 := hv1.cell; have hf1 := hv1.frozen)
      refine ⟨hk2.from _, ⟨hb2.size, fun hG k cs T fr hk hn => ?_, fun hG k hk => ?_, fun hG => ?_⟩, ⟨⟨_, hv2, by rw [fints_len, fints_append, List.map_append, List.length_append]; exact hr2⟩, by simp; omega⟩, hB.trans hb2⟩
      · have hkn : k ≠ n₀ := fun e => hn ⟨by omega, Or.inl e⟩
        have hko : some k ≠ (Value.slice p pre.length c).ownBlock := fun e => hn ⟨(hrow.lt k e.symm).1, Or.inr ⟨_, hv, e.symm⟩⟩
        have hkl := (Array.getElem?_eq_some_iff.1 hk).1
        rw [heap_setCell_other _ _ _ _ hkn, hgrow.block k (by simp; omega) hko]
        exact Kept.row (box_below W _) hk
      · obtain ⟨h0, hk⟩ := hk
        rcases hk with rfl | ⟨v'', hv'', hk⟩
        · exact Or.inl ⟨h0, Or.inl rfl⟩
        · rw [← Boxed.one hv2 hv''] at hk
          rcases hwhere with e | e
          · exact Or.inl ⟨h0, Or.inr ⟨_, hv, (show (Value.slice p pre.length c).ownBlock = _ from e.symm).trans hk⟩⟩
          · rw [e] at hk
            have := Option.some.inj hk
            simp at this
            exact Or.inr (by omega)
      · exact ⟨Nat.le_refl _, _, hv2, fun k hk => hr2.lt k hk⟩
  case done =>
    rintro D ys W hD rfl ⟨⟨⟨v, hv, hrow⟩, hlen⟩, hB⟩ hK
    obtain ⟨p, c, rfl, -, -⟩ := own_slice hrow
    have hc := hv.cell
    gi_wp2
    refine ⟨by simp, .inl ⟨_, _, rfl, run_takeDeferred hK, ?_⟩⟩
    refine ⟨_, results_tmp2 rfl _ _ _, ⟨_, rfl, ?_⟩, ?_⟩
    · rw [← fints_secF, List.take_of_length_le (by rw [fints_len]; exact hlen)]
      exact own_base (ownsRow_putObj hrow _ hK rfl) (Nat.le_of_lt hbmlt)
    · exact (Below.trans hkw1 (hB.mono (Nat.le_of_lt hbmlt))).trans (belowK_b (w := W2) (by omega) W D _ _ hD hK rfl rfl)
  case stop =>
    rintro D c pre W hD hpre ⟨⟨rfl, pr, x, rfl, rfl, v, hv, hrow⟩, hB⟩ hK
    obtain ⟨p, c, rfl, -, -⟩ := own_slice hrow
    have hc := hv.cell
    gi_wp2
    refine ⟨by simp, .inl ⟨_, _, rfl, run_takeDeferred hK, ?_⟩⟩
    refine ⟨_, results_tmp2 rfl _ _ _, ⟨_, rfl, ?_⟩, ?_⟩
    · have e : (secI l).take pr.length = fints pr := by
        obtain ⟨t, ht⟩ := hpre
        rw [← fints_secF, ← fints_take, ← ht, List.append_assoc, List.take_left']
        rfl
      rw [e]
      exact own_base (ownsRow_putObj hrow _ hK rfl) (Nat.le_of_lt hbmlt)
    · exact (Below.trans hkw1 (hB.mono (Nat.le_of_lt hbmlt))).trans (belowK_b (w := W2) (by omega) W D _ _ hD hK rfl rfl)

end Go.Proofs.Ytppbknlhknadbaa
namespace Go.Proofs.Ytppbknlhknadbaa
open Go.RowKit

theorem int_of_own {w : World} {base : Nat} {v : Value} {L : List Int} (h : w.ownsRow base 3 1 v L.length (L.map (Value.int .i64))) : IntAt .i64 L v w := by
  obtain ⟨p, c, rfl, -, hc⟩ := own_slice h
  refine ⟨p, c, rfl, ?_⟩
  rcases hc with h0 | ⟨g, rfl, -, hc⟩
  · exact Or.inl (List.eq_nil_of_length_eq_zero h0)
  · exact Or.inr ⟨g, 0, rfl, fun i hi => by rw [Nat.zero_add]; exact hc i _ (by simp [hi])⟩
theorem IntAt.after {k : IntKind} {L : List Int} {v : Value} {w w' : World} (h : IntAt k L v w) (hk : Kept w w') : IntAt k L v w' := by
  obtain ⟨p, c, rfl, h⟩ := h
  refine ⟨p, c, rfl, ?_⟩
  rcases h with h | ⟨b, off, hp, hc⟩
  · exact Or.inl h
  · exact Or.inr ⟨b, off, hp, fun i hi => hk.cell (hc i hi)⟩
theorem IntAt.takeN {k : IntKind} {L : List Int} {p : Option Addr} {n c : Nat} {w : World} (h : IntAt k L (.slice p n c) w) (m : Nat) (hm : m ≤ n) : IntAt k (L.take m) (.slice p m c) w := by
  obtain ⟨p', c', he, hc⟩ := h
  simp only [Value.slice.injEq] at he
  obtain ⟨rfl, rfl, rfl⟩ := he
  have hl : (L.take m).length = m := by rw [List.length_take]; omega
  refine ⟨p, c, by rw [hl], ?_⟩
  rcases hc with rfl | ⟨b, off, rfl, hc⟩
  · exact Or.inl (by simp)
  · exact Or.inr ⟨b, off, rfl, fun i hi => by rw [List.getElem_take]; exact hc i (by omega)⟩

set_option maxRecDepth 100000 in
set_option maxHeartbeats 1000000 in
/-- Are two rows of numbers the same? -/
theorem same12_any (la lb : List Int) (u v : Value) (w : World) (ha : IntAt .i64 la u w) (hb : IntAt .i64 lb v w) (hla : la.length ≤ 1048576) :
    Calls Try.prog 12 #[u, v] w fun e w' => e = .returned (.bool (decide (la = lb))) ∧ Below w.heap.size w w' := by
  obtain ⟨pa, ca, rfl, hca⟩ := ha
  obtain ⟨pb, cb, rfl, hcb⟩ := hb
  by_cases hlen : la.length = lb.length
  · have b1 : ((la.length : Int) != (lb.length : Int)) = false := by rw [bne_eq_false_iff_eq]; omega
    have HCA := Lib.hid hca
    have HCB := Lib.hid hcb
    have HLEN := Lib.hid hlen
    obtain ⟨n, hn⟩ : ∃ n, n = la.length := ⟨_, rfl⟩
    have hm : lb.length = n := by omega
    rw [← hn] at b1 hla ⊢
    rw [hm] at b1 ⊢
    have HN := Lib.hid hn
    clear hca hcb hlen hn hm
    go_enter Try.func12, Try.ntmps12
    go_wp2
    go_loopg [5] n (fun gh s5 wx => ∃ k : Nat, k + gh = n ∧ s5 = .int .i64 k ∧ Hid (la.take k = lb.take k) ∧ Hid (Kept w wx))
    case atStart => exact ⟨0, by omega, rfl, Lib.hid rfl, Lib.hid (Kept.refl w)⟩
    case round =>
      obtain ⟨k, hk, rfl, HE, HK⟩ := hrel
      by_cases hkn : k < n
      · have hki : (k : Int) < n := by omega
        have bk : decide ((k : Int) < (n : Int)) = true := by simpa using hki
        have hki0 : (0 : Int) ≤ k := by omega
        have hka : k < la.length := by rw [← HN.out]; exact hkn
        have hkb : k < lb.length := by rw [← HLEN.out]; exact hka
        rcases HCA.out with h0 | ⟨ba, oa, rfl, hcella⟩
        · rw [h0] at hka; simp at hka
        rcases HCB.out with h0 | ⟨bb, ob, rfl, hcellb⟩
        · rw [h0] at hkb; simp at hkb
        have d1 := HK.out.cell (hcella k hka)
        have d3 := HK.out.cell (hcellb k hkb)
        have htk := List.take_succ_eq_append_getElem hka
        have htl := List.take_succ_eq_append_getElem hkb
        obtain ⟨a1, ha1⟩ : ∃ a1, a1 = la[k] := ⟨_, rfl⟩
        obtain ⟨b1', hb1⟩ : ∃ b1', b1' = lb[k] := ⟨_, rfl⟩
        rw [← ha1] at d1
        rw [← hb1] at d3
        obtain ⟨k1, hk1⟩ : ∃ k1, k1 = k + 1 := ⟨_, rfl⟩
        have v1 : IntKind.i64.wrap ((k : Int) + 1) = (k1 : Int) := by rw [show (k : Int) + 1 = (k1 : Int) by omega]; exact IntWalk.i64_in _ (by omega)
        have HK2 : Hid (∀ j, Kept w (wr.drewN j)) := Lib.hid (fun j => HK.out.then (below_drewN (Below.refl _ wr) j))
        by_cases heq : a1 = b1'
        · have hnx : Hid (la.take k1 = lb.take k1) := Lib.hid (by rw [hk1, htk, htl, HE.out, ← ha1, ← hb1, heq])
          have hne : (a1 != b1') = false := by rw [bne_eq_false_iff_eq]; exact heq
          clear ha1 hb1 htk htl heq hcella hcellb
          go_wp2
          go_quiet (fail)
          go_wp2
          go_roundg (n - k1)
          case measure => omega
          case rel => exact ⟨k1, by omega, by first | rfl | (congr 1; omega), hnx, Lib.hid (HK2.out _)⟩
        · have hne2 : Hid (decide (la = lb) = false) := Lib.hid (decide_eq_false (fun e => heq (by rw [ha1, hb1]; subst e; rfl)))
          have hne : (a1 != b1') = true := by rw [bne_iff_ne]; exact heq
          clear ha1 hb1 htk htl heq hcella hcellb
          go_wp2
          go_quiet (fail)
          go_wp2
          go_ret
          exact ⟨by rw [hne2.out]; rfl, HK2.out _⟩
      · have hki : ¬ (k : Int) < n := by omega
        have bk : decide ((k : Int) < (n : Int)) = false := by simpa using hki
        have hee : Hid (decide (la = lb) = true) := Lib.hid (decide_eq_true (by
          have h := HE.out
          rw [List.take_of_length_le (by rw [← HN.out]; omega), List.take_of_length_le (by rw [← HLEN.out, ← HN.out]; omega)] at h
          exact h))
        go_wp2
        go_ret
        exact ⟨by rw [hee.out]; rfl, HK.out⟩
  · have b1 : ((la.length : Int) != (lb.length : Int)) = true := by rw [bne_iff_ne]; omega
    have hne2 : Hid (decide (la = lb) = false) := Lib.hid (decide_eq_false (fun e => hlen (by rw [e])))
    obtain ⟨n, hn⟩ : ∃ n, n = la.length := ⟨_, rfl⟩
    obtain ⟨m, hm⟩ : ∃ m, m = lb.length := ⟨_, rfl⟩
    rw [← hn, ← hm] at b1 ⊢
    clear hca hcb hlen hn hm hla
    go_enter Try.func12, Try.ntmps12
    go_wp2
    go_ret
    exact ⟨by rw [hne2.out]; rfl, Below.refl _ _⟩

theorem intC_map (l : List Nat) : intC l = (List.map (fun (k : Nat) => (k : Int)) l).map (Value.int .i64) := by unfold intC; rw [List.map_map]; rfl
theorem secI_len (l : List (Int × Int)) : (secI l).length ≤ 8192 := by
  unfold secI secsL
  rw [List.length_map]
  split
  · next hv =>
    have h1 := validL_nonneg hv
    have h2 := validL_apart hv
    rw [← cntA_allR h1 h2]
    exact cntA_le _
  · simp

set_option maxRecDepth 100000 in
set_option maxHeartbeats 8000000 in
theorem blobFits_of (HE : BEachOk) (HF : BFitOk) (AW : ∀ w, Calls Try.prog 13 #[] w (LawPost w)) (l : List (Int × Int)) (v : Value) (w : World) (h : RunsAt l v w) (n size st : Int) (hn : I64 n) (hs : I64 size) (hst : 0 ≤ st ∧ st ≤ 255) :
    Calls Try.prog 3 #[v, .int .i64 n, .int .i64 size, .int .u8 st] w (LawPost w) := by
  have CW := few12_val l v w h
  have hr := fewT_at h
  have hl20 : (l.take 20).length ≤ 20 := by rw [List.length_take]; omega
  obtain ⟨L, hL⟩ : ∃ L, L = l.take 20 := ⟨_, rfl⟩
  rw [← hL] at hr hl20
  obtain ⟨p, c, hv, hcap, -⟩ := hr.out
  obtain ⟨nn, hnn⟩ : ∃ nn, nn = L.length := ⟨_, rfl⟩
  rw [← hnn] at hv
  rw [hv] at CW hr
  obtain ⟨Z, hZ⟩ : ∃ Z, Z = secI L := ⟨_, rfl⟩
  have hZl := secI_len L
  rw [← hZ] at hZl
  obtain ⟨stN, rfl⟩ : ∃ k : Nat, st = k := ⟨st.toNat, by omega⟩
  have T1 := fun W (k : Kept w W) => told_any HE L _ W (hr.later k) (by omega) 9000 (by omega)
  have T2 := fun W (k : Kept w W) => told_any HE L _ W (hr.later k) (by omega) stN (by omega)
  have T3 := fun W (k : Kept w W) => rlist12_any L _ W (hr.later k) (by omega)
  have T4 := fun W (k : Kept w W) => HF L _ W n size (hr.later k) (by omega) hn hs
  have T5 := fun W (k : Kept w W) => rfit12_any L _ W (hr.later k) (by omega) n size hn hs
  have e1 : Z.take 9000 = Z := List.take_of_length_le (by omega)
  have e3 : intC (secsL L) = Z.map (Value.int .i64) := by rw [intC_map, hZ]; rfl
  have e4 : (secsL L).length = Z.length := by rw [hZ]; unfold secI; rw [List.length_map]
  simp only [← hZ, e1, e3, e4] at T1 T2 T3
  obtain ⟨r, hrr⟩ : ∃ r, r = decide (fitB L n size) := ⟨_, rfl⟩
  rw [← hrr] at T4 T5
  have HT1 := Lib.hid T1
  have HT2 := Lib.hid T2
  have HT3 := Lib.hid T3
  have HT4 := Lib.hid T4
  have HT5 := Lib.hid T5
  have HAW := Lib.hid AW
  have HZL := Lib.hid hZl
  have HST := Lib.hid hst
  clear T1 T2 T3 T4 T5 e1 e3 e4 hrr hZ hnn hL hv hr hl20 hcap HE HF AW hn hs hZl
  go_enter Try.func3, Try.ntmps3
  go_wp2_with fail
  refine CW.mono ?_
  rintro e w0 ⟨rfl, rfl⟩
  clear CW
  go_wp2_with fail
  refine (HT1.out w (Kept.refl w)).mono ?_
  rintro e w1 ⟨⟨u1, rfl, ho1⟩, hk1⟩
  obtain ⟨p1, c1, rfl, -, -⟩ := own_slice ho1
  have A1 : Hid (IntAt .i64 Z (.slice p1 Z.length c1) w1) := Lib.hid (int_of_own ho1)
  have HK1 : Hid (Kept w w1) := Lib.hid hk1
  have vst : IntKind.i64.wrap (stN : Int) = stN := IntWalk.i64_in _ (by have := HST.out; omega)
  clear ho1 hk1
  go_wp2_with fail
  refine (HT2.out w1 HK1.out).mono ?_
  rintro e w2 ⟨⟨u2, rfl, ho2⟩, hk2⟩
  obtain ⟨p2, c2, rfl, -, -⟩ := own_slice ho2
  obtain ⟨m2, hm2⟩ : ∃ m2, m2 = (Z.take stN).length := ⟨_, rfl⟩
  have A2 : Hid (IntAt .i64 (Z.take stN) (.slice p2 m2 c2) w2) := Lib.hid (by rw [hm2]; exact int_of_own ho2)
  rw [← hm2]
  have HK2 : Hid (Kept w w2) := Lib.hid (HK1.out.then hk2)
  replace A1 := Lib.hid (A1.out.after hk2)
  clear ho2 hk2 hm2
  go_wp2_with fail
  refine (HT3.out w2 HK2.out).mono ?_
  rintro e w3 ⟨⟨u3, rfl, ho3⟩, hk3⟩
  obtain ⟨p3, c3, rfl, hc3, -⟩ := own_slice ho3
  have A3 : Hid (IntAt .i64 Z (.slice p3 Z.length c3) w3) := Lib.hid (int_of_own ho3)
  have HC3 := Lib.hid hc3
  have HK3 : Hid (Kept w w3) := Lib.hid (HK2.out.then hk3)
  replace A1 := Lib.hid (A1.out.after hk3)
  replace A2 := Lib.hid (A2.out.after hk3)
  clear ho3 hk3 hc3
  go_wp2_with fail
  refine (HT4.out w3 HK3.out).mono ?_
  rintro e w4 ⟨rfl, hk4⟩
  have HK4 : Hid (Kept w w4) := Lib.hid (HK3.out.then hk4)
  replace A1 := Lib.hid (A1.out.after hk4)
  replace A2 := Lib.hid (A2.out.after hk4)
  replace A3 := Lib.hid (A3.out.after hk4)
  clear hk4
  go_wp2_with fail
  refine (HT5.out w4 HK4.out).mono ?_
  rintro e w5 ⟨rfl, hk5⟩
  have HK5 : Hid (Kept w w5) := Lib.hid (HK4.out.then hk5)
  replace A1 := Lib.hid (A1.out.after hk5)
  replace A2 := Lib.hid (A2.out.after hk5)
  replace A3 := Lib.hid (A3.out.after hk5)
  clear hk5
  have S1 := same12_any Z Z _ _ w5 A1.out A3.out (by have := HZL.out; omega)
  rw [decide_eq_true rfl] at S1
  obtain ⟨zl, hzl⟩ : ∃ zl, zl = Z.length := ⟨_, rfl⟩
  rw [← hzl] at S1 ⊢
  have HZ2 := Lib.hid hzl
  have A3' : Hid (IntAt .i64 Z (.slice p3 zl c3) w5) := Lib.hid (by rw [hzl]; exact A3.out)
  have hzc : zl ≤ c3 := by rw [hzl]; exact HC3.out
  clear hzl A3
  go_wp2_with fail
  refine S1.mono ?_
  rintro e w6 ⟨rfl, hk6⟩
  have HK6 : Hid (Kept w w6) := Lib.hid (HK5.out.then hk6)
  replace A2 := Lib.hid (A2.out.after hk6)
  replace A3' := Lib.hid (A3'.out.after hk6)
  clear hk6 S1
  have SS : ∀ mn, mn ≤ zl → Z.take stN = Z.take mn → Calls Try.prog 12 #[.slice p2 m2 c2, .slice p3 mn c3] w6 fun e w' => e = .returned (.bool true) ∧ Below w6.heap.size w6 w' := fun mn hle he => by
    have := same12_any (Z.take stN) (Z.take mn) _ _ w6 A2.out (A3'.out.takeN mn hle) (by rw [List.length_take]; have := HZL.out; omega)
    rw [decide_eq_true he] at this
    exact this
  by_cases hlt : (stN : Int) < (zl : Int)
  · have S2 := SS stN (by omega) rfl
    have hmc : (stN : Int) ≤ c3 := by omega
    have hm0 : (0 : Int) ≤ stN := by omega
    clear SS
    go_wp2_with fail
    refine S2.mono ?_
    rintro e w7 ⟨rfl, hk7⟩
    have HK7 : Hid (Kept w w7) := Lib.hid (HK6.out.then hk7)
    clear hk7 S2
    go_wp2_with fail
    refine (HAW.out w7).mono ?_
    rintro e w8 ⟨rfl, hk8⟩
    have HK8 : Hid (Kept w w8) := Lib.hid (HK7.out.then hk8)
    clear hk8
    go_wp2
    go_ret
    exact ⟨rfl, HK8.out⟩
  · have S2 := SS zl (Nat.le_refl _) (by rw [List.take_of_length_le (by rw [← HZ2.out]; omega), List.take_of_length_le (by rw [← HZ2.out]; exact Nat.le_refl _)])
    have hmc : (zl : Int) ≤ c3 := by omega
    have hm0 : (0 : Int) ≤ zl := by omega
    clear SS
    go_wp2_with fail
    refine S2.mono ?_
    rintro e w7 ⟨rfl, hk7⟩
    have HK7 : Hid (Kept w w7) := Lib.hid (HK6.out.then hk7)
    clear hk7 S2
    go_wp2_with fail
    refine (HAW.out w7).mono ?_
    rintro e w8 ⟨rfl, hk8⟩
    have HK8 : Hid (Kept w w8) := Lib.hid (HK7.out.then hk8)
    clear hk8
    go_wp2
    go_ret
    exact ⟨rfl, HK8.out⟩

end Go.Proofs.Ytppbknlhknadbaa
namespace Go.Proofs.Ytppbknlhknadbaa

theorem visK_none (i : Nat) : ∀ (ws : List (Nat × List UInt8)) (t : List UInt8), (∀ p ∈ ws, p.1 ≠ i) → visK i t ws = t
  | [], _, _ => rfl
  | p :: ws, t, h => by
    show visK i (if p.1 = i then p.2 else t) ws = t
    rw [if_neg (h p (List.mem_cons_self ..))]
    exact visK_none i ws t (fun q hq => h q (List.mem_cons_of_mem _ hq))
theorem visK_app (i : Nat) (t : List UInt8) (a b : List (Nat × List UInt8)) : visK i t (a ++ b) = visK i (visK i t a) b := List.foldl_append
/-- A disk that neither is down nor will be. -/
def Dk.calmB (s : Dk) : Prop := s.down = false ∧ s.fuse < 0
theorem calmB_write {s : Dk} (h : s.calmB) (i : Nat) (hi : i < s.stands.length) (t : List UInt8) (ht : t.length = 128) :
    s.writeE (i : Nat) t = 0 ∧ (s.writeS (i : Nat) t).calmB ∧ (s.writeS (i : Nat) t).stands = s.stands ∧ (s.writeS (i : Nat) t).waits = s.waits ++ [(i, t)] ∧ (s.writeS (i : Nat) t).ops = s.ops + 1 := by
  have ho : ¬ s.out (i : Nat) := by unfold Dk.out; omega
  have hb : ¬ s.bad (i : Nat) t := by
    unfold Dk.bad
    rintro (h1 | h1 | h1)
    · rw [h.1] at h1; cases h1
    · exact ho h1
    · exact h1 ht
  have hw : s.writeS (i : Nat) t = ({ s with waits := s.waits ++ [(((i : Nat) : Int).toNat, t)] } : Dk).cut := if_neg hb
  refine ⟨?_, ?_, ?_, ?_, ?_⟩
  · unfold Dk.writeE
    rw [if_neg (by rw [h.1]; decide), if_neg ho, if_neg (by omega), if_neg (by have := h.2; omega)]
  · rw [hw]
    refine ⟨?_, ?_⟩
    · show (s.down || s.fuse == 0) = false
      rw [h.1, Bool.false_or, beq_eq_false_iff_ne]
      have := h.2; omega
    · show (if 0 < s.fuse then s.fuse - 1 else s.fuse) < 0
      have := h.2
      rw [if_neg (by omega)]; exact this
  · rw [hw]; rfl
  · rw [hw]
    show s.waits ++ [(((i : Nat) : Int).toNat, t)] = _
    rw [Int.toNat_natCast]
  · rw [hw]; rfl
def waitsP (l : List Nat) (t : List UInt8) (k g : Nat) : List (Nat × List UInt8) := (List.range g).map fun i => (l.getD (k + i) 0, partB t (k + i))
theorem waitsP_succ (l : List Nat) (t : List UInt8) (k g : Nat) : waitsP l t k (g + 1) = (l.getD k 0, partB t k) :: waitsP l t (k + 1) g := by
  unfold waitsP
  rw [List.range_succ_eq_map, List.map_cons, List.map_map]
  congr 1
  refine List.map_congr_left fun i _ => ?_
  show (l.getD (k + (i + 1)) 0, partB t (k + (i + 1))) = _
  rw [show k + (i + 1) = k + 1 + i by omega]
theorem putG_calmB : ∀ (g k : Nat) (s : Dk) (l : List Nat) (t : List UInt8), s.calmB → (∀ i, k ≤ i → i < k + g → l.getD i 0 < s.stands.length) →
    (putG s l t k g).2 = 0 ∧ (putG s l t k g).1.calmB ∧ (putG s l t k g).1.stands = s.stands ∧ (putG s l t k g).1.waits = s.waits ++ waitsP l t k g ∧ (putG s l t k g).1.ops = s.ops + g
  | 0, _, s, l, t, h, _ => ⟨rfl, h, rfl, by show s.waits = s.waits ++ []; rw [List.append_nil], rfl⟩
  | g + 1, k, s, l, t, h, hl => by
    obtain ⟨e0, e1, e2, e3, e4⟩ := calmB_write h (l.getD k 0) (hl k (Nat.le_refl _) (by omega)) (partB t k) (partB_len t k)
    obtain ⟨f0, f1, f2, f3, f4⟩ := putG_calmB g (k + 1) (s.writeS (l.getD k 0 : Nat) (partB t k)) l t e1 (fun i hi hk => by rw [e2]; exact hl i (by omega) (by omega))
    have ep : putG s l t k (g + 1) = putG (s.writeS (l.getD k 0 : Nat) (partB t k)) l t (k + 1) g := by
      conv => lhs; unfold putG
      rw [if_pos e0]
    rw [ep]
    refine ⟨f0, f1, f2.trans e2, ?_, by rw [f4, e4]; omega⟩
    rw [f3, e3, waitsP_succ, List.append_assoc]
    rfl

theorem standK_all (st : List (List UInt8)) (ws : List (Nat × List UInt8)) (i : Nat) (hi : i < st.length) : ∀ k, k ≤ ws.length → (standK keepAll st ws k).getD i [] = visK i (st.getD i []) (ws.take k)
  | 0, _ => by rw [List.take_zero]; rfl
  | k + 1, hk => by
    have ih := standK_all st ws i hi k (by omega)
    have hl := standK_len keepAll st ws k
    have hw : ws.getD k (0, []) = ws[k] := by rw [List.getD_eq_getElem?_getD, List.getElem?_eq_getElem (by omega)]; rfl
    rw [List.take_succ_eq_append_getElem (by omega), visK_snoc, ← ih]
    show (if keepAll k = true then _ else _ : List (List UInt8)).getD i [] = _
    rw [if_pos (show keepAll k = true from rfl), hw]
    by_cases e : ws[k].1 = i
    · rw [if_pos e, e, List.getD_eq_getElem?_getD, List.getElem?_set_self (by omega)]
      rfl
    · rw [if_neg e, List.getD_eq_getElem?_getD, List.getElem?_set_ne e, ← List.getD_eq_getElem?_getD]

theorem waits_other (l : List Nat) (t : List UInt8) (i : Nat) (h : i ∉ l) (hl : ∀ k, k < l.length → l.getD k 0 ∈ l) : ∀ p ∈ waitsP l t 0 l.length, p.1 ≠ i := by
  intro p hp e
  obtain ⟨k, hk, rfl⟩ := List.mem_map.1 hp
  simp only [Nat.zero_add] at e
  exact h (e ▸ hl k (List.mem_range.1 hk))
theorem getD_mem (l : List Nat) (k : Nat) (h : k < l.length) : l.getD k 0 = l[k] := by rw [List.getD_eq_getElem?_getD, List.getElem?_eq_getElem h]; rfl
theorem waits_at (l : List Nat) (t : List UInt8) (hn : l.Nodup) (j : Nat) (hj : j < l.length) (u : List UInt8) : visK l[j] u (waitsP l t 0 l.length) = partB t j := by
  have hsp : waitsP l t 0 l.length = waitsP l t 0 j ++ ((l.getD j 0, partB t j) :: waitsP l t (j + 1) (l.length - j - 1)) := by
    rw [← waitsP_succ, show l.length - j - 1 + 1 = l.length - j by omega]
    unfold waitsP
    refine List.ext_getElem (by simp; omega) fun i h1 h2 => ?_
    simp only [List.getElem_map, List.getElem_range, Nat.zero_add]
    by_cases hij : i < j
    · rw [List.getElem_append_left (by simpa using hij)]
      simp
    · rw [List.getElem_append_right (by simpa using hij)]
      simp only [List.getElem_map, List.getElem_range, List.length_map, List.length_range]
      rw [show j + (i - j) = i by omega]
  rw [hsp, visK_app]
  show visK l[j] (if l.getD j 0 = l[j] then partB t j else _) _ = _
  rw [if_pos (getD_mem l j hj)]
  refine visK_none _ _ _ fun p hp e => ?_
  obtain ⟨i, hi, rfl⟩ := List.mem_map.1 hp
  have hi2 := List.mem_range.1 hi
  simp only at e
  rw [getD_mem l _ (by omega)] at e
  exact List.pairwise_iff_getElem.1 hn j (j + 1 + i) hj (by omega) (by omega) e.symm

theorem parts_join (t : List UInt8) : ∀ n, (List.range n).flatMap (partB t) = fillL (t.take (128 * n)) (128 * n)
  | 0 => by show [] = t.take 0 ++ _; simp
  | n + 1 => by
    rw [List.range_succ, List.flatMap_append, parts_join t n]
    simp only [List.flatMap_cons, List.flatMap_nil, List.append_nil]
    unfold partB fillL
    by_cases h : 128 * n ≤ t.length
    · rw [show 128 * n - (t.take (128 * n)).length = 0 by rw [List.length_take]; omega]
      simp only [List.replicate_zero, List.append_nil]
      rw [← List.append_assoc, show t.take (128 * (n + 1)) = t.take (128 * n) ++ (t.drop (128 * n)).take 128 by rw [← List.take_add]; rfl]
      congr 2
      simp only [List.length_append, List.length_take, List.length_drop]
      omega
    · have a1 : t.drop (128 * n) = [] := List.drop_of_length_le (by omega)
      have a2 : t.take (128 * n) = t := List.take_of_length_le (by omega)
      have a3 : t.take (128 * (n + 1)) = t := List.take_of_length_le (by omega)
      rw [a1, a2, a3]
      simp only [List.take_nil, List.length_nil, List.nil_append, Nat.sub_zero]
      rw [List.append_assoc, List.replicate_append_replicate]
      congr 2
      omega
theorem parts_take (t : List UInt8) (n : Nat) (h : t.length ≤ 128 * n) : ((List.range n).flatMap (partB t)).take t.length = t := by
  rw [parts_join]
  have a : t.take (128 * n) = t := List.take_of_length_le h
  unfold fillL
  rw [a, List.take_left' rfl]

/-- What was put is got behind a Flush; the other sectors stay. -/
theorem back_math (img : List UInt8) (hi : img.length = 5120) (l : List (Int × Int)) (t : List UInt8) (ht : t.length ≤ 3000) (hf : fitB l 40 t.length) :
    ∃ s1 : Dk, bPut (Dk.load img) l t = (s1, 0) ∧ s1.ok ∧ s1.ops ≤ 40 ∧ s1.flushE = 0 ∧ s1.flushS.ok ∧ s1.flushS.ops ≤ 41 ∧
      ∀ s3, (s3 = s1.flushS ∨ s3 = s1.flushS.powerS []) → s3.ok ∧ s3.ops ≤ 41 ∧ bGet s3 l t.length = (t, 0) ∧ s3.image.length = 5120 ∧ ∀ i, i < 40 → hasR l i = false → (s3.image.drop (128 * i)).take 128 = (img.drop (128 * i)).take 128 := by
  have hlo : loadOk img := by unfold loadOk; omega
  have hok0 := Dk.ok.load hlo
  have hst0 : (Dk.load img).stands.length = 40 := by show (secs img).length = 40; rw [secs_len, hi]
  have hc0 : (Dk.load img).calmB := ⟨rfl, by show (-1 : Int) < 0; omega⟩
  obtain ⟨g1, g2, g3, g4, g5⟩ := fitB_list hf
  have hA : ∀ k, k < (allR l).length → (allR l).getD k 0 ∈ allR l := fun k hk => by rw [getD_mem _ _ hk]; exact List.getElem_mem hk
  have hlt : ∀ k ∈ allR l, k < 40 := fun k hk => by have := (g4 k hk).1; omega
  obtain ⟨e0, e1, e2, e3, e4⟩ := putG_calmB (allR l).length 0 (Dk.load img) (allR l) t hc0 (fun i _ hik => by rw [hst0]; exact hlt _ (hA i (by omega)))
  have hw0 : (Dk.load img).waits = [] := rfl
  rw [hw0, List.nil_append] at e3
  have hok1 := putG_ok (allR l).length 0 (allR l) t hok0
  have hlen40 : (allR l).length ≤ 40 := by
    have := (needN_bytes g2).2
    omega
  have hput : bPut (Dk.load img) l t = putG (Dk.load img) (allR l) t 0 (allR l).length := by
    unfold bPut
    rw [hst0, if_neg (by simpa using hf), if_neg (show ¬ ((Dk.load img).down = true) from fun x => by cases x)]
  obtain ⟨s1, hs1⟩ : ∃ s1, s1 = (putG (Dk.load img) (allR l) t 0 (allR l).length).1 := ⟨_, rfl⟩
  rw [← hs1] at e1 e2 e3 e4 hok1
  have hops1 : s1.ops ≤ 40 := by rw [e4]; show 0 + _ ≤ 40; omega
  have hfe : s1.flushE = 0 := by unfold Dk.flushE; rw [if_neg (by rw [e1.1]; decide), if_neg (by have := e1.2; omega)]
  have hfs : s1.flushS = s1.cut.stand keepAll := by unfold Dk.flushS; rw [if_neg (by rw [e1.1]; decide), if_neg (by have := e1.2; omega)]
  have hok2 := hok1.flush
  have hst2 : s1.flushS.stands = standK keepAll (Dk.load img).stands (waitsP (allR l) t 0 (allR l).length) (allR l).length := by
    rw [hfs]
    show standK keepAll s1.stands s1.waits s1.waits.length = _
    rw [e2, e3]
    unfold waitsP
    rw [List.length_map, List.length_range]
  have hwt2 : s1.flushS.waits = [] := by rw [hfs]; rfl
  have hdn2 : s1.flushS.down = false := by
    rw [hfs]
    show (s1.down || s1.fuse == 0) = false
    rw [e1.1, Bool.false_or, beq_eq_false_iff_ne]
    have := e1.2; omega
  have hops2 : s1.flushS.ops ≤ 41 := by rw [hfs]; show s1.ops + 1 ≤ 41; omega
  have hl2 : s1.flushS.stands.length = 40 := by rw [hst2, standK_len, hst0]
  have hget : ∀ i, i < 40 → s1.flushS.stands.getD i [] = visK i ((Dk.load img).stands.getD i []) (waitsP (allR l) t 0 (allR l).length) := fun i hi40 => by
    have := standK_all (Dk.load img).stands (waitsP (allR l) t 0 (allR l).length) i (by omega) (allR l).length (by unfold waitsP; simp)
    rw [hst2, this, List.take_of_length_le (by unfold waitsP; simp)]
  refine ⟨s1, by rw [hput, hs1, ← e0], hok1, hops1, hfe, hok2, hops2, fun s3 h3 => ?_⟩
  have h3s : s3.stands = s1.flushS.stands ∧ s3.waits = [] ∧ s3.down = false ∧ s3.ok ∧ s3.ops ≤ 41 := by
    rcases h3 with rfl | rfl
    · exact ⟨rfl, hwt2, hdn2, hok2, hops2⟩
    · refine ⟨?_, rfl, rfl, hok2.power [], hops2⟩
      show standK (keepL []) s1.flushS.stands s1.flushS.waits s1.flushS.waits.length = _
      rw [hwt2]
      rfl
  obtain ⟨k1, k2, k3, k4, k5⟩ := h3s
  have hl3 : s3.stands.length = 40 := by rw [k1, hl2]
  have hvis : ∀ i, s3.vis i = s1.flushS.stands.getD i [] := fun i => by unfold Dk.vis; rw [k1, k2]; rfl
  refine ⟨k4, k5, ?_, ?_, ?_⟩
  · unfold bGet
    rw [hl3, if_neg (by simpa using hf), if_neg (by rw [k3]; decide)]
    have hfm : (allR l).flatMap s3.vis = (List.range (allR l).length).flatMap (partB t) := by
      have hm : (allR l).map s3.vis = (List.range (allR l).length).map (partB t) := by
        refine List.ext_getElem (by simp) fun i h1 h2 => ?_
        have hil : i < (allR l).length := by simpa using h1
        rw [List.getElem_map, List.getElem_map, List.getElem_range, hvis, hget _ (hlt _ (List.getElem_mem hil))]
        exact waits_at (allR l) t g3 i hil _
      rw [List.flatMap_def, List.flatMap_def, hm]
    rw [hfm, Int.toNat_natCast, parts_take t _ (needN_bytes g2).1]
  · rw [k4.image_len, hl3]
  · intro i hi40 hni
    have hnot : i ∉ allR l := fun x => by rw [(g5 i).1 x] at hni; cases hni
    unfold Dk.image
    rw [flat_sect s3.stands k4.sect i (by omega)]
    have h1 := hget i hi40
    rw [visK_none i _ _ (waits_other (allR l) t i hnot hA), ← k1, List.getD_eq_getElem?_getD, List.getElem?_eq_getElem (by omega)] at h1
    rw [show s3.stands[i]'(by omega) = (some (s3.stands[i]'(by omega))).getD [] from rfl, h1]
    exact secs_get img i (by omega)

end Go.Proofs.Ytppbknlhknadbaa
