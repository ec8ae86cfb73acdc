/- The landed blob's Put: what stands between two rounds of its loop. -/
import Derived.Test.YtppbknlhknadbaaGT
import Derived.Test.YtppbknlhknadbaaBmE
import Derived.Test.YtppbknlhknadbaaBmA
import Derived.Test.YtppbknlhknadbaaBmF
import Derived.Shelf.RegionOpen
namespace Go.Proofs.Ytppbknlhknadbaa
open Go.RowKit Go.Shelf

theorem allR_len8 {l : List (Int × Int)} {n size : Int} (h : fitB l n size) : (allR l).length ≤ 8192 := by
  have h1 := cntA_le (hasR l)
  obtain ⟨_, h2, _⟩ := fitB_list h
  have h3 := h.2.2.2
  omega
/-- Between two rounds; where a write had an error. -/
def PutC (T : List UInt8) (s : Dk) (Bs : Nat → Prop) (n5 : Nat) (pre : List (Fin 8192)) (sk : Dk) (Bk : Nat → Prop) : Prop :=
  sk = putR T 0 s pre ∧ okR T 0 s pre ∧ sk.ok ∧ sk.ops ≤ s.ops + pre.length ∧ ∀ k, Bk k → Bs k ∨ n5 ≤ k
def PutJ (P : Dk → (Nat → Prop) → World → Prop) (T : List UInt8) (s : Dk) (Bs : Nat → Prop) (n5 b0 : Nat) (x : Value) (w : World) (pre : List (Fin 8192)) (W : World) : Prop :=
  (∃ sk Bk, P sk Bk W ∧ PutC T s Bs n5 pre sk Bk) ∧ Boxed W b0 33 x ∧ (∃ r : ByteArray, Boxed W (b0 + 1) 9 (.string r) ∧ r.data.toList = T.drop (128 * pre.length)) ∧ Boxed W (b0 + 2) 34 (.int .i64 0) ∧ ButBy Bs w W ∧ n5 ≤ W.heap.size
def PutX (P : Dk → (Nat → Prop) → World → Prop) (T : List UInt8) (s : Dk) (Bs : Nat → Prop) (n5 b0 : Nat) (w : World) (c : Code) (xs : List (Fin 8192)) (W : World) : Prop :=
  c = .ret ∧ ∃ pre x er, xs = pre ++ [x] ∧ okR T 0 s pre ∧ er ≠ 0 ∧ (putR T 0 s pre).writeE (x.val : Int) (partB T (0 + pre.length)) = er ∧
    (∃ sk Bk, P sk Bk W ∧ sk = putR T 0 s (pre ++ [x]) ∧ ∀ k, Bk k → Bs k ∨ n5 ≤ k) ∧ Boxed W (b0 + 2) 34 (.int .i64 er) ∧ ButBy Bs w W
theorem putJ_own {B : Nat} {y : Value} {P : Dk → (Nat → Prop) → World → Prop} (D : DiskOk B y P) {T : List UInt8} {s : Dk} {Bs : Nat → Prop} {b0 : Nat} {x : Value} {w w0 : World} (hp : P s Bs w0) (h : w.heap.size ≤ w0.heap.size) :
    OwnFrom w0.heap.size (PutJ P T s Bs w0.heap.size b0 x w) :=
  (ownFrom_disk D hp _).and ((Own.from (boxed_own _ _ (fun _ => x)) _).and (OwnFrom.and (fun _ W W' row ⟨r, hb, hr⟩ hg hh => ⟨r, boxed_own _ _ (fun (_ : Unit) => .string r) () W W' row hb hg (fun k e => (hh k e).2), hr⟩) ((Own.from (boxed_own _ _ (fun _ => .int .i64 0)) _).and ((ownFrom_butBy h).and (fun _ _ _ _ hs hg _ => Nat.le_trans hs hg.size)))))
theorem putX_own {B : Nat} {y : Value} {P : Dk → (Nat → Prop) → World → Prop} (D : DiskOk B y P) {T : List UInt8} {s : Dk} {Bs : Nat → Prop} {b0 : Nat} {w w0 : World} (hp : P s Bs w0) (h : w.heap.size ≤ w0.heap.size) (c : Code) :
    OwnFrom w0.heap.size (PutX P T s Bs w0.heap.size b0 w c) := fun _ W W' row ⟨hc, pre, x, er, h1, h2, h3, h4, ⟨sk, Bk, hk, h5, h6⟩, hb, hy⟩ hg hr =>
  ⟨hc, pre, x, er, h1, h2, h3, h4, ⟨sk, Bk, diskFrom D hp hk hg hr, h5, h6⟩, boxed_own _ _ (fun (_ : Unit) => .int .i64 er) () W W' row hb hg (fun r e => (hr r e).2), ownFrom_butBy (β := Unit) h () W W' row hy hg hr⟩

theorem ButBy.far {Bs : Nat → Prop} {w W W' : World} (h : ButBy Bs w W) (b : Below w.heap.size W W') : ButBy Bs w W' :=
  ⟨b.os.trans h.os, b.tape.trans h.tape, b.output.trans h.output, Nat.le_trans h.size b.size, fun k hk hn => (b.block k hk).trans (h.block k hk hn)⟩
/-- A round: a quiet call, a write, a store into one of the loop's boxes. -/
theorem put_round {B : Nat} {y : Value} {P : Dk → (Nat → Prop) → World → Prop} (D : DiskOk B y P) {s sk s' : Dk} {Bs Bk Bk' : Nat → Prop} {w W5 W W6 W7 : World} {b : Nat} (hp : P s Bs w) (hp5 : P s Bs W5) (hk : P sk Bk W) (hBk : ∀ k, Bk k → Bs k ∨ W5.heap.size ≤ k)
    (hBy : ButBy Bs w W) (h5 : W5.heap.size ≤ W.heap.size) (hw5 : w.heap.size ≤ W5.heap.size) (k6 : Kept W W6) (hk7 : P s' Bk' W7) (hs7 : ∀ k, Bk' k → Bk k ∨ W6.heap.size ≤ k) (hb7 : ButBy Bk W6 W7) (hb : w.heap.size ≤ b) (hb5 : b < W5.heap.size) (v u : Value) (T : TypeId) (hbx : Boxed W b T v) (W' : World) (hW' : W' = W7.setCell ⟨b, 0, none⟩ u) :
    Boxed W' b T u ∧ P s' Bk' W' ∧ (∀ k, Bk' k → Bk k ∨ W.heap.size ≤ k) ∧ (∀ k, Bk' k → Bs k ∨ W5.heap.size ≤ k) ∧ ButBy (fun k => Bk k ∨ k = b) W W' ∧ ButBy Bs w W' ∧ (∀ (c : Nat) (U : TypeId) (z : Value), w.heap.size ≤ c → c < W5.heap.size → c ≠ b → Boxed W c U z → Boxed W' c U z) ∧ KeepsFrom W5.heap.size W W' := by
  subst hW'
  have hout : ∀ c, w.heap.size ≤ c → c < W5.heap.size → ¬ Bk c := fun c h1 h2 h3 => by
    rcases hBk c h3 with z | z
    · have := (D.above _ _ _ hp c z).2; omega
    · omega
  have hWs : ∀ k, Bk' k → Bk k ∨ W.heap.size ≤ k := fun k hk => (hs7 k hk).imp id (fun z => Nat.le_trans k6.size z)
  have hrow : ∀ (c : Nat) (U : TypeId) (z : Value), w.heap.size ≤ c → c < W5.heap.size → Boxed W c U z → Boxed W7 c U z := fun c U z h1 h2 h3 => by
    have h4 : Boxed W6 c U z := Kept.row k6 h3
    show W7.heap[c]? = _
    rw [hb7.block c h4.lt (hout c h1 h2)]
    exact h4
  have hB7 := hrow b T v hb hb5 hbx
  have hset : Below W.heap.size W7 W7 := Below.refl _ _
  have hnb' : ∀ k, Bk' k → k ≠ b := fun k hk e => by
    subst e
    rcases hWs k hk with z | z
    · exact hout k hb hb5 z
    · omega
  have hother : ∀ k, k ≠ b → (W7.setCell ⟨b, 0, none⟩ u).heap[k]? = W7.heap[k]? := fun k hk => heap_setCell_other _ _ _ _ hk
  have hsz : (W7.setCell ⟨b, 0, none⟩ u).heap.size = W7.heap.size := by simp
  have hBW : ButBy (fun k => Bk k ∨ k = b) W (W7.setCell ⟨b, 0, none⟩ u) := by
    have h1 : ButBy Bk W W7 := (ButBy.below k6).trans hb7
    have h2 := (Below.refl b W7).setCell (p := ⟨b, 0, none⟩) (Nat.le_refl _) u
    exact ⟨h2.os.trans h1.os, h2.tape.trans h1.tape, h2.output.trans h1.output, Nat.le_trans h1.size h2.size, fun k hk hn => (hother k (fun e => hn (Or.inr e))).trans (h1.block k hk (fun z => hn (Or.inl z)))⟩
  refine ⟨hB7.set u, D.stay _ _ _ _ hk7 (by rw [hsz]; exact Nat.le_refl _) (fun k hk => hother k (hnb' k hk)), hWs, fun k hk => ?_, hBW, ?_, fun c U z h1 h2 h3 h4 => ?_, ?_⟩
  · rcases hWs k hk with z | z
    · exact hBk k z
    · exact Or.inr (Nat.le_trans h5 z)
  · refine ⟨hBW.os.trans hBy.os, hBW.tape.trans hBy.tape, hBW.output.trans hBy.output, Nat.le_trans hBy.size hBW.size, fun k hk hn => (hBW.block k (Nat.lt_of_lt_of_le hk hBy.size) (fun z => ?_)).trans (hBy.block k hk hn)⟩
    rcases z with z | z
    · rcases hBk k z with x | x
      · exact hn x
      · omega
    · omega
  · show (W7.setCell _ _).heap[c]? = _
    rw [hother c h3]
    exact hrow c U z h1 h2 h4
  · exact keepsFrom_disk D hp5 hk (fun k hk => by subst hk; exact ⟨_, _, _, hbx⟩) hBW
theorem put_rows {B : Nat} {y : Value} {P : Dk → (Nat → Prop) → World → Prop} (D : DiskOk B y P) {s : Dk} {Bs Bk : Nat → Prop} {w W5 W W6 W7 : World} (hp : P s Bs w) (hBk : ∀ k, Bk k → Bs k ∨ W5.heap.size ≤ k) (k6 : Kept W W6) (hb7 : ButBy Bk W6 W7) {c : Nat} {U : TypeId} {z : Value} (h1 : w.heap.size ≤ c) (h2 : c < W5.heap.size) (h3 : Boxed W c U z) : Boxed W7 c U z := by
  have h4 : Boxed W6 c U z := Kept.row k6 h3
  show W7.heap[c]? = _
  rw [hb7.block c h4.lt (fun h3 => by
    rcases hBk c h3 with z | z
    · have := (D.above _ _ _ hp c z).2; omega
    · omega)]
  exact h4
/-- Behind the loop: the result's cell is written, the mark is taken. -/
theorem put_end {B : Nat} {y : Value} {P : Dk → (Nat → Prop) → World → Prop} (D : DiskOk B y P) {s sk : Dk} {Bs Bk : Nat → Prop} {w W5 W W' : World} {b Df : Nat} {o : Obj} (hp : P s Bs w) (hp5 : P s Bs W5) (hk : P sk Bk W) (hBk : ∀ k, Bk k → Bs k ∨ W5.heap.size ≤ k)
    (hw : w.heap.size ≤ W5.heap.size) (hb : w.heap.size ≤ b) (hb5 : b < W5.heap.size) (hBy : ButBy Bs w W) (hst : Below w.heap.size W W') (hoth : ∀ k, k ≠ b → W'.heap[k]? = W.heap[k]?) (hD : W5.heap.size ≤ Df) (hK : W'.heap[Df]? = some o) (hc : o.isCells = false) (hnw : o.isWalk = false) (o' : Obj) (ret : Value) :
    DPost P Bs sk ret w (.returned ret) (W'.putObj Df o') := by
  have h1 : P sk Bk W' := D.stay _ _ _ _ hk hst.size (fun k hk2 => hoth k (fun e => by
    subst e
    rcases hBk k hk2 with z | z
    · have := (D.above _ _ _ hp k z).2; omega
    · omega))
  have h2 : P sk Bk (W'.putObj Df o') := diskFrom D hp5 h1 (grownBy_putObj' W' Df o') (fun r e => by cases e; exact ⟨hD, o, hK, hc⟩)
  exact ⟨rfl, ⟨Bk, h2, fun k hk => (hBk k hk).imp id (fun z => Nat.le_trans hw z)⟩, (hBy.far hst).far (belowK_b (w := W5) hw W' Df o o' hD hK hc hnw)⟩

/-- The zero value of a sector. -/
theorem zeroSec0 : (Try.prog.info? 81).bind (·.zero) = some (.agg (List.replicate 128 (Value.int .u8 0)).toArray) := by kernel_rfl
theorem zeroSec (w : World) : (zeroValue 81).run Try.prog w = .ok (.agg (List.replicate 128 (Value.int .u8 0)).toArray) w := by
  have h := zeroSec0
  cases hq : Try.prog.info? 81 with
  | none => rw [hq] at h; cases h
  | some i =>
    rw [hq] at h
    simp only [Option.bind_some] at h
    simp [zeroValue, typeInfo, hq, h]
theorem rowB_zero (w : World) : RowB w.heap.size 81 (List.replicate 128 0) (w.alloc (.cells (List.replicate 128 (Value.int .u8 0)).toArray 81)) := by
  rw [RowB, heap_alloc_last, List.map_replicate]
  rfl
theorem patch_zero (l : List UInt8) (h : l.length ≤ 128) : patch (List.replicate 128 0) 0 l = fillL l 128 := by
  rw [patch_eq l _ 0 (by rw [List.length_replicate]; omega)]
  unfold fillL
  rw [List.take_zero, List.nil_append, Nat.zero_add, List.drop_replicate]
/-- A text from a place on. -/
theorem rest_list (r : ByteArray) (n : Nat) : (r.extract n r.size).data.toList = r.data.toList.drop n := by
  rw [Lib.extract_eq r n r.size]
  show (r.data.toList.drop n).take (r.size - n) = _
  rw [List.take_of_length_le]
  rw [List.length_drop, data_len]
  exact Nat.le_refl _

end Go.Proofs.Ytppbknlhknadbaa
