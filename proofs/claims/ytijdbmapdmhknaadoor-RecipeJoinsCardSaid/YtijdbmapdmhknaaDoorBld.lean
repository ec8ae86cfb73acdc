/- A strings.Builder that stands among other boxes: what it holds, and WriteString. -/
import Derived.Test.YtijdbmapdmhknaaDoorRows
import Derived.Test.YtijdbmapdmhknaaDoorGen
import Derived.Lib.AppendStr
import Derived.Lib.Builder
namespace Go.Proofs.YtijdbmapdmhknaaDoor
open Go.RowKit

/-- All but the block xb and the rows of bytes stays. -/
structure KeptBut (xb : Nat) (w w' : World) : Prop where
  os : w'.os = w.os
  tape : w'.tape = w.tape
  output : w'.output = w.output
  size : w.heap.size ≤ w'.heap.size
  block : ∀ k, k < w.heap.size → k ≠ xb → (∀ cur fz, w.heap[k]? ≠ some (.cells cur 5 fz)) → w'.heap[k]? = w.heap[k]?

theorem KeptBut.refl (xb : Nat) (w : World) : KeptBut xb w w := ⟨rfl, rfl, rfl, Nat.le_refl _, fun _ _ _ _ => rfl⟩
theorem KeptBut.trans {xb : Nat} {a b c : World} (h : KeptBut xb a b) (h2 : KeptBut xb b c) : KeptBut xb a c :=
  ⟨h2.os.trans h.os, h2.tape.trans h.tape, h2.output.trans h.output, Nat.le_trans h.size h2.size, fun k hk hne hb => by
    have e := h.block k hk hne hb
    rw [h2.block k (Nat.lt_of_lt_of_le hk h.size) hne (by rw [e]; exact hb), e]⟩
theorem KeptBut.below {xb : Nat} {w w' : World} (h : Below w.heap.size w w') : KeptBut xb w w' := ⟨h.os, h.tape, h.output, h.size, fun k hk _ _ => h.block k hk⟩
theorem KeptBut.grown {xb : Nat} {w w' : World} (h : w.grownBy w' (some xb)) : KeptBut xb w w' := ⟨h.os, h.tape, h.output, h.size, fun k hk hne _ => h.block k hk (fun e => hne (Option.some.inj e))⟩
theorem KeptBut.bytes {xb : Nat} {w w' : World} {B n : Nat} {v : Value} {xs : List Value} (hown : w.ownsRow B 5 1 v n xs) (h : w.grownBy w' v.ownBlock) : KeptBut xb w w' :=
  ⟨h.os, h.tape, h.output, h.size, fun k hk _ hb => h.block k hk (fun e => by
    rcases hown.2 with ⟨rfl, _⟩ | ⟨g, cap, cur, rfl, _, hg, _⟩
    · simp [Value.ownBlock] at e
    · simp only [Value.ownBlock, Option.some.injEq] at e
      subst e
      exact hb cur _ hg)⟩
theorem KeptBut.heap {xb : Nat} {w w' : World} (h : KeptBut xb w w') {k : Nat} {cs : Array Value} {T : TypeId} {fr : Nat × Nat} (hg : w.heap[k]? = some (.cells cs T fr)) (hne : k ≠ xb) (hT : T ≠ 5) : w'.heap[k]? = some (.cells cs T fr) := by
  rw [h.block k (Array.getElem?_eq_some_iff.1 hg).1 hne (fun cur fz e => by rw [hg] at e; injection e with e; injection e with _ e2 _; exact hT e2)]
  exact hg

theorem infoBuilder : (Tryd.prog.info? 58).map (·.size) = some 2 := by kernel_rfl
theorem liesBuilder : liesAt Tryd.prog Tryd.prog.depth 58 (2 / Tryd.prog.cellsOf 58) 0 58 1 = true := by kernel_rfl
theorem infoByte : (Tryd.prog.info? 5).map (fun i => (i.zero, i.size, i.bytes)) = some (some (.int .u8 0), 1, 1) := by kernel_rfl

set_option maxHeartbeats 1000000 in
set_option maxRecDepth 100000 in
theorem bcheck_any (b : Nat) (p v : Value) (w : World) (hg : w.heap[b]? = some (.cells #[p, v] 58 (0, 0))) (hp : p = .pointer none ∨ p = .pointer (some ⟨b, 0, none⟩)) :
    Calls Tryd.prog 52 #[.pointer (some ⟨b, 0, none⟩)] w fun e w' => e = .returned (.tuple #[]) ∧ w'.heap[b]? = some (.cells #[.pointer (some ⟨b, 0, none⟩), v] 58 (0, 0)) ∧ w.grownBy w' (some b) := by
  have c1 : w.cell? ⟨b, 0, none⟩ = some p := (cell_of_row _ _ _ _ _ _ hg).trans rfl
  rcases hp with rfl | rfl
  · have hgx := heap_setCell_same w b 0 _ 58 (.pointer (some ⟨b, 0, none⟩)) hg
    have f1 : w.frozen? ⟨b, 0, none⟩ = false := frozen_of_row _ _ _ _ _ hg
    have hsh : w.shape? b = some (58, 2) := by simp [World.shape?, hg]
    obtain ⟨j, hj, hjs⟩ := Option.map_eq_some_iff.1 infoBuilder
    have HJ := Lib.hid hj
    have HSH := Lib.hid hsh
    have HGX := Lib.hid hgx
    clear hg hj hsh hgx
    go_enter Tryd.func52, Tryd.ntmps52
    go_wp2
    rw [Lib.run_to_unsafe w ⟨b, 0, none⟩ Tryd.underlying55 Tryd.underlying107 HJ.out (by rw [hjs]; decide) HSH.out (show 0 < 2 by decide)]
    simp only [Result.andThen]
    rw [Oper.upon_value]
    go_wp2
    rw [run_callFunc_extern Tryd.func71 (by kernel_rfl) (by kernel_rfl) (by kernel_rfl) (e := Extern.AbiNoEscape.same) (by kernel_rfl)]
    rw [Lib.run_noEscape]
    simp only [Result.andThen]
    rw [Oper.upon_value]
    go_wp2
    rw [Lib.run_from_unsafe w ⟨b, 0, none⟩ Tryd.underlying107 Tryd.underlying55 HJ.out HSH.out liesBuilder]
    simp only [Result.andThen]
    rw [Oper.upon_value]
    go_wp2
    go_end0
    exact ⟨rfl, HGX.out, grown_set _ _ _ _⟩
  · obtain ⟨j, hj, hjs⟩ := Option.map_eq_some_iff.1 infoBuilder
    have HJ := Lib.hid hj
    have HG := Lib.hid hg
    clear hj hg
    go_enter Tryd.func52, Tryd.ntmps52
    go_wp2
    rw [Lib.run_neq_ptr_same w _ Tryd.underlying55 HJ.out]
    go_wp2
    go_end0
    exact ⟨rfl, HG.out, grown_refl _ _⟩

/-- A builder and its bytes. -/
def BldAt (B b : Nat) (l : List UInt8) (w : World) : Prop := Lib.IsBuilder 58 5 B b (Lib.byteCells l) w
theorem BldAt.row {B b : Nat} {l : List UInt8} {w : World} (h : BldAt B b l w) : ∃ p v, B ≤ b ∧ w.heap[b]? = some (.cells #[p, v] 58 (0, 0)) ∧ (p = .pointer none ∨ p = .pointer (some ⟨b, 0, none⟩)) ∧ w.ownsRow B 5 1 v l.length (Lib.byteCells l) ∧ v.ownBlock ≠ some b := by
  rcases h with ⟨h1, v, h2, h3, h4⟩ | ⟨h1, v, h2, h3, h4⟩
  · exact ⟨_, v, h1, h2, Or.inl rfl, by rw [Lib.byteCells_length] at h3; exact h3, h4⟩
  · exact ⟨_, v, h1, h2, Or.inr rfl, by rw [Lib.byteCells_length] at h3; exact h3, h4⟩
theorem BldAt.of {B b : Nat} {l : List UInt8} {w : World} {v : Value} (h1 : B ≤ b) (h2 : w.heap[b]? = some (.cells #[.pointer (some ⟨b, 0, none⟩), v] 58 (0, 0))) (h3 : w.ownsRow B 5 1 v l.length (Lib.byteCells l)) (h4 : v.ownBlock ≠ some b) : BldAt B b l w :=
  Or.inr ⟨h1, v, h2, by rw [Lib.byteCells_length]; exact h3, h4⟩
theorem BldAt.later {B b : Nat} {l : List UInt8} {w w' : World} (h : BldAt B b l w) (k : Kept w w') : BldAt B b l w' := by
  rcases h with ⟨h1, v, h2, h3, h4⟩ | ⟨h1, v, h2, h3, h4⟩
  · exact Or.inl ⟨h1, v, k.row h2, h3.kept (row := none) (grown_below k none) (Classical.em _), h4⟩
  · exact Or.inr ⟨h1, v, k.row h2, h3.kept (row := none) (grown_below k none) (Classical.em _), h4⟩

set_option maxHeartbeats 2000000 in
set_option maxRecDepth 100000 in
theorem bwriteL_any (B b : Nat) (l : List UInt8) (s : ByteArray) (w : World) (hs : l.length + s.size ≤ 1000000000) (hBw : B ≤ w.heap.size) (hc : BldAt B b l w) :
    Calls Tryd.prog 27 #[.pointer (some ⟨b, 0, none⟩), .string s] w fun e w' => e = .returned (.tuple #[.int .i64 s.size, .nilIface]) ∧ BldAt B b (l ++ s.data.toList) w' ∧ Below B w w' ∧ KeptBut b w w' := by
  obtain ⟨p, v, hB, hg, hp, hown, hne⟩ := hc.row
  have CC := bcheck_any b p v w hg hp
  obtain ⟨i0, hi, hz0⟩ := Option.map_eq_some_iff.1 infoByte
  simp only [Prod.mk.injEq] at hz0
  obtain ⟨hz0, hz1, hz2⟩ := hz0
  have HI := Lib.hid hi
  have HZ0 := Lib.hid hz0
  have HZ1 := Lib.hid hz1
  have HZ2 := Lib.hid hz2
  have HOW := Lib.hid hown
  have HNE := Lib.hid hne
  clear hi hz0 hz1 hz2 hg hp hown hne hc
  go_enter Tryd.func27, Tryd.ntmps27
  go_wp2_with fail
  refine CC.mono ?_
  rintro e w1 ⟨rfl, hg1, hG1⟩
  have hown1 := HOW.out.kept hG1 (Or.inr HNE.out)
  have c2 : w1.cell? ⟨b, 1, none⟩ = some v := (cell_of_row _ _ _ _ _ _ hg1).trans rfl
  have K1 := below_touch (Below.refl B w) (by exact hG1) hBw hB
  have hsz1 := hG1.size
  have HO1 := Lib.hid hown1
  have HG1 := Lib.hid hg1
  clear hown1 hg1
  go_wp2_with (at_builtin; refine Lib.wpList_append_own_string _ rfl _ _ 56 9 rfl B 5 i0 Tryd.underlying56 Tryd.underlying9 HI.out HZ0.out HZ1.out HZ2.out _ _ _ rfl HO1.out s rfl ?c3 ?c4 ?c5 ?_)
  case c3 => unfold maxLen; omega
  case c4 => omega
  case c5 => omega
  intro v' w2 hown2 hgrow _
  have hb2 : w2.heap[b]? = some (.cells #[.pointer (some ⟨b, 0, none⟩), v] 58 (0, 0)) := by
    rw [hgrow.block b (Array.getElem?_eq_some_iff.1 HG1.out).1 (fun e => HNE.out e.symm)]
    exact HG1.out
  have d2 : w2.cell? ⟨b, 1, none⟩ = some v := (cell_of_row _ _ _ _ _ _ hb2).trans rfl
  have f2 : w2.frozen? ⟨b, 1, none⟩ = false := frozen_of_row _ _ _ _ _ hb2
  have hg3 := heap_setCell_same w2 b 1 _ 58 v' hb2
  have hne3 : v'.ownBlock ≠ some b := Lib.ownBlock_ne hown2 hb2 (by decide)
  have hown3 := hown2.kept (grown_set w2 b 1 v') (Or.inr hne3)
  have hll : (l ++ s.data.toList).length = l.length + s.size := by rw [List.length_append, data_len]
  have hbc : Lib.byteCells (l ++ s.data.toList) = Lib.byteCells l ++ Lib.strCells s := by rw [Lib.byteCells_append, Lib.strCells_eq]
  have hC : BldAt B b (l ++ s.data.toList) (w2.setCell ⟨b, 1, none⟩ v') := BldAt.of hB hg3 (by rw [hll, hbc]; exact hown3) hne3
  have hK : KeptBut b w (w2.setCell ⟨b, 1, none⟩ v') := (KeptBut.grown hG1).trans ((KeptBut.bytes HO1.out hgrow).trans (KeptBut.grown (grown_set _ _ _ _)))
  have hKB : Below B w (w2.setCell ⟨b, 1, none⟩ v') := (K1.grown hgrow (by omega) (fun k hk => (HO1.out.lt k hk).1)).setCell (p := ⟨b, 1, none⟩) hB _
  obtain ⟨ao, n', cap, rfl⟩ : ∃ ao n' cap, v' = .slice ao n' cap := by
    rcases hown2.2 with ⟨hv, _⟩ | ⟨g, cap, cur, hv, _⟩
    · exact ⟨_, _, _, hv⟩
    · exact ⟨_, _, _, hv⟩
  have HC := Lib.hid hC
  have HK := Lib.hid hK
  have HKB := Lib.hid hKB
  clear hC hK hKB hown2 hgrow hb2 hg3 hne3 hown3 hll hbc
  go_wp2
  go_ret2
  exact ⟨rfl, HC.out, HKB.out, HK.out⟩

end Go.Proofs.YtijdbmapdmhknaaDoor
