/- A Cutter; the methods of the builder in it. -/
import Derived.Test.YtimllddlcjnikaaDoorCutN0
import Derived.Lib.FrozenHead
import Derived.RegionTactic
import Derived.BigRegion
namespace Go.Proofs.YtimllddlcjnikaaDoor
open Go.RowKit

/-- All but the block xb and the rows of bytes stays. -/
structure KeptBut (xb : Nat) (w w' : World) : Prop where
  os : w'.os = w.os
  tape : w'.tape = w.tape
  output : w'.output = w.output
  size : w.heap.size ≤ w'.heap.size
  block : ∀ k, k < w.heap.size → k ≠ xb → (∀ cur fz, w.heap[k]? ≠ some (.cells cur 5 fz)) → w'.heap[k]? = w.heap[k]?

theorem KeptBut.refl (xb : Nat) (w : World) : KeptBut xb w w := ⟨rfl, rfl, rfl, Nat.le_refl _, fun _ _ _ _ => rfl⟩
theorem KeptBut.trans {xb : Nat} {a b c : World} (h : KeptBut xb a b) (h2 : KeptBut xb b c) : KeptBut xb a c :=
  ⟨h2.os.trans h.os, h2.tape.trans h.tape, h2.output.trans h.output, Nat.le_trans h.size h2.size, fun k hk hne hb => by
    have e := h.block k hk hne hb
    rw [h2.block k (Nat.lt_of_lt_of_le hk h.size) hne (by rw [e]; exact hb), e]⟩
theorem KeptBut.below {xb : Nat} {w w' : World} (h : Below w.heap.size w w') : KeptBut xb w w' := ⟨h.os, h.tape, h.output, h.size, fun k hk _ _ => h.block k hk⟩
theorem KeptBut.grown {xb : Nat} {w w' : World} (h : w.grownBy w' (some xb)) : KeptBut xb w w' := ⟨h.os, h.tape, h.output, h.size, fun k hk hne _ => h.block k hk (fun e => hne (Option.some.inj e))⟩
theorem KeptBut.row {xb : Nat} {w w' : World} {B n : Nat} {v : Value} {xs : List Value} (hown : w.ownsRowF B 5 1 v n xs) (h : w.grownBy w' v.ownBlock) : KeptBut xb w w' :=
  ⟨h.os, h.tape, h.output, h.size, fun k hk _ hb => h.block k hk (fun e => by
    rcases hown.2 with ⟨rfl, _⟩ | ⟨g, cap, cur, fz, rfl, _, hg, _⟩
    · simp [Value.ownBlock] at e
    · simp only [Value.ownBlock, Option.some.injEq] at e
      subst e
      exact hb cur fz hg)⟩
theorem KeptBut.heap {xb : Nat} {w w' : World} (h : KeptBut xb w w') {k : Nat} {cs : Array Value} {T : TypeId} {fr : Nat × Nat} (hg : w.heap[k]? = some (.cells cs T fr)) (hne : k ≠ xb) (hT : T ≠ 5) : w'.heap[k]? = some (.cells cs T fr) := by
  rw [h.block k (Array.getElem?_eq_some_iff.1 hg).1 hne (fun cur fz e => by rw [hg] at e; injection e with e; injection e with _ e2 _; exact hT e2)]
  exact hg
theorem KeptBut.own {xb : Nat} {w w' : World} (h : KeptBut xb w w') {base n : Nat} {v : Value} {xs : List Value} (hown : w.ownsRow base 9 1 v n xs) (hne : v.ownBlock ≠ some xb) : w'.ownsRow base 9 1 v n xs := by
  refine ⟨hown.1, ?_⟩
  rcases hown.2 with hn | ⟨g, cap, cur, rfl, hb, hgg, rest⟩
  · exact .inl hn
  · exact .inr ⟨g, cap, cur, rfl, hb, h.heap hgg (fun e => hne (by rw [← e]; rfl)) (by decide), rest⟩
theorem KeptBut.tab {xb : Nat} {w w' : World} {B : Nat} (_h : KeptBut xb w w') (hb : Below B w w') (hT : TabAt w) (hB : 0 < B) : TabAt w' := tab_keep hT hB hb

/-- A Cutter in a row: its own address, its builder's address and buffer, its search. -/
structure CutterRow (R : Array Value) (xb : Nat) (C : Array Value) (n fr h k : Nat) (p v : Value) : Prop where
  size : R.size = 20
  r0 : R[0]? = some (.pointer (some ⟨xb, 0, none⟩))
  r1 : R[1]? = some p
  r2 : R[2]? = some v
  srch : SrchRow R 3 C n fr h k

theorem srch_low {R : Array Value} {C : Array Value} {n fr h k : Nat} (s : SrchRow R 3 C n fr h k) (i : Nat) (hi : i < 3) (x : Value) : SrchRow (R.setIfInBounds i x) 3 C n fr h k where
  size := by rw [Array.size_setIfInBounds]; exact s.size
  conf := by
    rw [← s.conf]
    apply Array.ext_getElem?
    intro j
    rw [Array.getElem?_extract, Array.getElem?_extract, Array.size_setIfInBounds]
    split
    · rw [Array.getElem?_setIfInBounds_ne (by omega)]
    · rfl
  cn := by rw [Array.getElem?_setIfInBounds_ne (by omega)]; exact s.cn
  cf := by rw [Array.getElem?_setIfInBounds_ne (by omega)]; exact s.cf
  ch := by rw [Array.getElem?_setIfInBounds_ne (by omega)]; exact s.ch
  ck := by rw [Array.getElem?_setIfInBounds_ne (by omega)]; exact s.ck

theorem CutterRow.setP {R : Array Value} {xb : Nat} {C : Array Value} {n fr h k : Nat} {p v : Value} (s : CutterRow R xb C n fr h k p v) (q : Value) : CutterRow (R.setIfInBounds 1 q) xb C n fr h k q v where
  size := by rw [Array.size_setIfInBounds]; exact s.size
  r0 := by rw [Array.getElem?_setIfInBounds_ne (by omega)]; exact s.r0
  r1 := set_same _ _ _ (by rw [s.size]; omega)
  r2 := by rw [Array.getElem?_setIfInBounds_ne (by omega)]; exact s.r2
  srch := srch_low s.srch 1 (by omega) q
theorem CutterRow.setV {R : Array Value} {xb : Nat} {C : Array Value} {n fr h k : Nat} {p v : Value} (s : CutterRow R xb C n fr h k p v) (q : Value) : CutterRow (R.setIfInBounds 2 q) xb C n fr h k p q where
  size := by rw [Array.size_setIfInBounds]; exact s.size
  r0 := by rw [Array.getElem?_setIfInBounds_ne (by omega)]; exact s.r0
  r1 := by rw [Array.getElem?_setIfInBounds_ne (by omega)]; exact s.r1
  r2 := set_same _ _ _ (by rw [s.size]; omega)
  srch := srch_low s.srch 2 (by omega) q

/-- A Cutter in the block xb, the bytes l in its builder. -/
def CutAt (B xb : Nat) (C : Array Value) (n fr h k : Nat) (l : List UInt8) (w : World) : Prop :=
  B ≤ xb ∧ ∃ R p v, w.heap[xb]? = some (.cells R 60 (0, 0)) ∧ CutterRow R xb C n fr h k p v ∧ (p = .pointer none ∨ p = .pointer (some ⟨xb, 1, none⟩)) ∧
    w.ownsRowF B 5 1 v l.length (Lib.byteCells l) ∧ v.ownBlock ≠ some xb

theorem CutAt.later {B xb : Nat} {C : Array Value} {n fr h k : Nat} {l : List UInt8} {w w' : World} (s : CutAt B xb C n fr h k l w) (hb : Below w.heap.size w w') : CutAt B xb C n fr h k l w' := by
  obtain ⟨hB, R, p, v, hg, hr, hp, hown, hne⟩ := s
  exact ⟨hB, R, p, v, (hb.block _ (Array.getElem?_eq_some_iff.1 hg).1).trans hg, hr, hp, hown.kept (row := none) (grown_below hb none) (Classical.em _), hne⟩
theorem CutAt.lt {B xb : Nat} {C : Array Value} {n fr h k : Nat} {l : List UInt8} {w : World} (s : CutAt B xb C n fr h k l w) : xb < w.heap.size := by
  obtain ⟨hB, R, p, v, hg, _⟩ := s
  exact (Array.getElem?_eq_some_iff.1 hg).1

theorem grown_set1 {w : World} {b i : Nat} {x : Value} : w.grownBy (w.setCell ⟨b, i, none⟩ x) (some b) := grown_set w b i x

theorem infoBuilder : (Tryd.prog.info? 58).map (·.size) = some 2 := by kernel_rfl
theorem liesBuilder : liesAt Tryd.prog Tryd.prog.depth 60 (20 / Tryd.prog.cellsOf 60) 1 58 1 = true := by kernel_rfl
theorem infoByte : (Tryd.prog.info? 5).map (fun i => (i.zero, i.size, i.bytes)) = some (some (.int .u8 0), 1, 1) := by kernel_rfl

set_option maxHeartbeats 1000000 in
set_option maxRecDepth 100000 in
theorem copyCheck_at (xb : Nat) (R : Array Value) (C : Array Value) (n fr h k : Nat) (p v : Value) (w : World) (hg : w.heap[xb]? = some (.cells R 60 (0, 0))) (hr : CutterRow R xb C n fr h k p v) (hp : p = .pointer none ∨ p = .pointer (some ⟨xb, 1, none⟩)) :
    Calls Tryd.prog 42 #[.pointer (some ⟨xb, 1, none⟩)] w fun e w' => e = .returned (.tuple #[]) ∧ ∃ R', w'.heap[xb]? = some (.cells R' 60 (0, 0)) ∧ CutterRow R' xb C n fr h k (.pointer (some ⟨xb, 1, none⟩)) v ∧ w.grownBy w' (some xb) := by
  have c1 : w.cell? ⟨xb, 1, none⟩ = some p := (cell_of_row _ _ _ _ _ _ hg).trans hr.r1
  rcases hp with rfl | rfl
  · have hgx := heap_setCell_same w xb 1 R 60 (.pointer (some ⟨xb, 1, none⟩)) hg
    have hrx := hr.setP (.pointer (some ⟨xb, 1, none⟩))
    have f1 : w.frozen? ⟨xb, 1, none⟩ = false := frozen_of_row _ _ _ _ _ hg
    have hsh : w.shape? xb = some (60, 20) := by simp [World.shape?, hg, hr.size]
    obtain ⟨j, hj, hjs⟩ := Option.map_eq_some_iff.1 infoBuilder
    have HJ := Lib.hid hj
    have HSH := Lib.hid hsh
    have HGX := Lib.hid hgx
    have HRX := Lib.hid hrx
    clear hg hr hj hsh hgx hrx
    go_enter Tryd.func42, Tryd.ntmps42
    go_wp2
    rw [Lib.run_to_unsafe w ⟨xb, 1, none⟩ Tryd.underlying55 Tryd.underlying73 HJ.out (by rw [hjs]; decide) HSH.out (show 1 < 20 by decide)]
    simp only [Result.andThen]
    rw [Oper.upon_value]
    go_wp2
    rw [run_callFunc_extern Tryd.func45 (by kernel_rfl) (by kernel_rfl) (by kernel_rfl) (e := Extern.AbiNoEscape.same) (by kernel_rfl)]
    rw [Lib.run_noEscape]
    simp only [Result.andThen]
    rw [Oper.upon_value]
    go_wp2
    rw [Lib.run_from_unsafe w ⟨xb, 1, none⟩ Tryd.underlying73 Tryd.underlying55 HJ.out HSH.out liesBuilder]
    simp only [Result.andThen]
    rw [Oper.upon_value]
    go_wp2
    go_end0
    exact ⟨rfl, _, HGX.out, HRX.out, grown_set _ _ _ _⟩
  · obtain ⟨j, hj, hjs⟩ := Option.map_eq_some_iff.1 infoBuilder
    have HJ := Lib.hid hj
    have HG := Lib.hid hg
    have HR := Lib.hid hr
    clear hj hg hr
    go_enter Tryd.func42, Tryd.ntmps42
    go_wp2
    rw [Lib.run_neq_ptr_same w _ Tryd.underlying55 HJ.out]
    go_wp2
    go_end0
    exact ⟨rfl, R, HG.out, HR.out, grown_refl _ _⟩

set_option maxHeartbeats 1000000 in
set_option maxRecDepth 100000 in
theorem blen_any (B xb : Nat) (C : Array Value) (n fr h k : Nat) (l : List UInt8) (w : World) (s : CutAt B xb C n fr h k l w) :
    Calls Tryd.prog 36 #[.pointer (some ⟨xb, 1, none⟩)] w fun e w' => e = .returned (.int .i64 l.length) ∧ w = w' := by
  obtain ⟨hB, R, p, v, hg, hr, hp, hown, hne⟩ := s
  obtain ⟨ao, cap, rfl⟩ : ∃ ao cap, v = .slice ao l.length cap := by
    rcases hown.2 with ⟨hv, h0⟩ | ⟨g, cap, cur, fz, hv, _⟩
    · exact ⟨none, 0, by rw [hv, h0]⟩
    · exact ⟨_, _, hv⟩
  have c2 : w.cell? ⟨xb, 2, none⟩ = some (.slice ao l.length cap) := (cell_of_row _ _ _ _ _ _ hg).trans hr.r2
  clear hg hr hp hown hne hB
  go_enter Tryd.func36, Tryd.ntmps36
  go_wp2
  go_ret
  exact ⟨rfl, rfl⟩

set_option maxHeartbeats 2000000 in
set_option maxRecDepth 100000 in
theorem wstr_any (B xb : Nat) (C : Array Value) (n fr h k : Nat) (l : List UInt8) (s : ByteArray) (w : World) (hs : l.length + s.size ≤ 1000000) (hBw : B ≤ w.heap.size) (hc : CutAt B xb C n fr h k l w) :
    Calls Tryd.prog 33 #[.pointer (some ⟨xb, 1, none⟩), .string s] w fun e w' => e = .returned (.tuple #[.int .i64 s.size, .nilIface]) ∧ CutAt B xb C n fr h k (l ++ s.data.toList) w' ∧ Below B w w' ∧ KeptBut xb w w' := by
  obtain ⟨hB, R, p, v, hg, hr, hp, hown, hne⟩ := hc
  have CC := copyCheck_at xb R C n fr h k p v w hg hr hp
  obtain ⟨i0, hi, hz0, hz1, hz2⟩ := info_of infoByte
  have HI := Lib.hid hi
  have HZ0 := Lib.hid hz0
  have HZ1 := Lib.hid hz1
  have HZ2 := Lib.hid hz2
  have HOW := Lib.hid hown
  have HNE := Lib.hid hne
  clear hi hz0 hz1 hz2 hg hr hp hown hne
  go_enter Tryd.func33, Tryd.ntmps33
  go_wp2_with fail
  refine CC.mono ?_
  rintro e w1 ⟨rfl, R1, hg1, hr1, hG1⟩
  have hown1 := HOW.out.kept hG1 (Or.inr HNE.out)
  have c2 : w1.cell? ⟨xb, 2, none⟩ = some v := (cell_of_row _ _ _ _ _ _ hg1).trans hr1.r2
  have K1 := below_touch (Below.refl B w) (by exact hG1) hBw hB
  have hsz1 := hG1.size
  have HO1 := Lib.hid hown1
  have HG1 := Lib.hid hg1
  have HR1 := Lib.hid hr1
  clear hown1 hg1 hr1
  go_wp2_with (at_builtin; refine Lib.wpList_append_own_stringF _ rfl _ _ 56 9 rfl B 5 i0 Tryd.underlying56 Tryd.underlying9 HI.out HZ0.out HZ1.out HZ2.out _ _ _ rfl HO1.out s rfl ?c3 ?c4 ?c5 ?_)
  case c3 => unfold maxLen; omega
  case c4 => omega
  case c5 => omega
  intro v' w2 hown2 hgrow _
  have hb2 : w2.heap[xb]? = some (.cells R1 60 (0, 0)) := by
    rw [hgrow.block xb (Array.getElem?_eq_some_iff.1 HG1.out).1 (fun e => HNE.out e.symm)]
    exact HG1.out
  have d2 : w2.cell? ⟨xb, 2, none⟩ = some v := (cell_of_row _ _ _ _ _ _ hb2).trans HR1.out.r2
  have f2 : w2.frozen? ⟨xb, 2, none⟩ = false := frozen_of_row _ _ _ _ _ hb2
  have hg3 := heap_setCell_same w2 xb 2 R1 60 v' hb2
  have hr3 := HR1.out.setV v'
  have hne3 : v'.ownBlock ≠ some xb := Lib.ownBlock_neF hown2 hb2 (by decide)
  have hown3 := hown2.kept (grown_set w2 xb 2 v') (Or.inr hne3)
  have hll : (l ++ s.data.toList).length = l.length + s.size := by rw [List.length_append, data_len]
  have hbc : Lib.byteCells (l ++ s.data.toList) = Lib.byteCells l ++ Lib.strCells s := by rw [Lib.byteCells_append, Lib.strCells_eq]
  have hC : CutAt B xb C n fr h k (l ++ s.data.toList) (w2.setCell ⟨xb, 2, none⟩ v') := ⟨hB, _, _, _, hg3, hr3, Or.inr rfl, by rw [hll, hbc]; exact hown3, hne3⟩
  have hK : KeptBut xb w (w2.setCell ⟨xb, 2, none⟩ v') := (KeptBut.grown hG1).trans ((KeptBut.row HO1.out hgrow).trans (KeptBut.grown (grown_set _ _ _ _)))
  have hKB : Below B w (w2.setCell ⟨xb, 2, none⟩ v') := (K1.grown hgrow (by omega) (fun k hk => (HO1.out.lt k hk).1)).setCell (p := ⟨xb, 2, none⟩) hB _
  obtain ⟨ao, n', cap, rfl⟩ : ∃ ao n' cap, v' = .slice ao n' cap := by
    rcases hown2.2 with ⟨hv, _⟩ | ⟨g, cap, cur, fz, hv, _⟩
    · exact ⟨_, _, _, hv⟩
    · exact ⟨_, _, _, hv⟩
  have HC := Lib.hid hC
  have HK := Lib.hid hK
  have HKB := Lib.hid hKB
  clear hC hK hKB hown2 hgrow hb2 hg3 hr3 hne3 hown3 hll hbc
  go_wp2
  go_ret2
  exact ⟨rfl, HC.out, HKB.out, HK.out⟩

set_option maxHeartbeats 1000000 in
set_option maxRecDepth 100000 in
theorem breset_any (B xb : Nat) (C : Array Value) (n fr h k : Nat) (l : List UInt8) (w : World) (hBw : B ≤ w.heap.size) (hc : CutAt B xb C n fr h k l w) :
    Calls Tryd.prog 37 #[.pointer (some ⟨xb, 1, none⟩)] w fun e w' => e = .returned (.tuple #[]) ∧ CutAt B xb C n fr h k [] w' ∧ Below B w w' ∧ w.grownBy w' (some xb) := by
  obtain ⟨hB, R, p, v, hg, hr, hp, hown, hne⟩ := hc
  have c1 : w.cell? ⟨xb, 1, none⟩ = some p := (cell_of_row _ _ _ _ _ _ hg).trans hr.r1
  have f1 : w.frozen? ⟨xb, 1, none⟩ = false := frozen_of_row _ _ _ _ _ hg
  have hg2 := heap_setCell_same w xb 1 R 60 (.pointer none) hg
  have hr2 := hr.setP (.pointer none)
  have c2 : (w.setCell ⟨xb, 1, none⟩ (.pointer none)).cell? ⟨xb, 2, none⟩ = some v := (cell_of_row _ _ _ _ _ _ hg2).trans hr2.r2
  have f2 : (w.setCell ⟨xb, 1, none⟩ (.pointer none)).frozen? ⟨xb, 2, none⟩ = false := frozen_of_row _ _ _ _ _ hg2
  have hg3 := heap_setCell_same _ xb 2 _ 60 (.slice none 0 0) hg2
  have hr3 := hr2.setV (.slice none 0 0)
  have hC : CutAt B xb C n fr h k [] ((w.setCell ⟨xb, 1, none⟩ (.pointer none)).setCell ⟨xb, 2, none⟩ (.slice none 0 0)) := ⟨hB, _, _, _, hg3, hr3, Or.inl rfl, World.ownsRowF_nil _ _ _ _, by simp [Value.ownBlock]⟩
  have hKB : Below B w ((w.setCell ⟨xb, 1, none⟩ (.pointer none)).setCell ⟨xb, 2, none⟩ (.slice none 0 0)) := (((Below.refl _ _).mono hBw).setCell (p := ⟨xb, 1, none⟩) hB _).setCell (p := ⟨xb, 2, none⟩) hB _
  have HC := Lib.hid hC
  have HKB := Lib.hid hKB
  clear hC hKB hg hr hp hown hne hg2 hr2 hg3 hr3
  go_enter Tryd.func37, Tryd.ntmps37
  go_wp2
  go_end0
  exact ⟨rfl, HC.out, HKB.out, grown_trans (grown_set _ _ _ _) (grown_set _ _ _ _)⟩

end Go.Proofs.YtimllddlcjnikaaDoor
