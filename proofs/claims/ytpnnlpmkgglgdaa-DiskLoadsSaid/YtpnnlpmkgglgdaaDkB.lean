/- What a call does to both disks: the statements' text and does, out of a disk's contract. -/
import Derived.Test.YtpnnlpmkgglgdaaDkA
import Derived.OpenShut
namespace Go.Proofs.Ytpnnlpmkgglgdaa
open Go.RowKit Go.ChangeShapes

def actA (kd i : Int) (t : ByteArray) (f : Bool) (kv : Value) : Array Value := #[.int .i64 kd, .int .i64 i, .string t, .bool f, kv]
/-- What an act writes. -/
def actT (t : ByteArray) (f : Bool) : ByteArray := if f then str (secT t.data.toList) else t
theorem actT_size (t : ByteArray) (f : Bool) (h : t.size ≤ maxLen) : (actT t f).size ≤ maxLen := by
  unfold actT
  split
  · rw [str_size, secT_len]; decide
  · exact h

set_option maxRecDepth 100000 in
theorem dtext_any (kd i : Int) (t : ByteArray) (f : Bool) (kv : Value) (w : World) :
    Calls Try.prog 31 #[.agg (actA kd i t f kv)] w fun e w' => e = .returned (.string (actT t f)) ∧ Below w.heap.size w w' := by
  have gA := heap_alloc_last w (.cells (actA kd i t f kv) 32)
  have K0 := box_below w (.cells (actA kd i t f kv) 32)
  have c2 : (w.alloc (.cells (actA kd i t f kv) 32)).cell? ⟨w.heap.size, 2, none⟩ = some (.string t) := by rw [cell_of_row _ _ _ _ _ _ gA]; rfl
  have c3 : (w.alloc (.cells (actA kd i t f kv) 32)).cell? ⟨w.heap.size, 3, none⟩ = some (.bool f) := by rw [cell_of_row _ _ _ _ _ _ gA]; rfl
  have SE := fun W => sector_any t W
  obtain ⟨A, hA⟩ : ∃ A, A = actA kd i t f kv := ⟨_, rfl⟩
  rw [← hA] at c2 c3 K0 ⊢
  have HK0 := Lib.hid K0
  clear gA hA K0
  cases f with
  | true =>
    have e : actT t true = str (secT t.data.toList) := rfl
    rw [e]
    obtain ⟨x, hx⟩ : ∃ x, x = str (secT t.data.toList) := ⟨_, rfl⟩
    rw [← hx] at SE ⊢
    clear e hx
    go_enter Try.func31, Try.ntmps31
    go_wp2_with fail
    refine (SE _).mono ?_
    rintro e w' ⟨rfl, hb⟩
    go_wp2
    go_ret
    exact ⟨rfl, Below.then' HK0.out hb HK0.out.size⟩
  | false =>
    have e : actT t false = t := rfl
    rw [e]
    clear e SE
    go_enter Try.func31, Try.ntmps31
    go_wp2
    go_ret
    exact ⟨rfl, HK0.out⟩

/-- Both disks, of the same state, apart in memory. -/
structure Pair (B Br g : Nat) (P : Dk → (Nat → Prop) → World → Prop) (s : Dk) (Bs : Nat → Prop) (vs vw : Value) (w : World) : Prop where
  d : P s Bs w
  r : RAt Br g s vs vw w
  apart : ∀ k, Bs k → ¬ RBs g vs vw k
  base : Br ≤ w.heap.size
  lt : ∀ k, Bs k → B ≤ k ∧ k < w.heap.size
  ok : s.ok

/-- The blocks that both lie in. -/
def PBs (Bs : Nat → Prop) (g : Nat) (vs vw : Value) (k : Nat) : Prop := Bs k ∨ RBs g vs vw k

def PairPost (B Br g : Nat) (P : Dk → (Nat → Prop) → World → Prop) (s' : Dk) (Bs : Nat → Prop) (vs vw ret : Value) (w : World) (e : Ending) (w' : World) : Prop :=
  e = .returned ret ∧ (∃ Bs' vs' vw', Pair B Br g P s' Bs' vs' vw' w' ∧ ∀ k, PBs Bs' g vs' vw' k → PBs Bs g vs vw k ∨ w.heap.size ≤ k) ∧ ButBy (PBs Bs g vs vw) w w'

section
variable {B Br g : Nat} {x : Value} {P : Dk → (Nat → Prop) → World → Prop} (D : DiskOk B x P) {s : Dk} {Bs : Nat → Prop} {vs vw : Value} {w : World} (h : Pair B Br g P s Bs vs vw w)
include D h

theorem Pair.kept {w' : World} (k : Kept w w') : Pair B Br g P s Bs vs vw w' :=
  ⟨D.kept h.d k, h.r.kept k, h.apart, Nat.le_trans h.base k.size, fun j hj => ⟨(h.lt j hj).1, Nat.lt_of_lt_of_le (h.lt j hj).2 k.size⟩, h.ok⟩

omit D in
/-- The document's disk stands where the other is written. -/
theorem Pair.r_stay {w' : World} (hb : ButBy Bs w w') : RAt Br g s vs vw w' := h.r.stay (fun k hk => hb.block k (h.r.lt k hk).2 (fun y => h.apart k y hk))

/-- Behind both calls. -/
theorem Pair.step {s1 : Dk} {Bs1 : Nat → Prop} {vs2 vw2 : Value} {w1 w2 : World} (hd : P s1 Bs1 w1) (hs1 : ∀ k, Bs1 k → Bs k ∨ w.heap.size ≤ k) (hb1 : ButBy Bs w w1)
    (hr : RAt Br g s1 vs2 vw2 w2) (hs2 : ∀ k, RBs g vs2 vw2 k → RBs g vs vw k ∨ w1.heap.size ≤ k) (hb2 : ButBy (fun k => k = g) w1 w2) (hok : s1.ok) :
    (∃ Bs' vs' vw', Pair B Br g P s1 Bs' vs' vw' w2 ∧ ∀ k, PBs Bs' g vs' vw' k → PBs Bs g vs vw k ∨ w.heap.size ≤ k) ∧ ButBy (PBs Bs g vs vw) w w2 := by
  have hg : g < w.heap.size := (h.r.lt g (Or.inl rfl)).2
  have hne : ∀ k, Bs1 k → k ≠ g := fun k hk e => by
    rcases hs1 k hk with y | y
    · exact h.apart k y (Or.inl e)
    · omega
  have hl1 := D.above s1 Bs1 w1 hd
  refine ⟨⟨Bs1, vs2, vw2, ⟨D.stay s1 Bs1 w1 w2 hd hb2.size (fun k hk => hb2.block k (hl1 k hk).2 (hne k hk)), hr, fun k hk hk2 => ?_, Nat.le_trans h.base (Nat.le_trans hb1.size hb2.size), fun k hk => ⟨(hl1 k hk).1, Nat.lt_of_lt_of_le (hl1 k hk).2 hb2.size⟩, hok⟩, fun k hk => ?_⟩, ?_⟩
  · rcases hs1 k hk with y | y
    · rcases hs2 k hk2 with z | z
      · exact h.apart k y z
      · have := (h.lt k y).2; have := hb1.size; omega
    · rcases hs2 k hk2 with z | z
      · have := (h.r.lt k z).2; omega
      · have := (hl1 k hk).2; omega
  · rcases hk with y | y
    · exact (hs1 k y).imp Or.inl id
    · exact (hs2 k y).imp Or.inr (fun z => Nat.le_trans hb1.size z)
  · refine (hb1.mono (fun k hk => Or.inl hk)).trans (hb2.mono (fun k hk => ?_))
    exact Or.inr (Or.inl hk)
end

/-- What an act makes of a disk. -/
def doS (s : Dk) (kd i : Int) (t : ByteArray) (f : Bool) (l : List Bool) : Dk :=
  if kd = 1 then s else if kd = 2 then s.flushS else if kd = 3 then { s with fuse := i } else if kd = 4 then s.powerS l else if kd = 5 then s.spoilS i t.data.toList else s.writeS i (actT t f).data.toList

/-- The act's box stands where the disks are written. -/
theorem box_stays {Bs : Nat → Prop} {b : Nat} {w W w' : World} {o : Obj} (hW : W.heap[b]? = some o) (hb : b = w.heap.size) (hlt : ∀ k, Bs k → k < w.heap.size) (hbut : ButBy Bs W w') : w'.heap[b]? = some o := by
  rw [hbut.block b (Array.getElem?_eq_some_iff.1 hW).1 (fun x => by have := hlt b x; omega)]
  exact hW

set_option maxRecDepth 100000 in
set_option maxHeartbeats 4000000 in
theorem does_flush {B Br : Nat} {x : Value} {P : Dk → (Nat → Prop) → World → Prop}
    (D : DiskOk B x P) {s : Dk} {Bs : Nat → Prop} {g : Nat} {vs vw : Value} {w : World} (h : Pair B Br g P s Bs vs vw w) (hlo : s.ops ≤ 4294967295) (i : Int) (hi : (Lit.int .i64 i).wf = true) (t : ByteArray) (ht : t.size ≤ maxLen) (f : Bool) (l : List Bool) (kv : Value) (hkv : BoolAt l kv w) :
    Calls Try.prog 10 #[x, .pointer (some ⟨g, 0, none⟩), .agg (actA 2 i t f kv)] w (PairPost B Br g P (s.flushS) Bs vs vw (.bool true) w) := by
  have gA := heap_alloc_last w (.cells (actA 2 i t f kv) 32)
  have K0 := box_below w (.cells (actA 2 i t f kv) 32)
  have hW := Pair.kept D h K0
  have hAs : (Try.prog.info? 32).map (·.size) = some (actA 2 i t f kv).toList.length := by show _ = some 5; kernel_rfl
  have hA1 : (actA 2 i t f kv).all (·.oneCell') = true := by
    obtain ⟨pk, ck, rfl, -⟩ := hkv
    simp [actA, Value.oneCell']
  have hkv1 : BoolAt l kv (w.alloc (.cells (actA 2 i t f kv) 32)) := hkv.later K0
  have a0 : (actA 2 i t f kv)[0]? = some (.int .i64 2) := rfl
  have a1 : (actA 2 i t f kv)[1]? = some (.int .i64 i) := rfl
  have a2 : (actA 2 i t f kv)[2]? = some (.string t) := rfl
  have a4 : (actA 2 i t f kv)[4]? = some kv := rfl
  have TX := fun W => dtext_any 2 i t f kv W
  obtain ⟨A, hA⟩ : ∃ A, A = actA 2 i t f kv := ⟨_, rfl⟩
  rw [← hA] at gA K0 hW hAs hA1 hkv1 a0 a1 a2 a4 TX ⊢
  obtain ⟨W, hWe⟩ : ∃ W, W = w.alloc (.cells A 32) := ⟨_, rfl⟩
  rw [← hWe] at gA K0 hW hkv1
  have HWE := Lib.hid hWe
  have HK0 := Lib.hid K0
  have HPW := Lib.hid hW
  have HGA := Lib.hid gA
  have hlt : Hid (∀ k, Bs k → k < w.heap.size) := Lib.hid (fun k hk => (h.lt k hk).2)
  have hgw : Hid (g ≠ w.heap.size) := Lib.hid (by have := (h.r.lt g (Or.inl rfl)).2; omega)
  have c0 : W.cell? ⟨w.heap.size, 0, none⟩ = some (.int .i64 2) := by rw [cell_of_row _ _ _ _ _ _ gA]; exact a0
  have c1 : W.cell? ⟨w.heap.size, 1, none⟩ = some (.int .i64 i) := by rw [cell_of_row _ _ _ _ _ _ gA]; exact a1
  have c4 : W.cell? ⟨w.heap.size, 4, none⟩ = some kv := by rw [cell_of_row _ _ _ _ _ _ gA]; exact a4
  have DF := D.flush s Bs W hW.d hW.ok hlo
  have HD := Lib.hid D
  obtain ⟨E, hE⟩ : ∃ E, E = s.flushE := ⟨_, rfl⟩
  rw [← hE] at DF
  have HE := Lib.hid hE
  have HLO := Lib.hid hlo
  have be : (E == E) = true := by simp
  clear hE gA K0 hW hAs hA1 hkv1 a0 a1 a2 a4 TX hA hkv D h hi ht hlo c1 c4
  rw [hWe] at c0
  clear hWe
  go_enter Try.func10, Try.ntmps10
  go_wp2_with fail
  rw [← HWE.out]
  refine DF.mono ?_
  rintro e w1 ⟨rfl, ⟨Bs1, hd1, hs1⟩, hb1⟩
  have hr1 := HPW.out.r_stay hb1
  have RF := rflush_any hr1 HPW.out.ok HLO.out (Nat.le_trans HPW.out.base hb1.size)
  rw [← HE.out] at RF
  have HD1 := Lib.hid hd1
  have HS1 := Lib.hid hs1
  have HB1 := Lib.hid hb1
  clear hd1 hs1 hb1 hr1 DF
  go_wp2_with fail
  refine RF.mono ?_
  rintro e w2 ⟨rfl, vs2, vw2, hr2, hs2, hb2⟩
  have ST := Lib.hid (HPW.out.step HD.out HD1.out HS1.out HB1.out hr2 hs2 hb2 HPW.out.ok.flush)
  clear hr2 hs2 hb2 RF
  go_wp2
  go_ret
  exact ⟨rfl, by
    obtain ⟨⟨Bs', vs', vw', hp, hsub⟩, hb⟩ := ST.out
    exact ⟨⟨Bs', vs', vw', hp, fun k hk => (hsub k hk).imp id (fun z => Nat.le_trans HK0.out.size z)⟩, (ButBy.below HK0.out).trans hb⟩⟩

set_option maxRecDepth 100000 in
set_option maxHeartbeats 4000000 in
theorem does_read {B Br : Nat} {x : Value} {P : Dk → (Nat → Prop) → World → Prop}
    (D : DiskOk B x P) {s : Dk} {Bs : Nat → Prop} {g : Nat} {vs vw : Value} {w : World} (h : Pair B Br g P s Bs vs vw w) (hlo : s.ops ≤ 4294967295) (i : Int) (hi : (Lit.int .i64 i).wf = true) (t : ByteArray) (ht : t.size ≤ maxLen) (f : Bool) (l : List Bool) (kv : Value) (hkv : BoolAt l kv w) :
    Calls Try.prog 10 #[x, .pointer (some ⟨g, 0, none⟩), .agg (actA 1 i t f kv)] w (PairPost B Br g P (s) Bs vs vw (.bool true) w) := by
  have gA := heap_alloc_last w (.cells (actA 1 i t f kv) 32)
  have K0 := box_below w (.cells (actA 1 i t f kv) 32)
  have hW := Pair.kept D h K0
  have hAs : (Try.prog.info? 32).map (·.size) = some (actA 1 i t f kv).toList.length := by show _ = some 5; kernel_rfl
  have hA1 : (actA 1 i t f kv).all (·.oneCell') = true := by
    obtain ⟨pk, ck, rfl, -⟩ := hkv
    simp [actA, Value.oneCell']
  have hkv1 : BoolAt l kv (w.alloc (.cells (actA 1 i t f kv) 32)) := hkv.later K0
  have a0 : (actA 1 i t f kv)[0]? = some (.int .i64 1) := rfl
  have a1 : (actA 1 i t f kv)[1]? = some (.int .i64 i) := rfl
  have a2 : (actA 1 i t f kv)[2]? = some (.string t) := rfl
  have a4 : (actA 1 i t f kv)[4]? = some kv := rfl
  have TX := fun W => dtext_any 1 i t f kv W
  obtain ⟨A, hA⟩ : ∃ A, A = actA 1 i t f kv := ⟨_, rfl⟩
  rw [← hA] at gA K0 hW hAs hA1 hkv1 a0 a1 a2 a4 TX ⊢
  obtain ⟨W, hWe⟩ : ∃ W, W = w.alloc (.cells A 32) := ⟨_, rfl⟩
  rw [← hWe] at gA K0 hW hkv1
  have HWE := Lib.hid hWe
  have HK0 := Lib.hid K0
  have HPW := Lib.hid hW
  have HGA := Lib.hid gA
  have hlt : Hid (∀ k, Bs k → k < w.heap.size) := Lib.hid (fun k hk => (h.lt k hk).2)
  have hgw : Hid (g ≠ w.heap.size) := Lib.hid (by have := (h.r.lt g (Or.inl rfl)).2; omega)
  have c0 : W.cell? ⟨w.heap.size, 0, none⟩ = some (.int .i64 1) := by rw [cell_of_row _ _ _ _ _ _ gA]; exact a0
  have c1 : W.cell? ⟨w.heap.size, 1, none⟩ = some (.int .i64 i) := by rw [cell_of_row _ _ _ _ _ _ gA]; exact a1
  have c4 : W.cell? ⟨w.heap.size, 4, none⟩ = some kv := by rw [cell_of_row _ _ _ _ _ _ gA]; exact a4
  have DF := D.read s Bs W i hW.d hW.ok (Nat.le_trans hlo (by omega)) hi
  have HD := Lib.hid D
  obtain ⟨E, hE⟩ : ∃ E, E = s.readE i := ⟨_, rfl⟩
  obtain ⟨T, hT⟩ : ∃ T, T = str (s.readT i) := ⟨_, rfl⟩
  rw [← hE, ← hT] at DF
  have HE := Lib.hid hE
  have HT := Lib.hid hT
  have HLO := Lib.hid hlo
  have be : (E == E) = true := by simp
  have bt : (T.toList == T.toList) = true := by simp
  have HAC : Hid (A[1]? = some (.int .i64 i)) := a1
  clear hE hT gA K0 hW hAs hA1 hkv1 a0 a1 a2 a4 TX hA hkv D h hi ht hlo c4
  rw [hWe] at c0 c1
  clear hWe
  go_enter Try.func10, Try.ntmps10
  go_wp2_with fail
  rw [← HWE.out]
  refine DF.mono ?_
  rintro e w1 ⟨rfl, hb1⟩
  have K1 : Kept W w1 := hb1
  have RF := rread_any (HPW.out.r.kept K1) HPW.out.ok (Nat.le_trans HLO.out (by omega)) i
  rw [← HE.out, ← HT.out] at RF
  have c1 : w1.cell? ⟨w.heap.size, 1, none⟩ = some (.int .i64 i) := by rw [cell_of_row _ _ _ _ _ _ (K1.row HGA.out)]; exact HAC.out
  have HK1 := Lib.hid K1
  clear hb1 DF K1
  go_wp2_with fail
  refine RF.mono ?_
  rintro e w2 ⟨rfl, rfl⟩
  have ST := Lib.hid (HPW.out.kept HD.out HK1.out)
  clear RF
  go_wp2
  go_ret
  exact ⟨rfl, ⟨Bs, vs, vw, ST.out, fun k hk => Or.inl hk⟩, ButBy.below (Kept.then HK0.out HK1.out)⟩

set_option maxRecDepth 100000 in
set_option maxHeartbeats 4000000 in
theorem does_fuse {B Br : Nat} {x : Value} {P : Dk → (Nat → Prop) → World → Prop}
    (D : DiskOk B x P) {s : Dk} {Bs : Nat → Prop} {g : Nat} {vs vw : Value} {w : World} (h : Pair B Br g P s Bs vs vw w) (hlo : s.ops ≤ 4294967295) (i : Int) (hi : (Lit.int .i64 i).wf = true) (t : ByteArray) (ht : t.size ≤ maxLen) (f : Bool) (l : List Bool) (kv : Value) (hkv : BoolAt l kv w) :
    Calls Try.prog 10 #[x, .pointer (some ⟨g, 0, none⟩), .agg (actA 3 i t f kv)] w (PairPost B Br g P (({ s with fuse := i } : Dk)) Bs vs vw (.bool true) w) := by
  have gA := heap_alloc_last w (.cells (actA 3 i t f kv) 32)
  have K0 := box_below w (.cells (actA 3 i t f kv) 32)
  have hW := Pair.kept D h K0
  have hAs : (Try.prog.info? 32).map (·.size) = some (actA 3 i t f kv).toList.length := by show _ = some 5; kernel_rfl
  have hA1 : (actA 3 i t f kv).all (·.oneCell') = true := by
    obtain ⟨pk, ck, rfl, -⟩ := hkv
    simp [actA, Value.oneCell']
  have hkv1 : BoolAt l kv (w.alloc (.cells (actA 3 i t f kv) 32)) := hkv.later K0
  have a0 : (actA 3 i t f kv)[0]? = some (.int .i64 3) := rfl
  have a1 : (actA 3 i t f kv)[1]? = some (.int .i64 i) := rfl
  have a2 : (actA 3 i t f kv)[2]? = some (.string t) := rfl
  have a4 : (actA 3 i t f kv)[4]? = some kv := rfl
  have TX := fun W => dtext_any 3 i t f kv W
  obtain ⟨A, hA⟩ : ∃ A, A = actA 3 i t f kv := ⟨_, rfl⟩
  rw [← hA] at gA K0 hW hAs hA1 hkv1 a0 a1 a2 a4 TX ⊢
  obtain ⟨W, hWe⟩ : ∃ W, W = w.alloc (.cells A 32) := ⟨_, rfl⟩
  rw [← hWe] at gA K0 hW hkv1
  have HWE := Lib.hid hWe
  have HK0 := Lib.hid K0
  have HPW := Lib.hid hW
  have HGA := Lib.hid gA
  have hlt : Hid (∀ k, Bs k → k < w.heap.size) := Lib.hid (fun k hk => (h.lt k hk).2)
  have hgw : Hid (g ≠ w.heap.size) := Lib.hid (by have := (h.r.lt g (Or.inl rfl)).2; omega)
  have c0 : W.cell? ⟨w.heap.size, 0, none⟩ = some (.int .i64 3) := by rw [cell_of_row _ _ _ _ _ _ gA]; exact a0
  have c1 : W.cell? ⟨w.heap.size, 1, none⟩ = some (.int .i64 i) := by rw [cell_of_row _ _ _ _ _ _ gA]; exact a1
  have c4 : W.cell? ⟨w.heap.size, 4, none⟩ = some kv := by rw [cell_of_row _ _ _ _ _ _ gA]; exact a4
  have DF := D.fuse s Bs W i hW.d hi
  have HD := Lib.hid D
  have HI : Hid (-9223372036854775808 ≤ i ∧ i ≤ 9223372036854775807) := Lib.hid (bounds_i64 hi)
  have HAC : Hid (A[1]? = some (.int .i64 i)) := a1
  clear gA K0 hW hAs hA1 hkv1 a0 a1 a2 a4 TX hA hkv D h hi ht hlo c4
  rw [hWe] at c0 c1
  clear hWe
  go_enter Try.func10, Try.ntmps10
  go_wp2_with fail
  rw [← HWE.out]
  refine DF.mono ?_
  rintro e w1 ⟨rfl, ⟨Bs1, hd1, hs1⟩, hb1⟩
  have hr1 := HPW.out.r_stay hb1
  have c1 : w1.cell? ⟨w.heap.size, 1, none⟩ = some (.int .i64 i) := by rw [cell_of_row _ _ _ _ _ _ (box_stays HGA.out rfl hlt.out hb1)]; exact HAC.out
  have d2 : w1.cell? ⟨g, 2, none⟩ = some (.int .i64 s.fuse) := hr1.cell 2 _ rfl
  have f2 := hr1.froz 2
  have hr2 : RAt Br g { s with fuse := i } vs vw (w1.setCell ⟨g, 2, none⟩ (.int .i64 i)) := hr1.fields (by rw [heap_setCell_same _ _ _ _ _ _ hr1.row]; rfl) (fun k _ hn => set_other _ _ _ _ _ hn) rfl rfl
  have hok2 : ({ s with fuse := i } : Dk).ok := ⟨HPW.out.ok.sect, HPW.out.ok.pos, HPW.out.ok.most, HPW.out.ok.wait, HPW.out.ok.few, HI.out⟩
  have ST := Lib.hid (HPW.out.step HD.out hd1 hs1 hb1 hr2 (fun k hk => Or.inl hk) (ButBy.setCell (Bs := fun k => k = g) (but_refl _ w1) g 2 _ rfl) hok2)
  clear hr1 hr2 hd1 hs1 hb1 DF hok2
  go_wp2
  go_ret
  exact ⟨rfl, by
    obtain ⟨⟨Bs', vs', vw', hp, hsub⟩, hb⟩ := ST.out
    exact ⟨⟨Bs', vs', vw', hp, fun k hk => (hsub k hk).imp id (fun z => Nat.le_trans HK0.out.size z)⟩, (ButBy.below HK0.out).trans hb⟩⟩

set_option maxRecDepth 100000 in
set_option maxHeartbeats 4000000 in
theorem does_power {B Br : Nat} {x : Value} {P : Dk → (Nat → Prop) → World → Prop}
    (D : DiskOk B x P) {s : Dk} {Bs : Nat → Prop} {g : Nat} {vs vw : Value} {w : World} (h : Pair B Br g P s Bs vs vw w) (hlo : s.ops ≤ 4294967295) (i : Int) (hi : (Lit.int .i64 i).wf = true) (t : ByteArray) (ht : t.size ≤ maxLen) (f : Bool) (l : List Bool) (kv : Value) (hkv : BoolAt l kv w) (hkb : ∀ w', w.heap.size ≤ w'.heap.size → (∀ k, k < B → k < w.heap.size → w'.heap[k]? = w.heap[k]?) → BoolAt l kv w') :
    Calls Try.prog 10 #[x, .pointer (some ⟨g, 0, none⟩), .agg (actA 4 i t f kv)] w (PairPost B Br g P (s.powerS l) Bs vs vw (.bool true) w) := by
  have gA := heap_alloc_last w (.cells (actA 4 i t f kv) 32)
  have K0 := box_below w (.cells (actA 4 i t f kv) 32)
  have hW := Pair.kept D h K0
  have hAs : (Try.prog.info? 32).map (·.size) = some (actA 4 i t f kv).toList.length := by show _ = some 5; kernel_rfl
  have hA1 : (actA 4 i t f kv).all (·.oneCell') = true := by
    obtain ⟨pk, ck, rfl, -⟩ := hkv
    simp [actA, Value.oneCell']
  have hkv1 : BoolAt l kv (w.alloc (.cells (actA 4 i t f kv) 32)) := hkv.later K0
  have a0 : (actA 4 i t f kv)[0]? = some (.int .i64 4) := rfl
  have a1 : (actA 4 i t f kv)[1]? = some (.int .i64 i) := rfl
  have a2 : (actA 4 i t f kv)[2]? = some (.string t) := rfl
  have a4 : (actA 4 i t f kv)[4]? = some kv := rfl
  have TX := fun W => dtext_any 4 i t f kv W
  obtain ⟨A, hA⟩ : ∃ A, A = actA 4 i t f kv := ⟨_, rfl⟩
  rw [← hA] at gA K0 hW hAs hA1 hkv1 a0 a1 a2 a4 TX ⊢
  obtain ⟨W, hWe⟩ : ∃ W, W = w.alloc (.cells A 32) := ⟨_, rfl⟩
  rw [← hWe] at gA K0 hW hkv1
  have HWE := Lib.hid hWe
  have HK0 := Lib.hid K0
  have HPW := Lib.hid hW
  have HGA := Lib.hid gA
  have hlt : Hid (∀ k, Bs k → k < w.heap.size) := Lib.hid (fun k hk => (h.lt k hk).2)
  have hgw : Hid (g ≠ w.heap.size) := Lib.hid (by have := (h.r.lt g (Or.inl rfl)).2; omega)
  have c0 : W.cell? ⟨w.heap.size, 0, none⟩ = some (.int .i64 4) := by rw [cell_of_row _ _ _ _ _ _ gA]; exact a0
  have c1 : W.cell? ⟨w.heap.size, 1, none⟩ = some (.int .i64 i) := by rw [cell_of_row _ _ _ _ _ _ gA]; exact a1
  have c4 : W.cell? ⟨w.heap.size, 4, none⟩ = some kv := by rw [cell_of_row _ _ _ _ _ _ gA]; exact a4
  have DF := D.power s Bs W l kv hW.d hW.ok (Nat.le_trans hlo (by omega)) (fun w' hs' hk' => hkb w' (Nat.le_trans K0.size hs') (fun k hkB hkw => (hk' k hkB (Nat.lt_of_lt_of_le hkw K0.size)).trans (K0.block k hkw)))
  have HD := Lib.hid D
  have HLO := Lib.hid hlo
  have HKB := Lib.hid hkb
  have HBB := Lib.hid (fun k (hk : Bs k) => (h.lt k hk).1)
  have HAC : Hid (A[4]? = some kv) := a4
  obtain ⟨pk, ck, hkve, -⟩ := id hkv
  rw [hkve] at c4
  have HKVE := Lib.hid hkve
  clear gA K0 hW hAs hA1 hkv1 a0 a1 a2 a4 TX hA hkv D h hi ht hlo c1 hkb hkve
  rw [hWe] at c0 c4
  clear hWe
  go_enter Try.func10, Try.ntmps10
  go_wp2_with fail
  rw [← HWE.out]
  rw [HKVE.out] at DF
  refine DF.mono ?_
  rintro e w1 ⟨rfl, ⟨Bs1, hd1, hs1⟩, hb1⟩
  have hr1 := HPW.out.r_stay hb1
  have hkv1 : BoolAt l kv w1 := HKB.out w1 (Nat.le_trans HK0.out.size hb1.size) (fun k hkB hkw => by
    rw [hb1.block k (Nat.lt_of_lt_of_le hkw HK0.out.size) (fun y => by have := HBB.out k y; omega)]
    exact HK0.out.block k hkw)
  have RF := rpower_any hr1 HPW.out.ok (Nat.le_trans HLO.out (by omega)) (Nat.le_trans HPW.out.base hb1.size) l kv hkv1
  have c4 : w1.cell? ⟨w.heap.size, 4, none⟩ = some (.slice pk l.length ck) := by rw [cell_of_row _ _ _ _ _ _ (box_stays HGA.out rfl hlt.out hb1), ← HKVE.out]; exact HAC.out
  rw [HKVE.out] at RF
  have HD1 := Lib.hid hd1
  have HS1 := Lib.hid hs1
  have HB1 := Lib.hid hb1
  clear hd1 hs1 hb1 hr1 DF hkv1
  go_wp2_with fail
  refine RF.mono ?_
  rintro e w2 ⟨rfl, vs2, vw2, hr2, hs2, hb2⟩
  have ST := Lib.hid (HPW.out.step HD.out HD1.out HS1.out HB1.out hr2 hs2 hb2 (HPW.out.ok.power l))
  clear hr2 hs2 hb2 RF
  go_wp2
  go_ret
  exact ⟨rfl, by
    obtain ⟨⟨Bs', vs', vw', hp, hsub⟩, hb⟩ := ST.out
    exact ⟨⟨Bs', vs', vw', hp, fun k hk => (hsub k hk).imp id (fun z => Nat.le_trans HK0.out.size z)⟩, (ButBy.below HK0.out).trans hb⟩⟩

set_option maxRecDepth 100000 in
set_option maxHeartbeats 4000000 in
theorem does_spoil {B Br : Nat} {x : Value} {P : Dk → (Nat → Prop) → World → Prop}
    (D : DiskOk B x P) {s : Dk} {Bs : Nat → Prop} {g : Nat} {vs vw : Value} {w : World} (h : Pair B Br g P s Bs vs vw w) (hlo : s.ops ≤ 4294967295) (i : Int) (hi : (Lit.int .i64 i).wf = true) (t : ByteArray) (ht : t.size ≤ maxLen) (f : Bool) (l : List Bool) (kv : Value) (hkv : BoolAt l kv w) :
    Calls Try.prog 10 #[x, .pointer (some ⟨g, 0, none⟩), .agg (actA 5 i t f kv)] w (PairPost B Br g P (s.spoilS i t.data.toList) Bs vs vw (.bool true) w) := by
  have gA := heap_alloc_last w (.cells (actA 5 i t f kv) 32)
  have K0 := box_below w (.cells (actA 5 i t f kv) 32)
  have hW := Pair.kept D h K0
  have hAs : (Try.prog.info? 32).map (·.size) = some (actA 5 i t f kv).toList.length := by show _ = some 5; kernel_rfl
  have hA1 : (actA 5 i t f kv).all (·.oneCell') = true := by
    obtain ⟨pk, ck, rfl, -⟩ := hkv
    simp [actA, Value.oneCell']
  have hkv1 : BoolAt l kv (w.alloc (.cells (actA 5 i t f kv) 32)) := hkv.later K0
  have a0 : (actA 5 i t f kv)[0]? = some (.int .i64 5) := rfl
  have a1 : (actA 5 i t f kv)[1]? = some (.int .i64 i) := rfl
  have a2 : (actA 5 i t f kv)[2]? = some (.string t) := rfl
  have a4 : (actA 5 i t f kv)[4]? = some kv := rfl
  have TX := fun W => dtext_any 5 i t f kv W
  obtain ⟨A, hA⟩ : ∃ A, A = actA 5 i t f kv := ⟨_, rfl⟩
  rw [← hA] at gA K0 hW hAs hA1 hkv1 a0 a1 a2 a4 TX ⊢
  obtain ⟨W, hWe⟩ : ∃ W, W = w.alloc (.cells A 32) := ⟨_, rfl⟩
  rw [← hWe] at gA K0 hW hkv1
  have HWE := Lib.hid hWe
  have HK0 := Lib.hid K0
  have HPW := Lib.hid hW
  have HGA := Lib.hid gA
  have hlt : Hid (∀ k, Bs k → k < w.heap.size) := Lib.hid (fun k hk => (h.lt k hk).2)
  have hgw : Hid (g ≠ w.heap.size) := Lib.hid (by have := (h.r.lt g (Or.inl rfl)).2; omega)
  have c0 : W.cell? ⟨w.heap.size, 0, none⟩ = some (.int .i64 5) := by rw [cell_of_row _ _ _ _ _ _ gA]; exact a0
  have c1 : W.cell? ⟨w.heap.size, 1, none⟩ = some (.int .i64 i) := by rw [cell_of_row _ _ _ _ _ _ gA]; exact a1
  have c4 : W.cell? ⟨w.heap.size, 4, none⟩ = some kv := by rw [cell_of_row _ _ _ _ _ _ gA]; exact a4
  have DF := D.spoil s Bs W.drew i t (D.kept hW.d (Below.drew (Below.refl _ _))) hW.ok hi ht
  have HD := Lib.hid D
  have HI : Hid (-9223372036854775808 ≤ i ∧ i ≤ 9223372036854775807) := Lib.hid (bounds_i64 hi)
  have HTM := Lib.hid ht
  obtain ⟨E, hE⟩ : ∃ E, E = s.spoilE i t.data.toList := ⟨_, rfl⟩
  rw [← hE] at DF
  have HE := Lib.hid hE
  have be : (E == E) = true := by simp
  have HSS := Lib.hid (fun (w' : World) (h : w'.heap[w.heap.size]? = some (.cells A 32 (0, 0))) => (show w'.cell? ⟨w.heap.size, 1, none⟩ = some (.int .i64 i) ∧ w'.cell? ⟨w.heap.size, 2, none⟩ = some (.string t) from
    ⟨by rw [cell_of_row _ _ _ _ _ _ h]; exact a1, by rw [cell_of_row _ _ _ _ _ _ h]; exact a2⟩))
  have S0 := HSS.out W.drew gA
  have hPd := Pair.kept D hW (Below.drew (Below.refl W.heap.size W))
  clear HPW HGA HK0
  have HPW := Lib.hid hPd
  have HGA : Hid (W.drew.heap[w.heap.size]? = some (.cells A 32 (0, 0))) := Lib.hid gA
  have HK0 : Hid (Kept w W.drew) := Lib.hid (Below.drew K0)
  clear hE gA K0 hW hAs hA1 hkv1 a0 a1 a2 a4 TX hA hkv D h hi ht hlo c1 c4 hPd
  rw [hWe] at c0
  clear hWe
  go_enter Try.func10, Try.ntmps10
  go_wp2_with fail
  rw [← HWE.out]
  refine wp_region_held_drew (S := fun w' => w'.cell? ⟨w.heap.size, 1, none⟩ = some (.int .i64 i) ∧ w'.cell? ⟨w.heap.size, 2, none⟩ = some (.string t)) (by kernel_rfl) S0 (fun hHeld => ?_)
  refine wpAnyH_take (i := 0) (v := ?_) rfl (by kernel_rfl) (by kernel_rfl) (by kernel_rfl) (fun _ _ _ h => h) (Or.inl ⟨by first | kernel_rfl | rfl, ?_⟩) (by assumption) ?_
  case refine_2 => intro w hSw; go_simp; try with_reducible rfl
  refine wpAnyH_take (i := 1) (v := ?_) rfl (by kernel_rfl) (by kernel_rfl) (by kernel_rfl) (fun _ _ _ h => h) (Or.inl ⟨by first | kernel_rfl | rfl, ?_⟩) (by assumption) ?_
  case refine_2 => intro w hSw; go_simp; try with_reducible rfl
  refine wpAnyH_take (i := 2) (v := ?_) rfl (by kernel_rfl) (by kernel_rfl) (by kernel_rfl) (fun _ _ _ h => h) (Or.inl ⟨by first | kernel_rfl | rfl, ?_⟩) (by assumption) ?_
  case refine_2 => intro w hSw; go_simp; try with_reducible rfl
  refine wpAnyH_take (i := 3) (v := ?_) rfl (by kernel_rfl) (by kernel_rfl) (by kernel_rfl) (fun _ _ _ h => h) (Or.inl ⟨by first | kernel_rfl | rfl, ?_⟩) (by assumption) ?_
  case refine_2 => intro w hSw; go_simp; try with_reducible rfl
  refine wpAnyH_take (i := 4) (v := ?_) rfl (by kernel_rfl) (by kernel_rfl) (by kernel_rfl) (fun _ _ _ h => h) (Or.inl ⟨by first | kernel_rfl | rfl, ?_⟩) (by assumption) ?_
  case refine_2 => intro w hSw; go_simp; try with_reducible rfl
  refine wpAnyH_take (i := 6) (v := ?_) rfl (by kernel_rfl) (by kernel_rfl) (by kernel_rfl) (fun _ _ _ h => h) (Or.inl ⟨by first | kernel_rfl | rfl, ?_⟩) (by assumption) ?_
  case refine_2 => intro w hSw; go_simp; try with_reducible rfl
  refine wpAnyH_take (i := 7) (v := ?_) rfl (by kernel_rfl) (by kernel_rfl) (by kernel_rfl) (fun _ _ _ h => h) (Or.inl ⟨by first | kernel_rfl | rfl, ?_⟩) (by assumption) ?_
  case refine_2 => intro w hSw; go_simp; try with_reducible rfl
  refine wpAnyH_take (i := 8) (v := ?_) rfl (by kernel_rfl) (by kernel_rfl) (by kernel_rfl) (fun _ _ _ h => h) (Or.inl ⟨by first | kernel_rfl | rfl, ?_⟩) (by assumption) ?_
  case refine_2 => intro w hSw; go_simp; try with_reducible rfl
  refine wpAnyH_take (i := 9) (v := ?_) rfl (by kernel_rfl) (by kernel_rfl) (by kernel_rfl) (fun _ _ _ h => h) (Or.inl ⟨by first | kernel_rfl | rfl, ?_⟩) (by assumption) ?_
  case refine_2 => intro w hSw; go_simp; try with_reducible rfl
  refine wpAnyH_take (i := 10) (v := ?_) rfl (by kernel_rfl) (by kernel_rfl) (by kernel_rfl) (fun _ _ _ h => h) (Or.inl ⟨by first | kernel_rfl | rfl, ?_⟩) (by assumption) ?_
  case refine_2 => intro w hSw; go_simp; try with_reducible rfl
  refine wpAnyH_ready (rs := [5]) (by kernel_rfl) (by simp) (AllReadyH.cons rfl (fun K hK => ?_) AllReadyH.nil)
  go_simp
  refine DF.mono ?_
  rintro e w1 ⟨rfl, ⟨Bs1, hd1, hs1⟩, hb1⟩
  have hr1 := (HPW.out.r_stay hb1)
  have RF := rspoil_any hr1 HPW.out.ok (Nat.le_trans HPW.out.base hb1.size) i HI.out t HTM.out
  rw [← HE.out] at RF
  have S1 := HSS.out w1 (box_stays HGA.out rfl hlt.out hb1)
  have HD1 := Lib.hid hd1
  have HS1 := Lib.hid hs1
  have HB1 := Lib.hid hb1
  clear hd1 hs1 hb1 hr1 DF
  refine hK.out _ _ S1 (fun _ => ?_)
  clear hK K
  refine wpAnyH_ready (rs := [11]) (by kernel_rfl) (by simp) (AllReadyH.cons rfl (fun K hK => ?_) AllReadyH.nil)
  go_simp
  refine RF.mono ?_
  rintro e w2 ⟨rfl, vs2, vw2, hr2, hs2, hb2⟩
  have ST := Lib.hid (HPW.out.step HD.out HD1.out HS1.out HB1.out hr2 hs2 hb2 (HPW.out.ok.spoil i t.data.toList))
  have S2 := HSS.out w2 (by rw [hb2.block _ (Array.getElem?_eq_some_iff.1 (box_stays HGA.out rfl hlt.out HB1.out)).1 (fun y => hgw.out y.symm)]; exact box_stays HGA.out rfl hlt.out HB1.out)
  clear hr2 hs2 hb2 RF
  refine hK.out _ _ S2 (fun _ => ?_)
  clear hK K
  refine wpAnyH_take (i := 12) (v := ?_) rfl (by kernel_rfl) (by kernel_rfl) (by kernel_rfl) (fun _ _ _ h => h) (Or.inl ⟨by first | kernel_rfl | rfl, ?_⟩) (by assumption) ?_
  case refine_2 => intro w hSw; go_simp; try with_reducible rfl
  refine wpAnyH_take (i := 13) (v := ?_) rfl (by kernel_rfl) (by kernel_rfl) (by kernel_rfl) (fun _ _ _ h => h) (Or.inl ⟨by first | kernel_rfl | rfl, ?_⟩) (by assumption) ?_
  case refine_2 => intro w hSw; go_simp; try with_reducible rfl
  refine wpAnyH_done (by kernel_rfl) ?_ _
  go_wp2
  go_ret
  exact ⟨rfl, by
    obtain ⟨⟨Bs', vs', vw', hp, hsub⟩, hb⟩ := ST.out
    exact ⟨⟨Bs', vs', vw', hp, fun k hk => (hsub k hk).imp id (fun z => Nat.le_trans HK0.out.size z)⟩, (ButBy.below HK0.out).trans hb⟩⟩

set_option maxRecDepth 100000 in
set_option maxHeartbeats 4000000 in
theorem does_write {B Br : Nat} {x : Value} {P : Dk → (Nat → Prop) → World → Prop}
    (D : DiskOk B x P) {s : Dk} {Bs : Nat → Prop} {g : Nat} {vs vw : Value} {w : World} (h : Pair B Br g P s Bs vs vw w) (hlo : s.ops ≤ 4294967295) (i : Int) (hi : (Lit.int .i64 i).wf = true) (t : ByteArray) (ht : t.size ≤ maxLen) (f : Bool) (l : List Bool) (kv : Value) (hkv : BoolAt l kv w) (kd : Int) (hk : (kd == 1) = false ∧ (kd == 2) = false ∧ (kd == 3) = false ∧ (kd == 4) = false ∧ (kd == 5) = false) :
    Calls Try.prog 10 #[x, .pointer (some ⟨g, 0, none⟩), .agg (actA kd i t f kv)] w (PairPost B Br g P (s.writeS i (actT t f).data.toList) Bs vs vw (.bool true) w) := by
  have gA := heap_alloc_last w (.cells (actA kd i t f kv) 32)
  have K0 := box_below w (.cells (actA kd i t f kv) 32)
  have hW := Pair.kept D h K0
  have hAs : (Try.prog.info? 32).map (·.size) = some (actA kd i t f kv).toList.length := by show _ = some 5; kernel_rfl
  have hA1 : (actA kd i t f kv).all (·.oneCell') = true := by
    obtain ⟨pk, ck, rfl, -⟩ := hkv
    simp [actA, Value.oneCell']
  have hkv1 : BoolAt l kv (w.alloc (.cells (actA kd i t f kv) 32)) := hkv.later K0
  have a0 : (actA kd i t f kv)[0]? = some (.int .i64 kd) := rfl
  have a1 : (actA kd i t f kv)[1]? = some (.int .i64 i) := rfl
  have a2 : (actA kd i t f kv)[2]? = some (.string t) := rfl
  have a4 : (actA kd i t f kv)[4]? = some kv := rfl
  have TX := fun W => dtext_any kd i t f kv W
  obtain ⟨A, hA⟩ : ∃ A, A = actA kd i t f kv := ⟨_, rfl⟩
  rw [← hA] at gA K0 hW hAs hA1 hkv1 a0 a1 a2 a4 TX ⊢
  obtain ⟨W, hWe⟩ : ∃ W, W = w.alloc (.cells A 32) := ⟨_, rfl⟩
  rw [← hWe] at gA K0 hW hkv1
  have HWE := Lib.hid hWe
  have HK0 := Lib.hid K0
  have HPW := Lib.hid hW
  have HGA := Lib.hid gA
  have hlt : Hid (∀ k, Bs k → k < w.heap.size) := Lib.hid (fun k hk => (h.lt k hk).2)
  have hgw : Hid (g ≠ w.heap.size) := Lib.hid (by have := (h.r.lt g (Or.inl rfl)).2; omega)
  have c0 : W.cell? ⟨w.heap.size, 0, none⟩ = some (.int .i64 kd) := by rw [cell_of_row _ _ _ _ _ _ gA]; exact a0
  have c1 : W.cell? ⟨w.heap.size, 1, none⟩ = some (.int .i64 i) := by rw [cell_of_row _ _ _ _ _ _ gA]; exact a1
  have c4 : W.cell? ⟨w.heap.size, 4, none⟩ = some kv := by rw [cell_of_row _ _ _ _ _ _ gA]; exact a4
  have HD := Lib.hid D
  have HIW := Lib.hid hi
  have HTM := Lib.hid (actT_size t f ht)
  have HLO := Lib.hid hlo
  have HOK := Lib.hid (hW.ok.write i (actT t f).data.toList)
  obtain ⟨T, hT⟩ : ∃ T, T = actT t f := ⟨_, rfl⟩
  rw [← hT] at TX HTM HOK ⊢
  obtain ⟨E, hE⟩ : ∃ E, E = s.writeE i T.data.toList := ⟨_, rfl⟩
  have HE := Lib.hid hE
  obtain ⟨sN, hsN⟩ : ∃ sN, sN = s.writeS i T.data.toList := ⟨_, rfl⟩
  rw [← hsN] at HOK ⊢
  have HSN := Lib.hid hsN
  have be : (E == E) = true := by simp
  obtain ⟨q1, q2, q3, q4, q5⟩ := hk
  have HAS := Lib.hid hAs
  have HRG := Lib.hid (fun (w' : World) (h : w'.heap[w.heap.size]? = some (.cells A 32 (0, 0))) => range_of_row h)
  have HC1 := Lib.hid (fun (w' : World) (h : w'.rangeAt w.heap.size 0 A.toList) => (show w'.cell? ⟨w.heap.size, 1, none⟩ = some (.int .i64 i) from by
    have h1 := h 1 (.int .i64 i) (by rw [Array.getElem?_toList]; exact a1)
    simpa using h1))
  have S0 : W.drew.rangeAt w.heap.size 0 A.toList := range_of_row gA
  have hPd := Pair.kept D hW (Below.drew (Below.refl W.heap.size W))
  clear HPW HGA HK0
  have HPW := Lib.hid hPd
  have HGA : Hid (W.drew.heap[w.heap.size]? = some (.cells A 32 (0, 0))) := Lib.hid gA
  have HK0 : Hid (Kept w W.drew) := Lib.hid (Below.drew K0)
  clear hE hsN hT gA K0 hW hAs hA1 hkv1 a0 a1 a2 a4 hA hkv D h hi ht hlo c1 c4 hPd
  rw [hWe] at c0
  clear hWe
  go_enter Try.func10, Try.ntmps10
  go_wp2_with fail
  rw [← HWE.out]
  refine wp_region_held_drew (S := fun w' => w'.rangeAt w.heap.size 0 A.toList) (by kernel_rfl) S0 (fun hHeld => ?_)
  refine wpAnyH_take (i := 0) (v := ?_) rfl (by kernel_rfl) (by kernel_rfl) (by kernel_rfl) (fun _ _ _ h => h) (Or.inl ⟨by first | kernel_rfl | rfl, ?_⟩) (by assumption) ?_
  case refine_2 => intro w hSw; go_simp; try with_reducible rfl
  refine wpAnyH_take (i := 1) (v := ?_) rfl (by kernel_rfl) (by kernel_rfl) (by kernel_rfl) (fun _ _ _ h => h) (Or.inl ⟨by first | kernel_rfl | rfl, ?_⟩) (by assumption) ?_
  case refine_2 => intro w hSw; go_simp; try with_reducible rfl
  refine wpAnyH_take (i := 2) (v := ?_) rfl (by kernel_rfl) (by kernel_rfl) (by kernel_rfl) (fun _ _ _ h => h) (Or.inl ⟨by first | kernel_rfl | rfl, ?_⟩) (by assumption) ?_
  case refine_2 => intro w hSw; have hcc := HC1.out w hSw; go_simp; try with_reducible rfl
  refine wpAnyH_take (i := 3) (v := .agg A) rfl (by kernel_rfl) (by kernel_rfl) (by kernel_rfl) (fun _ _ _ h => h) (yieldsIf_load_mid (by first | kernel_rfl | rfl) _ _ rfl w.heap.size 0 (by kernel_rfl) A.toList _ (fun _ h => h) Try.underlying32 rfl HAS.out) (by assumption) ?_
  refine wpAnyH_take (i := 6) (v := ?_) rfl (by kernel_rfl) (by kernel_rfl) (by kernel_rfl) (fun _ _ _ h => h) (Or.inl ⟨by first | kernel_rfl | rfl, ?_⟩) (by assumption) ?_
  case refine_2 => intro w hSw; go_simp; try with_reducible rfl
  refine wpAnyH_take (i := 7) (v := ?_) rfl (by kernel_rfl) (by kernel_rfl) (by kernel_rfl) (fun _ _ _ h => h) (Or.inl ⟨by first | kernel_rfl | rfl, ?_⟩) (by assumption) ?_
  case refine_2 => intro w hSw; go_simp; try with_reducible rfl
  refine wpAnyH_take (i := 8) (v := ?_) rfl (by kernel_rfl) (by kernel_rfl) (by kernel_rfl) (fun _ _ _ h => h) (Or.inl ⟨by first | kernel_rfl | rfl, ?_⟩) (by assumption) ?_
  case refine_2 => intro w hSw; have hcc := HC1.out w hSw; go_simp; try with_reducible rfl
  refine wpAnyH_take (i := 9) (v := .agg A) rfl (by kernel_rfl) (by kernel_rfl) (by kernel_rfl) (fun _ _ _ h => h) (yieldsIf_load_mid (by first | kernel_rfl | rfl) _ _ rfl w.heap.size 0 (by kernel_rfl) A.toList _ (fun _ h => h) Try.underlying32 rfl HAS.out) (by assumption) ?_
  refine wpAnyH_ready (rs := [4]) (by kernel_rfl) (by simp) (AllReadyH.cons rfl (fun K hK => ?_) AllReadyH.nil)
  go_simp
  refine (TX W.drew).mono ?_
  rintro e w1 ⟨rfl, hb1⟩
  have K1 : Kept W.drew w1 := hb1
  have P1 := HPW.out.kept HD.out K1
  have DF := HD.out.write s Bs w1 i T P1.d P1.ok HLO.out HIW.out HTM.out
  rw [← HE.out, ← HSN.out] at DF
  have G1 := K1.row HGA.out
  have HP1 := Lib.hid P1
  have HG1 := Lib.hid G1
  have HK1 := Lib.hid (Kept.then HK0.out K1)
  have S1 := HRG.out w1 G1
  clear hb1 K1 P1 G1
  refine hK.out _ _ S1 (fun _ => ?_)
  clear hK K
  refine wpAnyH_ready (rs := [5]) (by kernel_rfl) (by simp) (AllReadyH.cons rfl (fun K hK => ?_) AllReadyH.nil)
  go_simp
  refine DF.mono ?_
  rintro e w2 ⟨rfl, ⟨Bs1, hd1, hs1⟩, hb1⟩
  have hr1 := HP1.out.r_stay hb1
  have G2 := box_stays HG1.out rfl hlt.out hb1
  have S2 := HRG.out w2 G2
  have HG2 := Lib.hid G2
  have HD1 := Lib.hid hd1
  have HS1 := Lib.hid hs1
  have HB1 := Lib.hid hb1
  have HR1 := Lib.hid hr1
  clear hd1 hs1 hb1 hr1 DF G2
  refine hK.out _ _ S2 (fun _ => ?_)
  clear hK K
  refine wpAnyH_ready (rs := [10]) (by kernel_rfl) (by simp) (AllReadyH.cons rfl (fun K hK => ?_) AllReadyH.nil)
  go_simp
  refine (TX w2).mono ?_
  rintro e w3 ⟨rfl, hb3⟩
  have K3 : Kept w2 w3 := hb3
  have G3 := K3.row HG2.out
  have S3 := HRG.out w3 G3
  have HB3 : Hid (ButBy Bs w1 w3) := Lib.hid (HB1.out.then_kept K3)
  have HD3 := Lib.hid (HD.out.kept HD1.out K3)
  have RF := rwrite_any (HR1.out.kept K3) HPW.out.ok HLO.out (Nat.le_trans HP1.out.base HB3.out.size) i T
  rw [← HE.out, ← HSN.out] at RF
  have HG3 := Lib.hid G3
  clear hb3 K3 G3
  refine hK.out _ _ S3 (fun _ => ?_)
  clear hK K
  refine wpAnyH_ready (rs := [11]) (by kernel_rfl) (by simp) (AllReadyH.cons rfl (fun K hK => ?_) AllReadyH.nil)
  go_simp
  refine RF.mono ?_
  rintro e w4 ⟨rfl, vs2, vw2, hr2, hs2, hb2⟩
  have ST0 := HP1.out.step HD.out HD3.out HS1.out HB3.out hr2 hs2 hb2 HOK.out
  have ST := Lib.hid ST0
  have S4 := HRG.out w4 (by rw [hb2.block _ (Array.getElem?_eq_some_iff.1 HG3.out).1 (fun y => hgw.out y.symm)]; exact HG3.out)
  clear hr2 hs2 hb2 RF ST0
  refine hK.out _ _ S4 (fun _ => ?_)
  clear hK K
  refine wpAnyH_take (i := 12) (v := ?_) rfl (by kernel_rfl) (by kernel_rfl) (by kernel_rfl) (fun _ _ _ h => h) (Or.inl ⟨by first | kernel_rfl | rfl, ?_⟩) (by assumption) ?_
  case refine_2 => intro w hSw; go_simp; try with_reducible rfl
  refine wpAnyH_take (i := 13) (v := ?_) rfl (by kernel_rfl) (by kernel_rfl) (by kernel_rfl) (fun _ _ _ h => h) (Or.inl ⟨by first | kernel_rfl | rfl, ?_⟩) (by assumption) ?_
  case refine_2 => intro w hSw; go_simp; try with_reducible rfl
  refine wpAnyH_done (by kernel_rfl) ?_ _
  go_wp2
  go_ret
  exact ⟨rfl, by
    obtain ⟨⟨Bs', vs', vw', hp, hsub⟩, hb⟩ := ST.out
    exact ⟨⟨Bs', vs', vw', hp, fun k hk => (hsub k hk).imp id (fun z => Nat.le_trans HK1.out.size z)⟩, (ButBy.below HK1.out).trans hb⟩⟩

/-- Any act, done to both. -/
theorem does_of {B Br : Nat} {x : Value} {P : Dk → (Nat → Prop) → World → Prop}
    (D : DiskOk B x P) {s : Dk} {Bs : Nat → Prop} {g : Nat} {vs vw : Value} {w : World} (h : Pair B Br g P s Bs vs vw w) (hlo : s.ops ≤ 4294967295) (i : Int) (hi : (Lit.int .i64 i).wf = true) (t : ByteArray) (ht : t.size ≤ maxLen) (f : Bool) (l : List Bool) (kv : Value) (hkv : BoolAt l kv w) (kd : Int) (hkb : ∀ w', w.heap.size ≤ w'.heap.size → (∀ k, k < B → k < w.heap.size → w'.heap[k]? = w.heap[k]?) → BoolAt l kv w') :
    Calls Try.prog 10 #[x, .pointer (some ⟨g, 0, none⟩), .agg (actA kd i t f kv)] w (PairPost B Br g P (doS s kd i t f l) Bs vs vw (.bool true) w) := by
  unfold doS
  by_cases h1 : kd = 1
  · subst h1; rw [if_pos rfl]; exact does_read D h hlo i hi t ht f l kv hkv
  rw [if_neg h1]
  by_cases h2 : kd = 2
  · subst h2; rw [if_pos rfl]; exact does_flush D h hlo i hi t ht f l kv hkv
  rw [if_neg h2]
  by_cases h3 : kd = 3
  · subst h3; rw [if_pos rfl]; exact does_fuse D h hlo i hi t ht f l kv hkv
  rw [if_neg h3]
  by_cases h4 : kd = 4
  · subst h4; rw [if_pos rfl]; exact does_power D h hlo i hi t ht f l kv hkv hkb
  rw [if_neg h4]
  by_cases h5 : kd = 5
  · subst h5; rw [if_pos rfl]; exact does_spoil D h hlo i hi t ht f l kv hkv
  rw [if_neg h5]
  exact does_write D h hlo i hi t ht f l kv hkv kd ⟨beq_eq_false_iff_ne.2 h1, beq_eq_false_iff_ne.2 h2, beq_eq_false_iff_ne.2 h3, beq_eq_false_iff_ne.2 h4, beq_eq_false_iff_ne.2 h5⟩

end Go.Proofs.Ytpnnlpmkgglgdaa
