/- The walk of DiskDoes, out of the contracts. P9.6's mathematics: of each sector behind a power cut. The walk of DiskKeeps, out of the contracts. The program's disk: New, Load, and a disk that nobody made; the walks of the laws. -/
import Derived.Test.YtoigembmbajopaaDoorGM
import Derived.Test.YtoigembmbajopaaDoorHD
import Derived.Test.YtoigembmbajopaaDoorHB
import Derived.Deep.CutBlock
namespace Go.Proofs.YtoigembmbajopaaDoor
open Go.RowKit Go.ChangeShapes

theorem cut_ops (s : Dk) : s.cut.ops = s.ops + 1 := rfl
theorem doS_ops (s : Dk) (kd i : Int) (t : ByteArray) (f : Bool) (l : List Bool) : (doS s kd i t f l).ops ≤ s.ops + 1 := by
  unfold doS
  split
  · omega
  split
  · unfold Dk.flushS
    split
    · omega
    · split
      · rw [cut_ops]; omega
      · show s.cut.ops ≤ _; rw [cut_ops]; omega
  split
  · show s.ops ≤ _; omega
  split
  · show s.ops ≤ _; omega
  split
  · unfold Dk.spoilS
    split
    · omega
    · show s.ops ≤ _; omega
  · unfold Dk.writeS
    split
    · omega
    · rw [cut_ops]; show s.ops + 1 ≤ _; omega

/-- Truths below stand. -/
theorem BoolAt.below {l : List Bool} {v : Value} {w w' : World} (h : BoolAt l v w) (hb : ∀ k, k < w.heap.size → w'.heap[k]? = w.heap[k]?) : BoolAt l v w' := by
  obtain ⟨p, c, rfl, h⟩ := h
  refine ⟨p, c, rfl, ?_⟩
  rcases h with h0 | ⟨b, off, hp, hc⟩
  · exact Or.inl h0
  · refine Or.inr ⟨b, off, hp, fun i hi => ?_⟩
    have h1 := hc i hi
    rw [← h1]
    exact World.cell?_of_block (hb b (World.block_lt_of_cell? _ _ h1))

/-- The cells of an act in its row. -/
theorem act_cell {w : World} {b o : Nat} {cs : Array Value} {t : TypeId} {fr : Nat × Nat} {C : Array Value} (hg : w.heap[b]? = some (.cells cs t fr)) (hs : o + 5 ≤ cs.size) (he : cs.extract o (o + 5) = C) (j : Nat) (hj : j < 5) : w.cell? ⟨b, o + j, none⟩ = C[j]? := by
  rw [cell_of_row _ _ _ _ _ _ hg, ← he, Array.getElem?_extract, if_pos (by omega)]

end Go.Proofs.YtoigembmbajopaaDoor
namespace Go.Proofs.YtoigembmbajopaaDoor
open Go.RowKit Go.ChangeShapes

instance : Inhabited ActR := ⟨⟨0, 0, ⟨#[]⟩, false, [], .nilFunc⟩⟩
/-- What some writes make of a disk. -/
def wrS (s : Dk) (acs : List ActR) : Nat → Dk
  | 0 => s
  | k + 1 => (wrS s acs k).writeS (acs.getD k default).i (secT (acs.getD k default).t.data.toList)

theorem wrS_next (s : Dk) (acs : List ActR) (k : Nat) (hk : k < acs.length) : wrS s acs (k + 1) = (wrS s acs k).writeS acs[k].i (secT acs[k].t.data.toList) := by
  conv => lhs; unfold wrS
  rw [List.getD_eq_getElem?_getD, List.getElem?_eq_getElem hk]
  rfl

/-- No fuse, and it is up. -/
def Dk.calm (s : Dk) : Prop := s.fuse < 0 ∧ s.down = false

theorem writeS_calm (s : Dk) (hc : s.calm) (i : Int) (t : List UInt8) : (s.writeS i t).calm ∧ (s.writeS i t).stands = s.stands ∧ (s.writeS i t).ops ≤ s.ops + 1 ∧
    ∀ p ∈ (s.writeS i t).waits, p ∈ s.waits ∨ (p.1 : Int) = i ∧ p.2 = t := by
  unfold Dk.writeS
  split
  · exact ⟨hc, rfl, by omega, fun p hp => Or.inl hp⟩
  · rename_i hb
    unfold Dk.bad Dk.out at hb
    have h0 : 0 ≤ i := by omega
    have hf := hc.1
    refine ⟨⟨?_, ?_⟩, rfl, Nat.le_refl _, fun p hp => ?_⟩
    · show (if 0 < s.fuse then s.fuse - 1 else s.fuse) < 0
      rw [if_neg (by omega)]; exact hf
    · show (s.down || s.fuse == 0) = false
      rw [hc.2, beq_eq_false_iff_ne.2 (by omega)]; rfl
    · have hp2 : p ∈ s.waits ++ [(i.toNat, t)] := hp
      rcases List.mem_append.1 hp2 with e | e
      · exact Or.inl e
      · rw [List.mem_singleton.1 e]
        exact Or.inr ⟨by show ((i.toNat : Nat) : Int) = i; omega, rfl⟩

theorem wrS_calm (s : Dk) (hok : s.ok) (hc : s.calm) (acs : List ActR) : ∀ k, (wrS s acs k).ok ∧ (wrS s acs k).calm ∧ (wrS s acs k).stands = s.stands ∧ True ∧ (wrS s acs k).ops ≤ s.ops + k ∧
    ∀ p ∈ (wrS s acs k).waits, p ∈ s.waits ∨ ∃ j, j < k ∧ (p.1 : Int) = (acs.getD j default).i ∧ p.2 = secT (acs.getD j default).t.data.toList
  | 0 => ⟨hok, hc, rfl, trivial, Nat.le_refl _, fun p hp => Or.inl hp⟩
  | k + 1 => by
    obtain ⟨h1, h2, h3, _, h5, h6⟩ := wrS_calm s hok hc acs k
    obtain ⟨g1, g2, g3, g4⟩ := writeS_calm (wrS s acs k) h2 (acs.getD k default).i (secT (acs.getD k default).t.data.toList)
    refine ⟨h1.write _ _, g1, g2.trans h3, trivial, Nat.le_trans g3 (by omega), fun p hp => ?_⟩
    rcases g4 p hp with e | ⟨e1, e2⟩
    · rcases h6 p e with e | ⟨j, hj, e⟩
      · exact Or.inl e
      · exact Or.inr ⟨j, by omega, e⟩
    · exact Or.inr ⟨k, by omega, e1, e2⟩

theorem new_calm (n : Nat) : (Dk.new n).calm := ⟨by show (-1 : Int) < 0; decide, rfl⟩
theorem flush_calm (s : Dk) (hc : s.calm) : s.flushE = 0 ∧ s.flushS.calm ∧ s.flushS.waits = [] ∧ s.flushS.stands.length = s.stands.length ∧ s.flushS.ops = s.ops + 1 := by
  have hd : ¬ s.down = true := by rw [hc.2]; exact Bool.false_ne_true
  have hf : ¬ s.fuse = 0 := by have := hc.1; omega
  have e : s.flushS = s.cut.stand keepAll := by unfold Dk.flushS; rw [if_neg hd, if_neg hf]
  refine ⟨by unfold Dk.flushE; rw [if_neg hd, if_neg hf], ?_, ?_, ?_, ?_⟩
  · rw [e]
    refine ⟨?_, ?_⟩
    · show (if 0 < s.fuse then s.fuse - 1 else s.fuse) < 0
      rw [if_neg (by have := hc.1; omega)]; exact hc.1
    · show (s.down || s.fuse == 0) = false
      rw [hc.2, beq_eq_false_iff_ne.2 hf]; rfl
  · rw [e]; rfl
  · rw [e]; show (standK keepAll s.cut.stands s.cut.waits _).length = _; rw [standK_len]; rfl
  · rw [e]; rfl

/-- What stands behind is what stood, or what was kept. -/
theorem standK_from (keep : Nat → Bool) (st : List (List UInt8)) (ws : List (Nat × List UInt8)) : ∀ j, j ≤ ws.length → ∀ k, (standK keep st ws j)[k]? = st[k]? ∨ ∃ i, i < j ∧ keep i = true ∧ (ws.getD i (0, [])).1 = k ∧ (standK keep st ws j)[k]? = some (ws.getD i (0, [])).2
  | 0, _, k => Or.inl rfl
  | j + 1, hj, k => by
    have ih := standK_from keep st ws j (by omega) k
    unfold standK
    by_cases hk : keep j = true
    · rw [if_pos hk]
      by_cases he : (ws.getD j (0, [])).1 = k
      · by_cases hl : k < (standK keep st ws j).length
        · right
          refine ⟨j, by omega, hk, he, ?_⟩
          rw [he, List.getElem?_set_self hl]
        · left
          rw [List.getElem?_eq_none (by rw [List.length_set]; omega), List.getElem?_eq_none (by rw [standK_len] at hl; omega)]
      · rw [List.getElem?_set_ne he]
        rcases ih with e | ⟨i, h1, h2⟩
        · exact Or.inl e
        · exact Or.inr ⟨i, by omega, h2⟩
    · rw [if_neg hk]
      rcases ih with e | ⟨i, h1, h2⟩
      · exact Or.inl e
      · exact Or.inr ⟨i, by omega, h2⟩

/-- P9.6, of a sector: as it stood, or as a write of it that waited and was kept. -/
theorem keeps_at (s : Dk) (hok : s.ok) (hc : s.calm) (hw : s.waits = []) (acs : List ActR) (M : Nat) (l : List Bool) (k : Nat) (hk : k < s.stands.length) :
    ∃ x, ((wrS s acs M).powerS l).stands[k]? = some x ∧ (x = s.stands[k] ∨ 0 < l.length ∧ ∃ j, j < M ∧ (acs.getD j default).i = (k : Int) ∧ secT (acs.getD j default).t.data.toList = x) := by
  obtain ⟨h1, h2, h3, _, h5, h6⟩ := wrS_calm s hok hc acs M
  have e : ((wrS s acs M).powerS l).stands = standK (keepL l) s.stands (wrS s acs M).waits (wrS s acs M).waits.length := by
    show standK (keepL l) (wrS s acs M).stands _ _ = _
    rw [h3]
  rw [e]
  rcases standK_from (keepL l) s.stands (wrS s acs M).waits _ (Nat.le_refl _) k with f | ⟨i, hi, hki, hk1, hk2⟩
  · exact ⟨s.stands[k], by rw [f]; exact List.getElem?_eq_getElem hk, Or.inl rfl⟩
  · refine ⟨_, hk2, Or.inr ⟨?_, ?_⟩⟩
    · unfold keepL at hki
      cases l with
      | nil => simp at hki
      | cons a l => simp
    · have hm : (wrS s acs M).waits.getD i (0, []) ∈ (wrS s acs M).waits := by
        rw [List.getD_eq_getElem?_getD, List.getElem?_eq_getElem hi]
        exact List.getElem_mem hi
      rcases h6 _ hm with f | ⟨j, hj, f1, f2⟩
      · rw [hw] at f; simp at f
      · exact ⟨j, hj, by rw [← f1, hk1], f2.symm⟩

end Go.Proofs.YtoigembmbajopaaDoor
namespace Go.Proofs.YtoigembmbajopaaDoor
open Go.RowKit Go.ChangeShapes

end Go.Proofs.YtoigembmbajopaaDoor
namespace Go.Proofs.YtoigembmbajopaaDoor
open Go.RowKit

theorem new_image (n : Nat) : (Dk.new n).image = List.replicate (128 * n) 0 := by
  show (List.replicate n (List.replicate 128 (0 : UInt8))).flatten = _
  rw [List.flatten_replicate_replicate, Nat.mul_comm]

set_option maxRecDepth 100000 in
set_option maxHeartbeats 1000000 in
theorem newDisk : NewDisk := by
  intro n w
  by_cases h : 1 ≤ n ∧ n ≤ 8192
  · obtain ⟨q, rfl⟩ : ∃ q : Nat, n = q := ⟨n.toNat, by omega⟩
    have h1 : ¬ (q : Int) < 1 := by omega
    have h2 : ¬ (q : Int) > 8192 := by omega
    obtain ⟨z, hz⟩ : ∃ z, z = 128 * q := ⟨_, rfl⟩
    have v1 : IntKind.i64.wrap ((q : Int) * 128) = (z : Int) := by rw [show (q : Int) * 128 = (z : Int) by omega]; exact IntWalk.i64_in _ (by omega)
    obtain ⟨w1, hmk, hba, hb1⟩ := BytesAt.made z (by omega) w
    have MK := dmake_any (B := w.heap.size) hba (Nat.le_refl _) (c := z) (by simp) (Dk.new q) (by rw [new_image, hz]) rfl rfl rfl rfl
    rw [List.length_replicate] at MK
    have HB1 := Lib.hid hb1
    have HQ := Lib.hid h
    clear hz hba hb1 h
    go_enter Tryd.func37, Tryd.ntmps37
    go_wp2_with fail
    refine MK.mono ?_
    rintro e w2 ⟨rfl, hd, hb2⟩
    have K2 : Kept w w2 := (show Kept w w1 from HB1.out).then hb2
    have HD := Lib.hid hd
    have HK2 := Lib.hid K2
    clear hd hb2 K2 MK hmk
    go_wp2
    first | go_ret | go_ret2
    exact ⟨HK2.out, Or.inr ⟨HQ.out, _, _, _, rfl, diskOk _ _ _ _ _, ⟨_, HD.out, rfl⟩⟩⟩
  · have HN := Lib.hid h
    by_cases h1 : n < 1
    · clear h
      go_enter Tryd.func37, Tryd.ntmps37
      go_wp2
      first | go_ret | go_ret2
      exact ⟨Below.refl _ _, Or.inl ⟨HN.out, rfl⟩⟩
    · have h2 : n > 8192 := by omega
      clear h
      go_enter Tryd.func37, Tryd.ntmps37
      go_wp2
      first | go_ret | go_ret2
      first | exact ⟨Below.refl _ _, Or.inl ⟨HN.out, rfl⟩⟩ | exact ⟨Below.refl _ _, Or.inl rfl⟩

set_option maxRecDepth 100000 in
theorem dmade_nil (w : World) : Calls Tryd.prog 67 #[.pointer none] w fun e w' => e = .returned (.bool false) ∧ w = w' := by
  go_enter Tryd.func67, Tryd.ntmps67
  go_wp2
  go_ret
  exact ⟨rfl, rfl⟩

set_option maxRecDepth 100000 in
theorem dready_nil (w : World) : Calls Tryd.prog 77 #[.pointer none] w fun e w' => e = .returned (.int .i64 4) ∧ w = w' := by
  go_enter Tryd.func77, Tryd.ntmps77
  go_wp2_with fail
  refine (dmade_nil _).mono ?_
  rintro e w' ⟨rfl, rfl⟩
  go_wp2
  go_ret
  exact ⟨rfl, rfl⟩

set_option maxRecDepth 100000 in
theorem dreach_nil (i : Int) (w : World) : Calls Tryd.prog 99 #[.pointer none, .int .i64 i] w fun e w' => e = .returned (.int .i64 4) ∧ w = w' := by
  go_enter Tryd.func99, Tryd.ntmps99
  go_wp2_with fail
  refine (dready_nil _).mono ?_
  rintro e w' ⟨rfl, rfl⟩
  go_wp2
  go_ret
  exact ⟨rfl, rfl⟩

end Go.Proofs.YtoigembmbajopaaDoor
