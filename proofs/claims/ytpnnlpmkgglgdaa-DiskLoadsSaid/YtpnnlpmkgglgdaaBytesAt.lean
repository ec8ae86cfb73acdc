/- Bytes from a block's start on, written in place: '[]byte' of the call's own, however it was made ('make', '[]byte(s)'). -/
import Derived.Test.YtpnnlpmkgglgdaaByteRow
import Derived.Lib.LazyBuf
import Derived.Laws.OwnMore
import Derived.Laws.MakeOwn
import Derived.Laws.AppendOwn
namespace Go.Proofs.Ytpnnlpmkgglgdaa
open Go.RowKit

def u8V (x : UInt8) : Value := .int .u8 (x.toNat : Int)

/-- The block b holds these bytes first. -/
def BytesAt (b : Nat) (bs : List UInt8) (w : World) : Prop :=
  ∃ (cs : Array Value) (fr : Nat × Nat), w.heap[b]? = some (.cells cs 5 fr) ∧ (∀ i, i < bs.length → ¬ (fr.1 ≤ i ∧ i < fr.2)) ∧ ∀ i (h : i < bs.length), cs[i]? = some (u8V bs[i])

section
variable {b : Nat} {bs : List UInt8} {w : World} (h : BytesAt b bs w)
include h

theorem BytesAt.lt : b < w.heap.size := by
  obtain ⟨cs, fr, hb, _⟩ := h
  exact (Array.getElem?_eq_some_iff.1 hb).1
theorem BytesAt.stay {w' : World} (hk : w'.heap[b]? = w.heap[b]?) : BytesAt b bs w' := by
  obtain ⟨cs, fr, hb, r⟩ := h
  exact ⟨cs, fr, hk.trans hb, r⟩
theorem BytesAt.kept {w' : World} (k : Kept w w') : BytesAt b bs w' := h.stay (k.block b h.lt)
theorem BytesAt.cell (i : Nat) (hi : i < bs.length) : w.cell? ⟨b, i, none⟩ = some (u8V bs[i]) := by
  obtain ⟨cs, fr, hb, _, hc⟩ := h
  rw [cell_of_row _ _ i _ _ _ hb]
  exact hc i hi
theorem BytesAt.froz (i : Nat) (hi : i < bs.length) : w.frozen? ⟨b, i, none⟩ = false := by
  obtain ⟨cs, fr, hb, hf, _⟩ := h
  have := hf i hi
  simp only [World.frozen?, hb]
  by_cases h1 : fr.1 ≤ i
  · have h2 : ¬ i < fr.2 := fun x => this ⟨h1, x⟩
    simp [h1, h2]
  · simp [h1]
theorem BytesAt.set (i : Nat) (hi : i < bs.length) (x : UInt8) : BytesAt b (bs.set i x) (w.setCell ⟨b, i, none⟩ (u8V x)) := by
  obtain ⟨cs, fr, hb, hf, hc⟩ := h
  refine ⟨_, fr, setCell_row _ _ _ _ _ _ _ hb, fun j hj => hf j (by simpa using hj), fun j hj => ?_⟩
  have hj' : j < bs.length := by simpa using hj
  have hcs : i < cs.size := (Array.getElem?_eq_some_iff.1 (hc i hi)).1
  rw [Array.getElem?_setIfInBounds, List.getElem_set]
  by_cases e : i = j
  · subst e; rw [if_pos rfl, if_pos hcs, if_pos rfl]
  · rw [if_neg e, if_neg e, hc j hj']
theorem BytesAt.typ : ∃ cs fr, w.heap[b]? = some (.cells cs 5 fr) := by
  obtain ⟨cs, fr, hb, _⟩ := h
  exact ⟨cs, fr, hb⟩
end

/-- Bytes laid over others. -/
def patch (bs : List UInt8) (o : Nat) : List UInt8 → List UInt8
  | [] => bs
  | v :: r => patch (bs.set o v) (o + 1) r

theorem patch_len (o : Nat) (vs : List UInt8) : ∀ bs : List UInt8, (patch bs o vs).length = bs.length := by
  induction vs generalizing o with
  | nil => intro bs; rfl
  | cons v r ih => intro bs; unfold patch; rw [ih, List.length_set]

theorem patch_eq (vs : List UInt8) : ∀ (bs : List UInt8) (o : Nat), o + vs.length ≤ bs.length → patch bs o vs = bs.take o ++ vs ++ bs.drop (o + vs.length) := by
  induction vs with
  | nil => intro bs o _; show bs = bs.take o ++ [] ++ bs.drop (o + 0); simp
  | cons v r ih =>
    intro bs o h
    have hl : o + 1 + r.length ≤ bs.length := by simp at h; omega
    unfold patch
    rw [ih _ _ (by rw [List.length_set]; exact hl), List.length_cons]
    have e1 : (bs.set o v).take (o + 1) = bs.take o ++ [v] := by
      rw [List.take_succ_eq_append_getElem (by rw [List.length_set]; omega), List.take_set_of_le (by omega), List.getElem_set_self]
    have e2 : (bs.set o v).drop (o + 1 + r.length) = bs.drop (o + (r.length + 1)) := by
      rw [List.drop_set_of_lt (by omega), show o + 1 + r.length = o + (r.length + 1) by omega]
    rw [e1, e2]
    simp

theorem BytesAt.sets {b : Nat} (vs : List UInt8) : ∀ {bs : List UInt8} {w : World} (o : Nat), BytesAt b bs w → o + vs.length ≤ bs.length → BytesAt b (patch bs o vs) (w.setCells b o (vs.map u8V)) := by
  induction vs with
  | nil => intro bs w o h _; exact h
  | cons v r ih =>
    intro bs w o h hl
    have hl2 : o + (r.length + 1) ≤ bs.length := hl
    exact ih (o + 1) (h.set o (by omega) v) (by rw [List.length_set]; omega)

theorem setCells_other (b k : Nat) (hk : k ≠ b) : ∀ (vs : List Value) (o : Nat) (w : World), (w.setCells b o vs).heap[k]? = w.heap[k]?
  | [], _, _ => rfl
  | v :: r, o, w => by
    show ((w.setCell ⟨b, o, none⟩ v).setCells b (o + 1) r).heap[k]? = _
    rw [setCells_other b k hk r]
    exact heap_setCell_other _ _ _ _ hk

theorem grown_sets (b : Nat) : ∀ (vs : List Value) (o : Nat) (w : World), w.grownBy (w.setCells b o vs) (some b)
  | [], _, w => ⟨rfl, rfl, rfl, Nat.le_refl _, fun _ _ _ => rfl⟩
  | v :: r, o, w => by
    have h1 := grown_set w b o v
    have h2 := grown_sets b r (o + 1) (w.setCell ⟨b, o, none⟩ v)
    exact ⟨h2.os.trans h1.os, h2.tape.trans h1.tape, h2.output.trans h1.output, Nat.le_trans h1.size h2.size, fun j hj hn => (h2.block j (Nat.lt_of_lt_of_le hj h1.size) hn).trans (h1.block j hj hn)⟩

/-- 'string(b[a:e])' -/
theorem BytesAt.conv {b : Nat} {bs : List UInt8} {w : World} (h : BytesAt b bs w) (a n c : Nat) (hn : a + n ≤ bs.length) :
    (convert 50 9 (.slice (some ⟨b, a, none⟩) n c)).run Try.prog w = .ok (.string (str ((bs.drop a).take n))) w := by
  have hl : ((bs.drop a).take n).length = n := by rw [List.length_take, List.length_drop]; omega
  have h1 := run_convert_bytes_back (P := Try.prog) w 50 9 5 ⟨b, a, none⟩ c ((bs.drop a).take n) Try.underlying50 Try.underlying5 Try.underlying9 (fun j hj => by
    rw [addr_add]
    have hj2 : j < n := by rw [hl] at hj; exact hj
    rw [h.cell (a + j) (by omega)]
    simp [u8V])
  rw [hl] at h1
  exact h1

/-- 'make([]byte, n)' -/
theorem infoU8 : (Try.prog.info? 5).map (fun i => (i.zero, i.size, i.bytes)) = some (some (.int .u8 0), 1, 1) := by kernel_rfl
theorem BytesAt.made (n : Nat) (hn : n ≤ 16777216) (w : World) : ∃ w', (Instr.makeSlice 50 (.int .i64 (n : Int)) (.int .i64 (n : Int))).run Try.prog w = .ok (.slice (some ⟨w.heap.size, 0, none⟩) n n) w' ∧ BytesAt w.heap.size (List.replicate n 0) w' ∧ Below w.heap.size w w' := by
  obtain ⟨i, hi, hx⟩ := Option.map_eq_some_iff.1 infoU8
  simp only [Prod.mk.injEq] at hx
  obtain ⟨h0, h1, h2⟩ := hx
  have hr := run_makeSlice (P := Try.prog) w 50 5 i (.int .u8 0) Try.underlying50 hi h0 .i64 .i64 (n : Int) (n : Int) (by omega) (by omega) (by rw [h1]; omega) (by rw [h2]; omega) (by omega)
  refine ⟨_, hr, ⟨_, _, heap_alloc_new w _, fun i hi x => by simp at x, fun j hj => ?_⟩, box_below _ _⟩
  have hj2 : j < n := by simpa using hj
  rw [h1, Int.toNat_natCast, Nat.mul_one]
  show (madeCells #[.int .u8 0] n)[j]? = _
  rw [← Array.getElem?_toList, toList_madeCells_one, List.getElem?_replicate, if_pos hj2]
  simp [u8V]

/-- '[]byte(s)' -/
theorem BytesAt.of_str (s : ByteArray) (w : World) : ∃ c w', s.size ≤ c ∧ (convert 9 50 (.string s)).run Try.prog w = .ok (.slice (some ⟨w.heap.size, 0, none⟩) s.size c) w' ∧ BytesAt w.heap.size s.data.toList w' ∧ Below w.heap.size w w' := by
  refine ⟨_, _, grownCap_ge w s.size 0 5, run_bytes_of_string w 9 50 5 s Try.underlying9 Try.underlying50 Try.underlying5, ⟨_, _, heap_alloc_last w.drew _, fun i hi x => ?_, fun i hi => ?_⟩, (Below.refl _ _).drew.alloc (Nat.le_refl _) _⟩
  · rw [data_len] at hi
    simp [bytesRow] at x
    omega
  · have hi2 : i < s.size := by rw [← data_len s]; exact hi
    rw [bytesRow_at s _ i hi2]
    rfl

end Go.Proofs.Ytpnnlpmkgglgdaa
