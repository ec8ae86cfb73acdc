/- Bytes from a block's start on, written in place: '[]byte' of the call's own, however it was made ('make', '[]byte(s)'). The statements' laid: a disk on which each sector holds rising bytes, the program's and the document's. -/
import Derived.Test.YtoigembmbajopaaDoorGK
import Derived.Lib.LazyBuf
import Derived.Laws.OwnMore
import Derived.Laws.MakeOwn
import Derived.Laws.AppendOwn
import Derived.Test.YtoigembmbajopaaDoorGL
import Derived.Test.YtoigembmbajopaaDoorGN
import Derived.Test.YtoigembmbajopaaDoorGM
namespace Go.Proofs.YtoigembmbajopaaDoor
open Go.RowKit

def u8V (x : UInt8) : Value := .int .u8 (x.toNat : Int)

/-- The block b holds these bytes first. -/
def BytesAt (b : Nat) (bs : List UInt8) (w : World) : Prop :=
  ∃ (cs : Array Value) (fr : Nat × Nat), w.heap[b]? = some (.cells cs 5 fr) ∧ (∀ i, i < bs.length → ¬ (fr.1 ≤ i ∧ i < fr.2)) ∧ ∀ i (h : i < bs.length), cs[i]? = some (u8V bs[i])

section
variable {b : Nat} {bs : List UInt8} {w : World} (h : BytesAt b bs w)
include h

theorem BytesAt.lt : b < w.heap.size := by
  obtain ⟨cs, fr, hb, _⟩ := h
  exact (Array.getElem?_eq_some_iff.1 hb).1
theorem BytesAt.stay {w' : World} (hk : w'.heap[b]? = w.heap[b]?) : BytesAt b bs w' := by
  obtain ⟨cs, fr, hb, r⟩ := h
  exact ⟨cs, fr, hk.trans hb, r⟩
theorem BytesAt.kept {w' : World} (k : Kept w w') : BytesAt b bs w' := h.stay (k.block b h.lt)
theorem BytesAt.cell (i : Nat) (hi : i < bs.length) : w.cell? ⟨b, i, none⟩ = some (u8V bs[i]) := by
  obtain ⟨cs, fr, hb, _, hc⟩ := h
  rw [cell_of_row _ _ i _ _ _ hb]
  exact hc i hi
theorem BytesAt.froz (i : Nat) (hi : i < bs.length) : w.frozen? ⟨b, i, none⟩ = false := by
  obtain ⟨cs, fr, hb, hf, _⟩ := h
  have := hf i hi
  simp only [World.frozen?, hb]
  by_cases h1 : fr.1 ≤ i
  · have h2 : ¬ i < fr.2 := fun x => this ⟨h1, x⟩
    simp [h1, h2]
  · simp [h1]
theorem BytesAt.set (i : Nat) (hi : i < bs.length) (x : UInt8) : BytesAt b (bs.set i x) (w.setCell ⟨b, i, none⟩ (u8V x)) := by
  obtain ⟨cs, fr, hb, hf, hc⟩ := h
  refine ⟨_, fr, setCell_row _ _ _ _ _ _ _ hb, fun j hj => hf j (by simpa using hj), fun j hj => ?_⟩
  have hj' : j < bs.length := by simpa using hj
  have hcs : i < cs.size := (Array.getElem?_eq_some_iff.1 (hc i hi)).1
  rw [Array.getElem?_setIfInBounds, List.getElem_set]
  by_cases e : i = j
  · subst e; rw [if_pos rfl, if_pos hcs, if_pos rfl]
  · rw [if_neg e, if_neg e, hc j hj']
theorem BytesAt.typ : ∃ cs fr, w.heap[b]? = some (.cells cs 5 fr) := by
  obtain ⟨cs, fr, hb, _⟩ := h
  exact ⟨cs, fr, hb⟩
end

/-- Bytes laid over others. -/
def patch (bs : List UInt8) (o : Nat) : List UInt8 → List UInt8
  | [] => bs
  | v :: r => patch (bs.set o v) (o + 1) r

theorem patch_len (o : Nat) (vs : List UInt8) : ∀ bs : List UInt8, (patch bs o vs).length = bs.length := by
  induction vs generalizing o with
  | nil => intro bs; rfl
  | cons v r ih => intro bs; unfold patch; rw [ih, List.length_set]

theorem patch_eq (vs : List UInt8) : ∀ (bs : List UInt8) (o : Nat), o + vs.length ≤ bs.length → patch bs o vs = bs.take o ++ vs ++ bs.drop (o + vs.length) := by
  induction vs with
  | nil => intro bs o _; show bs = bs.take o ++ [] ++ bs.drop (o + 0); simp
  | cons v r ih =>
    intro bs o h
    have hl : o + 1 + r.length ≤ bs.length := by simp at h; omega
    unfold patch
    rw [ih _ _ (by rw [List.length_set]; exact hl), List.length_cons]
    have e1 : (bs.set o v).take (o + 1) = bs.take o ++ [v] := by
      rw [List.take_succ_eq_append_getElem (by rw [List.length_set]; omega), List.take_set_of_le (by omega), List.getElem_set_self]
    have e2 : (bs.set o v).drop (o + 1 + r.length) = bs.drop (o + (r.length + 1)) := by
      rw [List.drop_set_of_lt (by omega), show o + 1 + r.length = o + (r.length + 1) by omega]
    rw [e1, e2]
    simp

theorem BytesAt.sets {b : Nat} (vs : List UInt8) : ∀ {bs : List UInt8} {w : World} (o : Nat), BytesAt b bs w → o + vs.length ≤ bs.length → BytesAt b (patch bs o vs) (w.setCells b o (vs.map u8V)) := by
  induction vs with
  | nil => intro bs w o h _; exact h
  | cons v r ih =>
    intro bs w o h hl
    have hl2 : o + (r.length + 1) ≤ bs.length := hl
    exact ih (o + 1) (h.set o (by omega) v) (by rw [List.length_set]; omega)

theorem setCells_other (b k : Nat) (hk : k ≠ b) : ∀ (vs : List Value) (o : Nat) (w : World), (w.setCells b o vs).heap[k]? = w.heap[k]?
  | [], _, _ => rfl
  | v :: r, o, w => by
    show ((w.setCell ⟨b, o, none⟩ v).setCells b (o + 1) r).heap[k]? = _
    rw [setCells_other b k hk r]
    exact heap_setCell_other _ _ _ _ hk

theorem grown_sets (b : Nat) : ∀ (vs : List Value) (o : Nat) (w : World), w.grownBy (w.setCells b o vs) (some b)
  | [], _, w => ⟨rfl, rfl, rfl, Nat.le_refl _, fun _ _ _ => rfl⟩
  | v :: r, o, w => by
    have h1 := grown_set w b o v
    have h2 := grown_sets b r (o + 1) (w.setCell ⟨b, o, none⟩ v)
    exact ⟨h2.os.trans h1.os, h2.tape.trans h1.tape, h2.output.trans h1.output, Nat.le_trans h1.size h2.size, fun j hj hn => (h2.block j (Nat.lt_of_lt_of_le hj h1.size) hn).trans (h1.block j hj hn)⟩

/-- 'string(b[a:e])' -/
theorem BytesAt.conv {b : Nat} {bs : List UInt8} {w : World} (h : BytesAt b bs w) (a n c : Nat) (hn : a + n ≤ bs.length) :
    (convert 46 9 (.slice (some ⟨b, a, none⟩) n c)).run Tryd.prog w = .ok (.string (str ((bs.drop a).take n))) w := by
  have hl : ((bs.drop a).take n).length = n := by rw [List.length_take, List.length_drop]; omega
  have h1 := run_convert_bytes_back (P := Tryd.prog) w 46 9 5 ⟨b, a, none⟩ c ((bs.drop a).take n) Tryd.underlying46 Tryd.underlying5 Tryd.underlying9 (fun j hj => by
    rw [addr_add]
    have hj2 : j < n := by rw [hl] at hj; exact hj
    rw [h.cell (a + j) (by omega)]
    simp [u8V])
  rw [hl] at h1
  exact h1

/-- 'make([]byte, n)' -/
theorem infoU8 : (Tryd.prog.info? 5).map (fun i => (i.zero, i.size, i.bytes)) = some (some (.int .u8 0), 1, 1) := by kernel_rfl
theorem BytesAt.made (n : Nat) (hn : n ≤ 16777216) (w : World) : ∃ w', (Instr.makeSlice 46 (.int .i64 (n : Int)) (.int .i64 (n : Int))).run Tryd.prog w = .ok (.slice (some ⟨w.heap.size, 0, none⟩) n n) w' ∧ BytesAt w.heap.size (List.replicate n 0) w' ∧ Below w.heap.size w w' := by
  obtain ⟨i, hi, hx⟩ := Option.map_eq_some_iff.1 infoU8
  simp only [Prod.mk.injEq] at hx
  obtain ⟨h0, h1, h2⟩ := hx
  have hr := run_makeSlice (P := Tryd.prog) w 46 5 i (.int .u8 0) Tryd.underlying46 hi h0 .i64 .i64 (n : Int) (n : Int) (by omega) (by omega) (by rw [h1]; omega) (by rw [h2]; omega) (by omega)
  refine ⟨_, hr, ⟨_, _, heap_alloc_new w _, fun i hi x => by simp at x, fun j hj => ?_⟩, box_below _ _⟩
  have hj2 : j < n := by simpa using hj
  rw [h1, Int.toNat_natCast, Nat.mul_one]
  show (madeCells #[.int .u8 0] n)[j]? = _
  rw [← Array.getElem?_toList, toList_madeCells_one, List.getElem?_replicate, if_pos hj2]
  simp [u8V]

/-- '[]byte(s)' -/
theorem BytesAt.of_str (s : ByteArray) (w : World) : ∃ c w', s.size ≤ c ∧ (convert 9 46 (.string s)).run Tryd.prog w = .ok (.slice (some ⟨w.heap.size, 0, none⟩) s.size c) w' ∧ BytesAt w.heap.size s.data.toList w' ∧ Below w.heap.size w w' := by
  refine ⟨_, _, grownCap_ge w s.size 0 5, run_bytes_of_string w 9 46 5 s Tryd.underlying9 Tryd.underlying46 Tryd.underlying5, ⟨_, _, heap_alloc_last w.drew _, fun i hi x => ?_, fun i hi => ?_⟩, (Below.refl _ _).drew.alloc (Nat.le_refl _) _⟩
  · rw [data_len] at hi
    simp [bytesRow] at x
    omega
  · have hi2 : i < s.size := by rw [← data_len s]; exact hi
    rw [bytesRow_at s _ i hi2]
    rfl

end Go.Proofs.YtoigembmbajopaaDoor
namespace Go.Proofs.YtoigembmbajopaaDoor
open Go.RowKit Go.ChangeShapes

/-! ### The disk that is laid -/
def riseB (b : Int) (k : Nat) : UInt8 := UInt8.ofNat ((b.toNat + k) % 256)
def rise (b : Int) : List UInt8 := (List.range 128).map (riseB b)
theorem rise_len (b : Int) : (rise b).length = 128 := by unfold rise; simp
def laidK (n : Nat) (zs : List Int) : Nat → Dk
  | 0 => Dk.new n
  | k + 1 => (laidK n zs k).writeS (k : Nat) (rise (zs.getD k 0))
def laidS (n : Nat) (zs : List Int) : Dk := (laidK n zs (min zs.length n)).flushS
theorem laidK_facts {n : Nat} (h1 : 1 ≤ n) (h2 : n ≤ 40) (zs : List Int) : ∀ k, k ≤ n → (laidK n zs k).ok ∧ (laidK n zs k).calmB ∧ (laidK n zs k).stands.length = n ∧ (laidK n zs k).ops = k
  | 0, _ => ⟨Dk.ok.new (by omega) (by omega), ⟨rfl, by show (-1 : Int) < 0; omega⟩, by show (List.replicate n _).length = n; simp, rfl⟩
  | k + 1, hk => by
    obtain ⟨a, b, c, d⟩ := laidK_facts h1 h2 zs k (by omega)
    obtain ⟨e0, e1, e2, e3, e4⟩ := calmB_write b k (by omega) (rise (zs.getD k 0)) (rise_len _)
    show ((laidK n zs k).writeS (k : Nat) (rise (zs.getD k 0))).ok ∧ _
    exact ⟨a.write _ _, e1, by show ((laidK n zs k).writeS (k : Nat) (rise (zs.getD k 0))).stands.length = n; rw [e2, c], by show ((laidK n zs k).writeS (k : Nat) (rise (zs.getD k 0))).ops = k + 1; rw [e4, d]⟩
theorem laidS_facts {n : Nat} (h1 : 1 ≤ n) (h2 : n ≤ 40) (zs : List Int) : (laidS n zs).ok ∧ (laidS n zs).calmB ∧ (laidS n zs).stands.length = n ∧ (laidS n zs).ops ≤ 41 ∧ (laidS n zs).waits = [] := by
  obtain ⟨a, b, c, d⟩ := laidK_facts h1 h2 zs (min zs.length n) (by omega)
  have e : laidS n zs = (laidK n zs (min zs.length n)).cut.stand keepAll := by
    unfold laidS Dk.flushS
    rw [if_neg (by rw [b.1]; decide), if_neg (by have := b.2; omega)]
  refine ⟨a.flush, ?_, ?_, ?_, ?_⟩
  · rw [e]
    refine ⟨?_, ?_⟩
    · show ((laidK n zs (min zs.length n)).down || (laidK n zs (min zs.length n)).fuse == 0) = false
      rw [b.1, Bool.false_or, beq_eq_false_iff_ne]; have := b.2; omega
    · show (if 0 < (laidK n zs (min zs.length n)).fuse then _ else (laidK n zs (min zs.length n)).fuse) < 0
      have := b.2
      rw [if_neg (by omega)]; exact this
  · rw [e]
    show (standK keepAll (laidK n zs (min zs.length n)).stands (laidK n zs (min zs.length n)).waits (laidK n zs (min zs.length n)).waits.length).length = n
    rw [standK_len, c]
  · rw [e]
    show (laidK n zs (min zs.length n)).ops + 1 ≤ 41
    omega
  · rw [e]; rfl

/-- The first k of 128 bytes are written. -/
def genJ (f : Nat → UInt8) (k : Nat) : List UInt8 := (List.range 128).map fun i => if i < k then f i else 0
theorem genJ_len (f : Nat → UInt8) (k : Nat) : (genJ f k).length = 128 := by unfold genJ; simp
theorem genJ_zero (f : Nat → UInt8) : genJ f 0 = List.replicate 128 0 := by
  have h : (fun i => if i < 0 then f i else (0 : UInt8)) = fun _ => 0 := funext fun i => if_neg (Nat.not_lt_zero i)
  unfold genJ
  rw [h]
  rfl
theorem genJ_set (f : Nat → UInt8) (k : Nat) : (genJ f k).set k (f k) = genJ f (k + 1) := by
  apply List.ext_getElem?
  intro i
  rw [List.getElem?_set]
  unfold genJ
  by_cases h : i < 128
  · by_cases e : k = i
    · subst e; simp [h]
    · rw [if_neg e]
      simp only [List.getElem?_map, List.getElem?_range h, Option.map_some]
      congr 1
      by_cases h2 : i < k
      · rw [if_pos h2, if_pos (by omega)]
      · rw [if_neg h2, if_neg (by omega)]
  · by_cases e : k = i
    · subst e; simp [h]
    · rw [if_neg e]; simp [h]
theorem genJ_all (f : Nat → UInt8) : genJ f 128 = (List.range 128).map f := by
  unfold genJ
  refine List.map_congr_left fun i hi => ?_
  rw [if_pos (List.mem_range.1 hi)]

def LaidPost (n : Nat) (zs : List Int) (w : World) (e : Ending) (w' : World) : Prop :=
  Kept w w' ∧ ∃ (ad : Addr) (P : Dk → (Nat → Prop) → World → Prop) (B Br g : Nat) (Bs : Nat → Prop) (vs vw : Value), e = .returned (.tuple #[.pointer (some ad), .pointer (some ⟨g, 0, none⟩), .bool true]) ∧ DiskOk B (.pointer (some ad)) P ∧ Pair B Br g P (laidS n zs) Bs vs vw w' ∧ w.heap.size ≤ B ∧ w.heap.size ≤ Br

set_option maxRecDepth 100000 in
set_option maxHeartbeats 16000000 in
theorem laid_any (ND : NewDisk) (n : Nat) (h1 : 1 ≤ n) (h2 : n ≤ 40) (zs : List Int) (vb : Value) (fz j u : Int) (t : ByteArray) (vk : Value) (w : World) (hb : IntAt .u8 zs vb w) (hz : ∀ z ∈ zs, 0 ≤ z ∧ z ≤ 255) (hl : zs.length ≤ maxLen) :
    Calls Tryd.prog 22 #[.agg (caseC n vb fz j u t vk)] w (LaidPost n zs w) := by
  obtain ⟨pb, cb, rfl, hcell⟩ := hb
  obtain ⟨nb, hnb⟩ : ∃ nb, nb = zs.length := ⟨_, rfl⟩
  have HFC := Lib.hid (laidK_facts h1 h2 zs)
  have HLS : Hid (laidS n zs = (laidK n zs (min nb n)).flushS) := Lib.hid (by unfold laidS; rw [hnb])
  rw [← hnb] at hl ⊢
  unfold maxLen at hl
  have HNB := Lib.hid hnb
  have HC := Lib.hid hcell
  have HZ := Lib.hid hz
  obtain ⟨M, hM⟩ : ∃ M, M = min nb n := ⟨_, rfl⟩
  rw [← hM] at HLS
  unfold caseC
  obtain ⟨W1, hW1⟩ : ∃ W1, W1 = w.alloc (.cells #[.int .i64 n, .slice pb nb cb, .int .i64 fz, .int .i64 j, .int .i64 u, .string t, vk] 49) := ⟨_, rfl⟩
  have HW1 := Lib.hid hW1
  have K1 : Hid (Kept w W1) := Lib.hid (by rw [hW1]; exact box_below _ _)
  have hbx : W1.heap[w.heap.size]? = some (.cells #[.int .i64 n, .slice pb nb cb, .int .i64 fz, .int .i64 j, .int .i64 u, .string t, vk] 49 (0, 0)) := by rw [hW1]; exact heap_alloc_last w _
  have HX0 : Hid (W1.cell? ⟨w.heap.size, 0, none⟩ = some (.int .i64 (n : Nat))) := Lib.hid (by rw [cell_of_row _ _ _ _ _ _ hbx]; rfl)
  have HX1 : Hid (W1.cell? ⟨w.heap.size, 1, none⟩ = some (.slice pb nb cb)) := Lib.hid (by rw [cell_of_row _ _ _ _ _ _ hbx]; rfl)
  have NN := ND (n : Int) W1
  have c0 := HX0.out
  rw [hW1] at c0
  have HN40 : Hid (1 ≤ n ∧ n ≤ 40 ∧ M = min nb n) := Lib.hid ⟨h1, h2, hM⟩
  have hMn : M ≤ n := by omega
  have HHL := Lib.hid hl
  clear hcell hnb hz hW1 hbx ND hM hl
  go_enter Tryd.func22, Tryd.ntmps22
  go_wp2_with fail
  rw [← HW1.out]
  refine NN.mono ?_
  rintro e w1 ⟨hb1, ⟨hno, _⟩ | ⟨-, ad, P, Bs0, rfl, D, hd0⟩⟩
  · exact absurd ⟨by omega, by omega⟩ hno
  rw [Int.toNat_natCast] at hd0
  have RN := rnew_any n (by omega) w1
  have HD := Lib.hid D
  have HD0 := Lib.hid hd0
  have KW1 : Hid (Kept W1 w1) := Lib.hid hb1
  have d0 := KW1.out.cell HX0.out
  have HLT0 := Lib.hid (D.above _ _ _ hd0)
  clear D hd0 hb1 NN c0
  go_wp2_with fail
  refine RN.mono ?_
  rintro e w2 ⟨vs0, rfl, hr2, hb2⟩
  have KW2 : Hid (Kept W1 w2) := Lib.hid (KW1.out.then hb2)
  have PR0 : Hid (Pair W1.heap.size w1.heap.size w1.heap.size P (laidK n zs 0) Bs0 vs0 (.slice none 0 0) w2) := Lib.hid
    ⟨HD.out.kept HD0.out hb2, hr2, fun k hk hk2 => by
      have h1 := (HLT0.out k hk).2
      rcases hk2 with e | e | e
      · omega
      · have := (hr2.st.lt k e).1; omega
      · simp [Value.ownBlock] at e, hb2.size, fun k hk => ⟨(HLT0.out k hk).1, Nat.lt_of_lt_of_le (HLT0.out k hk).2 hb2.size⟩, (HFC.out 0 (by omega)).1⟩
  have HBr : Hid (W1.heap.size ≤ w1.heap.size) := Lib.hid KW1.out.size
  obtain ⟨g, hg⟩ : ∃ g, g = w1.heap.size := ⟨_, rfl⟩
  rw [← hg] at PR0 HBr ⊢
  clear hr2 hb2 RN hg d0 HD0 HLT0 KW1
  go_wp2
  go_loopg [8] M (fun gh s8 wx => ∃ (i : Nat) (Bs : Nat → Prop) (vs vw : Value), i + gh = M ∧ s8 = .int .i64 i ∧ Hid (Pair W1.heap.size g g P (laidK n zs i) Bs vs vw wx) ∧ Hid (Kept W1 wx))
  case atStart => exact ⟨0, Bs0, vs0, _, by omega, rfl, PR0, KW2⟩
  case round =>
    clear PR0 KW2
    obtain ⟨i, Bs, vs, vw, hig, rfl, HPR, HK⟩ := hrel
    have e0 := HK.out.cell HX0.out
    have e1 := HK.out.cell HX1.out
    by_cases hiM : i < M
    · have hn40 := HN40.out
      have hin : (i : Int) < nb := by omega
      have bi : decide ((i : Int) < (nb : Int)) = true := by simpa using hin
      have hi2 : (i : Int) < n := by omega
      have bi2 : decide ((i : Int) < (n : Int)) = true := by simpa using hi2
      have hi0 : (0 : Int) ≤ i := by omega
      obtain ⟨i1, hi1⟩ : ∃ i1, i1 = i + 1 := ⟨_, rfl⟩
      have v1 : IntKind.i64.wrap ((i : Int) + 1) = (i1 : Int) := by rw [show (i : Int) + 1 = (i1 : Int) by omega]; exact IntWalk.i64_in _ (by omega)
      have hil : i < zs.length := by rw [← HNB.out]; omega
      rcases HC.out with h0 | ⟨ba, oa, rfl, hcell⟩
      · rw [h0] at hil; simp at hil
      have hzc := (show Kept w W1 from K1.out).cell (hcell i hil)
      have hzr := HZ.out _ (List.getElem_mem hil)
      have hzd : zs.getD i 0 = zs[i] := by rw [List.getD_eq_getElem?_getD, List.getElem?_eq_getElem hil]; rfl
      obtain ⟨zi, hzi⟩ : ∃ zi, zi = zs[i] := ⟨_, rfl⟩
      rw [← hzi] at hzc hzr hzd
      obtain ⟨zn, rfl⟩ : ∃ zn : Nat, zi = zn := ⟨zi.toNat, by omega⟩
      have HZC := Lib.hid hzc
      have HZD := Lib.hid hzd
      obtain ⟨wo, hwo⟩ : ∃ wo : World, wo = wr := ⟨_, rfl⟩
      subst hwo
      obtain ⟨go, hgo⟩ : ∃ go : Nat, go = gk := ⟨_, rfl⟩
      subst hgo
      obtain ⟨w3, hmk, hB, hb3⟩ := BytesAt.made 128 (by omega) wo
      rw [← genJ_zero (riseB zn)] at hB
      have hmk' : (Instr.makeSlice 46 (.int .i64 128) (.int .i64 128)).run Tryd.prog wo = .ok (.slice (some ⟨wo.heap.size, 0, none⟩) 128 128) w3 := hmk
      obtain ⟨b, hbb⟩ : ∃ b, b = wo.heap.size := ⟨_, rfl⟩
      rw [← hbb] at hmk' hB
      have HB0 := Lib.hid hB
      have HK3 : Hid (Below wo.heap.size wo w3) := Lib.hid hb3
      have HBB := Lib.hid hbb
      have HII : Hid (i1 = i + 1 ∧ i + go = M ∧ i < M) := Lib.hid ⟨hi1, hig, hiM⟩
      clear hzc hzi hzd hil hcell hmk hB hb3 hbb hn40 hig hiM hi1
      go_wp2
      clear hmk'
      go_loopg [10] 128 (fun gh s10 wx => ∃ k : Nat, k + gh = 128 ∧ s10 = .int .i64 k ∧ Hid (BytesAt b (genJ (riseB zn) k) wx) ∧ Hid (Below wo.heap.size wo wx))
      case atStart => exact ⟨0, by omega, rfl, HB0, HK3⟩
      case round =>
        clear HB0 HK3
        obtain ⟨k, hk, rfl, HB, HK4⟩ := hrel
        obtain ⟨k1, hk1⟩ : ∃ k1, k1 = k + 1 := ⟨_, rfl⟩
        have u1 : IntKind.i64.wrap ((k : Int) + 1) = (k1 : Int) := by rw [show (k : Int) + 1 = (k1 : Int) by omega]; exact IntWalk.i64_in _ (by omega)
        by_cases hkn : k < 128
        · have hki : (k : Int) < 128 := by omega
          have bk : decide ((k : Int) < 128) = true := by simpa using hki
          have hki0 : (0 : Int) ≤ k := by omega
          have f1 : wr.cell? ⟨w.heap.size, 1, none⟩ = some (.slice (some ⟨ba, oa, none⟩) nb cb) := (HK.out.then HK4.out).cell HX1.out
          have f2 := (HK.out.then HK4.out).cell HZC.out
          have u2 : IntKind.u8.wrap (k : Int) = (k : Int) := by simp [IntKind.wrap, IntKind.bits, IntKind.signed]; omega
          obtain ⟨q, hq⟩ : ∃ q, q = (zn + k) % 256 := ⟨_, rfl⟩
          have u3 : IntKind.u8.wrap ((zn : Int) + (k : Int)) = (q : Int) := by simp [IntKind.wrap, IntKind.bits, IntKind.signed]; omega
          have hcn : (riseB zn k).toNat = q := by unfold riseB; rw [UInt8.toNat_ofNat', Int.toNat_natCast]; omega
          have hcell := HB.out.cell k (by rw [genJ_len]; exact hkn)
          obtain ⟨x0, hx0⟩ : ∃ x0, x0 = u8V ((genJ (riseB zn) k)[k]'(by rw [genJ_len]; exact hkn)) := ⟨_, rfl⟩
          rw [← hx0] at hcell
          have hfz := HB.out.froz k (by rw [genJ_len]; exact hkn)
          have hset := HB.out.set k (by rw [genJ_len]; exact hkn) (riseB zn k)
          rw [genJ_set (riseB zn) k, ← hk1] at hset
          unfold u8V at hset
          rw [hcn] at hset
          have HB2 := Lib.hid hset
          have HK5 : Hid (Below wo.heap.size wo (wr.setCell ⟨b, k, none⟩ (.int .u8 (q : Int)))) := Lib.hid (HK4.out.setCell (by rw [HBB.out]; exact Nat.le_refl _) _)
          clear hq hcn hx0 hset
          go_wp2
          go_roundg (128 - k1)
          case measure => omega
          case rel => exact ⟨k1, by omega, by first | rfl | (congr 1; omega), HB2, HK5⟩
        · have hki : ¬ (k : Int) < 128 := by omega
          have bk : decide ((k : Int) < 128) = false := by simpa using hki
          have hke : k = 128 := by omega
          subst hke
          have hbs := HB.out
          rw [genJ_all] at hbs
          obtain ⟨L, hL⟩ : ∃ L, L = (List.range 128).map (riseB zn) := ⟨_, rfl⟩
          rw [← hL] at hbs
          have hLl : L.length = 128 := by rw [hL]; simp
          have hLr : L = rise (zs.getD i 0) := by rw [HZD.out, hL]; rfl
          obtain ⟨T, hT⟩ : ∃ T, T = str L := ⟨_, rfl⟩
          have HCV : Hid (∀ w', BytesAt b L w' → (convert 46 9 (.slice (some ⟨b, 0, none⟩) 128 128)).run Tryd.prog w' = .ok (.string T) w') := Lib.hid (fun w' h => by
            have := h.conv 0 128 128 (by omega)
            rw [List.drop_zero, List.take_of_length_le (by omega), ← hT] at this
            exact this)
          have hTl : T.data.toList = rise (zs.getD i 0) := by rw [hT, str_list, hLr]
          have HTZ : Hid (T.size ≤ maxLen) := Lib.hid (by rw [hT, str_size, hLl]; decide)
          have hPd : Pair W1.heap.size g g P (laidK n zs i) Bs vs vw wr.drew := Pair.kept HD.out (Pair.kept HD.out HPR.out HK4.out) (Below.drew (Below.refl wr.heap.size wr))
          have HPW := Lib.hid hPd
          have HKD : Hid (Kept W1 wr.drew) := Lib.hid ((HK.out.then HK4.out).then (Below.drew (Below.refl wr.heap.size wr)))
          have S0 : BytesAt b L wr.drew := BytesAt.kept hbs (Below.drew (Below.refl wr.heap.size wr))
          have HLO : Hid ((laidK n zs i).ops ≤ 4294967295) := Lib.hid (by rw [(HFC.out i (by have := HII.out; omega)).2.2.2]; have := HII.out; omega)
          have HIW : Hid ((Lit.int .i64 (i : Int)).wf = true) := Lib.hid (by simp [Lit.wf, IntKind.min, IntKind.max, IntKind.signed, IntKind.bits]; have := HII.out; omega)
          have DF := HD.out.write (laidK n zs i) Bs wr.drew (i : Int) T hPd.d hPd.ok HLO.out HIW.out HTZ.out
          rw [hTl] at DF
          have HTL := Lib.hid hTl
          obtain ⟨E, hE⟩ : ∃ E, E = (laidK n zs i).writeE (i : Int) (rise (zs.getD i 0)) := ⟨_, rfl⟩
          rw [← hE] at DF
          have HE := Lib.hid hE
          have hsn : (laidK n zs i).writeS (i : Int) (rise (zs.getD i 0)) = laidK n zs i1 := by rw [HII.out.1]; rfl
          rw [hsn] at DF
          have HSN := Lib.hid hsn
          have be : (E != E) = false := by simp
          have HLTB : Hid (∀ k, Bs k → k < wo.heap.size) := Lib.hid (fun k hk => (HPR.out.lt k hk).2)
          have HGB : Hid (g < wo.heap.size) := Lib.hid (HPR.out.r.lt g (Or.inl rfl)).2
          have HOK1 := Lib.hid ((HFC.out i1 (by have := HII.out; omega)).1)
          have hp0 : P (laidK n zs i) Bs wr.drew := hPd.d
          unfold DPost at DF
          clear hbs hL hLl hLr hT hTl hPd hE hsn HB HK4 hp0 hk
          go_wp2_with fail
          refine wp_region_held_drew (S := fun w' => BytesAt b L w') (by kernel_rfl) S0 (fun hHeld => ?_)
          refine wpAnyH_take (i := 0) (v := ?_) rfl (by kernel_rfl) (by kernel_rfl) (by kernel_rfl) (fun _ _ _ h => h) (Or.inl ⟨by first | kernel_rfl | rfl, ?_⟩) (by assumption) ?_
          case refine_2 => intro w hSw; go_simp; try with_reducible rfl
          refine wpAnyH_take (i := 1) (v := ?_) rfl (by kernel_rfl) (by kernel_rfl) (by kernel_rfl) (fun _ _ _ h => h) (Or.inl ⟨by first | kernel_rfl | rfl, ?_⟩) (by assumption) ?_
          case refine_2 => intro w hSw; go_simp; try with_reducible rfl
          refine wpAnyH_take (i := 2) (v := ?_) rfl (by kernel_rfl) (by kernel_rfl) (by kernel_rfl) (fun _ _ _ h => h) (Or.inl ⟨by first | kernel_rfl | rfl, ?_⟩) (by assumption) ?_
          case refine_2 => intro w hSw; go_simp; try with_reducible rfl
          refine wpAnyH_take (i := 3) (v := ?_) rfl (by kernel_rfl) (by kernel_rfl) (by kernel_rfl) (fun _ _ _ h => h) (Or.inl ⟨by first | kernel_rfl | rfl, ?_⟩) (by assumption) ?_
          case refine_2 => intro w hSw; have hcc := HCV.out w hSw; go_simp; try with_reducible rfl
          refine wpAnyH_take (i := 5) (v := ?_) rfl (by kernel_rfl) (by kernel_rfl) (by kernel_rfl) (fun _ _ _ h => h) (Or.inl ⟨by first | kernel_rfl | rfl, ?_⟩) (by assumption) ?_
          case refine_2 => intro w hSw; go_simp; try with_reducible rfl
          refine wpAnyH_take (i := 6) (v := ?_) rfl (by kernel_rfl) (by kernel_rfl) (by kernel_rfl) (fun _ _ _ h => h) (Or.inl ⟨by first | kernel_rfl | rfl, ?_⟩) (by assumption) ?_
          case refine_2 => intro w hSw; go_simp; try with_reducible rfl
          refine wpAnyH_take (i := 7) (v := ?_) rfl (by kernel_rfl) (by kernel_rfl) (by kernel_rfl) (fun _ _ _ h => h) (Or.inl ⟨by first | kernel_rfl | rfl, ?_⟩) (by assumption) ?_
          case refine_2 => intro w hSw; go_simp; try with_reducible rfl
          refine wpAnyH_take (i := 8) (v := ?_) rfl (by kernel_rfl) (by kernel_rfl) (by kernel_rfl) (fun _ _ _ h => h) (Or.inl ⟨by first | kernel_rfl | rfl, ?_⟩) (by assumption) ?_
          case refine_2 => intro w hSw; have hcc := HCV.out w hSw; go_simp; try with_reducible rfl
          refine wpAnyH_ready (rs := [4]) (by kernel_rfl) (by simp) (AllReadyH.cons rfl (fun K hK => ?_) AllReadyH.nil)
          go_simp
          refine DF.mono ?_
          rintro e w4 ⟨rfl, ⟨Bs1, hd1, hs1⟩, hb1⟩
          have hr1 := HPW.out.r_stay hb1
          have RF := rwrite_any hr1 HPW.out.ok HLO.out (Nat.le_trans HPW.out.base hb1.size) (i : Int) T
          rw [HTL.out, ← HE.out, HSN.out] at RF
          have S1 : BytesAt b L w4 := BytesAt.stay S0 (hb1.block b (BytesAt.lt S0) (fun z => by have := HLTB.out b z; have := HBB.out; omega))
          have HS1' := Lib.hid S1
          have HD1 := Lib.hid hd1
          have HS1 := Lib.hid hs1
          have HB1 := Lib.hid hb1
          clear hd1 hs1 hb1 hr1 DF
          refine hK.out _ _ S1 (fun _ => ?_)
          clear hK K
          refine wpAnyH_ready (rs := [9]) (by kernel_rfl) (by simp) (AllReadyH.cons rfl (fun K hK => ?_) AllReadyH.nil)
          go_simp
          refine RF.mono ?_
          rintro e w5 ⟨rfl, vs2, vw2, hr2, hs2, hb2⟩
          have ST := Lib.hid (HPW.out.step HD.out HD1.out HS1.out HB1.out hr2 hs2 hb2 HOK1.out)
          have S2 : BytesAt b L w5 := BytesAt.stay HS1'.out (hb2.block b (BytesAt.lt HS1'.out) (fun z => by have := HGB.out; have := HBB.out; omega))
          clear hr2 hs2 hb2 RF
          refine hK.out _ _ S2 (fun _ => ?_)
          clear hK K
          refine wpAnyH_take (i := 10) (v := ?_) rfl (by kernel_rfl) (by kernel_rfl) (by kernel_rfl) (fun _ _ _ h => h) (Or.inl ⟨by first | kernel_rfl | rfl, ?_⟩) (by assumption) ?_
          case refine_2 => intro w hSw; go_simp; try with_reducible rfl
          refine wpAnyH_done (by kernel_rfl) ?_ _
          obtain ⟨⟨Bs3, vs3, vw3, hp3, -⟩, hb3⟩ := ST.out
          have HP3 := Lib.hid hp3
          have HK5 : Hid (Kept W1 w5) := Lib.hid (hb3.kept (fun k hk => by
            rcases hk with y | y
            · exact (HPR.out.lt k y).1
            · exact Nat.le_trans HBr.out (HPR.out.r.lt k y).1) HKD.out HKD.out.size)
          clear hp3 hb3 ST HPW HPR
          go_wp2
          go_roundg (M - i1)
          case measure => have := HII.out; omega
          case rel => exact ⟨i1, Bs3, vs3, vw3, by have := HII.out; omega, by first | rfl | (congr 1; have := HII.out; omega), HP3, HK5⟩
    · have hie : i = M := by omega
      subst hie
      have HPS : Hid (Pair W1.heap.size g g P (laidK n zs i) Bs vs vw wr) := HPR
      have HLO : Hid ((laidK n zs i).ops ≤ 4294967295) := Lib.hid (by rw [(HFC.out i hMn).2.2.2]; have := HN40.out; omega)
      have DF := HD.out.flush (laidK n zs i) Bs wr HPR.out.d HPR.out.ok HLO.out
      rw [← HLS.out] at DF
      obtain ⟨E, hE⟩ : ∃ E, E = (laidK n zs i).flushE := ⟨_, rfl⟩
      rw [← hE] at DF
      have HE := Lib.hid hE
      have be : (E == E) = true := by simp
      have HOK1 : Hid ((laidS n zs).ok) := Lib.hid (laidS_facts HN40.out.1 HN40.out.2.1 zs).1
      unfold DPost at DF
      have hcase : (decide ((i : Int) < (nb : Int)) = false ∧ ¬ ((i : Int) < (nb : Int))) ∨ (decide ((i : Int) < (nb : Int)) = true ∧ decide ((i : Int) < (n : Int)) = false ∧ ¬ ((i : Int) < (n : Int)) ∧ (i : Int) < (nb : Int)) := by
        have := HN40.out
        by_cases q : i < nb
        · exact Or.inr ⟨decide_eq_true (by omega), decide_eq_false (by omega), by omega, by omega⟩
        · exact Or.inl ⟨decide_eq_false (by omega), by omega⟩
      clear hE hig hiM
      rcases hcase with ⟨b1, b2⟩ | ⟨b1, b2, b3, b4⟩
      all_goals (
        go_wp2_with fail
        refine DF.mono ?_
        rintro e w4 ⟨rfl, ⟨Bs1, hd1, hs1⟩, hb1⟩
        have hr1 := HPS.out.r_stay hb1
        have RF := rflush_any hr1 HPS.out.ok HLO.out (Nat.le_trans HPS.out.base hb1.size)
        rw [← HLS.out, ← HE.out] at RF
        have HD1 := Lib.hid hd1
        have HS1 := Lib.hid hs1
        have HB1 := Lib.hid hb1
        clear hd1 hs1 hb1 hr1 DF e0 e1
        go_wp2_with fail
        refine RF.mono ?_
        rintro e w5 ⟨rfl, vs2, vw2, hr2, hs2, hb2⟩
        have ST := Lib.hid (HPS.out.step HD.out HD1.out HS1.out HB1.out hr2 hs2 hb2 HOK1.out)
        clear hr2 hs2 hb2 RF
        go_wp2
        first | go_ret | go_ret2 | (refine bodyPost_ret (results_tmp3 rfl _ _ _) rfl ?_)
        obtain ⟨⟨Bs3, vs3, vw3, hp3, -⟩, hb3⟩ := ST.out
        have HK5 : Kept W1 w5 := hb3.kept (fun k hk => by
          rcases hk with y | y
          · exact (HPS.out.lt k y).1
          · exact Nat.le_trans HBr.out (HPS.out.r.lt k y).1) HK.out HK.out.size
        exact ⟨(show Kept w W1 from K1.out).then HK5, ad, P, W1.heap.size, g, g, Bs3, vs3, vw3, rfl, HD.out, hp3, (show Kept w W1 from K1.out).size, Nat.le_trans (show Kept w W1 from K1.out).size HBr.out⟩)

end Go.Proofs.YtoigembmbajopaaDoor
