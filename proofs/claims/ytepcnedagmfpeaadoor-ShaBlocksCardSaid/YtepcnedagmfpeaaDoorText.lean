/- What the hash of a text holds: its cells, and how they turn. -/
import Derived.Test.YtepcnedagmfpeaaDoorProc
namespace Go.Proofs.YtepcnedagmfpeaaDoor
open Go.RowKit

/-- The cells of a text's state, block and length. -/
def txL (s : St) (blk : List UInt8) (n : Nat) : List Value := (s.list.map fun x : Nat => Value.int .u32 (x : Int)) ++ ((blk.map fun c : UInt8 => Value.int .u8 (c.toNat : Int)) ++ [Value.int .i64 (n : Int)])
def txt (s : St) (blk : List UInt8) (n : Nat) : Array Value := (txL s blk n).toArray

/-- The value holds the text l. -/
def IsText (l : List UInt8) (T : Array Value) : Prop :=
  ∃ blk : List UInt8, blk.length = 64 ∧ blk.take (l.length % 64) = l.drop (64 * (l.length / 64)) ∧ T = txt (absorb (l.length / 64) l) blk l.length

theorem txL_len (s : St) (blk : List UInt8) (n : Nat) (h : blk.length = 64) : (txL s blk n).length = 73 := by
  simp [txL, St.list, h]
theorem txt_size (s : St) (blk : List UInt8) (n : Nat) (h : blk.length = 64) : (txt s blk n).size = 73 := by
  simp [txt, txL_len s blk n h]
theorem txt_one (s : St) (blk : List UInt8) (n : Nat) : (txt s blk n).all (·.oneCell') = true := by
  rw [Array.all_eq_true_iff_forall_mem]
  intro v hv
  have hv' : v ∈ txL s blk n := by simpa [txt] using hv
  unfold txL at hv'
  simp only [List.mem_append, List.mem_map, List.mem_singleton] at hv'
  rcases hv' with ⟨x, _, rfl⟩ | ⟨x, _, rfl⟩ | rfl <;> rfl

theorem stL_len (s : St) : (s.list.map fun x : Nat => Value.int .u32 (x : Int)).length = 8 := by simp [St.list]

theorem txt_last (s : St) (blk : List UInt8) (n : Nat) (h : blk.length = 64) : (txt s blk n)[72]? = some (.int .i64 n) := by
  simp only [txt, List.getElem?_toArray, txL]
  rw [List.getElem?_append_right (by rw [stL_len]; omega), stL_len, List.getElem?_append_right (by simp [h]), List.length_map, h]
  rfl

theorem set_last (a b : List Value) (c d : Value) (k : Nat) (h : a.length + b.length = k) : (a ++ (b ++ [c])).set k d = a ++ (b ++ [d]) := by
  subst h
  rw [List.set_append_right _ _ (by omega), show a.length + b.length - a.length = b.length by omega, List.set_append_right _ _ (by omega), Nat.sub_self]
  rfl

theorem txt_set (s : St) (blk : List UInt8) (n m : Nat) (h : blk.length = 64) : (txt s blk n).setIfInBounds 72 (.int .i64 m) = txt s blk m := by
  apply Array.ext'
  rw [Array.toList_setIfInBounds]
  exact set_last _ _ _ _ 72 (by rw [stL_len, List.length_map, h])

theorem txt_state (s : St) (blk : List UInt8) (n : Nat) : (txt s blk n).extract 0 (0 + 8) = nuA s.list := by
  apply Array.ext'
  simp only [txt, txL, nuA, List.extract_toArray, List.extract_eq_take_drop]
  simp [St.list]

theorem txt_block (s : St) (blk : List UInt8) (n : Nat) (h : blk.length = 64) : (txt s blk n).extract 8 (8 + 64) = byA blk := by
  apply Array.ext'
  simp only [txt, txL, byA, List.extract_toArray, List.extract_eq_take_drop]
  rw [List.drop_append_of_le_length (by rw [stL_len]; omega), List.drop_of_length_le (by rw [stL_len]; omega), List.nil_append, List.take_append_of_le_length (by simp [h])]
  rw [List.take_of_length_le (by simp [h])]

theorem txt_lay_state (s r : St) (blk : List UInt8) (n : Nat) : laidOver (txt s blk n) 0 (nuA r.list).toList = txt r blk n := by
  apply Array.ext'
  simp only [laidOver, txt, nuA, txL, List.take_zero, List.nil_append, Nat.zero_add]
  simp [St.list]

/-- The block with some bytes laid over it. -/
def blkOver (blk : List UInt8) (q : Nat) (x : List UInt8) : List UInt8 := blk.take q ++ x ++ blk.drop (q + x.length)
theorem blkOver_len (blk : List UInt8) (q : Nat) (x : List UInt8) (h : q + x.length ≤ blk.length) : (blkOver blk q x).length = blk.length := by
  simp [blkOver]; omega

theorem txt_lay_block (s : St) (blk : List UInt8) (n q : Nat) (x : List UInt8) (h : blk.length = 64) (hq : q + x.length ≤ 64) :
    laidOver (txt s blk n) (8 + q) (x.map fun c : UInt8 => Value.int .u8 (c.toNat : Int)) = txt s (blkOver blk q x) n := by
  apply Array.ext'
  have e1 : ((txL s blk n).take (8 + q)) = (s.list.map fun x : Nat => Value.int .u32 (x : Int)) ++ (blk.take q).map fun c : UInt8 => Value.int .u8 (c.toNat : Int) := by
    unfold txL
    have h8 := stL_len s
    rw [List.take_append, h8, List.take_of_length_le (by omega), show 8 + q - 8 = q by omega, List.take_append_of_le_length (by simp [h]; omega), List.map_take]
  have e2 : ((txL s blk n).drop (8 + q + x.length)) = ((blk.drop (q + x.length)).map fun c : UInt8 => Value.int .u8 (c.toNat : Int)) ++ [Value.int .i64 (n : Int)] := by
    unfold txL
    have h8 := stL_len s
    rw [List.drop_append, h8, List.drop_of_length_le (by omega), List.nil_append, show 8 + q + x.length - 8 = q + x.length by omega, List.drop_append_of_le_length (by simp [h]; omega), List.map_drop]
  simp only [laidOver, txt, List.length_map]
  rw [e1, e2]
  simp [txL, blkOver, List.append_assoc]

theorem take_over (blk : List UInt8) (q : Nat) (x : List UInt8) (h : q + x.length ≤ blk.length) : (blkOver blk q x).take (q + x.length) = blk.take q ++ x := by
  unfold blkOver
  have : (blk.take q ++ x).length = q + x.length := by simp; omega
  rw [List.take_append_of_le_length (by omega), List.take_of_length_le (by omega)]

/-- Some bytes more, the block not full. -/
theorem text_part (l x : List UInt8) (blk : List UInt8) (h : blk.length = 64) (hb : blk.take (l.length % 64) = l.drop (64 * (l.length / 64))) (hx : l.length % 64 + x.length < 64) :
    IsText (l ++ x) (txt (absorb (l.length / 64) l) (blkOver blk (l.length % 64) x) (l.length + x.length)) := by
  have e1 : (l ++ x).length = l.length + x.length := List.length_append
  have e2 : (l.length + x.length) / 64 = l.length / 64 := by omega
  have e3 : (l.length + x.length) % 64 = l.length % 64 + x.length := by omega
  refine ⟨blkOver blk (l.length % 64) x, by rw [blkOver_len _ _ _ (by omega), h], ?_, ?_⟩
  · rw [e1, e2, e3, take_over _ _ _ (by omega), hb, List.drop_append_of_le_length (by omega)]
  · rw [e1, e2, absorb_append l x _ (by omega)]

/-- Some bytes more, that fill the block. -/
theorem text_full (l x : List UInt8) (blk : List UInt8) (h : blk.length = 64) (hb : blk.take (l.length % 64) = l.drop (64 * (l.length / 64))) (hx : l.length % 64 + x.length = 64) :
    IsText (l ++ x) (txt (proc (absorb (l.length / 64) l) (blkOver blk (l.length % 64) x)) (blkOver blk (l.length % 64) x) (l.length + x.length)) := by
  have e1 : (l ++ x).length = l.length + x.length := List.length_append
  have e2 : (l.length + x.length) / 64 = l.length / 64 + 1 := by omega
  have e3 : (l.length + x.length) % 64 = 0 := by omega
  have e4 : blkOver blk (l.length % 64) x = l.drop (64 * (l.length / 64)) ++ x := by
    have := take_over blk (l.length % 64) x (by omega)
    rw [hx, List.take_of_length_le (by rw [blkOver_len _ _ _ (by omega)]; omega), hb] at this
    exact this
  refine ⟨blkOver blk (l.length % 64) x, by rw [blkOver_len _ _ _ (by omega), h], ?_, ?_⟩
  · rw [e1, e2, e3, List.take_zero, List.drop_of_length_le (by rw [e1]; omega)]
  · rw [e1, e2]
    simp only [absorb]
    rw [absorb_append l x _ (by omega), List.drop_append_of_le_length (by omega), ← e4, List.take_of_length_le (by rw [blkOver_len _ _ _ (by omega)]; omega)]

theorem text_empty : IsText [] (txt stH (List.replicate 64 0) 0) := ⟨List.replicate 64 0, by simp, by simp, rfl⟩

theorem infoTx : (Tryd.prog.info? 53).map (·.size) = some 73 := by kernel_rfl
theorem infoFp : (Tryd.prog.info? 24).map (·.size) = some 32 := by kernel_rfl

theorem isText_size {l : List UInt8} {T : Array Value} (h : IsText l T) : T.size = 73 := by
  obtain ⟨blk, h1, _, rfl⟩ := h
  exact txt_size _ _ _ h1
theorem isText_one {l : List UInt8} {T : Array Value} (h : IsText l T) : T.all (·.oneCell') = true := by
  obtain ⟨blk, h1, _, rfl⟩ := h
  exact txt_one _ _ _
theorem isText_len {l : List UInt8} {T : Array Value} (h : IsText l T) : T[72]? = some (.int .i64 l.length) := by
  obtain ⟨blk, h1, _, rfl⟩ := h
  exact txt_last _ _ _ h1
theorem isText_state {l : List UInt8} {T : Array Value} (h : IsText l T) : T.extract 0 (0 + 8) = nuA (absorb (l.length / 64) l).list := by
  obtain ⟨blk, h1, _, rfl⟩ := h
  exact txt_state _ _ _
theorem isText_info {l : List UInt8} {T : Array Value} (h : IsText l T) : (Tryd.prog.info? 53).map (·.size) = some T.size := by
  rw [isText_size h]; exact infoTx

end Go.Proofs.YtepcnedagmfpeaaDoor
