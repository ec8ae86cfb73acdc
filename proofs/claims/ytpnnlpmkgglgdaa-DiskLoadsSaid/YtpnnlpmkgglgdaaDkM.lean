/- Disks as the document says them: the mathematics of stage 9, of no program. -/
import Derived.Test.YtpnnlpmkgglgdaaPlain
namespace Go.Proofs.Ytpnnlpmkgglgdaa

/-- Sectors that stand, writes that wait, the fuse (below 0: none), how many operations there were, and whether it is down. -/
structure Dk where
  stands : List (List UInt8)
  waits : List (Nat × List UInt8)
  fuse : Int
  ops : Nat
  down : Bool

/-- What holds of every disk. -/
structure Dk.ok (s : Dk) : Prop where
  sect : ∀ l ∈ s.stands, l.length = 128
  pos : 1 ≤ s.stands.length
  most : s.stands.length ≤ 8192
  wait : ∀ p ∈ s.waits, p.1 < s.stands.length ∧ p.2.length = 128
  few : s.waits.length ≤ s.ops
  fz : -9223372036854775808 ≤ s.fuse ∧ s.fuse ≤ 9223372036854775807

/-- What reads of a sector: the last write of it that waits, or what stands. -/
def visK (i : Nat) (t : List UInt8) (ws : List (Nat × List UInt8)) : List UInt8 := ws.foldl (fun t p => if p.1 = i then p.2 else t) t
def Dk.vis (s : Dk) (i : Nat) : List UInt8 := visK i (s.stands.getD i []) s.waits

theorem visK_snoc (i : Nat) (t : List UInt8) (ws : List (Nat × List UInt8)) (p : Nat × List UInt8) : visK i t (ws ++ [p]) = if p.1 = i then p.2 else visK i t ws := by
  unfold visK; rw [List.foldl_append]; rfl

def Dk.out (s : Dk) (i : Int) : Prop := i < 0 ∨ (s.stands.length : Int) ≤ i
instance (s : Dk) (i : Int) : Decidable (s.out i) := by unfold Dk.out; infer_instance

def Dk.readE (s : Dk) (i : Int) : Int := if s.down = true then 90 else if s.out i then 5 else 0
def Dk.readT (s : Dk) (i : Int) : List UInt8 := if s.down = true ∨ s.out i then [] else s.vis i.toNat

/-- An operation begins. -/
def Dk.cut (s : Dk) : Dk := { s with ops := s.ops + 1, down := s.down || s.fuse == 0, fuse := if 0 < s.fuse then s.fuse - 1 else s.fuse }

def Dk.bad (s : Dk) (i : Int) (t : List UInt8) : Prop := s.down = true ∨ s.out i ∨ t.length ≠ 128
instance (s : Dk) (i : Int) (t : List UInt8) : Decidable (s.bad i t) := by unfold Dk.bad; infer_instance
def Dk.writeE (s : Dk) (i : Int) (t : List UInt8) : Int := if s.down = true then 90 else if s.out i then 5 else if t.length ≠ 128 then 1 else if s.fuse = 0 then 90 else 0
def Dk.writeS (s : Dk) (i : Int) (t : List UInt8) : Dk := if s.bad i t then s else ({ s with waits := s.waits ++ [(i.toNat, t)] } : Dk).cut

/-- What stands behind k of the writes that wait, of those that are kept. -/
def standK (keep : Nat → Bool) (st : List (List UInt8)) (ws : List (Nat × List UInt8)) : Nat → List (List UInt8)
  | 0 => st
  | k + 1 => if keep k = true then (standK keep st ws k).set (ws.getD k (0, [])).1 (ws.getD k (0, [])).2 else standK keep st ws k
def Dk.stand (s : Dk) (keep : Nat → Bool) : Dk := { s with stands := standK keep s.stands s.waits s.waits.length, waits := [] }
def keepL (l : List Bool) (k : Nat) : Bool := l.getD k false
def keepAll (_ : Nat) : Bool := true

def Dk.flushE (s : Dk) : Int := if s.down = true then 90 else if s.fuse = 0 then 90 else 0
def Dk.flushS (s : Dk) : Dk := if s.down = true then s else if s.fuse = 0 then s.cut else s.cut.stand keepAll
def Dk.powerS (s : Dk) (l : List Bool) : Dk := { s.stand (keepL l) with fuse := -1, down := false }

def Dk.image (s : Dk) : List UInt8 := s.stands.flatten
/-- Bytes, cut into sectors. -/
def secs (l : List UInt8) : List (List UInt8) := (List.range (l.length / 128)).map fun i => (l.drop (128 * i)).take 128
/-- Bytes from a place on, exclusive or. -/
def xorAt (l : List UInt8) (a : Nat) (b : List UInt8) : List UInt8 := (List.range l.length).map fun i => if a ≤ i ∧ i < a + b.length then l.getD i 0 ^^^ b.getD (i - a) 0 else l.getD i 0
def Dk.off (s : Dk) (a : Int) (b : List UInt8) : Prop := a < 0 ∨ (s.image.length : Int) < a + b.length
instance (s : Dk) (a : Int) (b : List UInt8) : Decidable (s.off a b) := by unfold Dk.off; infer_instance
def Dk.spoilE (s : Dk) (a : Int) (b : List UInt8) : Int := if s.off a b then 5 else 0
def Dk.spoilS (s : Dk) (a : Int) (b : List UInt8) : Dk := if s.off a b then s else { s with stands := secs (xorAt s.image a.toNat b) }

/-- New disks. -/
def Dk.new (n : Nat) : Dk := ⟨List.replicate n (List.replicate 128 0), [], -1, 0, false⟩
def Dk.load (l : List UInt8) : Dk := ⟨secs l, [], -1, 0, false⟩

/-! ### What holds stays -/
theorem standK_len (keep : Nat → Bool) (st : List (List UInt8)) (ws : List (Nat × List UInt8)) : ∀ k, (standK keep st ws k).length = st.length
  | 0 => rfl
  | k + 1 => by
    unfold standK
    split
    · rw [List.length_set, standK_len keep st ws k]
    · exact standK_len keep st ws k

theorem standK_sect (keep : Nat → Bool) (st : List (List UInt8)) (ws : List (Nat × List UInt8)) (h : ∀ l ∈ st, l.length = 128) (hw : ∀ p ∈ ws, p.2.length = 128) : ∀ k, k ≤ ws.length → ∀ l ∈ standK keep st ws k, l.length = 128
  | 0, _ => h
  | k + 1, hk => by
    have ih := standK_sect keep st ws h hw k (by omega)
    unfold standK
    split
    · intro l hl
      rcases List.mem_or_eq_of_mem_set hl with e | e
      · exact ih l e
      · rw [e, List.getD_eq_getElem?_getD, List.getElem?_eq_getElem (by omega)]
        exact hw _ (List.getElem_mem (by omega))
    · exact ih

theorem Dk.ok.cut {s : Dk} (h : s.ok) : s.cut.ok := by
  refine ⟨h.sect, h.pos, h.most, h.wait, Nat.le_succ_of_le h.few, ?_⟩
  have := h.fz
  show -9223372036854775808 ≤ (if 0 < s.fuse then s.fuse - 1 else s.fuse) ∧ (if 0 < s.fuse then s.fuse - 1 else s.fuse) ≤ 9223372036854775807
  split <;> omega

theorem Dk.ok.stand {s : Dk} (h : s.ok) (keep : Nat → Bool) : (s.stand keep).ok := by
  have hl := standK_len keep s.stands s.waits s.waits.length
  exact ⟨standK_sect keep s.stands s.waits h.sect (fun p hp => (h.wait p hp).2) _ (Nat.le_refl _), by show 1 ≤ (standK keep s.stands s.waits s.waits.length).length; rw [hl]; exact h.pos, by show (standK keep s.stands s.waits s.waits.length).length ≤ 8192; rw [hl]; exact h.most, fun p hp => (by cases hp), Nat.zero_le _, h.fz⟩

theorem Dk.ok.write {s : Dk} (h : s.ok) (i : Int) (t : List UInt8) : (s.writeS i t).ok := by
  unfold Dk.writeS
  split
  · exact h
  · rename_i hb
    unfold Dk.bad Dk.out at hb
    have hc : i.toNat < s.stands.length := by omega
    have ht : t.length = 128 := Decidable.byContradiction fun x => hb (Or.inr (Or.inr x))
    refine ⟨h.sect, h.pos, h.most, fun p hp => ?_, ?_, ?_⟩
    · rcases List.mem_append.1 hp with e | e
      · exact h.wait p e
      · rw [List.mem_singleton.1 e]; exact ⟨hc, ht⟩
    · show (s.waits ++ [(i.toNat, t)]).length ≤ s.ops + 1
      rw [List.length_append]; have := h.few; simp; omega
    · have := h.fz
      show -9223372036854775808 ≤ (if 0 < s.fuse then s.fuse - 1 else s.fuse) ∧ (if 0 < s.fuse then s.fuse - 1 else s.fuse) ≤ 9223372036854775807
      split <;> omega

theorem Dk.ok.flush {s : Dk} (h : s.ok) : s.flushS.ok := by
  unfold Dk.flushS
  split
  · exact h
  · split
    · exact h.cut
    · exact h.cut.stand _

theorem Dk.ok.power {s : Dk} (h : s.ok) (l : List Bool) : (s.powerS l).ok := by
  have := h.stand (keepL l)
  exact ⟨this.sect, this.pos, this.most, this.wait, this.few, by show -9223372036854775808 ≤ (-1 : Int) ∧ (-1 : Int) ≤ 9223372036854775807; omega⟩

theorem secs_len (l : List UInt8) : (secs l).length = l.length / 128 := by simp [secs]
theorem secs_sect (l : List UInt8) : ∀ x ∈ secs l, x.length = 128 := by
  intro x hx
  obtain ⟨i, hi, rfl⟩ := List.mem_map.1 hx
  rw [List.mem_range] at hi
  rw [List.length_take, List.length_drop]
  omega

theorem flat_len (L : List (List UInt8)) (h : ∀ l ∈ L, l.length = 128) : L.flatten.length = 128 * L.length := by
  induction L with
  | nil => rfl
  | cons a L ih =>
    rw [List.flatten_cons, List.length_append, h a (List.mem_cons_self ..), ih (fun l hl => h l (List.mem_cons_of_mem _ hl)), List.length_cons]
    omega

theorem xorAt_len (l : List UInt8) (a : Nat) (b : List UInt8) : (xorAt l a b).length = l.length := by simp [xorAt]

theorem Dk.ok.image_len {s : Dk} (h : s.ok) : s.image.length = 128 * s.stands.length := flat_len _ h.sect

theorem Dk.ok.spoil {s : Dk} (h : s.ok) (a : Int) (b : List UInt8) : (s.spoilS a b).ok := by
  unfold Dk.spoilS
  split
  · exact h
  · have hl : (secs (xorAt s.image a.toNat b)).length = s.stands.length := by rw [secs_len, xorAt_len, h.image_len]; omega
    exact ⟨secs_sect _, by show 1 ≤ (secs _).length; rw [hl]; exact h.pos, by show (secs _).length ≤ 8192; rw [hl]; exact h.most, fun p hp => by show p.1 < (secs _).length ∧ _; rw [hl]; exact h.wait p hp, h.few, h.fz⟩

theorem Dk.ok.new {n : Nat} (h1 : 1 ≤ n) (h2 : n ≤ 8192) : (Dk.new n).ok :=
  ⟨fun l hl => by rw [List.eq_of_mem_replicate hl]; simp, by show 1 ≤ (List.replicate n _).length; simpa using h1, by show (List.replicate n _).length ≤ 8192; simpa using h2, fun p hp => (by cases hp), Nat.zero_le _, by show -9223372036854775808 ≤ (-1 : Int) ∧ (-1 : Int) ≤ 9223372036854775807; omega⟩

/-- Images that are disks. -/
def loadOk (l : List UInt8) : Prop := 128 ≤ l.length ∧ l.length % 128 = 0 ∧ l.length ≤ 1048576
instance (l : List UInt8) : Decidable (loadOk l) := by unfold loadOk; infer_instance

theorem Dk.ok.load {l : List UInt8} (h : loadOk l) : (Dk.load l).ok := by
  obtain ⟨h1, h2, h3⟩ := h
  exact ⟨secs_sect _, by show 1 ≤ (secs l).length; rw [secs_len]; omega, by show (secs l).length ≤ 8192; rw [secs_len]; omega, fun p hp => (by cases hp), Nat.zero_le _, by show -9223372036854775808 ≤ (-1 : Int) ∧ (-1 : Int) ≤ 9223372036854775807; omega⟩

/-- The sectors of an image, put together. -/
theorem secs_join (l : List UInt8) (h : l.length % 128 = 0) : (secs l).flatten = l := by
  suffices ∀ n (l : List UInt8), l.length = 128 * n → ((List.range n).map fun i => (l.drop (128 * i)).take 128).flatten = l by
    have := this (l.length / 128) l (by omega)
    exact this
  intro n
  induction n with
  | zero => intro l hl; rw [List.length_eq_zero_iff.1 (by omega : l.length = 0)]; rfl
  | succ n ih =>
    intro l hl
    rw [List.range_succ_eq_map, List.map_cons, List.map_map, List.flatten_cons]
    have e : ((List.range n).map ((fun i => (l.drop (128 * i)).take 128) ∘ Nat.succ)) = (List.range n).map fun i => ((l.drop 128).drop (128 * i)).take 128 := by
      apply List.map_congr_left
      intro i _
      simp only [Function.comp, List.drop_drop]
      rw [show 128 + 128 * i = 128 * i.succ by omega]
    rw [e, ih (l.drop 128) (by rw [List.length_drop]; omega), Nat.mul_zero, List.drop_zero, List.take_append_drop]

theorem Dk.load_image {l : List UInt8} (h : loadOk l) : (Dk.load l).image = l := secs_join l h.2.1

/-- A sector of an image. -/
theorem secs_get (l : List UInt8) (i : Nat) (h : i < l.length / 128) : (secs l).getD i [] = (l.drop (128 * i)).take 128 := by
  unfold secs
  rw [List.getD_eq_getElem?_getD, List.getElem?_map, List.getElem?_range h]
  rfl

/-- A sector of what stands, in the image. -/
theorem flat_sect : ∀ (L : List (List UInt8)), (∀ l ∈ L, l.length = 128) → ∀ i (h : i < L.length), (L.flatten.drop (128 * i)).take 128 = L[i]
  | [], _, i, h => by simp at h
  | a :: L, hL, 0, _ => by
    rw [Nat.mul_zero, List.drop_zero, List.flatten_cons, List.take_left' (hL a (List.mem_cons_self ..))]; rfl
  | a :: L, hL, i + 1, h => by
    rw [List.flatten_cons, show 128 * (i + 1) = 128 + 128 * i by omega, ← List.drop_drop, List.drop_left' (hL a (List.mem_cons_self ..)), flat_sect L (fun l hl => hL l (List.mem_cons_of_mem _ hl)) i (by simpa using h)]
    rfl

/-- What a text of 128 bytes begins with. -/
def secT (l : List UInt8) : List UInt8 := (l ++ List.replicate (128 - l.length) 45).take 128
theorem secT_len (l : List UInt8) : (secT l).length = 128 := by
  unfold secT; rw [List.length_take, List.length_append, List.length_replicate]; omega

end Go.Proofs.Ytpnnlpmkgglgdaa
