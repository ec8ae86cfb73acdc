/- Disks as the document says them: the mathematics of stage 9, of no program. Bytes in runs of sectors, as the document says it: the mathematics of stage 12, of no program. -/
import Derived.Test.YtoigembmbajopaaDoorGA
namespace Go.Proofs.YtoigembmbajopaaDoor

/-- Sectors that stand, writes that wait, the fuse (below 0: none), how many operations there were, and whether it is down. -/
structure Dk where
  stands : List (List UInt8)
  waits : List (Nat × List UInt8)
  fuse : Int
  ops : Nat
  down : Bool

/-- What holds of every disk. -/
structure Dk.ok (s : Dk) : Prop where
  sect : ∀ l ∈ s.stands, l.length = 128
  pos : 1 ≤ s.stands.length
  most : s.stands.length ≤ 8192
  wait : ∀ p ∈ s.waits, p.1 < s.stands.length ∧ p.2.length = 128
  few : s.waits.length ≤ s.ops
  fz : -9223372036854775808 ≤ s.fuse ∧ s.fuse ≤ 9223372036854775807

/-- What reads of a sector: the last write of it that waits, or what stands. -/
def visK (i : Nat) (t : List UInt8) (ws : List (Nat × List UInt8)) : List UInt8 := ws.foldl (fun t p => if p.1 = i then p.2 else t) t
def Dk.vis (s : Dk) (i : Nat) : List UInt8 := visK i (s.stands.getD i []) s.waits

theorem visK_snoc (i : Nat) (t : List UInt8) (ws : List (Nat × List UInt8)) (p : Nat × List UInt8) : visK i t (ws ++ [p]) = if p.1 = i then p.2 else visK i t ws := by
  unfold visK; rw [List.foldl_append]; rfl

def Dk.out (s : Dk) (i : Int) : Prop := i < 0 ∨ (s.stands.length : Int) ≤ i
instance (s : Dk) (i : Int) : Decidable (s.out i) := by unfold Dk.out; infer_instance

def Dk.readE (s : Dk) (i : Int) : Int := if s.down = true then 90 else if s.out i then 5 else 0
def Dk.readT (s : Dk) (i : Int) : List UInt8 := if s.down = true ∨ s.out i then [] else s.vis i.toNat

/-- An operation begins. -/
def Dk.cut (s : Dk) : Dk := { s with ops := s.ops + 1, down := s.down || s.fuse == 0, fuse := if 0 < s.fuse then s.fuse - 1 else s.fuse }

def Dk.bad (s : Dk) (i : Int) (t : List UInt8) : Prop := s.down = true ∨ s.out i ∨ t.length ≠ 128
instance (s : Dk) (i : Int) (t : List UInt8) : Decidable (s.bad i t) := by unfold Dk.bad; infer_instance
def Dk.writeE (s : Dk) (i : Int) (t : List UInt8) : Int := if s.down = true then 90 else if s.out i then 5 else if t.length ≠ 128 then 1 else if s.fuse = 0 then 90 else 0
def Dk.writeS (s : Dk) (i : Int) (t : List UInt8) : Dk := if s.bad i t then s else ({ s with waits := s.waits ++ [(i.toNat, t)] } : Dk).cut

/-- What stands behind k of the writes that wait, of those that are kept. -/
def standK (keep : Nat → Bool) (st : List (List UInt8)) (ws : List (Nat × List UInt8)) : Nat → List (List UInt8)
  | 0 => st
  | k + 1 => if keep k = true then (standK keep st ws k).set (ws.getD k (0, [])).1 (ws.getD k (0, [])).2 else standK keep st ws k
def Dk.stand (s : Dk) (keep : Nat → Bool) : Dk := { s with stands := standK keep s.stands s.waits s.waits.length, waits := [] }
def keepL (l : List Bool) (k : Nat) : Bool := l.getD k false
def keepAll (_ : Nat) : Bool := true

def Dk.flushE (s : Dk) : Int := if s.down = true then 90 else if s.fuse = 0 then 90 else 0
def Dk.flushS (s : Dk) : Dk := if s.down = true then s else if s.fuse = 0 then s.cut else s.cut.stand keepAll
def Dk.powerS (s : Dk) (l : List Bool) : Dk := { s.stand (keepL l) with fuse := -1, down := false }

def Dk.image (s : Dk) : List UInt8 := s.stands.flatten
/-- Bytes, cut into sectors. -/
def secs (l : List UInt8) : List (List UInt8) := (List.range (l.length / 128)).map fun i => (l.drop (128 * i)).take 128
/-- Bytes from a place on, exclusive or. -/
def xorAt (l : List UInt8) (a : Nat) (b : List UInt8) : List UInt8 := (List.range l.length).map fun i => if a ≤ i ∧ i < a + b.length then l.getD i 0 ^^^ b.getD (i - a) 0 else l.getD i 0
def Dk.off (s : Dk) (a : Int) (b : List UInt8) : Prop := a < 0 ∨ (s.image.length : Int) < a + b.length
instance (s : Dk) (a : Int) (b : List UInt8) : Decidable (s.off a b) := by unfold Dk.off; infer_instance
def Dk.spoilE (s : Dk) (a : Int) (b : List UInt8) : Int := if s.off a b then 5 else 0
def Dk.spoilS (s : Dk) (a : Int) (b : List UInt8) : Dk := if s.off a b then s else { s with stands := secs (xorAt s.image a.toNat b) }

/-- New disks. -/
def Dk.new (n : Nat) : Dk := ⟨List.replicate n (List.replicate 128 0), [], -1, 0, false⟩
def Dk.load (l : List UInt8) : Dk := ⟨secs l, [], -1, 0, false⟩

/-! ### What holds stays -/
theorem standK_len (keep : Nat → Bool) (st : List (List UInt8)) (ws : List (Nat × List UInt8)) : ∀ k, (standK keep st ws k).length = st.length
  | 0 => rfl
  | k + 1 => by
    unfold standK
    split
    · rw [List.length_set, standK_len keep st ws k]
    · exact standK_len keep st ws k

theorem standK_sect (keep : Nat → Bool) (st : List (List UInt8)) (ws : List (Nat × List UInt8)) (h : ∀ l ∈ st, l.length = 128) (hw : ∀ p ∈ ws, p.2.length = 128) : ∀ k, k ≤ ws.length → ∀ l ∈ standK keep st ws k, l.length = 128
  | 0, _ => h
  | k + 1, hk => by
    have ih := standK_sect keep st ws h hw k (by omega)
    unfold standK
    split
    · intro l hl
      rcases List.mem_or_eq_of_mem_set hl with e | e
      · exact ih l e
      · rw [e, List.getD_eq_getElem?_getD, List.getElem?_eq_getElem (by omega)]
        exact hw _ (List.getElem_mem (by omega))
    · exact ih

theorem Dk.ok.cut {s : Dk} (h : s.ok) : s.cut.ok := by
  refine ⟨h.sect, h.pos, h.most, h.wait, Nat.le_succ_of_le h.few, ?_⟩
  have := h.fz
  show -9223372036854775808 ≤ (if 0 < s.fuse then s.fuse - 1 else s.fuse) ∧ (if 0 < s.fuse then s.fuse - 1 else s.fuse) ≤ 9223372036854775807
  split <;> omega

theorem Dk.ok.stand {s : Dk} (h : s.ok) (keep : Nat → Bool) : (s.stand keep).ok := by
  have hl := standK_len keep s.stands s.waits s.waits.length
  exact ⟨standK_sect keep s.stands s.waits h.sect (fun p hp => (h.wait p hp).2) _ (Nat.le_refl _), by show 1 ≤ (standK keep s.stands s.waits s.waits.length).length; rw [hl]; exact h.pos, by show (standK keep s.stands s.waits s.waits.length).length ≤ 8192; rw [hl]; exact h.most, fun p hp => (by cases hp), Nat.zero_le _, h.fz⟩

theorem Dk.ok.write {s : Dk} (h : s.ok) (i : Int) (t : List UInt8) : (s.writeS i t).ok := by
  unfold Dk.writeS
  split
  · exact h
  · rename_i hb
    unfold Dk.bad Dk.out at hb
    have hc : i.toNat < s.stands.length := by omega
    have ht : t.length = 128 := Decidable.byContradiction fun x => hb (Or.inr (Or.inr x))
    refine ⟨h.sect, h.pos, h.most, fun p hp => ?_, ?_, ?_⟩
    · rcases List.mem_append.1 hp with e | e
      · exact h.wait p e
      · rw [List.mem_singleton.1 e]; exact ⟨hc, ht⟩
    · show (s.waits ++ [(i.toNat, t)]).length ≤ s.ops + 1
      rw [List.length_append]; have := h.few; simp; omega
    · have := h.fz
      show -9223372036854775808 ≤ (if 0 < s.fuse then s.fuse - 1 else s.fuse) ∧ (if 0 < s.fuse then s.fuse - 1 else s.fuse) ≤ 9223372036854775807
      split <;> omega

theorem Dk.ok.flush {s : Dk} (h : s.ok) : s.flushS.ok := by
  unfold Dk.flushS
  split
  · exact h
  · split
    · exact h.cut
    · exact h.cut.stand _

theorem Dk.ok.power {s : Dk} (h : s.ok) (l : List Bool) : (s.powerS l).ok := by
  have := h.stand (keepL l)
  exact ⟨this.sect, this.pos, this.most, this.wait, this.few, by show -9223372036854775808 ≤ (-1 : Int) ∧ (-1 : Int) ≤ 9223372036854775807; omega⟩

theorem secs_len (l : List UInt8) : (secs l).length = l.length / 128 := by simp [secs]
theorem secs_sect (l : List UInt8) : ∀ x ∈ secs l, x.length = 128 := by
  intro x hx
  obtain ⟨i, hi, rfl⟩ := List.mem_map.1 hx
  rw [List.mem_range] at hi
  rw [List.length_take, List.length_drop]
  omega

theorem flat_len (L : List (List UInt8)) (h : ∀ l ∈ L, l.length = 128) : L.flatten.length = 128 * L.length := by
  induction L with
  | nil => rfl
  | cons a L ih =>
    rw [List.flatten_cons, List.length_append, h a (List.mem_cons_self ..), ih (fun l hl => h l (List.mem_cons_of_mem _ hl)), List.length_cons]
    omega

theorem xorAt_len (l : List UInt8) (a : Nat) (b : List UInt8) : (xorAt l a b).length = l.length := by simp [xorAt]

theorem Dk.ok.image_len {s : Dk} (h : s.ok) : s.image.length = 128 * s.stands.length := flat_len _ h.sect

theorem Dk.ok.spoil {s : Dk} (h : s.ok) (a : Int) (b : List UInt8) : (s.spoilS a b).ok := by
  unfold Dk.spoilS
  split
  · exact h
  · have hl : (secs (xorAt s.image a.toNat b)).length = s.stands.length := by rw [secs_len, xorAt_len, h.image_len]; omega
    exact ⟨secs_sect _, by show 1 ≤ (secs _).length; rw [hl]; exact h.pos, by show (secs _).length ≤ 8192; rw [hl]; exact h.most, fun p hp => by show p.1 < (secs _).length ∧ _; rw [hl]; exact h.wait p hp, h.few, h.fz⟩

theorem Dk.ok.new {n : Nat} (h1 : 1 ≤ n) (h2 : n ≤ 8192) : (Dk.new n).ok :=
  ⟨fun l hl => by rw [List.eq_of_mem_replicate hl]; simp, by show 1 ≤ (List.replicate n _).length; simpa using h1, by show (List.replicate n _).length ≤ 8192; simpa using h2, fun p hp => (by cases hp), Nat.zero_le _, by show -9223372036854775808 ≤ (-1 : Int) ∧ (-1 : Int) ≤ 9223372036854775807; omega⟩

/-- Images that are disks. -/
def loadOk (l : List UInt8) : Prop := 128 ≤ l.length ∧ l.length % 128 = 0 ∧ l.length ≤ 1048576
instance (l : List UInt8) : Decidable (loadOk l) := by unfold loadOk; infer_instance

theorem Dk.ok.load {l : List UInt8} (h : loadOk l) : (Dk.load l).ok := by
  obtain ⟨h1, h2, h3⟩ := h
  exact ⟨secs_sect _, by show 1 ≤ (secs l).length; rw [secs_len]; omega, by show (secs l).length ≤ 8192; rw [secs_len]; omega, fun p hp => (by cases hp), Nat.zero_le _, by show -9223372036854775808 ≤ (-1 : Int) ∧ (-1 : Int) ≤ 9223372036854775807; omega⟩

/-- The sectors of an image, put together. -/
theorem secs_join (l : List UInt8) (h : l.length % 128 = 0) : (secs l).flatten = l := by
  suffices ∀ n (l : List UInt8), l.length = 128 * n → ((List.range n).map fun i => (l.drop (128 * i)).take 128).flatten = l by
    have := this (l.length / 128) l (by omega)
    exact this
  intro n
  induction n with
  | zero => intro l hl; rw [List.length_eq_zero_iff.1 (by omega : l.length = 0)]; rfl
  | succ n ih =>
    intro l hl
    rw [List.range_succ_eq_map, List.map_cons, List.map_map, List.flatten_cons]
    have e : ((List.range n).map ((fun i => (l.drop (128 * i)).take 128) ∘ Nat.succ)) = (List.range n).map fun i => ((l.drop 128).drop (128 * i)).take 128 := by
      apply List.map_congr_left
      intro i _
      simp only [Function.comp, List.drop_drop]
      rw [show 128 + 128 * i = 128 * i.succ by omega]
    rw [e, ih (l.drop 128) (by rw [List.length_drop]; omega), Nat.mul_zero, List.drop_zero, List.take_append_drop]

theorem Dk.load_image {l : List UInt8} (h : loadOk l) : (Dk.load l).image = l := secs_join l h.2.1

/-- A sector of an image. -/
theorem secs_get (l : List UInt8) (i : Nat) (h : i < l.length / 128) : (secs l).getD i [] = (l.drop (128 * i)).take 128 := by
  unfold secs
  rw [List.getD_eq_getElem?_getD, List.getElem?_map, List.getElem?_range h]
  rfl

/-- A sector of what stands, in the image. -/
theorem flat_sect : ∀ (L : List (List UInt8)), (∀ l ∈ L, l.length = 128) → ∀ i (h : i < L.length), (L.flatten.drop (128 * i)).take 128 = L[i]
  | [], _, i, h => by simp at h
  | a :: L, hL, 0, _ => by
    rw [Nat.mul_zero, List.drop_zero, List.flatten_cons, List.take_left' (hL a (List.mem_cons_self ..))]; rfl
  | a :: L, hL, i + 1, h => by
    rw [List.flatten_cons, show 128 * (i + 1) = 128 + 128 * i by omega, ← List.drop_drop, List.drop_left' (hL a (List.mem_cons_self ..)), flat_sect L (fun l hl => hL l (List.mem_cons_of_mem _ hl)) i (by simpa using h)]
    rfl

/-- What a text of 128 bytes begins with. -/
def secT (l : List UInt8) : List UInt8 := (l ++ List.replicate (128 - l.length) 45).take 128
theorem secT_len (l : List UInt8) : (secT l).length = 128 := by
  unfold secT; rw [List.length_take, List.length_append, List.length_replicate]; omega

end Go.Proofs.YtoigembmbajopaaDoor
namespace Go.Proofs.YtoigembmbajopaaDoor

/-- The sectors of a run; of runs, in order. -/
def secR (r : Int × Int) : List Nat := (List.range r.2.toNat).map fun k => r.1.toNat + k
def allR (l : List (Int × Int)) : List Nat := l.flatMap secR
def secsL (l : List (Int × Int)) : List Nat := if validL 0 8192 l then allR l else []
/-- Do runs fit a disk and so many bytes? -/
def fitB (l : List (Int × Int)) (n size : Int) : Prop := 0 ≤ size ∧ l.length ≤ 16 ∧ validL 0 (min n 8192) l ∧ (cntA (hasR l) : Int) = needN size
instance (l : List (Int × Int)) (n size : Int) : Decidable (fitB l n size) := by unfold fitB; infer_instance

theorem secR_len (r : Int × Int) : (secR r).length = r.2.toNat := by unfold secR; simp
theorem secR_mem (r : Int × Int) (h0 : 0 ≤ r.1) (k : Nat) : k ∈ secR r ↔ inR r k = true := by
  unfold secR
  rw [List.mem_map, inR_iff]
  constructor
  · rintro ⟨j, hj, rfl⟩
    rw [List.mem_range] at hj
    omega
  · rintro ⟨h1, h2⟩
    exact ⟨k - r.1.toNat, by rw [List.mem_range]; omega, by omega⟩
theorem validL_nonneg {n : Int} {l : List (Int × Int)} (h : validL 0 n l) : ∀ r ∈ l, 0 ≤ r.1 ∧ 1 ≤ r.2 ∧ r.1 + r.2 ≤ n := by
  intro r hr
  obtain ⟨i, hi, rfl⟩ := List.mem_iff_getElem.1 hr
  have hv := (h i hi).1
  have hd : l.getD i (0, 0) = l[i] := by rw [List.getD_eq_getElem?_getD, List.getElem?_eq_getElem hi]; rfl
  rw [hd] at hv
  exact hv
theorem validL_apart {n : Int} {l : List (Int × Int)} (h : validL 0 n l) : l.Pairwise fun a b => ∀ k : Nat, ¬ (inR a k = true ∧ inR b k = true) := by
  rw [List.pairwise_iff_getElem]
  intro i j hi hj hij k hk
  have hv := (h j hj).2 i hij
  have d1 : l.getD i (0, 0) = l[i] := by rw [List.getD_eq_getElem?_getD, List.getElem?_eq_getElem hi]; rfl
  have d2 : l.getD j (0, 0) = l[j] := by rw [List.getD_eq_getElem?_getD, List.getElem?_eq_getElem hj]; rfl
  rw [d1, d2] at hv
  unfold overR at hv
  have h1 := (inR_iff _ _).1 hk.1
  have h2 := (inR_iff _ _).1 hk.2
  omega
theorem allR_mem {l : List (Int × Int)} (h : ∀ r ∈ l, 0 ≤ r.1) (k : Nat) : k ∈ allR l ↔ hasR l k = true := by
  unfold allR
  rw [List.mem_flatMap, hasR_iff]
  exact ⟨fun ⟨r, hr, hk⟩ => ⟨r, hr, (inR_iff _ _).1 ((secR_mem r (h r hr) k).1 hk)⟩, fun ⟨r, hr, hk⟩ => ⟨r, hr, (secR_mem r (h r hr) k).2 ((inR_iff _ _).2 hk)⟩⟩
theorem allR_nodup : ∀ {l : List (Int × Int)}, (∀ r ∈ l, 0 ≤ r.1) → (l.Pairwise fun a b => ∀ k : Nat, ¬ (inR a k = true ∧ inR b k = true)) → (allR l).Nodup
  | [], _, _ => List.nodup_nil
  | r :: l, h, hp => by
    have hp2 := List.pairwise_cons.1 hp
    show (secR r ++ allR l).Nodup
    rw [List.nodup_append]
    refine ⟨?_, allR_nodup (fun s hs => h s (List.mem_cons_of_mem _ hs)) hp2.2, ?_⟩
    · unfold secR
      exact List.Pairwise.map _ (fun a b (e : a ≠ b) => by show r.1.toNat + a ≠ r.1.toNat + b; omega) List.nodup_range
    · intro a ha b hb e
      subst e
      have h1 := (secR_mem r (h r (List.mem_cons_self ..)) a).1 ha
      obtain ⟨s, hs, hk⟩ := (hasR_iff l a).1 ((allR_mem (fun s hs => h s (List.mem_cons_of_mem _ hs)) a).1 hb)
      exact hp2.1 s hs a ⟨h1, (inR_iff _ _).2 hk⟩
theorem cntA_allR : ∀ {l : List (Int × Int)}, (∀ r ∈ l, 0 ≤ r.1 ∧ 1 ≤ r.2 ∧ r.1 + r.2 ≤ 8192) → (l.Pairwise fun a b => ∀ k : Nat, ¬ (inR a k = true ∧ inR b k = true)) → cntA (hasR l) = (allR l).length
  | [], _, _ => cntF_none fun _ _ => rfl
  | r :: l, h, hp => by
    have hp2 := List.pairwise_cons.1 hp
    have nr := h r (List.mem_cons_self ..)
    have e2 : cntA (fun k => inR r k || hasR l k) = cntA (inR r) + cntA (hasR l) := cntF_or _ _ _ fun k _ hk => by
      obtain ⟨s, hs, hks⟩ := (hasR_iff l k).1 hk.2
      exact hp2.1 s hs k ⟨hk.1, (inR_iff _ _).2 hks⟩
    have e3 : cntA (inR r) = r.2.toNat := by
      have : cntA (inR r) = cntA (fun k => decide (r.1.toNat ≤ k ∧ k < (r.1 + r.2).toNat)) := cntA_congr fun k _ => by
        unfold inR; exact decide_eq_decide.2 (by omega)
      rw [this]
      unfold cntA
      rw [cntF_run]
      show min 8192 _ - min 8192 _ = _
      omega
    show cntA (fun k => inR r k || hasR l k) = (secR r ++ allR l).length
    rw [e2, e3, List.length_append, secR_len, cntA_allR (fun s hs => h s (List.mem_cons_of_mem _ hs)) hp2.2]
theorem validL_mono {n m : Int} {l : List (Int × Int)} (h : validL 0 n l) (hm : n ≤ m) : validL 0 m l := fun i hi => by
  have hv := h i hi
  refine ⟨?_, hv.2⟩
  have h1 := hv.1
  unfold fitR at h1 ⊢
  omega
theorem fitB_list {l : List (Int × Int)} {n size : Int} (h : fitB l n size) : secsL l = allR l ∧ ((allR l).length : Int) = needN size ∧ (allR l).Nodup ∧ (∀ k ∈ allR l, (k : Int) < n ∧ k < 8192) ∧ (∀ k, k ∈ allR l ↔ hasR l k = true) := by
  obtain ⟨h0, h1, h2, h3⟩ := h
  have hv := validL_mono h2 (Int.min_le_right _ _)
  have hn := validL_nonneg hv
  have hn2 := validL_nonneg h2
  have hp := validL_apart hv
  have hmem := allR_mem (l := l) (fun r hr => (hn r hr).1)
  refine ⟨if_pos hv, by rw [← cntA_allR hn hp]; exact h3, allR_nodup (fun r hr => (hn r hr).1) hp, fun k hk => ?_, hmem⟩
  obtain ⟨r, hr, hk2⟩ := (hasR_iff l k).1 ((hmem k).1 hk)
  have := hn2 r hr
  omega
theorem needN_bytes {size : Nat} {n : Nat} (h : (n : Int) = needN size) : size ≤ 128 * n ∧ 128 * n < size + 128 := by
  unfold needN at h
  split at h
  · omega
  · omega

/-- The parts of bytes, each filled to a sector. -/
def partB (t : List UInt8) (i : Nat) : List UInt8 := fillL ((t.drop (128 * i)).take 128) 128
theorem fillL_len (l : List UInt8) (n : Nat) (h : l.length ≤ n) : (fillL l n).length = n := by unfold fillL; rw [List.length_append, List.length_replicate]; omega
theorem partB_len (t : List UInt8) (i : Nat) : (partB t i).length = 128 := fillL_len _ _ (by rw [List.length_take]; omega)

/-- So many sectors are written, one behind another, till one can't be. -/
def putK (s : Dk) (l : List Nat) (t : List UInt8) : Nat → Dk
  | 0 => s
  | k + 1 => (putK s l t k).writeS (l.getD k 0 : Nat) (partB t k)
/-- The first of them, from place k on, that can't be; the disk behind it, and its error. -/
def putG (s : Dk) (l : List Nat) (t : List UInt8) : Nat → Nat → Dk × Int
  | _, 0 => (s, 0)
  | k, g + 1 => if s.writeE (l.getD k 0 : Nat) (partB t k) = 0 then putG (s.writeS (l.getD k 0 : Nat) (partB t k)) l t (k + 1) g else (s.writeS (l.getD k 0 : Nat) (partB t k), s.writeE (l.getD k 0 : Nat) (partB t k))
def bPut (s : Dk) (l : List (Int × Int)) (t : List UInt8) : Dk × Int :=
  if ¬ fitB l s.stands.length t.length then (s, 1) else if s.down = true then (s, 90) else putG s (allR l) t 0 (allR l).length
def bGet (s : Dk) (l : List (Int × Int)) (size : Int) : List UInt8 × Int :=
  if ¬ fitB l s.stands.length size then ([], 1) else if s.down = true then ([], 90) else (((allR l).flatMap s.vis).take size.toNat, 0)
def bCopy (s : Dk) (a b : List (Int × Int)) (size : Int) : Dk × Int :=
  if ¬ fitB a s.stands.length size ∨ ¬ fitB b s.stands.length size ∨ 0 < cntA (fun k => hasR a k && hasR b k) then (s, 1)
  else if s.down = true then (s, 90) else bPut s b (bGet s a size).1

theorem putG_ok : ∀ (g k : Nat) {s : Dk} (l : List Nat) (t : List UInt8), s.ok → (putG s l t k g).1.ok
  | 0, _, _, _, _, h => h
  | g + 1, k, s, l, t, h => by
    unfold putG
    split
    · exact putG_ok g (k + 1) l t (h.write _ _)
    · exact h.write _ _
theorem writeS_stands (s : Dk) (i : Int) (t : List UInt8) : (s.writeS i t).stands = s.stands := by unfold Dk.writeS; split <;> rfl
theorem writeS_ops (s : Dk) (i : Int) (t : List UInt8) : (s.writeS i t).ops ≤ s.ops + 1 := by
  unfold Dk.writeS
  split
  · omega
  · exact Nat.le_refl _
theorem putG_stands : ∀ (g k : Nat) (s : Dk) (l : List Nat) (t : List UInt8), (putG s l t k g).1.stands = s.stands
  | 0, _, _, _, _ => rfl
  | g + 1, k, s, l, t => by
    unfold putG
    split
    · rw [putG_stands g (k + 1), writeS_stands]
    · exact writeS_stands _ _ _
theorem putG_ops : ∀ (g k : Nat) (s : Dk) (l : List Nat) (t : List UInt8), (putG s l t k g).1.ops ≤ s.ops + g
  | 0, _, _, _, _ => Nat.le_refl _
  | g + 1, k, s, l, t => by
    unfold putG
    have h0 := writeS_ops s (l.getD k 0 : Nat) (partB t k)
    split
    · have := putG_ops g (k + 1) (s.writeS (l.getD k 0 : Nat) (partB t k)) l t
      omega
    · show (s.writeS (l.getD k 0 : Nat) (partB t k)).ops ≤ _
      omega

end Go.Proofs.YtoigembmbajopaaDoor
