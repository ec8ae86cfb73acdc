/- Boxes as the document says them: heads, bytes, and what is read of them; the mathematics of stage 14, of no program. -/
import Derived.Test.YtdmbebafpamgfaaDoorPlain2
import Derived.Test.YtdmbebafpamgfaaDoorCrc
namespace Go.Proofs.YtdmbebafpamgfaaDoor

/-- A head: its number, and of each slot how many bytes, and their sum. -/
structure Hd where
  id : Nat
  slots : List (Nat × Nat)
theorem Hd.ext_iff' (a b : Hd) : a = b ↔ a.id = b.id ∧ a.slots = b.slots := by
  cases a; cases b; simp
instance : DecidableEq Hd := fun a b => decidable_of_iff _ (Hd.ext_iff' a b).symm

def idOk (id : Nat) : Prop := 1 ≤ id ∧ id ≤ 4294967294
/-- Which lengths chunks may have. -/
def lensOk (l : List Nat) : Prop := (1 ≤ l.length ∧ l.length ≤ 256) ∧ (∀ x ∈ l, 1 ≤ x ∧ x ≤ 4096) ∧ l.sum ≤ 65536
instance (id : Nat) : Decidable (idOk id) := by unfold idOk; infer_instance
instance (l : List Nat) : Decidable (lensOk l) := by unfold lensOk; infer_instance
def lensH (h : Hd) : List Nat := h.slots.map Prod.fst
def goodH (h : Hd) : Prop := idOk h.id ∧ lensOk (lensH h)
instance (h : Hd) : Decidable (goodH h) := by unfold goodH; infer_instance
/-- Numbers of the machine. -/
def wfH (h : Hd) : Prop := h.id < 256 ^ 4 ∧ ∀ s ∈ h.slots, s.1 < 256 ^ 2 ∧ s.2 < 256 ^ 4
def lensC (L : List ByteArray) : List Nat := L.map ByteArray.size
/-- Which boxes may be. -/
def mayC (id : Nat) (L : List ByteArray) : Prop := idOk id ∧ lensOk (lensC L)
instance (id : Nat) (L : List ByteArray) : Decidable (mayC id L) := by unfold mayC; infer_instance

/-! ### The bytes -/
def magicX : List UInt8 := [83, 66, 79, 88]
def slotB (s : Nat × Nat) : List UInt8 := leB 2 s.1 ++ leB 4 s.2
def frontP (h : Hd) : List UInt8 := magicX ++ (leB 4 h.id ++ (leB 2 h.slots.length ++ h.slots.flatMap slotB))
def frontH (h : Hd) : List UInt8 := frontP h ++ leB 4 (moreN 0 (frontP h))
def lenH (h : Hd) : Nat := 14 + 6 * h.slots.length
def slotC (c : ByteArray) : Nat × Nat := (c.size, moreN 0 c.data.toList)
def headC (id : Nat) (L : List ByteArray) : Hd := ⟨id, L.map slotC⟩
def dataC (L : List ByteArray) : List UInt8 := L.flatMap fun c => c.data.toList
def boxB (id : Nat) (L : List ByteArray) : List UInt8 := frontH (headC id L) ++ dataC L
def sizeH (h : Hd) : Nat := if goodH h then lenH h + (lensH h).sum else 0

theorem slotB_len (s : Nat × Nat) : (slotB s).length = 6 := by unfold slotB; rw [List.length_append, leB_len, leB_len]
theorem slotsB_len : ∀ l : List (Nat × Nat), (l.flatMap slotB).length = 6 * l.length
  | [] => rfl
  | s :: l => by rw [List.flatMap_cons, List.length_append, slotB_len, slotsB_len l, List.length_cons]; omega
theorem frontP_len (h : Hd) : (frontP h).length = 10 + 6 * h.slots.length := by
  unfold frontP
  simp only [List.length_append, leB_len, slotsB_len]
  show 4 + _ = _
  omega
theorem frontH_len (h : Hd) : (frontH h).length = lenH h := by
  unfold frontH lenH
  rw [List.length_append, frontP_len, leB_len]; omega
theorem lensH_len (h : Hd) : (lensH h).length = h.slots.length := by unfold lensH; rw [List.length_map]
theorem lensH_headC (id : Nat) (L : List ByteArray) : lensH (headC id L) = lensC L := by
  unfold lensH headC lensC
  rw [List.map_map]
  rfl
theorem goodH_headC (id : Nat) (L : List ByteArray) : goodH (headC id L) ↔ mayC id L := by
  unfold goodH mayC
  rw [lensH_headC]
  rfl
theorem sumN_lt (l : List UInt8) : moreN 0 l < 256 ^ 4 := Nat.lt_of_le_of_lt (Nat.sub_le _ _) (by decide)
theorem wfH_headC {id : Nat} {L : List ByteArray} (h : mayC id L) : wfH (headC id L) := by
  refine ⟨Nat.lt_of_le_of_lt h.1.2 (by decide), fun s hs => ?_⟩
  obtain ⟨c, hc, rfl⟩ := List.mem_map.1 hs
  have := (h.2.2.1 c.size (List.mem_map.2 ⟨c, hc, rfl⟩)).2
  exact ⟨Nat.lt_of_le_of_lt this (by decide), sumN_lt _⟩
theorem dataC_len : ∀ L : List ByteArray, (dataC L).length = (lensC L).sum
  | [] => rfl
  | c :: L => by
    have ih := dataC_len L
    unfold dataC lensC at ih ⊢
    rw [List.flatMap_cons, List.length_append, ih, data_len, List.map_cons, List.sum_cons]

/-! ### A head read -/
def slotsR : Nat → RdSt → List (Nat × Nat) → List (Nat × Nat) × RdSt
  | 0, s, acc => (acc, s)
  | k + 1, s, acc => slotsR k (numR (numR s 2).2 4).2 (acc ++ [((numR s 2).1, (numR (numR s 2).2 4).1)])
def rd4 (t : List UInt8) : RdSt := (takeR (t, 0) 4).2
def idR (t : List UInt8) : Nat × RdSt := numR (rd4 t) 4
def cntR (t : List UInt8) : Nat × RdSt := numR (idR t).2 2
def slR (t : List UInt8) : List (Nat × Nat) × RdSt := slotsR (min (cntR t).1 300) (cntR t).2 []
def headR (t : List UInt8) : Hd := ⟨(idR t).1, (slR t).1⟩
def okG (t : List UInt8) : Prop := (slR t).2.2 = 0 ∧ (cntR t).1 ≤ 256 ∧ sizeH (headR t) = t.length ∧ t.take (lenH (headR t)) = frontH (headR t)
instance (t : List UInt8) : Decidable (okG t) := by unfold okG; infer_instance
/-- The head that those bytes have, if they have a right one. -/
def headG (t : List UInt8) : Option Hd := if okG t then some (headR t) else none

theorem takeR_fewB (s : RdSt) (n : Nat) : (takeR s n).1.length ≤ n := by
  unfold takeR
  split
  · exact Nat.zero_le _
  · split
    · exact Nat.zero_le _
    · split
      · exact Nat.zero_le _
      · rw [List.length_take]
        show min n s.1.length ≤ n
        omega
theorem numR_small (s : RdSt) (k : Nat) : (numR s k).1 < 256 ^ k := Nat.lt_of_lt_of_le (ofLE_lt _) (Nat.pow_le_pow_right (by omega) (takeR_fewB s k))
theorem slotsR_wf : ∀ (k : Nat) (s : RdSt) (acc : List (Nat × Nat)), (∀ x ∈ acc, x.1 < 256 ^ 2 ∧ x.2 < 256 ^ 4) → ∀ x ∈ (slotsR k s acc).1, x.1 < 256 ^ 2 ∧ x.2 < 256 ^ 4
  | 0, _, _, h => h
  | k + 1, s, acc, h => slotsR_wf k _ _ (fun x hx => by
    rcases List.mem_append.1 hx with hx | hx
    · exact h x hx
    · rw [List.mem_singleton] at hx
      subst hx
      exact ⟨numR_small _ _, numR_small _ _⟩)
theorem slotsR_len : ∀ (k : Nat) (s : RdSt) (acc : List (Nat × Nat)), (slotsR k s acc).1.length = acc.length + k
  | 0, _, _ => rfl
  | k + 1, s, acc => by
    show (slotsR k _ _).1.length = _
    rw [slotsR_len k, List.length_append]
    show acc.length + 1 + k = _
    omega
theorem slotsR_app : ∀ (l : List (Nat × Nat)) (acc : List (Nat × Nat)) (R : List UInt8), (∀ x ∈ l, x.1 < 256 ^ 2 ∧ x.2 < 256 ^ 4) → slotsR l.length (l.flatMap slotB ++ R, 0) acc = (acc ++ l, (R, 0))
  | [], acc, R, _ => by simp [slotsR]
  | x :: l, acc, R, h => by
    have hx := h x (List.mem_cons_self ..)
    have e : (x :: l).flatMap slotB ++ R = leB 2 x.1 ++ (leB 4 x.2 ++ (l.flatMap slotB ++ R)) := by
      rw [List.flatMap_cons]
      unfold slotB
      simp only [List.append_assoc]
    show slotsR l.length _ _ = _
    rw [e, numR_app]
    simp only
    rw [numR_app]
    simp only
    rw [Nat.mod_eq_of_lt hx.1, Nat.mod_eq_of_lt hx.2, slotsR_app l _ R (fun s hs => h s (List.mem_cons_of_mem _ hs)), List.append_assoc]
    rfl
theorem headR_wf (t : List UInt8) : wfH (headR t) := ⟨numR_small _ _, slotsR_wf _ _ _ (fun x hx => by cases hx)⟩
theorem headR_len (t : List UInt8) : (headR t).slots.length = min (cntR t).1 300 := by
  show (slotsR _ _ _).1.length = _
  rw [slotsR_len]
  show 0 + _ = _
  omega

theorem goodH.len {h : Hd} (g : goodH h) : 1 ≤ h.slots.length ∧ h.slots.length ≤ 256 := by
  have := g.2.1
  rw [lensH_len] at this
  exact this
theorem headR_front {h : Hd} (g : goodH h) (hw : wfH h) (D : List UInt8) : idR (frontH h ++ D) = (h.id, (leB 2 h.slots.length ++ (h.slots.flatMap slotB ++ (leB 4 (moreN 0 (frontP h)) ++ D)), 0)) ∧ cntR (frontH h ++ D) = (h.slots.length, (h.slots.flatMap slotB ++ (leB 4 (moreN 0 (frontP h)) ++ D), 0)) ∧ slR (frontH h ++ D) = (h.slots, (leB 4 (moreN 0 (frontP h)) ++ D, 0)) := by
  have e : frontH h ++ D = magicX ++ (leB 4 h.id ++ (leB 2 h.slots.length ++ (h.slots.flatMap slotB ++ (leB 4 (moreN 0 (frontP h)) ++ D)))) := by
    unfold frontH
    conv => lhs; arg 1; arg 1; unfold frontP
    simp only [List.append_assoc]
  have hl := g.len
  have e1 : rd4 (frontH h ++ D) = (leB 4 h.id ++ (leB 2 h.slots.length ++ (h.slots.flatMap slotB ++ (leB 4 (moreN 0 (frontP h)) ++ D))), 0) := by
    unfold rd4
    rw [e]
    have := takeR_app magicX (leB 4 h.id ++ (leB 2 h.slots.length ++ (h.slots.flatMap slotB ++ (leB 4 (moreN 0 (frontP h)) ++ D)))) 4 rfl
    exact congrArg Prod.snd this
  have e2 : idR (frontH h ++ D) = (h.id, (leB 2 h.slots.length ++ (h.slots.flatMap slotB ++ (leB 4 (moreN 0 (frontP h)) ++ D)), 0)) := by
    unfold idR
    rw [e1, numR_app, Nat.mod_eq_of_lt hw.1]
  have e3 : cntR (frontH h ++ D) = (h.slots.length, (h.slots.flatMap slotB ++ (leB 4 (moreN 0 (frontP h)) ++ D), 0)) := by
    unfold cntR
    rw [e2]
    simp only
    rw [numR_app, Nat.mod_eq_of_lt (show h.slots.length < 256 ^ 2 by have := hl.2; omega)]
  refine ⟨e2, e3, ?_⟩
  unfold slR
  rw [e3]
  simp only
  rw [Nat.min_eq_left (by omega), slotsR_app _ _ _ hw.2]
  rfl
theorem headR_app {h : Hd} (g : goodH h) (hw : wfH h) (D : List UInt8) : headR (frontH h ++ D) = h := by
  obtain ⟨e2, e3, e4⟩ := headR_front g hw D
  unfold headR
  rw [e2, e4]
theorem sizeH_good {h : Hd} (g : goodH h) : sizeH h = lenH h + (lensH h).sum := by unfold sizeH; rw [if_pos g]
/-- What begins with a head, and has as many bytes as it says, has that head. -/
theorem headG_app {h : Hd} (g : goodH h) (hw : wfH h) (D : List UInt8) (hD : D.length = (lensH h).sum) : headG (frontH h ++ D) = some h := by
  obtain ⟨e2, e3, e4⟩ := headR_front g hw D
  have e := headR_app g hw D
  have ok : okG (frontH h ++ D) := by
    unfold okG
    rw [e, e3, e4]
    refine ⟨rfl, g.len.2, ?_, ?_⟩
    · rw [sizeH_good g, List.length_append, frontH_len, hD]
    · exact List.take_left' (frontH_len h)
  unfold headG
  rw [if_pos ok, e]
theorem headG_ok {t : List UInt8} {h : Hd} (hg : headG t = some h) : goodH h ∧ wfH h ∧ ∃ D, t = frontH h ++ D ∧ D.length = (lensH h).sum := by
  unfold headG at hg
  split at hg
  · rename_i ok
    have e := Option.some.inj hg
    obtain ⟨-, -, h3, h4⟩ := ok
    have hw := headR_wf t
    rw [e] at h3 h4 hw
    have hl : lenH h ≤ t.length := by
      have := congrArg List.length h4
      rw [List.length_take, frontH_len] at this
      omega
    have g : goodH h := by
      refine Decidable.byContradiction fun g => ?_
      unfold sizeH at h3
      rw [if_neg g] at h3
      unfold lenH at hl
      omega
    refine ⟨g, hw, t.drop (lenH h), ?_, ?_⟩
    · rw [← h4, List.take_append_drop]
    · rw [List.length_drop, ← h3, sizeH_good g]
      omega
  · cases hg
theorem headG_iff (t : List UInt8) (h : Hd) : headG t = some h ↔ goodH h ∧ wfH h ∧ ∃ D, t = frontH h ++ D ∧ D.length = (lensH h).sum :=
  ⟨headG_ok, fun ⟨g, hw, D, e, hD⟩ => by rw [e]; exact headG_app g hw D hD⟩
theorem headG_boxB {id : Nat} {L : List ByteArray} (h : mayC id L) : headG (boxB id L) = some (headC id L) :=
  headG_app ((goodH_headC id L).2 h) (wfH_headC h) _ (by rw [dataC_len, lensH_headC])
theorem boxB_len {id : Nat} {L : List ByteArray} : (boxB id L).length = 14 + 6 * L.length + (lensC L).sum := by
  unfold boxB
  rw [List.length_append, frontH_len, dataC_len]
  unfold lenH headC
  rw [List.length_map]

/-! ### Chunks read -/
def atH (h : Hd) (k : Nat) : Nat := lenH h + ((lensH h).take k).sum
def lenK (h : Hd) (k : Nat) : Nat := (h.slots.getD k (0, 0)).1
def crcK (h : Hd) (k : Nat) : Nat := (h.slots.getD k (0, 0)).2
def partH (t : List UInt8) (h : Hd) (k : Nat) : List UInt8 := (t.drop (atH h k)).take (lenK h k)
def rightK (t : List UInt8) (h : Hd) (k : Nat) : Prop := moreN 0 (partH t h k) = crcK h k
instance (t : List UInt8) (h : Hd) (k : Nat) : Decidable (rightK t h k) := by unfold rightK; infer_instance
/-- The chunk in a slot, if head and slot are right. -/
def chunkG (t : List UInt8) (k : Int) : Option (List UInt8) :=
  match headG t with
  | none => none
  | some h => if (0 ≤ k ∧ k < h.slots.length) ∧ rightK t h k.toNat then some (partH t h k.toNat) else none
/-- All chunks, if all are right. -/
def chunksG (t : List UInt8) : Option (List (List UInt8)) :=
  match headG t with
  | none => none
  | some h => if ∀ k, k < h.slots.length → rightK t h k then some ((List.range h.slots.length).map (partH t h)) else none

theorem sum_take_le (l : List Nat) (k : Nat) : (l.take k).sum ≤ l.sum := by
  conv => rhs; rw [← List.take_append_drop k l]
  rw [List.sum_append]
  omega
theorem sum_take_next (l : List Nat) (k : Nat) (h : k < l.length) : (l.take (k + 1)).sum = (l.take k).sum + l[k] := by
  rw [List.take_succ_eq_append_getElem h, List.sum_append]
  simp
theorem lenK_get {h : Hd} {k : Nat} (hk : k < h.slots.length) : lenK h k = h.slots[k].1 := by
  unfold lenK
  rw [List.getD_eq_getElem?_getD, List.getElem?_eq_getElem hk]
  rfl
theorem crcK_get {h : Hd} {k : Nat} (hk : k < h.slots.length) : crcK h k = h.slots[k].2 := by
  unfold crcK
  rw [List.getD_eq_getElem?_getD, List.getElem?_eq_getElem hk]
  rfl
theorem atH_next {h : Hd} {k : Nat} (hk : k < h.slots.length) : atH h (k + 1) = atH h k + lenK h k := by
  unfold atH
  rw [sum_take_next _ _ (by rw [lensH_len]; exact hk), lenK_get hk]
  unfold lensH
  rw [List.getElem_map]
  omega
theorem atH_le {h : Hd} {k : Nat} (hk : k < h.slots.length) : atH h k + lenK h k ≤ lenH h + (lensH h).sum := by
  rw [← atH_next hk]
  unfold atH
  have := sum_take_le (lensH h) (k + 1)
  omega
theorem drop_sum (X : List (List UInt8)) (k : Nat) : X.flatten.drop ((X.take k).map List.length).sum = (X.drop k).flatten := by
  have e : X.flatten = (X.take k).flatten ++ (X.drop k).flatten := by rw [← List.flatten_append, List.take_append_drop]
  rw [e, List.drop_left']
  rw [List.length_flatten]
theorem dataC_flat (L : List ByteArray) : dataC L = (L.map fun c => c.data.toList).flatten := by unfold dataC; rw [List.flatMap_def]
/-- The parts of bytes that are a head and those chunks' bytes. -/
theorem partH_app {h : Hd} {L : List ByteArray} (hL : lensC L = lensH h) {k : Nat} (hk : k < L.length) : partH (frontH h ++ dataC L) h k = L[k].data.toList := by
  have hk' : k < h.slots.length := by
    have := congrArg List.length hL
    unfold lensC at this
    rw [List.length_map, lensH_len] at this
    omega
  have e1 : lenK h k = (L[k]).size := by
    rw [lenK_get hk']
    have h1 : (lensH h)[k]'(by rw [lensH_len]; exact hk') = h.slots[k].1 := by unfold lensH; rw [List.getElem_map]
    have h2 : (lensC L)[k]'(by unfold lensC; rw [List.length_map]; exact hk) = (L[k]).size := by unfold lensC; rw [List.getElem_map]
    rw [← h1, ← h2]
    congr 1
    exact hL.symm
  unfold partH atH
  rw [e1, ← List.drop_drop, List.drop_left' (frontH_len h), ← hL, dataC_flat]
  have e2 : (lensC L).take k = ((L.map fun c => c.data.toList).take k).map List.length := by
    unfold lensC
    rw [← List.map_take, ← List.map_take, List.map_map]
    exact List.map_congr_left fun c _ => (data_len c).symm
  rw [e2, drop_sum]
  have e3 : (L.map fun c => c.data.toList).drop k = L[k].data.toList :: (L.map fun c => c.data.toList).drop (k + 1) := by
    rw [List.drop_eq_getElem_cons (by rw [List.length_map]; exact hk), List.getElem_map]
  rw [e3, List.flatten_cons]
  exact List.take_left' (data_len _)
theorem headC_get (id : Nat) (L : List ByteArray) {k : Nat} (hk : k < L.length) : lenK (headC id L) k = (L[k]).size ∧ crcK (headC id L) k = moreN 0 (L[k]).data.toList := by
  have hk' : k < (headC id L).slots.length := by unfold headC; rw [List.length_map]; exact hk
  rw [lenK_get hk', crcK_get hk']
  have e : (headC id L).slots[k] = slotC L[k] := List.getElem_map ..
  rw [e]
  exact ⟨rfl, rfl⟩
theorem headC_len (id : Nat) (L : List ByteArray) : (headC id L).slots.length = L.length := by unfold headC; rw [List.length_map]
theorem lens_set {L : List ByteArray} {k : Nat} (hk : k < L.length) {c : ByteArray} (hc : c.size = (L[k]).size) : lensC (L.set k c) = lensC L := by
  unfold lensC
  rw [List.map_set, hc]
  refine List.ext_getElem (by rw [List.length_set]) fun i h1 h2 => ?_
  rw [List.getElem_set]
  split
  · rename_i h; subst h; rw [List.getElem_map]
  · rfl
/-- A box with some bytes of one chunk changed: its head, and its chunks. -/
theorem chunkG_spoilt {id : Nat} {L : List ByteArray} (h : mayC id L) {k : Nat} (hk : k < L.length) {c : ByteArray} (hc : c.size = (L[k]).size) {i : Nat} (hi : i < L.length) :
    chunkG (frontH (headC id L) ++ dataC (L.set k c)) i = if moreN 0 ((L.set k c)[i]'(by rw [List.length_set]; exact hi)).data.toList = moreN 0 (L[i]).data.toList then some ((L.set k c)[i]'(by rw [List.length_set]; exact hi)).data.toList else none := by
  have hl := lens_set hk hc
  have hg : headG (frontH (headC id L) ++ dataC (L.set k c)) = some (headC id L) := headG_app ((goodH_headC id L).2 h) (wfH_headC h) _ (by rw [dataC_len, lensH_headC, hl])
  have hp := partH_app (h := headC id L) (L := L.set k c) (by rw [hl, lensH_headC]) (k := i) (by rw [List.length_set]; exact hi)
  unfold chunkG
  rw [hg]
  simp only [Int.toNat_natCast]
  have hr : rightK (frontH (headC id L) ++ dataC (L.set k c)) (headC id L) i ↔ moreN 0 ((L.set k c)[i]'(by rw [List.length_set]; exact hi)).data.toList = moreN 0 (L[i]).data.toList := by
    unfold rightK
    rw [hp, (headC_get id L hi).2]
  have hn := headC_len id L
  by_cases e : moreN 0 ((L.set k c)[i]'(by rw [List.length_set]; exact hi)).data.toList = moreN 0 (L[i]).data.toList
  · rw [if_pos ⟨⟨by omega, by omega⟩, hr.2 e⟩, if_pos e, hp]
  · rw [if_neg (fun h => e (hr.1 h.2)), if_neg e]
theorem chunkG_boxB {id : Nat} {L : List ByteArray} (h : mayC id L) {i : Nat} (hi : i < L.length) : chunkG (boxB id L) i = some (L[i]).data.toList := by
  have hp := partH_app (h := headC id L) (L := L) (lensH_headC id L).symm (k := i) hi
  unfold chunkG
  rw [headG_boxB h]
  simp only [Int.toNat_natCast]
  have hr : rightK (boxB id L) (headC id L) i := by
    unfold rightK boxB
    rw [hp, (headC_get id L hi).2]
  have hn := headC_len id L
  rw [if_pos ⟨⟨by omega, by omega⟩, hr⟩]
  unfold boxB
  rw [hp]
theorem chunksG_boxB {id : Nat} {L : List ByteArray} (h : mayC id L) : chunksG (boxB id L) = some (L.map fun c => c.data.toList) := by
  have hp := fun (i : Nat) (hi : i < L.length) => partH_app (h := headC id L) (L := L) (lensH_headC id L).symm (k := i) hi
  unfold chunksG
  rw [headG_boxB h]
  have hn := headC_len id L
  simp only
  rw [if_pos]
  · congr 1
    refine List.ext_getElem (by simp [hn]) fun i h1 h2 => ?_
    rw [List.getElem_map, List.getElem_map, List.getElem_range]
    exact hp i (by simpa using h2)
  · intro k hk
    rw [hn] at hk
    unfold rightK boxB
    rw [hp k hk, (headC_get id L hk).2]

/-- Bytes with a right head and right chunks are those of what is read. -/
theorem parts_join {h : Hd} (D : List UInt8) (hD : D.length = (lensH h).sum) : ∀ k, k ≤ h.slots.length → ((List.range k).map (partH (frontH h ++ D) h)).flatten = D.take ((lensH h).take k).sum
  | 0, _ => by simp
  | k + 1, hk => by
    have ih := parts_join D hD k (by omega)
    have hk' : k < (lensH h).length := by rw [lensH_len]; omega
    have e1 : lenK h k = (lensH h)[k] := by
      rw [lenK_get (by omega)]
      show _ = (h.slots.map Prod.fst)[k]'_
      exact (List.getElem_map ..).symm
    rw [List.range_succ, List.map_append, List.flatten_append, ih, sum_take_next _ _ hk']
    show D.take _ ++ ([partH (frontH h ++ D) h k]).flatten = _
    rw [List.flatten_cons, List.flatten_nil, List.append_nil]
    unfold partH atH
    rw [← List.drop_drop, List.drop_left' (frontH_len h), e1, List.take_add]
theorem box_once {t : List UInt8} {h : Hd} {P : List (List UInt8)} (hg : headG t = some h) (hc : chunksG t = some P) : mayC h.id (P.map str) ∧ boxB h.id (P.map str) = t := by
  obtain ⟨g, hw, D, rfl, hD⟩ := headG_ok hg
  unfold chunksG at hc
  rw [hg] at hc
  simp only at hc
  split at hc
  · rename_i hr
    have hP := (Option.some.inj hc).symm
    have hsl : ∀ k, k < h.slots.length → slotC (str (partH (frontH h ++ D) h k)) = h.slots.getD k (0, 0) := fun k hk => by
      have h1 := hr k hk
      unfold rightK crcK at h1
      unfold slotC
      rw [str_list, h1, str_size]
      have h2 : (partH (frontH h ++ D) h k).length = lenK h k := by
        unfold partH
        have := atH_le hk
        rw [List.length_take, List.length_drop, List.length_append, frontH_len, hD]
        omega
      rw [h2]
      rfl
    have hH : headC h.id (P.map str) = h := by
      unfold headC
      rw [Hd.ext_iff']
      refine ⟨rfl, ?_⟩
      show (P.map str).map slotC = h.slots
      rw [hP, List.map_map, List.map_map]
      refine List.ext_getElem (by simp) fun i h1 h2 => ?_
      rw [List.getElem_map, List.getElem_range]
      show slotC (str (partH (frontH h ++ D) h i)) = _
      rw [hsl i h2, List.getD_eq_getElem?_getD, List.getElem?_eq_getElem h2]
      rfl
    have hm : mayC h.id (P.map str) := by rw [← goodH_headC, hH]; exact g
    refine ⟨hm, ?_⟩
    unfold boxB
    rw [hH, dataC_flat, List.map_map]
    have e : (P.map ((fun c : ByteArray => c.data.toList) ∘ str)) = P := by
      conv => rhs; rw [← List.map_id P]
      exact List.map_congr_left fun l _ => str_list l
    have e9 : (lensH h).take h.slots.length = lensH h := List.take_of_length_le (by rw [lensH_len]; exact Nat.le_refl _)
    rw [e, hP, parts_join D hD _ (Nat.le_refl _), e9, List.take_of_length_le (by omega)]
  · cases hc

end Go.Proofs.YtdmbebafpamgfaaDoor
