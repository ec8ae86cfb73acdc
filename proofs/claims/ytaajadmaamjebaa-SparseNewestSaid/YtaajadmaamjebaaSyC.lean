/- Rows of numbers of 32 bits: what without deletes; IndexFunc, DeleteFunc, without. -/
import Derived.Test.YtaajadmaamjebaaSxM
import Derived.Test.YtaajadmaamjebaaUs
import Derived.Test.YtaajadmaamjebaaHC
import Derived.Laws.CopyRow
namespace Go.Proofs.Ytaajadmaamjebaa
open Go.RowKit

def uV (m : Nat) : Value := .int .u32 (m : Nat)
theorem flatU : ∀ l : List Nat, flatR uL l = l.map uV
  | [] => rfl
  | m :: l => by
    show uL m ++ flatR uL l = uV m :: l.map uV
    rw [flatU l]; rfl
theorem uV_ones (l : List Nat) : ∀ x ∈ l.map uV, x.oneCell' = true := fun x hx => by
  obtain ⟨m, _, rfl⟩ := List.mem_map.1 hx
  rfl
def rowU (l : List Nat) (rest : List Value) : Array Value := (l.map uV ++ rest).toArray
def RowU (g : Nat) (l : List Nat) (rest : List Value) (w : World) : Prop := w.heap[g]? = some (.cells (rowU l rest) 33 (0, 0))
theorem rowU_size (l : List Nat) (rest : List Value) : (rowU l rest).size = l.length + rest.length := by unfold rowU; simp
theorem rowU_get (l : List Nat) (rest : List Value) (i : Nat) (h : i < l.length) : (rowU l rest)[i]? = some (uV l[i]) := by
  unfold rowU
  rw [List.getElem?_toArray, List.getElem?_append_left (by simpa using h), List.getElem?_map, List.getElem?_eq_getElem h]; rfl
theorem rowU_set (l : List Nat) (rest : List Value) (i : Nat) (h : i < l.length) (m : Nat) : (rowU l rest).setIfInBounds i (uV m) = rowU (l.set i m) rest := by
  unfold rowU
  rw [List.setIfInBounds_toArray, List.set_append_left _ _ (by simpa using h), List.map_set]
section
variable {g : Nat} {l : List Nat} {rest : List Value} {w w' : World}
theorem RowU.lt (h : RowU g l rest w) : g < w.heap.size := (Array.getElem?_eq_some_iff.1 h).1
theorem RowU.cell (h : RowU g l rest w) {i : Nat} (hi : i < l.length) : w.cell? ⟨g, i, none⟩ = some (uV l[i]) := by rw [cell_of_row _ _ _ _ _ _ h]; exact rowU_get l rest i hi
theorem RowU.fz (h : RowU g l rest w) (i : Nat) : w.frozen? ⟨g, i, none⟩ = false := frozen_of_row w g i _ _ h
theorem RowU.set (h : RowU g l rest w) {i : Nat} (hi : i < l.length) (m : Nat) : RowU g (l.set i m) rest (w.setCell ⟨g, i, none⟩ (uV m)) := by
  have := heap_setCell_same w g i _ _ (uV m) h
  rw [rowU_set l rest i hi m] at this
  exact this
theorem RowU.stay (h : RowU g l rest w) (hk : w'.heap[g]? = w.heap[g]?) : RowU g l rest w' := hk.trans h
end

/-- An own slice of numbers of 32 bits. -/
structure OwnU (B : Nat) (l : List Nat) (v : Value) (w : World) : Prop where
  lo : ∀ m ∈ l, m < 4294967296
  own : w.ownsRow B 33 1 v l.length (l.map uV)
section
variable {B : Nat} {l : List Nat} {v : Value} {w w' : World}
theorem OwnU.us (h : OwnU B l v w) : UsAt l v w := RowsAt.own encU h.lo (by rw [flatU]; exact h.own)
theorem OwnU.nil_ (B : Nat) (w : World) : OwnU B [] (.slice none 0 0) w := ⟨fun m h => (by cases h), World.ownsRow_nil _ _ _ _⟩
theorem OwnU.parts (h : OwnU B l v w) : (v = .slice none 0 0 ∧ l = []) ∨ ∃ g cap rest, v = .slice (some ⟨g, 0, none⟩) l.length cap ∧ B ≤ g ∧ RowU g l rest w ∧ l.length ≤ cap ∧ cap ≤ maxLen ∧ l.length + rest.length = cap := by
  rcases h.own.2 with ⟨rfl, h0⟩ | ⟨g, cap, cur, rfl, hB, hg, hc, hm, hs, htk⟩
  · exact Or.inl ⟨rfl, List.length_eq_zero_iff.1 h0⟩
  · refine Or.inr ⟨g, cap, cur.toList.drop l.length, rfl, hB, ?_, hc, hm, ?_⟩
    · unfold RowU rowU
      rw [← htk, Nat.mul_one, List.take_append_drop]; simpa using hg
    · have hs2 : cur.toList.length = cap := by simpa using hs
      rw [List.length_drop, hs2]; omega
theorem OwnU.of_row {g cap : Nat} {rest : List Value} (hlo : ∀ m ∈ l, m < 4294967296) (hB : B ≤ g) (h : RowU g l rest w) (hc : l.length ≤ cap) (hm : cap ≤ maxLen) (hs : l.length + rest.length = cap) : OwnU B l (.slice (some ⟨g, 0, none⟩) l.length cap) w :=
  ⟨hlo, by simp, Or.inr ⟨g, cap, rowU l rest, rfl, hB, h, hc, hm, by rw [rowU_size, Nat.mul_one]; exact hs, by unfold rowU; rw [Nat.mul_one, List.take_left' (by simp)]⟩⟩
theorem OwnU.lt (h : OwnU B l v w) : ∀ k, v.ownBlock = some k → B ≤ k ∧ k < w.heap.size := h.own.lt
theorem OwnU.stay (h : OwnU B l v w) (hk : ∀ k, v.ownBlock = some k → w'.heap[k]? = w.heap[k]?) : OwnU B l v w' := ⟨h.lo, own_stay h.own hk⟩
theorem OwnU.later (h : OwnU B l v w) (k : Kept w w') : OwnU B l v w' := h.stay (fun j hj => k.block j (h.lt j hj).2)
theorem OwnU.base (h : OwnU B l v w) {B' : Nat} (hB : ∀ k, v.ownBlock = some k → B' ≤ k) : OwnU B' l v w := by
  rcases h.parts with ⟨rfl, rfl⟩ | ⟨g, cap, rest, rfl, _, hr, hc, hm, hs⟩
  · exact OwnU.nil_ _ _
  · exact OwnU.of_row h.lo (hB g rfl) hr hc hm hs
theorem OwnU.slice (h : OwnU B l v w) : ∃ p c, v = .slice p l.length c := by
  rcases h.parts with ⟨rfl, rfl⟩ | ⟨g, cap, rest, rfl, _⟩
  · exact ⟨_, _, rfl⟩
  · exact ⟨_, _, rfl⟩
theorem OwnU.one_ (h : OwnU B l v w) : v.oneCell' = true := h.us.one_
/-- The row of an own slice holds numbers. -/
theorem OwnU.typ (h : OwnU B l v w) {k : Nat} (hk : v.ownBlock = some k) : ∃ cs, w.heap[k]? = some (.cells cs 33 (0, 0)) := by
  rcases h.parts with ⟨rfl, rfl⟩ | ⟨g, cap, rest, rfl, _, hr, _⟩
  · cases hk
  · have e : g = k := Option.some.inj hk
    subst e
    exact ⟨_, hr⟩
end

set_option maxRecDepth 100000 in
theorem wo_any (m man bx : Nat) (w : World) (hc : w.cell? ⟨bx, 0, none⟩ = some (uV man)) :
    Calls Try.prog 48 #[.int .u32 (m : Nat), .pointer (some ⟨bx, 0, none⟩)] w fun e w' => e = .returned (.bool ((m : Int) == (man : Int))) ∧ w = w' := by
  unfold uV at hc
  go_enter Try.func48, Try.ntmps48
  go_wp2
  go_ret
  exact ⟨by congr 1, rfl⟩

def UIdxPost (l : List Nat) (man : Nat) (w : World) (e : Ending) (w' : World) : Prop :=
  ((e = .returned (.int .i64 (-1)) ∧ ∀ m ∈ l, m ≠ man) ∨ ∃ k : Nat, ∃ h : k < l.length, e = .returned (.int .i64 k) ∧ l[k] = man ∧ ∀ m ∈ l.take k, m ≠ man) ∧ w = w'

set_option maxRecDepth 100000 in
set_option maxHeartbeats 1000000 in
theorem uindexFunc_any (man bx g c n : Nat) (l : List Nat) (rest : List Value) (hn : n = l.length) (hs : n ≤ 1000000) (w : World) (h : RowU g l rest w) (hc : w.cell? ⟨bx, 0, none⟩ = some (uV man)) :
    Calls Try.prog 53 #[.slice (some ⟨g, 0, none⟩) n c, .func (.func 48) #[] #[.pointer (some ⟨bx, 0, none⟩)]] w (UIdxPost l man w) := by
  have HR := Lib.hid h
  have HN := Lib.hid hn
  have HC := Lib.hid hc
  clear h hn hc
  go_enter Try.func53, Try.ntmps53
  go_wp2
  go_loopw [8] (fun x wr => ∃ (k : Nat), k ≤ n ∧ x = .int .i64 k ∧ Hid (∀ m ∈ l.take k, m ≠ man) ∧ Hid (w = wr)) (fun x _ => n - (intOf x).toNat)
  case atStart => exact ⟨0, by omega, rfl, Lib.hid (fun m hm => by simp at hm), Lib.hid rfl⟩
  case round =>
    obtain ⟨k, hkn, rfl, HT, HW⟩ := hrel
    by_cases hlt : k < n
    · have hkl : k < l.length := by rw [← HN.out]; exact hlt
      have hltz : (k : Int) < (n : Int) := by omega
      have bz : decide ((k : Int) < (n : Int)) = true := by simpa using hltz
      have d0 := (HW.out ▸ HR.out : RowU g l rest wr).cell hkl
      have C := wo_any l[k] man bx wr (HW.out ▸ HC.out)
      have htk : l.take (k + 1) = l.take k ++ [l[k]] := List.take_succ_eq_append_getElem hkl
      unfold uV at d0
      obtain ⟨x, hx⟩ : ∃ x, x = l[k] := ⟨_, rfl⟩
      rw [← hx] at d0 C htk
      obtain ⟨q, hq⟩ : ∃ q, q = ((x : Int) == (man : Int)) := ⟨_, rfl⟩
      rw [← hq] at C
      obtain ⟨k1, hk1⟩ : ∃ k1, k1 = k + 1 := ⟨_, rfl⟩
      have v1 : IntKind.i64.wrap ((k : Int) + 1) = (k1 : Int) := by rw [show (k : Int) + 1 = (k1 : Int) by omega]; exact IntWalk.i64_in _ (by omega)
      have HKK : Hid (k1 = k + 1 ∧ k < n) := Lib.hid ⟨hk1, hlt⟩
      have HXX := Lib.hid hx
      have HTK : Hid (l.take k1 = l.take k ++ [x]) := Lib.hid (by rw [hk1]; exact htk)
      clear hx htk hk1 hlt hkn
      cases q with
      | false =>
        have HNE : Hid (x ≠ man) := Lib.hid (fun e => by rw [e] at hq; simp at hq)
        clear hq
        go_wp2_with (go_at_call 48; refine C.mono ?_; rintro e w2 ⟨rfl, rfl⟩)
        go_roundw
        case rel => exact ⟨k1, by have := HKK.out; omega, by first | rfl | (have := HKK.out; congr 1; omega), Lib.hid (fun m hm => by
          rw [HTK.out] at hm
          rcases List.mem_append.1 hm with h | h
          · exact HT.out m h
          · rw [List.mem_singleton.1 h]; exact HNE.out), HW⟩
        case measure => simp [intOf]; have := HKK.out; omega
      | true =>
        have HEQ : Hid (x = man) := Lib.hid (by
          have h := LawfulBEq.eq_of_beq hq.symm
          omega)
        clear hq
        go_wp2_with (go_at_call 48; refine C.mono ?_; rintro e w2 ⟨rfl, rfl⟩)
        go_ret
        exact ⟨Or.inr ⟨k, hkl, rfl, HXX.out.symm.trans HEQ.out, HT.out⟩, HW.out⟩
    · obtain rfl : k = n := by omega
      have bz : decide ((k : Int) < (k : Int)) = false := by simp
      go_wp2
      go_ret
      refine ⟨Or.inl ⟨rfl, fun m hm => HT.out m ?_⟩, HW.out⟩
      rw [List.take_of_length_le (by rw [← HN.out]; exact Nat.le_refl _)]
      exact hm

def UDelPost (g cap : Nat) (l : List Nat) (rest : List Value) (man : Nat) (w : World) (e : Ending) (w' : World) : Prop :=
  ∃ rest', e = .returned (.slice (some ⟨g, 0, none⟩) (keepS man l).length cap) ∧ RowU g (keepS man l) rest' w' ∧ (keepS man l).length + rest'.length = l.length + rest.length ∧ w.grownBy w' (some g)
def UDelIn (g n i j : Nat) (l ms : List Nat) (rest : List Value) (man : Nat) (w : World) : Prop :=
  ms.length = n ∧ ms.drop j = l.drop j ∧ ms.take i = keepS man (l.take j) ∧ RowU g ms rest w
theorem keepS_snoc (man : Nat) (l : List Nat) (j : Nat) (hj : j < l.length) : keepS man (l.take (j + 1)) = if l[j] = man then keepS man (l.take j) else keepS man (l.take j) ++ [l[j]] := by
  unfold keepS
  rw [List.take_succ_eq_append_getElem hj, List.filter_append]
  by_cases h : l[j] = man
  · rw [if_pos h, List.filter_cons_of_neg (by simp [h])]; simp
  · rw [if_neg h, List.filter_cons_of_pos (by simp [h])]; simp
theorem keepS_all {man : Nat} {l : List Nat} (h : ∀ m ∈ l, m ≠ man) : keepS man l = l := by
  unfold keepS
  rw [List.filter_eq_self]
  intro a ha
  simpa using h a ha
theorem keepS_le (man : Nat) (l : List Nat) : (keepS man l).length ≤ l.length := List.length_filter_le _ _
/-- clear(s[k:]) of a row. -/
theorem uclear_at (g n k c : Nat) (l : List Nat) (rest : List Value) (w : World) (h : RowU g l rest w) (hn : l.length = n) (hk : k < n) (ty : TypeId) :
    (Builtin.clear_ #[44] ty #[.slice (some ⟨g, k, none⟩) (n - k) c]).run Try.prog w = .ok (.tuple #[]) (w.setRow g (rowU (l.take k) (List.replicate (n - k) (uV 0) ++ rest))) := by
  subst hn
  have hz : (Builtin.zeroCells (Value.int .u32 0).cells (l.length - k)).toList = List.replicate (l.length - k) (uV 0) := by
    apply List.ext_getElem
    · simp [Builtin.zeroCells, Value.cells]
    · intro i h1 h2
      simp [Builtin.zeroCells, Value.cells, uV, Nat.mod_one]
  have hst := run_storeCells_at Try.prog g k 33 (List.replicate (l.length - k) (uV 0)) 0 _ w h (by
    rw [List.length_replicate, rowU_size]; omega) (fun v hv => by rw [List.eq_of_mem_replicate hv]; rfl)
  have e : ((rowU l rest).toList.take (k + 0) ++ List.replicate (l.length - k) (uV 0) ++ (rowU l rest).toList.drop (k + 0 + (List.replicate (l.length - k) (uV 0)).length)).toArray = rowU (l.take k) (List.replicate (l.length - k) (uV 0) ++ rest) := by
    rw [List.length_replicate, Nat.add_zero, show k + (l.length - k) = l.length by omega]
    unfold rowU
    congr 1
    show (l.map uV ++ rest).take k ++ _ ++ (l.map uV ++ rest).drop l.length = _
    rw [List.drop_left' (by simp), List.take_append_of_le_length (by simp; omega), List.map_take, List.append_assoc]
  rw [e] at hst
  obtain ⟨m, hm⟩ : ∃ m, l.length - k = m + 1 := ⟨l.length - k - 1, by omega⟩
  rw [hm] at hst hz ⊢
  simp [Builtin.clear_, run_underlying Try.underlying44, hz, hst]

set_option maxRecDepth 100000 in
set_option maxHeartbeats 4000000 in
/-- slices.DeleteFunc of a row of numbers. -/
theorem udelete_row (man bx g cap : Nat) (l : List Nat) (rest : List Value) (hs : l.length ≤ 1000000) (hc : l.length ≤ cap) (w : World) (h : RowU g l rest w) (hb : w.cell? ⟨bx, 0, none⟩ = some (uV man)) (hbx : bx ≠ g) :
    Calls Try.prog 47 #[.slice (some ⟨g, 0, none⟩) l.length cap, .func (.func 48) #[] #[.pointer (some ⟨bx, 0, none⟩)]] w (UDelPost g cap l rest man w) := by
  obtain ⟨n, hn⟩ : ∃ n, n = l.length := ⟨_, rfl⟩
  have IF := uindexFunc_any man bx g cap n l rest hn (by omega) w h hb
  rw [← hn] at hs hc ⊢
  have HN := Lib.hid hn
  have HR := Lib.hid h
  have HB := Lib.hid hb
  have HBX := Lib.hid hbx
  clear hn h hb hbx
  go_enter Try.func47, Try.ntmps47
  go_wp2_with fail
  refine IF.mono ?_
  rintro e w1 ⟨⟨rfl, hall⟩ | ⟨k, hkl, rfl, hpk, hbef⟩, rfl⟩
  · have HA := Lib.hid hall
    clear hall IF
    go_wp2
    go_ret
    refine ⟨rest, ?_, ?_, ?_, grown_refl _ _⟩
    · rw [keepS_all HA.out, ← HN.out]; rfl
    · rw [keepS_all HA.out]; exact HR.out
    · rw [keepS_all HA.out]
  · have hkn : k < n := by rw [HN.out]; exact hkl
    have bk : ((k : Int) == -1) = false := by rw [beq_eq_false_iff_ne]; omega
    have S0 : Hid (UDelIn g n k (k + 1) l l rest man w) := by
      have h1 := keepS_snoc man l k hkl
      rw [if_pos hpk, keepS_all hbef] at h1
      exact ⟨HN.out.symm, rfl, h1.symm, HR.out⟩
    have G0 : Hid (w.grownBy w (some g)) := Lib.hid (grown_refl _ _)
    have C0 : Hid (w.cell? ⟨bx, 0, none⟩ = some (uV man)) := HB
    clear IF hbef hpk
    go_wp2
    go_loopw [5, 6, 7] (fun x y _z wr => ∃ (i j : Nat) (ms : List Nat), i < j ∧ j ≤ n ∧ x = .int .i64 i ∧ y = .int .i64 j ∧ Hid (UDelIn g n i j l ms rest man wr) ∧ Hid (w.grownBy wr (some g)) ∧ Hid (wr.cell? ⟨bx, 0, none⟩ = some (uV man))) (fun _ y _ _ => n - (intOf y).toNat)
    case atStart => exact ⟨k, k + 1, l, by omega, by omega, rfl, by go_num, S0, G0, C0⟩
    case round =>
      clear S0 G0 C0
      obtain ⟨i, j, ms, hij, hjn, rfl, rfl, HI, HG, HC⟩ := hrel
      have hml : ms.length = n := HI.out.1
      by_cases hlt : j < n
      · have hltz : (j : Int) < (n : Int) := by omega
        have bz : decide ((j : Int) < (n : Int)) = true := by simpa using hltz
        have hjm : j < ms.length := by omega
        have him : i < ms.length := by omega
        have hin : (i : Int) < (n : Int) := by omega
        have hjl : j < l.length := by rw [← HN.out]; exact hlt
        have cj := HI.out.2.2.2.cell hjm
        have ci := HI.out.2.2.2.cell him
        have fi := HI.out.2.2.2.fz i
        have HX : Hid (ms[j] = l[j]) := by
          have hd := HI.out.2.1
          have g2 := congrArg (fun l => l[0]?) hd
          simp only [List.getElem?_drop] at g2
          rw [Nat.add_zero, List.getElem?_eq_getElem hjm, List.getElem?_eq_getElem hjl] at g2
          exact Option.some.inj g2
        have FT := Lib.hid (keepS_snoc man l j hjl)
        have C := wo_any ms[j] man bx wr HC.out
        have HST := Lib.hid (HI.out.2.2.2.set him ms[j])
        obtain ⟨x, hx⟩ : ∃ x, x = ms[j] := ⟨_, rfl⟩
        obtain ⟨y, hy⟩ : ∃ y, y = ms[i] := ⟨_, rfl⟩
        rw [← hx] at cj C HX HST
        rw [← hy] at ci
        rw [← HX.out] at FT
        unfold uV at cj ci
        obtain ⟨q, hq⟩ : ∃ q, q = ((x : Int) == (man : Int)) := ⟨_, rfl⟩
        rw [← hq] at C
        have HIL := Lib.hid him
        have HD1 : Hid (ms.drop (j + 1) = l.drop (j + 1)) := Lib.hid (by
          have := congrArg (List.drop 1) HI.out.2.1
          rw [List.drop_drop, List.drop_drop] at this
          exact this)
        clear hx hy hml HX hjm him hjl
        cases q with
        | true =>
          have HEQ : Hid (x = man) := Lib.hid (by
            have h := LawfulBEq.eq_of_beq hq.symm
            omega)
          clear hq
          go_wp2_with (go_at_call 48; refine C.mono ?_; rintro e w2 ⟨rfl, rfl⟩)
          go_roundw
          case rel => exact ⟨i, j + 1, ms, by omega, by omega, rfl, by go_num, ⟨HI.out.1, HD1.out, by
            rw [FT.out, if_pos HEQ.out]
            exact HI.out.2.2.1, HI.out.2.2.2⟩, HG, HC⟩
          case measure => simp [intOf]; omega
        | false =>
          have HNE : Hid (x ≠ man) := Lib.hid (fun e => by rw [e] at hq; simp at hq)
          clear hq
          go_wp2_with (go_at_call 48; refine C.mono ?_; rintro e w2 ⟨rfl, rfl⟩)
          go_roundw
          case rel => exact ⟨i + 1, j + 1, ms.set i x, by omega, by omega, by go_num, by go_num, ⟨by rw [List.length_set]; exact HI.out.1, by
            rw [List.drop_set_of_lt (by omega)]
            exact HD1.out, by
            rw [FT.out, if_neg HNE.out, ← HI.out.2.2.1, List.take_succ_eq_append_getElem (by rw [List.length_set]; exact HIL.out), List.getElem_set_self, List.take_set_of_le (Nat.le_refl _)], HST.out⟩, Lib.hid (grown_trans HG.out (grown_set wr g i _)), Lib.hid (by
            rw [World.cell?_setCell_far _ _ _ _ (fun e => HBX.out e.symm)]
            exact HC.out)⟩
          case measure => simp [intOf]; omega
      · obtain rfl : j = n := by omega
        have bz : decide ((j : Int) < (j : Int)) = false := by simp
        have CJ := fun w' => cut_loR (P := Try.prog) Try.underlying44 (fun w => Try.sizeOf33 w) g 0 j cap i (by omega) (by omega) w'
        have CH := fun w' => cut_hiR (P := Try.prog) Try.underlying44 (fun w => Try.sizeOf33 w) g 0 j cap i (by omega) (by omega) w'
        rw [Nat.zero_add, Nat.mul_one] at CJ
        have CC := fun ty => uclear_at g j i (cap - i) ms rest wr HI.out.2.2.2 hml hij ty
        have hij2 : (i : Int) ≤ (j : Int) := by omega
        have HIJ := Lib.hid hij
        clear hml
        go_wp2
        go_ret
        have hms : ms.take i = keepS man l := by
          have := HI.out.2.2.1
          rw [List.take_of_length_le (i := j) (by rw [← HN.out]; exact Nat.le_refl _)] at this
          exact this
        have hli : (keepS man l).length = i := by rw [← hms, List.length_take, HI.out.1]; have := HIJ.out; omega
        refine ⟨List.replicate (j - i) (uV 0) ++ rest, ?_, ?_, ?_, grown_row HG.out _⟩
        · rw [hli]; rfl
        · rw [← hms]
          exact setRow_heap _ _ _ _ _ _ HI.out.2.2.2
        · rw [hli, List.length_append, List.length_replicate, ← HN.out]
          have := HIJ.out
          omega

end Go.Proofs.Ytaajadmaamjebaa
