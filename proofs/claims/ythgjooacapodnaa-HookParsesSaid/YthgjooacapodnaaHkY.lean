/- Parse: the walk. -/
import Derived.Test.YthgjooacapodnaaHkP
namespace Go.Proofs.Ythgjooacapodnaa
open Go.RowKit

/-- Which fingerprint a text is. -/
def parseL (s : List UInt8) : Option (List UInt8) := if s.length = 64 then unhex s else none

theorem results_cell_tmp_row {P : Program} {fn : Func} {p u : Tmp} {ty : TypeId} (h : fn.results = #[.cell p ty, .tmp u]) (tmps : Array Value) (w : World) (g : Nat) (t : TypeId) (cs : Array Value) (fr : Nat × Nat) (d : TypeDesc)
    (hp : tmps.getD p undef = .pointer (some ⟨g, 0, none⟩)) (hg : w.heap[g]? = some (.cells cs t fr))
    (hu : P.underlying ty = some d) (hd : (match d with | .struct _ | .array _ _ => true | _ => false) = true) (hi : (P.info? ty).map (·.size) = some cs.size) :
    (results fn tmps).run P w = .ok (.tuple #[.agg cs, tmps.getD u undef]) w := by
  rw [results_cell_tmp h, hp]
  simp [asAddr, run_loadVar_row w g t ty cs fr d hg hu hd hi, Result.andThen]

theorem unhex_snoc (a b : UInt8) : ∀ (l r : List UInt8), unhex l = some r → unhex (l ++ [a, b]) = match valD a, valD b with | some x, some y => some (r ++ [UInt8.ofNat (x * 16 + y)]) | _, _ => none
  | [], r, h => by
    simp only [unhex, Option.some.injEq] at h
    subst h
    simp only [List.nil_append, unhex]
    cases valD a <;> cases valD b <;> rfl
  | [_], _, h => by simp [unhex] at h
  | c :: d :: l, r, h => by
    unfold unhex at h
    split at h
    · rename_i x y q hx hy hq
      injection h with h
      have ih := unhex_snoc a b l q hq
      rw [List.cons_append, List.cons_append, unhex, hx, hy, ih, ← h]
      cases valD a <;> cases valD b <;> rfl
    · cases h

/-- What has been read. -/
def ReadIn (s : List UInt8) (i : Nat) (C : Array Value) : Prop := ∃ r : List UInt8, unhex (s.take (2 * i)) = some r ∧ r.length = i ∧ C = fpA (r ++ List.replicate (32 - i) 0)

theorem fpA_set (r : List UInt8) (i : Nat) (v : UInt8) (hr : r.length = i) (hi : i < 32) : (fpA (r ++ List.replicate (32 - i) 0)).setIfInBounds i (.int .u8 (v.toNat : Int)) = fpA (r ++ [v] ++ List.replicate (32 - (i + 1)) 0) := by
  apply Array.ext_getElem?
  intro j
  rw [Array.getElem?_setIfInBounds]
  have h1 : (r ++ List.replicate (32 - i) (0 : UInt8)).length = 32 := by simp [hr]; omega
  have h2 : (r ++ [v] ++ List.replicate (32 - (i + 1)) (0 : UInt8)).length = 32 := by simp [hr]; omega
  by_cases hj : j < 32
  · have hL := fpA_get (r ++ List.replicate (32 - i) 0) j (by rw [h1]; exact hj)
    have hR := fpA_get (r ++ [v] ++ List.replicate (32 - (i + 1)) 0) j (by rw [h2]; exact hj)
    rw [hR]
    by_cases hij : i = j
    · rw [if_pos hij, if_pos (by rw [fpA_size, h1]; omega)]
      subst hij
      congr 4
      rw [List.append_assoc, List.getD_eq_getElem?_getD, List.getElem?_append_right (by omega)]
      simp [hr]
    · rw [if_neg hij, hL]
      congr 4
      rw [List.getD_eq_getElem?_getD, List.getD_eq_getElem?_getD, List.append_assoc]
      by_cases hlt : j < i
      · rw [List.getElem?_append_left (by omega), List.getElem?_append_left (by omega)]
      · rw [List.getElem?_append_right (by omega), List.getElem?_append_right (by omega), hr]
        obtain ⟨q, hq⟩ : ∃ q, j - i = q + 1 := ⟨j - i - 1, by omega⟩
        rw [hq, List.singleton_append, List.getElem?_cons_succ, List.getElem?_replicate, List.getElem?_replicate, if_pos (by omega), if_pos (by omega)]
  · rw [if_neg (by omega), Array.getElem?_eq_none (xs := fpA (r ++ List.replicate (32 - i) 0)) (by rw [fpA_size, h1]; omega), Array.getElem?_eq_none (by rw [fpA_size, h2]; omega)]

theorem take_two (s : List UInt8) (i : Nat) (h : 2 * i + 1 < s.length) : s.take (2 * (i + 1)) = s.take (2 * i) ++ [s[2 * i], s[2 * i + 1]] := by
  rw [show 2 * (i + 1) = 2 * i + 1 + 1 by omega, List.take_succ_eq_append_getElem h, List.take_succ_eq_append_getElem (show 2 * i < s.length by omega), List.append_assoc]
  rfl

/-- A digit that is none: no fingerprint's text. -/
theorem no_digit (s : List UInt8) (j : Nat) (h : j < s.length) (hd : digB (s[j]).toNat = false) : unhex s = none := by
  cases hu : unhex s with
  | none => rfl
  | some r =>
    have := unhex_digits s r hu _ (List.getElem_mem h)
    rw [dig_val, hd] at this
    cases this

def ParsePost (s : List UInt8) (w : World) (e : Ending) (w' : World) : Prop :=
  ((∃ r, parseL s = some r ∧ e = .returned (.tuple #[.agg (fpA r), .int .i64 0])) ∨ (parseL s = none ∧ e = .returned (.tuple #[.agg (fpA zeroL), .int .i64 7]))) ∧ Below w.heap.size w w'

theorem or_u8 (h l : Nat) (hh : h < 16) (hl : l < 16) : bits .or .u8 ((h : Int) * 16) (l : Int) = ((h * 16 + l : Nat) : Int) := by
  have e : ((h : Int) * 16) = ((2 ^ 4 * h : Nat) : Int) := by omega
  rw [e, u8_or_nat _ _ (by omega) (by omega), ← Nat.two_pow_add_eq_or_of_lt (i := 4) hl h]
  omega

set_option maxRecDepth 100000 in
theorem text_byte (s : ByteArray) (i : Int) (j : Nat) (hj : j < s.data.toList.length) (hi : i = j) (w : World) : (Instr.index 9 (.string s) (.int .i64 i)).run Try.prog w = .ok (.int .u8 ((s.data.toList[j]).toNat : Int)) w := by
  subst hi
  have hz := data_len s
  have h0 : (0 : Int) ≤ j := by omega
  have h1 : (j : Int) < s.size := by omega
  rw [run_index_string _ _ _ _ _ Try.underlying9, dif_pos ⟨h0, h1⟩]
  have hn : ((j : Int)).toNat = j := by omega
  congr 3

theorem below_set {B g : Nat} {w W : World} (h : Below B w W) (hg : B ≤ g) (cs : Array Value) : Below B w (W.setRow g cs) :=
  ⟨h.os, h.tape, h.output, by rw [setRow_size]; exact h.size, fun k hk => by rw [setRow_other _ _ _ _ (by omega)]; exact h.block k hk⟩

set_option maxRecDepth 100000 in
set_option maxHeartbeats 4000000 in
theorem parse_any (s : ByteArray) (hs : s.size ≤ maxLen) (w : World) :
    Calls Try.prog 9 #[.string s] w (ParsePost s.data.toList w) := by
  have hz := data_len s
  unfold maxLen at hs
  have gA : ((w.alloc (.cells #[.int .u8 0, .int .u8 0, .int .u8 0, .int .u8 0, .int .u8 0, .int .u8 0, .int .u8 0, .int .u8 0, .int .u8 0, .int .u8 0, .int .u8 0, .int .u8 0, .int .u8 0, .int .u8 0, .int .u8 0, .int .u8 0, .int .u8 0, .int .u8 0, .int .u8 0, .int .u8 0, .int .u8 0, .int .u8 0, .int .u8 0, .int .u8 0, .int .u8 0, .int .u8 0, .int .u8 0, .int .u8 0, .int .u8 0, .int .u8 0, .int .u8 0, .int .u8 0] 23)).alloc (.cells #[.int .u8 0, .int .u8 0, .int .u8 0, .int .u8 0, .int .u8 0, .int .u8 0, .int .u8 0, .int .u8 0, .int .u8 0, .int .u8 0, .int .u8 0, .int .u8 0, .int .u8 0, .int .u8 0, .int .u8 0, .int .u8 0, .int .u8 0, .int .u8 0, .int .u8 0, .int .u8 0, .int .u8 0, .int .u8 0, .int .u8 0, .int .u8 0, .int .u8 0, .int .u8 0, .int .u8 0, .int .u8 0, .int .u8 0, .int .u8 0, .int .u8 0, .int .u8 0] 23)).heap[w.heap.size]? = some (.cells #[.int .u8 0, .int .u8 0, .int .u8 0, .int .u8 0, .int .u8 0, .int .u8 0, .int .u8 0, .int .u8 0, .int .u8 0, .int .u8 0, .int .u8 0, .int .u8 0, .int .u8 0, .int .u8 0, .int .u8 0, .int .u8 0, .int .u8 0, .int .u8 0, .int .u8 0, .int .u8 0, .int .u8 0, .int .u8 0, .int .u8 0, .int .u8 0, .int .u8 0, .int .u8 0, .int .u8 0, .int .u8 0, .int .u8 0, .int .u8 0, .int .u8 0, .int .u8 0] 23 (0, 0)) := heap_alloc2_old w _ _
  have K0 : Below w.heap.size w ((w.alloc (.cells #[.int .u8 0, .int .u8 0, .int .u8 0, .int .u8 0, .int .u8 0, .int .u8 0, .int .u8 0, .int .u8 0, .int .u8 0, .int .u8 0, .int .u8 0, .int .u8 0, .int .u8 0, .int .u8 0, .int .u8 0, .int .u8 0, .int .u8 0, .int .u8 0, .int .u8 0, .int .u8 0, .int .u8 0, .int .u8 0, .int .u8 0, .int .u8 0, .int .u8 0, .int .u8 0, .int .u8 0, .int .u8 0, .int .u8 0, .int .u8 0, .int .u8 0, .int .u8 0] 23)).alloc (.cells #[.int .u8 0, .int .u8 0, .int .u8 0, .int .u8 0, .int .u8 0, .int .u8 0, .int .u8 0, .int .u8 0, .int .u8 0, .int .u8 0, .int .u8 0, .int .u8 0, .int .u8 0, .int .u8 0, .int .u8 0, .int .u8 0, .int .u8 0, .int .u8 0, .int .u8 0, .int .u8 0, .int .u8 0, .int .u8 0, .int .u8 0, .int .u8 0, .int .u8 0, .int .u8 0, .int .u8 0, .int .u8 0, .int .u8 0, .int .u8 0, .int .u8 0, .int .u8 0] 23)) := ((Below.refl _ w).alloc (Nat.le_refl _) _).alloc (by simp) _
  have HZI : Hid ((Try.prog.info? 23).map (·.size) = some (#[.int .u8 0, .int .u8 0, .int .u8 0, .int .u8 0, .int .u8 0, .int .u8 0, .int .u8 0, .int .u8 0, .int .u8 0, .int .u8 0, .int .u8 0, .int .u8 0, .int .u8 0, .int .u8 0, .int .u8 0, .int .u8 0, .int .u8 0, .int .u8 0, .int .u8 0, .int .u8 0, .int .u8 0, .int .u8 0, .int .u8 0, .int .u8 0, .int .u8 0, .int .u8 0, .int .u8 0, .int .u8 0, .int .u8 0, .int .u8 0, .int .u8 0, .int .u8 0] : Array Value).size) := infoFp
  have HZ1 : Hid ((#[.int .u8 0, .int .u8 0, .int .u8 0, .int .u8 0, .int .u8 0, .int .u8 0, .int .u8 0, .int .u8 0, .int .u8 0, .int .u8 0, .int .u8 0, .int .u8 0, .int .u8 0, .int .u8 0, .int .u8 0, .int .u8 0, .int .u8 0, .int .u8 0, .int .u8 0, .int .u8 0, .int .u8 0, .int .u8 0, .int .u8 0, .int .u8 0, .int .u8 0, .int .u8 0, .int .u8 0, .int .u8 0, .int .u8 0, .int .u8 0, .int .u8 0, .int .u8 0] : Array Value).all (·.oneCell') = true) := by rw [← zeroL_cells]; exact fpA_one _
  by_cases h64 : s.size = 64
  · have hl64 : s.data.toList.length = 64 := by omega
    have b64 : (!((s.size : Int) == 64)) = false := by rw [h64]; rfl
    have b65 : ((s.size : Int) == 64) = true := by rw [h64]; rfl
    have b66 : ((s.size : Int) != 64) = false := b64
    have HPL : Hid (parseL s.data.toList = unhex s.data.toList) := Lib.hid (by unfold parseL; rw [if_pos hl64])
    have HLL := Lib.hid hl64
    have KC : ∀ C : Array Value, Below w.heap.size w ((w.alloc (.cells #[.int .u8 0, .int .u8 0, .int .u8 0, .int .u8 0, .int .u8 0, .int .u8 0, .int .u8 0, .int .u8 0, .int .u8 0, .int .u8 0, .int .u8 0, .int .u8 0, .int .u8 0, .int .u8 0, .int .u8 0, .int .u8 0, .int .u8 0, .int .u8 0, .int .u8 0, .int .u8 0, .int .u8 0, .int .u8 0, .int .u8 0, .int .u8 0, .int .u8 0, .int .u8 0, .int .u8 0, .int .u8 0, .int .u8 0, .int .u8 0, .int .u8 0, .int .u8 0] 23)).alloc (.cells C 23)) := fun C => ((Below.refl _ w).alloc (Nat.le_refl _) _).alloc (by simp) _
    have HKC := Lib.hid KC
    clear hz hl64 K0 h64 KC gA
    go_enter Try.func9, Try.ntmps9
    go_wp2
    go_loopw [14] (fun x wr => ∃ (i : Nat) (C : Array Value), i ≤ 32 ∧ x = .int .i64 i ∧ Hid (ReadIn s.data.toList i C) ∧ wr = (w.alloc (.cells #[.int .u8 0, .int .u8 0, .int .u8 0, .int .u8 0, .int .u8 0, .int .u8 0, .int .u8 0, .int .u8 0, .int .u8 0, .int .u8 0, .int .u8 0, .int .u8 0, .int .u8 0, .int .u8 0, .int .u8 0, .int .u8 0, .int .u8 0, .int .u8 0, .int .u8 0, .int .u8 0, .int .u8 0, .int .u8 0, .int .u8 0, .int .u8 0, .int .u8 0, .int .u8 0, .int .u8 0, .int .u8 0, .int .u8 0, .int .u8 0, .int .u8 0, .int .u8 0] 23)).alloc (.cells C 23)) (fun x _ => 32 - (intOf x).toNat)
    case atStart => exact ⟨0, _, by omega, rfl, Lib.hid ⟨[], rfl, rfl, by rw [← zeroL_cells]; rfl⟩, rfl⟩
    case round =>
      obtain ⟨i, C, hi, rfl, HC, rfl⟩ := hrel
      by_cases hlt : i < 32
      · have h1 : 2 * i < s.data.toList.length := by rw [HLL.out]; omega
        have h2 : 2 * i + 1 < s.data.toList.length := by rw [HLL.out]; omega
        have IX1 := fun w' => text_byte s (2 * (i : Int)) (2 * i) h1 (by omega) w'
        have IX2 := fun w' => text_byte s (2 * (i : Int) + 1) (2 * i + 1) h2 (by omega) w'
        have HT := Lib.hid (take_two s.data.toList i h2)
        have HN1 := Lib.hid (no_digit s.data.toList (2 * i) h1)
        have HN2 := Lib.hid (no_digit s.data.toList (2 * i + 1) h2)
        obtain ⟨a, ha⟩ : ∃ a, a = s.data.toList[2 * i] := ⟨_, rfl⟩
        obtain ⟨b, hb⟩ : ∃ b, b = s.data.toList[2 * i + 1] := ⟨_, rfl⟩
        rw [← ha] at IX1 HT HN1
        rw [← hb] at IX2 HT HN2
        have VA := Lib.hid (dig_val a)
        have VB := Lib.hid (dig_val b)
        have hxa := a.toNat_lt
        have hxb := b.toNat_lt
        obtain ⟨x, hx⟩ : ∃ x, x = a.toNat := ⟨_, rfl⟩
        obtain ⟨y, hy⟩ : ∃ y, y = b.toNat := ⟨_, rfl⟩
        rw [← hx] at IX1 HN1 VA hxa
        rw [← hy] at IX2 HN2 VB hxb
        have D1 := fun w' => digit_any x hxa w'
        have D2 := fun w' => digit_any y hxb w'
        have l1 := digV_lt x
        have l2 := digV_lt y
        obtain ⟨v1, hv1⟩ : ∃ v, v = digV x := ⟨_, rfl⟩
        obtain ⟨v2, hv2⟩ : ∃ v, v = digV y := ⟨_, rfl⟩
        obtain ⟨p1, hp1⟩ : ∃ v, v = digB x := ⟨_, rfl⟩
        obtain ⟨p2, hp2⟩ : ∃ v, v = digB y := ⟨_, rfl⟩
        rw [← hv1, ← hp1] at D1 VA
        rw [← hv2, ← hp2] at D2 VB
        rw [← hv1] at l1
        rw [← hv2] at l2
        rw [← hp1] at HN1
        rw [← hp2] at HN2
        clear hx hy hv1 hv2 hp1 hp2 ha hb
        have gB : ((w.alloc (.cells #[.int .u8 0, .int .u8 0, .int .u8 0, .int .u8 0, .int .u8 0, .int .u8 0, .int .u8 0, .int .u8 0, .int .u8 0, .int .u8 0, .int .u8 0, .int .u8 0, .int .u8 0, .int .u8 0, .int .u8 0, .int .u8 0, .int .u8 0, .int .u8 0, .int .u8 0, .int .u8 0, .int .u8 0, .int .u8 0, .int .u8 0, .int .u8 0, .int .u8 0, .int .u8 0, .int .u8 0, .int .u8 0, .int .u8 0, .int .u8 0, .int .u8 0, .int .u8 0] 23)).alloc (.cells C 23)).heap[w.heap.size]? = some (.cells #[.int .u8 0, .int .u8 0, .int .u8 0, .int .u8 0, .int .u8 0, .int .u8 0, .int .u8 0, .int .u8 0, .int .u8 0, .int .u8 0, .int .u8 0, .int .u8 0, .int .u8 0, .int .u8 0, .int .u8 0, .int .u8 0, .int .u8 0, .int .u8 0, .int .u8 0, .int .u8 0, .int .u8 0, .int .u8 0, .int .u8 0, .int .u8 0, .int .u8 0, .int .u8 0, .int .u8 0, .int .u8 0, .int .u8 0, .int .u8 0, .int .u8 0, .int .u8 0] 23 (0, 0)) := heap_alloc2_old w _ _
        cases p1 with
        | false =>
          have HF : Hid (parseL s.data.toList = none) := HPL.out.trans (HN1.out rfl)
          go_wp2_with (first
            | (go_at_call 32; first | (with_reducible refine (D1 _).mono ?_) | (with_reducible refine (D2 _).mono ?_); rintro e w' ⟨rfl, rfl⟩)
            | (with_reducible refine wpList_store_row rfl _ _ _ rfl w.heap.size #[.int .u8 0, .int .u8 0, .int .u8 0, .int .u8 0, .int .u8 0, .int .u8 0, .int .u8 0, .int .u8 0, .int .u8 0, .int .u8 0, .int .u8 0, .int .u8 0, .int .u8 0, .int .u8 0, .int .u8 0, .int .u8 0, .int .u8 0, .int .u8 0, .int .u8 0, .int .u8 0, .int .u8 0, .int .u8 0, .int .u8 0, .int .u8 0, .int .u8 0, .int .u8 0, .int .u8 0, .int .u8 0, .int .u8 0, .int .u8 0, .int .u8 0, .int .u8 0] rfl rfl 23 _ gB HZI.out rfl HZ1.out ?_))
          refine bodyPost_ret (results_cell_tmp_row Try.results9 _ _ w.heap.size 23 #[.int .u8 0, .int .u8 0, .int .u8 0, .int .u8 0, .int .u8 0, .int .u8 0, .int .u8 0, .int .u8 0, .int .u8 0, .int .u8 0, .int .u8 0, .int .u8 0, .int .u8 0, .int .u8 0, .int .u8 0, .int .u8 0, .int .u8 0, .int .u8 0, .int .u8 0, .int .u8 0, .int .u8 0, .int .u8 0, .int .u8 0, .int .u8 0, .int .u8 0, .int .u8 0, .int .u8 0, .int .u8 0, .int .u8 0, .int .u8 0, .int .u8 0, .int .u8 0] (0, 0) _ rfl (setRow_heap _ _ _ _ _ _ gB) Try.underlying23 rfl HZI.out) rfl ⟨Or.inr ⟨HF.out, by rw [zeroL_cells]; rfl⟩, below_set (HKC.out C) (Nat.le_refl _) _⟩
        | true =>
          cases p2 with
          | false =>
            have HF : Hid (parseL s.data.toList = none) := HPL.out.trans (HN2.out rfl)
            go_wp2_with (first
              | (go_at_call 32; first | (with_reducible refine (D1 _).mono ?_) | (with_reducible refine (D2 _).mono ?_); rintro e w' ⟨rfl, rfl⟩)
              | (with_reducible refine wpList_store_row rfl _ _ _ rfl w.heap.size #[.int .u8 0, .int .u8 0, .int .u8 0, .int .u8 0, .int .u8 0, .int .u8 0, .int .u8 0, .int .u8 0, .int .u8 0, .int .u8 0, .int .u8 0, .int .u8 0, .int .u8 0, .int .u8 0, .int .u8 0, .int .u8 0, .int .u8 0, .int .u8 0, .int .u8 0, .int .u8 0, .int .u8 0, .int .u8 0, .int .u8 0, .int .u8 0, .int .u8 0, .int .u8 0, .int .u8 0, .int .u8 0, .int .u8 0, .int .u8 0, .int .u8 0, .int .u8 0] rfl rfl 23 _ gB HZI.out rfl HZ1.out ?_))
            refine bodyPost_ret (results_cell_tmp_row Try.results9 _ _ w.heap.size 23 #[.int .u8 0, .int .u8 0, .int .u8 0, .int .u8 0, .int .u8 0, .int .u8 0, .int .u8 0, .int .u8 0, .int .u8 0, .int .u8 0, .int .u8 0, .int .u8 0, .int .u8 0, .int .u8 0, .int .u8 0, .int .u8 0, .int .u8 0, .int .u8 0, .int .u8 0, .int .u8 0, .int .u8 0, .int .u8 0, .int .u8 0, .int .u8 0, .int .u8 0, .int .u8 0, .int .u8 0, .int .u8 0, .int .u8 0, .int .u8 0, .int .u8 0, .int .u8 0] (0, 0) _ rfl (setRow_heap _ _ _ _ _ _ gB) Try.underlying23 rfl HZI.out) rfl ⟨Or.inr ⟨HF.out, by rw [zeroL_cells]; rfl⟩, below_set (HKC.out C) (Nat.le_refl _) _⟩
          | true =>
            have eo := or_u8 v1 v2 l1 l2
            have hCs : C.size = 32 := by
              obtain ⟨r, _, hr, hC⟩ := HC.out
              rw [hC, fpA_size]
              simp [hr]
              omega
            have HNX : Hid (ReadIn s.data.toList (i + 1) (C.setIfInBounds i (.int .u8 ((v1 * 16 + v2 : Nat) : Int)))) := Lib.hid (by
              obtain ⟨r, hu, hr, hC⟩ := HC.out
              have hv : (UInt8.ofNat (v1 * 16 + v2)).toNat = v1 * 16 + v2 := by rw [UInt8.toNat_ofNat']; omega
              refine ⟨r ++ [UInt8.ofNat (v1 * 16 + v2)], ?_, by simp [hr], ?_⟩
              · rw [HT.out, unhex_snoc a b _ r hu, VA.out, VB.out]
                rfl
              · have := fpA_set r i (UInt8.ofNat (v1 * 16 + v2)) hr hlt
                rw [hv] at this
                rw [hC, this])
            go_wp2_with (go_at_call 32; first | (with_reducible refine (D1 _).mono ?_) | (with_reducible refine (D2 _).mono ?_); rintro e w' ⟨rfl, rfl⟩)
            go_roundw
            case rel => exact ⟨i + 1, _, by omega, by go_num, HNX, rfl⟩
            case measure => simp [intOf]; omega
      · obtain rfl : i = 32 := by omega
        have gB : ((w.alloc (.cells #[.int .u8 0, .int .u8 0, .int .u8 0, .int .u8 0, .int .u8 0, .int .u8 0, .int .u8 0, .int .u8 0, .int .u8 0, .int .u8 0, .int .u8 0, .int .u8 0, .int .u8 0, .int .u8 0, .int .u8 0, .int .u8 0, .int .u8 0, .int .u8 0, .int .u8 0, .int .u8 0, .int .u8 0, .int .u8 0, .int .u8 0, .int .u8 0, .int .u8 0, .int .u8 0, .int .u8 0, .int .u8 0, .int .u8 0, .int .u8 0, .int .u8 0, .int .u8 0] 23)).alloc (.cells C 23)).heap[w.heap.size]? = some (.cells #[.int .u8 0, .int .u8 0, .int .u8 0, .int .u8 0, .int .u8 0, .int .u8 0, .int .u8 0, .int .u8 0, .int .u8 0, .int .u8 0, .int .u8 0, .int .u8 0, .int .u8 0, .int .u8 0, .int .u8 0, .int .u8 0, .int .u8 0, .int .u8 0, .int .u8 0, .int .u8 0, .int .u8 0, .int .u8 0, .int .u8 0, .int .u8 0, .int .u8 0, .int .u8 0, .int .u8 0, .int .u8 0, .int .u8 0, .int .u8 0, .int .u8 0, .int .u8 0] 23 (0, 0)) := heap_alloc2_old w _ _
        have gC : ((w.alloc (.cells #[.int .u8 0, .int .u8 0, .int .u8 0, .int .u8 0, .int .u8 0, .int .u8 0, .int .u8 0, .int .u8 0, .int .u8 0, .int .u8 0, .int .u8 0, .int .u8 0, .int .u8 0, .int .u8 0, .int .u8 0, .int .u8 0, .int .u8 0, .int .u8 0, .int .u8 0, .int .u8 0, .int .u8 0, .int .u8 0, .int .u8 0, .int .u8 0, .int .u8 0, .int .u8 0, .int .u8 0, .int .u8 0, .int .u8 0, .int .u8 0, .int .u8 0, .int .u8 0] 23)).alloc (.cells C 23)).heap[w.heap.size + 1]? = some (.cells C 23 (0, 0)) := heap_alloc2_new w _ _
        have HP : Hid (∃ r, parseL s.data.toList = some r ∧ C = fpA r ∧ r.length = 32) := Lib.hid (by
          obtain ⟨r, hu, hr, hC⟩ := HC.out
          rw [List.take_of_length_le (by rw [HLL.out]; decide)] at hu
          exact ⟨r, HPL.out.trans hu, by rw [hC]; simp, hr⟩)
        have HCI : Hid ((Try.prog.info? 23).map (·.size) = some C.size) := Lib.hid (by
          obtain ⟨r, _, hC, hr⟩ := HP.out
          rw [hC]; exact fp_info r hr)
        have HC1 : Hid (C.all (·.oneCell') = true) := Lib.hid (by
          obtain ⟨r, _, hC, hr⟩ := HP.out
          rw [hC]; exact fpA_one r)
        have HCS : Hid ((#[.int .u8 0, .int .u8 0, .int .u8 0, .int .u8 0, .int .u8 0, .int .u8 0, .int .u8 0, .int .u8 0, .int .u8 0, .int .u8 0, .int .u8 0, .int .u8 0, .int .u8 0, .int .u8 0, .int .u8 0, .int .u8 0, .int .u8 0, .int .u8 0, .int .u8 0, .int .u8 0, .int .u8 0, .int .u8 0, .int .u8 0, .int .u8 0, .int .u8 0, .int .u8 0, .int .u8 0, .int .u8 0, .int .u8 0, .int .u8 0, .int .u8 0, .int .u8 0] : Array Value).size = C.size) := Lib.hid (by
          obtain ⟨r, _, hC, hr⟩ := HP.out
          rw [hC, fpA_size, hr]; rfl)
        go_wp2_with (first
          | (with_reducible refine wpList_load_row rfl _ _ rfl (w.heap.size + 1) rfl 23 C (0, 0) _ gC Try.underlying23 rfl HCI.out ?_)
          | (with_reducible refine wpList_store_row rfl _ _ _ rfl w.heap.size C rfl rfl 23 _ gB HCI.out HCS.out HC1.out ?_))
        refine bodyPost_ret (results_cell_tmp_row Try.results9 _ _ w.heap.size 23 C (0, 0) _ rfl (setRow_heap _ _ _ _ _ _ gB) Try.underlying23 rfl HCI.out) rfl ⟨Or.inl ?_, below_set (HKC.out C) (Nat.le_refl _) _⟩
        obtain ⟨r, hp, hC, _⟩ := HP.out
        exact ⟨r, hp, by rw [hC]; rfl⟩
  · have hl64 : ¬ s.data.toList.length = 64 := by omega
    have b65 : ((s.size : Int) == 64) = false := by rw [beq_eq_false_iff_ne]; omega
    have b64 : (!((s.size : Int) == 64)) = true := by rw [b65]; rfl
    have HF : Hid (parseL s.data.toList = none) := Lib.hid (by unfold parseL; rw [if_neg hl64])
    have HK0 := Lib.hid K0
    clear hz hl64 h64 K0
    go_enter Try.func9, Try.ntmps9
    go_wp2_with (with_reducible refine wpList_store_row rfl _ _ _ rfl w.heap.size #[.int .u8 0, .int .u8 0, .int .u8 0, .int .u8 0, .int .u8 0, .int .u8 0, .int .u8 0, .int .u8 0, .int .u8 0, .int .u8 0, .int .u8 0, .int .u8 0, .int .u8 0, .int .u8 0, .int .u8 0, .int .u8 0, .int .u8 0, .int .u8 0, .int .u8 0, .int .u8 0, .int .u8 0, .int .u8 0, .int .u8 0, .int .u8 0, .int .u8 0, .int .u8 0, .int .u8 0, .int .u8 0, .int .u8 0, .int .u8 0, .int .u8 0, .int .u8 0] rfl rfl 23 _ gA HZI.out rfl HZ1.out ?_)
    refine bodyPost_ret (results_cell_tmp_row Try.results9 _ _ w.heap.size 23 #[.int .u8 0, .int .u8 0, .int .u8 0, .int .u8 0, .int .u8 0, .int .u8 0, .int .u8 0, .int .u8 0, .int .u8 0, .int .u8 0, .int .u8 0, .int .u8 0, .int .u8 0, .int .u8 0, .int .u8 0, .int .u8 0, .int .u8 0, .int .u8 0, .int .u8 0, .int .u8 0, .int .u8 0, .int .u8 0, .int .u8 0, .int .u8 0, .int .u8 0, .int .u8 0, .int .u8 0, .int .u8 0, .int .u8 0, .int .u8 0, .int .u8 0, .int .u8 0] (0, 0) _ rfl (setRow_heap _ _ _ _ _ _ gA) Try.underlying23 rfl HZI.out) rfl ⟨Or.inr ⟨HF.out, by rw [zeroL_cells]; rfl⟩, below_set HK0.out (Nat.le_refl _) _⟩

end Go.Proofs.Ythgjooacapodnaa
