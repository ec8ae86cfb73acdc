/- The walk of strings.LastIndexAny over the text of the two signs. -/
import Derived.Test.YtmobkjdncfdokaaDoorIdxRune
import Derived.Deep.WholeRow
import Derived.Lib.AsciiSet
namespace Go.Proofs.YtmobkjdncfdokaaDoor
open Go.RowKit

theorem isSign_lt {r : Nat} (h : isSign r = true) : r < 128 := by
  unfold isSign at h
  simp at h
  omega

/-- The last sign of the bytes stands at k, and only ASCII bytes behind it. -/
def Hit (l : List UInt8) (k : Nat) : Prop := k < l.length ∧ isSign (l.getD k 0).toNat = true ∧ ∀ j, k < j → j < l.length → (l.getD j 0).toNat < 128 ∧ isSign (l.getD j 0).toNat = false

/-- What is asked of the index. -/
def LastPost (w : World) (l : List UInt8) (e : Ending) (w' : World) : Prop := (∃ v : Int, e = .returned (.int .i64 v) ∧ (-1 ≤ v ∧ v < l.length ∨ l = [] ∧ v = -1) ∧ ∀ k, Hit l k → v = (k : Int)) ∧ Below w.heap.size w w'

theorem infoSet : (Tryd.prog.info? 60).map (fun i => (i.zero, i.size)) = some (some (.agg (Array.replicate 256 (.bool false))), 256) := by kernel_rfl

theorem zeroSet : Tryd.zeroCells60 = Array.replicate 256 (.bool false) := by kernel_rfl

theorem signs_ascii : ∀ (j : Nat) b, signsB.data.toList[j]? = some b → b.toNat < 128 := by
  intro j b h
  have : j = 0 ∨ j = 1 ∨ 2 ≤ j := by omega
  rcases this with rfl | rfl | h2
  · simp at h; subst h; decide
  · simp at h; subst h; decide
  · simp at h
    rw [List.getElem?_eq_none (by simpa using h2)] at h
    cases h

theorem signs_contains (x : UInt8) : signsB.data.toList.contains x = isSign x.toNat := by
  have all : ∀ k : Fin 256, signsB.data.toList.contains (UInt8.ofNat k.val) = isSign k.val := by decide +kernel
  have := all ⟨x.toNat, x.toNat_lt⟩
  simpa using this

/-- What stands behind i is no sign. -/
def Behind (l : List UInt8) (i : Nat) : Prop := ∀ k, Hit l k → k < i

set_option maxRecDepth 100000 in
set_option maxHeartbeats 8000000 in
theorem lastAny_long (s : ByteArray) (h8 : 8 < s.size) (hs : s.size ≤ 1000000000) (w : World) :
    Calls Tryd.prog 16 #[.string s, .string signsB] w (LastPost w s.data.toList) := by
  have hM := Tryd.strings_makeASCIISet (zero_of_info infoSet).1 signsB w (by decide) signs_ascii
  have hlen := data_len s
  have hn1 : ((s.size : Int) == 1) = false := beq_eq_false_iff_ne.2 (by omega)
  have h8z : decide ((8 : Int) < (s.size : Int)) = true := decide_eq_true (by omega)
  have SU := Tryd.strings_shouldUseASCIISet (s.size : Int)
  rw [h8z] at SU
  have hsz := Lib.setCells_size signsB.data.toList
  have hat := fun x : UInt8 => (Lib.setCells_at signsB.data.toList x).trans (by rw [signs_contains])
  have hone := Lib.setCells_one signsB.data.toList
  obtain ⟨A, hA⟩ : ∃ A, A = Lib.setCells signsB.data.toList := ⟨_, rfl⟩
  rw [← hA] at hM hsz hat hone
  have hsc : (storeCells ⟨w.heap.size + 1, 0, none⟩ A.toList 0).run Tryd.prog ((w.alloc (.cells A 60)).alloc (.cells (Array.replicate 256 (.bool false)) 60)) = .ok () ((w.alloc (.cells A 60)).alloc (.cells A 60)) := by
    have := run_storeCells_new (P := Tryd.prog) (w.alloc (.cells A 60)) 60 (Array.replicate 256 (.bool false)) A (by rw [hsz]; exact (zero_of_info infoSet).2) (by simp [hsz]) hone
    simpa using this
  have hcellAt : ∀ x : UInt8, ((w.alloc (.cells A 60)).alloc (.cells A 60)).cell? ⟨w.heap.size + 1, x.toNat, none⟩ = some (.bool (isSign x.toNat)) := fun x => by
    rw [World.cell?_alloc_at _ _ _ _ (by simp), hat]
  have HC := Lib.hid hcellAt
  have HK : Hid (Below w.heap.size w ((w.alloc (.cells A 60)).alloc (.cells A 60))) := ((Below.refl _ _).alloc (Nat.le_refl _) _).alloc (by simp) _
  clear hcellAt hA hat
  go_enter Tryd.func16, Tryd.ntmps16
  go_wp2_with (first
    | (go_at_call 28; refine (SU _).mono ?_; rintro e w' ⟨rfl, hw⟩; rw [hw])
    | (go_at_call 29; refine hM.mono ?_; rintro e w' ⟨rfl, hw⟩; rw [hw]))
  rw [show Tryd.zeroCells60 = Array.replicate 256 (.bool false) from zeroSet]
  simp only [hsc, Result.andThen]
  rw [Oper.upon_skip]
  obtain ⟨W, hW⟩ : ∃ W, W = ((w.alloc (.cells A 60)).alloc (.cells A 60)) := ⟨_, rfl⟩
  rw [← hW] at HC HK ⊢
  clear hM hsc SU hW hone hsz h8z
  go_wp2
  go_loopw [8] (fun x wr => ∃ m : Nat, m ≤ s.size ∧ x = .int .i64 ((m : Int) - 1) ∧ wr = W ∧ Behind s.data.toList m) (fun x _ => (intOf x + 1).toNat)
  case atStart => exact ⟨s.size, Nat.le_refl _, rfl, rfl, fun k hk => by rw [← hlen]; exact hk.1⟩
  case round =>
    obtain ⟨m, hm, rfl, rfl, hB⟩ := hrel
    have HBd := Lib.hid hB
    clear hB
    by_cases h0 : m = 0
    · subst h0
      go_wp2
      go_ret
      exact ⟨⟨-1, rfl, Or.inl ⟨by omega, by omega⟩, fun k hk => absurd (HBd.out k hk) (by omega)⟩, HK.out⟩
    · have hi : m - 1 < s.size := by omega
      obtain ⟨i, rfl⟩ : ∃ i, m = i + 1 := ⟨m - 1, by omega⟩
      simp only [Nat.add_sub_cancel] at hi
      have ei : (((i + 1 : Nat) : Int) - 1) = (i : Int) := by omega
      rw [ei]
      obtain ⟨x, hx⟩ : ∃ x : UInt8, s[i]'hi = x := ⟨_, rfl⟩
      have hxl : s.data.toList.getD i 0 = x := by
        rw [List.getD_eq_getElem?_getD, Lib.data_getElem? s i hi, hx]; rfl
      have hcx := HC.out x
      have AC := flipW (Tryd.asciiSet_contains (w.heap.size + 1) x (isSign x.toNat) wr hcx)
      have hge : (0 : Int) ≤ (i : Int) := by omega
      have hxn : (s.data[i]'hi).toNat = x.toNat := by rw [← hx]; rfl
      have HX := Lib.hid hxl
      clear hxl
      cases hin : isSign x.toNat with
      | false =>
        rw [hin] at hcx AC
        have hnext : Behind s.data.toList i := fun k hk => by
          have h1 := HBd.out k hk
          by_cases e : k = i
          · subst e
            have h2 := hk.2.1
            rw [HX.out, hin] at h2
            cases h2
          · omega
        have HN := Lib.hid hnext
        clear hnext hin
        go_wp2_with fail
        refine AC.mono ?_
        rintro e w' ⟨rfl, rfl⟩
        go_wp2
        go_roundw
        case rel => exact ⟨i, by omega, rfl, trivial, HN.out⟩
        case measure => simp [intOf]
      | true =>
        rw [hin] at hcx AC
        have hres : ∀ k, Hit s.data.toList k → (i : Int) = (k : Int) := fun k hk => by
          have h1 := HBd.out k hk
          by_cases e : k = i
          · rw [e]
          · have h2 := (hk.2.2 i (by omega) (by rw [hlen]; exact hi)).2
            rw [HX.out, hin] at h2
            cases h2
        have HR := Lib.hid hres
        clear hres hin
        go_wp2_with fail
        refine AC.mono ?_
        rintro e w' ⟨rfl, rfl⟩
        go_wp2
        go_ret
        exact ⟨⟨i, rfl, Or.inl ⟨by omega, by omega⟩, HR.out⟩, HK.out⟩

set_option maxRecDepth 100000 in
set_option maxHeartbeats 4000000 in
theorem lastAny_one (s : ByteArray) (h1 : s.size = 1) (w : World) :
    Calls Tryd.prog 16 #[.string s, .string signsB] w (LastPost w s.data.toList) := by
  have hlen := data_len s
  have hn1 : ((s.size : Int) == 1) = true := beq_iff_eq.2 (by omega)
  obtain ⟨c, hc⟩ : ∃ c : UInt8, s.data.toList.getD 0 0 = c := ⟨_, rfl⟩
  have hcd : (s.data[0]'(by show 0 < s.size; omega)).toNat = c.toNat := by
    rw [← hc, List.getD_eq_getElem?_getD, Lib.data_getElem? s 0 (by omega)]; rfl
  have hc2 := c.toNat_lt
  obtain ⟨b, hb⟩ : ∃ b : Nat, c.toNat = b := ⟨_, rfl⟩
  rw [hb] at hcd hc2
  have hcs : (s[0]'(by omega)).toNat = b := hcd
  have hbi : (b : Int) < 256 := by omega
  have hpos : (0 : Int) < s.size := by omega
  have only : ∀ v : Int, (0 ≤ v ↔ isSign (if b < 128 then b else 65533) = true) → (0 ≤ v → ∀ k, Hit s.data.toList k → (0 : Int) = k) ∧ (¬ 0 ≤ v → ∀ k, Hit s.data.toList k → (-1 : Int) = k) := by
    intro v hv
    have hk0 : ∀ k, Hit s.data.toList k → k = 0 := fun k hk => by have := hk.1; omega
    refine ⟨fun _ k hk => by rw [hk0 k hk]; rfl, fun hn k hk => ?_⟩
    exfalso
    have := hk0 k hk
    subst this
    have h2 := hk.2.1
    rw [hc, hb] at h2
    have h3 : b < 128 := isSign_lt h2
    rw [if_pos h3] at hv
    exact hn (hv.2 h2)
  have HO := Lib.hid only
  have hcl : (s.data.toList.length : Int) = 1 := by omega
  clear only hc hb hlen
  have fin : ∀ (r : Nat), r = (if b < 128 then b else 65533) → ∀ v : Int, (0 ≤ v ↔ isSign r = true) → ∀ w', Below w.heap.size w w' → (0 ≤ v → LastPost w s.data.toList (.returned (.int .i64 0)) w') ∧ (¬ 0 ≤ v → LastPost w s.data.toList (.returned (.int .i64 (-1))) w') := by
    intro r hr v hv w' hb'
    subst hr
    exact ⟨fun h => ⟨⟨0, rfl, Or.inl ⟨by omega, by omega⟩, (HO.out v hv).1 h⟩, hb'⟩, fun h => ⟨⟨-1, rfl, Or.inl ⟨by omega, by omega⟩, (HO.out v hv).2 h⟩, hb'⟩⟩
  have HF := Lib.hid fin
  clear fin HO
  by_cases h128 : b < 128
  · have hge : ¬ ((128 : Int) ≤ (b : Int)) := by omega
    have I := idxRune_any b (by omega) w
    go_enter Tryd.func16, Tryd.ntmps16
    go_wp2_with fail
    refine I.mono ?_
    rintro e w' ⟨⟨v, rfl, hv⟩, hb'⟩
    have hf := HF.out b (by rw [if_pos h128]) v hv w' hb'
    have HFF := Lib.hid hf
    clear hf hv
    by_cases hv0 : 0 ≤ v
    · go_wp2
      go_ret
      exact HFF.out.1 hv0
    · go_wp2
      go_ret
      exact HFF.out.2 hv0
  · have hge : ((128 : Int) ≤ (b : Int)) := by omega
    have I := idxRune_any 65533 (by omega) w
    go_enter Tryd.func16, Tryd.ntmps16
    go_wp2_with fail
    refine I.mono ?_
    rintro e w' ⟨⟨v, rfl, hv⟩, hb'⟩
    have hf := HF.out 65533 (by rw [if_neg h128]) v hv w' hb'
    have HFF := Lib.hid hf
    clear hf hv
    by_cases hv0 : 0 ≤ v
    · go_wp2
      go_ret
      exact HFF.out.1 hv0
    · go_wp2
      go_ret
      exact HFF.out.2 hv0

theorem last_ascii (l : List UInt8) (i : Nat) (hi : i < l.length) (h : (l.getD i 0).toNat < 128) : Lib.decodeLastL (l.take (i + 1)) = ((l.getD i 0).toNat, 1) := by
  have hlen : (l.take (i + 1)).length = i + 1 := by rw [List.length_take]; omega
  have hne : l.take (i + 1) ≠ [] := by
    intro e
    have := congrArg List.length e
    rw [hlen] at this
    simp at this
  have hg : (l.take (i + 1)).getD ((l.take (i + 1)).length - 1) 0 = l.getD i 0 := by
    rw [hlen, Nat.add_sub_cancel, List.getD_eq_getElem?_getD, List.getD_eq_getElem?_getD, List.getElem?_take, if_pos (by omega)]
  unfold Lib.decodeLastL
  rw [if_neg hne, hg, if_pos h]

set_option maxRecDepth 100000 in
set_option maxHeartbeats 4000000 in
theorem lastAny_short (s : ByteArray) (h1 : s.size ≠ 1) (h8 : s.size ≤ 8) (w : World) (hT : TabAt w) :
    Calls Tryd.prog 16 #[.string s, .string signsB] w (LastPost w s.data.toList) := by
  have hlen := data_len s
  have hn1 : ((s.size : Int) == 1) = false := beq_eq_false_iff_ne.2 (by omega)
  have h8z : decide ((8 : Int) < (s.size : Int)) = false := decide_eq_false (by omega)
  have SU := fun w => flipW (Tryd.strings_shouldUseASCIISet (s.size : Int) w)
  rw [h8z] at SU
  go_enter Tryd.func16, Tryd.ntmps16
  go_wp2_with (go_at_call 28; refine (SU _).mono ?_; rintro e w' ⟨rfl, rfl⟩)
  go_loopw [13] (fun x wr => ∃ i : Nat, i ≤ s.size ∧ x = .int .i64 i ∧ Below w.heap.size w wr ∧ Behind s.data.toList i) (fun x _ => (intOf x).toNat)
  case atStart => exact ⟨s.size, Nat.le_refl _, rfl, Below.refl _ _, fun k hk => by rw [← hlen]; exact hk.1⟩
  case round =>
    obtain ⟨i, hi, rfl, hK, hB⟩ := hrel
    have HBd := Lib.hid hB
    clear hB SU
    by_cases h0 : i = 0
    · subst h0
      go_wp2
      go_ret
      refine ⟨⟨-1, rfl, ?_, fun k hk => absurd (HBd.out k hk) (by omega)⟩, hK⟩
      by_cases e : s.size = 0
      · right; exact ⟨List.length_eq_zero_iff.1 (by omega), rfl⟩
      · left; omega
    · have hpos : (0 : Int) < (i : Int) := by omega
      have hxd : (s.extract 0 i).data.toList = s.data.toList.take i := by rw [Lib.extract_data]; simp
      have hxs : (s.extract 0 i).size = i := by rw [Lib.size_eq, hxd, List.length_take, hlen]; omega
      have DL := Tryd.utf8_DecodeLastRuneInString (s.extract 0 i) wr (by omega) (hT.later hK).2.1
      rw [hxd] at DL
      have hk1 := Lib.decodeLastL_width (s.data.toList.take i) (by rw [List.length_take, hlen]; omega)
      rw [List.length_take, hlen, Nat.min_eq_left hi] at hk1
      have hr1 := Lib.decodeLastL_rune (s.data.toList.take i)
      have hlast : (s.data.toList.getD (i - 1) 0).toNat < 128 → Lib.decodeLastL (s.data.toList.take i) = ((s.data.toList.getD (i - 1) 0).toNat, 1) := fun h => by
        have := last_ascii s.data.toList (i - 1) (by omega) h
        rwa [show i - 1 + 1 = i by omega] at this
      obtain ⟨R, hR⟩ : ∃ R, (Lib.decodeLastL (s.data.toList.take i)).1 = R := ⟨_, rfl⟩
      obtain ⟨K, hKe⟩ : ∃ K, (Lib.decodeLastL (s.data.toList.take i)).2 = K := ⟨_, rfl⟩
      have hl2 : (s.data.toList.getD (i - 1) 0).toNat < 128 → R = (s.data.toList.getD (i - 1) 0).toNat ∧ K = 1 := fun h => by
        have := hlast h
        rw [this] at hR hKe
        exact ⟨hR.symm, hKe.symm⟩
      rw [hR, hKe] at DL
      rw [hKe] at hk1
      rw [hR] at hr1
      have res : ∀ v : Int, (0 ≤ v ↔ isSign R = true) → (0 ≤ v → ∀ k, Hit s.data.toList k → ((i : Int) - K) = k) ∧ (¬ 0 ≤ v → Behind s.data.toList (i - K)) := by
        intro v hv
        have small : ∀ k, Hit s.data.toList k → (s.data.toList.getD (i - 1) 0).toNat < 128 ∧ (k = i - 1 ∨ isSign (s.data.toList.getD (i - 1) 0).toNat = false) := by
          intro k hk
          have hki := HBd.out k hk
          by_cases e : k = i - 1
          · subst e
            have h2 := hk.2.1
            refine ⟨?_, Or.inl rfl⟩
            exact isSign_lt h2
          · have h2 := hk.2.2 (i - 1) (by omega) (by omega)
            exact ⟨h2.1, Or.inr h2.2⟩
        refine ⟨fun h k hk => ?_, fun h k hk => ?_⟩
        · obtain ⟨a1, a2⟩ := small k hk
          obtain ⟨b1, b2⟩ := hl2 a1
          rcases a2 with a2 | a2
          · omega
          · rw [← b1] at a2
            have := hv.1 h
            rw [a2] at this
            cases this
        · obtain ⟨a1, a2⟩ := small k hk
          obtain ⟨b1, b2⟩ := hl2 a1
          have hki := HBd.out k hk
          rcases a2 with a2 | a2
          · exfalso
            have h2 := hk.2.1
            rw [a2, ← b1] at h2
            exact h (hv.2 h2)
          · have : k ≠ i - 1 := by
              intro e
              subst e
              have h2 := hk.2.1
              rw [a2] at h2
              cases h2
            omega
      have HRS := Lib.hid res
      have hii : (i : Int) ≤ s.size := by omega
      clear res hl2 hlast hR hKe hxd hxs
      go_wp2_with fail
      refine DL.mono ?_
      rintro e w1 ⟨rfl, hb1⟩
      have K1 := Below.then' hK hb1 hK.size
      have I := idxRune_any R hr1 w1
      clear DL hb1 hK
      go_wp2_with fail
      refine I.mono ?_
      rintro e w2 ⟨⟨v, rfl, hv⟩, hb2⟩
      have K2 := Below.then' K1 hb2 K1.size
      have HFF := Lib.hid (HRS.out v hv)
      clear hv hb2 K1 I HRS
      by_cases hv0 : 0 ≤ v
      · go_wp2
        go_ret
        exact ⟨⟨(i : Int) - K, rfl, Or.inl ⟨by omega, by omega⟩, HFF.out.1 hv0⟩, K2⟩
      · go_wp2
        go_roundw
        case rel => exact ⟨i - K, by omega, by congr 1; omega, K2, HFF.out.2 hv0⟩
        case measure => simp [intOf]; omega

theorem lastAny_any (s : ByteArray) (hs : s.size ≤ 1000000000) (w : World) (hT : TabAt w) :
    Calls Tryd.prog 16 #[.string s, .string signsB] w (LastPost w s.data.toList) := by
  by_cases h1 : s.size = 1
  · exact lastAny_one s h1 w
  · by_cases h8 : s.size ≤ 8
    · exact lastAny_short s h1 h8 w hT
    · exact lastAny_long s (by omega) hs w

end Go.Proofs.YtmobkjdncfdokaaDoor
