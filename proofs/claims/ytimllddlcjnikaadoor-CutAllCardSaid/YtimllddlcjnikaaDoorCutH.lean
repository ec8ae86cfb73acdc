/- The walk of CutAll. -/
import Derived.Test.YtimllddlcjnikaaDoorCutG
namespace Go.Proofs.YtimllddlcjnikaaDoor
open Go.RowKit

theorem cutN_zero_len (mn mx dm db : Nat) (h1 : 1 ≤ mn) (h2 : mn ≤ mx) (l : List UInt8) (h : cutN mn mx dm db l = 0) : l.length < mx := by
  refine Classical.byContradiction fun hn => ?_
  unfold cutN at h
  simp only at h
  split at h
  · rename_i h3; exact h3 h
  · split at h
    · rename_i h3; exact h3 h
    · omega

/-- How long the chunks are. -/
theorem spl_sizes {f : List UInt8 → Nat} (mn mx : Nat) (h1 : 1 ≤ mn) (h2 : mn ≤ mx) (hle : ∀ l, f l ≤ l.length) (hin : ∀ l, f l = 0 ∨ (mn ≤ f l ∧ f l ≤ mx)) (hz : ∀ l, f l = 0 → l.length < mx) :
    ∀ n l, l.length ≤ n → ∀ i (h : i < (spl f l).length), 1 ≤ ((spl f l)[i]).length ∧ ((spl f l)[i]).length ≤ mx ∧ (i + 1 < (spl f l).length → mn ≤ ((spl f l)[i]).length) := by
  intro n
  induction n with
  | zero =>
    intro l hl i h
    have e : l = [] := List.eq_nil_of_length_eq_zero (by omega)
    subst e
    rw [spl_nil hle] at h
    simp at h
  | succ n ih =>
    intro l hl i h
    by_cases hl0 : l = []
    · subst hl0
      rw [spl_nil hle] at h
      simp at h
    by_cases h0 : f l = 0
    · have e := spl_zero h0 hl0
      have hi : i = 0 := by rw [e] at h; simpa using h
      subst hi
      have hlp : l.length ≠ 0 := fun x => hl0 (List.eq_nil_of_length_eq_zero x)
      have := hz l h0
      simp only [e, List.getElem_cons_zero, List.length_singleton]
      exact ⟨by omega, by omega, fun x => by omega⟩
    · have hb := hin l
      have hl2 := hle l
      have e := spl_cut (f := f) (l := l) (by omega) hl2
      cases i with
      | zero =>
        simp only [e, List.getElem_cons_zero, List.length_take]
        exact ⟨by omega, by omega, fun _ => by omega⟩
      | succ i =>
        have hi : i < (spl f (l.drop (f l))).length := by rw [e] at h; simpa using h
        have := ih (l.drop (f l)) (by rw [List.length_drop]; omega) i hi
        simp only [e, List.getElem_cons_succ, List.length_cons]
        exact ⟨this.1, this.2.1, fun x => this.2.2 (by omega)⟩

theorem allL_sizes (a b c d : Int) (l : List UInt8) (i : Nat) (h : i < (allL a b c d l).length) : 1 ≤ ((allL a b c d l)[i]).length ∧ (((allL a b c d l)[i]).length : Int) ≤ b ∧ (i + 1 < (allL a b c d l).length → a ≤ (((allL a b c d l)[i]).length : Int)) := by
  by_cases hM : MayC a b c d
  · obtain ⟨mn, mx, dm, db, rfl, rfl, rfl, rfl, h1, h2, h3, h4, h5, h6, h7⟩ := mayC_nats hM
    have he : allL mn mx dm db l = spl (cutI mn mx dm db) l := by unfold allL; rw [if_pos hM]
    have hf : ∀ l, cutI mn mx dm db l = cutN mn mx dm db l := fun l => by unfold cutI; rw [if_pos hM]; rfl
    have := spl_sizes (f := cutI mn mx dm db) mn mx h1 h2 (cutI_le _ _ _ _) (fun l => by rw [hf]; rcases cutN_in mn mx dm db h1 h2 l with x | x; exact Or.inl x; exact Or.inr ⟨x.1, x.2.1⟩) (fun l x => cutN_zero_len mn mx dm db h1 h2 l (by rw [← hf]; exact x)) _ l (Nat.le_refl _)
    rw [← he] at this
    have t := this i h
    exact ⟨t.1, by have := t.2.1; omega, fun x => by have := t.2.2 x; omega⟩
  · exfalso
    have he : allL a b c d l = [] := by unfold allL; rw [if_neg hM]
    rw [he] at h
    simp at h

theorem text_ne2 {a b : ByteArray} (h : a ≠ b) : (a.toList == b.toList) = false := by
  rw [Lib.toList_data, Lib.toList_data, beq_eq_false_iff_ne]
  exact fun e => h (ByteArray.ext (Array.ext' e))

set_option maxRecDepth 100000 in
set_option maxHeartbeats 8000000 in
theorem walk_cutAll (s0 : ByteArray) (_hs : s0.size ≤ maxLen) (C : Array Value) (a b c d : Int) (hC : IsConf C a b c d) (w : World) (hT : TabAt w) :
    Calls Tryd.prog 4 #[.string s0, .agg C] w (LawPost w) := by
  have hss := fewB_size s0
  have FS := few_any s0
  obtain ⟨s, hs⟩ : ∃ s, s = fewB s0 := ⟨_, rfl⟩
  rw [← hs] at hss FS
  have AL := allc_any s (by omega) C a b c d hC
  have SP := splitc_any s (by omega) C a b c d hC
  have RS := rsplit_any s (by omega) C a b c d hC
  have RM := rmay_any C a b c d hC
  have hsz := allL_sizes a b c d s.data.toList
  have hlen := allL_len a b c d s.data.toList
  have hsum := allL_sum a b c d s.data.toList
  rw [data_len] at hsum
  rw [data_len] at hlen
  have hfl : (MayC a b c d ∧ str (allL a b c d s.data.toList).flatten = s) ∨ (¬ MayC a b c d ∧ allL a b c d s.data.toList = []) := by
    by_cases hM : MayC a b c d
    · exact Or.inl ⟨hM, by rw [allL_join a b c d _ hM, str_data]⟩
    · exact Or.inr ⟨hM, by unfold allL; rw [if_neg hM]⟩
  obtain ⟨L, hL⟩ : ∃ L, L = allL a b c d s.data.toList := ⟨_, rfl⟩
  rw [← hL] at AL SP RS hsz hlen hfl hsum
  have hml : (L.map List.length).length = L.length := by simp
  have hstl := strs_len L
  have SA := fun v u w' h h' => same_any (strs L) (by rw [strs_len]; omega) v u w' h h'
  have HLI : Hid ((Tryd.prog.info? 23).map (·.size) = some C.size) := by rw [hC.size]; exact info_conf
  have gC := heap_alloc_last w (.cells C 23)
  have K0 := box_below w (.cells C 23)
  have HC := Lib.hid hC
  have HML := Lib.hid hml
  have HSTL := Lib.hid hstl
  have HSZ := Lib.hid hsz
  have HFL := Lib.hid hfl
  have HSUM := Lib.hid (Nat.le_trans hsum hss)
  clear hsum hs hC _hs hL hml hstl hsz hfl
  go_enter Tryd.func4, Tryd.ntmps4
  go_wp2_with fail
  refine (FS _).mono ?_
  rintro e w' ⟨rfl, rfl⟩
  go_wp2_with (with_reducible refine wpList_load_row rfl _ _ rfl w.heap.size rfl 23 C (0, 0) _ gC Tryd.underlying23 rfl HLI.out ?_)
  refine (AL _ (hT.later K0)).mono ?_
  rintro e w1 ⟨v1, rfl, hv1, hb1⟩
  have g1 := (hb1.block _ (Array.getElem?_eq_some_iff.1 gC).1).trans gC
  have K1 := Below.then' K0 hb1 K0.size
  clear hb1 gC K0
  go_wp2_with (with_reducible refine wpList_load_row rfl _ _ rfl w.heap.size rfl 23 C (0, 0) _ g1 Tryd.underlying23 rfl HLI.out ?_)
  refine (SP _ (hT.later K1)).mono ?_
  rintro e w2 ⟨v2, rfl, hv2, hb2⟩
  have g2 := (hb2.block _ (Array.getElem?_eq_some_iff.1 g1).1).trans g1
  have K2 := Below.then' K1 hb2 K1.size
  have hv12 := hv1.later hb2
  clear hb2 g1 K1 hv1
  go_wp2_with (with_reducible refine wpList_load_row rfl _ _ rfl w.heap.size rfl 23 C (0, 0) _ g2 Tryd.underlying23 rfl HLI.out ?_)
  refine (RS _).mono ?_
  rintro e w3 ⟨v3, rfl, hv3, hb3⟩
  have g3 := (hb3.block _ (Array.getElem?_eq_some_iff.1 g2).1).trans g2
  have K3 := Below.then' K2 hb3 K2.size
  have hv13 := hv12.later hb3
  have hv23 := hv2.later hb3
  clear hb3 g2 K2 hv12 hv2
  go_wp2_with fail
  refine (SA _ _ _ hv23 hv3).mono ?_
  rintro e w4 ⟨rfl, hb4⟩
  have g4 := (hb4.block _ (Array.getElem?_eq_some_iff.1 g3).1).trans g3
  have K4 := Below.then' K3 hb4 K3.size
  have hv14 := hv13.later hb4
  have hv24 := hv23.later hb4
  clear hb4 g3 K3 hv13 hv23 hv3
  obtain ⟨p1, c1, rfl, hc1⟩ := hv14
  obtain ⟨p2, c2, rfl, hc2⟩ := hv24
  rw [HML.out, HSTL.out]
  have HC1 := Lib.hid hc1
  have HC2 := Lib.hid hc2
  clear hc1 hc2
  go_wp2_with fail
  refine (awake_any _ (hT.later K4)).mono ?_
  rintro e w5 ⟨rfl, hb5⟩
  have g5 := (hb5.block _ (Array.getElem?_eq_some_iff.1 g4).1).trans g4
  have K5 := Below.then' K4 hb5 K4.size
  clear AL SP RS SA FS
  go_wp2
  go_loopw [7, 8] (fun x y wr => ∃ (i : Nat), i ≤ L.length ∧ y = .int .i64 i ∧ x = .string (str (L.take i).flatten) ∧ Below w5.heap.size w5 wr) (fun _ y _ => L.length - (intOf y).toNat)
  case atStart => exact ⟨0, Nat.zero_le _, rfl, rfl, Below.refl _ _⟩
  case round =>
    obtain ⟨i, hi, rfl, rfl, K⟩ := hrel
    have gw := (K.block _ (Array.getElem?_eq_some_iff.1 g5).1).trans g5
    have hcc := HC.out
    have q0 : wr.cell? ⟨w.heap.size, 0, none⟩ = some (.int .i64 a) := (cell_of_row _ _ _ _ _ _ gw).trans hcc.c0
    have q1 : wr.cell? ⟨w.heap.size, 1, none⟩ = some (.int .i64 b) := (cell_of_row _ _ _ _ _ _ gw).trans hcc.c1
    clear hcc
    by_cases hlt : i < L.length
    · rcases HC1.out with h | ⟨b1, o1, rfl, hcell1⟩
      · have := HML.out; rw [h] at this; simp at this; omega
      rcases HC2.out with h | ⟨b2, o2, rfl, hcell2⟩
      · have := HSTL.out; rw [h] at this; simp at this; omega
      have k1 := hcell1 i (by have := HML.out; omega)
      have k2 := hcell2 i (by have := HSTL.out; omega)
      have hgd : (L.map List.length).getD i 0 = L[i].length := by simp [List.getD, hlt]
      have hgs : (strs L)[i]'(by have := HSTL.out; omega) = str L[i] := by simp [strs]
      rw [hgd] at k1
      rw [hgs] at k2
      obtain ⟨s1, s2, s3⟩ := HSZ.out i hlt
      have hflat : str (L.take i).flatten ++ str L[i] = str (L.take (i + 1)).flatten := by
        rw [str_append, List.take_succ_eq_append_getElem hlt, List.flatten_append]
        simp
      have hxs := str_size L[i]
      obtain ⟨x, hx⟩ : ∃ x, x = str L[i] := ⟨_, rfl⟩
      obtain ⟨q, hq⟩ : ∃ q, q = L[i].length := ⟨_, rfl⟩
      rw [← hx] at k2 hflat hxs
      rw [← hq] at k1 s1 s2 s3 hxs
      have j1 := (hb5.cell (World.block_lt_of_cell? _ _ k1)).trans k1
      have j2 := (hb5.cell (World.block_lt_of_cell? _ _ k2)).trans k2
      have m1 := (K.cell (World.block_lt_of_cell? _ _ j1)).trans j1
      have m2 := (K.cell (World.block_lt_of_cell? _ _ j2)).trans j2
      obtain ⟨A, hA⟩ : ∃ A, A = str (L.take i).flatten := ⟨_, rfl⟩
      rw [← hA] at hflat ⊢
      have hAx : A.size + x.size ≤ 6000 := by
        have h1 := congrArg ByteArray.size hflat
        rw [ByteArray.size_append, str_size] at h1
        have h2 : L.flatten.length = (L.take (i + 1)).flatten.length + (L.drop (i + 1)).flatten.length := by rw [← List.length_append, ← List.flatten_append, List.take_append_drop]
        have := HSUM.out
        omega
      have hAi : (A.size : Int) + (x.size : Int) ≤ 6000 := by omega
      have HF := Lib.hid hflat
      have t1 : decide ((q : Int) < 1) = false := decide_eq_false (by omega)
      have t2 : decide (b < (q : Int)) = false := decide_eq_false (by omega)
      have hii : (i : Int) < L.length := by omega
      clear hcell1 hcell2 hgd hgs hx hq hA hflat k1 k2 j1 j2
      rcases Nat.lt_or_ge (i + 1) L.length with hn | hn
      · have t3 : decide ((i : Int) + 1 < L.length) = true := decide_eq_true (by omega)
        have t4 : decide ((q : Int) < a) = false := decide_eq_false (by have := s3 hn; omega)
        clear s3
        go_wp2
        go_quiet (fail)
        go_wp2
        go_roundw
        case rel => exact ⟨i + 1, by omega, by go_num, congrArg Value.string HF.out, below_drewN' K _⟩
        case measure => simp [intOf]; omega
      · have t3 : decide ((i : Int) + 1 < L.length) = false := decide_eq_false (by omega)
        clear s3
        go_wp2
        go_quiet (fail)
        go_wp2
        go_roundw
        case rel => exact ⟨i + 1, by omega, by go_num, congrArg Value.string HF.out, below_drewN' K _⟩
        case measure => simp [intOf]; omega
    · obtain rfl : i = L.length := by omega
      rw [List.take_length]
      have K6 := Below.then' K5 K K5.size
      rcases HFL.out with ⟨hM, hfl⟩ | ⟨hM, hfl⟩
      · rw [hfl]
        clear hM hfl HC1 HC2 HSZ
        go_wp2
        go_ret
        exact ⟨rfl, K6⟩
      · subst hfl
        rw [decide_eq_false hM] at RM
        have he : str ([] : List (List UInt8)).flatten = ⟨#[]⟩ := rfl
        rw [he]
        by_cases hse : s = ⟨#[]⟩
        · subst hse
          clear hM HC1 HC2 HSZ he HFL
          go_wp2
          go_ret
          exact ⟨rfl, K6⟩
        · have hne2 : ¬ s.toList = [] := fun x => hse (ByteArray.ext (Array.ext' (by rw [Lib.toList_data] at x; exact x)))
          have hne3 : decide (s.toList = []) = false := decide_eq_false hne2
          have hne4 : (([] : List UInt8) == s.toList) = false := beq_eq_false_iff_ne.2 (fun x => hne2 x.symm)
          have hne5 : ((⟨#[]⟩ : ByteArray).toList == s.toList) = false := text_ne2 (fun x => hse x.symm)
          clear hM HC1 HC2 HSZ he HFL hse
          go_wp2_with ((with_reducible refine wpList_load_rowG ?hwG _ _ rfl w.heap.size rfl 23 C (0, 0) _ gw Tryd.underlying23 rfl HLI.out ?hmG) <;> first | (exact rfl) | assumption | skip)
          refine (RM _).mono ?_
          rintro e w7 ⟨rfl, hb7⟩
          go_wp2
          go_ret
          exact ⟨rfl, Below.then' K6 hb7 K6.size⟩

end Go.Proofs.YtimllddlcjnikaaDoor
