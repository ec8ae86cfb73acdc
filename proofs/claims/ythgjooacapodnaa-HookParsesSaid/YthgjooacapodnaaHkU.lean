/- The document's Of, Minus, Common: the walks. -/
import Derived.Test.YthgjooacapodnaaHkV
namespace Go.Proofs.Ythgjooacapodnaa
open Go.RowKit

theorem rset_any (v : Value) (ls : List (List UInt8)) (hs : ls.length ≤ 1000000) (w : World) (h : FpsAt 32 ls v w) :
    Calls Try.prog 23 #[v] w fun e w' => ∃ v', e = .returned v' ∧ OwnFps w.heap.size (setL ls) v' w' ∧ Below w.heap.size w w' := by
  obtain ⟨p, c, rfl, _⟩ := h.2
  exact rset_n p c ls.length ls rfl hs w h

set_option maxRecDepth 100000 in
set_option maxHeartbeats 4000000 in
theorem rof_n (m : Int) (p : Option Addr) (c n : Nat) (ls : List (List UInt8)) (hn : n = ls.length) (hs : n ≤ 1000000) (w : World) (h : FpsAt 32 ls (.slice p n c) w) :
    Calls Try.prog 27 #[.slice p n c, .int .i64 m] w fun e w' => ∃ v', e = .returned v' ∧ OwnFps w.heap.size (setL (ls.filter fun l => hookB l m)) v' w' ∧ Below w.heap.size w w' := by
  obtain ⟨ti, hi, hi1, hi2, tz, hz, hzs⟩ := info_fp
  have HF : Hid (FpsAt 32 ls (.slice p ls.length c) w) := by rw [← hn]; exact h
  have HN := Lib.hid hn
  obtain ⟨q, hq⟩ : ∃ q, q = fun l => hookB l m := ⟨_, rfl⟩
  have HC : Hid (∀ l : List UInt8, l.length = 32 → ∀ W : World, Below w.heap.size w W → Calls Try.prog 17 #[.agg (fpA l), .int .i64 m] W fun e w' => e = .returned (.bool (q l)) ∧ Below W.heap.size W w') := by rw [hq]; exact fun l hl W _ => ris_any l hl m W
  rw [← hq]
  clear hn h hq
  go_enter Try.func27, Try.ntmps27
  go_wp2
  go_loopw [5, 6] (fun u x wr => ∃ (k : Nat) (v : Value), k ≤ n ∧ x = .int .i64 k ∧ v = u ∧ Hid (KeepIn w.heap.size k q ls v w wr)) (fun _ x _ => n - (intOf x).toNat)
  case atStart => exact ⟨0, _, by omega, rfl, rfl, ⟨OwnFps.nil _ _, Below.refl _ _⟩⟩
  case round =>
    obtain ⟨k, v, hkn, rfl, rfl, HI⟩ := hrel
    by_cases hltk : k < n
    · have hkl : k < ls.length := by rw [← HN.out]; exact hltk
      have hltz : (k : Int) < (n : Int) := by omega
      have bz : decide ((k : Int) < (n : Int)) = true := by simpa using hltz
      obtain ⟨b, off, cs, t, fr, hp, hg, E1⟩ := HF.out.elem hkl
      subst hp
      have g1 : wr.heap[b]? = some (.cells cs t fr) := by rw [HI.out.2.block _ (Array.getElem?_eq_some_iff.1 hg).1]; exact hg
      have IX1 := fun w' => idx_at b off n c k hltk w'
      have hx32 := HF.out.1 _ (List.getElem_mem hkl)
      have C := HC.out ls[k] hx32 wr HI.out.2
      have HKP := Lib.hid (fun (w2 : World) (hb : Below wr.heap.size wr w2) => (⟨(hb.block _ (Array.getElem?_eq_some_iff.1 g1).1).trans g1, HI.out.1.later hb⟩ : w2.heap[b]? = some (.cells cs t fr) ∧ OwnFps w.heap.size ((ls.take k).filter q) v w2))
      have TK := Lib.hid (take_keep ls q k hkl)
      have HONE := Lib.hid (fun (W : World) => fps_one W ls[k] hx32 1)
      have HXS : Hid ((fpA ls[k]).size = 32) := by rw [fpA_size]; exact hx32
      obtain ⟨X, hX⟩ : ∃ X, X = fpA ls[k] := ⟨_, rfl⟩
      obtain ⟨r, hr⟩ : ∃ r, r = q ls[k] := ⟨_, rfl⟩
      rw [← hX] at E1 C HONE HXS
      rw [← hr] at C
      have HR := Lib.hid hr
      have HX32 := Lib.hid hx32
      clear hX hr hg hx32
      cases r with
      | false =>
        go_wp2_with (first
          | (with_reducible refine wpList_load_sub rfl _ _ rfl b (off + k * 32) 32 rfl t cs fr _ g1 Try.underlying23 rfl infoFp E1.1 X E1.2 ?_)
          | (go_at_call 17; refine C.mono ?_; rintro e w2 ⟨rfl, hb⟩))
        go_roundw
        case rel => exact ⟨k + 1, _, by omega, by go_num, rfl, by
          refine ⟨?_, Below.then' HI.out.2 hb HI.out.2.size⟩
          have h1 := TK.out
          rw [if_neg (by rw [← HR.out]; decide)] at h1
          rw [h1]
          exact (HKP.out _ hb).2⟩
        case measure => simp [intOf]; omega
      | true =>
        go_wp2_with (first
          | (with_reducible refine wpList_load_sub rfl _ _ rfl b (off + k * 32) 32 rfl t cs fr _ g1 Try.underlying23 rfl infoFp E1.1 X E1.2 ?_)
          | (with_reducible refine wpList_load_sub rfl _ _ rfl b (off + k * 32) 32 rfl t cs fr _ g2 Try.underlying23 rfl infoFp E1.1 X E1.2 ?_)
          | (with_reducible refine wpList_build1 rfl _ rfl X rfl HXS.out ?_)
          | (at_builtin; refine wpList_append_fps rfl _ _ 37 rfl w.heap.size 23 ti tz 32 Try.underlying37 hi hz hi1 hi2 hzs _ _ _ rfl (ho2.alloc _) _ [ls[k]] rfl (HONE.out _) ?qc2 ?qc3 ?qc4 ?_)
          | (go_at_call 17; refine C.mono ?_; rintro e w2 ⟨rfl, hb⟩; have g2 := (HKP.out _ hb).1; have ho2 := (HKP.out _ hb).2.2))
        case qc2 => have := keep_len q ls k; rw [← HN.out] at this; simp only [List.length_singleton]; unfold maxLen; omega
        case qc3 => have := keep_len q ls k; rw [← HN.out] at this; simp only [List.length_singleton]; omega
        case qc4 => simp only [World.size_alloc]; have h1 := hb.size; have h2 := HI.out.2.size; omega
        intro v' w3 hown hgrow
        have l2 := (HKP.out _ hb).2.lt
        go_wp2
        go_roundw
        case rel => exact ⟨k + 1, _, by omega, by go_num, rfl, by
          refine ⟨?_, ?_⟩
          · have h1 := TK.out
            rw [if_pos HR.out.symm] at h1
            rw [h1]
            exact own_snoc (all32_filter (all32_take HF.out.1 k) q) HX32.out hown
          · have k3 : Below w.heap.size w w2 := Below.then' HI.out.2 hb HI.out.2.size
            exact (k3.alloc k3.size _).grown hgrow (by simp only [World.size_alloc]; have := k3.size; omega) (fun kk hk => (l2 kk hk).1)⟩
        case measure => simp [intOf]; omega
    · obtain rfl : k = n := by omega
      have bz : decide ((k : Int) < (k : Int)) = false := by simp
      have hall : ls.take k = ls := List.take_of_length_le (by rw [← HN.out]; exact Nat.le_refl _)
      have hI := HI.out
      unfold KeepIn at hI
      rw [hall] at hI
      have hfl : (ls.filter q).length ≤ 1000000 := by
        have := List.length_filter_le q ls
        have h2 := HN.out
        omega
      have SA := rset_any v (ls.filter q) hfl wr hI.1.fps
      have k3 : Below w.heap.size w wr := hI.2
      clear hI hall hfl HI
      go_wp2_with (go_at_call 23; refine SA.mono ?_; rintro e w3 ⟨v3, rfl, ho3, hb3⟩)
      go_ret
      exact ⟨_, rfl, ho3.base k3.size, Below.then' k3 hb3 k3.size⟩

theorem rof_any (m : Int) (v : Value) (ls : List (List UInt8)) (hs : ls.length ≤ 1000000) (w : World) (h : FpsAt 32 ls v w) :
    Calls Try.prog 27 #[v, .int .i64 m] w fun e w' => ∃ v', e = .returned v' ∧ OwnFps w.heap.size (setL (ls.filter fun l => hookB l m)) v' w' ∧ Below w.heap.size w w' := by
  obtain ⟨p, c, rfl, _⟩ := h.2
  exact rof_n m p c ls.length ls rfl hs w h

set_option maxRecDepth 100000 in
set_option maxHeartbeats 4000000 in
theorem rminus_n (p2 : Option Addr) (c2 n2 : Nat) (ys : List (List UInt8)) (hn2 : n2 = ys.length) (hs2 : n2 ≤ 1000000) (p : Option Addr) (c n : Nat) (ls : List (List UInt8)) (hn : n = ls.length) (hs : n ≤ 1000000) (w : World) (h : FpsAt 32 ls (.slice p n c) w) (h2 : FpsAt 32 ys (.slice p2 n2 c2) w) :
    Calls Try.prog 31 #[.slice p n c, .slice p2 n2 c2] w fun e w' => ∃ v', e = .returned v' ∧ OwnFps w.heap.size (setL (ls.filter fun l => !ys.contains l)) v' w' ∧ Below w.heap.size w w' := by
  obtain ⟨ti, hi, hi1, hi2, tz, hz, hzs⟩ := info_fp
  have HF : Hid (FpsAt 32 ls (.slice p ls.length c) w) := by rw [← hn]; exact h
  have HN := Lib.hid hn
  obtain ⟨q, hq⟩ : ∃ q, q = fun l => !ys.contains l := ⟨_, rfl⟩
  have HC : Hid (∀ l : List UInt8, l.length = 32 → ∀ W : World, Below w.heap.size w W → Calls Try.prog 25 #[.slice p2 n2 c2, .agg (fpA l)] W fun e w' => e = .returned (.bool (!q l)) ∧ Below W.heap.size W w') := by
    rw [hq]
    intro l hl W hW
    have := rhas_n l hl p2 c2 n2 ys hn2 hs2 W (h2.later hW)
    simpa using this
  rw [← hq]
  clear hn h hq h2 hn2 hs2
  go_enter Try.func31, Try.ntmps31
  go_wp2
  go_loopw [5, 6] (fun u x wr => ∃ (k : Nat) (v : Value), k ≤ n ∧ x = .int .i64 k ∧ v = u ∧ Hid (KeepIn w.heap.size k q ls v w wr)) (fun _ x _ => n - (intOf x).toNat)
  case atStart => exact ⟨0, _, by omega, rfl, rfl, ⟨OwnFps.nil _ _, Below.refl _ _⟩⟩
  case round =>
    obtain ⟨k, v, hkn, rfl, rfl, HI⟩ := hrel
    by_cases hltk : k < n
    · have hkl : k < ls.length := by rw [← HN.out]; exact hltk
      have hltz : (k : Int) < (n : Int) := by omega
      have bz : decide ((k : Int) < (n : Int)) = true := by simpa using hltz
      obtain ⟨b, off, cs, t, fr, hp, hg, E1⟩ := HF.out.elem hkl
      subst hp
      have g1 : wr.heap[b]? = some (.cells cs t fr) := by rw [HI.out.2.block _ (Array.getElem?_eq_some_iff.1 hg).1]; exact hg
      have IX1 := fun w' => idx_at b off n c k hltk w'
      have hx32 := HF.out.1 _ (List.getElem_mem hkl)
      have C := HC.out ls[k] hx32 wr HI.out.2
      have HKP := Lib.hid (fun (w2 : World) (hb : Below wr.heap.size wr w2) => (⟨(hb.block _ (Array.getElem?_eq_some_iff.1 g1).1).trans g1, HI.out.1.later hb⟩ : w2.heap[b]? = some (.cells cs t fr) ∧ OwnFps w.heap.size ((ls.take k).filter q) v w2))
      have TK := Lib.hid (take_keep ls q k hkl)
      have HONE := Lib.hid (fun (W : World) => fps_one W ls[k] hx32 1)
      have HXS : Hid ((fpA ls[k]).size = 32) := by rw [fpA_size]; exact hx32
      obtain ⟨X, hX⟩ : ∃ X, X = fpA ls[k] := ⟨_, rfl⟩
      obtain ⟨r, hr⟩ : ∃ r, r = q ls[k] := ⟨_, rfl⟩
      rw [← hX] at E1 C HONE HXS
      rw [← hr] at C
      have HR := Lib.hid hr
      have HX32 := Lib.hid hx32
      clear hX hr hg hx32
      cases r with
      | false =>
        go_wp2_with (first
          | (with_reducible refine wpList_load_sub rfl _ _ rfl b (off + k * 32) 32 rfl t cs fr _ g1 Try.underlying23 rfl infoFp E1.1 X E1.2 ?_)
          | (go_at_call 25; refine C.mono ?_; rintro e w2 ⟨rfl, hb⟩))
        go_roundw
        case rel => exact ⟨k + 1, _, by omega, by go_num, rfl, by
          refine ⟨?_, Below.then' HI.out.2 hb HI.out.2.size⟩
          have h1 := TK.out
          rw [if_neg (by rw [← HR.out]; decide)] at h1
          rw [h1]
          exact (HKP.out _ hb).2⟩
        case measure => simp [intOf]; omega
      | true =>
        go_wp2_with (first
          | (with_reducible refine wpList_load_sub rfl _ _ rfl b (off + k * 32) 32 rfl t cs fr _ g1 Try.underlying23 rfl infoFp E1.1 X E1.2 ?_)
          | (with_reducible refine wpList_load_sub rfl _ _ rfl b (off + k * 32) 32 rfl t cs fr _ g2 Try.underlying23 rfl infoFp E1.1 X E1.2 ?_)
          | (with_reducible refine wpList_build1 rfl _ rfl X rfl HXS.out ?_)
          | (at_builtin; refine wpList_append_fps rfl _ _ 37 rfl w.heap.size 23 ti tz 32 Try.underlying37 hi hz hi1 hi2 hzs _ _ _ rfl (ho2.alloc _) _ [ls[k]] rfl (HONE.out _) ?qc2 ?qc3 ?qc4 ?_)
          | (go_at_call 25; refine C.mono ?_; rintro e w2 ⟨rfl, hb⟩; have g2 := (HKP.out _ hb).1; have ho2 := (HKP.out _ hb).2.2))
        case qc2 => have := keep_len q ls k; rw [← HN.out] at this; simp only [List.length_singleton]; unfold maxLen; omega
        case qc3 => have := keep_len q ls k; rw [← HN.out] at this; simp only [List.length_singleton]; omega
        case qc4 => simp only [World.size_alloc]; have h1 := hb.size; have h2 := HI.out.2.size; omega
        intro v' w3 hown hgrow
        have l2 := (HKP.out _ hb).2.lt
        go_wp2
        go_roundw
        case rel => exact ⟨k + 1, _, by omega, by go_num, rfl, by
          refine ⟨?_, ?_⟩
          · have h1 := TK.out
            rw [if_pos HR.out.symm] at h1
            rw [h1]
            exact own_snoc (all32_filter (all32_take HF.out.1 k) q) HX32.out hown
          · have k3 : Below w.heap.size w w2 := Below.then' HI.out.2 hb HI.out.2.size
            exact (k3.alloc k3.size _).grown hgrow (by simp only [World.size_alloc]; have := k3.size; omega) (fun kk hk => (l2 kk hk).1)⟩
        case measure => simp [intOf]; omega
    · obtain rfl : k = n := by omega
      have bz : decide ((k : Int) < (k : Int)) = false := by simp
      have hall : ls.take k = ls := List.take_of_length_le (by rw [← HN.out]; exact Nat.le_refl _)
      have hI := HI.out
      unfold KeepIn at hI
      rw [hall] at hI
      have hfl : (ls.filter q).length ≤ 1000000 := by
        have := List.length_filter_le q ls
        have h2 := HN.out
        omega
      have SA := rset_any v (ls.filter q) hfl wr hI.1.fps
      have k3 : Below w.heap.size w wr := hI.2
      clear hI hall hfl HI
      go_wp2_with (go_at_call 23; refine SA.mono ?_; rintro e w3 ⟨v3, rfl, ho3, hb3⟩)
      go_ret
      exact ⟨_, rfl, ho3.base k3.size, Below.then' k3 hb3 k3.size⟩

theorem rminus_any (v v2 : Value) (ls ys : List (List UInt8)) (hs : ls.length ≤ 1000000) (hs2 : ys.length ≤ 1000000) (w : World) (h : FpsAt 32 ls v w) (h2 : FpsAt 32 ys v2 w) :
    Calls Try.prog 31 #[v, v2] w fun e w' => ∃ v', e = .returned v' ∧ OwnFps w.heap.size (minusL ls ys) v' w' ∧ Below w.heap.size w w' := by
  obtain ⟨p, c, rfl, _⟩ := h.2
  obtain ⟨p2, c2, rfl, _⟩ := h2.2
  exact rminus_n p2 c2 ys.length ys rfl hs2 p c ls.length ls rfl hs w h h2

set_option maxRecDepth 100000 in
set_option maxHeartbeats 1000000 in
/-- The document's Common. -/
theorem rcommon_any (va vb : Value) (xs ys : List (List UInt8)) (h1 : xs.length ≤ 1000000) (h2 : ys.length ≤ 1000000) (w : World) (ha : FpsAt 32 xs va w) (hb : FpsAt 32 ys vb w) :
    Calls Try.prog 30 #[va, vb] w fun e w' => e = .returned (.int .i64 (commonN xs ys : Nat)) ∧ Below w.heap.size w w' := by
  have SA := rset_any va xs h1 w ha
  have SM := fun W (k : Below w.heap.size w W) => rminus_any va vb xs ys h1 h2 W (ha.later k) (hb.later k)
  have hl := setL_le 32 xs ha.1
  have hm := minus_len xs ys ha.1
  obtain ⟨n, hn⟩ : ∃ n, n = commonN xs ys := ⟨_, rfl⟩
  have hcm : n = (setL xs).length - (minusL xs ys).length := hn
  rw [← hn]
  obtain ⟨A, hA⟩ : ∃ A, A = setL xs := ⟨_, rfl⟩
  obtain ⟨M, hM⟩ : ∃ M, M = minusL xs ys := ⟨_, rfl⟩
  rw [← hA] at SA hl hcm hm
  rw [← hM] at SM hcm hm
  have e1 : IntKind.i64.wrap ((A.length : Int) - (M.length : Int)) = (n : Int) := by simp [IntKind.wrap, IntKind.bits, IntKind.signed]; omega
  have e2 : ((A.length : Int) - (M.length : Int)) = (n : Int) := by omega
  have hb1 : A.length ≤ 1000000 := by omega
  have hb2 : M.length ≤ 1000000 := by omega
  clear hA hM hn ha hb h1 h2 hl hm hcm
  go_enter Try.func30, Try.ntmps30
  go_wp2_with fail
  refine SA.mono ?_
  rintro e w1 ⟨v1, rfl, ho1, hb1⟩
  obtain ⟨p1, c1, rfl, -⟩ := ho1.fps.2
  have S2 := SM w1 hb1
  clear SA SM ho1
  go_wp2_with fail
  refine S2.mono ?_
  rintro e w2 ⟨v2, rfl, ho2, hb2⟩
  obtain ⟨p2, c2, rfl, -⟩ := ho2.fps.2
  clear S2 ho2
  go_wp2
  go_ret
  exact ⟨by first | rfl | (rw [← e2]; rfl), Below.then' hb1 hb2 hb1.size⟩

end Go.Proofs.Ythgjooacapodnaa
