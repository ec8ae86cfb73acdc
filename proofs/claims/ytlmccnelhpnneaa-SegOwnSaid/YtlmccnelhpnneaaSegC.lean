/- The walk of Cut (segments). -/
import Derived.Test.YtlmccnelhpnneaaSegB
namespace Go.Proofs.Ytlmccnelhpnneaa
open Go.RowKit

/-- Where nothing has ended: does a segment end with one more? -/
theorem ends_step {α : Type} (p : α → Bool) (mn mx : Nat) (h1 : 1 ≤ mn) (h2 : mn ≤ mx) (l : List α) (x : α) (n : Nat) (hn : n = l.length + 1) (h : segN p mn mx l = 0) :
    ((decide (mx ≤ n) || (decide (mn ≤ n) && p x)) = true → segN p mn mx (l ++ [x]) = n) ∧ ((decide (mx ≤ n) || (decide (mn ≤ n) && p x)) = false → segN p mn mx (l ++ [x]) = 0) := by
  subst hn
  have hs := segN_short p mn mx h1 h2 l h
  rw [segN_snoc p mn mx h1 l x h]
  constructor
  · intro e
    rw [if_pos]
    simp only [Bool.or_eq_true, Bool.and_eq_true, decide_eq_true_eq] at e
    rcases e with e | ⟨e1, e2⟩
    · exact ⟨by omega, Or.inl (by omega)⟩
    · exact ⟨e1, Or.inr e2⟩
  · intro e
    rw [if_neg]
    intro hc
    simp only [Bool.or_eq_false_iff, Bool.and_eq_false_iff, decide_eq_false_iff_not] at e
    rcases hc.2 with h3 | h3
    · omega
    · rcases e.2 with h4 | h4
      · exact h4 hc.1
      · rw [h3] at h4; cases h4

/-- The list goes on: one more of it. -/
theorem seg_next (p : List UInt8 → Bool) (mn mx : Nat) (h1 : 1 ≤ mn) (h2 : mn ≤ mx) (ls : List (List UInt8)) (k n : Nat) (hk : k < ls.length) (hn : n = k + 1) (h : segN p mn mx (ls.take k) = 0) :
    ((decide (mx ≤ n) || (decide (mn ≤ n) && p ls[k])) = true → segN p mn mx ls = n) ∧ ((decide (mx ≤ n) || (decide (mn ≤ n) && p ls[k])) = false → segN p mn mx (ls.take n) = 0) := by
  have hl : n = (ls.take k).length + 1 := by rw [List.length_take]; omega
  have st := ends_step p mn mx h1 h2 (ls.take k) ls[k] n hl h
  have e : ls.take n = ls.take k ++ [ls[k]] := by rw [hn]; exact List.take_succ_eq_append_getElem hk
  rw [← e] at st
  refine ⟨fun hb => ?_, st.2⟩
  have h3 := st.1 hb
  have h4 := segN_more p mn mx (ls.take n) (ls.drop n) h1 (by rw [h3]; omega)
  rw [List.take_append_drop, h3] at h4
  exact h4

set_option maxRecDepth 100000 in
set_option maxHeartbeats 4000000 in
theorem cutOk : CutOk := by
  intro p c n ls hn hs hcap C a b d hC w h
  have MA := mayOk C a b d hC
  have HLI : Hid ((Try.prog.info? 24).map (·.size) = some C.size) := by rw [hC.size]; exact info_conf
  have gC := heap_alloc_last w (.cells C 24)
  have K0 := box_below w (.cells C 24)
  by_cases hM : MayS a b d
  · have hcu : segI a b d ls = segN (markB d.toNat) a.toNat b.toNat ls := by unfold segI; rw [if_pos hM]
    rw [hcu]
    obtain ⟨mn, mx, dv, rfl, rfl, rfl, h1, h2, h3, h4, h5⟩ := mayS_nats hM
    rw [decide_eq_true hM] at MA
    simp only [Int.toNat_natCast]
    have EO := fun W => endsOf_any C mn mx dv hC ⟨h4, h5⟩ W
    have E1 := fun g1 g2 g3 n hn l hl W h => ends1_any C mn mx dv hC ⟨by omega, h3⟩ ⟨h4, h5⟩ g1 g2 g3 n hn l hl W h
    have NX := fun k n hk hn h => seg_next (markB dv) mn mx h1 h2 ls k n hk hn h
    have HN := Lib.hid hn
    obtain ⟨pm, hpm⟩ : ∃ pm, pm = markB dv := ⟨_, rfl⟩
    rw [← hpm] at E1 NX ⊢
    have HE1 := Lib.hid E1
    have HNX := Lib.hid NX
    have HZ0 : Hid (segN pm mn mx (ls.take 0) = 0) := Lib.hid (segN_nil pm mn mx h1)
    clear E1 NX hcu hM hpm
    obtain ⟨w0, hw0⟩ : ∃ w0, w0 = w.alloc (.cells C 24) := ⟨_, rfl⟩
    have HF : Hid (FpsAt 32 ls (.slice p ls.length c) w0) := by rw [← hn, hw0]; exact h.later K0
    have g0 : Hid (w0.heap[w.heap.size]? = some (.cells C 24 (0, 0))) := by rw [hw0]; exact gC
    have HK0 : Hid (Below w.heap.size w w0) := by rw [hw0]; exact K0
    have HW0 := Lib.hid hw0
    clear hw0 hn h hC K0
    go_enter Try.func11, Try.ntmps11
    go_wp2_with (with_reducible refine wpList_load_row rfl _ _ rfl w.heap.size rfl 24 C (0, 0) _ gC Try.underlying24 rfl HLI.out ?_)
    refine (MA _).mono ?_
    rintro e w1 ⟨rfl, hb1⟩
    rw [← HW0.out] at hb1
    have K1 : Kept w0 w1 := hb1
    have g1 := K1.row g0.out
    clear gC MA hb1
    go_wp2_with (with_reducible refine wpList_load_row rfl _ _ rfl w.heap.size rfl 24 C (0, 0) _ g1 Try.underlying24 rfl HLI.out ?_)
    refine (EO w1).mono ?_
    rintro e w2 ⟨q1, q2, q3, rfl, -, hE, hb2⟩
    unfold endsV
    have K2 := K1.then hb2
    have HK2 := Lib.hid K2
    have HEN := Lib.hid hE
    have HF2 : Hid (FpsAt 32 ls (.slice p ls.length c) w2) := HF.out.later K2
    clear EO hE hb2 K1 g1 K2
    go_wp2
    go_loopw [6, 7, 15] (fun _y _z x wr => ∃ k : Nat, k ≤ n ∧ x = .int .i64 k ∧ Hid (segN pm mn mx (ls.take k) = 0) ∧ Hid (Kept w2 wr)) (fun _ _ x _ => n - (intOf x).toNat)
    case atStart => exact ⟨0, by omega, rfl, HZ0, Lib.hid (Kept.refl w2)⟩
    case round =>
      obtain ⟨k, hkn, rfl, HZ, HK⟩ := hrel
      by_cases hltk : k < n
      · have hkl : k < ls.length := by rw [← HN.out]; exact hltk
        have hltz : (k : Int) < (n : Int) := by omega
        have bz : decide ((k : Int) < (n : Int)) = true := by simpa using hltz
        obtain ⟨b, off, cs, t, fr, hp, hg, EX⟩ := HF2.out.elem hkl
        subst hp
        have gr : wr.heap[b]? = some (.cells cs t fr) := HK.out.row hg
        have IX1 := fun w' => idx_at b off n c k hltk w'
        have hx32 := HF.out.1 _ (List.getElem_mem hkl)
        have KW : Kept wr (wr.alloc (.cells (fpA ls[k]) 37)) := (Below.refl _ _).alloc (Nat.le_refl _) _
        have gN : (wr.alloc (.cells (fpA ls[k]) 37)).heap[wr.heap.size]? = some (.cells (fpA ls[k]) 37 (0, 0)) := heap_alloc_new wr _
        have hE := (HEN.out.later HK.out).later KW
        obtain ⟨m, hm⟩ : ∃ m, m = k + 1 := ⟨_, rfl⟩
        have C := HE1.out q1 q2 q3 m (by omega) ls[k] hx32 _ hE
        have HKP := Lib.hid (fun (w3 : World) (hb : Kept (wr.alloc (.cells (fpA ls[k]) 37)) w3) => HK.out.then (KW.then hb))
        have NX := HNX.out k m hkl hm HZ.out
        have HXI : Hid ((Try.prog.info? 37).map (·.size) = some (fpA ls[k]).size) := fp_info _ hx32
        have HX1 : Hid ((fpA ls[k]).all (·.oneCell') = true) := fpA_one _
        have HXS : Hid ((fpA ls[k]).size = 32) := by rw [fpA_size]; exact hx32
        have v1 : IntKind.i64.wrap ((k : Int) + 1) = (m : Int) := by rw [show (k : Int) + 1 = (m : Int) by omega]; exact IntWalk.i64_in _ (by omega)
        obtain ⟨X, hX⟩ : ∃ X, X = fpA ls[k] := ⟨_, rfl⟩
        obtain ⟨r, hr⟩ : ∃ r, r = (decide (mx ≤ m) || (decide (mn ≤ m) && pm ls[k])) := ⟨_, rfl⟩
        rw [← hX] at EX C gN HXI HX1 HXS HKP
        rw [← hr] at C NX
        have HNX1 := Lib.hid NX
        have HMK := Lib.hid hm
        clear hX hr hg hx32 KW NX hE hm
        cases r with
        | false =>
          go_wp2_with (first
            | (with_reducible refine wpList_load_sub rfl _ _ rfl b (off + k * 32) 32 rfl t cs fr _ gr Try.underlying37 rfl infoFp EX.1 X EX.2 ?_)
            | ((with_reducible refine wpList_store_row rfl _ _ _ rfl wr.heap.size X rfl rfl 37 _ (heap_alloc_last wr _) HXI.out ?_ HX1.out ?_); (· rw [HXS.out]; rfl); rw [World.setRow_alloc_new])
            | (with_reducible refine wpList_load_row rfl _ _ rfl wr.heap.size rfl 37 X (0, 0) _ gN Try.underlying37 rfl HXI.out ?_)
            | (go_at_call 28; refine C.mono ?_; rintro e w3 ⟨rfl, hb⟩))
          go_roundw
          case rel => exact ⟨m, by have := HMK.out; omega, rfl, Lib.hid (HNX1.out.2 trivial), Lib.hid (HKP.out _ hb)⟩
          case measure => have := HMK.out; simp [intOf]; omega
        | true =>
          go_wp2_with (first
            | (with_reducible refine wpList_load_sub rfl _ _ rfl b (off + k * 32) 32 rfl t cs fr _ gr Try.underlying37 rfl infoFp EX.1 X EX.2 ?_)
            | ((with_reducible refine wpList_store_row rfl _ _ _ rfl wr.heap.size X rfl rfl 37 _ (heap_alloc_last wr _) HXI.out ?_ HX1.out ?_); (· rw [HXS.out]; rfl); rw [World.setRow_alloc_new])
            | (with_reducible refine wpList_load_row rfl _ _ rfl wr.heap.size rfl 37 X (0, 0) _ gN Try.underlying37 rfl HXI.out ?_)
            | (go_at_call 28; refine C.mono ?_; rintro e w3 ⟨rfl, hb⟩))
          go_ret
          have K4 := HK2.out.then (HKP.out _ hb)
          exact ⟨congrArg (fun x : Nat => Ending.returned (.int .i64 x)) (HNX1.out.1 trivial).symm, Below.then' HK0.out K4 HK0.out.size⟩
      · obtain rfl : k = n := by omega
        have bz : decide ((k : Int) < (k : Int)) = false := by simp
        have hall : ls.take k = ls := List.take_of_length_le (by rw [← HN.out]; exact Nat.le_refl _)
        have hz := HZ.out
        rw [hall] at hz
        have HZZ := Lib.hid hz
        clear hz hall HZ
        go_wp2
        go_ret
        have K4 := HK2.out.then HK.out
        exact ⟨congrArg (fun x : Nat => Ending.returned (.int .i64 x)) HZZ.out.symm, Below.then' HK0.out K4 HK0.out.size⟩
  · have hcu : segI a b d ls = 0 := by unfold segI; rw [if_neg hM]
    rw [hcu]
    rw [decide_eq_false hM] at MA
    clear hcu hC
    go_enter Try.func11, Try.ntmps11
    go_wp2_with (with_reducible refine wpList_load_row rfl _ _ rfl w.heap.size rfl 24 C (0, 0) _ gC Try.underlying24 rfl HLI.out ?_)
    refine (MA _).mono ?_
    rintro e w1 ⟨rfl, hb1⟩
    go_wp2
    go_ret
    exact ⟨rfl, Below.then' K0 hb1 K0.size⟩

end Go.Proofs.Ytlmccnelhpnneaa
