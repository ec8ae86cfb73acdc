/- Of: the walk. -/
import Derived.Test.YthgjooacapodnaaHkO
namespace Go.Proofs.Ythgjooacapodnaa
open Go.RowKit

theorem take_keep (ls : List (List UInt8)) (q : List UInt8 → Bool) (j : Nat) (hj : j < ls.length) : (ls.take (j + 1)).filter q = if q ls[j] then (ls.take j).filter q ++ [ls[j]] else (ls.take j).filter q := by
  rw [List.take_succ_eq_append_getElem hj, List.filter_append]
  cases h : q ls[j] <;> simp [h]

theorem all32_filter {ls : List (List UInt8)} (h : All32 ls) (q : List UInt8 → Bool) : All32 (ls.filter q) := fun l hl => h l (List.mem_filter.1 hl).1

/-- The state of a loop that keeps some. -/
def KeepIn (B k : Nat) (q : List UInt8 → Bool) (ls : List (List UInt8)) (v : Value) (w wr : World) : Prop := OwnFps B ((ls.take k).filter q) v wr ∧ Below B w wr

theorem keep_len (q : List UInt8 → Bool) (ls : List (List UInt8)) (k : Nat) : ((ls.take k).filter q).length ≤ ls.length :=
  Nat.le_trans (List.length_filter_le _ _) (by rw [List.length_take]; omega)

set_option maxRecDepth 100000 in
set_option maxHeartbeats 4000000 in
/-- Of. -/
theorem of_n (m : Int) (p : Option Addr) (c n : Nat) (ls : List (List UInt8)) (hn : n = ls.length) (hs : n ≤ 1000000) (w : World) (h : FpsAt 32 ls (.slice p n c) w) :
    Calls Try.prog 26 #[.slice p n c, .int .i64 m] w fun e w' => ∃ v', e = .returned v' ∧ OwnFps w.heap.size (setL (ls.filter fun l => hookB l m)) v' w' ∧ Below w.heap.size w w' := by
  obtain ⟨i, hi, hi1, hi2, z, hz, hzs⟩ := info_fp
  have HF : Hid (FpsAt 32 ls (.slice p ls.length c) w) := by rw [← hn]; exact h
  have HN := Lib.hid hn
  have HO := hooksOf_any m w
  have HK := fun l (hl : l.length = 32) W (hc : W.cell? ⟨w.heap.size, 0, none⟩ = some (.int .i64 (min m 256))) => hook_any l hl (min m 256) w.heap.size W hc
  have HKK : Hid (∀ l : List UInt8, l.length = 32 → ∀ W : World, W.cell? ⟨w.heap.size, 0, none⟩ = some (.int .i64 (min m 256)) → Calls Try.prog 44 #[.agg (fpA l), .pointer (some ⟨w.heap.size, 0, none⟩)] W fun e w' => e = .returned (.bool (hookB l m)) ∧ Below W.heap.size W w') := HK
  obtain ⟨q, hq⟩ : ∃ q, q = fun l => hookB l m := ⟨_, rfl⟩
  have HQ : Hid (∀ l : List UInt8, l.length = 32 → ∀ W : World, W.cell? ⟨w.heap.size, 0, none⟩ = some (.int .i64 (min m 256)) → Calls Try.prog 44 #[.agg (fpA l), .pointer (some ⟨w.heap.size, 0, none⟩)] W fun e w' => e = .returned (.bool (q l)) ∧ Below W.heap.size W w') := by rw [hq]; exact HK
  obtain ⟨y, hy⟩ : ∃ y : Int, y = min m 256 := ⟨_, rfl⟩
  rw [← hy] at HO HQ
  rw [← hq]
  clear hn h HK HKK hq hy
  go_enter Try.func26, Try.ntmps26
  go_wp2_with fail
  refine HO.mono ?_
  rintro e w1 ⟨rfl, gX, hb1⟩
  have hlt : w.heap.size < w1.heap.size := (Array.getElem?_eq_some_iff.1 gX).1
  have cX : w1.cell? ⟨w.heap.size, 0, none⟩ = some (.int .i64 y) := by rw [cell_of_row _ _ 0 _ _ _ gX]; rfl
  have HX := Lib.hid (fun (W : World) (k : Below w1.heap.size w1 W) => (k.cell (p := ⟨w.heap.size, 0, none⟩) hlt).trans cX)
  have HB1 := Lib.hid hb1
  have HF1 := Lib.hid (HF.out.later hb1)
  clear gX cX HO hb1
  go_wp2
  go_loopw [6, 8, 13] (fun u _z x wr => ∃ (k : Nat) (v : Value), k ≤ n ∧ x = .int .i64 k ∧ v = u ∧ Hid (KeepIn w1.heap.size k q ls v w1 wr)) (fun _ _ x _ => n - (intOf x).toNat)
  case atStart => exact ⟨0, _, by omega, rfl, rfl, by
    refine ⟨?_, Below.refl _ _⟩
    exact OwnFps.nil _ _⟩
  case round =>
    obtain ⟨k, v, hkn, rfl, rfl, HI⟩ := hrel
    by_cases hltk : k < n
    · have hkl : k < ls.length := by rw [← HN.out]; exact hltk
      have hltz : (k : Int) < (n : Int) := by omega
      have bz : decide ((k : Int) < (n : Int)) = true := by simpa using hltz
      obtain ⟨b, off, cs, t, fr, hp, hg, E1⟩ := HF1.out.elem hkl
      subst hp
      have g1 : wr.heap[b]? = some (.cells cs t fr) := by rw [HI.out.2.block _ (Array.getElem?_eq_some_iff.1 hg).1]; exact hg
      have IX1 := fun w' => idx_at b off n c k hltk w'
      have hx32 := HF.out.1 _ (List.getElem_mem hkl)
      have KW : Below wr.heap.size wr (wr.alloc (.cells (fpA ls[k]) 23)) := (Below.refl _ _).alloc (Nat.le_refl _) _
      have gN : (wr.alloc (.cells (fpA ls[k]) 23)).heap[wr.heap.size]? = some (.cells (fpA ls[k]) 23 (0, 0)) := heap_alloc_new wr _
      have K1w : Below w1.heap.size w1 (wr.alloc (.cells (fpA ls[k]) 23)) := Below.then' HI.out.2 KW HI.out.2.size
      have C := HQ.out ls[k] hx32 _ (HX.out _ K1w)
      have HKP := Lib.hid (fun (w2 : World) (hb : Below (wr.alloc (.cells (fpA ls[k]) 23)).heap.size (wr.alloc (.cells (fpA ls[k]) 23)) w2) => (⟨(hb.block _ (Array.getElem?_eq_some_iff.1 gN).1).trans gN, Below.then' KW hb KW.size⟩ : w2.heap[wr.heap.size]? = some (.cells (fpA ls[k]) 23 (0, 0)) ∧ Below wr.heap.size wr w2))
      have TK := Lib.hid (take_keep ls q k hkl)
      have HONE := Lib.hid (fun (W : World) => fps_one W ls[k] hx32 1)
      have HXI : Hid ((Try.prog.info? 23).map (·.size) = some (fpA ls[k]).size) := fp_info _ hx32
      have HX1 : Hid ((fpA ls[k]).all (·.oneCell') = true) := fpA_one _
      have HXS : Hid ((fpA ls[k]).size = 32) := by rw [fpA_size]; exact hx32
      obtain ⟨X, hX⟩ : ∃ X, X = fpA ls[k] := ⟨_, rfl⟩
      obtain ⟨r, hr⟩ : ∃ r, r = q ls[k] := ⟨_, rfl⟩
      rw [← hX] at E1 C gN KW HKP HONE HXI HX1 HXS
      rw [← hr] at C
      have HR := Lib.hid hr
      have HX32 := Lib.hid hx32
      clear hX hr hg K1w hx32
      cases r with
      | false =>
        go_wp2_with (first
          | (with_reducible refine wpList_load_sub rfl _ _ rfl b (off + k * 32) 32 rfl t cs fr _ g1 Try.underlying23 rfl infoFp E1.1 X E1.2 ?_)
          | ((with_reducible refine wpList_store_row rfl _ _ _ rfl wr.heap.size X rfl rfl 23 _ (heap_alloc_last wr _) HXI.out ?_ HX1.out ?_); (· rw [HXS.out]; rfl); rw [World.setRow_alloc_new])
          | (with_reducible refine wpList_load_row rfl _ _ rfl wr.heap.size rfl 23 X (0, 0) _ gN Try.underlying23 rfl HXI.out ?_)
          | (go_at_call 44; refine C.mono ?_; rintro e w2 ⟨rfl, hb⟩))
        have K2 := (HKP.out _ hb).2
        go_roundw
        case rel => exact ⟨k + 1, _, by omega, by go_num, rfl, by
          refine ⟨?_, Below.then' HI.out.2 K2 HI.out.2.size⟩
          have h1 := TK.out
          rw [if_neg (by rw [← HR.out]; decide)] at h1
          rw [h1]
          exact HI.out.1.later K2⟩
        case measure => simp [intOf]; omega
      | true =>
        go_wp2_with (first
          | (with_reducible refine wpList_load_sub rfl _ _ rfl b (off + k * 32) 32 rfl t cs fr _ g1 Try.underlying23 rfl infoFp E1.1 X E1.2 ?_)
          | ((with_reducible refine wpList_store_row rfl _ _ _ rfl wr.heap.size X rfl rfl 23 _ (heap_alloc_last wr _) HXI.out ?_ HX1.out ?_); (· rw [HXS.out]; rfl); rw [World.setRow_alloc_new])
          | (with_reducible refine wpList_load_row rfl _ _ rfl wr.heap.size rfl 23 X (0, 0) _ gN Try.underlying23 rfl HXI.out ?_)
          | (with_reducible refine wpList_load_row rfl _ _ rfl wr.heap.size rfl 23 X (0, 0) _ gN2 Try.underlying23 rfl HXI.out ?_)
          | (with_reducible refine wpList_build1 rfl _ rfl X rfl HXS.out ?_)
          | (at_builtin; refine wpList_append_fps rfl _ _ 37 rfl w1.heap.size 23 i z 32 Try.underlying37 hi hz hi1 hi2 hzs _ _ _ rfl (ho2.alloc _) _ [ls[k]] rfl (HONE.out _) ?qc2 ?qc3 ?qc4 ?_)
          | (go_at_call 44; refine C.mono ?_; rintro e w2 ⟨rfl, hb⟩; have gN2 := (HKP.out _ hb).1; have ho2 := (HI.out.1.later (HKP.out _ hb).2).2))
        case qc2 => have := keep_len q ls k; rw [← HN.out] at this; simp only [List.length_singleton]; unfold maxLen; omega
        case qc3 => have := keep_len q ls k; rw [← HN.out] at this; simp only [List.length_singleton]; omega
        case qc4 => simp only [World.size_alloc]; have h1 := (HKP.out _ hb).2.size; have h2 := HI.out.2.size; omega
        intro v' w3 hown hgrow
        have K2 := (HKP.out _ hb).2
        have l2 := (HI.out.1.later K2).lt
        go_wp2
        go_roundw
        case rel => exact ⟨k + 1, _, by omega, by go_num, rfl, by
          refine ⟨?_, ?_⟩
          · have h1 := TK.out
            rw [if_pos HR.out.symm] at h1
            rw [h1]
            exact own_snoc (all32_filter (all32_take HF.out.1 k) q) HX32.out hown
          · have k3 : Below w1.heap.size w1 w2 := Below.then' HI.out.2 K2 HI.out.2.size
            exact (k3.alloc k3.size _).grown hgrow (by simp only [World.size_alloc]; have := k3.size; omega) (fun kk hk => (l2 kk hk).1)⟩
        case measure => simp [intOf]; omega
    · obtain rfl : k = n := by omega
      have bz : decide ((k : Int) < (k : Int)) = false := by simp
      have hall : ls.take k = ls := List.take_of_length_le (by rw [← HN.out]; exact Nat.le_refl _)
      have hI := HI.out
      unfold KeepIn at hI
      rw [hall] at hI
      have hfl : (ls.filter q).length ≤ 1000000 := by
        have := List.length_filter_le q ls
        have h2 := HN.out
        omega
      have SA := set_any v (ls.filter q) hfl wr hI.1.fps
      have k3 : Below w.heap.size w wr := HB1.out.trans (hI.2.mono HB1.out.size)
      clear hI hall hfl HI
      go_wp2_with (go_at_call 22; refine SA.mono ?_; rintro e w3 ⟨v3, rfl, ho3, hb3⟩)
      go_ret
      exact ⟨_, rfl, ho3.base k3.size, Below.then' k3 hb3 k3.size⟩

theorem of_any (m : Int) (v : Value) (ls : List (List UInt8)) (hs : ls.length ≤ 1000000) (w : World) (h : FpsAt 32 ls v w) :
    Calls Try.prog 26 #[v, .int .i64 m] w fun e w' => ∃ v', e = .returned v' ∧ OwnFps w.heap.size (setL (ls.filter fun l => hookB l m)) v' w' ∧ Below w.heap.size w w' := by
  obtain ⟨p, c, rfl, _⟩ := h.2
  exact of_n m p c ls.length ls rfl hs w h

end Go.Proofs.Ythgjooacapodnaa
