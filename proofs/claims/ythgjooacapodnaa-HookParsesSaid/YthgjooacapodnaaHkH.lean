/- Has, the document's Has, Less, Same: the walks. -/
import Derived.Test.YthgjooacapodnaaHkM
namespace Go.Proofs.Ythgjooacapodnaa
open Go.RowKit

theorem idx_of (p : Addr) (n c k : Nat) (hk : k < n) (w : World) : (Instr.indexAt 37 (.slice (some ⟨p.block, p.off, none⟩) n c) (.int .i64 k)).run Try.prog w = .ok (.pointer (some ⟨p.block, p.off + k * 32, none⟩)) w := idx_at _ _ _ _ _ hk w

theorem any_take (l : List UInt8) (ls : List (List UInt8)) (k : Nat) (hk : k < ls.length) : (ls.take (k + 1)).contains l = ((ls.take k).contains l || l == ls[k]) := by
  rw [Bool.eq_iff_iff, List.contains_iff_mem, List.take_succ_eq_append_getElem hk, List.mem_append, List.mem_singleton, Bool.or_eq_true, List.contains_iff_mem, beq_iff_eq]

set_option maxRecDepth 100000 in
set_option maxHeartbeats 2000000 in
/-- slices.Index: is it there? -/
theorem index_any (l : List UInt8) (hl : l.length = 32) (p : Option Addr) (c n : Nat) (ls : List (List UInt8)) (hn : n = ls.length) (hs : n ≤ 1000000) (w : World) (h : FpsAt 32 ls (.slice p n c) w) :
    Calls Try.prog 48 #[.slice p n c, .agg (fpA l)] w fun e w' => (∃ i : Int, e = .returned (.int .i64 i) ∧ decide (i ≥ 0) = ls.contains l) ∧ Below w.heap.size w w' := by
  have HF : Hid (FpsAt 32 ls (.slice p ls.length c) w) := by rw [← hn]; exact h
  have O0 := OneRow.made w l
  have HI := Lib.hid (fp_info l hl)
  have HL := Lib.hid hl
  obtain ⟨F, hFF⟩ : ∃ F, F = fpA l := ⟨_, rfl⟩
  have K0 : Hid (Kept w (w.alloc (.cells F 23)) ∧ (w.alloc (.cells F 23)).heap[w.heap.size]? = some (.cells F 23 (0, 0))) := by rw [hFF]; exact ⟨O0.2, O0.1⟩
  rw [← hFF] at HI ⊢
  have HFF := Lib.hid hFF
  have HN := Lib.hid hn
  clear O0 hFF hn h hl
  go_enter Try.func48, Try.ntmps48
  go_wp2
  go_loopw [8] (fun x wr => ∃ (k : Nat), k ≤ n ∧ x = .int .i64 k ∧ Hid ((ls.take k).contains l = false) ∧ Hid (Kept w wr ∧ wr.heap[w.heap.size]? = some (.cells F 23 (0, 0)))) (fun x _ => n - (intOf x).toNat)
  case atStart => exact ⟨0, by omega, rfl, rfl, K0⟩
  case round =>
    clear K0
    obtain ⟨k, hkn, rfl, HC, HK⟩ := hrel
    by_cases hlt : k < n
    · have hkl : k < ls.length := by rw [← HN.out]; exact hlt
      have hltz : (k : Int) < (n : Int) := by omega
      have bz : decide ((k : Int) < (n : Int)) = true := by simpa using hltz
      obtain ⟨b, off, cs, t, fr, hp, hg, E1⟩ := HF.out.elem hkl
      subst hp
      have HG : Hid (wr.heap[b]? = some (.cells cs t fr)) := HK.out.1.row hg
      have HR : Hid (wr.heap[w.heap.size]? = some (.cells F 23 (0, 0))) := HK.out.2
      have IX1 := fun w' => idx_at b off n c k hlt w'
      have hx32 := HF.out.1 _ (List.getElem_mem hkl)
      have EQ := fun w' => eq_fp l ls[k] HL.out hx32 w'
      have AT := any_take l ls k hkl
      rw [HC.out, Bool.false_or] at AT
      obtain ⟨X, hX⟩ : ∃ X, X = fpA ls[k] := ⟨_, rfl⟩
      obtain ⟨q, hq⟩ : ∃ q, q = (l == ls[k]) := ⟨_, rfl⟩
      have hfx := HFF.out
      rw [← hX] at E1 EQ
      rw [← hfx, ← hq] at EQ
      rw [← hq] at AT
      have HAT := Lib.hid AT
      clear hX hq AT hx32 hg hfx
      go_wp2_with fail
      refine wp_region_kept (by kernel_rfl) (by kernel_rfl) ?_
      refine wpQuiet_load_row (by kernel_rfl) _ _ rfl w.heap.size rfl 23 F (0, 0) _ (fun _ h => h.row HR.out) Try.underlying23 rfl HI.out (fun K hK => ?_)
      go_simp
      refine hK _ ?_; clear hK K
      refine wpQuiet_pure (v := ?_) (by kernel_rfl) ?_ (fun K hK => ?_)
      case refine_2 => intro W _; go_simp; try with_reducible rfl
      go_simp
      refine hK _ ?_; clear hK K
      refine wpQuiet_pure (v := ?_) (by kernel_rfl) ?_ (fun K hK => ?_)
      case refine_2 => intro W _; go_simp; try with_reducible rfl
      go_simp
      refine hK _ ?_; clear hK K
      refine wpQuiet_pure (v := ?_) (by kernel_rfl) ?_ (fun K hK => ?_)
      case refine_2 => intro W _; go_simp; try with_reducible rfl
      go_simp
      refine hK _ ?_; clear hK K
      refine wpQuiet_load_sub (by kernel_rfl) _ _ rfl b (off + k * 32) 32 rfl t cs fr _ (fun _ h => h.row HG.out) Try.underlying23 rfl infoFp _ E1 (fun K hK => ?_)
      go_simp
      refine hK _ ?_; clear hK K
      refine wpQuiet_pure (by kernel_rfl) (.bool q) (fun W _ => by go_simp) (fun K hK => ?_)
      go_simp
      refine hK _ ?_; clear hK K
      refine wpQuiet_nil ?_
      intro w2 hk2
      have K2 : Hid (Kept w w2 ∧ w2.heap[w.heap.size]? = some (.cells F 23 (0, 0))) := ⟨HK.out.1.then hk2, hk2.row HK.out.2⟩
      cases q with
      | false =>
        go_wp2
        go_roundw
        case rel => exact ⟨k + 1, by omega, by go_num, HAT.out, K2⟩
        case measure => simp [intOf]; omega
      | true =>
        clear EQ IX1 E1 HC
        go_wp2
        go_ret
        refine ⟨⟨k, rfl, ?_⟩, K2.out.1⟩
        have h0 : (ls.take (k + 1)).contains l = true := HAT.out
        have h1 : ls.contains l = true := by
          rw [List.contains_iff_mem] at h0 ⊢
          exact List.mem_of_mem_take h0
        rw [h1]
        simp
    · obtain rfl : k = n := by omega
      have bz : decide ((k : Int) < (k : Int)) = false := by simp
      go_wp2
      go_ret
      refine ⟨⟨-1, rfl, ?_⟩, HK.out.1⟩
      have := HC.out
      rw [List.take_of_length_le (by rw [← HN.out]; exact Nat.le_refl _)] at this
      rw [this]
      rfl

set_option maxRecDepth 100000 in
set_option maxHeartbeats 1000000 in
theorem contains_any (l : List UInt8) (hl : l.length = 32) (p : Option Addr) (c n : Nat) (ls : List (List UInt8)) (hn : n = ls.length) (hs : n ≤ 1000000) (w : World) (h : FpsAt 32 ls (.slice p n c) w) :
    Calls Try.prog 39 #[.slice p n c, .agg (fpA l)] w fun e w' => e = .returned (.bool (ls.contains l)) ∧ Below w.heap.size w w' := by
  have g0 := heap_alloc_last w (.cells (fpA l) 23)
  have K0 : Below w.heap.size w (w.alloc (.cells (fpA l) 23)) := (Below.refl _ _).alloc (Nat.le_refl _) _
  have C := index_any l hl p c n ls hn hs _ (h.later K0)
  have HI := Lib.hid (fp_info l hl)
  obtain ⟨F, hFF⟩ : ∃ F, F = fpA l := ⟨_, rfl⟩
  rw [← hFF] at g0 K0 C HI ⊢
  obtain ⟨r, hr⟩ : ∃ r, r = ls.contains l := ⟨_, rfl⟩
  rw [← hr] at C ⊢
  clear hFF hr h hn hs hl
  go_enter Try.func39, Try.ntmps39
  go_wp2_with (first
    | (with_reducible refine wpList_load_row rfl _ _ rfl w.heap.size rfl 23 F (0, 0) _ g0 Try.underlying23 rfl HI.out ?_)
    | (go_at_call 48; refine C.mono ?_; rintro e w' ⟨⟨i, rfl, hi⟩, hb⟩))
  go_ret
  exact ⟨by rw [← hi]; rfl, Below.then' K0 hb K0.size⟩

set_option maxRecDepth 100000 in
set_option maxHeartbeats 1000000 in
/-- Has. -/
theorem has_any (l : List UInt8) (hl : l.length = 32) (v : Value) (ls : List (List UInt8)) (hs : ls.length ≤ 1000000) (w : World) (h : FpsAt 32 ls v w) :
    Calls Try.prog 24 #[v, .agg (fpA l)] w fun e w' => e = .returned (.bool (ls.contains l)) ∧ Below w.heap.size w w' := by
  obtain ⟨p, c, rfl, _⟩ := h.2
  have g0 := heap_alloc_last w (.cells (fpA l) 23)
  have K0 : Below w.heap.size w (w.alloc (.cells (fpA l) 23)) := (Below.refl _ _).alloc (Nat.le_refl _) _
  have C := contains_any l hl p c ls.length ls rfl hs _ (h.later K0)
  have HI := Lib.hid (fp_info l hl)
  obtain ⟨F, hFF⟩ : ∃ F, F = fpA l := ⟨_, rfl⟩
  rw [← hFF] at g0 K0 C HI ⊢
  obtain ⟨r, hr⟩ : ∃ r, r = ls.contains l := ⟨_, rfl⟩
  rw [← hr] at C ⊢
  clear hFF hr h hs hl
  go_enter Try.func24, Try.ntmps24
  go_wp2_with (first
    | (with_reducible refine wpList_load_row rfl _ _ rfl w.heap.size rfl 23 F (0, 0) _ g0 Try.underlying23 rfl HI.out ?_)
    | (go_at_call 39; refine C.mono ?_; rintro e w' ⟨rfl, hb⟩))
  go_ret
  exact ⟨rfl, Below.then' K0 hb K0.size⟩

set_option maxRecDepth 100000 in
set_option maxHeartbeats 2000000 in
/-- The document's Has. -/
theorem rhas_n (l : List UInt8) (hl : l.length = 32) (p : Option Addr) (c n : Nat) (ls : List (List UInt8)) (hn : n = ls.length) (hs : n ≤ 1000000) (w : World) (h : FpsAt 32 ls (.slice p n c) w) :
    Calls Try.prog 25 #[.slice p n c, .agg (fpA l)] w fun e w' => e = .returned (.bool (ls.contains l)) ∧ Below w.heap.size w w' := by
  have HF : Hid (FpsAt 32 ls (.slice p ls.length c) w) := by rw [← hn]; exact h
  have O0 := OneRow.made w l
  have HI := Lib.hid (fp_info l hl)
  have HL := Lib.hid hl
  obtain ⟨F, hFF⟩ : ∃ F, F = fpA l := ⟨_, rfl⟩
  have K0 : Hid (Kept w (w.alloc (.cells F 23)) ∧ (w.alloc (.cells F 23)).heap[w.heap.size]? = some (.cells F 23 (0, 0))) := by rw [hFF]; exact ⟨O0.2, O0.1⟩
  rw [← hFF] at HI ⊢
  have HFF := Lib.hid hFF
  have HN := Lib.hid hn
  clear O0 hFF hn h hl
  go_enter Try.func25, Try.ntmps25
  go_wp2
  go_loopw [5] (fun x wr => ∃ (k : Nat), k ≤ n ∧ x = .int .i64 k ∧ Hid ((ls.take k).contains l = false) ∧ Hid (Kept w wr ∧ wr.heap[w.heap.size]? = some (.cells F 23 (0, 0)))) (fun x _ => n - (intOf x).toNat)
  case atStart => exact ⟨0, by omega, rfl, rfl, K0⟩
  case round =>
    clear K0
    obtain ⟨k, hkn, rfl, HC, HK⟩ := hrel
    by_cases hlt : k < n
    · have hkl : k < ls.length := by rw [← HN.out]; exact hlt
      have hltz : (k : Int) < (n : Int) := by omega
      have bz : decide ((k : Int) < (n : Int)) = true := by simpa using hltz
      obtain ⟨b, off, cs, t, fr, hp, hg, E1⟩ := HF.out.elem hkl
      subst hp
      have HG : Hid (wr.heap[b]? = some (.cells cs t fr)) := HK.out.1.row hg
      have HR : Hid (wr.heap[w.heap.size]? = some (.cells F 23 (0, 0))) := HK.out.2
      have IX1 := fun w' => idx_at b off n c k hlt w'
      have hx32 := HF.out.1 _ (List.getElem_mem hkl)
      have EQ := fun w' => eq_fp ls[k] l hx32 HL.out w'
      have AT := any_take l ls k hkl
      rw [HC.out, Bool.false_or, show (l == ls[k]) = (ls[k] == l) from BEq.comm] at AT
      obtain ⟨X, hX⟩ : ∃ X, X = fpA ls[k] := ⟨_, rfl⟩
      obtain ⟨q, hq⟩ : ∃ q, q = (ls[k] == l) := ⟨_, rfl⟩
      have hfx := HFF.out
      rw [← hX] at E1 EQ
      rw [← hfx, ← hq] at EQ
      rw [← hq] at AT
      have HAT := Lib.hid AT
      clear hX hq AT hx32 hg hfx
      go_wp2_with fail
      refine wp_region_kept (by kernel_rfl) (by kernel_rfl) ?_
      refine wpQuiet_pure (v := ?_) (by kernel_rfl) ?_ (fun K hK => ?_)
      case refine_2 => intro W _; go_simp; try with_reducible rfl
      go_simp
      refine hK _ ?_; clear hK K
      refine wpQuiet_pure (v := ?_) (by kernel_rfl) ?_ (fun K hK => ?_)
      case refine_2 => intro W _; go_simp; try with_reducible rfl
      go_simp
      refine hK _ ?_; clear hK K
      refine wpQuiet_pure (v := ?_) (by kernel_rfl) ?_ (fun K hK => ?_)
      case refine_2 => intro W _; go_simp; try with_reducible rfl
      go_simp
      refine hK _ ?_; clear hK K
      refine wpQuiet_load_sub (by kernel_rfl) _ _ rfl b (off + k * 32) 32 rfl t cs fr _ (fun _ h => h.row HG.out) Try.underlying23 rfl infoFp _ E1 (fun K hK => ?_)
      go_simp
      refine hK _ ?_; clear hK K
      refine wpQuiet_load_row (by kernel_rfl) _ _ rfl w.heap.size rfl 23 F (0, 0) _ (fun _ h => h.row HR.out) Try.underlying23 rfl HI.out (fun K hK => ?_)
      go_simp
      refine hK _ ?_; clear hK K
      refine wpQuiet_pure (by kernel_rfl) (.bool q) (fun W _ => by go_simp) (fun K hK => ?_)
      go_simp
      refine hK _ ?_; clear hK K
      refine wpQuiet_nil ?_
      intro w2 hk2
      have K2 : Hid (Kept w w2 ∧ w2.heap[w.heap.size]? = some (.cells F 23 (0, 0))) := ⟨HK.out.1.then hk2, hk2.row HK.out.2⟩
      cases q with
      | false =>
        go_wp2
        go_roundw
        case rel => exact ⟨k + 1, by omega, by go_num, HAT.out, K2⟩
        case measure => simp [intOf]; omega
      | true =>
        clear EQ IX1 E1 HC
        go_wp2
        go_ret
        refine ⟨?_, K2.out.1⟩
        have h0 : (ls.take (k + 1)).contains l = true := HAT.out
        have h1 : ls.contains l = true := by
          rw [List.contains_iff_mem] at h0 ⊢
          exact List.mem_of_mem_take h0
        rw [h1]
        rfl
    · obtain rfl : k = n := by omega
      have bz : decide ((k : Int) < (k : Int)) = false := by simp
      go_wp2
      go_ret
      refine ⟨?_, HK.out.1⟩
      have := HC.out
      rw [List.take_of_length_le (by rw [← HN.out]; exact Nat.le_refl _)] at this
      rw [this]
      rfl

theorem rhas_any (l : List UInt8) (hl : l.length = 32) (v : Value) (ls : List (List UInt8)) (hs : ls.length ≤ 1000000) (w : World) (h : FpsAt 32 ls v w) :
    Calls Try.prog 25 #[v, .agg (fpA l)] w fun e w' => e = .returned (.bool (ls.contains l)) ∧ Below w.heap.size w w' := by
  obtain ⟨p, c, rfl, _⟩ := h.2
  exact rhas_n l hl p c ls.length ls rfl hs w h

set_option maxRecDepth 100000 in
set_option maxHeartbeats 2000000 in
/-- Same fingerprints? -/
theorem same_n (p1 p2 : Option Addr) (c1 c2 n m : Nat) (xs ys : List (List UInt8)) (hn : n = xs.length) (hm : m = ys.length) (hs : n ≤ 1000000) (w : World) (h1 : FpsAt 32 xs (.slice p1 n c1) w) (h2 : FpsAt 32 ys (.slice p2 m c2) w) :
    Calls Try.prog 21 #[.slice p1 n c1, .slice p2 m c2] w fun e w' => e = .returned (.bool (xs == ys)) ∧ Below w.heap.size w w' := by
  by_cases hnm : n = m
  · subst hnm
    have HF1 : Hid (FpsAt 32 xs (.slice p1 xs.length c1) w) := by rw [← hn]; exact h1
    have HF2 : Hid (FpsAt 32 ys (.slice p2 ys.length c2) w) := by rw [← hm]; exact h2
    have HN := Lib.hid hn
    have HM := Lib.hid hm
    clear hn hm h1 h2
    go_enter Try.func21, Try.ntmps21
    go_wp2
    go_loopw [5] (fun x wr => ∃ (k : Nat), k ≤ n ∧ x = .int .i64 k ∧ Hid (xs.take k = ys.take k) ∧ Hid (Kept w wr)) (fun x _ => n - (intOf x).toNat)
    case atStart => exact ⟨0, by omega, rfl, rfl, Kept.refl w⟩
    case round =>
      obtain ⟨k, hkn, rfl, HC, HK⟩ := hrel
      by_cases hlt : k < n
      · have hka : k < xs.length := by rw [← HN.out]; exact hlt
        have hkb : k < ys.length := by rw [← HM.out]; exact hlt
        have hltz : (k : Int) < (n : Int) := by omega
        have bz : decide ((k : Int) < (n : Int)) = true := by simpa using hltz
        obtain ⟨b1, o1, cs1, t1, fr1, hp1, hg1, E1⟩ := HF1.out.elem hka
        obtain ⟨b2, o2, cs2, t2, fr2, hp2, hg2, E2⟩ := HF2.out.elem hkb
        subst hp1 hp2
        have HG1 : Hid (wr.heap[b1]? = some (.cells cs1 t1 fr1)) := HK.out.row hg1
        have HG2 : Hid (wr.heap[b2]? = some (.cells cs2 t2 fr2)) := HK.out.row hg2
        have IX1 := fun w' => idx_at b1 o1 n c1 k hlt w'
        have IX2 := fun w' => idx_at b2 o2 n c2 k hlt w'
        have EQ := fun w' => eq_fp xs[k] ys[k] (HF1.out.1 _ (List.getElem_mem hka)) (HF2.out.1 _ (List.getElem_mem hkb)) w'
        obtain ⟨X, hX⟩ : ∃ X, X = fpA xs[k] := ⟨_, rfl⟩
        obtain ⟨Y, hY⟩ : ∃ Y, Y = fpA ys[k] := ⟨_, rfl⟩
        obtain ⟨q, hq⟩ : ∃ q, q = (xs[k] == ys[k]) := ⟨_, rfl⟩
        rw [← hX] at E1 EQ
        rw [← hY] at E2 EQ
        rw [← hq] at EQ
        have HQ := Lib.hid hq
        clear hX hY hq hg1 hg2
        go_wp2_with fail
        refine wp_region_kept (by kernel_rfl) (by kernel_rfl) ?_
        refine wpQuiet_pure (v := ?_) (by kernel_rfl) ?_ (fun K hK => ?_)
        case refine_2 => intro W _; go_simp; try with_reducible rfl
        go_simp
        refine hK _ ?_; clear hK K
        refine wpQuiet_pure (v := ?_) (by kernel_rfl) ?_ (fun K hK => ?_)
        case refine_2 => intro W _; go_simp; try with_reducible rfl
        go_simp
        refine hK _ ?_; clear hK K
        refine wpQuiet_pure (v := ?_) (by kernel_rfl) ?_ (fun K hK => ?_)
        case refine_2 => intro W _; go_simp; try with_reducible rfl
        go_simp
        refine hK _ ?_; clear hK K
        refine wpQuiet_load_sub (by kernel_rfl) _ _ rfl b1 (o1 + k * 32) 32 rfl t1 cs1 fr1 _ (fun _ h => h.row HG1.out) Try.underlying23 rfl infoFp _ E1 (fun K hK => ?_)
        go_simp
        refine hK _ ?_; clear hK K
        refine wpQuiet_pure (v := ?_) (by kernel_rfl) ?_ (fun K hK => ?_)
        case refine_2 => intro W _; go_simp; try with_reducible rfl
        go_simp
        refine hK _ ?_; clear hK K
        refine wpQuiet_pure (v := ?_) (by kernel_rfl) ?_ (fun K hK => ?_)
        case refine_2 => intro W _; go_simp; try with_reducible rfl
        go_simp
        refine hK _ ?_; clear hK K
        refine wpQuiet_pure (v := ?_) (by kernel_rfl) ?_ (fun K hK => ?_)
        case refine_2 => intro W _; go_simp; try with_reducible rfl
        go_simp
        refine hK _ ?_; clear hK K
        refine wpQuiet_load_sub (by kernel_rfl) _ _ rfl b2 (o2 + k * 32) 32 rfl t2 cs2 fr2 _ (fun _ h => h.row HG2.out) Try.underlying23 rfl infoFp _ E2 (fun K hK => ?_)
        go_simp
        refine hK _ ?_; clear hK K
        refine wpQuiet_pure (by kernel_rfl) (.bool (!q)) (fun W _ => by go_simp) (fun K hK => ?_)
        go_simp
        refine hK _ ?_; clear hK K
        refine wpQuiet_nil ?_
        intro w2 hk2
        have K2 : Hid (Kept w w2) := HK.out.then hk2
        cases q with
        | true =>
          go_wp2
          go_roundw
          case rel => exact ⟨k + 1, by omega, by go_num, by
            have e : xs[k] = ys[k] := eq_of_beq HQ.out.symm
            show xs.take (k + 1) = ys.take (k + 1)
            rw [List.take_succ_eq_append_getElem hka, List.take_succ_eq_append_getElem hkb, HC.out, e], K2⟩
          case measure => simp [intOf]; omega
        | false =>
          clear EQ IX1 IX2 E1 E2 HC
          go_wp2
          go_ret
          refine ⟨?_, K2.out⟩
          have e : (xs == ys) = false := by
            rw [beq_eq_false_iff_ne]
            rintro rfl
            have := HQ.out
            simp at this
          rw [e]
          rfl
      · obtain rfl : k = n := by omega
        have bz : decide ((k : Int) < (k : Int)) = false := by simp
        go_wp2
        go_ret
        refine ⟨?_, HK.out⟩
        have := HC.out
        rw [List.take_of_length_le (by rw [← HN.out]; exact Nat.le_refl _), List.take_of_length_le (by rw [← HM.out]; exact Nat.le_refl _)] at this
        rw [this]
        simp
  · have hne : (xs == ys) = false := by
      rw [beq_eq_false_iff_ne]
      rintro rfl
      exact hnm (by omega)
    have b1 : ((n : Int) == (m : Int)) = false := by rw [beq_eq_false_iff_ne]; omega
    have b2 : (!((n : Int) == (m : Int))) = true := by rw [b1]; rfl
    rw [hne]
    clear hne h1 h2 hn hm
    go_enter Try.func21, Try.ntmps21
    go_wp2
    go_ret
    exact ⟨rfl, Below.refl _ _⟩

theorem same_any (v1 v2 : Value) (xs ys : List (List UInt8)) (hs : xs.length ≤ 1000000) (w : World) (h1 : FpsAt 32 xs v1 w) (h2 : FpsAt 32 ys v2 w) :
    Calls Try.prog 21 #[v1, v2] w fun e w' => e = .returned (.bool (xs == ys)) ∧ Below w.heap.size w w' := by
  obtain ⟨p1, c1, rfl, _⟩ := h1.2
  obtain ⟨p2, c2, rfl, _⟩ := h2.2
  exact same_n p1 p2 c1 c2 _ _ xs ys rfl rfl hs w h1 h2

end Go.Proofs.Ythgjooacapodnaa
