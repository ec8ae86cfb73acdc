/- Clone, Compact of any slice, Set. Has, the document's Has, Less, Same: the walks. BinarySearchFunc, and what Minus deletes: the walks. What Minus deletes; IndexFunc, DeleteFunc: the walks. Minus, Common, Of: the walks. -/
import Derived.Test.YtaajadmaamjebaaHC
namespace Go.Proofs.Ytaajadmaamjebaa
open Go.RowKit

theorem info_fp : ∃ i : TypeInfo, Try.prog.info? 47 = some i ∧ i.size = 32 ∧ i.bytes = 32 ∧ ∃ z, i.zero = some z ∧ z.cells.size = 32 := by
  have h : (Try.prog.info? 47).map (fun i => (i.size, i.bytes, i.zero.map (fun z => z.cells.size))) = some (32, 32, some 32) := by kernel_rfl
  obtain ⟨i, hi, h⟩ := Option.map_eq_some_iff.1 h
  rw [Prod.mk.injEq, Prod.mk.injEq] at h
  obtain ⟨h1, h2, h3⟩ := h
  obtain ⟨z, hz, h4⟩ := Option.map_eq_some_iff.1 h3
  exact ⟨i, hi, h1, h2, z, hz, h4⟩

set_option maxRecDepth 100000 in
set_option maxHeartbeats 1000000 in
theorem clone_some (a : Addr) (c : Nat) (ls : List (List UInt8)) (hs : ls.length ≤ 1000000) (w : World) (h : FpsAt 32 ls (.slice (some a) ls.length c) w) :
    Calls Try.prog 40 #[.slice (some a) ls.length c] w fun e w' => ∃ v', e = .returned v' ∧ OwnFps w.heap.size ls v' w' ∧ Below w.heap.size w w' := by
  obtain ⟨i, hi, h1, h2, z, hz, hzs⟩ := info_fp
  have q22 : ∀ (w : World) (a : Option Addr) (n c n' c' : Nat), (binOp .eql 34 (.slice a n c) (.slice none n' c')).run Try.prog w = .ok (.bool a.isNone) w := fun w a n c n' c' => Lib.run_eql_slice_nil w _ _ a n c n' c' Try.underlying34
  have HF : Hid (FpsAt 32 ls (.slice (some a) ls.length c) w) := h
  have h32 := Lib.hid h.1
  obtain ⟨n, hn⟩ : ∃ n, n = ls.length := ⟨_, rfl⟩
  have HN := Lib.hid hn
  rw [← hn] at hs HF ⊢
  clear hn h
  go_enter Try.func40, Try.ntmps40
  go_wp2_with (at_builtin; refine wpList_append_fps rfl _ _ 34 rfl w.heap.size 47 i z 32 Try.underlying34 hi hz h1 h2 hzs _ _ _ rfl (World.ownsRow_made w #[] 0 (Nat.le_refl _) (Nat.zero_le _) (by simp)) _ ls rfl ?qc1 ?qc2 ?qc3 ?qc4 ?_)
  case qc1 =>
    have := HF.out.later ((Below.refl _ w).alloc (Nat.le_refl _) (.cells #[] 47))
    exact this
  case qc2 => rw [← HN.out]; unfold maxLen; omega
  case qc3 => rw [← HN.out]; omega
  case qc4 => simp
  intro v' w1 hown hgrow
  go_wp2
  go_ret
  refine ⟨_, rfl, ⟨h32.out, ?_⟩, ?_⟩
  · exact hown
  · exact ((Below.refl _ w).alloc (Nat.le_refl _) _).grown hgrow (by simp) (by intro k hk; simp [Value.ownBlock] at hk; omega)

set_option maxRecDepth 100000 in
theorem clone_none (n c : Nat) (w : World) :
    Calls Try.prog 40 #[.slice none n c] w fun e w' => e = .returned (.slice none 0 0) ∧ w' = w := by
  have q22 : ∀ (w : World) (a : Option Addr) (n c n' c' : Nat), (binOp .eql 34 (.slice a n c) (.slice none n' c')).run Try.prog w = .ok (.bool a.isNone) w := fun w a n c n' c' => Lib.run_eql_slice_nil w _ _ a n c n' c' Try.underlying34
  go_enter Try.func40, Try.ntmps40
  go_wp2
  go_ret
  exact ⟨rfl, rfl⟩

/-- slices.Clone of any slice of fingerprints. -/
theorem clone_any (v : Value) (ls : List (List UInt8)) (hs : ls.length ≤ 1000000) (w : World) (h : FpsAt 32 ls v w) :
    Calls Try.prog 40 #[v] w fun e w' => ∃ v', e = .returned v' ∧ OwnFps w.heap.size ls v' w' ∧ Below w.heap.size w w' := by
  obtain ⟨p, c, rfl, hc⟩ := h.2
  cases p with
  | some a => exact clone_some a c ls hs w h
  | none =>
    have h0 : ls = [] := by
      rcases hc with h0 | ⟨b, off, h0, _⟩
      · exact h0
      · cases h0
    subst h0
    refine (clone_none _ c w).mono ?_
    rintro e w' ⟨he, rfl⟩
    exact ⟨_, he, OwnFps.nil _ _, Below.refl _ _⟩

set_option maxRecDepth 100000 in
theorem compact_short (p : Option Addr) (n c : Nat) (h : n < 2) (w : World) :
    Calls Try.prog 43 #[.slice p n c] w fun e w' => e = .returned (.slice p n c) ∧ w' = w := by
  have h2' : (n : Int) < 2 := by omega
  have b2 : decide ((n : Int) < 2) = true := by simpa using h2'
  go_enter Try.func43, Try.ntmps43
  go_wp2
  go_ret
  exact ⟨rfl, rfl⟩

/-- slices.Compact of an own slice of fingerprints. -/
theorem compact_any (B : Nat) (ls : List (List UInt8)) (hs : ls.length ≤ 1000000) (v : Value) (w : World) (h : OwnFps B ls v w) :
    Calls Try.prog 43 #[v] w fun e w' => ∃ v', e = .returned v' ∧ OwnFps B (onceL ls) v' w' ∧ w.grownBy w' v.ownBlock ∧ v'.ownBlock = v.ownBlock := by
  rcases h.parts with ⟨rfl, rfl⟩ | ⟨g, cap, rest, rfl, hB, hr, hc, hm, hsz⟩
  · refine (compact_short none 0 0 (by decide) w).mono ?_
    rintro e w' ⟨he, rfl⟩
    exact ⟨_, he, h, grown_same _ _, rfl⟩
  · by_cases h2 : ls.length < 2
    · refine (compact_short _ _ cap h2 w).mono ?_
      rintro e w' ⟨he, rfl⟩
      have e1 : onceL ls = ls := by
        match ls, h2 with
        | [], _ => rfl
        | [a], _ => rfl
      rw [e1]
      exact ⟨_, he, h, grown_same _ _, rfl⟩
    · refine (compact_two g cap ls rest hs (by omega) hc w hr).mono ?_
      rintro e w' ⟨ms, rest', he, hms, hle, hr', hsz', hg⟩
      subst hms
      exact ⟨_, he, OwnFps.of_row hB hr' (by omega) hm (by omega), hg, rfl⟩

end Go.Proofs.Ytaajadmaamjebaa
namespace Go.Proofs.Ytaajadmaamjebaa
open Go.RowKit

theorem idx_of (p : Addr) (n c k : Nat) (hk : k < n) (w : World) : (Instr.indexAt 34 (.slice (some ⟨p.block, p.off, none⟩) n c) (.int .i64 k)).run Try.prog w = .ok (.pointer (some ⟨p.block, p.off + k * 32, none⟩)) w := idx_at _ _ _ _ _ hk w

theorem any_take (l : List UInt8) (ls : List (List UInt8)) (k : Nat) (hk : k < ls.length) : (ls.take (k + 1)).contains l = ((ls.take k).contains l || l == ls[k]) := by
  rw [Bool.eq_iff_iff, List.contains_iff_mem, List.take_succ_eq_append_getElem hk, List.mem_append, List.mem_singleton, Bool.or_eq_true, List.contains_iff_mem, beq_iff_eq]

set_option maxRecDepth 100000 in
set_option maxHeartbeats 2000000 in
/-- The document's Has. -/
theorem rhas_n (l : List UInt8) (hl : l.length = 32) (p : Option Addr) (c n : Nat) (ls : List (List UInt8)) (hn : n = ls.length) (hs : n ≤ 1000000) (w : World) (h : FpsAt 32 ls (.slice p n c) w) :
    Calls Try.prog 31 #[.slice p n c, .agg (fpA l)] w fun e w' => e = .returned (.bool (ls.contains l)) ∧ Below w.heap.size w w' := by
  have HF : Hid (FpsAt 32 ls (.slice p ls.length c) w) := by rw [← hn]; exact h
  have O0 := OneRow.made w l
  have HI := Lib.hid (fp_info l hl)
  have HL := Lib.hid hl
  obtain ⟨F, hFF⟩ : ∃ F, F = fpA l := ⟨_, rfl⟩
  have K0 : Hid (Kept w (w.alloc (.cells F 47)) ∧ (w.alloc (.cells F 47)).heap[w.heap.size]? = some (.cells F 47 (0, 0))) := by rw [hFF]; exact ⟨O0.2, O0.1⟩
  rw [← hFF] at HI ⊢
  have HFF := Lib.hid hFF
  have HN := Lib.hid hn
  clear O0 hFF hn h hl
  go_enter Try.func31, Try.ntmps31
  go_wp2
  go_loopw [5] (fun x wr => ∃ (k : Nat), k ≤ n ∧ x = .int .i64 k ∧ Hid ((ls.take k).contains l = false) ∧ Hid (Kept w wr ∧ wr.heap[w.heap.size]? = some (.cells F 47 (0, 0)))) (fun x _ => n - (intOf x).toNat)
  case atStart => exact ⟨0, by omega, rfl, rfl, K0⟩
  case round =>
    clear K0
    obtain ⟨k, hkn, rfl, HC, HK⟩ := hrel
    by_cases hlt : k < n
    · have hkl : k < ls.length := by rw [← HN.out]; exact hlt
      have hltz : (k : Int) < (n : Int) := by omega
      have bz : decide ((k : Int) < (n : Int)) = true := by simpa using hltz
      obtain ⟨b, off, cs, t, fr, hp, hg, E1⟩ := HF.out.elem hkl
      subst hp
      have HG : Hid (wr.heap[b]? = some (.cells cs t fr)) := HK.out.1.row hg
      have HR : Hid (wr.heap[w.heap.size]? = some (.cells F 47 (0, 0))) := HK.out.2
      have IX1 := fun w' => idx_at b off n c k hlt w'
      have hx32 := HF.out.1 _ (List.getElem_mem hkl)
      have EQ := fun w' => eq_fp ls[k] l hx32 HL.out w'
      have AT := any_take l ls k hkl
      rw [HC.out, Bool.false_or, show (l == ls[k]) = (ls[k] == l) from BEq.comm] at AT
      obtain ⟨X, hX⟩ : ∃ X, X = fpA ls[k] := ⟨_, rfl⟩
      obtain ⟨q, hq⟩ : ∃ q, q = (ls[k] == l) := ⟨_, rfl⟩
      have hfx := HFF.out
      rw [← hX] at E1 EQ
      rw [← hfx, ← hq] at EQ
      rw [← hq] at AT
      have HAT := Lib.hid AT
      clear hX hq AT hx32 hg hfx
      go_wp2_with fail
      refine wp_region_kept (by kernel_rfl) (by kernel_rfl) ?_
      refine wpQuiet_pure (v := ?_) (by kernel_rfl) ?_ (fun K hK => ?_)
      case refine_2 => intro W _; go_simp; try with_reducible rfl
      go_simp
      refine hK _ ?_; clear hK K
      refine wpQuiet_pure (v := ?_) (by kernel_rfl) ?_ (fun K hK => ?_)
      case refine_2 => intro W _; go_simp; try with_reducible rfl
      go_simp
      refine hK _ ?_; clear hK K
      refine wpQuiet_pure (v := ?_) (by kernel_rfl) ?_ (fun K hK => ?_)
      case refine_2 => intro W _; go_simp; try with_reducible rfl
      go_simp
      refine hK _ ?_; clear hK K
      refine wpQuiet_load_sub (by kernel_rfl) _ _ rfl b (off + k * 32) 32 rfl t cs fr _ (fun _ h => h.row HG.out) Try.underlying47 rfl infoFp _ E1 (fun K hK => ?_)
      go_simp
      refine hK _ ?_; clear hK K
      refine wpQuiet_load_row (by kernel_rfl) _ _ rfl w.heap.size rfl 47 F (0, 0) _ (fun _ h => h.row HR.out) Try.underlying47 rfl HI.out (fun K hK => ?_)
      go_simp
      refine hK _ ?_; clear hK K
      refine wpQuiet_pure (by kernel_rfl) (.bool q) (fun W _ => by go_simp) (fun K hK => ?_)
      go_simp
      refine hK _ ?_; clear hK K
      refine wpQuiet_nil ?_
      intro w2 hk2
      have K2 : Hid (Kept w w2 ∧ w2.heap[w.heap.size]? = some (.cells F 47 (0, 0))) := ⟨HK.out.1.then hk2, hk2.row HK.out.2⟩
      cases q with
      | false =>
        go_wp2
        go_roundw
        case rel => exact ⟨k + 1, by omega, by go_num, HAT.out, K2⟩
        case measure => simp [intOf]; omega
      | true =>
        clear EQ IX1 E1 HC
        go_wp2
        go_ret
        refine ⟨?_, K2.out.1⟩
        have h0 : (ls.take (k + 1)).contains l = true := HAT.out
        have h1 : ls.contains l = true := by
          rw [List.contains_iff_mem] at h0 ⊢
          exact List.mem_of_mem_take h0
        rw [h1]
        rfl
    · obtain rfl : k = n := by omega
      have bz : decide ((k : Int) < (k : Int)) = false := by simp
      go_wp2
      go_ret
      refine ⟨?_, HK.out.1⟩
      have := HC.out
      rw [List.take_of_length_le (by rw [← HN.out]; exact Nat.le_refl _)] at this
      rw [this]
      rfl

theorem rhas_any (l : List UInt8) (hl : l.length = 32) (v : Value) (ls : List (List UInt8)) (hs : ls.length ≤ 1000000) (w : World) (h : FpsAt 32 ls v w) :
    Calls Try.prog 31 #[v, .agg (fpA l)] w fun e w' => e = .returned (.bool (ls.contains l)) ∧ Below w.heap.size w w' := by
  obtain ⟨p, c, rfl, _⟩ := h.2
  exact rhas_n l hl p c ls.length ls rfl hs w h

set_option maxRecDepth 100000 in
set_option maxHeartbeats 2000000 in
/-- Same fingerprints? -/
theorem same_n (p1 p2 : Option Addr) (c1 c2 n m : Nat) (xs ys : List (List UInt8)) (hn : n = xs.length) (hm : m = ys.length) (hs : n ≤ 1000000) (w : World) (h1 : FpsAt 32 xs (.slice p1 n c1) w) (h2 : FpsAt 32 ys (.slice p2 m c2) w) :
    Calls Try.prog 27 #[.slice p1 n c1, .slice p2 m c2] w fun e w' => e = .returned (.bool (xs == ys)) ∧ Below w.heap.size w w' := by
  by_cases hnm : n = m
  · subst hnm
    have HF1 : Hid (FpsAt 32 xs (.slice p1 xs.length c1) w) := by rw [← hn]; exact h1
    have HF2 : Hid (FpsAt 32 ys (.slice p2 ys.length c2) w) := by rw [← hm]; exact h2
    have HN := Lib.hid hn
    have HM := Lib.hid hm
    clear hn hm h1 h2
    go_enter Try.func27, Try.ntmps27
    go_wp2
    go_loopw [5] (fun x wr => ∃ (k : Nat), k ≤ n ∧ x = .int .i64 k ∧ Hid (xs.take k = ys.take k) ∧ Hid (Kept w wr)) (fun x _ => n - (intOf x).toNat)
    case atStart => exact ⟨0, by omega, rfl, rfl, Kept.refl w⟩
    case round =>
      obtain ⟨k, hkn, rfl, HC, HK⟩ := hrel
      by_cases hlt : k < n
      · have hka : k < xs.length := by rw [← HN.out]; exact hlt
        have hkb : k < ys.length := by rw [← HM.out]; exact hlt
        have hltz : (k : Int) < (n : Int) := by omega
        have bz : decide ((k : Int) < (n : Int)) = true := by simpa using hltz
        obtain ⟨b1, o1, cs1, t1, fr1, hp1, hg1, E1⟩ := HF1.out.elem hka
        obtain ⟨b2, o2, cs2, t2, fr2, hp2, hg2, E2⟩ := HF2.out.elem hkb
        subst hp1 hp2
        have HG1 : Hid (wr.heap[b1]? = some (.cells cs1 t1 fr1)) := HK.out.row hg1
        have HG2 : Hid (wr.heap[b2]? = some (.cells cs2 t2 fr2)) := HK.out.row hg2
        have IX1 := fun w' => idx_at b1 o1 n c1 k hlt w'
        have IX2 := fun w' => idx_at b2 o2 n c2 k hlt w'
        have EQ := fun w' => eq_fp xs[k] ys[k] (HF1.out.1 _ (List.getElem_mem hka)) (HF2.out.1 _ (List.getElem_mem hkb)) w'
        obtain ⟨X, hX⟩ : ∃ X, X = fpA xs[k] := ⟨_, rfl⟩
        obtain ⟨Y, hY⟩ : ∃ Y, Y = fpA ys[k] := ⟨_, rfl⟩
        obtain ⟨q, hq⟩ : ∃ q, q = (xs[k] == ys[k]) := ⟨_, rfl⟩
        rw [← hX] at E1 EQ
        rw [← hY] at E2 EQ
        rw [← hq] at EQ
        have HQ := Lib.hid hq
        clear hX hY hq hg1 hg2
        go_wp2_with fail
        refine wp_region_kept (by kernel_rfl) (by kernel_rfl) ?_
        refine wpQuiet_pure (v := ?_) (by kernel_rfl) ?_ (fun K hK => ?_)
        case refine_2 => intro W _; go_simp; try with_reducible rfl
        go_simp
        refine hK _ ?_; clear hK K
        refine wpQuiet_pure (v := ?_) (by kernel_rfl) ?_ (fun K hK => ?_)
        case refine_2 => intro W _; go_simp; try with_reducible rfl
        go_simp
        refine hK _ ?_; clear hK K
        refine wpQuiet_pure (v := ?_) (by kernel_rfl) ?_ (fun K hK => ?_)
        case refine_2 => intro W _; go_simp; try with_reducible rfl
        go_simp
        refine hK _ ?_; clear hK K
        refine wpQuiet_load_sub (by kernel_rfl) _ _ rfl b1 (o1 + k * 32) 32 rfl t1 cs1 fr1 _ (fun _ h => h.row HG1.out) Try.underlying47 rfl infoFp _ E1 (fun K hK => ?_)
        go_simp
        refine hK _ ?_; clear hK K
        refine wpQuiet_pure (v := ?_) (by kernel_rfl) ?_ (fun K hK => ?_)
        case refine_2 => intro W _; go_simp; try with_reducible rfl
        go_simp
        refine hK _ ?_; clear hK K
        refine wpQuiet_pure (v := ?_) (by kernel_rfl) ?_ (fun K hK => ?_)
        case refine_2 => intro W _; go_simp; try with_reducible rfl
        go_simp
        refine hK _ ?_; clear hK K
        refine wpQuiet_pure (v := ?_) (by kernel_rfl) ?_ (fun K hK => ?_)
        case refine_2 => intro W _; go_simp; try with_reducible rfl
        go_simp
        refine hK _ ?_; clear hK K
        refine wpQuiet_load_sub (by kernel_rfl) _ _ rfl b2 (o2 + k * 32) 32 rfl t2 cs2 fr2 _ (fun _ h => h.row HG2.out) Try.underlying47 rfl infoFp _ E2 (fun K hK => ?_)
        go_simp
        refine hK _ ?_; clear hK K
        refine wpQuiet_pure (by kernel_rfl) (.bool (!q)) (fun W _ => by go_simp) (fun K hK => ?_)
        go_simp
        refine hK _ ?_; clear hK K
        refine wpQuiet_nil ?_
        intro w2 hk2
        have K2 : Hid (Kept w w2) := HK.out.then hk2
        cases q with
        | true =>
          go_wp2
          go_roundw
          case rel => exact ⟨k + 1, by omega, by go_num, by
            have e : xs[k] = ys[k] := eq_of_beq HQ.out.symm
            show xs.take (k + 1) = ys.take (k + 1)
            rw [List.take_succ_eq_append_getElem hka, List.take_succ_eq_append_getElem hkb, HC.out, e], K2⟩
          case measure => simp [intOf]; omega
        | false =>
          clear EQ IX1 IX2 E1 E2 HC
          go_wp2
          go_ret
          refine ⟨?_, K2.out⟩
          have e : (xs == ys) = false := by
            rw [beq_eq_false_iff_ne]
            rintro rfl
            have := HQ.out
            simp at this
          rw [e]
          rfl
      · obtain rfl : k = n := by omega
        have bz : decide ((k : Int) < (k : Int)) = false := by simp
        go_wp2
        go_ret
        refine ⟨?_, HK.out⟩
        have := HC.out
        rw [List.take_of_length_le (by rw [← HN.out]; exact Nat.le_refl _), List.take_of_length_le (by rw [← HM.out]; exact Nat.le_refl _)] at this
        rw [this]
        simp
  · have hne : (xs == ys) = false := by
      rw [beq_eq_false_iff_ne]
      rintro rfl
      exact hnm (by omega)
    have b1 : ((n : Int) == (m : Int)) = false := by rw [beq_eq_false_iff_ne]; omega
    have b2 : (!((n : Int) == (m : Int))) = true := by rw [b1]; rfl
    rw [hne]
    clear hne h1 h2 hn hm
    go_enter Try.func27, Try.ntmps27
    go_wp2
    go_ret
    exact ⟨rfl, Below.refl _ _⟩

theorem same_any (v1 v2 : Value) (xs ys : List (List UInt8)) (hs : xs.length ≤ 1000000) (w : World) (h1 : FpsAt 32 xs v1 w) (h2 : FpsAt 32 ys v2 w) :
    Calls Try.prog 27 #[v1, v2] w fun e w' => e = .returned (.bool (xs == ys)) ∧ Below w.heap.size w w' := by
  obtain ⟨p1, c1, rfl, _⟩ := h1.2
  obtain ⟨p2, c2, rfl, _⟩ := h2.2
  exact same_n p1 p2 c1 c2 _ _ xs ys rfl rfl hs w h1 h2

end Go.Proofs.Ytaajadmaamjebaa
namespace Go.Proofs.Ytaajadmaamjebaa
open Go.RowKit

theorem incr_at {ls : List (List UInt8)} (h : Incr ls) (a b : Nat) (hab : a < b) (hb : b < ls.length) : ltB (ls[a]'(by omega)) ls[b] = true := List.pairwise_iff_getElem.1 h a b (by omega) hb hab

/-- All below are less. -/
theorem bs_lo {ls : List (List UInt8)} (hI : Incr ls) (t : List UInt8) (m : Nat) (hm : m < ls.length) (h : ltB ls[m] t = true) (a : Nat) (ha : a < m + 1) : ltB (ls[a]'(by omega)) t = true := by
  by_cases e : a = m
  · subst e; exact h
  · exact ltB_trans _ _ _ (incr_at hI a m (by omega) hm) h

theorem bs_hi {ls : List (List UInt8)} (hI : Incr ls) (t : List UInt8) (m : Nat) (hm : m < ls.length) (h : ltB ls[m] t = false) (a : Nat) (ha : m ≤ a) (hal : a < ls.length) : ltB ls[a] t = false := by
  by_cases e : a = m
  · subst e; exact h
  · cases h2 : ltB ls[a] t with
    | false => rfl
    | true =>
      rw [ltB_trans _ _ _ (incr_at hI m a (by omega) hal) h2] at h
      cases h

theorem bs_end {ls : List (List UInt8)} (hI : Incr ls) (t : List UInt8) (i : Nat) (h1 : ∀ a (_ : a < i) (hl : a < ls.length), ltB ls[a] t = true) (h2 : ∀ a (_ : i ≤ a) (hl : a < ls.length), ltB ls[a] t = false) :
    ls.contains t = if h : i < ls.length then ls[i] == t else false := by
  rw [Bool.eq_iff_iff, List.contains_iff_mem]
  constructor
  · intro hm
    obtain ⟨a, ha, rfl⟩ := List.getElem_of_mem hm
    have hge : ¬ a < i := fun h => by
      have := h1 a h ha
      rw [ltB_irrefl] at this; cases this
    have hia : a = i := by
      by_cases e : a = i
      · exact e
      · have h3 := h2 i (Nat.le_refl _) (by omega)
        rw [incr_at hI i a (by omega) ha] at h3
        cases h3
    subst hia
    rw [dif_pos ha]
    simp
  · intro h
    split at h
    · rename_i hi
      rw [← eq_of_beq h]
      exact List.getElem_mem hi
    · cases h

def LoL (ls : List (List UInt8)) (t : List UInt8) (i : Nat) : Prop := ∀ a (_ : a < i) (hl : a < ls.length), ltB ls[a] t = true
def HiL (ls : List (List UInt8)) (t : List UInt8) (j : Nat) : Prop := ∀ a (_ : j ≤ a) (hl : a < ls.length), ltB ls[a] t = false

def FoundPost (r : Bool) (w : World) (e : Ending) (w' : World) : Prop := ∃ i : Int, e = .returned (.tuple #[.int .i64 i, .bool r]) ∧ Below w.heap.size w w'

end Go.Proofs.Ytaajadmaamjebaa
namespace Go.Proofs.Ytaajadmaamjebaa
open Go.RowKit

def IdxPost (ls : List (List UInt8)) (p : List UInt8 → Bool) (w : World) (e : Ending) (w' : World) : Prop :=
  ((e = .returned (.int .i64 (-1)) ∧ ∀ l ∈ ls, p l = false) ∨ ∃ k : Nat, ∃ h : k < ls.length, e = .returned (.int .i64 k) ∧ p ls[k] = true ∧ ∀ l ∈ ls.take k, p l = false) ∧ Below w.heap.size w w'

def DelPost (g cap : Nat) (ls : List (List UInt8)) (rest : List Value) (q : List UInt8 → Bool) (w : World) (e : Ending) (w' : World) : Prop :=
  ∃ ms rest', e = .returned (.slice (some ⟨g, 0, none⟩) ms.length cap) ∧ ms = ls.filter (fun x => !q x) ∧ ms.length ≤ ls.length ∧ RowAt g ms rest' w' ∧ ms.length * 32 + rest'.length = ls.length * 32 + rest.length ∧ w.grownBy w' (some g)

def DelIn (g n i j : Nat) (ls ms : List (List UInt8)) (rest : List Value) (q : List UInt8 → Bool) (w : World) : Prop :=
  ms.length = n ∧ ms.drop j = ls.drop j ∧ ms.take i = (ls.take j).filter (fun x => !q x) ∧ RowAt g ms rest w

theorem filter_take (ls : List (List UInt8)) (q : List UInt8 → Bool) (j : Nat) (hj : j < ls.length) : (ls.take (j + 1)).filter (fun x => !q x) = if q ls[j] then (ls.take j).filter (fun x => !q x) else (ls.take j).filter (fun x => !q x) ++ [ls[j]] := by
  rw [List.take_succ_eq_append_getElem hj, List.filter_append]
  cases h : q ls[j] <;> simp [h]

theorem filter_all (ls : List (List UInt8)) (q : List UInt8 → Bool) (h : ∀ l ∈ ls, q l = false) : ls.filter (fun x => !q x) = ls := by
  rw [List.filter_eq_self]
  intro a ha
  rw [h a ha]
  rfl

theorem grown_alloc {w w' : World} {g : Nat} (h : w.grownBy w' (some g)) (o : Obj) : w.grownBy (w'.alloc o) (some g) := grown_then h ((Below.refl _ w').alloc (Nat.le_refl _) o)

end Go.Proofs.Ytaajadmaamjebaa
namespace Go.Proofs.Ytaajadmaamjebaa
open Go.RowKit

theorem setL_le (n : Nat) (ls : List (List UInt8)) (_ : ∀ y ∈ ls, y.length = n) : (setL ls).length ≤ ls.length := by
  have hw : ∀ (l out : List (List UInt8)), (l.foldl add1 out).length ≤ out.length + l.length := by
    intro l
    induction l with
    | nil => intro out; simp
    | cons x l ih =>
      intro out
      rw [List.foldl_cons]
      have h1 := ih (add1 out x)
      have hi : ∀ o : List (List UInt8), (ins x o).length = o.length + 1 := by
        intro o
        induction o with
        | nil => rfl
        | cons a o ih2 => unfold ins; split <;> simp [ih2]
      have h2 : (add1 out x).length ≤ out.length + 1 := by
        unfold add1
        split
        · omega
        · rw [hi]; exact Nat.le_refl _
      rw [List.length_cons]
      omega
  have := hw ls []
  simpa [setL] using this

theorem minus_set (xs ys : List (List UInt8)) (ha : All32 xs) : (setL xs).filter (fun x => !(setL ys).contains x) = minusL xs ys := by
  have e : (fun x => !(setL ys).contains x) = fun x => !ys.contains x := by
    funext x
    congr 1
    rw [Bool.eq_iff_iff, List.contains_iff_mem, List.contains_iff_mem, setL_mem]
  rw [e]
  exact (setL_filter 32 xs _ ha).symm

theorem minus_len (xs ys : List (List UInt8)) (ha : All32 xs) : (minusL xs ys).length ≤ (setL xs).length := by
  have := (common_both 32 xs ys ha).2
  omega

end Go.Proofs.Ytaajadmaamjebaa
