/- The document's Len of an index. The document's at, Peek. The document's last: a row is the one that was used last. The document's Look, Same. -/
import Derived.Test.YtaajadmaamjebaaSxR
import Derived.Deep.LoopGhost
import Derived.Test.YtaajadmaamjebaaHD
import Derived.Test.YtaajadmaamjebaaOwn
import Derived.Deep.WholeRow
namespace Go.Proofs.Ytaajadmaamjebaa
open Go.RowKit

theorem lenS_take : ∀ (R : List SRow) (k : Nat) (h : k < R.length), lenS (R.take (k + 1)) = lenS (R.take k) + R[k].2.length
  | r :: R, 0, _ => by simp [lenS]
  | r :: R, k + 1, h => by
    have hk : k < R.length := by simpa using h
    have := lenS_take R k hk
    show r.2.length + lenS (R.take (k + 1)) = r.2.length + lenS (R.take k) + (R[k]'hk).2.length
    omega
theorem lenS_take_le (R : List SRow) (k : Nat) : lenS (R.take k) ≤ lenS R := by
  have h := lenS_append (R.take k) (R.drop k)
  rw [List.take_append_drop] at h
  omega
theorem SxIn.cut {A : List (SRow × Value)} {v : Value} {w : World} (h : SxIn A v w) : ∃ p c, v = .slice p A.length c := by
  obtain ⟨p, c, rfl, -, -⟩ := h.rows.out encSx
  exact ⟨p, c, rfl⟩

set_option maxRecDepth 100000 in
set_option maxHeartbeats 8000000 in
theorem rlen17_any (E : Nat → Prop) (g : Nat) (per most : Int) (A : List (SRow × Value)) (tv : Value) (w : World) (H : IxAt E g per most A tv w) (hl : lenS (A.map Prod.fst) ≤ 1000000000) (hr : A.length ≤ 1000000) :
    Calls Try.prog 26 #[.pointer (some ⟨g, 0, none⟩)] w fun e w' => e = .returned (.int .i64 (lenS (A.map Prod.fst) : Nat)) ∧ Kept w w' := by
  obtain ⟨p, c, rfl⟩ := H.in_.cut
  obtain ⟨n, hn⟩ : ∃ n, n = A.length := ⟨_, rfl⟩
  rw [← hn] at H
  have HN := Lib.hid hn
  have HH := Lib.hid H
  obtain ⟨R, hR⟩ : ∃ R, R = A.map Prod.fst := ⟨_, rfl⟩
  rw [← hR] at hl ⊢
  have HR := Lib.hid hR
  have HL := Lib.hid hl
  have HRN : Hid (R.length = n ∧ n ≤ 1000000) := Lib.hid ⟨by rw [hR, List.length_map, hn], by omega⟩
  clear hn H hR hl hr
  go_enter Try.func26, Try.ntmps26
  go_wp2
  go_loopg [3, 4] n (fun gh y3 y4 wr => ∃ (k : Nat), k + gh = n ∧ y4 = .int .i64 k ∧ y3 = .int .i64 (lenS (R.take k) : Nat) ∧ Hid (Kept w wr))
  case atStart => exact ⟨0, by omega, rfl, rfl, Lib.hid (Below.refl _ w)⟩
  case round =>
    obtain ⟨k, hk, rfl, rfl, HK⟩ := hrel
    have HI := Lib.hid (HH.out.later HK.out)
    have e2 := HI.out.c2
    obtain ⟨s, hs⟩ : ∃ s, s = lenS (R.take k) := ⟨_, rfl⟩
    rw [← hs]
    by_cases hlt : k < n
    · have hki : (k : Int) < n := by omega
      have bk : decide ((k : Int) < (n : Int)) = true := by simpa using hki
      have hkA : k < A.length := by rw [← HN.out]; exact hlt
      have hkR : k < R.length := by rw [HRN.out.1]; exact hlt
      obtain ⟨b, off, cs, t, fr, hp, hel⟩ := HI.out.in_.elem (g := g) HN.out hlt
      have IX := fun W => idx_rec (P := Try.prog) Try.underlying30 (fun w => Try.sizeOf73 w) b off n c k hlt W
      have hmn := HI.out.in_.each _ (List.getElem_mem hkA)
      obtain ⟨pm, cm, hpm, -, -⟩ := hmn.out encU
      have hRk : R[k] = A[k].1 := by simp [HR.out]
      obtain ⟨m, hm⟩ : ∃ m, m = A[k].1.2.length := ⟨_, rfl⟩
      have d0 : wr.cell? ⟨b, off + k * 33 + 32, none⟩ = some (.slice pm m cm) := by rw [cell_of_row _ _ _ _ _ _ hel.hg, hel.tv hkA, hpm, hm]
      have htk := lenS_take R k hkR
      rw [← hs, hRk, ← hm] at htk
      have hle := lenS_take_le R (k + 1)
      obtain ⟨s1, hs1⟩ : ∃ s1, s1 = s + m := ⟨_, rfl⟩
      have v0 : IntKind.i64.wrap ((s : Int) + (m : Int)) = (s1 : Int) := by rw [show (s : Int) + (m : Int) = (s1 : Int) by omega]; exact IntWalk.i64_in _ (by have := HL.out; omega)
      obtain ⟨k1, hk1⟩ : ∃ k1, k1 = k + 1 := ⟨_, rfl⟩
      have v1 : IntKind.i64.wrap ((k : Int) + 1) = (k1 : Int) := by rw [show (k : Int) + 1 = (k1 : Int) by omega]; exact IntWalk.i64_in _ (by have := HRN.out; omega)
      have HKK : Hid (k1 = k + 1 ∧ k + gk = n ∧ k < n ∧ s1 = lenS (R.take k1)) := Lib.hid ⟨hk1, hk, hlt, by rw [hk1, htk, hs1]⟩
      subst hp
      clear hkA hkR hel hmn hpm hRk hm htk hle hs1 hk1 hk hlt hs
      go_wp2
      go_roundg (n - k1)
      · exact ⟨k1, by have := HKK.out; omega, by first | rfl | (have := HKK.out; congr 1; omega), by rw [← HKK.out.2.2.2], HK⟩
      · have := HKK.out; omega
    · have hki : ¬ (k : Int) < n := by omega
      have bk : decide ((k : Int) < (n : Int)) = false := by simpa using hki
      have HSE : Hid (s = lenS R) := Lib.hid (by rw [hs, List.take_of_length_le (by rw [HRN.out.1]; omega)])
      clear hk hlt hs
      go_wp2
      go_ret
      exact ⟨by rw [HSE.out]; rfl, HK.out⟩

end Go.Proofs.Ytaajadmaamjebaa
namespace Go.Proofs.Ytaajadmaamjebaa
open Go.RowKit

theorem idxS_take (R : List SRow) (h : List UInt8) (k : Nat) (hk : k < R.length) (h0 : ∀ r ∈ R.take k, r.1 ≠ h) (h1 : R[k].1 = h) : idxS R h = some k := by
  unfold idxS
  rw [List.findIdx?_eq_some_iff_getElem]
  refine ⟨hk, by simpa using h1, fun j hj => ?_⟩
  have := h0 R[j] (List.mem_take_iff_getElem.2 ⟨j, by omega, rfl⟩)
  simpa using this
theorem idxS_no {R : List SRow} {h : List UInt8} (h0 : ∀ r ∈ R, r.1 ≠ h) : idxS R h = none := by
  unfold idxS
  rw [List.findIdx?_eq_none_iff]
  intro r hr
  simpa using h0 r hr

set_option maxRecDepth 100000 in
set_option maxHeartbeats 8000000 in
theorem rat17_any (E : Nat → Prop) (g : Nat) (per most : Int) (A : List (SRow × Value)) (tv : Value) (w : World) (H : IxAt E g per most A tv w) (hr : A.length ≤ 1000000) (h : List UInt8) (h32 : h.length = 32) :
    Calls Try.prog 38 #[.pointer (some ⟨g, 0, none⟩), .agg (fpA h)] w fun e w' => e = .returned (.int .i64 (atS (A.map Prod.fst) h)) ∧ Kept w w' := by
  obtain ⟨p, c, rfl⟩ := H.in_.cut
  obtain ⟨n, hn⟩ : ∃ n, n = A.length := ⟨_, rfl⟩
  rw [← hn] at H
  have HN := Lib.hid hn
  obtain ⟨R, hR⟩ : ∃ R, R = A.map Prod.fst := ⟨_, rfl⟩
  rw [← hR]
  have HR := Lib.hid hR
  have HRN : Hid (R.length = n ∧ n ≤ 1000000) := Lib.hid ⟨by rw [hR, List.length_map, hn], by omega⟩
  have HH32 := Lib.hid h32
  have HI32 := Lib.hid (fp_info h h32)
  obtain ⟨F, hF⟩ : ∃ F, F = fpA h := ⟨_, rfl⟩
  rw [← hF] at HI32 ⊢
  have HF := Lib.hid hF
  obtain ⟨W1, hW1⟩ : ∃ W, W = w.alloc (.cells F 47) := ⟨_, rfl⟩
  have hk1 : Kept w W1 := by rw [hW1]; exact box_below _ _
  have HK1 := Lib.hid hk1
  have HRF1 : Hid (W1.heap[w.heap.size]? = some (.cells F 47 (0, 0))) := Lib.hid (by rw [hW1]; exact heap_alloc_last w _)
  have HH := Lib.hid (H.later hk1)
  have HW1 := Lib.hid hW1
  obtain ⟨res, hres⟩ : ∃ z, z = atS R h := ⟨_, rfl⟩
  rw [← hres]
  have HRES := Lib.hid hres
  clear hn H hR hr h32 hF hW1 hk1 hres
  go_enter Try.func38, Try.ntmps38
  go_wp2
  rw [← HW1.out]
  go_loopg [5] n (fun gh y5 wr => ∃ (k : Nat), k + gh = n ∧ y5 = .int .i64 k ∧ Hid (∀ r ∈ R.take k, r.1 ≠ h) ∧ Hid (Kept W1 wr))
  case atStart => exact ⟨0, by omega, rfl, Lib.hid (fun r hr => by rw [List.take_zero] at hr; cases hr), Lib.hid (Below.refl _ W1)⟩
  case round =>
    clear HW1
    obtain ⟨k, hk, rfl, HNO, HK⟩ := hrel
    have HI := Lib.hid (HH.out.later HK.out)
    have e2 := HI.out.c2
    have HKW : Hid (Kept w wr) := Lib.hid (HK1.out.then HK.out)
    by_cases hlt : k < n
    · have hki : (k : Int) < n := by omega
      have bk : decide ((k : Int) < (n : Int)) = true := by simpa using hki
      have hkA : k < A.length := by rw [← HN.out]; exact hlt
      have hkR : k < R.length := by rw [HRN.out.1]; exact hlt
      obtain ⟨b, off, cs, t, fr, hp, hel⟩ := HI.out.in_.elem (g := g) HN.out hlt
      have IX := fun W => idx_rec (P := Try.prog) Try.underlying30 (fun w => Try.sizeOf73 w) b off n c k hlt W
      have hRk : R[k] = A[k].1 := by simp [HR.out]
      have ok := HI.out.in_.rows.good _ (List.getElem_mem hkA)
      have EQ := fun W => eq_fp A[k].1.1 h ok.1 HH32.out W
      have hfp := hel.fp hkA
      obtain ⟨X, hX⟩ : ∃ X, X = fpA A[k].1.1 := ⟨_, rfl⟩
      obtain ⟨q, hq⟩ : ∃ q, q = (A[k].1.1 == h) := ⟨_, rfl⟩
      rw [← hX] at hfp EQ
      rw [← HF.out, ← hq] at EQ
      have HES := Lib.hid hfp
      have HG := Lib.hid hel.hg
      have HRF : Hid (wr.heap[w.heap.size]? = some (.cells F 47 (0, 0))) := Lib.hid (HK.out.row HRF1.out)
      obtain ⟨k1, hk1⟩ : ∃ k1, k1 = k + 1 := ⟨_, rfl⟩
      have v1 : IntKind.i64.wrap ((k : Int) + 1) = (k1 : Int) := by rw [show (k : Int) + 1 = (k1 : Int) by omega]; exact IntWalk.i64_in _ (by have := HRN.out; omega)
      have HKK : Hid (k1 = k + 1 ∧ k + gk = n ∧ k < n) := Lib.hid ⟨hk1, hk, hlt⟩
      have HT : Hid (q = true → res = (k : Int)) := Lib.hid (fun e => by
        have e1 : A[k].1.1 = h := by rw [hq] at e; simpa using e
        rw [HRES.out]
        unfold atS
        rw [idxS_take R h k hkR HNO.out (by rw [hRk]; exact e1)])
      have HNX : Hid (q = false → ∀ r ∈ R.take k1, r.1 ≠ h) := Lib.hid (fun e r hr => by
        rw [hk1, List.take_succ_eq_append_getElem hkR] at hr
        rcases List.mem_append.1 hr with x | x
        · exact HNO.out r x
        · rw [List.mem_singleton.1 x, hRk]
          intro e2
          rw [hq] at e
          rw [e2] at e
          simp at e)
      subst hp
      clear hkA hkR hel hRk ok hfp hX hq hk1 hk hlt
      go_wp2_with fail
      refine wp_region_kept (by kernel_rfl) (by kernel_rfl) ?_
      refine wpQuiet_pure (v := ?_) (by kernel_rfl) ?_ (fun K hK => ?_)
      case refine_2 => intro W _; go_simp; try with_reducible rfl
      go_simp
      refine hK _ ?_; clear hK K
      refine wpQuiet_pure (v := ?_) (by kernel_rfl) ?_ (fun K hK => ?_)
      case refine_2 => intro W _; go_simp; try with_reducible rfl
      go_simp
      refine hK _ ?_; clear hK K
      refine wpQuiet_pure (v := ?_) (by kernel_rfl) ?_ (fun K hK => ?_)
      case refine_2 => intro W _; go_simp; try with_reducible rfl
      go_simp
      refine hK _ ?_; clear hK K
      refine wpQuiet_pure (v := ?_) (by kernel_rfl) ?_ (fun K hK => ?_)
      case refine_2 => intro W hW; have e0 := hW.cell e2; go_simp; try with_reducible rfl
      go_simp
      refine hK _ ?_; clear hK K
      refine wpQuiet_pure (v := ?_) (by kernel_rfl) ?_ (fun K hK => ?_)
      case refine_2 => intro W _; go_simp; try with_reducible rfl
      go_simp
      refine hK _ ?_; clear hK K
      refine wpQuiet_pure (v := ?_) (by kernel_rfl) ?_ (fun K hK => ?_)
      case refine_2 => intro W hW; have e0 := IX W; go_simp; try with_reducible rfl
      go_simp
      refine hK _ ?_; clear hK K
      refine wpQuiet_pure (v := ?_) (by kernel_rfl) ?_ (fun K hK => ?_)
      case refine_2 => intro W _; go_simp; try with_reducible rfl
      go_simp
      refine hK _ ?_; clear hK K
      refine wpQuiet_load_sub (by kernel_rfl) _ _ rfl b (off + k * 33) 32 rfl t cs fr _ (fun _ h => h.row HG.out) Try.underlying47 rfl infoFp _ HES.out (fun K hK => ?_)
      go_simp
      refine hK _ ?_; clear hK K
      refine wpQuiet_load_row (by kernel_rfl) _ _ rfl w.heap.size rfl 47 F (0, 0) _ (fun _ h => h.row HRF.out) Try.underlying47 rfl HI32.out (fun K hK => ?_)
      go_simp
      refine hK _ ?_; clear hK K
      refine wpQuiet_pure (by kernel_rfl) (.bool q) (fun W _ => by have e0 := EQ W; go_simp) (fun K hK => ?_)
      go_simp
      refine hK _ ?_; clear hK K
      refine wpQuiet_nil ?_
      intro w2 hk2
      cases q with
      | false =>
        have HNN := Lib.hid (HNX.out rfl)
        have HKN : Hid (Kept W1 w2) := Lib.hid ((show Kept W1 wr from HK.out).then hk2)
        clear hk2 EQ IX e2 HT HNX
        go_wp2
        go_roundg (n - k1)
        · exact ⟨k1, by have := HKK.out; omega, by first | rfl | (have := HKK.out; congr 1; omega), HNN, HKN⟩
        · have := HKK.out; omega
      | true =>
        have HTT := Lib.hid (HT.out rfl)
        have HKN : Hid (Kept w w2) := Lib.hid (HKW.out.then hk2)
        clear hk2 EQ IX e2 HT HNX
        go_wp2
        go_ret
        exact ⟨by rw [HTT.out]; rfl, HKN.out⟩
    · have hki : ¬ (k : Int) < n := by omega
      have bk : decide ((k : Int) < (n : Int)) = false := by simpa using hki
      have HTT : Hid (res = -1) := Lib.hid (by
        rw [HRES.out]
        unfold atS
        have hnn := HNO.out
        rw [List.take_of_length_le (by rw [HRN.out.1]; omega)] at hnn
        rw [idxS_no hnn])
      clear hk hlt
      go_wp2
      go_ret
      exact ⟨by rw [HTT.out]; rfl, HKW.out⟩

/-- The list of a hook, wherever the index stands. -/
def PeekAt (E : Nat → Prop) (l : List Nat) (v : Value) (w : World) : Prop := ∀ W, Off E w W → UsAt l v W

set_option maxRecDepth 100000 in
set_option maxHeartbeats 8000000 in
theorem rpeek17_any (E : Nat → Prop) (g : Nat) (per most : Int) (A : List (SRow × Value)) (tv : Value) (w : World) (H : IxAt E g per most A tv w) (hr : A.length ≤ 1000000) (h : List UInt8) (h32 : h.length = 32) :
    Calls Try.prog 22 #[.pointer (some ⟨g, 0, none⟩), .agg (fpA h)] w fun e w' => ∃ v, e = .returned v ∧ (∀ W, IxAt E g per most A tv W → PeekAt E (peekS (A.map Prod.fst) h) v W) ∧ Kept w w' := by
  have CA := fun W (k : Kept w W) => rat17_any E g per most A tv W (H.later k) hr h h32
  obtain ⟨p, c, rfl⟩ := H.in_.cut
  obtain ⟨n, hn⟩ : ∃ n, n = A.length := ⟨_, rfl⟩
  rw [← hn] at H ⊢
  have HN := Lib.hid hn
  obtain ⟨R, hR⟩ : ∃ R, R = A.map Prod.fst := ⟨_, rfl⟩
  rw [← hR] at CA ⊢
  have HR := Lib.hid hR
  have HRN : Hid (R.length = n ∧ n ≤ 1000000) := Lib.hid ⟨by rw [hR, List.length_map, hn], by omega⟩
  have HI32 := Lib.hid (fp_info h h32)
  obtain ⟨F, hF⟩ : ∃ F, F = fpA h := ⟨_, rfl⟩
  rw [← hF] at HI32 CA ⊢
  obtain ⟨W1, hW1⟩ : ∃ W, W = w.alloc (.cells F 47) := ⟨_, rfl⟩
  have hk1 : Kept w W1 := by rw [hW1]; exact box_below _ _
  have HK1 := Lib.hid hk1
  have HRF1 : Hid (W1.heap[w.heap.size]? = some (.cells F 47 (0, 0))) := Lib.hid (by rw [hW1]; exact heap_alloc_last w _)
  have HH := Lib.hid (H.later hk1)
  have HW1 := Lib.hid hW1
  have C1 := CA W1 hk1
  obtain ⟨P, hP⟩ : ∃ P, P = peekS R h := ⟨_, rfl⟩
  rw [← hP]
  have HP := Lib.hid hP
  obtain ⟨z, hz⟩ : ∃ z, z = atS R h := ⟨_, rfl⟩
  rw [← hz] at C1
  cases hi : idxS R h with
  | none =>
    have hz1 : z = -1 := by rw [hz]; unfold atS; rw [hi]
    have HPE : Hid (P = []) := Lib.hid (by rw [hP]; unfold peekS; rw [hi])
    subst hz1
    clear hn H hR hr h32 hF hW1 hk1 CA hP hz hi HH HRN
    go_enter Try.func22, Try.ntmps22
    go_wp2_with (first | (with_reducible refine wpList_load_row rfl _ _ rfl w.heap.size rfl 47 F (0, 0) _ (heap_alloc_last w _) Try.underlying47 rfl HI32.out ?_) | fail)
    rw [← HW1.out]
    refine C1.mono ?_
    rintro e w2 ⟨rfl, hk2⟩
    have HK2 := Lib.hid (HK1.out.then hk2)
    clear hk2 C1
    go_wp2
    go_ret
    exact ⟨_, rfl, fun _ _ W _ => by rw [HPE.out]; exact RowsAt.nil W 0, HK2.out⟩
  | some k =>
    obtain ⟨hkR, hpk⟩ := peek_len hi
    have hlt : k < n := by rw [← HRN.out.1]; exact hkR
    have hz1 : z = (k : Int) := by rw [hz]; unfold atS; rw [hi]
    subst hz1
    have hkA : k < A.length := by rw [← HN.out]; exact hlt
    have hRk : R[k] = A[k].1 := by simp [HR.out]
    have HPA : Hid (∀ W, IxAt E g per most A (.slice p n c) W → PeekAt E P A[k].2 W) := Lib.hid (fun W hW X hX => by
      rw [hP, hpk, hRk]
      exact (hW.rows X hX).each _ (List.getElem_mem hkA))
    have HEL : Hid (∀ W, IxAt E g per most A (.slice p n c) W → ∃ b off cs t fr, p = some ⟨b, off, none⟩ ∧ W.heap[b]? = some (.cells cs t fr) ∧ cs[off + k * 33 + 32]? = some A[k].2) := Lib.hid (fun W hW => by
      obtain ⟨b, off, cs, t, fr, hp, hel⟩ := hW.in_.elem (g := g) HN.out hlt
      exact ⟨b, off, cs, t, fr, hp, hel.hg, hel.tv hkA⟩)
    obtain ⟨pm, cm, hpm, -, -⟩ := (H.in_.each _ (List.getElem_mem hkA)).out encU
    obtain ⟨m, hm⟩ : ∃ m, m = A[k].1.2.length := ⟨_, rfl⟩
    rw [hpm, ← hm] at HPA HEL
    have hz0 : ¬ (k : Int) < 0 := by omega
    have hIX : ∀ b off, p = some ⟨b, off, none⟩ → ∀ W, (Instr.indexAt 30 (.slice p n c) (.int .i64 k)).run Try.prog W = .ok (.pointer (some ⟨b, off + k * 33, none⟩)) W := fun b off e W => by
      rw [e]
      exact idx_rec (P := Try.prog) Try.underlying30 (fun w => Try.sizeOf73 w) b off n c k hlt W
    have HIX := Lib.hid hIX
    clear hn H hR hr h32 hF hW1 hk1 CA hP hz hi hkR hpk hlt hkA hRk hpm hm hIX
    go_enter Try.func22, Try.ntmps22
    go_wp2_with (first | (with_reducible refine wpList_load_row rfl _ _ rfl w.heap.size rfl 47 F (0, 0) _ (heap_alloc_last w _) Try.underlying47 rfl HI32.out ?_) | fail)
    rw [← HW1.out]
    refine C1.mono ?_
    rintro e w2 ⟨rfl, hk2⟩
    have HK2 := Lib.hid (HK1.out.then hk2)
    have HI2 := Lib.hid (HH.out.later hk2)
    have e2 := HI2.out.c2
    obtain ⟨b, off, cs, t, fr, hp, hgb, hcs⟩ := HEL.out w2 HI2.out
    have IX := HIX.out b off hp
    subst hp
    have d0 : w2.cell? ⟨b, off + k * 33 + 32, none⟩ = some (.slice pm m cm) := by rw [cell_of_row _ _ _ _ _ _ hgb]; exact hcs
    clear hk2 C1 hgb hcs HEL HIX
    go_wp2
    go_ret
    exact ⟨_, rfl, HPA.out, HK2.out⟩

end Go.Proofs.Ytaajadmaamjebaa
namespace Go.Proofs.Ytaajadmaamjebaa
open Go.RowKit

theorem infoSxF : ∃ i : TypeInfo, ∃ z : Value, Try.prog.info? 73 = some i ∧ i.zero = some z ∧ i.size = 33 ∧ i.bytes = 56 ∧ z.cells.size = 33 := by
  have h : (Try.prog.info? 73).map (fun i => (i.size, i.bytes, i.zero.map (·.cells.size))) = some (33, 56, some 33) := by kernel_rfl
  obtain ⟨i, h1, h2⟩ := Option.map_eq_some_iff.1 h
  simp only [Prod.mk.injEq] at h2
  obtain ⟨z, h3, h4⟩ := Option.map_eq_some_iff.1 h2.2.2
  exact ⟨i, z, h1, h3, h2.1, h2.2.1, h4⟩
theorem wf_of_leS (n : Int) (h0 : 0 ≤ n) (h : n ≤ 4294967295) : (Lit.int .i64 n).wf = true := by
  simp [Lit.wf, IntKind.min, IntKind.max, IntKind.signed, IntKind.bits]; omega
/-- A list without its element i, if there is one. -/
def cutG {α : Type} (l : List α) (i : Int) : List α := if i < 0 then l else l.eraseIdx i.toNat
theorem cutG_step {α : Type} (l : List α) (i : Int) (k : Nat) (hk : k < l.length) : cutG (l.take (k + 1)) i = if (k : Int) = i then cutG (l.take k) i else cutG (l.take k) i ++ [l[k]] := by
  have e : l.take (k + 1) = l.take k ++ [l[k]] := List.take_succ_eq_append_getElem hk
  have hl : (l.take k).length = k := by rw [List.length_take]; omega
  unfold cutG
  by_cases h0 : i < 0
  · rw [if_pos h0, if_pos h0, if_neg (by omega), e]
  · rw [if_neg h0, if_neg h0, e]
    obtain ⟨j, rfl⟩ := Int.eq_ofNat_of_zero_le (show 0 ≤ i by omega)
    rw [Int.toNat_natCast]
    by_cases h1 : k = j
    · rw [if_pos (by omega), ← h1, List.eraseIdx_append_of_length_le (by omega), hl, Nat.sub_self, List.eraseIdx_of_length_le (by omega : (l.take k).length ≤ k)]
      simp
    · rw [if_neg (by omega)]
      by_cases h2 : j < k
      · rw [List.eraseIdx_append_of_lt_length (by omega)]
      · rw [List.eraseIdx_of_length_le (by rw [List.length_append, hl]; simp; omega), List.eraseIdx_of_length_le (by omega)]
theorem cutG_sub {α : Type} (l : List α) (i : Int) : (cutG l i).Sublist l := by
  unfold cutG
  split
  · exact List.Sublist.refl _
  · exact List.eraseIdx_sublist _ _
theorem cutG_map {α β : Type} (f : α → β) (l : List α) (i : Int) : (cutG l i).map f = cutG (l.map f) i := by
  unfold cutG
  split
  · rfl
  · rw [List.eraseIdx_eq_take_drop_succ, List.eraseIdx_eq_take_drop_succ, List.map_append, List.map_take, List.map_drop]
theorem cutG_S (R : List SRow) (i : Int) : cutG R i = cutS R i := rfl

set_option maxRecDepth 100000 in
set_option maxHeartbeats 16000000 in
theorem rlast17_any (E : Nat → Prop) (g : Nat) (per most : Int) (A : List (SRow × Value)) (tv : Value) (w : World) (H : IxAt E g per most A tv w) (hr : A.length ≤ 1000000) (i : Int) (_ : (Lit.int .i64 i).wf = true) (r : SRow) (tr : Value) (h32 : r.1.length = 32) (hru : ∀ W, Off E w W → UsAt r.2 tr W) (hot : tr.oneCell' = true) :
    Calls Try.prog 39 #[.pointer (some ⟨g, 0, none⟩), .int .i64 i, .agg (sxL (r, tr)).toArray] w fun e w' => e = .returned (.tuple #[]) ∧ (∃ A' tv', IxAt E g per most A' tv' w' ∧ A'.map Prod.fst = lastS (A.map Prod.fst) i r) ∧ ButBy (fun m => m = g) w w' := by
  have HBD := Lib.hid (show E g ∧ ∀ k, E k → k < w.heap.size from ⟨H.mem, H.bnd⟩)
  obtain ⟨ir, zr, i1, i2, i3, i4, i5⟩ := infoSxF
  have HIR := Lib.hid i1
  have HZ0 := Lib.hid i2
  have HZ1 := Lib.hid i3
  have HZ2 := Lib.hid i4
  have HZS := Lib.hid i5
  obtain ⟨p, c, rfl⟩ := H.in_.cut
  obtain ⟨n, hn⟩ : ∃ n, n = A.length := ⟨_, rfl⟩
  rw [← hn] at H
  have HN := Lib.hid hn
  have HN6 : Hid (n ≤ 1000000) := Lib.hid (by omega)
  have hgw : g < w.heap.size := (Array.getElem?_eq_some_iff.1 H.row).1
  have HGW := Lib.hid hgw
  have HRU := Lib.hid hru
  have hokr : okSx (r, tr) := ⟨h32, hot⟩
  have HOKR := Lib.hid hokr
  obtain ⟨X, hX⟩ : ∃ X, X = (sxL (r, tr)).toArray := ⟨_, rfl⟩
  have hXs : X.size = 33 := by rw [hX]; simp [encSx.len _ hokr]
  have HX := Lib.hid hX
  have HXS := Lib.hid hXs
  rw [← hX]
  obtain ⟨W1, hW1⟩ : ∃ W, W = w.alloc (.cells X 73) := ⟨_, rfl⟩
  have hk1 : Kept w W1 := by rw [hW1]; exact box_below _ _
  have HK1 := Lib.hid hk1
  have HRX1 : Hid (W1.heap[w.heap.size]? = some (.cells X 73 (0, 0))) := Lib.hid (by rw [hW1]; exact heap_alloc_last w _)
  have HS1 : Hid (W1.heap.size = w.heap.size + 1) := Lib.hid (by rw [hW1]; simp)
  have HH0 := Lib.hid H
  have HH := Lib.hid (H.later hk1)
  have HW1 := Lib.hid hW1
  have HXI : Hid ((Try.prog.info? 73).map (·.size) = some X.size) := Lib.hid (by rw [hXs]; exact infoSxRw)
  clear i1 i2 i3 i4 i5 hn H hr hru hX hXs hW1 hk1 hgw hokr h32 hot
  go_enter Try.func39, Try.ntmps39
  go_wp2
  rw [← HW1.out]
  go_loopg [6, 7] n (fun gh y6 y7 wr => ∃ (k : Nat), k + gh = n ∧ y7 = .int .i64 k ∧ Hid (wr.ownsRow W1.heap.size 73 33 y6 (cutG (A.take k) i).length (flatR sxL (cutG (A.take k) i))) ∧ Hid (Kept W1 wr))
  case atStart =>
    refine ⟨0, by omega, rfl, Lib.hid ?_, Lib.hid (Below.refl _ W1)⟩
    have e : cutG (A.take 0) i = [] := by unfold cutG; simp
    rw [e]
    exact World.ownsRow_nil _ _ _ _
  case round =>
    clear HW1
    obtain ⟨k, hk, rfl, HOW, HK⟩ := hrel
    have HI := Lib.hid (HH.out.later HK.out)
    have e2 := HI.out.c2
    obtain ⟨LA, hLA⟩ : ∃ L, L = cutG (A.take k) i := ⟨_, rfl⟩
    rw [← hLA] at HOW
    have hLl : LA.length ≤ k := by
      rw [hLA]
      have := (cutG_sub (A.take k) i).length_le
      rw [List.length_take] at this
      omega
    obtain ⟨pv, cv, htv, -, -⟩ := own_slice HOW.out
    obtain ⟨lk, hlk⟩ : ∃ x, x = LA.length := ⟨_, rfl⟩
    rw [← hlk] at htv HOW
    subst htv
    have HLK := Lib.hid hlk
    by_cases hlt : k < n
    · have hki : (k : Int) < n := by omega
      have bk : decide ((k : Int) < (n : Int)) = true := by simpa using hki
      have hkA : k < A.length := by rw [← HN.out]; exact hlt
      have hst := cutG_step A i k hkA
      rw [← hLA] at hst
      obtain ⟨k1, hk1⟩ : ∃ k1, k1 = k + 1 := ⟨_, rfl⟩
      have v1 : IntKind.i64.wrap ((k : Int) + 1) = (k1 : Int) := by rw [show (k : Int) + 1 = (k1 : Int) by omega]; exact IntWalk.i64_in _ (by have := HN6.out; omega)
      have HKK : Hid (k1 = k + 1 ∧ k + gk = n ∧ k < n ∧ lk ≤ k) := Lib.hid ⟨hk1, hk, hlt, by omega⟩
      rw [← hk1] at hst
      by_cases hik : (k : Int) = i
      · have bi : ((k : Int) != i) = false := by simp [hik]
        rw [if_pos hik] at hst
        have HST : Hid (wr.ownsRow W1.heap.size 73 33 (.slice pv lk cv) (cutG (A.take k1) i).length (flatR sxL (cutG (A.take k1) i))) := Lib.hid (by rw [hst, ← hlk]; exact HOW.out)
        clear hkA hst hk1 hk hlt hLA hLl hlk hik
        go_wp2
        go_roundg (n - k1)
        · exact ⟨k1, by have := HKK.out; omega, by first | rfl | (have := HKK.out; congr 1; omega), HST, HK⟩
        · have := HKK.out; omega
      · have bi : ((k : Int) != i) = true := bne_iff_ne.2 hik
        rw [if_neg hik] at hst
        obtain ⟨b, off, cs, t, fr, hp, hel⟩ := HI.out.in_.elem (g := g) HN.out hlt
        have IX := fun W => idx_rec (P := Try.prog) Try.underlying30 (fun w => Try.sizeOf73 w) b off n c k hlt W
        have ok := HI.out.in_.rows.good _ (List.getElem_mem hkA)
        have hal := hel.all hkA
        obtain ⟨XE, hXE⟩ : ∃ X, X = (sxL A[k]).toArray := ⟨_, rfl⟩
        rw [← hXE] at hal
        have HES := Lib.hid hal
        have g2 := hel.hg
        have HZX : Hid (XE.size = 33) := Lib.hid (by rw [hXE]; simp [encSx.len _ ok])
        obtain ⟨AK, hAK⟩ : ∃ a, a = A[k] := ⟨_, rfl⟩
        rw [← hAK] at ok hXE hst
        have HONE := Lib.hid (fun (W : World) => flat_rec encSx W 73 AK ok XE hXE)
        have HST : Hid (∀ (wx : World) (v : Value), wx.ownsRow W1.heap.size 73 33 v (lk + 1) (flatR sxL LA ++ sxL AK) → wx.ownsRow W1.heap.size 73 33 v (cutG (A.take k1) i).length (flatR sxL (cutG (A.take k1) i))) := Lib.hid (fun wx v h => by
          rw [hst, List.length_append, ← flatR_snoc, ← hlk]
          exact h)
        subst hp
        clear hkA hst hel ok hal hXE hAK hk1 hk hlt hLA hLl hlk hik
        go_wp2_with (first
          | (with_reducible refine wpList_load_sub rfl _ _ rfl b (off + k * 33) 33 rfl t cs fr _ g2 Try.underlying73 rfl infoSxRw HES.out.1 XE HES.out.2 ?_)
          | (with_reducible refine wpList_buildR rfl _ _ _ rfl 33 ir zr Try.underlying30 HIR.out HZ1.out HZ0.out (by decide) (by decide) XE rfl HZX.out ?_)
          | (at_builtin; refine wpList_append_flat rfl _ _ 30 rfl W1.heap.size 73 ir zr 33 56 Try.underlying30 HIR.out HZ0.out HZ1.out HZ2.out HZS.out (by decide) _ _ _ rfl (HOW.out.alloc _) _ 1 (sxL AK) rfl (HONE.out _) ?qd2 ?qd3 ?qd4 ?_))
        case qd2 => have := HKK.out; have := HN6.out; unfold maxLen; omega
        case qd3 => have := HKK.out; have := HN6.out; omega
        case qd4 => have := HK.out.size; simp; omega
        intro v4 w9 hown hgrow _
        have HK9 : Hid (Kept W1 w9) := Lib.hid (append_keptX HK.out (Nat.le_refl _) HOW.out hgrow)
        have HOW9 := Lib.hid (HST.out w9 v4 hown)
        obtain ⟨pv', cv', htv', -, -⟩ := own_slice hown
        subst htv'
        clear hown hgrow HST g2
        go_wp2
        go_roundg (n - k1)
        · exact ⟨k1, by have := HKK.out; omega, by first | rfl | (have := HKK.out; congr 1; omega), HOW9, HK9⟩
        · have := HKK.out; omega
    · have hki : ¬ (k : Int) < n := by omega
      have bk : decide ((k : Int) < (n : Int)) = false := by simpa using hki
      have hkn : k = n := by omega
      have hta : A.take k = A := List.take_of_length_le (by rw [hkn, HN.out]; exact Nat.le_refl _)
      rw [hta] at hLA
      have HLA := Lib.hid hLA
      have HLL : Hid (lk ≤ 1000000) := Lib.hid (by have := HN6.out; omega)
      have HRX := Lib.hid (HK.out.row HRX1.out)
      have HONE := Lib.hid (fun (W : World) => flat_rec encSx W 73 (r, tr) HOKR.out X HX.out)
      have rx := HRX.out
      clear hkn hta hLA hlk hLl hk hlt
      go_wp2_with (first
        | (with_reducible refine wpList_load_row rfl _ _ rfl w.heap.size rfl 73 X (0, 0) _ rx Try.underlying73 rfl HXI.out ?_)
        | (with_reducible refine wpList_buildR rfl _ _ _ rfl 33 ir zr Try.underlying30 HIR.out HZ1.out HZ0.out (by decide) (by decide) X rfl HXS.out ?_)
        | (at_builtin; refine wpList_append_flat rfl _ _ 30 rfl W1.heap.size 73 ir zr 33 56 Try.underlying30 HIR.out HZ0.out HZ1.out HZ2.out HZS.out (by decide) _ _ _ rfl (HOW.out.alloc _) _ 1 (sxL (r, tr)) rfl (HONE.out _) ?qe2 ?qe3 ?qe4 ?_))
      case qe2 => have := HLL.out; unfold maxLen; omega
      case qe3 => have := HLL.out; omega
      case qe4 => have := HK.out.size; simp; omega
      intro v4 w9 hown hgrow _
      have HK9 : Hid (Kept W1 w9) := Lib.hid (append_keptX HK.out (Nat.le_refl _) HOW.out hgrow)
      have HI9 := Lib.hid (HH.out.later HK9.out)
      have f2 := HI9.out.c2
      have ff2 := frozen_of_row w9 g 2 _ _ HI9.out.row
      have HOW9 := Lib.hid hown
      obtain ⟨pv', cv', htv', -, -⟩ := own_slice hown
      subst htv'
      clear hown hgrow rx
      go_wp2
      go_end0
      have hk09 : Kept w w9 := HK1.out.then HK9.out
      have hbut : ButBy (fun m => m = g) w (w9.setCell ⟨g, 2, none⟩ (.slice pv' (lk + 1) cv')) := (ButBy.below hk09).setCell g 2 _ rfl
      have hoff : Off E w (w9.setCell ⟨g, 2, none⟩ (.slice pv' (lk + 1) cv')) := Off.of_but HBD.out.1 hbut
      refine ⟨rfl, ⟨cutG A i ++ [(r, tr)], .slice pv' (lk + 1) cv', ⟨heap_setCell_same w9 g 2 _ _ _ HI9.out.row, fun W hW => ?_, HBD.out.1, fun j hj => Nat.lt_of_lt_of_le (HBD.out.2 j hj) hbut.size⟩, ?_⟩, hbut⟩
      · have hWw : Off E w W := hoff.trans hbut.size hW
        have hin := HH0.out.rows W hWw
        have hgood : ∀ a ∈ cutG A i ++ [(r, tr)], okSx a := fun a ha => by
          rcases List.mem_append.1 ha with x | x
          · exact hin.rows.good a ((cutG_sub A i).mem x)
          · rw [List.mem_singleton.1 x]; exact HOKR.out
        refine ⟨fun a ha => ?_, RowsAt.own (base := W1.heap.size) (e := 73) encSx hgood ?_⟩
        · rcases List.mem_append.1 ha with x | x
          · exact hin.each a ((cutG_sub A i).mem x)
          · rw [List.mem_singleton.1 x]; exact HRU.out W hWw
        · have ho := HOW9.out
          rw [flatR_snoc, HLA.out] at ho
          have hlen : (cutG A i ++ [(r, tr)]).length = lk + 1 := by rw [List.length_append, HLK.out, HLA.out]; rfl
          rw [hlen]
          refine own_stay ho (fun m hm => ?_)
          have hlt := ho.lt m hm
          have h1 := HGW.out
          have h2 := HS1.out
          have hne : m ≠ g := by omega
          have h3 : m < (w9.setCell ⟨g, 2, none⟩ (.slice pv' (lk + 1) cv')).heap.size := by
            show m < (w9.heap.modify _ _).size
            rw [Array.size_modify]; exact hlt.2
          rw [hW m (fun e => by have := HBD.out.2 m e; have := hlt.1; have := HK1.out.size; omega) h3, heap_setCell_other _ _ _ _ hne]
      · rw [List.map_append, cutG_map]; rfl

end Go.Proofs.Ytaajadmaamjebaa
namespace Go.Proofs.Ytaajadmaamjebaa
open Go.RowKit

set_option maxRecDepth 100000 in
set_option maxHeartbeats 16000000 in
theorem rlook17_any (E : Nat → Prop) (g : Nat) (per most : Int) (A : List (SRow × Value)) (tv : Value) (w : World) (H : IxAt E g per most A tv w) (hr : A.length ≤ 1000000) (h : List UInt8) (h32 : h.length = 32) :
    Calls Try.prog 21 #[.pointer (some ⟨g, 0, none⟩), .agg (fpA h)] w fun e w' => ∃ v, e = .returned v ∧ PeekAt E (peekS (A.map Prod.fst) h) v w' ∧ (∃ A' tv', IxAt E g per most A' tv' w' ∧ A'.map Prod.fst = lookS (A.map Prod.fst) h) ∧ ButBy (fun m => m = g) w w' := by
  have HBD := Lib.hid (show E g from H.mem)
  have CA := fun W (k : Kept w W) => rat17_any E g per most A tv W (H.later k) hr h h32
  obtain ⟨p, c, rfl⟩ := H.in_.cut
  obtain ⟨n, hn⟩ : ∃ n, n = A.length := ⟨_, rfl⟩
  rw [← hn] at H
  have HN := Lib.hid hn
  obtain ⟨R, hR⟩ : ∃ R, R = A.map Prod.fst := ⟨_, rfl⟩
  rw [← hR] at CA ⊢
  have HR := Lib.hid hR
  have HRN : Hid (R.length = n ∧ n ≤ 1000000) := Lib.hid ⟨by rw [hR, List.length_map, hn], by omega⟩
  have HI32 := Lib.hid (fp_info h h32)
  obtain ⟨F, hF⟩ : ∃ F, F = fpA h := ⟨_, rfl⟩
  rw [← hF] at HI32 CA ⊢
  obtain ⟨W1, hW1⟩ : ∃ W, W = w.alloc (.cells F 47) := ⟨_, rfl⟩
  have hk1 : Kept w W1 := by rw [hW1]; exact box_below _ _
  have HK1 := Lib.hid hk1
  have HH0 := Lib.hid H
  have HH := Lib.hid (H.later hk1)
  have HGW : Hid (g < w.heap.size) := Lib.hid (Array.getElem?_eq_some_iff.1 H.row).1
  have HW1 := Lib.hid hW1
  have C1 := CA W1 hk1
  obtain ⟨P, hP⟩ : ∃ P, P = peekS R h := ⟨_, rfl⟩
  rw [← hP]
  have HP := Lib.hid hP
  obtain ⟨LK, hLK⟩ : ∃ P, P = lookS R h := ⟨_, rfl⟩
  rw [← hLK]
  obtain ⟨z, hz⟩ : ∃ z, z = atS R h := ⟨_, rfl⟩
  rw [← hz] at C1
  cases hi : idxS R h with
  | none =>
    have hz1 : z = -1 := by rw [hz]; unfold atS; rw [hi]
    have HPE : Hid (P = []) := Lib.hid (by rw [hP]; unfold peekS; rw [hi])
    have HLE : Hid (LK = R) := Lib.hid (by rw [hLK]; unfold lookS; rw [hi])
    subst hz1
    clear hn H hR hr h32 hF hW1 hk1 CA hP hLK hz hi HRN
    go_enter Try.func21, Try.ntmps21
    go_wp2_with (first | (with_reducible refine wpList_load_row rfl _ _ rfl w.heap.size rfl 47 F (0, 0) _ (heap_alloc_last w _) Try.underlying47 rfl HI32.out ?_) | fail)
    rw [← HW1.out]
    refine C1.mono ?_
    rintro e w2 ⟨rfl, hk2⟩
    have HK2 := Lib.hid (HK1.out.then hk2)
    have HI2 := Lib.hid (HH.out.later hk2)
    clear hk2 C1
    go_wp2
    go_ret
    exact ⟨_, rfl, fun W _ => by rw [HPE.out]; exact RowsAt.nil W 0, ⟨A, _, HI2.out, by rw [HLE.out, HR.out]⟩, ButBy.below HK2.out⟩
  | some k =>
    obtain ⟨ir, zr, i1, i2, i3, i4, i5⟩ := infoSxF
    obtain ⟨hkR, hpk⟩ := peek_len hi
    have hlt : k < n := by rw [← HRN.out.1]; exact hkR
    have hz1 : z = (k : Int) := by rw [hz]; unfold atS; rw [hi]
    subst hz1
    have hkA : k < A.length := by rw [← HN.out]; exact hlt
    have hRk : R[k] = A[k].1 := by simp [HR.out]
    have HLE : Hid (LK = lastS R (k : Int) A[k].1) := Lib.hid (by
      rw [hLK]; unfold lookS; rw [hi]
      show lastS R _ (R.getD k ([], [])) = _
      rw [List.getD_eq_getElem?_getD, List.getElem?_eq_getElem hkR, ← hRk]; rfl)
    have ok := H.in_.rows.good _ (List.getElem_mem hkA)
    have hus : ∀ W, Off E w W → UsAt P A[k].2 W := fun W hW => by
      rw [hP, hpk, hRk]
      exact (H.rows W hW).each _ (List.getElem_mem hkA)
    have HUS := Lib.hid hus
    have HEL : Hid (∀ W, IxAt E g per most A (.slice p n c) W → ∃ b off cs t fr, p = some ⟨b, off, none⟩ ∧ W.heap[b]? = some (.cells cs t fr) ∧ off + k * 33 + 33 ≤ cs.size ∧ cs.extract (off + k * 33) (off + k * 33 + 33) = (sxL A[k]).toArray) := Lib.hid (fun W hW => by
      obtain ⟨b, off, cs, t, fr, hp, hel⟩ := hW.in_.elem (g := g) HN.out hlt
      exact ⟨b, off, cs, t, fr, hp, hel.hg, (hel.all hkA).1, (hel.all hkA).2⟩)
    obtain ⟨pm, cm, hpm, -, -⟩ := (hus w (Off.self E w)).out encU
    have CLA := Lib.hid (fun W (hk : Kept w W) => rlast17_any E g per most A (.slice p n c) W (H.later hk) hr (k : Int) (wf_of_leS _ (by omega) (by have := HRN.out; omega)) A[k].1 A[k].2 ok.1 (fun X hX => by
      have := hus X ((Off.of_kept hk).trans hk.size hX)
      rw [hP, hpk, hRk] at this
      exact this) ok.2)
    obtain ⟨AK, hAK⟩ : ∃ a, a = A[k] := ⟨_, rfl⟩
    rw [← hAK] at ok hus HUS HEL HLE hpm CLA
    obtain ⟨X, hX⟩ : ∃ X, X = (sxL AK).toArray := ⟨_, rfl⟩
    have hXs : X.size = 33 := by rw [hX]; simp [encSx.len _ ok]
    have HXS := Lib.hid hXs
    have HXO : Hid (X.all (·.oneCell') = true) := Lib.hid (by
      rw [hX, Array.all_eq_true_iff_forall_mem]
      exact fun x hx => encSx.one AK ok x (by simpa using hx))
    have HXI : Hid ((Try.prog.info? 73).map (·.size) = some X.size) := Lib.hid (by rw [hXs]; exact infoSxRw)
    have HX32 : Hid (X[32]? = some (.slice pm P.length cm)) := Lib.hid (by
      rw [hX, List.getElem?_toArray, sxL_tv ok.1, hpm])
    have hag : (sxL (AK.1, AK.2)).toArray = X := by rw [hX]
    rw [hag] at CLA
    rw [← hX] at HEL
    rw [hpm] at HUS
    have hz0 : ¬ (k : Int) < 0 := by omega
    have HIX : Hid (∀ b off, p = some ⟨b, off, none⟩ → ∀ W, (Instr.indexAt 30 (.slice p n c) (.int .i64 k)).run Try.prog W = .ok (.pointer (some ⟨b, off + k * 33, none⟩)) W) := Lib.hid (fun b off e W => by
      rw [e]
      exact idx_rec (P := Try.prog) Try.underlying30 (fun w => Try.sizeOf73 w) b off n c k hlt W)
    obtain ⟨m, hm⟩ : ∃ m, m = P.length := ⟨_, rfl⟩
    rw [← hm] at HX32 HUS
    clear i1 i2 i3 i4 i5 hn H hR hr h32 hF hW1 hk1 CA hP hLK hz hi hkR hpk hlt hkA hRk ok hus hpm hAK hX hXs hag hm
    go_enter Try.func21, Try.ntmps21
    go_wp2_with (first | (with_reducible refine wpList_load_row rfl _ _ rfl w.heap.size rfl 47 F (0, 0) _ (heap_alloc_last w _) Try.underlying47 rfl HI32.out ?_) | fail)
    rw [← HW1.out]
    refine C1.mono ?_
    rintro e w2 ⟨rfl, hk2⟩
    have HK2 : Hid (Kept w w2) := Lib.hid (HK1.out.then hk2)
    have HI2 := Lib.hid (HH.out.later hk2)
    have e2 := HI2.out.c2
    obtain ⟨b, off, cs, t, fr, hp, hgb, hz, hex⟩ := HEL.out w2 HI2.out
    have IX := HIX.out b off hp
    subst hp
    have HES := Lib.hid (show off + k * 33 + 33 ≤ cs.size ∧ cs.extract (off + k * 33) (off + k * 33 + 33) = X from ⟨hz, hex⟩)
    obtain ⟨W3, hW3⟩ : ∃ W, W = w2.alloc (.cells X 73) := ⟨_, rfl⟩
    have HW3 := Lib.hid hW3
    have hk3 : Kept w2 W3 := by rw [hW3]; exact box_below _ _
    have HK3 : Hid (Kept w W3) := Lib.hid (HK2.out.then hk3)
    have rx : W3.heap[w2.heap.size]? = some (.cells X 73 (0, 0)) := by rw [hW3]; exact heap_alloc_last w2 _
    have HRX := Lib.hid rx
    have HG2 : Hid (g < w2.heap.size ∧ w2.heap.size < W3.heap.size) := Lib.hid ⟨Nat.lt_of_lt_of_le HGW.out HK2.out.size, by rw [hW3]; simp⟩
    clear hk2 C1 hz hex HEL HIX hW3 hk3 rx
    go_wp2_with (first
      | (with_reducible refine wpList_load_sub rfl _ _ rfl b (off + k * 33) 33 rfl t cs fr _ hgb Try.underlying73 rfl infoSxRw HES.out.1 X HES.out.2 ?_)
      | ((with_reducible refine wpList_store_row rfl _ _ _ rfl w2.heap.size X rfl rfl 73 _ (heap_alloc_last w2 _) HXI.out ?hold HXO.out ?_); rotate_left; rw [World.setRow_alloc_new, ← HW3.out])
      | (with_reducible refine wpList_load_row rfl _ _ rfl w2.heap.size rfl 73 X (0, 0) _ HRX.out Try.underlying73 rfl HXI.out ?_)
      | fail)
    case hold => rw [HXS.out]; rfl
    refine (CLA.out W3 HK3.out).mono ?_
    rintro e w4 ⟨rfl, ⟨A', tv', hix, hmap⟩, hbut⟩
    have HIX4 := Lib.hid hix
    have HMP := Lib.hid hmap
    have HB4 : Hid (ButBy (fun m => m = g) w w4) := Lib.hid (⟨hbut.os.trans HK3.out.os, hbut.tape.trans HK3.out.tape, hbut.output.trans HK3.out.output, Nat.le_trans HK3.out.size hbut.size, fun j hj hn => (hbut.block j (Nat.lt_of_lt_of_le hj HK3.out.size) hn).trans (HK3.out.block j hj)⟩)
    have d0 : w4.cell? ⟨w2.heap.size, 32, none⟩ = some (.slice pm m cm) := by
      have h1 : w4.heap[w2.heap.size]? = some (.cells X 73 (0, 0)) := (hbut.block _ HG2.out.2 (by have := HG2.out.1; omega)).trans HRX.out
      rw [cell_of_row _ _ _ _ _ _ h1]
      exact HX32.out
    clear hix hmap hbut IX e2 hgb
    go_wp2
    go_ret
    exact ⟨_, rfl, fun W hW => HUS.out W ((Off.of_but HBD.out HB4.out).trans HB4.out.size hW), ⟨A', tv', HIX4.out, by rw [HMP.out, HLE.out, ← HR.out]⟩, HB4.out⟩

end Go.Proofs.Ytaajadmaamjebaa
