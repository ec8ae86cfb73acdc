/- The document's Less, Set of places, Places. -/
import Derived.Test.YteompckehokdoaaGreatDoorGI
namespace Go.Proofs.YteompckehokdoaaGreatDoor
open Go.RowKit

set_option maxRecDepth 100000 in
set_option maxHeartbeats 4000000 in
theorem rless15_any (ab : Nat) (as_ : Int) (bb : Nat) (bs : Int) (w : World) :
    Calls Tryz.prog 44 #[.agg #[.int .u32 (ab : Nat), .int .i64 as_], .agg #[.int .u32 (bb : Nat), .int .i64 bs]] w fun e w' => e = .returned (.bool (ltP (ab, as_) (bb, bs))) ∧ Below w.heap.size w w' := by
  have hs1 : (w.alloc (.cells #[.int .u32 (ab : Nat), .int .i64 as_] 35)).heap.size = w.heap.size + 1 := by simp
  obtain ⟨W1, hW1⟩ : ∃ W, W = (w.alloc (.cells #[.int .u32 (ab : Nat), .int .i64 as_] 35)).alloc (.cells #[.int .u32 (bb : Nat), .int .i64 bs] 35) := ⟨_, rfl⟩
  have HK1 : Hid (Kept w W1) := Lib.hid (by rw [hW1]; exact (show Kept w _ from box_below _ _).then (box_below _ _))
  have hrowa : W1.heap[w.heap.size]? = some (.cells #[.int .u32 (ab : Nat), .int .i64 as_] 35 (0, 0)) := by rw [hW1]; exact Kept.row (box_below _ _) (heap_alloc_last w _)
  have hrowb : W1.heap[w.heap.size + 1]? = some (.cells #[.int .u32 (bb : Nat), .int .i64 bs] 35 (0, 0)) := by
    have := heap_alloc_last (w.alloc (.cells #[.int .u32 (ab : Nat), .int .i64 as_] 35)) (.cells #[.int .u32 (bb : Nat), .int .i64 bs] 35)
    rw [hs1] at this
    rw [hW1]; exact this
  have a0 : W1.cell? ⟨w.heap.size, 0, none⟩ = some (.int .u32 (ab : Nat)) := by rw [cell_of_row _ _ _ _ _ _ hrowa]; rfl
  have a1 : W1.cell? ⟨w.heap.size, 1, none⟩ = some (.int .i64 as_) := by rw [cell_of_row _ _ _ _ _ _ hrowa]; rfl
  have d0 : W1.cell? ⟨w.heap.size + 1, 0, none⟩ = some (.int .u32 (bb : Nat)) := by rw [cell_of_row _ _ _ _ _ _ hrowb]; rfl
  have d1 : W1.cell? ⟨w.heap.size + 1, 1, none⟩ = some (.int .i64 bs) := by rw [cell_of_row _ _ _ _ _ _ hrowb]; rfl
  rw [hW1] at a0 a1 d0 d1
  obtain ⟨r, hr⟩ : ∃ r, r = ltP (ab, as_) (bb, bs) := ⟨_, rfl⟩
  have HR : Hid (r = (decide (ab < bb) || (decide (ab = bb) && decide (as_ < bs)))) := Lib.hid hr
  have HW1 := Lib.hid hW1
  rw [← hr]
  clear hr hs1 hrowa hrowb hW1
  by_cases h1 : ab < bb
  · have b1 : decide ((ab : Int) < (bb : Int)) = true := decide_eq_true (by omega)
    obtain rfl : r = true := by rw [HR.out, decide_eq_true h1]; rfl
    have h1' := h1
    clear HR
    go_enter Tryz.func44, Tryz.ntmps44
    go_wp2
    go_ret
    exact ⟨rfl, by rw [← HW1.out]; exact HK1.out⟩
  · have b1 : decide ((ab : Int) < (bb : Int)) = false := decide_eq_false (by omega)
    by_cases h2 : ab = bb
    · subst h2
      have b2 : ((ab : Int) == (ab : Int)) = true := beq_self_eq_true _
      obtain rfl : r = decide (as_ < bs) := by rw [HR.out]; simp
      clear HR
      go_enter Tryz.func44, Tryz.ntmps44
      go_wp2
      go_ret
      exact ⟨rfl, by rw [← HW1.out]; exact HK1.out⟩
    · have b2 : ((ab : Int) == (bb : Int)) = false := beq_eq_false_iff_ne.2 (by omega)
      obtain rfl : r = false := by rw [HR.out, decide_eq_false h1, decide_eq_false h2]; rfl
      clear HR
      go_enter Tryz.func44, Tryz.ntmps44
      go_wp2
      go_ret
      exact ⟨rfl, by rw [← HW1.out]; exact HK1.out⟩

theorem atP_is (x : Pl) (S : List Pl) : ∀ (k : Nat), (∀ a ∈ S.take k, ltP a x = true) → k ≤ S.length → (∀ h : k < S.length, ltP S[k] x = false) → atP x S = k := by
  induction S with
  | nil => intro k _ hk _; simp at hk; rw [hk]; rfl
  | cons a S ih =>
    intro k h1 hk h2
    rw [atP_cons]
    cases k with
    | zero =>
      have := h2 (by simp)
      simp only [List.getElem_cons_zero] at this
      rw [if_neg (by rw [this]; decide)]
    | succ k =>
      have ha : ltP a x = true := h1 a (by simp)
      rw [if_pos ha, ih k (fun b hb => h1 b (by simp [hb])) (by simpa using hk) (fun h => by
        have := h2 (by simpa using h)
        simpa using this)]
theorem psetL_take (ls : List Pl) (i : Nat) (h : i < ls.length) : psetL (ls.take (i + 1)) = paddP (psetL (ls.take i)) ls[i] := by
  unfold psetL
  rw [List.take_succ_eq_append_getElem h, List.foldl_append]
  rfl

set_option maxRecDepth 100000 in
set_option maxHeartbeats 16000000 in
theorem rset15_any (ls : List Pl) (v : Value) (w : World) (h : PlsAt ls v w) (hl : ls.length ≤ 1000000) :
    Calls Tryz.prog 26 #[v] w fun e w' => ∃ v', e = .returned v' ∧ w'.ownsRow w.heap.size 35 2 v' (psetL ls).length (flatR plL (psetL ls)) ∧ Kept w w' := by
  obtain ⟨ir, hir, hx⟩ := Option.map_eq_some_iff.1 info_pl
  simp only [Prod.mk.injEq] at hx
  obtain ⟨hz0, hz1, hz2⟩ := hx
  have HIR := Lib.hid hir
  have HZ0 := Lib.hid hz0
  have HZ1 := Lib.hid hz1
  have HZ2 := Lib.hid hz2
  obtain ⟨p, c, rfl, -, hc⟩ := h.out encP
  have HC := Lib.hid hc
  have HG := Lib.hid h.good
  obtain ⟨n, hn⟩ : ∃ n, n = ls.length := ⟨_, rfl⟩
  have HN := Lib.hid hn
  rw [← hn] at hl
  rw [← hn]
  have HL := Lib.hid hl
  obtain ⟨B, hB⟩ : ∃ B, B = w.heap.size := ⟨_, rfl⟩
  have HB := Lib.hid hB
  rw [← hB]
  clear hir hz0 hz1 hz2 hc h hn hl hB
  go_enter Tryz.func26, Tryz.ntmps26
  go_wp2
  go_loopg [3, 4] n (fun gh u y wr => ∃ (i : Nat) (tv : Value), i + gh = n ∧ u = tv ∧ y = .int .i64 i ∧ Hid (wr.ownsRow B 35 2 tv (psetL (ls.take i)).length (flatR plL (psetL (ls.take i)))) ∧ Hid (Kept w wr))
  case atStart => exact ⟨0, _, by omega, rfl, rfl, Lib.hid (World.ownsRow_nil _ _ _ 2), Lib.hid (Kept.refl w)⟩
  case round =>
    obtain ⟨i, tv, hi, rfl, rfl, HO, HKW⟩ := hrel
    by_cases hlt : i < n
    · have hii : (i : Int) < n := by omega
      have bi : decide ((i : Int) < (n : Int)) = true := by simpa using hii
      have hii0 : (0 : Int) ≤ i := by omega
      have hil : i < ls.length := by have := HN.out; omega
      rcases HC.out with h0 | ⟨b, off, rfl, hcell⟩
      · have := HN.out; omega
      have IX2 := fun W => idx_rec (P := Tryz.prog) Tryz.underlying28 (fun w => Tryz.sizeOf35 w) b off n c i hlt W
      have HX0 : Hid (w.cell? ⟨b, off + i * 2, none⟩ = some (.int .u32 ((ls[i]).1 : Nat))) := Lib.hid (hcell i hil 0 _ rfl)
      have HX1 : Hid (w.cell? ⟨b, off + i * 2 + 1, none⟩ = some (.int .i64 (ls[i]).2)) := Lib.hid (hcell i hil 1 _ rfl)
      have hxw := HG.out _ (List.getElem_mem hil)
      have hst := psetL_take ls i hil
      obtain ⟨x, hx⟩ : ∃ x, x = ls[i] := ⟨_, rfl⟩
      rw [← hx] at HX0 HX1 hxw hst
      obtain ⟨xb, xs⟩ := x
      simp only at HX0 HX1
      have HXW := Lib.hid hxw
      have hsl := psetL_len (ls.take i)
      rw [List.length_take] at hsl
      have hsw : ∀ q ∈ psetL (ls.take i), wfP q := psetL_wf (fun q hq => HG.out q (List.mem_of_mem_take hq))
      obtain ⟨S, hS⟩ : ∃ S, S = psetL (ls.take i) := ⟨_, rfl⟩
      rw [← hS] at HO hst hsl hsw
      obtain ⟨m, hm⟩ : ∃ m, m = S.length := ⟨_, rfl⟩
      have HMM := Lib.hid hm
      have HSL : Hid (m ≤ 1000000) := Lib.hid (by have := HL.out; omega)
      have HSW := Lib.hid hsw
      obtain ⟨pv, cv, htv, -, hrow⟩ := own_slice HO.out
      rw [← hm] at htv
      subst htv
      have HRW : Hid (∀ k (hk : k < S.length), ∃ g o yb ys, pv = some ⟨g, o, none⟩ ∧ S[k]'hk = (yb, ys) ∧ wr.cell? ⟨g, o + k * 2, none⟩ = some (.int .u32 (yb : Nat)) ∧ wr.cell? ⟨g, o + k * 2 + 1, none⟩ = some (.int .i64 ys)) := Lib.hid (fun k hk => by
        rcases hrow with h0 | ⟨g, hp, -, hc⟩
        · omega
        · refine ⟨g, 0, (S[k]'hk).1, (S[k]'hk).2, hp, rfl, hc _ _ ?_, hc _ _ ?_⟩
          · have := flatR_get encP S HSW.out k hk 0 (by decide)
            rw [Nat.zero_add]; rw [Nat.add_zero] at this; rw [this]; rfl
          · have := flatR_get encP S HSW.out k hk 1 (by decide)
            rw [Nat.zero_add, this]; rfl)
      obtain ⟨i1, hi1⟩ : ∃ i1, i1 = i + 1 := ⟨_, rfl⟩
      have v1 : IntKind.i64.wrap ((i : Int) + 1) = (i1 : Int) := by rw [show (i : Int) + 1 = (i1 : Int) by omega]; exact IntWalk.i64_in _ (by have := HL.out; omega)
      have HKK : Hid (i1 = i + 1 ∧ i + gk = n ∧ i < n) := Lib.hid ⟨hi1, hi, hlt⟩
      have HST : Hid (psetL (ls.take i1) = paddP S (xb, xs)) := Lib.hid (by rw [hi1]; exact hst)
      have HBW : Hid (B ≤ wr.heap.size) := Lib.hid (by rw [HB.out]; exact HKW.out.size)
      clear hcell hxw hst hsl hsw hrow hx hS hm hi1 hi hlt hil
      go_wp2
      obtain ⟨w2, hw2⟩ : ∃ wo : World, wo = wr := ⟨_, rfl⟩
      subst hw2
      go_loopg [5] m (fun gh y wq => ∃ (k : Nat), k + gh = m ∧ y = .int .i64 k ∧ Hid (∀ a ∈ S.take k, ltP a (xb, xs) = true) ∧ Hid (Kept w2 wq))
      case atStart => exact ⟨0, by omega, rfl, Lib.hid (fun a ha => by simp at ha), Lib.hid (Kept.refl w2)⟩
      case round =>
        obtain ⟨k, hk, rfl, HA, HK⟩ := hrel
        have x0 := HK.out.cell (HKW.out.cell HX0.out)
        have x1 := HK.out.cell (HKW.out.cell HX1.out)
        by_cases hkm' : k < m
        · have hkm : k ≤ m := by omega
          have hkz : (k : Int) < (m : Int) := by omega
          have bk : decide ((k : Int) < (m : Int)) = true := by simpa using hkz
          have hk0 : (0 : Int) ≤ k := by omega
          have hkS : k < S.length := by rw [← HMM.out]; exact hkm'
          obtain ⟨g, o, yb, ys, rfl, hy, hg0, hg1⟩ := HRW.out k hkS
          have f0 := HK.out.cell hg0
          have f1 := HK.out.cell hg1
          have IX1 := fun W => idx_rec (P := Tryz.prog) Tryz.underlying28 (fun w => Tryz.sizeOf35 w) g o m cv k hkm' W
          have HSK : Hid (k < S.length) := Lib.hid hkS
          have htk : S.take (k + 1) = S.take k ++ [(yb, ys)] := (List.take_succ_eq_append_getElem hkS).trans (congrArg (fun z => S.take k ++ [z]) hy)
          have hat : S[k]? = some (yb, ys) := (List.getElem?_eq_getElem hkS).trans (congrArg some hy)
          have HY := Lib.hid hy
          have CM := fun W => rless15_any yb ys xb xs W
          obtain ⟨q, hq⟩ : ∃ q, q = ltP (yb, ys) (xb, xs) := ⟨_, rfl⟩
          rw [← hq] at CM
          have HQ := Lib.hid hq
          obtain ⟨k1, hk1⟩ : ∃ k1, k1 = k + 1 := ⟨_, rfl⟩
          have v2 : IntKind.i64.wrap ((k : Int) + 1) = (k1 : Int) := by rw [show (k : Int) + 1 = (k1 : Int) by omega]; exact IntWalk.i64_in _ (by have := HSL.out; omega)
          have HK1 : Hid (k1 = k + 1 ∧ k + gk = m ∧ k < m) := Lib.hid ⟨hk1, hk, hkm'⟩
          have HTK : Hid (S.take k1 = S.take k ++ [(yb, ys)]) := Lib.hid (by rw [hk1]; exact htk)
          have HAT := Lib.hid hat
          clear htk hat hy hq hk1 hk hg0 hg1
          go_wp2_with fail
          refine wp_region_kept (by kernel_rfl) (by kernel_rfl) ?_
          refine wpQuiet_pure (v := ?_) (by kernel_rfl) ?_ (fun K hK => ?_)
          case refine_2 => intro W _; go_simp; try with_reducible rfl
          go_simp
          refine hK _ ?_; clear hK K
          refine wpQuiet_pure (v := ?_) (by kernel_rfl) ?_ (fun K hK => ?_)
          case refine_2 => intro W _; go_simp; try with_reducible rfl
          go_simp
          refine hK _ ?_; clear hK K
          refine wpQuiet_pure (v := ?_) (by kernel_rfl) ?_ (fun K hK => ?_)
          case refine_2 => intro W _; go_simp; try with_reducible rfl
          go_simp
          refine hK _ ?_; clear hK K
          refine wpQuiet_pure (by kernel_rfl) (.bool true) (fun W _ => by go_simp) (fun K hK => ?_)
          go_simp
          refine hK _ ?_; clear hK K
          refine wpQuiet_pure (v := ?_) (by kernel_rfl) ?_ (fun K hK => ?_)
          case refine_2 => intro W _; go_simp; try with_reducible rfl
          go_simp
          refine hK _ ?_; clear hK K
          refine wpQuiet_pure (v := ?_) (by kernel_rfl) ?_ (fun K hK => ?_)
          case refine_2 => intro W _; go_simp; try with_reducible rfl
          go_simp
          refine hK _ ?_; clear hK K
          refine wpQuiet_pure (v := ?_) (by kernel_rfl) ?_ (fun K hK => ?_)
          case refine_2 => intro W _; go_simp; try with_reducible rfl
          go_simp
          refine hK _ ?_; clear hK K
          refine wpQuiet_pure (v := ?_) (by kernel_rfl) ?_ (fun K hK => ?_)
          case refine_2 => intro W _; go_simp; try with_reducible rfl
          go_simp
          refine hK _ ?_; clear hK K
          refine wpQuiet_pure (v := ?_) (by kernel_rfl) ?_ (fun K hK => ?_)
          case refine_2 => intro W hW; have e0 := hW.cell f0; have e1 := hW.cell f1; go_simp; try with_reducible rfl
          go_simp
          refine hK _ ?_; clear hK K
          refine wpQuiet_pure (v := ?_) (by kernel_rfl) ?_ (fun K hK => ?_)
          case refine_2 => intro W _; go_simp; try with_reducible rfl
          go_simp
          refine hK _ ?_; clear hK K
          refine wpQuiet_pure (v := ?_) (by kernel_rfl) ?_ (fun K hK => ?_)
          case refine_2 => intro W _; go_simp; try with_reducible rfl
          go_simp
          refine hK _ ?_; clear hK K
          refine wpQuiet_pure (v := ?_) (by kernel_rfl) ?_ (fun K hK => ?_)
          case refine_2 => intro W _; go_simp; try with_reducible rfl
          go_simp
          refine hK _ ?_; clear hK K
          refine wpQuiet_pure (v := ?_) (by kernel_rfl) ?_ (fun K hK => ?_)
          case refine_2 => intro W hW; have e0 := hW.cell x0; have e1 := hW.cell x1; go_simp; try with_reducible rfl
          go_simp
          refine hK _ ?_; clear hK K
          refine wpQuiet_call (by kernel_rfl) _ _ _ (fun W => by go_simp) (fun W h => Calls.kept_of h (CM W)) (fun K hK => ?_)
          go_simp
          refine hK _ ?_; clear hK K
          refine wpQuiet_pure (v := ?_) (by kernel_rfl) ?_ (fun K hK => ?_)
          case refine_2 => intro W _; go_simp; try with_reducible rfl
          go_simp
          refine hK _ ?_; clear hK K
          refine wpQuiet_nil ?_
          intro w3 hk3
          cases q with
          | true =>
            have HA1 : Hid (∀ a ∈ S.take k1, ltP a (xb, xs) = true) := Lib.hid (fun a ha => by
              rw [HTK.out] at ha
              rcases List.mem_append.1 ha with e | e
              · exact HA.out a e
              · rw [List.mem_singleton.1 e]; exact HQ.out.symm)
            have HK3 : Hid (Kept w2 w3) := Lib.hid (HK.out.then hk3)
            clear hk3 f0 f1 x0 x1 IX1 CM
            go_wp2
            go_roundg (m - k1)
            · exact ⟨k1, by have := HK1.out; omega, by first | rfl | (have := HK1.out; congr 1; omega), HA1, HK3⟩
            · have := HK1.out; omega
          | false =>
            have HATP : Hid (atP (xb, xs) S = k) := Lib.hid (atP_is _ S k HA.out (by rw [← HMM.out]; exact hkm) (fun h => by have e := HQ.out.symm; rw [← HY.out] at e; exact e))
            replace HK : Hid (Kept w2 w3) := Lib.hid (HK.out.then hk3)
            replace f0 := hk3.cell f0
            replace f1 := hk3.cell f1
            replace x0 := hk3.cell x0
            replace x1 := hk3.cell x1
            clear hk3 CM
            by_cases heq : (yb, ys) = (xb, xs)
            · obtain ⟨rfl, rfl⟩ := Prod.mk.inj heq
              have HSAME : Hid (psetL (ls.take i1) = S) := Lib.hid (by rw [HST.out]; unfold paddP; rw [HATP.out, if_pos HAT.out])
              clear heq
              go_wp2_with fail
              refine wp_region_kept (by kernel_rfl) (by kernel_rfl) ?_
              refine wpQuiet_pure (v := ?_) (by kernel_rfl) ?_ (fun K hK => ?_)
              case refine_2 => intro W _; go_simp; try with_reducible rfl
              go_simp
              refine hK _ ?_; clear hK K
              refine wpQuiet_pure (v := ?_) (by kernel_rfl) ?_ (fun K hK => ?_)
              case refine_2 => intro W _; go_simp; try with_reducible rfl
              go_simp
              refine hK _ ?_; clear hK K
              refine wpQuiet_pure (v := ?_) (by kernel_rfl) ?_ (fun K hK => ?_)
              case refine_2 => intro W _; go_simp; try with_reducible rfl
              go_simp
              refine hK _ ?_; clear hK K
              refine wpQuiet_pure (by kernel_rfl) (.bool true) (fun W _ => by go_simp) (fun K hK => ?_)
              go_simp
              refine hK _ ?_; clear hK K
              refine wpQuiet_pure (v := ?_) (by kernel_rfl) ?_ (fun K hK => ?_)
              case refine_2 => intro W _; go_simp; try with_reducible rfl
              go_simp
              refine hK _ ?_; clear hK K
              refine wpQuiet_pure (v := ?_) (by kernel_rfl) ?_ (fun K hK => ?_)
              case refine_2 => intro W _; go_simp; try with_reducible rfl
              go_simp
              refine hK _ ?_; clear hK K
              refine wpQuiet_pure (v := ?_) (by kernel_rfl) ?_ (fun K hK => ?_)
              case refine_2 => intro W _; go_simp; try with_reducible rfl
              go_simp
              refine hK _ ?_; clear hK K
              refine wpQuiet_pure (v := ?_) (by kernel_rfl) ?_ (fun K hK => ?_)
              case refine_2 => intro W _; go_simp; try with_reducible rfl
              go_simp
              refine hK _ ?_; clear hK K
              refine wpQuiet_pure (v := ?_) (by kernel_rfl) ?_ (fun K hK => ?_)
              case refine_2 => intro W hW; have e0 := hW.cell f0; have e1 := hW.cell f1; go_simp; try with_reducible rfl
              go_simp
              refine hK _ ?_; clear hK K
              refine wpQuiet_pure (v := ?_) (by kernel_rfl) ?_ (fun K hK => ?_)
              case refine_2 => intro W _; go_simp; try with_reducible rfl
              go_simp
              refine hK _ ?_; clear hK K
              refine wpQuiet_pure (v := ?_) (by kernel_rfl) ?_ (fun K hK => ?_)
              case refine_2 => intro W _; go_simp; try with_reducible rfl
              go_simp
              refine hK _ ?_; clear hK K
              refine wpQuiet_pure (v := ?_) (by kernel_rfl) ?_ (fun K hK => ?_)
              case refine_2 => intro W _; go_simp; try with_reducible rfl
              go_simp
              refine hK _ ?_; clear hK K
              refine wpQuiet_pure (v := ?_) (by kernel_rfl) ?_ (fun K hK => ?_)
              case refine_2 => intro W hW; have e0 := hW.cell x0; have e1 := hW.cell x1; go_simp; try with_reducible rfl
              go_simp
              refine hK _ ?_; clear hK K
              refine wpQuiet_pure (by kernel_rfl) (.bool true) (fun W _ => by go_simp; try exact ⟨rfl, rfl⟩) (fun K hK => ?_)
              go_simp
              refine hK _ ?_; clear hK K
              refine wpQuiet_pure (v := ?_) (by kernel_rfl) ?_ (fun K hK => ?_)
              case refine_2 => intro W _; go_simp; try with_reducible rfl
              go_simp
              refine hK _ ?_; clear hK K
              refine wpQuiet_nil ?_
              intro w4 hk4
              have K4 : Kept w2 w4 := HK.out.then hk4
              have HK4 : Hid (Kept w w4) := Lib.hid ((show Kept w w2 from HKW.out).then K4)
              have HO4 : Hid (w4.ownsRow B 35 2 (.slice (some ⟨g, o, none⟩) m cv) (psetL (ls.take i1)).length (flatR plL (psetL (ls.take i1)))) := Lib.hid (by
                rw [HSAME.out]
                exact own_stay HO.out (fun j hj => K4.block j (HO.out.lt j hj).2))
              clear hk4 K4 f0 f1 x0 x1 IX1 IX2
              go_wp2
              go_roundg (n - i1)
              · exact ⟨i1, _, by have := HKK.out; omega, rfl, by first | rfl | (have := HKK.out; congr 1; omega), HO4, HK4⟩
              · have := HKK.out; omega
            · have HINS : Hid (psetL (ls.take i1) = S.take k ++ [(xb, xs)] ++ S.drop k) := Lib.hid (by
                rw [HST.out]; unfold paddP
                rw [HATP.out, if_neg (fun e => heq (by rw [HAT.out] at e; exact Option.some.inj e))]
                unfold insP; rw [HATP.out])
              have HNE : Hid (¬ ((yb : Int) = (xb : Int) ∧ ys = xs)) := Lib.hid (fun e => heq (by rw [show yb = xb by omega, e.2]))
              clear heq
              go_wp2_with fail
              refine wp_region_kept (by kernel_rfl) (by kernel_rfl) ?_
              refine wpQuiet_pure (v := ?_) (by kernel_rfl) ?_ (fun K hK => ?_)
              case refine_2 => intro W _; go_simp; try with_reducible rfl
              go_simp
              refine hK _ ?_; clear hK K
              refine wpQuiet_pure (v := ?_) (by kernel_rfl) ?_ (fun K hK => ?_)
              case refine_2 => intro W _; go_simp; try with_reducible rfl
              go_simp
              refine hK _ ?_; clear hK K
              refine wpQuiet_pure (v := ?_) (by kernel_rfl) ?_ (fun K hK => ?_)
              case refine_2 => intro W _; go_simp; try with_reducible rfl
              go_simp
              refine hK _ ?_; clear hK K
              refine wpQuiet_pure (by kernel_rfl) (.bool true) (fun W _ => by go_simp) (fun K hK => ?_)
              go_simp
              refine hK _ ?_; clear hK K
              refine wpQuiet_pure (v := ?_) (by kernel_rfl) ?_ (fun K hK => ?_)
              case refine_2 => intro W _; go_simp; try with_reducible rfl
              go_simp
              refine hK _ ?_; clear hK K
              refine wpQuiet_pure (v := ?_) (by kernel_rfl) ?_ (fun K hK => ?_)
              case refine_2 => intro W _; go_simp; try with_reducible rfl
              go_simp
              refine hK _ ?_; clear hK K
              refine wpQuiet_pure (v := ?_) (by kernel_rfl) ?_ (fun K hK => ?_)
              case refine_2 => intro W _; go_simp; try with_reducible rfl
              go_simp
              refine hK _ ?_; clear hK K
              refine wpQuiet_pure (v := ?_) (by kernel_rfl) ?_ (fun K hK => ?_)
              case refine_2 => intro W _; go_simp; try with_reducible rfl
              go_simp
              refine hK _ ?_; clear hK K
              refine wpQuiet_pure (v := ?_) (by kernel_rfl) ?_ (fun K hK => ?_)
              case refine_2 => intro W hW; have e0 := hW.cell f0; have e1 := hW.cell f1; go_simp; try with_reducible rfl
              go_simp
              refine hK _ ?_; clear hK K
              refine wpQuiet_pure (v := ?_) (by kernel_rfl) ?_ (fun K hK => ?_)
              case refine_2 => intro W _; go_simp; try with_reducible rfl
              go_simp
              refine hK _ ?_; clear hK K
              refine wpQuiet_pure (v := ?_) (by kernel_rfl) ?_ (fun K hK => ?_)
              case refine_2 => intro W _; go_simp; try with_reducible rfl
              go_simp
              refine hK _ ?_; clear hK K
              refine wpQuiet_pure (v := ?_) (by kernel_rfl) ?_ (fun K hK => ?_)
              case refine_2 => intro W _; go_simp; try with_reducible rfl
              go_simp
              refine hK _ ?_; clear hK K
              refine wpQuiet_pure (v := ?_) (by kernel_rfl) ?_ (fun K hK => ?_)
              case refine_2 => intro W hW; have e0 := hW.cell x0; have e1 := hW.cell x1; go_simp; try with_reducible rfl
              go_simp
              refine hK _ ?_; clear hK K
              refine wpQuiet_pure (by kernel_rfl) (.bool false) (fun W _ => by go_simp; try exact fun a b => HNE.out ⟨a, b⟩) (fun K hK => ?_)
              go_simp
              refine hK _ ?_; clear hK K
              refine wpQuiet_pure (v := ?_) (by kernel_rfl) ?_ (fun K hK => ?_)
              case refine_2 => intro W _; go_simp; try with_reducible rfl
              go_simp
              refine hK _ ?_; clear hK K
              refine wpQuiet_nil ?_
              intro w4 hk4
              obtain ⟨pv, hpv⟩ : ∃ pv : Option Addr, pv = some ⟨g, o, none⟩ := ⟨_, rfl⟩
              rw [← hpv] at HO ⊢
              clear hpv f0 f1 IX1
              have K4 : Kept w2 w4 := HK.out.then hk4
              have HW4' : Hid (Kept w w4) := Lib.hid ((show Kept w w2 from HKW.out).then K4)
              have HBW4 : Hid (B ≤ w4.heap.size) := Lib.hid (Nat.le_trans HBW.out K4.size)
              have hO4 : w4.ownsRow B 35 2 (.slice pv m cv) S.length (flatR plL S) := by
                have h := own_stay HO.out (fun j hj => K4.block j (HO.out.lt j hj).2)
                rw [HMM.out] at h ⊢
                exact h
              obtain ⟨v1, v2, CT1, F1, CT2, F2⟩ := own_cutsR encP Tryz.underlying28 (fun w => Tryz.sizeOf35 w) HSW.out hO4 k (by rw [← HMM.out]; exact hkm)
              have hlt1 : (S.take k).length = k := by rw [List.length_take, ← HMM.out]; exact Nat.min_eq_left hkm
              have hlt2 : (S.drop k).length = m - k := by rw [List.length_drop, ← HMM.out]
              have HL1 := Lib.hid hlt1
              have HL2 := Lib.hid hlt2
              have HF1 : Hid (FlatAt 2 k (flatR plL (S.take k)) v1 w4) := Lib.hid (by have := F1.at_; rw [hlt1] at this; exact this)
              have HF2 : Hid (FlatAt 2 (m - k) (flatR plL (S.drop k)) v2 w4) := Lib.hid (by have := F2.at_; rw [hlt2] at this; exact this)
              have x0' := Kept.cell hk4 x0
              have x1' := Kept.cell hk4 x1
              have HM1000 : Hid (m ≤ 1000000 ∧ k ≤ m) := Lib.hid ⟨by have := HSL.out; omega, hkm⟩
              clear F1 F2 hO4 hlt1 hlt2 HK hk4 K4 x0 x1
              go_wp2_with (at_builtin; refine wpList_append_flat rfl _ _ 28 rfl w4.heap.size 35 ir (.agg #[.int .u32 0, .int .i64 0]) 2 16 Tryz.underlying28 HIR.out HZ0.out HZ1.out HZ2.out rfl (by decide) _ _ _ rfl (World.ownsRow_made w4 #[] 0 (Nat.le_refl _) (Nat.zero_le _) (by simp)) _ k (flatR plL (S.take k)) rfl ?qc1 ?qc2 ?qc3 ?qc4 ?_)
              case qc1 => exact HF1.out.later (box_below _ _)
              case qc2 => have := HM1000.out; unfold maxLen; omega
              case qc3 => have := HM1000.out; omega
              case qc4 => simp
              intro v3 w5 hown1 hgrow1 _
              have hk5 : Kept w4 w5 := Below.grown (box_below w4 _) hgrow1 (by simp) (by intro kk hkk; simp [Value.ownBlock] at hkk; omega)
              have HW5 : Hid (w5.ownsRow w4.heap.size 35 2 v3 k (flatR plL (S.take k))) := Lib.hid (by simpa using hown1)
              have HK5 := Lib.hid hk5
              have y0 := hk5.cell x0'
              have y1 := hk5.cell x1'
              have HF20 : Hid (FlatAt 2 (m - k) (flatR plL (S.drop k)) v2 w4) := HF2
              have HONE := Lib.hid (fun (W : World) => flat_rec encP W 35 (xb, xs) HXW.out #[.int .u32 (xb : Nat), .int .i64 xs] rfl)
              clear hown1 hgrow1 hk5 x0' x1' HF1 HF2
              go_wp2_with (at_builtin; refine wpList_append_flat rfl _ _ 28 rfl w4.heap.size 35 ir (.agg #[.int .u32 0, .int .i64 0]) 2 16 Tryz.underlying28 HIR.out HZ0.out HZ1.out HZ2.out rfl (by decide) _ _ _ rfl (HW5.out.alloc _) _ 1 (plL (xb, xs)) rfl (HONE.out _) ?qd2 ?qd3 ?qd4 ?_)
              case qd2 => have := HM1000.out; unfold maxLen; omega
              case qd3 => have := HM1000.out; omega
              case qd4 => have := HK5.out.size; simp; omega
              intro v4 w6 hown2 hgrow2 _
              have hk6 : Kept w4 w6 := append_keptX HK5.out (Nat.le_refl _) HW5.out hgrow2
              have HW6 : Hid (w6.ownsRow w4.heap.size 35 2 v4 (k + 1) (flatR plL (S.take k ++ [(xb, xs)]))) := Lib.hid (by rw [← flatR_snoc]; exact hown2)
              have HK6 := Lib.hid hk6
              have HF2'' := Lib.hid (HF20.out.later hk6)
              clear hown2 hgrow2 hk6 y0 y1 HONE HW5 HF20 HK5
              go_wp2_with (at_builtin; refine wpList_append_flat rfl _ _ 28 rfl w4.heap.size 35 ir (.agg #[.int .u32 0, .int .i64 0]) 2 16 Tryz.underlying28 HIR.out HZ0.out HZ1.out HZ2.out rfl (by decide) _ _ _ rfl HW6.out _ (m - k) (flatR plL (S.drop k)) rfl HF2''.out ?qe2 ?qe3 ?qe4 ?_)
              case qe2 => have := HM1000.out; unfold maxLen; omega
              case qe3 => have := HM1000.out; omega
              case qe4 => exact HK6.out.size
              intro v5 w7 hown3 hgrow3 _
              have HFIN : Hid (w7.ownsRow B 35 2 v5 (psetL (ls.take i1)).length (flatR plL (psetL (ls.take i1)))) := Lib.hid (by
                have h := own_base hown3 HBW4.out
                rw [← flatR_append] at h
                rw [HINS.out]
                have e : (S.take k ++ [(xb, xs)] ++ S.drop k).length = k + 1 + (m - k) := by
                  simp only [List.length_append, HL1.out, HL2.out, List.length_cons, List.length_nil]
                rw [e]
                exact h)
              have HKF : Hid (Kept w w7) := Lib.hid ((show Kept w w4 from HW4'.out).then (Below.grown HK6.out hgrow3 HK6.out.size (fun kk hkk => (HW6.out.lt kk hkk).1)))
              clear hown3 hgrow3 HW6 HF2'' HK6
              go_wp2
              go_roundg (n - i1)
              · exact ⟨i1, _, by have := HKK.out; omega, rfl, by first | rfl | (have := HKK.out; congr 1; omega), HFIN, HKF⟩
              · have := HKK.out; omega
        · have hkz : ¬ (k : Int) < (m : Int) := by omega
          have bk : decide ((k : Int) < (m : Int)) = false := by simpa using hkz
          have hke : k = m := by omega
          have hkm : k ≤ m := by omega
          have HATP : Hid (atP (xb, xs) S = k) := Lib.hid (atP_is _ S k HA.out (by rw [← HMM.out]; exact hkm) (fun h => by have := HMM.out; omega))
          have HINS : Hid (psetL (ls.take i1) = S.take k ++ [(xb, xs)] ++ S.drop k) := Lib.hid (by
            rw [HST.out]; unfold paddP
            rw [HATP.out, if_neg (fun e => by rw [List.getElem?_eq_none (by rw [← HMM.out]; omega)] at e; cases e)]
            unfold insP; rw [HATP.out])
          clear hke
          go_wp2_with fail
          refine wp_region_kept (by kernel_rfl) (by kernel_rfl) ?_
          refine wpQuiet_pure (v := ?_) (by kernel_rfl) ?_ (fun K hK => ?_)
          case refine_2 => intro W _; go_simp; try with_reducible rfl
          go_simp
          refine hK _ ?_; clear hK K
          refine wpQuiet_pure (v := ?_) (by kernel_rfl) ?_ (fun K hK => ?_)
          case refine_2 => intro W _; go_simp; try with_reducible rfl
          go_simp
          refine hK _ ?_; clear hK K
          refine wpQuiet_pure (v := ?_) (by kernel_rfl) ?_ (fun K hK => ?_)
          case refine_2 => intro W _; go_simp; try with_reducible rfl
          go_simp
          refine hK _ ?_; clear hK K
          refine wpQuiet_pure (by kernel_rfl) (.bool false) (fun W _ => by go_simp) (fun K hK => ?_)
          go_simp
          refine hK _ ?_; clear hK K
          refine wpQuiet_pure (v := ?_) (by kernel_rfl) ?_ (fun K hK => ?_)
          case refine_2 => intro W _; go_simp; try with_reducible rfl
          go_simp
          refine hK _ ?_; clear hK K
          go_big_quiet_skip
          go_big_quiet_skip
          go_big_quiet_skip
          go_big_quiet_skip
          go_big_quiet_skip
          go_big_quiet_skip
          go_big_quiet_skip
          go_big_quiet_skip
          go_big_quiet_skip
          refine wpQuiet_pure (v := ?_) (by kernel_rfl) ?_ (fun K hK => ?_)
          case refine_2 => intro W _; go_simp; try with_reducible rfl
          go_simp
          refine hK _ ?_; clear hK K
          refine wpQuiet_nil ?_
          intro w3 hk3
          replace HK : Hid (Kept w2 w3) := Lib.hid (HK.out.then hk3)
          replace x0 := hk3.cell x0
          replace x1 := hk3.cell x1
          clear hk3
          go_wp2_with fail
          refine wp_region_kept (by kernel_rfl) (by kernel_rfl) ?_
          refine wpQuiet_pure (v := ?_) (by kernel_rfl) ?_ (fun K hK => ?_)
          case refine_2 => intro W _; go_simp; try with_reducible rfl
          go_simp
          refine hK _ ?_; clear hK K
          refine wpQuiet_pure (v := ?_) (by kernel_rfl) ?_ (fun K hK => ?_)
          case refine_2 => intro W _; go_simp; try with_reducible rfl
          go_simp
          refine hK _ ?_; clear hK K
          refine wpQuiet_pure (v := ?_) (by kernel_rfl) ?_ (fun K hK => ?_)
          case refine_2 => intro W _; go_simp; try with_reducible rfl
          go_simp
          refine hK _ ?_; clear hK K
          refine wpQuiet_pure (by kernel_rfl) (.bool false) (fun W _ => by go_simp) (fun K hK => ?_)
          go_simp
          refine hK _ ?_; clear hK K
          refine wpQuiet_pure (v := ?_) (by kernel_rfl) ?_ (fun K hK => ?_)
          case refine_2 => intro W _; go_simp; try with_reducible rfl
          go_simp
          refine hK _ ?_; clear hK K
          go_big_quiet_skip
          go_big_quiet_skip
          go_big_quiet_skip
          go_big_quiet_skip
          go_big_quiet_skip
          go_big_quiet_skip
          go_big_quiet_skip
          go_big_quiet_skip
          go_big_quiet_skip
          refine wpQuiet_pure (v := ?_) (by kernel_rfl) ?_ (fun K hK => ?_)
          case refine_2 => intro W _; go_simp; try with_reducible rfl
          go_simp
          refine hK _ ?_; clear hK K
          refine wpQuiet_nil ?_
          intro w4 hk4
          have K4 : Kept w2 w4 := HK.out.then hk4
          have HW4' : Hid (Kept w w4) := Lib.hid ((show Kept w w2 from HKW.out).then K4)
          have HBW4 : Hid (B ≤ w4.heap.size) := Lib.hid (Nat.le_trans HBW.out K4.size)
          have hO4 : w4.ownsRow B 35 2 (.slice pv m cv) S.length (flatR plL S) := by
            have h := own_stay HO.out (fun j hj => K4.block j (HO.out.lt j hj).2)
            rw [HMM.out] at h ⊢
            exact h
          obtain ⟨v1, v2, CT1, F1, CT2, F2⟩ := own_cutsR encP Tryz.underlying28 (fun w => Tryz.sizeOf35 w) HSW.out hO4 k (by rw [← HMM.out]; exact hkm)
          have hlt1 : (S.take k).length = k := by rw [List.length_take, ← HMM.out]; exact Nat.min_eq_left hkm
          have hlt2 : (S.drop k).length = m - k := by rw [List.length_drop, ← HMM.out]
          have HL1 := Lib.hid hlt1
          have HL2 := Lib.hid hlt2
          have HF1 : Hid (FlatAt 2 k (flatR plL (S.take k)) v1 w4) := Lib.hid (by have := F1.at_; rw [hlt1] at this; exact this)
          have HF2 : Hid (FlatAt 2 (m - k) (flatR plL (S.drop k)) v2 w4) := Lib.hid (by have := F2.at_; rw [hlt2] at this; exact this)
          have x0' := Kept.cell hk4 x0
          have x1' := Kept.cell hk4 x1
          have HM1000 : Hid (m ≤ 1000000 ∧ k ≤ m) := Lib.hid ⟨by have := HSL.out; omega, hkm⟩
          clear F1 F2 hO4 hlt1 hlt2 HK hk4 K4 x0 x1
          go_wp2_with (at_builtin; refine wpList_append_flat rfl _ _ 28 rfl w4.heap.size 35 ir (.agg #[.int .u32 0, .int .i64 0]) 2 16 Tryz.underlying28 HIR.out HZ0.out HZ1.out HZ2.out rfl (by decide) _ _ _ rfl (World.ownsRow_made w4 #[] 0 (Nat.le_refl _) (Nat.zero_le _) (by simp)) _ k (flatR plL (S.take k)) rfl ?qc1 ?qc2 ?qc3 ?qc4 ?_)
          case qc1 => exact HF1.out.later (box_below _ _)
          case qc2 => have := HM1000.out; unfold maxLen; omega
          case qc3 => have := HM1000.out; omega
          case qc4 => simp
          intro v3 w5 hown1 hgrow1 _
          have hk5 : Kept w4 w5 := Below.grown (box_below w4 _) hgrow1 (by simp) (by intro kk hkk; simp [Value.ownBlock] at hkk; omega)
          have HW5 : Hid (w5.ownsRow w4.heap.size 35 2 v3 k (flatR plL (S.take k))) := Lib.hid (by simpa using hown1)
          have HK5 := Lib.hid hk5
          have y0 := hk5.cell x0'
          have y1 := hk5.cell x1'
          have HF20 : Hid (FlatAt 2 (m - k) (flatR plL (S.drop k)) v2 w4) := HF2
          have HONE := Lib.hid (fun (W : World) => flat_rec encP W 35 (xb, xs) HXW.out #[.int .u32 (xb : Nat), .int .i64 xs] rfl)
          clear hown1 hgrow1 hk5 x0' x1' HF1 HF2
          go_wp2_with (at_builtin; refine wpList_append_flat rfl _ _ 28 rfl w4.heap.size 35 ir (.agg #[.int .u32 0, .int .i64 0]) 2 16 Tryz.underlying28 HIR.out HZ0.out HZ1.out HZ2.out rfl (by decide) _ _ _ rfl (HW5.out.alloc _) _ 1 (plL (xb, xs)) rfl (HONE.out _) ?qd2 ?qd3 ?qd4 ?_)
          case qd2 => have := HM1000.out; unfold maxLen; omega
          case qd3 => have := HM1000.out; omega
          case qd4 => have := HK5.out.size; simp; omega
          intro v4 w6 hown2 hgrow2 _
          have hk6 : Kept w4 w6 := append_keptX HK5.out (Nat.le_refl _) HW5.out hgrow2
          have HW6 : Hid (w6.ownsRow w4.heap.size 35 2 v4 (k + 1) (flatR plL (S.take k ++ [(xb, xs)]))) := Lib.hid (by rw [← flatR_snoc]; exact hown2)
          have HK6 := Lib.hid hk6
          have HF2'' := Lib.hid (HF20.out.later hk6)
          clear hown2 hgrow2 hk6 y0 y1 HONE HW5 HF20 HK5
          go_wp2_with (at_builtin; refine wpList_append_flat rfl _ _ 28 rfl w4.heap.size 35 ir (.agg #[.int .u32 0, .int .i64 0]) 2 16 Tryz.underlying28 HIR.out HZ0.out HZ1.out HZ2.out rfl (by decide) _ _ _ rfl HW6.out _ (m - k) (flatR plL (S.drop k)) rfl HF2''.out ?qe2 ?qe3 ?qe4 ?_)
          case qe2 => have := HM1000.out; unfold maxLen; omega
          case qe3 => have := HM1000.out; omega
          case qe4 => exact HK6.out.size
          intro v5 w7 hown3 hgrow3 _
          have HFIN : Hid (w7.ownsRow B 35 2 v5 (psetL (ls.take i1)).length (flatR plL (psetL (ls.take i1)))) := Lib.hid (by
            have h := own_base hown3 HBW4.out
            rw [← flatR_append] at h
            rw [HINS.out]
            have e : (S.take k ++ [(xb, xs)] ++ S.drop k).length = k + 1 + (m - k) := by
              simp only [List.length_append, HL1.out, HL2.out, List.length_cons, List.length_nil]
            rw [e]
            exact h)
          have HKF : Hid (Kept w w7) := Lib.hid ((show Kept w w4 from HW4'.out).then (Below.grown HK6.out hgrow3 HK6.out.size (fun kk hkk => (HW6.out.lt kk hkk).1)))
          clear hown3 hgrow3 HW6 HF2'' HK6
          go_wp2
          go_roundg (n - i1)
          · exact ⟨i1, _, by have := HKK.out; omega, rfl, by first | rfl | (have := HKK.out; congr 1; omega), HFIN, HKF⟩
          · have := HKK.out; omega
    · have hii : ¬ (i : Int) < n := by omega
      have bi : decide ((i : Int) < (n : Int)) = false := by simpa using hii
      have hO : wr.ownsRow B 35 2 u3 (psetL ls).length (flatR plL (psetL ls)) := by
        have h := HO.out
        rw [List.take_of_length_le (by have := HN.out; omega)] at h
        exact h
      have HO2 := Lib.hid hO
      clear hO HO
      go_wp2
      go_ret
      exact ⟨_, rfl, HO2.out, HKW.out⟩

end Go.Proofs.YteompckehokdoaaGreatDoor
