/- The landed super's Same and Next: slices.Equal, slices.Clone of runs. The landed journal's Check, Same. -/
import Derived.Test.YtoigembmbajopaaDoorGS
import Derived.Test.YtoigembmbajopaaDoorGT
import Derived.Test.YtoigembmbajopaaDoorGL
import Derived.Laws.StructEq
namespace Go.Proofs.YtoigembmbajopaaDoor
open Go.RowKit

set_option maxRecDepth 100000 in
set_option maxHeartbeats 1000000 in
/-- Are two lists the same? -/
theorem sequal_any (la lb : List (Int × Int)) (u v : Value) (w : World) (ha : RunsAt la u w) (hb : RunsAt lb v w) (hla : la.length ≤ 1048576) :
    Calls Tryd.prog 45 #[u, v] w fun e w' => e = .returned (.bool (decide (la = lb))) ∧ Below w.heap.size w w' := by
  obtain ⟨pa, ca, rfl, -, hca⟩ := ha.out
  obtain ⟨pb, cb, rfl, -, hcb⟩ := hb.out
  by_cases hlen : la.length = lb.length
  · have b1 : ((la.length : Int) != (lb.length : Int)) = false := by rw [bne_eq_false_iff_eq]; omega
    have HCA := Lib.hid hca
    have HCB := Lib.hid hcb
    have HLEN := Lib.hid hlen
    obtain ⟨n, hn⟩ : ∃ n, n = la.length := ⟨_, rfl⟩
    have hm : lb.length = n := by omega
    rw [← hn] at b1 hla ⊢
    rw [hm] at b1 ⊢
    have HN := Lib.hid hn
    clear ha hb hca hcb hlen hn hm
    go_enter Tryd.func45, Tryd.ntmps45
    go_wp2
    go_loopg [13] n (fun gh s5 wx => ∃ k : Nat, k + gh = n ∧ s5 = .int .i64 k ∧ Hid (la.take k = lb.take k) ∧ Hid (Kept w wx))
    case atStart => exact ⟨0, by omega, rfl, Lib.hid rfl, Lib.hid (Kept.refl w)⟩
    case round =>
      obtain ⟨k, hk, rfl, HE, HK⟩ := hrel
      by_cases hkn : k < n
      · have hki : (k : Int) < n := by omega
        have bk : decide ((k : Int) < (n : Int)) = true := by simpa using hki
        have hki0 : (0 : Int) ≤ k := by omega
        have hka : k < la.length := by rw [← HN.out]; exact hkn
        have hkb : k < lb.length := by rw [← HLEN.out]; exact hka
        rcases HCA.out with h0 | ⟨ba, oa, rfl, hcella⟩
        · omega
        rcases HCB.out with h0 | ⟨bb, ob, rfl, hcellb⟩
        · omega
        have d1 := HK.out.cell (hcella k hka).1
        have d2 := HK.out.cell (hcella k hka).2
        have d3 := HK.out.cell (hcellb k hkb).1
        have d4 := HK.out.cell (hcellb k hkb).2
        have hne := neq_run la[k].1 la[k].2 lb[k].1 lb[k].2
        have htk := List.take_succ_eq_append_getElem hka
        have htl := List.take_succ_eq_append_getElem hkb
        have hd : (decide (la[k].1 = lb[k].1) && decide (la[k].2 = lb[k].2)) = decide (la[k] = lb[k]) := by
          rw [Bool.eq_iff_iff]; simp only [Bool.and_eq_true, decide_eq_true_eq, Prod.ext_iff]
        rw [hd] at hne
        obtain ⟨a1, ha1⟩ : ∃ a1, a1 = la[k].1 := ⟨_, rfl⟩
        obtain ⟨a2, ha2⟩ : ∃ a2, a2 = la[k].2 := ⟨_, rfl⟩
        obtain ⟨b1', hb1⟩ : ∃ b1', b1' = lb[k].1 := ⟨_, rfl⟩
        obtain ⟨b2', hb2⟩ : ∃ b2', b2' = lb[k].2 := ⟨_, rfl⟩
        rw [← ha1] at d1 hne
        rw [← ha2] at d2 hne
        rw [← hb1] at d3 hne
        rw [← hb2] at d4 hne
        obtain ⟨k1, hk1⟩ : ∃ k1, k1 = k + 1 := ⟨_, rfl⟩
        have v1 : IntKind.i64.wrap ((k : Int) + 1) = (k1 : Int) := by rw [show (k : Int) + 1 = (k1 : Int) by omega]; exact IntWalk.i64_in _ (by omega)
        by_cases heq : la[k] = lb[k]
        · have hnx : Hid (la.take k1 = lb.take k1) := Lib.hid (by rw [hk1, htk, htl, HE.out, heq])
          rw [decide_eq_true heq, Bool.not_true] at hne
          have HK2 : Hid (∀ j, Kept w (wr.drewN j)) := Lib.hid (fun j => HK.out.then (below_drewN (Below.refl _ wr) j))
          clear ha1 ha2 hb1 hb2 hd htk htl heq hcella hcellb
          go_wp2
          go_quiet (fail)
          go_wp2
          go_roundg (n - k1)
          case measure => omega
          case rel => exact ⟨k1, by omega, by first | rfl | (congr 1; omega), hnx, Lib.hid (HK2.out _)⟩
        · have hne2 : Hid (decide (la = lb) = false) := Lib.hid (decide_eq_false (fun e => heq (by subst e; rfl)))
          rw [decide_eq_false heq, Bool.not_false] at hne
          have HK2 : Hid (∀ j, Kept w (wr.drewN j)) := Lib.hid (fun j => HK.out.then (below_drewN (Below.refl _ wr) j))
          clear ha1 ha2 hb1 hb2 hd htk htl heq hcella hcellb
          go_wp2
          go_quiet (fail)
          go_wp2
          go_ret
          exact ⟨by rw [hne2.out]; rfl, HK2.out _⟩
      · have hki : ¬ (k : Int) < n := by omega
        have bk : decide ((k : Int) < (n : Int)) = false := by simpa using hki
        have hee : Hid (decide (la = lb) = true) := Lib.hid (decide_eq_true (by
          have h := HE.out
          rw [List.take_of_length_le (by rw [← HN.out]; omega), List.take_of_length_le (by rw [← HLEN.out, ← HN.out]; omega)] at h
          exact h))
        go_wp2
        go_ret
        exact ⟨by rw [hee.out]; rfl, HK.out⟩
  · have b1 : ((la.length : Int) != (lb.length : Int)) = true := by rw [bne_iff_ne]; omega
    have hne2 : Hid (decide (la = lb) = false) := Lib.hid (decide_eq_false (fun e => hlen (by rw [e])))
    obtain ⟨n, hn⟩ : ∃ n, n = la.length := ⟨_, rfl⟩
    obtain ⟨m, hm⟩ : ∃ m, m = lb.length := ⟨_, rfl⟩
    rw [← hn, ← hm] at b1 ⊢
    clear ha hb hca hcb hlen hn hm hla
    go_enter Tryd.func45, Tryd.ntmps45
    go_wp2
    go_ret
    exact ⟨by rw [hne2.out]; rfl, Below.refl _ _⟩


end Go.Proofs.YtoigembmbajopaaDoor
namespace Go.Proofs.YtoigembmbajopaaDoor
open Go.RowKit

theorem valid_none {l : List (Int × Int)} (h : validL 0 8192 l) (hs : sumR l = 0) : l.length = 0 := by
  cases l with
  | nil => rfl
  | cons a t =>
    exfalso
    have h0 : ∀ (l : List (Int × Int)), (∀ r ∈ l, 1 ≤ r.2) → (l.length : Int) ≤ sumR l := by
      intro l
      induction l with
      | nil => intro _; exact Int.le_refl _
      | cons b t ih =>
        intro hb
        have h1 := hb b (List.mem_cons_self ..)
        have h2 := ih (fun r hr => hb r (List.mem_cons_of_mem _ hr))
        have e : sumR (b :: t) = b.2 + sumR t := by
          rw [show b :: t = [b] ++ t from rfl, sumR_append]
          unfold sumR; simp
        rw [e, List.length_cons]
        omega
    have h1 := h0 (a :: t) (fun r hr => by
      obtain ⟨i, hi, rfl⟩ := List.mem_iff_getElem.1 hr
      have := (h i hi).1
      rw [getD_at hi] at this
      exact this.2.1)
    rw [hs, List.length_cons] at h1
    omega
theorem mayR_parts (r : Rc) : mayR r ↔ ¬ (idK r.kind = false ∧ nameK r.kind = false ∧ blobK r.kind = false) ∧ keyP (idK r.kind) (nameK r.kind) r ∧ blobP (blobK r.kind) r := by
  unfold mayR keyP blobP fitP
  have hbl : blobK r.kind = true → idK r.kind = true ∨ nameK r.kind = true := fun h => by
    rw [blobK_iff] at h; rw [idK_iff, nameK_iff]; omega
  constructor
  · rintro ⟨h0, h1, h2, h3, h4, h5⟩
    refine ⟨fun x => ?_, ⟨h1, h2, h3, h4⟩, ?_⟩
    · rw [x.1, x.2.1] at h0; simp at h0
    · rcases h5 with ⟨a, b, c, d, e⟩ | ⟨a, b, c⟩
      · exact ⟨Or.inl a, b.1, b.2, c, d, e⟩
      · have hn : r.runs = [] := List.length_eq_zero_iff.1 c
        refine ⟨Or.inr b, by omega, by omega, by omega, ?_, ?_⟩
        · rw [hn]; intro i hi; simp at hi
        · rw [hn, b]; rfl
  · rintro ⟨h0, ⟨h1, h2, h3, h4⟩, h5, h6, h7, h8, h9, h10⟩
    have h01 : idK r.kind = true ∨ nameK r.kind = true := by
      cases e1 : idK r.kind with
      | true => exact Or.inl rfl
      | false =>
        cases e2 : nameK r.kind with
        | true => exact Or.inr rfl
        | false =>
          cases e3 : blobK r.kind with
          | true => rcases hbl e3 with x | x
                    · rw [e1] at x; cases x
                    · rw [e2] at x; cases x
          | false => exact absurd ⟨e1, e2, e3⟩ h0
    refine ⟨h01, h1, h2, h3, h4, ?_⟩
    cases e3 : blobK r.kind with
    | true => exact Or.inl ⟨rfl, ⟨h6, h7⟩, h8, h9, h10⟩
    | false =>
      refine Or.inr ⟨rfl, ?_⟩
      rw [e3] at h5
      have hz : r.size = 0 := h5.resolve_left (by decide)
      rw [hz] at h10
      exact ⟨hz, valid_none h9 h10⟩

theorem eql_fld (W : World) (a b c : Bool) : (binOp .eql 78 (.agg #[.bool a, .bool b, .bool c]) (.agg #[.bool false, .bool false, .bool false])).run Tryd.prog W = .ok (.bool (!a && (!b && !c))) W := by
  cases a <;> cases b <;> cases c <;> kernel_rfl

set_option maxRecDepth 100000 in
set_option maxHeartbeats 16000000 in
theorem jcheck_any (r : Rc) (tv : Value) (w : World) (h : RecAt r tv w) :
    Calls Tryd.prog 12 #[recV r tv] w fun e w' => e = .returned (.int .i64 (if mayR r then 0 else 1)) ∧ Kept w w' := by
  have HR := Lib.hid h
  have hpt := mayR_parts r
  obtain ⟨a, ha⟩ : ∃ a, a = idK r.kind := ⟨_, rfl⟩
  obtain ⟨b, hb⟩ : ∃ b, b = nameK r.kind := ⟨_, rfl⟩
  obtain ⟨c, hc⟩ : ∃ c, c = blobK r.kind := ⟨_, rfl⟩
  have FC := fun W => fieldsOf_any r.kind W
  unfold fldV fldC at FC
  rw [← ha, ← hb, ← hc] at FC hpt
  have KC := fun W (kk : Kept w W) => vkey_any a b c r tv W (HR.out.later kk)
  have BC := fun W (kk : Kept w W) => vblob_any a b c r tv W (HR.out.later kk)
  unfold fldC at KC BC
  obtain ⟨res, hres⟩ : ∃ res : Int, res = if mayR r then 0 else 1 := ⟨_, rfl⟩
  rw [← hres]
  have HRES : Hid (res = if (¬ (a = false ∧ b = false ∧ c = false) ∧ keyP a b r ∧ blobP c r) then 0 else 1) := Lib.hid (by
    rw [hres]
    by_cases g : mayR r
    · rw [if_pos g, if_pos (hpt.1 g)]
    · rw [if_neg g, if_neg (fun x => g (hpt.2 x))])
  obtain ⟨kb, hkb⟩ : ∃ kb, kb = decide (keyP a b r) := ⟨_, rfl⟩
  obtain ⟨bb, hbb⟩ : ∃ bb, bb = decide (blobP c r) := ⟨_, rfl⟩
  rw [← hkb] at KC
  rw [← hbb] at BC
  have HKB := Lib.hid hkb
  have HBB := Lib.hid hbb
  obtain ⟨f0, hf0⟩ : ∃ f0, f0 = (!a && (!b && !c)) := ⟨_, rfl⟩
  have EQ := fun W => eql_fld W a b c
  rw [← hf0] at EQ
  have HF0 : Hid (f0 = true ↔ (a = false ∧ b = false ∧ c = false)) := Lib.hid (by rw [hf0]; cases a <;> cases b <;> cases c <;> simp)
  obtain ⟨p, cp, htv, -, -⟩ := h.runs.out
  subst htv
  obtain ⟨k, n, N, z, rn⟩ := r
  simp only at FC KC BC
  unfold recV recC at KC BC ⊢
  simp only at KC BC ⊢
  obtain ⟨B, hB⟩ : ∃ B, B = str N := ⟨_, rfl⟩
  obtain ⟨rl, hrl⟩ : ∃ rl, rl = rn.length := ⟨_, rfl⟩
  rw [← hB, ← hrl] at KC BC ⊢
  obtain ⟨W0, hW0⟩ : ∃ W0, W0 = w.alloc (.cells #[.int .i64 k, .int .u32 (n : Nat), .string B, .int .i64 z, .slice p rl cp] 30) := ⟨_, rfl⟩
  have HW0 := Lib.hid hW0
  have HK0 : Hid (Kept w W0) := Lib.hid (by rw [hW0]; exact box_below _ _)
  have HR0 : Hid (W0.heap[w.heap.size]? = some (.cells #[.int .i64 k, .int .u32 (n : Nat), .string B, .int .i64 z, .slice p rl cp] 30 (0, 0))) := Lib.hid (by rw [hW0]; exact heap_alloc_last w _)
  clear hres ha hb hc hkb hbb hf0 hB hrl hW0 h hpt HR
  go_enter Tryd.func12, Tryd.ntmps12
  go_wp2_with fail
  rw [← HW0.out]
  refine (FC W0).mono ?_
  rintro e w1 ⟨rfl, hb1⟩
  have hk1 : Kept W0 (w1.alloc (.cells #[.bool a, .bool b, .bool c] 78)) := (show Kept W0 w1 from hb1).then (box_below _ _)
  have HK1 := Lib.hid hk1
  have g1 : (w1.alloc (.cells #[.bool a, .bool b, .bool c] 78)).heap[w1.heap.size]? = some (.cells #[.bool a, .bool b, .bool c] 78 (0, 0)) := heap_alloc_last w1 _
  have g0 := hk1.row HR0.out
  have HR1 := Lib.hid g1
  have HR2 := Lib.hid g0
  have KC1 := KC _ ((show Kept w W0 from HK0.out).then hk1)
  have HBC := Lib.hid BC
  clear FC hb1 hk1 KC BC g1 g0
  cases f0 with
  | true =>
    have HF : Hid (res = 1) := Lib.hid (by rw [HRES.out, if_neg (fun x => x.1 (HF0.out.1 rfl))])
    clear KC1 HBC
    go_wp2_with (with_reducible refine wpList_load_rowS (by kernel_rfl) _ _ rfl w1.heap.size rfl 78 #[.bool a, .bool b, .bool c] (0, 0) _ HR1.out Tryd.underlying78 rfl infoFld (fun K hK => ?_))
    go_ret
    exact ⟨by rw [HF.out]; rfl, (show Kept w W0 from HK0.out).then HK1.out⟩
  | false =>
    have hnz : ¬ (a = false ∧ b = false ∧ c = false) := fun x => by have := HF0.out.2 x; cases this
    have HNZ := Lib.hid hnz
    have d0 : (w1.alloc (.cells #[.bool a, .bool b, .bool c] 78)).cell? ⟨w.heap.size, 0, none⟩ = some (.int .i64 k) := by rw [cell_of_row _ _ _ _ _ _ HR2.out]; rfl
    have d1 : (w1.alloc (.cells #[.bool a, .bool b, .bool c] 78)).cell? ⟨w.heap.size, 1, none⟩ = some (.int .u32 (n : Nat)) := by rw [cell_of_row _ _ _ _ _ _ HR2.out]; rfl
    have d2 : (w1.alloc (.cells #[.bool a, .bool b, .bool c] 78)).cell? ⟨w.heap.size, 2, none⟩ = some (.string B) := by rw [cell_of_row _ _ _ _ _ _ HR2.out]; rfl
    have d3 : (w1.alloc (.cells #[.bool a, .bool b, .bool c] 78)).cell? ⟨w.heap.size, 3, none⟩ = some (.int .i64 z) := by rw [cell_of_row _ _ _ _ _ _ HR2.out]; rfl
    have d4 : (w1.alloc (.cells #[.bool a, .bool b, .bool c] 78)).cell? ⟨w.heap.size, 4, none⟩ = some (.slice p rl cp) := by rw [cell_of_row _ _ _ _ _ _ HR2.out]; rfl
    clear hnz
    go_wp2_with fail
    refine KC1.mono ?_
    rintro e w2 ⟨rfl, hb2⟩
    have K2 := Lib.hid ((show Kept w W0 from HK0.out).then ((show Kept W0 _ from HK1.out).then hb2))
    have HX1 := Lib.hid ((show Kept _ w2 from hb2).row HR1.out)
    have HX2 := Lib.hid ((show Kept _ w2 from hb2).row HR2.out)
    have BC2 := HBC.out w2 K2.out
    clear d0 d1 d2 d3 d4 KC1 hb2 HBC
    cases kb with
    | false =>
      have HF : Hid (res = 1) := Lib.hid (by rw [HRES.out, if_neg (fun x => of_decide_eq_false HKB.out.symm x.2.1)])
      go_wp2
      go_ret
      exact ⟨by rw [HF.out]; rfl, K2.out⟩
    | true =>
      have d0 : w2.cell? ⟨w.heap.size, 0, none⟩ = some (.int .i64 k) := by rw [cell_of_row _ _ _ _ _ _ HX2.out]; rfl
      have d1 : w2.cell? ⟨w.heap.size, 1, none⟩ = some (.int .u32 (n : Nat)) := by rw [cell_of_row _ _ _ _ _ _ HX2.out]; rfl
      have d2 : w2.cell? ⟨w.heap.size, 2, none⟩ = some (.string B) := by rw [cell_of_row _ _ _ _ _ _ HX2.out]; rfl
      have d3 : w2.cell? ⟨w.heap.size, 3, none⟩ = some (.int .i64 z) := by rw [cell_of_row _ _ _ _ _ _ HX2.out]; rfl
      have d4 : w2.cell? ⟨w.heap.size, 4, none⟩ = some (.slice p rl cp) := by rw [cell_of_row _ _ _ _ _ _ HX2.out]; rfl
      have f0 : w2.cell? ⟨w1.heap.size, 0, none⟩ = some (.bool a) := by rw [cell_of_row _ _ _ _ _ _ HX1.out]; rfl
      have f1 : w2.cell? ⟨w1.heap.size, 1, none⟩ = some (.bool b) := by rw [cell_of_row _ _ _ _ _ _ HX1.out]; rfl
      have f2 : w2.cell? ⟨w1.heap.size, 2, none⟩ = some (.bool c) := by rw [cell_of_row _ _ _ _ _ _ HX1.out]; rfl
      go_wp2_with fail
      refine BC2.mono ?_
      rintro e w3 ⟨rfl, hb3⟩
      have K3 := Lib.hid ((show Kept w w2 from K2.out).then hb3)
      clear d0 d1 d2 d3 d4 f0 f1 f2 BC2 hb3
      cases bb with
      | false =>
        have HF : Hid (res = 1) := Lib.hid (by rw [HRES.out, if_neg (fun x => of_decide_eq_false HBB.out.symm x.2.2)])
        go_wp2
        go_ret
        exact ⟨by rw [HF.out]; rfl, K3.out⟩
      | true =>
        have HF : Hid (res = 0) := Lib.hid (by rw [HRES.out, if_pos ⟨HNZ.out, of_decide_eq_true HKB.out.symm, of_decide_eq_true HBB.out.symm⟩])
        go_wp2
        go_ret
        exact ⟨by rw [HF.out]; rfl, K3.out⟩

theorem checkOk : JCheckOk := fun r tv w h _ => jcheck_any r tv w h

set_option maxRecDepth 100000 in
set_option maxHeartbeats 8000000 in
theorem jsame_any (r q : Rc) (tv uv : Value) (w : World) (h : RecAt r tv w) (h2 : RecAt q uv w) (hl : r.runs.length ≤ 1048576) :
    Calls Tryd.prog 13 #[recV r tv, recV q uv] w fun e w' => e = .returned (.bool (decide (r = q))) ∧ Kept w w' := by
  obtain ⟨p, c, htv, -, -⟩ := h.runs.out
  obtain ⟨p', c', huv, -, -⟩ := h2.runs.out
  subst htv huv
  obtain ⟨k, n, N, z, rn⟩ := r
  obtain ⟨k', n', N', z', rn'⟩ := q
  have hr := h.runs
  have hr2 := h2.runs
  simp only at hr hr2 hl
  have CS := fun W (kk : Kept w W) => sequal_any rn rn' _ _ W (hr.later kk) (hr2.later kk) hl
  obtain ⟨res, hres⟩ : ∃ res, res = decide ((⟨k, n, N, z, rn⟩ : Rc) = ⟨k', n', N', z', rn'⟩) := ⟨_, rfl⟩
  rw [← hres]
  have HI : Hid (res = true ↔ k = k' ∧ n = n' ∧ N = N' ∧ z = z' ∧ rn = rn') := Lib.hid (by rw [hres, decide_eq_true_iff]; exact Rc.ext_iff' _ _)
  have HF : Hid (¬ (k = k' ∧ n = n' ∧ N = N' ∧ z = z' ∧ rn = rn') → res = false) := Lib.hid (fun x => by
    cases e : res with
    | false => rfl
    | true => exact absurd (HI.out.1 e) x)
  unfold recV recC
  simp only
  have HN : Hid (str N = str N' → N = N') := Lib.hid str_inj
  obtain ⟨A, hA⟩ : ∃ A, A = str N := ⟨_, rfl⟩
  obtain ⟨B, hB⟩ : ∃ B, B = str N' := ⟨_, rfl⟩
  have HNA : Hid (N = N' → A = B) := Lib.hid (fun e => by rw [hA, hB, e])
  rw [← hA, ← hB] at HN ⊢
  obtain ⟨la, hla⟩ : ∃ la, la = rn.length := ⟨_, rfl⟩
  obtain ⟨lb, hlb⟩ : ∃ lb, lb = rn'.length := ⟨_, rfl⟩
  rw [← hla] at CS ⊢
  rw [← hlb] at CS ⊢
  have HK : Hid (Kept w ((w.alloc (.cells #[.int .i64 k, .int .u32 (n : Nat), .string A, .int .i64 z, .slice p la c] 30)).alloc (.cells #[.int .i64 k', .int .u32 (n' : Nat), .string B, .int .i64 z', .slice p' lb c'] 30))) := Lib.hid ((show Kept w _ from box_below _ _).then (show Kept _ _ from box_below _ _))
  clear hres hA hB hla hlb hr hr2 h h2 hl
  by_cases g1 : k = k'
  · by_cases g2 : n = n'
    · by_cases g3 : A = B
      · by_cases g4 : z = z'
        · obtain ⟨sb, hsb⟩ : ∃ sb, sb = decide (rn = rn') := ⟨_, rfl⟩
          rw [← hsb] at CS
          have hR : Hid (res = sb) := Lib.hid (by
            cases sb with
            | true => exact HI.out.2 ⟨g1, g2, HN.out g3, g4, of_decide_eq_true hsb.symm⟩
            | false => exact HF.out (fun x => of_decide_eq_false hsb.symm x.2.2.2.2))
          have b1 : (k == k') = true := by rw [beq_iff_eq]; exact g1
          have b2 : ((n : Int) == (n' : Int)) = true := by rw [beq_iff_eq, g2]
          have b3 : (A.toList == B.toList) = true := by rw [g3]; exact txt_eq B
          have b4 : (z == z') = true := by rw [beq_iff_eq]; exact g4
          clear g1 g2 g3 g4 hsb HN HNA HF HI
          go_enter Tryd.func13, Tryd.ntmps13
          go_wp2_with fail
          refine (CS _ HK.out).mono ?_
          rintro e w1 ⟨rfl, hb1⟩
          have K1 := Lib.hid (HK.out.then hb1)
          clear CS hb1
          go_wp2
          go_ret
          exact ⟨by rw [hR.out]; rfl, K1.out⟩
        · have hR : Hid (res = false) := Lib.hid (HF.out (fun x => g4 x.2.2.2.1))
          have b1 : (k == k') = true := by rw [beq_iff_eq]; exact g1
          have b2 : ((n : Int) == (n' : Int)) = true := by rw [beq_iff_eq, g2]
          have b3 : (A.toList == B.toList) = true := by rw [g3]; exact txt_eq B
          have b4 : (z == z') = false := by rw [beq_eq_false_iff_ne]; exact g4
          clear g1 g2 g3 g4 HN HNA HF HI CS
          go_enter Tryd.func13, Tryd.ntmps13
          go_wp2
          go_ret
          exact ⟨by rw [hR.out]; rfl, HK.out⟩
      · have hR : Hid (res = false) := Lib.hid (HF.out (fun x => g3 (HNA.out x.2.2.1)))
        have b1 : (k == k') = true := by rw [beq_iff_eq]; exact g1
        have b2 : ((n : Int) == (n' : Int)) = true := by rw [beq_iff_eq, g2]
        have b3 : (A.toList == B.toList) = false := txt_ne g3
        clear g1 g2 g3 HN HNA HF HI CS
        go_enter Tryd.func13, Tryd.ntmps13
        go_wp2
        go_ret
        exact ⟨by rw [hR.out]; rfl, HK.out⟩
    · have hR : Hid (res = false) := Lib.hid (HF.out (fun x => g2 x.2.1))
      have b1 : (k == k') = true := by rw [beq_iff_eq]; exact g1
      have b2 : ((n : Int) == (n' : Int)) = false := by rw [beq_eq_false_iff_ne]; omega
      clear g1 g2 HN HNA HF HI CS
      go_enter Tryd.func13, Tryd.ntmps13
      go_wp2
      go_ret
      exact ⟨by rw [hR.out]; rfl, HK.out⟩
  · have hR : Hid (res = false) := Lib.hid (HF.out (fun x => g1 x.1))
    have b1 : (k == k') = false := by rw [beq_eq_false_iff_ne]; exact g1
    clear g1 HN HNA HF HI CS
    go_enter Tryd.func13, Tryd.ntmps13
    go_wp2
    go_ret
    exact ⟨by rw [hR.out]; rfl, HK.out⟩

theorem sameOkJ : JSameOk := fun r q tv uv w h g hr _ => jsame_any r q tv uv w h g (by have := hr.1; omega)

end Go.Proofs.YtoigembmbajopaaDoor
