/- The landed index: Drop. The landed index: put, a manifest under one hook. -/
import Derived.Test.YtaajadmaamjebaaSyK
namespace Go.Proofs.Ytaajadmaamjebaa
open Go.RowKit

theorem dropS_snoc (man : Nat) (r : SRow) : ∀ A : List SRow, dropS man (A ++ [r]) = dropS man A ++ (if 0 < (keepS man r.2).length then [(r.1, keepS man r.2)] else [])
  | [] => by
    show dropS man [r] = _
    unfold dropS
    split <;> rfl
  | a :: A => by
    have IH := dropS_snoc man r A
    rw [List.cons_append]
    show (if 0 < (keepS man a.2).length then (a.1, keepS man a.2) :: dropS man (A ++ [r]) else dropS man (A ++ [r])) = (if 0 < (keepS man a.2).length then (a.1, keepS man a.2) :: dropS man A else dropS man A) ++ _
    rw [IH]
    split <;> rfl
theorem upBs_sub {Bs Cs : Nat → Prop} {w w1 w2 : World} (h : ∀ k, Cs k → Bs k ∨ w.heap.size ≤ k) (hs : w.heap.size ≤ w1.heap.size) : ∀ k, upBs Cs w1 w2 k → Bs k ∨ w.heap.size ≤ k := fun k hk => by
  rcases hk with hk | hk
  · exact h k hk
  · exact Or.inr (by omega)
/-- All but the blocks Bs stand, where what was written lies in them or is new. -/
theorem but_sub {Bs Cs : Nat → Prop} {w w1 w2 : World} (hb : ButBy Bs w w1) (hc : ButBy Cs w1 w2) (h : ∀ k, Cs k → Bs k ∨ w.heap.size ≤ k) : ButBy Bs w w2 :=
  ⟨hc.os.trans hb.os, hc.tape.trans hb.tape, hc.output.trans hb.output, Nat.le_trans hb.size hc.size, fun k hk hn => (hc.block k (Nat.lt_of_lt_of_le hk hb.size) (fun e => by
    rcases h k e with x | x
    · exact hn x
    · omega)).trans (hb.block k hk hn)⟩

/-- Midway in a Drop: A is done, R2 is still to come. -/
def DrInv (B bx bm be : Nat) (per most : Int) (man : Nat) (A R2 : List SRow) (L2 : List Nat) (Bs : Nat → Prop) (w wr : World) : Prop :=
  ∃ L1 σ f Cs, Full B bx bm be per most (L1 ++ L2) σ f (dropS man A ++ R2) Cs wr ∧ L1.length = (dropS man A).length ∧ (∀ k, Cs k → Bs k ∨ w.heap.size ≤ k) ∧ ButBy Bs w wr

/-- A round of Drop: what without made of a list is laid into it. -/
theorem drop_step (B bx bm be : Nat) (per most : Int) (man : Nat) (A R2 : List SRow) (h : List UInt8) (ms : List Nat) (l : Nat) (L1 L2 : List Nat) (σ : Ring) (f : List UInt8 → Option Nat) (d : Nd) (Bs Cs : Nat → Prop) (w wr w1 : World) (v' : Value) (hB : B ≤ w.heap.size)
    (H : Full B bx bm be per most (L1 ++ l :: L2) σ f (dropS man A ++ (h, ms) :: R2) Cs wr) (hl : L1.length = (dropS man A).length) (hc : ∀ k, Cs k → Bs k ∨ w.heap.size ≤ k) (hw : ButBy Bs w wr) (hd : σ l = some d)
    (hb : ButBy (fun k => d.v.ownBlock = some k) wr w1) (ho : OwnU B (keepS man ms) v' w1) (hv : v'.ownBlock = d.v.ownBlock) (hle : lenS (dropS man A ++ (h, ms) :: R2) ≤ 1000000) :
    Calls Try.prog 36 #[.pointer (some ⟨bx, 0, none⟩), .pointer (some ⟨l, 0, none⟩), v'] w1 fun e w' =>
      e = .returned (.tuple #[]) ∧ DrInv B bx bm be per most man (A ++ [(h, ms)]) R2 L2 Bs w w' ∧ w'.cell? ⟨l, 34, none⟩ = some (.pointer (some ⟨L2.headD be, 0, none⟩)) := by
  have hBr : B ≤ wr.heap.size := Nat.le_trans hB hw.size
  have hms : ms.length ≤ 1000000 := by
    rw [lenS_append] at hle
    have : lenS ((h, ms) :: R2) = ms.length + lenS R2 := rfl
    omega
  have hsn := dropS_snoc man (h, ms) A
  by_cases h0 : 0 < (keepS man ms).length
  · rw [if_pos h0] at hsn
    refine (fu_keep B bx bm be per most L1 L2 l d σ f (dropS man A) R2 h ms (keepS man ms) v' Cs wr w1 hBr H hl hd hb ho (Or.inl hv) h0 ⟨by have := keepS_le man ms; omega, hle⟩).mono ?_
    rintro e w' ⟨he, σ', hF, hb2⟩
    refine ⟨he, ⟨L1 ++ [l], σ', f, upBs Cs wr w', ?_, ?_, upBs_sub hc hw.size, but_sub hw hb2 hc⟩, ?_⟩
    · rw [hsn, List.append_assoc, List.append_assoc]; exact hF
    · rw [hsn, List.length_append, List.length_append, hl]; rfl
    · obtain ⟨d', hd'⟩ := hF.low.mem l (List.mem_cons_of_mem _ (List.mem_append_right _ (List.mem_cons_self ..)))
      have hn := path_next hF.low.path
      unfold nxR at hn
      rw [hd'] at hn
      have e2 := Option.some.inj hn
      have := hF.low.nds.cn hd'
      unfold pB at this
      rw [this, e2]
  · rw [if_neg h0, List.append_nil] at hsn
    have hk0 : keepS man ms = [] := List.eq_nil_of_length_eq_zero (by omega)
    obtain ⟨p, c, hpv⟩ := ho.slice
    rw [hk0] at hpv
    have hpv' : v' = .slice p 0 c := hpv
    subst hpv'
    refine (fu_drop B bx bm be per most L1 L2 l d σ f (dropS man A) R2 h ms p c Cs wr w1 hBr H hl hd hb hle).mono ?_
    rintro e w' ⟨he, σ', f', hF, hb2, d', hd', hn⟩
    refine ⟨he, ⟨L1, σ', f', upBs Cs wr w', by rw [hsn]; exact hF, by rw [hsn]; exact hl, upBs_sub hc hw.size, but_sub hw hb2 hc⟩, ?_⟩
    have := hF.low.nds.cn hd'
    unfold pB at this
    rw [this, hn]

theorem len_drop_le (man : Nat) (A R2 : List SRow) : lenS (dropS man A ++ R2) ≤ lenS (A ++ R2) := by
  rw [lenS_append, lenS_append]
  have := drop_len man A
  omega

set_option maxRecDepth 100000 in
set_option maxHeartbeats 4000000 in
theorem ydrop_any (B bx : Nat) (per most : Int) (R : List SRow) (Bs : Nat → Prop) (w : World) (man : Nat) (hB : B ≤ w.heap.size) (H : IxP B bx per most R Bs w) (ok : OkI per most R) :
    Calls Try.prog 16 #[.pointer (some ⟨bx, 0, none⟩), .int .u32 (man : Nat)] w fun e w' => e = .returned (.int .i64 ((lenS R : Int) - (lenS (dropS man R) : Int))) ∧ XPost (IxP B bx per most) Bs (dropS man R) w w' := by
  obtain ⟨bm, be, L, σ, f, H⟩ := H
  have hlr := ok.rows.2
  have c0 := H.low.x.c0
  have c3 := H.low.x.c3
  have c5 := H.low.x.c5
  obtain ⟨dbe, hbe⟩ := H.low.mem be (List.mem_cons_self ..)
  have hh : dbe.n = L.headD be := by
    have h1 := path_head H.low.path
    unfold nxR at h1
    rw [hbe] at h1
    exact Option.some.inj h1
  have cb := H.low.nds.cn hbe
  rw [hh] at cb
  unfold pB at cb
  have MK := xmade_self bx w c0
  have HI0 : Hid (DrInv B bx bm be per most man [] R L Bs w w) := Lib.hid ⟨[], σ, f, Bs, H, rfl, fun k hk => Or.inl hk, but_refl _ _⟩
  have HLR : Hid (lenS R ≤ 65536) := Lib.hid hlr
  have HBB := Lib.hid hB
  obtain ⟨pr, hpr⟩ : ∃ pr, pr = lenS R := ⟨_, rfl⟩
  rw [← hpr] at c3
  have HPR := Lib.hid hpr
  have v1 : Hid (∀ q : Nat, q ≤ 65536 → IntKind.i64.wrap ((pr : Int) - (q : Int)) = (pr : Int) - (q : Int)) := Lib.hid (fun q hq => IntWalk.i64_in _ (by omega))
  rw [← hpr]
  obtain ⟨q, hqq⟩ : ∃ q, q = lenS (dropS man R) := ⟨_, rfl⟩
  rw [← hqq]
  have HQ := Lib.hid hqq
  have v2 := v1.out q (by rw [hqq]; have := drop_len man R; omega)
  obtain ⟨hd0, hhd0⟩ : ∃ x, x = L.headD be := ⟨_, rfl⟩
  rw [← hhd0] at cb
  have HD0 := Lib.hid hhd0
  clear hhd0 hpr H ok hlr c0 hbe hh hB hqq
  go_enter Try.func16, Try.ntmps16
  go_wp2_with (go_at_call 28; refine MK.mono ?_; rintro e w2 ⟨rfl, rfl⟩)
  go_loopg [6] R.length (fun gh y6 wr => ∃ (A R2 : List SRow) (L2 : List Nat) (b : Nat), R2.length = gh ∧ y6 = .pointer (some ⟨b, 0, none⟩) ∧ Hid (b = L2.headD be) ∧ Hid (R = A ++ R2) ∧ Hid (DrInv B bx bm be per most man A R2 L2 Bs w wr))
  case atStart => exact ⟨[], R, L, hd0, rfl, rfl, HD0, Lib.hid rfl, HI0⟩
  case round =>
    clear HI0 HD0 c3 c5 cb
    obtain ⟨A, R2, L2, b, hgl, rfl, HBL, HRR, HIN⟩ := hrel
    obtain ⟨L1, σ, f, Cs, H, hl, hc, hw⟩ := HIN.out
    have hll : L2.length = R2.length := by
      have := H.len
      rw [List.length_append, List.length_append] at this
      omega
    have c5 := H.low.x.c5
    have c3 := H.low.x.c3
    obtain ⟨xbe, hbe⟩ := H.low.mem be (List.mem_cons_self ..)
    cases R2 with
    | nil =>
      have hL2 : L2 = [] := List.eq_nil_of_length_eq_zero (by rw [hll]; rfl)
      have hb : b = be := by rw [HBL.out, hL2]; rfl
      subst hb
      have EQ1 := nd_neq H.low.nds hbe hbe
      rw [decide_eq_false (by simp)] at EQ1
      have hRA : R = A := by rw [HRR.out, List.append_nil]
      rw [hL2, List.append_nil] at H
      rw [List.append_nil, ← hRA] at H c3
      rw [← HQ.out] at c3
      have HF : Hid (XPost (IxP B bx per most) Bs (dropS man R) w wr) := Lib.hid ⟨⟨Cs, ⟨bm, b, L1, σ, f, H⟩, hc⟩, hw⟩
      clear H hl hc hw hll hbe hL2 hRA hgl HIN
      go_wp2
      go_ret
      exact ⟨rfl, HF.out⟩
    | cons r R2 =>
      obtain ⟨l, L2, rfl⟩ : ∃ l L, L2 = l :: L := by
        cases L2 with
        | nil => cases hll
        | cons l L => exact ⟨l, L, rfl⟩
      have hb : b = l := HBL.out
      subst hb
      obtain ⟨d, hd⟩ := H.low.mem b (List.mem_cons_of_mem _ (List.mem_append_right _ (List.mem_cons_self ..)))
      have hne : b ≠ be := fun e => (List.nodup_cons.1 H.low.nod).1 (by rw [← e]; exact List.mem_append_right _ (List.mem_cons_self ..))
      have EQ1 := nd_neq H.low.nds hd hbe
      rw [decide_eq_true hne] at EQ1
      obtain ⟨-, h2, -⟩ := rows_parts H.rows hl
      have hdm : d.ms = r.2 := by
        unfold rwR at h2
        rw [hd] at h2
        have e := Option.some.inj h2
        rw [← e]
      have hlb : lenS (dropS man A ++ r :: R2) ≤ 65536 := by
        have h1 := len_drop_le man A (r :: R2)
        rw [← HRR.out] at h1
        have := HLR.out
        omega
      have hrl : r.2.length ≤ 65536 := by
        rw [lenS_append] at hlb
        have : lenS (r :: R2) = r.2.length + lenS R2 := rfl
        omega
      have hO := H.own b (List.mem_append_right _ (List.mem_cons_self ..)) d hd
      rw [hdm] at hO
      have cv := H.low.nds.cv hd
      have WO := without_any B man r.2 d.v (by omega) wr hO
      have STEP : Hid (∀ w1 v', ButBy (fun k => d.v.ownBlock = some k) wr w1 → OwnU B (keepS man r.2) v' w1 → v'.ownBlock = d.v.ownBlock → Calls Try.prog 36 #[.pointer (some ⟨bx, 0, none⟩), .pointer (some ⟨b, 0, none⟩), v'] w1 fun e w' =>
        e = .returned (.tuple #[]) ∧ DrInv B bx bm be per most man (A ++ [r]) R2 L2 Bs w w' ∧ w'.cell? ⟨b, 34, none⟩ = some (.pointer (some ⟨L2.headD be, 0, none⟩))) := Lib.hid (fun w1 v' hb ho hv => drop_step B bx bm be per most man A R2 r.1 r.2 b L1 L2 σ f d Bs Cs w wr w1 v' HBB.out H hl hc hw hd hb ho hv (by have e : ((r.1, r.2) : SRow) = r := rfl; rw [e]; omega))
      have HRR2 : Hid (R = (A ++ [r]) ++ R2) := Lib.hid (by rw [HRR.out, List.append_assoc]; rfl)
      obtain ⟨v, hv⟩ : ∃ v, v = d.v := ⟨_, rfl⟩
      rw [← hv] at cv WO STEP
      obtain ⟨nx, hnx⟩ : ∃ nx, nx = L2.headD be := ⟨_, rfl⟩
      rw [← hnx] at STEP
      have HNX := Lib.hid hnx
      have HGL : Hid (R2.length + 1 = gk) := Lib.hid hgl
      clear H hl hc hw hll hbe hd hne h2 hdm hlb hrl hO hv hnx hgl HIN c3 HBL
      go_wp2_with fail
      refine WO.mono ?_
      rintro e w1 ⟨v1', rfl, ho1, hb1, hB1⟩
      have ST := STEP.out w1 v1' hB1 ho1 hb1
      clear ho1 hb1 hB1 WO STEP cv EQ1 c5
      go_wp2_with fail
      refine ST.mono ?_
      rintro e w2 ⟨rfl, hi2, cn⟩
      have HI2 := Lib.hid hi2
      clear hi2 ST
      go_wp2
      go_roundg R2.length
      · exact ⟨A ++ [r], R2, L2, nx, rfl, rfl, HNX, HRR2, HI2⟩
      · have := HGL.out; omega

end Go.Proofs.Ytaajadmaamjebaa
namespace Go.Proofs.Ytaajadmaamjebaa
open Go.RowKit

/-- Midway in the bound of all pairs: what is to be left of Q is T. -/
def TrInv (B bx bm be : Nat) (per most : Int) (Q T : List SRow) (Bs : Nat → Prop) (w wr : World) : Prop :=
  ∃ L σ f Cs, Full B bx bm be per most L σ f Q Cs wr ∧ trimS most Q = T ∧ (∀ k, Cs k → Bs k ∨ w.heap.size ≤ k) ∧ ButBy Bs w wr ∧ lenS Q ≤ 1000000

/-- A list that was used last gets what first made of it. -/
theorem put_step (B bx bm be p : Nat) (most : Int) (man : Nat) (R R0 : List SRow) (h : List UInt8) (ms : List Nat) (l : Nat) (L0 : List Nat) (σ : Ring) (f : List UInt8 → Option Nat) (d : Nd) (Bs Cs : Nat → Prop) (w w5 w6 w7 : World) (v' : Value) (hB : B ≤ w.heap.size)
    (H : Full B bx bm be (p : Int) most (L0 ++ [l]) σ f (R0 ++ [(h, ms)]) Cs w5) (hR0 : R0 = cutS R (atS R h)) (hms : ms = peekS R h) (hc : ∀ k, Cs k → Bs k ∨ w.heap.size ≤ k) (hw : ButBy Bs w w5) (hd : σ l = some d) (hk : Kept w5 w6)
    (hb : ButBy (fun k => d.v.ownBlock = some k) w6 w7) (ho : OwnU B (firstM (p : Int) man ms) v' w7) (hv : v'.ownBlock = d.v.ownBlock ∨ ∃ k, v'.ownBlock = some k ∧ w6.heap.size ≤ k) (hp : p ≤ 64) (hle : lenS (R0 ++ [(h, ms)]) ≤ 100000) (hn : R0.length ≤ R.length) :
    Calls Try.prog 36 #[.pointer (some ⟨bx, 0, none⟩), .pointer (some ⟨l, 0, none⟩), v'] w7 fun e w' =>
      e = .returned (.tuple #[]) ∧ ∃ Q, Q.length ≤ R.length + 1 ∧ TrInv B bx bm be (p : Int) most Q (landOne (p : Int) most man R h) Bs w w' := by
  have H6 := H.later hk
  have hB6 : B ≤ w6.heap.size := Nat.le_trans hB (Nat.le_trans hw.size hk.size)
  have hl : L0.length = R0.length := by
    have := H.len
    rw [List.length_append, List.length_append] at this
    have e1 : [l].length = 1 := rfl
    have e2 : [(h, ms)].length = 1 := rfl
    omega
  have hfl : (firstM (p : Int) man ms).length ≤ 64 := by
    unfold firstM
    rw [Int.toNat_natCast, List.length_take]
    omega
  have hT : landOne (p : Int) most man R h = trimS most (R0 ++ rowM (p : Int) man h ms) := by rw [hR0, hms]; rfl
  have hs1 : lenS (R0 ++ [(h, ms)]) = lenS R0 + (ms.length + 0) := lenS_append _ _
  by_cases h0 : 0 < (firstM (p : Int) man ms).length
  · have er : rowM (p : Int) man h ms = [(h, firstM (p : Int) man ms)] := if_neg (by omega)
    refine (fu_keep B bx bm be (p : Int) most L0 [] l d σ f R0 [] h ms _ v' Cs w6 w7 hB6 H6 hl hd hb ho hv h0 ⟨by omega, by omega⟩).mono ?_
    rintro e w' ⟨he, σ', hF, hb2⟩
    refine ⟨he, R0 ++ [(h, firstM (p : Int) man ms)], by rw [List.length_append]; simp only [List.length_cons, List.length_nil]; omega, L0 ++ [l], σ', f, upBs Cs w6 w', hF, by rw [hT, er], upBs_sub hc (Nat.le_trans hw.size hk.size), but_sub (hw.then_kept hk) hb2 hc, ?_⟩
    rw [lenS_append]
    have : lenS [(h, firstM (p : Int) man ms)] = (firstM (p : Int) man ms).length + 0 := rfl
    omega
  · have er : rowM (p : Int) man h ms = [] := if_pos (by omega)
    have hk0 : firstM (p : Int) man ms = [] := List.eq_nil_of_length_eq_zero (by omega)
    obtain ⟨pp, c, hpv⟩ := ho.slice
    rw [hk0] at hpv
    have hpv' : v' = .slice pp 0 c := hpv
    subst hpv'
    refine (fu_drop B bx bm be (p : Int) most L0 [] l d σ f R0 [] h ms pp c Cs w6 w7 hB6 H6 hl hd hb (by omega)).mono ?_
    rintro e w' ⟨he, σ', f', hF, hb2, -⟩
    refine ⟨he, R0, by omega, L0, σ', f', upBs Cs w6 w', by rw [List.append_nil, List.append_nil] at hF; exact hF, by rw [hT, er, List.append_nil], upBs_sub hc (Nat.le_trans hw.size hk.size), but_sub (hw.then_kept hk) hb2 hc, by omega⟩

/-- A new list is in the map, and then used. -/
theorem fu_new (B bx bm be : Nat) (per most : Int) (L : List Nat) (l : Nat) (σ : Ring) (f : List UInt8 → Option Nat) (R : List SRow) (h : List UInt8) (h32 : h.length = 32) (Bs : Nat → Prop) (w w2 w4 : World) (hB : B ≤ w.heap.size)
    (H : Full B bx bm be per most L σ f R Bs w) (hf : f h = none) (hk : Kept w w2) (hlw : w.heap.size ≤ l) (hrow : w2.heap[l]? = some (.cells (ndA (newNd h l)) 67 (0, 0))) (hm : PtMap bm (R.length + 1) (updF f h l) w4) (hg : w2.grownBy w4 (some bm)) :
    Calls Try.prog 35 #[.pointer (some ⟨bx, 0, none⟩), .pointer (some ⟨l, 0, none⟩)] w4 fun e w' =>
      e = .returned (.tuple #[]) ∧ ∃ σ', Full B bx bm be per most (L ++ [l]) σ' (updF f h l) (R ++ [(h, [])]) (upBs Bs w w') w' ∧ ButBy Bs w w' := by
  have h2 := H.later hk
  have hl2 : l < w2.heap.size := (Array.getElem?_eq_some_iff.1 hrow).1
  have hxm := ix_map h2.low.x h2.low.m
  have hlm : l ≠ bm := fun e => by
    have := H.low.m.lt
    omega
  have hls : σ l = none := by
    cases hs : σ l with
    | none => rfl
    | some d =>
      have := H.low.nds.lt hs
      omega
  obtain ⟨τ, hτ⟩ : ∃ τ : Ring, τ = fun k => if k = l then some (newNd h l) else σ k := ⟨_, rfl⟩
  have tl : τ l = some (newNd h l) := by rw [hτ]; exact if_pos rfl
  have to : ∀ k, k ≠ l → τ k = σ k := fun k hk => by rw [hτ]; exact if_neg hk
  have hdom : ∀ k d, τ k = some d → k = l ∨ σ k = some d := fun k d hd => by
    by_cases e : k = l
    · exact Or.inl e
    · rw [to k e] at hd; exact Or.inr hd
  have hlL : l ∉ be :: L := fun e => by
    obtain ⟨d, hd⟩ := H.low.mem l e
    rw [hls] at hd
    cases hd
  have hne : ∀ k ∈ be :: L, k ≠ l := fun k hk e => hlL (e ▸ hk)
  have hnd : NdsAt τ w4 := by
    refine ⟨fun b d hb => ?_, fun b d hb => ?_⟩
    · by_cases e : b = l
      · subst e
        rw [tl] at hb
        rw [← Option.some.inj hb, hg.block b hl2 (fun e => hlm (Option.some.inj e))]
        exact hrow
      · rw [to b e] at hb
        rw [hg.block b (h2.low.nds.lt hb) (fun e => map_nd h2.low.m h2.low.nds hb (Option.some.inj e).symm)]
        exact h2.low.nds.row b d hb
    · by_cases e : b = l
      · subst e
        rw [tl] at hb
        rw [← Option.some.inj hb]
        exact ⟨h32, rfl⟩
      · rw [to b e] at hb
        exact H.low.nds.h32 b d hb
  have hpath : PathR τ be L be := path_same H.low.path (fun k hk => by unfold nxR; rw [to k (hne k hk)]) (fun k hk => by unfold pvR; rw [to k (hne k (List.mem_cons_of_mem _ hk))]) (by unfold pvR; rw [to be (hne be (List.mem_cons_self ..))])
  have hLow : Low bx bm be per most (lenS R : Nat) L τ (updF f h l) (R.length + 1) w4 := ⟨h2.low.x.stay (hg.block bx h2.low.x.lt (fun e => hxm (Option.some.inj e))), hm, hnd, hpath, H.low.nod⟩
  refine (use_new bx bm be per most _ L l τ (updF f h l) _ w4 hLow hlL ⟨_, tl, rfl, rfl⟩).mono ?_
  rintro e w' ⟨rfl, σ', hlow, hcor, hb⟩
  have hsz1 := hk.size
  have hsz2 := hg.size
  have hsz3 := hb.size
  have back : ∀ k d', σ' k = some d' → ∃ d, τ k = some d ∧ d.h = d'.h ∧ d.ms = d'.ms ∧ d.v = d'.v := fun k d' hd' => some_of_cor (hcor k).symm hd'
  have hbB : ButBy Bs w w' := by
    refine ⟨hb.os.trans (hg.os.trans hk.os), hb.tape.trans (hg.tape.trans hk.tape), hb.output.trans (hg.output.trans hk.output), by omega, fun k hk1 hn => ?_⟩
    rw [hb.block k (by omega) (fun e => ?_), hg.block k (by omega) (fun e => hn (by rw [Option.some.inj e]; exact H.cov.2.1)), hk.block k hk1]
    rcases e with e | e
    · obtain ⟨d, hd⟩ := H.low.mem k e
      exact hn (H.cov.2.2.1 k d hd)
    · omega
  refine ⟨rfl, σ', ⟨?_, ?_, fun h' b => ?_, fun b hbL d' hd' => ?_, fun b hbL c hcL hbc d' e' hd' he' k hk1 => ?_, fun k hk1 => ?_, Or.inl H.cov.1, Or.inl H.cov.2.1, fun b d' hd' => ?_, fun b hbL d' hd' k hk1 => ?_⟩, hbB⟩
  · have e1 : lenS (R ++ [(h, [])]) = lenS R := by rw [lenS_append]; rfl
    have e2 : (R ++ [(h, ([] : List Nat))]).length = R.length + 1 := by simp
    rw [e1, e2]; exact hlow
  · rw [List.map_append, List.map_append]
    have a1 : L.map (rwR σ') = L.map (rwR σ) := List.map_congr_left (fun k hk1 => by
      rw [(rw_cor (hcor k)).1]; unfold rwR; rw [to k (hne k (List.mem_cons_of_mem _ hk1))])
    have a2 : rwR σ' l = some (h, []) := by rw [(rw_cor (hcor l)).1]; unfold rwR; rw [tl]; rfl
    rw [a1, H.rows]
    show _ ++ [rwR σ' l] = _
    rw [a2]; rfl
  · have eh : hkR σ' b = hkR τ b := (rw_cor (hcor b)).2
    rw [eh, List.mem_append, List.mem_singleton]
    unfold updF
    by_cases hh : h' = h
    · rw [if_pos hh]
      constructor
      · intro e
        have e2 := Option.some.inj e
        subst e2
        exact ⟨Or.inr rfl, by unfold hkR; rw [tl, hh]; rfl⟩
      · rintro ⟨hb2 | hb2, hb3⟩
        · exfalso
          unfold hkR at hb3
          rw [to b (hne b (List.mem_cons_of_mem _ hb2)), hh] at hb3
          have := (H.fm h b).2 ⟨hb2, hb3⟩
          rw [hf] at this
          cases this
        · rw [hb2]
    · rw [if_neg hh, H.fm]
      constructor
      · rintro ⟨hb2, hb3⟩
        exact ⟨Or.inl hb2, by unfold hkR; rw [to b (hne b (List.mem_cons_of_mem _ hb2))]; exact hb3⟩
      · rintro ⟨hb2 | hb2, hb3⟩
        · unfold hkR at hb3
          rw [to b (hne b (List.mem_cons_of_mem _ hb2))] at hb3
          exact ⟨hb2, hb3⟩
        · exfalso
          unfold hkR at hb3
          rw [hb2, tl] at hb3
          exact hh (Option.some.inj hb3).symm
  · obtain ⟨d, hd, -, e1, e2⟩ := back b d' hd'
    rw [← e1, ← e2]
    rcases List.mem_append.1 hbL with x | x
    · rw [to b (hne b (List.mem_cons_of_mem _ x))] at hd
      have o1 := H.own b x d hd
      refine o1.stay (fun k hk1 => ?_)
      have hk2 := (o1.lt k hk1).2
      have off := H.off x hd hk1
      rw [hb.block k (by omega) (fun e => ?_), hg.block k (by omega) (fun e => off.2.1 (Option.some.inj e))]
      · exact hk.block k hk2
      · rcases e with e | e
        · obtain ⟨y, hy⟩ := H.low.mem k e
          exact off.2.2 k y hy rfl
        · omega
    · rw [List.mem_singleton.1 x, tl] at hd
      rw [← Option.some.inj hd]
      exact OwnU.nil_ B w'
  · obtain ⟨d, hd, -, -, e2⟩ := back b d' hd'
    obtain ⟨y, hy, -, -, e4⟩ := back c e' he'
    rw [← e2] at hk1
    rw [← e4]
    rcases List.mem_append.1 hbL with x | x
    · rcases List.mem_append.1 hcL with z | z
      · rw [to b (hne b (List.mem_cons_of_mem _ x))] at hd
        rw [to c (hne c (List.mem_cons_of_mem _ z))] at hy
        exact H.apart b x c z hbc d y hd hy k hk1
      · rw [List.mem_singleton.1 z, tl] at hy
        rw [← Option.some.inj hy]
        intro e; cases e
    · rw [List.mem_singleton.1 x, tl] at hd
      rw [← Option.some.inj hd] at hk1
      cases hk1
  · rcases hk1 with hk1 | ⟨hk1, hk2⟩
    · have := H.blk k hk1
      exact ⟨this.1, by omega⟩
    · exact ⟨by omega, hk2⟩
  · obtain ⟨d, hd, -⟩ := back b d' hd'
    rcases hdom b d hd with e | e
    · subst e; exact Or.inr ⟨hlw, by omega⟩
    · exact Or.inl (H.cov.2.2.1 b d e)
  · obtain ⟨d, hd, -, -, e2⟩ := back b d' hd'
    rw [← e2] at hk1
    rcases List.mem_append.1 hbL with x | x
    · rw [to b (hne b (List.mem_cons_of_mem _ x))] at hd
      exact Or.inl (H.cov.2.2.2 b x d hd k hk1)
    · rw [List.mem_singleton.1 x, tl] at hd
      rw [← Option.some.inj hd] at hk1
      cases hk1

set_option maxRecDepth 100000 in
set_option maxHeartbeats 8000000 in
theorem yput1_any (B bx : Nat) (p : Nat) (most : Int) (R : List SRow) (Bs : Nat → Prop) (w : World) (man : Nat) (h : List UInt8) (hB : B ≤ w.heap.size) (H : IxP B bx (p : Int) most R Bs w) (ok : OkI (p : Int) most R) (hman : man < 4294967296) (h32 : h.length = 32) :
    Calls Try.prog 30 #[.pointer (some ⟨bx, 0, none⟩), .int .u32 (man : Nat), .agg (fpA h)] w fun e w' => e = .returned (.tuple #[]) ∧ XPost (IxP B bx (p : Int) most) Bs (landOne (p : Int) most man R h) w w' := by
  obtain ⟨bm, be, L, σ, f, H⟩ := H
  have hp64 : p ≤ 64 := by have := ok.p.2; omega
  have HMM : Hid (0 ≤ most) := Lib.hid ok.m.1
  have HBB := Lib.hid hB
  have HI := Lib.hid (fp_info h h32)
  have K1 := box_below w (.cells (fpA h) 47)
  have H1 := H.later K1
  have FI := xfind_any bx bm be R.length (p : Int) most (lenS R : Nat) f h h32 _ H1.low.x H1.low.m
  have g0 := heap_alloc_last w (.cells (fpA h) 47)
  have HK1 := Lib.hid K1
  have HH1 := Lib.hid H1
  have hlr := ok.rows.2
  obtain ⟨F, hFF⟩ : ∃ F, F = fpA h := ⟨_, rfl⟩
  have HFF := Lib.hid hFF
  have NL := Lib.hid (fun W => newList_any h h32 W)
  have H32 := Lib.hid h32
  rw [← hFF] at HI g0 FI HK1 HH1 NL ⊢
  have HMAN := Lib.hid hman
  have HRL : Hid (R.length < maxLen) := Lib.hid (by have := ok.rows.1; unfold maxLen; omega)
  cases hf : f h with
  | none =>
    have hab := H.absent hf
    obtain ⟨hcut, hpk, -⟩ := at_none_all hab
    rw [hf] at FI
    unfold ptV at FI
    have HFN := Lib.hid hf
    have HCUT := Lib.hid hcut
    have HPK := Lib.hid hpk
    have HLR := Lib.hid hlr
    have NEW := Lib.hid (fun (w0 w2 w4 : World) (l : Nat) (k0 : Kept (w.alloc (.cells F 47)) w0) (hk : Kept w0 w2) => fu_new B bx bm be (p : Int) most L l σ f R h h32 Bs w0 w2 w4 (by have a := hB; have b := HK1.out.size; have c := k0.size; omega) (HH1.out.later k0) hf hk)
    clear hFF H ok K1 H1 hf hab hcut hpk h32 hlr hB hman
    go_enter Try.func30, Try.ntmps30
    go_wp2_with (first
      | (with_reducible refine wpList_load_row rfl _ _ rfl w.heap.size rfl 47 F (0, 0) _ g0 Try.underlying47 rfl HI.out ?_)
      | (with_reducible refine wpList_load_row rfl _ _ rfl w.heap.size rfl 47 F (0, 0) _ g2 Try.underlying47 rfl HI.out ?_)
      | (go_at_call 33; refine FI.mono ?_; rintro e w2 ⟨rfl, hk2⟩; have g2 := hk2.row g0; have HK2 := Lib.hid hk2; have NL2 := NL.out w2; clear hk2 g0)
      | (go_at_call 18; refine NL2.mono ?_; rintro e w3 ⟨l, rfl, hl3, hr3, hk3⟩; have g3 := hk3.row g2; have HL3 := Lib.hid hl3; have HR3 := Lib.hid hr3; have HK3 := Lib.hid hk3; clear hl3 hr3 hk3 g2 NL2))
    have HW3 := Lib.hid ((HH1.out.later HK2.out).later HK3.out)
    have c4 := HW3.out.low.x.c4
    refine wp_region_kept_tail 6 (by kernel_rfl) (by decide) (by kernel_rfl) (by kernel_rfl) ?_
    simp only [List.take_succ_cons, List.take_zero, List.drop_succ_cons, List.drop_zero]
    refine wpQuiet_pure (v := ?_) (by kernel_rfl) ?_ (fun K hK => ?_)
    case refine_2 => intro W _; go_simp; try with_reducible rfl
    go_simp
    refine hK _ ?_; clear hK K
    refine wpQuiet_pure (v := ?_) (by kernel_rfl) ?_ (fun K hK => ?_)
    case refine_2 => intro W _; go_simp; try with_reducible rfl
    go_simp
    refine hK _ ?_; clear hK K
    refine wpQuiet_pure (v := ?_) (by kernel_rfl) ?_ (fun K hK => ?_)
    case refine_2 => intro W _; go_simp; try with_reducible rfl
    go_simp
    refine hK _ ?_; clear hK K
    refine wpQuiet_load_cell (by kernel_rfl) _ _ rfl ⟨bx, 4, none⟩ rfl _ Try.underlying52 rfl _ (fun _ h => h.cell c4) (fun K hK => ?_)
    go_simp
    refine hK _ ?_; clear hK K
    refine wpQuiet_load_row (by kernel_rfl) _ _ rfl w.heap.size rfl 47 F (0, 0) _ (fun _ h => h.row g3) Try.underlying47 rfl HI.out (fun K hK => ?_)
    go_simp
    refine hK _ ?_; clear hK K
    refine wpQuiet_pure (v := ?_) (by kernel_rfl) ?_ (fun K hK => ?_)
    case refine_2 => intro W _; go_simp; try with_reducible rfl
    go_simp
    refine hK _ ?_; clear hK K
    refine wpQuiet_nil ?_
    intro w4 hk4
    have HM4 := Lib.hid ((HW3.out.later hk4).low.m)
    have HK4 := Lib.hid hk4
    have HR4 := Lib.hid (hk4.row HR3.out)
    clear c4 g3 hk4
    go_wp2_with (with_reducible refine wpList_pset rfl _ _ _ rfl rfl F rfl h HFF.out H32.out HM4.out HRL.out HFN.out l rfl ?_)
    intro w5 hm5 hg5
    have NU := NEW.out w2 w4 w5 l HK2.out (HK3.out.then HK4.out) HL3.out HR4.out hm5 hg5
    clear hm5 hg5
    go_wp2_with fail
    refine NU.mono ?_
    rintro e wu ⟨rfl, σ5, hF5, hb5⟩
    obtain ⟨d, hd⟩ := hF5.low.mem l (List.mem_cons_of_mem _ (List.mem_append_right _ (List.mem_cons_self ..)))
    have hdm : d.ms = [] := by
      have h1 := (rows_parts (L1 := L) (L2 := []) (R1 := R) (R2 := []) hF5.rows (by
        have := hF5.len
        rw [List.length_append, List.length_append] at this
        have e1 : [l].length = 1 := rfl
        have e2 : [(h, ([] : List Nat))].length = 1 := rfl
        omega)).2.1
      unfold rwR at h1
      rw [hd] at h1
      have e := Option.some.inj h1
      exact congrArg Prod.snd e
    have hO := hF5.own l (List.mem_append_right _ (List.mem_cons_self ..)) d hd
    rw [hdm] at hO
    have hsz : w.heap.size ≤ wu.heap.size := by
      have a := HK1.out.size
      have b := HK2.out.size
      have c := hb5.size
      omega
    have hsw2 : w.heap.size ≤ w2.heap.size := by
      have a := HK1.out.size
      have b := HK2.out.size
      omega
    have FIR : Hid (∀ w6, Kept wu w6 → Calls Try.prog 44 #[.int .u32 (man : Nat), d.v, .int .i64 (p : Nat)] w6 fun e w' => ∃ v', e = .returned v' ∧ OwnU B (firstM (p : Int) man []) v' w' ∧ (v'.ownBlock = d.v.ownBlock ∨ ∃ k, v'.ownBlock = some k ∧ w6.heap.size ≤ k) ∧ ButBy (fun k => d.v.ownBlock = some k) w6 w') := Lib.hid (fun w6 k => first_any B man p [] d.v (Nat.zero_le _) hp64 HMAN.out w6 (hO.later k) (by have := HBB.out; have := k.size; omega))
    have STEP : Hid (∀ w6 w7 v', Kept wu w6 → OwnU B (firstM (p : Int) man []) v' w7 → (v'.ownBlock = d.v.ownBlock ∨ ∃ k, v'.ownBlock = some k ∧ w6.heap.size ≤ k) → ButBy (fun k => d.v.ownBlock = some k) w6 w7 → Calls Try.prog 36 #[.pointer (some ⟨bx, 0, none⟩), .pointer (some ⟨l, 0, none⟩), v'] w7 fun e w' => e = .returned (.tuple #[]) ∧ ∃ Q, Q.length ≤ R.length + 1 ∧ TrInv B bx bm be (p : Int) most Q (landOne (p : Int) most man R h) Bs w w') := Lib.hid (fun w6 w7 v' k ho hv hb => put_step B bx bm be p most man R R h [] l L σ5 (updF f h l) d Bs (upBs Bs w2 wu) w wu w6 w7 v' HBB.out hF5 HCUT.out.symm HPK.out.symm (upBs_sub (fun k hk => Or.inl hk) hsw2) ((but_of_kept ((show Kept w _ from HK1.out).then HK2.out)).trans hb5) hd k hb ho hv hp64 (by rw [lenS_append]; have := HLR.out; have e : lenS [(h, ([] : List Nat))] = 0 := rfl; omega) (Nat.le_refl _))
    have S7 : Hid (∀ w6 w7, Kept wu w6 → ButBy (fun k => d.v.ownBlock = some k) w6 w7 → w7.cell? ⟨bx, 1, none⟩ = some (.int .i64 (p : Nat))) := Lib.hid (fun w6 w7 k hb => ((hF5.later k).low_row (List.mem_append_right _ (List.mem_cons_self ..)) hd hb).x.c1)
    have cv := hF5.low.nds.cv hd
    have c1 := hF5.low.x.c1
    obtain ⟨v, hv⟩ : ∃ v, v = d.v := ⟨_, rfl⟩
    rw [← hv] at cv FIR STEP S7
    clear hF5 hb5 hd hdm hO hsz hsw2 hv NU NEW
    go_wp2_with fail
    have cvd : wu.drew.cell? ⟨l, 32, none⟩ = some v := cv
    refine wp_region_held_drew (S := fun w' => w'.cell? ⟨bx, 1, none⟩ = some (.int .i64 (p : Nat))) (by kernel_rfl) c1 (fun hHeld => ?_)
    refine wpAnyH_take (i := 0) (v := ?_) rfl (by kernel_rfl) (by kernel_rfl) (by kernel_rfl) (fun _ _ _ h => h) (Or.inl ⟨by first | kernel_rfl | rfl, ?_⟩) (by assumption) ?_
    case refine_2 => intro w hSw; go_simp; try with_reducible rfl
    refine wpAnyH_take (i := 1) (v := ?_) rfl (by kernel_rfl) (by kernel_rfl) (by kernel_rfl) (fun _ _ _ h => h) (Or.inl ⟨by first | kernel_rfl | rfl, ?_⟩) (by assumption) ?_
    case refine_2 => intro w hSw; go_simp; try with_reducible rfl
    refine wpAnyH_take (i := 2) (v := ?_) rfl (by kernel_rfl) (by kernel_rfl) (by kernel_rfl) (fun _ _ _ h => h) (Or.inl ⟨by first | kernel_rfl | rfl, ?_⟩) (by assumption) ?_
    case refine_2 => intro w hSw; go_simp; try with_reducible rfl
    refine wpAnyH_take (i := 3) (v := ?_) rfl (by kernel_rfl) (by kernel_rfl) (by kernel_rfl) (fun _ _ _ h => h) (Or.inl ⟨by first | kernel_rfl | rfl, ?_⟩) (by assumption) ?_
    case refine_2 => intro w hSw; go_simp; try with_reducible rfl
    refine wpAnyH_take (i := 4) (v := ?_) rfl (by kernel_rfl) (by kernel_rfl) (by kernel_rfl) (fun _ _ _ h => h) (Or.inl ⟨by first | kernel_rfl | rfl, ?_⟩) (by assumption) ?_
    case refine_2 => intro w hSw; go_simp; try with_reducible rfl
    refine wpAnyH_take (i := 5) (v := ?_) rfl (by kernel_rfl) (by kernel_rfl) (by kernel_rfl) (fun _ _ _ h => h) (Or.inl ⟨by first | kernel_rfl | rfl, ?_⟩) (by assumption) ?_
    case refine_2 => intro w hSw; go_simp; try with_reducible rfl
    refine wpAnyH_take (i := 7) (v := ?_) rfl (by kernel_rfl) (by kernel_rfl) (by kernel_rfl) (fun _ _ _ h => h) (Or.inl ⟨by first | kernel_rfl | rfl, ?_⟩) (by assumption) ?_
    case refine_2 => intro w hSw; go_simp; try with_reducible rfl
    refine wpAnyH_take (i := 8) (v := ?_) rfl (by kernel_rfl) (by kernel_rfl) (by kernel_rfl) (fun _ _ _ h => h) (Or.inl ⟨by first | kernel_rfl | rfl, ?_⟩) (by assumption) ?_
    case refine_2 => intro w hSw; go_simp; try with_reducible rfl
    refine wpAnyH_take (i := 9) (v := ?_) rfl (by kernel_rfl) (by kernel_rfl) (by kernel_rfl) (fun _ _ _ h => h) (Or.inl ⟨by first | kernel_rfl | rfl, ?_⟩) (by assumption) ?_
    case refine_2 => intro w hSw; go_simp; try with_reducible rfl
    refine wpAnyH_take (i := 10) (v := ?_) rfl (by kernel_rfl) (by kernel_rfl) (by kernel_rfl) (fun _ _ _ h => h) (Or.inl ⟨by first | kernel_rfl | rfl, ?_⟩) (by assumption) ?_
    case refine_2 => intro w hSw; go_simp; try with_reducible rfl
    refine wpAnyH_ready (rs := [6]) (by kernel_rfl) (by simp) (AllReadyH.cons rfl (fun K hK => ?_) AllReadyH.nil)
    go_simp
    refine hK.out _ _ c1 (fun _ => ?_)
    clear hK K
    have FS := FIR.out wu.drew (below_drewN (Below.refl _ wu) 1)
    refine wpAnyH_ready (rs := [11]) (by kernel_rfl) (by simp) (AllReadyH.cons rfl (fun K hK => ?_) AllReadyH.nil)
    go_simp
    refine FS.mono ?_
    rintro e w7 ⟨v7, rfl, ho7, hv7, hb7⟩
    have s7 := S7.out wu.drew w7 (below_drewN (Below.refl _ wu) 1) hb7
    have ST := STEP.out wu.drew w7 v7 (below_drewN (Below.refl _ wu) 1) ho7 hv7 hb7
    refine hK.out _ _ s7 (fun _ => ?_)
    clear hK K
    clear ho7 hv7 hb7 FS cv cvd
    refine wpAnyH_ready (rs := [12]) (by kernel_rfl) (by simp) (AllReadyH.cons rfl (fun K hK => ?_) AllReadyH.nil)
    go_simp
    refine ST.mono ?_
    rintro e w8 ⟨rfl, hi8⟩
    have HI8 := Lib.hid hi8
    have s8 : w8.cell? ⟨bx, 1, none⟩ = some (.int .i64 (p : Nat)) := by
      obtain ⟨Q, -, Lq, σq, fq, Cs, HQ, -⟩ := hi8
      exact HQ.low.x.c1
    refine hK.out _ _ s8 (fun _ => ?_)
    clear hK K
    clear hi8 ST s7
    refine wpAnyH_done (by kernel_rfl) ?_ _
    go_wp2
    go_loopg [36] (R.length + 1) (fun gh y36 wr => ∃ (Q : List SRow), Q.length ≤ gh ∧ y36 = y36 ∧ Hid (TrInv B bx bm be (p : Int) most Q (landOne (p : Int) most man R h) Bs w wr))
    case atStart =>
      obtain ⟨Q, hQ, hi⟩ := HI8.out
      exact ⟨Q, hQ, rfl, Lib.hid hi⟩
    case round =>
      clear HI8
      obtain ⟨Q, hgl, -, HIN⟩ := hrel
      obtain ⟨Lq, σq, fq, Cs, H, ht, hc, hw, hsz⟩ := HIN.out
      have c2 := H.low.x.c2
      have c3 := H.low.x.c3
      have HLQ := Lib.hid hsz
      obtain ⟨q, hq⟩ : ∃ q, q = lenS Q := ⟨_, rfl⟩
      rw [← hq] at c3
      by_cases hmq : most < (q : Int)
      · cases Q with
        | nil =>
          exfalso
          have : lenS ([] : List SRow) = 0 := rfl
          rw [this] at hq
          have := HMM.out
          omega
        | cons r Q =>
          obtain ⟨l2, L2, rfl⟩ : ∃ l L, Lq = l :: L := by
            have := H.len
            cases Lq with
            | nil => cases this
            | cons l L => exact ⟨l, L, rfl⟩
          obtain ⟨xbe, hbe⟩ := H.low.mem be (List.mem_cons_self ..)
          have hnb : xbe.n = l2 := by
            have h1 := path_head H.low.path
            unfold nxR at h1
            rw [hbe] at h1
            exact Option.some.inj h1
          obtain ⟨d2, hd2⟩ := H.low.mem l2 (List.mem_cons_of_mem _ (List.mem_cons_self ..))
          have DR := Lib.hid (fun W (k : Kept wr W) => fu_drop B bx bm be (p : Int) most [] L2 l2 d2 σq fq [] Q r.1 r.2 none 0 Cs W W (by have h1 := HBB.out; have h2 := hw.size; have h3 := k.size; omega) (H.later k) rfl hd2 (but_refl _ _) hsz)
          have HNX := Lib.hid (fun W (k : Kept wr W) => (⟨(H.later k).low.x.c5, by have := (H.later k).low.nds.cn hbe; rw [hnb] at this; exact this⟩ : W.cell? ⟨bx, 5, none⟩ = some (.pointer (some ⟨be, 0, none⟩)) ∧ W.cell? ⟨be, 34, none⟩ = some (.pointer (some ⟨l2, 0, none⟩))))
          have HTR : Hid (trimS most Q = landOne (p : Int) most man R h) := Lib.hid (by
            rw [← ht]
            show _ = (if most < (lenS (r :: Q) : Int) then trimS most Q else r :: Q)
            rw [← hq, if_pos hmq])
          have HSZ : Hid (lenS Q ≤ 1000000) := Lib.hid (by have : lenS (r :: Q) = r.2.length + lenS Q := rfl; omega)
          have HC := Lib.hid hc
          have HW := Lib.hid hw
          have HGL : Hid (Q.length + 1 ≤ gk) := Lib.hid hgl
          have hb : decide ((q : Int) > most) = true := by simpa using hmq
          clear H ht hc hw hsz hbe hnb hd2 hgl HIN hq
          go_wp2_with fail
          refine wp_region_kept (by kernel_rfl) (by kernel_rfl) ?_
          refine wpQuiet_pure (v := ?_) (by kernel_rfl) ?_ (fun K hK => ?_)
          case refine_2 => intro W _; go_simp; try with_reducible rfl
          go_simp
          refine hK _ ?_; clear hK K
          refine wpQuiet_pure (v := ?_) (by kernel_rfl) ?_ (fun K hK => ?_)
          case refine_2 => intro W _; go_simp; try with_reducible rfl
          go_simp
          refine hK _ ?_; clear hK K
          refine wpQuiet_pure (v := ?_) (by kernel_rfl) ?_ (fun K hK => ?_)
          case refine_2 => intro W _; go_simp; try with_reducible rfl
          go_simp
          refine hK _ ?_; clear hK K
          refine wpQuiet_load_cell (by kernel_rfl) _ _ rfl ⟨bx, 3, none⟩ rfl _ Try.underlying3 rfl _ (fun _ h => h.cell c3) (fun K hK => ?_)
          go_simp
          refine hK _ ?_; clear hK K
          refine wpQuiet_pure (v := ?_) (by kernel_rfl) ?_ (fun K hK => ?_)
          case refine_2 => intro W _; go_simp; try with_reducible rfl
          go_simp
          refine hK _ ?_; clear hK K
          refine wpQuiet_pure (v := ?_) (by kernel_rfl) ?_ (fun K hK => ?_)
          case refine_2 => intro W _; go_simp; try with_reducible rfl
          go_simp
          refine hK _ ?_; clear hK K
          refine wpQuiet_pure (v := ?_) (by kernel_rfl) ?_ (fun K hK => ?_)
          case refine_2 => intro W _; go_simp; try with_reducible rfl
          go_simp
          refine hK _ ?_; clear hK K
          refine wpQuiet_load_cell (by kernel_rfl) _ _ rfl ⟨bx, 2, none⟩ rfl _ Try.underlying3 rfl _ (fun _ h => h.cell c2) (fun K hK => ?_)
          go_simp
          refine hK _ ?_; clear hK K
          refine wpQuiet_pure (v := ?_) (by kernel_rfl) ?_ (fun K hK => ?_)
          case refine_2 => intro W _; go_simp; try with_reducible rfl
          go_simp
          refine hK _ ?_; clear hK K
          refine wpQuiet_nil ?_
          intro w9 hk9
          obtain ⟨c5, cb⟩ := HNX.out w9 hk9
          have DR9 := DR.out w9 hk9
          have HK9 := Lib.hid hk9
          clear hk9 c2 c3 DR HNX
          go_wp2_with fail
          refine DR9.mono ?_
          rintro e w10 ⟨rfl, σ3, f3, hF3, hb3, -⟩
          have HI3 : Hid (TrInv B bx bm be (p : Int) most Q (landOne (p : Int) most man R h) Bs w w10) := Lib.hid ⟨L2, σ3, f3, upBs Cs w9 w10, hF3, HTR.out, upBs_sub HC.out (by have h1 := HW.out.size; have h2 := HK9.out.size; omega), but_sub (HW.out.then_kept HK9.out) hb3 HC.out, HSZ.out⟩
          clear hF3 hb3 DR9
          go_wp2
          go_roundg Q.length
          · exact ⟨Q, Nat.le_refl _, by first | rfl | trivial, HI3⟩
          · have := HGL.out; omega
      · have hb : decide ((q : Int) > most) = false := by simpa using hmq
        have htq : Q = landOne (p : Int) most man R h := by
          rw [← ht]
          cases Q with
          | nil => rfl
          | cons r Q =>
            show _ = (if most < (lenS (r :: Q) : Int) then trimS most Q else r :: Q)
            rw [← hq, if_neg hmq]
        have HF : Hid (∀ W, Kept wr W → XPost (IxP B bx (p : Int) most) Bs (landOne (p : Int) most man R h) w W) := Lib.hid (fun W k => ⟨⟨Cs, ⟨bm, be, Lq, σq, fq, by rw [← htq]; exact H.later k⟩, hc⟩, hw.then_kept k⟩)
        clear H ht hc hw hsz hgl HIN hq htq
        go_wp2_with fail
        refine wp_region_kept (by kernel_rfl) (by kernel_rfl) ?_
        refine wpQuiet_pure (v := ?_) (by kernel_rfl) ?_ (fun K hK => ?_)
        case refine_2 => intro W _; go_simp; try with_reducible rfl
        go_simp
        refine hK _ ?_; clear hK K
        refine wpQuiet_pure (v := ?_) (by kernel_rfl) ?_ (fun K hK => ?_)
        case refine_2 => intro W _; go_simp; try with_reducible rfl
        go_simp
        refine hK _ ?_; clear hK K
        refine wpQuiet_pure (v := ?_) (by kernel_rfl) ?_ (fun K hK => ?_)
        case refine_2 => intro W _; go_simp; try with_reducible rfl
        go_simp
        refine hK _ ?_; clear hK K
        refine wpQuiet_load_cell (by kernel_rfl) _ _ rfl ⟨bx, 3, none⟩ rfl _ Try.underlying3 rfl _ (fun _ h => h.cell c3) (fun K hK => ?_)
        go_simp
        refine hK _ ?_; clear hK K
        refine wpQuiet_pure (v := ?_) (by kernel_rfl) ?_ (fun K hK => ?_)
        case refine_2 => intro W _; go_simp; try with_reducible rfl
        go_simp
        refine hK _ ?_; clear hK K
        refine wpQuiet_pure (v := ?_) (by kernel_rfl) ?_ (fun K hK => ?_)
        case refine_2 => intro W _; go_simp; try with_reducible rfl
        go_simp
        refine hK _ ?_; clear hK K
        refine wpQuiet_pure (v := ?_) (by kernel_rfl) ?_ (fun K hK => ?_)
        case refine_2 => intro W _; go_simp; try with_reducible rfl
        go_simp
        refine hK _ ?_; clear hK K
        refine wpQuiet_load_cell (by kernel_rfl) _ _ rfl ⟨bx, 2, none⟩ rfl _ Try.underlying3 rfl _ (fun _ h => h.cell c2) (fun K hK => ?_)
        go_simp
        refine hK _ ?_; clear hK K
        refine wpQuiet_pure (v := ?_) (by kernel_rfl) ?_ (fun K hK => ?_)
        case refine_2 => intro W _; go_simp; try with_reducible rfl
        go_simp
        refine hK _ ?_; clear hK K
        refine wpQuiet_nil ?_
        intro w9 hk9
        have HF9 := Lib.hid (HF.out w9 hk9)
        clear hk9 c2 c3
        go_wp2
        first | go_ret | go_end0
        first | exact ⟨rfl, HF9.out⟩ | exact ⟨trivial, HF9.out⟩
  | some l =>
    obtain ⟨L1, L2, R1, R2, d0, hL, hR, hlen, hd0, hdh0⟩ := H.found hf
    have hfr : ∀ r ∈ R1, r.1 ≠ h := by
      have := ok.ok.one
      rw [hR] at this
      exact nodup_front this
    have hsp := at_split_all (R2 := R2) (ms := d0.ms) hfr
    rw [← hR] at hsp
    obtain ⟨hcut, hpk, -⟩ := hsp
    rw [hf] at FI
    unfold ptV pB at FI
    have hlS : lenS (R1 ++ R2 ++ [(h, d0.ms)]) = lenS R := by
      rw [hR, lenS_append, lenS_append, lenS_append]
      show lenS R1 + lenS R2 + (d0.ms.length + 0) = lenS R1 + (d0.ms.length + lenS R2)
      omega
    have hlN : (R1 ++ R2).length ≤ R.length := by rw [hR, List.length_append, List.length_append, List.length_cons]; omega
    have hmsl : d0.ms.length ≤ 65536 := by
      rw [lenS_append] at hlS
      have : lenS [(h, d0.ms)] = d0.ms.length + 0 := rfl
      omega
    have US := Lib.hid (fun W (k : Kept (w.alloc (.cells F 47)) W) => by
      have HW := HH1.out.later k
      rw [hL, hR] at HW
      exact fu_use B bx bm be (p : Int) most L1 L2 l σ f R1 R2 (h, d0.ms) Bs W HW hlen)
    have HD0 := Lib.hid hd0
    obtain ⟨ms, hms⟩ : ∃ ms, ms = d0.ms := ⟨_, rfl⟩
    have HDM := Lib.hid hms
    rw [← hms] at hpk hlS hmsl US
    have HCUT := Lib.hid hcut
    have HPK := Lib.hid hpk
    have HLS := Lib.hid hlS
    have HLN := Lib.hid hlN
    have HLR := Lib.hid hlr
    have HMS := Lib.hid hmsl
    clear hFF H ok K1 H1 hf h32 hlr hB hman hfr hcut hpk hlS hlN hmsl hL hR hlen hd0 hdh0 hms
    go_enter Try.func30, Try.ntmps30
    go_wp2_with (first
      | (with_reducible refine wpList_load_row rfl _ _ rfl w.heap.size rfl 47 F (0, 0) _ g0 Try.underlying47 rfl HI.out ?_)
      | (go_at_call 33; refine FI.mono ?_; rintro e w2 ⟨rfl, hk2⟩; have HK2 := Lib.hid hk2; have NU := US.out w2 hk2; clear hk2 g0)
      | (go_at_call 35; refine NU.mono ?_; rintro e wu ⟨rfl, σ5, hF5, hco5, hb5⟩; have HF5 := Lib.hid hF5; have HCO5 := Lib.hid hco5; have HB5 := Lib.hid hb5; clear hF5 hco5 hb5 NU))
    obtain ⟨d, hd, -, hdm, -⟩ := some_of_cor (HCO5.out l) HD0.out
    rw [← HDM.out] at hdm
    have hF5 := HF5.out
    have hO := hF5.own l (List.mem_append_right _ (List.mem_cons_self ..)) d hd
    rw [hdm] at hO
    have hsz : w.heap.size ≤ wu.heap.size := by
      have a := HK1.out.size
      have b := HK2.out.size
      have c := HB5.out.size
      omega
    have FIR : Hid (∀ w6, Kept wu w6 → Calls Try.prog 44 #[.int .u32 (man : Nat), d.v, .int .i64 (p : Nat)] w6 fun e w' => ∃ v', e = .returned v' ∧ OwnU B (firstM (p : Int) man ms) v' w' ∧ (v'.ownBlock = d.v.ownBlock ∨ ∃ k, v'.ownBlock = some k ∧ w6.heap.size ≤ k) ∧ ButBy (fun k => d.v.ownBlock = some k) w6 w') := Lib.hid (fun w6 k => first_any B man p ms d.v (by have := HMS.out; omega) hp64 HMAN.out w6 (hO.later k) (by have := HBB.out; have := k.size; omega))
    have STEP : Hid (∀ w6 w7 v', Kept wu w6 → OwnU B (firstM (p : Int) man ms) v' w7 → (v'.ownBlock = d.v.ownBlock ∨ ∃ k, v'.ownBlock = some k ∧ w6.heap.size ≤ k) → ButBy (fun k => d.v.ownBlock = some k) w6 w7 → Calls Try.prog 36 #[.pointer (some ⟨bx, 0, none⟩), .pointer (some ⟨l, 0, none⟩), v'] w7 fun e w' => e = .returned (.tuple #[]) ∧ ∃ Q, Q.length ≤ R.length + 1 ∧ TrInv B bx bm be (p : Int) most Q (landOne (p : Int) most man R h) Bs w w') := Lib.hid (fun w6 w7 v' k ho hv hb => put_step B bx bm be p most man R (R1 ++ R2) h ms l (L1 ++ L2) σ5 f d Bs Bs w wu w6 w7 v' HBB.out hF5 HCUT.out.symm HPK.out.symm (fun k hk => Or.inl hk) ((but_of_kept ((show Kept w _ from HK1.out).then HK2.out)).trans HB5.out) hd k hb ho hv hp64 (by rw [HLS.out]; have := HLR.out; omega) HLN.out)
    have S7 : Hid (∀ w6 w7, Kept wu w6 → ButBy (fun k => d.v.ownBlock = some k) w6 w7 → w7.cell? ⟨bx, 1, none⟩ = some (.int .i64 (p : Nat))) := Lib.hid (fun w6 w7 k hb => ((hF5.later k).low_row (List.mem_append_right _ (List.mem_cons_self ..)) hd hb).x.c1)
    have cv := hF5.low.nds.cv hd
    have c1 := hF5.low.x.c1
    obtain ⟨v, hv⟩ : ∃ v, v = d.v := ⟨_, rfl⟩
    rw [← hv] at cv FIR STEP S7
    clear hF5 HF5 HCO5 hd hdm hO hsz hv US
    go_wp2_with fail
    have cvd : wu.drew.cell? ⟨l, 32, none⟩ = some v := cv
    refine wp_region_held_drew (S := fun w' => w'.cell? ⟨bx, 1, none⟩ = some (.int .i64 (p : Nat))) (by kernel_rfl) c1 (fun hHeld => ?_)
    refine wpAnyH_take (i := 0) (v := ?_) rfl (by kernel_rfl) (by kernel_rfl) (by kernel_rfl) (fun _ _ _ h => h) (Or.inl ⟨by first | kernel_rfl | rfl, ?_⟩) (by assumption) ?_
    case refine_2 => intro w hSw; go_simp; try with_reducible rfl
    refine wpAnyH_take (i := 1) (v := ?_) rfl (by kernel_rfl) (by kernel_rfl) (by kernel_rfl) (fun _ _ _ h => h) (Or.inl ⟨by first | kernel_rfl | rfl, ?_⟩) (by assumption) ?_
    case refine_2 => intro w hSw; go_simp; try with_reducible rfl
    refine wpAnyH_take (i := 2) (v := ?_) rfl (by kernel_rfl) (by kernel_rfl) (by kernel_rfl) (fun _ _ _ h => h) (Or.inl ⟨by first | kernel_rfl | rfl, ?_⟩) (by assumption) ?_
    case refine_2 => intro w hSw; go_simp; try with_reducible rfl
    refine wpAnyH_take (i := 3) (v := ?_) rfl (by kernel_rfl) (by kernel_rfl) (by kernel_rfl) (fun _ _ _ h => h) (Or.inl ⟨by first | kernel_rfl | rfl, ?_⟩) (by assumption) ?_
    case refine_2 => intro w hSw; go_simp; try with_reducible rfl
    refine wpAnyH_take (i := 4) (v := ?_) rfl (by kernel_rfl) (by kernel_rfl) (by kernel_rfl) (fun _ _ _ h => h) (Or.inl ⟨by first | kernel_rfl | rfl, ?_⟩) (by assumption) ?_
    case refine_2 => intro w hSw; go_simp; try with_reducible rfl
    refine wpAnyH_take (i := 5) (v := ?_) rfl (by kernel_rfl) (by kernel_rfl) (by kernel_rfl) (fun _ _ _ h => h) (Or.inl ⟨by first | kernel_rfl | rfl, ?_⟩) (by assumption) ?_
    case refine_2 => intro w hSw; go_simp; try with_reducible rfl
    refine wpAnyH_take (i := 7) (v := ?_) rfl (by kernel_rfl) (by kernel_rfl) (by kernel_rfl) (fun _ _ _ h => h) (Or.inl ⟨by first | kernel_rfl | rfl, ?_⟩) (by assumption) ?_
    case refine_2 => intro w hSw; go_simp; try with_reducible rfl
    refine wpAnyH_take (i := 8) (v := ?_) rfl (by kernel_rfl) (by kernel_rfl) (by kernel_rfl) (fun _ _ _ h => h) (Or.inl ⟨by first | kernel_rfl | rfl, ?_⟩) (by assumption) ?_
    case refine_2 => intro w hSw; go_simp; try with_reducible rfl
    refine wpAnyH_take (i := 9) (v := ?_) rfl (by kernel_rfl) (by kernel_rfl) (by kernel_rfl) (fun _ _ _ h => h) (Or.inl ⟨by first | kernel_rfl | rfl, ?_⟩) (by assumption) ?_
    case refine_2 => intro w hSw; go_simp; try with_reducible rfl
    refine wpAnyH_take (i := 10) (v := ?_) rfl (by kernel_rfl) (by kernel_rfl) (by kernel_rfl) (fun _ _ _ h => h) (Or.inl ⟨by first | kernel_rfl | rfl, ?_⟩) (by assumption) ?_
    case refine_2 => intro w hSw; go_simp; try with_reducible rfl
    refine wpAnyH_ready (rs := [6]) (by kernel_rfl) (by simp) (AllReadyH.cons rfl (fun K hK => ?_) AllReadyH.nil)
    go_simp
    refine hK.out _ _ c1 (fun _ => ?_)
    clear hK K
    have FS := FIR.out wu.drew (below_drewN (Below.refl _ wu) 1)
    refine wpAnyH_ready (rs := [11]) (by kernel_rfl) (by simp) (AllReadyH.cons rfl (fun K hK => ?_) AllReadyH.nil)
    go_simp
    refine FS.mono ?_
    rintro e w7 ⟨v7, rfl, ho7, hv7, hb7⟩
    have s7 := S7.out wu.drew w7 (below_drewN (Below.refl _ wu) 1) hb7
    have ST := STEP.out wu.drew w7 v7 (below_drewN (Below.refl _ wu) 1) ho7 hv7 hb7
    refine hK.out _ _ s7 (fun _ => ?_)
    clear hK K
    clear ho7 hv7 hb7 FS cv cvd
    refine wpAnyH_ready (rs := [12]) (by kernel_rfl) (by simp) (AllReadyH.cons rfl (fun K hK => ?_) AllReadyH.nil)
    go_simp
    refine ST.mono ?_
    rintro e w8 ⟨rfl, hi8⟩
    have HI8 := Lib.hid hi8
    have s8 : w8.cell? ⟨bx, 1, none⟩ = some (.int .i64 (p : Nat)) := by
      obtain ⟨Q, -, Lq, σq, fq, Cs, HQ, -⟩ := hi8
      exact HQ.low.x.c1
    refine hK.out _ _ s8 (fun _ => ?_)
    clear hK K
    clear hi8 ST s7
    refine wpAnyH_done (by kernel_rfl) ?_ _
    go_wp2
    go_loopg [36] (R.length + 1) (fun gh y36 wr => ∃ (Q : List SRow), Q.length ≤ gh ∧ y36 = y36 ∧ Hid (TrInv B bx bm be (p : Int) most Q (landOne (p : Int) most man R h) Bs w wr))
    case atStart =>
      obtain ⟨Q, hQ, hi⟩ := HI8.out
      exact ⟨Q, hQ, rfl, Lib.hid hi⟩
    case round =>
      clear HI8
      obtain ⟨Q, hgl, -, HIN⟩ := hrel
      obtain ⟨Lq, σq, fq, Cs, H, ht, hc, hw, hsz⟩ := HIN.out
      have c2 := H.low.x.c2
      have c3 := H.low.x.c3
      have HLQ := Lib.hid hsz
      obtain ⟨q, hq⟩ : ∃ q, q = lenS Q := ⟨_, rfl⟩
      rw [← hq] at c3
      by_cases hmq : most < (q : Int)
      · cases Q with
        | nil =>
          exfalso
          have : lenS ([] : List SRow) = 0 := rfl
          rw [this] at hq
          have := HMM.out
          omega
        | cons r Q =>
          obtain ⟨l2, L2, rfl⟩ : ∃ l L, Lq = l :: L := by
            have := H.len
            cases Lq with
            | nil => cases this
            | cons l L => exact ⟨l, L, rfl⟩
          obtain ⟨xbe, hbe⟩ := H.low.mem be (List.mem_cons_self ..)
          have hnb : xbe.n = l2 := by
            have h1 := path_head H.low.path
            unfold nxR at h1
            rw [hbe] at h1
            exact Option.some.inj h1
          obtain ⟨d2, hd2⟩ := H.low.mem l2 (List.mem_cons_of_mem _ (List.mem_cons_self ..))
          have DR := Lib.hid (fun W (k : Kept wr W) => fu_drop B bx bm be (p : Int) most [] L2 l2 d2 σq fq [] Q r.1 r.2 none 0 Cs W W (by have h1 := HBB.out; have h2 := hw.size; have h3 := k.size; omega) (H.later k) rfl hd2 (but_refl _ _) hsz)
          have HNX := Lib.hid (fun W (k : Kept wr W) => (⟨(H.later k).low.x.c5, by have := (H.later k).low.nds.cn hbe; rw [hnb] at this; exact this⟩ : W.cell? ⟨bx, 5, none⟩ = some (.pointer (some ⟨be, 0, none⟩)) ∧ W.cell? ⟨be, 34, none⟩ = some (.pointer (some ⟨l2, 0, none⟩))))
          have HTR : Hid (trimS most Q = landOne (p : Int) most man R h) := Lib.hid (by
            rw [← ht]
            show _ = (if most < (lenS (r :: Q) : Int) then trimS most Q else r :: Q)
            rw [← hq, if_pos hmq])
          have HSZ : Hid (lenS Q ≤ 1000000) := Lib.hid (by have : lenS (r :: Q) = r.2.length + lenS Q := rfl; omega)
          have HC := Lib.hid hc
          have HW := Lib.hid hw
          have HGL : Hid (Q.length + 1 ≤ gk) := Lib.hid hgl
          have hb : decide ((q : Int) > most) = true := by simpa using hmq
          clear H ht hc hw hsz hbe hnb hd2 hgl HIN hq
          go_wp2_with fail
          refine wp_region_kept (by kernel_rfl) (by kernel_rfl) ?_
          refine wpQuiet_pure (v := ?_) (by kernel_rfl) ?_ (fun K hK => ?_)
          case refine_2 => intro W _; go_simp; try with_reducible rfl
          go_simp
          refine hK _ ?_; clear hK K
          refine wpQuiet_pure (v := ?_) (by kernel_rfl) ?_ (fun K hK => ?_)
          case refine_2 => intro W _; go_simp; try with_reducible rfl
          go_simp
          refine hK _ ?_; clear hK K
          refine wpQuiet_pure (v := ?_) (by kernel_rfl) ?_ (fun K hK => ?_)
          case refine_2 => intro W _; go_simp; try with_reducible rfl
          go_simp
          refine hK _ ?_; clear hK K
          refine wpQuiet_load_cell (by kernel_rfl) _ _ rfl ⟨bx, 3, none⟩ rfl _ Try.underlying3 rfl _ (fun _ h => h.cell c3) (fun K hK => ?_)
          go_simp
          refine hK _ ?_; clear hK K
          refine wpQuiet_pure (v := ?_) (by kernel_rfl) ?_ (fun K hK => ?_)
          case refine_2 => intro W _; go_simp; try with_reducible rfl
          go_simp
          refine hK _ ?_; clear hK K
          refine wpQuiet_pure (v := ?_) (by kernel_rfl) ?_ (fun K hK => ?_)
          case refine_2 => intro W _; go_simp; try with_reducible rfl
          go_simp
          refine hK _ ?_; clear hK K
          refine wpQuiet_pure (v := ?_) (by kernel_rfl) ?_ (fun K hK => ?_)
          case refine_2 => intro W _; go_simp; try with_reducible rfl
          go_simp
          refine hK _ ?_; clear hK K
          refine wpQuiet_load_cell (by kernel_rfl) _ _ rfl ⟨bx, 2, none⟩ rfl _ Try.underlying3 rfl _ (fun _ h => h.cell c2) (fun K hK => ?_)
          go_simp
          refine hK _ ?_; clear hK K
          refine wpQuiet_pure (v := ?_) (by kernel_rfl) ?_ (fun K hK => ?_)
          case refine_2 => intro W _; go_simp; try with_reducible rfl
          go_simp
          refine hK _ ?_; clear hK K
          refine wpQuiet_nil ?_
          intro w9 hk9
          obtain ⟨c5, cb⟩ := HNX.out w9 hk9
          have DR9 := DR.out w9 hk9
          have HK9 := Lib.hid hk9
          clear hk9 c2 c3 DR HNX
          go_wp2_with fail
          refine DR9.mono ?_
          rintro e w10 ⟨rfl, σ3, f3, hF3, hb3, -⟩
          have HI3 : Hid (TrInv B bx bm be (p : Int) most Q (landOne (p : Int) most man R h) Bs w w10) := Lib.hid ⟨L2, σ3, f3, upBs Cs w9 w10, hF3, HTR.out, upBs_sub HC.out (by have h1 := HW.out.size; have h2 := HK9.out.size; omega), but_sub (HW.out.then_kept HK9.out) hb3 HC.out, HSZ.out⟩
          clear hF3 hb3 DR9
          go_wp2
          go_roundg Q.length
          · exact ⟨Q, Nat.le_refl _, by first | rfl | trivial, HI3⟩
          · have := HGL.out; omega
      · have hb : decide ((q : Int) > most) = false := by simpa using hmq
        have htq : Q = landOne (p : Int) most man R h := by
          rw [← ht]
          cases Q with
          | nil => rfl
          | cons r Q =>
            show _ = (if most < (lenS (r :: Q) : Int) then trimS most Q else r :: Q)
            rw [← hq, if_neg hmq]
        have HF : Hid (∀ W, Kept wr W → XPost (IxP B bx (p : Int) most) Bs (landOne (p : Int) most man R h) w W) := Lib.hid (fun W k => ⟨⟨Cs, ⟨bm, be, Lq, σq, fq, by rw [← htq]; exact H.later k⟩, hc⟩, hw.then_kept k⟩)
        clear H ht hc hw hsz hgl HIN hq htq
        go_wp2_with fail
        refine wp_region_kept (by kernel_rfl) (by kernel_rfl) ?_
        refine wpQuiet_pure (v := ?_) (by kernel_rfl) ?_ (fun K hK => ?_)
        case refine_2 => intro W _; go_simp; try with_reducible rfl
        go_simp
        refine hK _ ?_; clear hK K
        refine wpQuiet_pure (v := ?_) (by kernel_rfl) ?_ (fun K hK => ?_)
        case refine_2 => intro W _; go_simp; try with_reducible rfl
        go_simp
        refine hK _ ?_; clear hK K
        refine wpQuiet_pure (v := ?_) (by kernel_rfl) ?_ (fun K hK => ?_)
        case refine_2 => intro W _; go_simp; try with_reducible rfl
        go_simp
        refine hK _ ?_; clear hK K
        refine wpQuiet_load_cell (by kernel_rfl) _ _ rfl ⟨bx, 3, none⟩ rfl _ Try.underlying3 rfl _ (fun _ h => h.cell c3) (fun K hK => ?_)
        go_simp
        refine hK _ ?_; clear hK K
        refine wpQuiet_pure (v := ?_) (by kernel_rfl) ?_ (fun K hK => ?_)
        case refine_2 => intro W _; go_simp; try with_reducible rfl
        go_simp
        refine hK _ ?_; clear hK K
        refine wpQuiet_pure (v := ?_) (by kernel_rfl) ?_ (fun K hK => ?_)
        case refine_2 => intro W _; go_simp; try with_reducible rfl
        go_simp
        refine hK _ ?_; clear hK K
        refine wpQuiet_pure (v := ?_) (by kernel_rfl) ?_ (fun K hK => ?_)
        case refine_2 => intro W _; go_simp; try with_reducible rfl
        go_simp
        refine hK _ ?_; clear hK K
        refine wpQuiet_load_cell (by kernel_rfl) _ _ rfl ⟨bx, 2, none⟩ rfl _ Try.underlying3 rfl _ (fun _ h => h.cell c2) (fun K hK => ?_)
        go_simp
        refine hK _ ?_; clear hK K
        refine wpQuiet_pure (v := ?_) (by kernel_rfl) ?_ (fun K hK => ?_)
        case refine_2 => intro W _; go_simp; try with_reducible rfl
        go_simp
        refine hK _ ?_; clear hK K
        refine wpQuiet_nil ?_
        intro w9 hk9
        have HF9 := Lib.hid (HF.out w9 hk9)
        clear hk9 c2 c3
        go_wp2
        first | go_ret | go_end0
        first | exact ⟨rfl, HF9.out⟩ | exact ⟨trivial, HF9.out⟩


end Go.Proofs.Ytaajadmaamjebaa
