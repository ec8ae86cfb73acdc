/- The document's Put. -/
import Derived.Test.YtaajadmaamjebaaSxD
import Derived.Test.YtaajadmaamjebaaQTail
namespace Go.Proofs.Ytaajadmaamjebaa
open Go.RowKit

/-! ### Put -/
def PosS (R : List SRow) : Prop := ∀ r ∈ R, 1 ≤ r.2.length
theorem PosS.count {R : List SRow} (h : PosS R) : R.length ≤ lenS R := by
  induction R with
  | nil => exact Nat.le_refl _
  | cons r R ih =>
    have h1 := h r (List.mem_cons_self ..)
    have h2 := ih (fun x hx => h x (List.mem_cons_of_mem _ hx))
    show R.length + 1 ≤ r.2.length + lenS R; omega
theorem PosS.last {R : List SRow} (h : PosS R) (i : Int) {r : SRow} (hr : 1 ≤ r.2.length) : PosS (lastS R i r) := fun x hx => by
  rcases List.mem_append.1 hx with y | y
  · refine h x ?_
    unfold cutS at y
    split at y
    · exact y
    · exact (List.eraseIdx_sublist _ _).mem y
  · rw [List.mem_singleton.1 y]; exact hr
theorem PosS.trim {R : List SRow} (h : PosS R) (most : Int) : PosS (trimS most R) := fun x hx => by
  obtain ⟨P, e⟩ := trim_suffix (most := most) R
  exact h x (by rw [e]; exact List.mem_append_right _ hx)
theorem PosS.one {R : List SRow} (h : PosS R) (per most : Int) (man : Nat) (k : List UInt8) : PosS (putOne per most man R k) := (h.last _ (listS_pos per man _)).trim most
theorem foldOne_take {α β : Type} (f : β → α → β) (b : β) (l : List α) (k : Nat) (h : k < l.length) : (l.take (k + 1)).foldl f b = f ((l.take k).foldl f b) l[k] := by
  rw [List.take_succ_eq_append_getElem h, List.foldl_append]; rfl

theorem wpQuiet_build {P : Program} {ops : Array Oper} {C : World → Prop} {Q : Act → Prop} {a : Act} {o : Oper} {rest : List Oper} (hw : Region.wanted o (yielded ops a.tmps) = true) (t : TypeId) (parts : Array (Nat × Operand)) (ho : o.op = .build t parts)
    (ps : List (Nat × Value)) (hps : (parts.map fun (i, x) => (i, a.eval x)).toList = ps) (cells : Array Value) (hb : P.built t ps = some cells)
    (h : ∀ K : Act → Prop, (∀ a, wpQuiet P ops C Q rest a → K a) → K (a.put o.dst (.agg cells))) : wpQuiet P ops C Q (o :: rest) a := by
  subst hps
  refine wpQuiet_pure hw (.agg cells) (fun W _ => ?_) h
  unfold execOp
  simp only [ho, Sem.run_bind, run_build W t _ cells hb, Result.andThen_ok]
  rfl
theorem ButBy.after {Bs : Nat → Prop} {w W1 wr : World} (h : ButBy Bs W1 wr) (k : Kept w W1) : ButBy Bs w wr := ⟨h.os.trans k.os, h.tape.trans k.tape, h.output.trans k.output, Nat.le_trans k.size h.size, fun j hj hn => (h.block j (Nat.lt_of_lt_of_le hj k.size) hn).trans (k.block j hj)⟩
theorem Calls.kept_of'' {P : Program} {f : FuncId} {args : Array Value} {w W : World} {v : Value} (hK : Kept w W)
    (h : Calls P f args W fun e w' => e = .returned v ∧ Kept W w') : Calls P f args W fun e w' => e = .returned v ∧ Kept w w' :=
  h.mono fun _ _ ⟨he, hb⟩ => ⟨he, hK.then hb⟩
/-- What stands behind the first element. -/
theorem RowsAt.rest {α : Type} {enc : α → List Value} {k : Nat} {ok : α → Prop} {P : Program} {S T : TypeId} (E : Enc enc k ok) (hS : P.underlying S = some (.slice T)) (hT : ∀ w, (Go.sizeOf T).run P w = .ok k w) {l : List α} {p : Option Addr} {n c : Nat} {w : World}
    (h : RowsAt enc k ok l (.slice p n c) w) (hn : n = l.length) (h1 : 1 ≤ n) : ∃ v2, (∀ w', (Instr.sliceAt S (.slice p n c) (some (.int .i64 1)) none none).run P w' = .ok v2 w') ∧ RowsAt enc k ok (l.drop 1) v2 w := by
  subst hn
  obtain ⟨hcap, hgood, hl1, hl2, p', c', e, hc⟩ := h
  simp only [Value.slice.injEq, true_and] at e
  obtain ⟨rfl, rfl⟩ := e
  have hcn := hcap _ _ _ rfl
  have hd : ∀ a ∈ l.drop 1, ok a := fun a ha => hgood a (List.mem_of_mem_drop ha)
  have hd0 := flatR_len E _ hd
  rw [List.length_drop] at hd0
  rcases hc with h0 | ⟨b, off, rfl, hcl⟩
  · omega
  by_cases h2 : 1 < c
  · have C2 := fun w' => cut_loR (P := P) hS hT b off l.length c 1 h1 h2 w'
    have hfl : flatR enc l = flatR enc (l.take 1) ++ flatR enc (l.drop 1) := by rw [← flatR_append, List.take_append_drop]
    have ht0 := flatR_len E (l.take 1) (fun a ha => hgood a (List.mem_of_mem_take ha))
    rw [List.length_take, Nat.min_eq_left h1] at ht0
    refine ⟨_, C2, fun p n c e => by simp only [Value.slice.injEq] at e; omega, hd, by rw [hd0, List.length_drop], flatR_ones E _ hd, some ⟨b, off + 1 * k, none⟩, c - 1, by rw [List.length_drop], Or.inr ⟨b, off + 1 * k, rfl, fun j x hx => ?_⟩⟩
    have := hcl (1 * k + j) x (by rw [hfl, List.getElem?_append_right (by rw [ht0]; omega), ht0, show 1 * k + j - 1 * k = j by omega]; exact hx)
    rw [show off + 1 * k + j = off + (1 * k + j) by omega]
    exact this
  · have hc1 : c = 1 := by omega
    have hl : l.length = 1 := by omega
    have hdn : l.drop 1 = [] := List.drop_eq_nil_of_le (by omega)
    rw [hdn]
    refine ⟨.slice (some ⟨b, off, none⟩) 0 0, fun w' => ?_, fun p n c e => by simp only [Value.slice.injEq] at e; omega, fun a ha => (by cases ha), by simp [flatR], fun x hx => (by cases hx), some ⟨b, off, none⟩, 0, rfl, Or.inl rfl⟩
    rw [hl, hc1]
    simp [Instr.sliceAt, Instr.slice, run_underlying hS, Instr.sliceBounds, Instr.sliceBound, asIntOf, hT]

set_option maxRecDepth 100000 in
set_option maxHeartbeats 64000000 in
theorem rput17_any (E : Nat → Prop) (g : Nat) (per most : Int) (A : List (SRow × Value)) (tv : Value) (w : World) (H : IxAt E g per most A tv w) (hp : 0 ≤ per ∧ per ≤ 64) (hm : 0 ≤ most ∧ most ≤ 65536) (hpos : PosS (A.map Prod.fst)) (hl : (lenS (A.map Prod.fst) : Int) ≤ most) (man : Nat) (hman : man < 4294967296)
    (ls : List (List UInt8)) (vs : Value) (hls : ls.length ≤ 1000000) (HF : FpsAt 32 ls vs w) :
    Calls Try.prog 24 #[.pointer (some ⟨g, 0, none⟩), .int .u32 (man : Nat), vs] w fun e w' => e = .returned (.tuple #[]) ∧ (∃ A' tv', IxAt E g per most A' tv' w' ∧ A'.map Prod.fst = putS per most man (A.map Prod.fst) ls) ∧ ButBy (fun m => m = g) w w' := by
  obtain ⟨ir, zr, i1, i2, i3, i4, i5⟩ := infoSxF
  have HIR := Lib.hid i1
  have HZ0 := Lib.hid i2
  have HZ1 := Lib.hid i3
  have HZ2 := Lib.hid i4
  have HZS := Lib.hid i5
  obtain ⟨iu, hiu, hx⟩ := Option.map_eq_some_iff.1 info_u32
  simp only [Prod.mk.injEq] at hx
  obtain ⟨u1, u2, u3⟩ := hx
  have HIU := Lib.hid hiu
  have HU0 := Lib.hid u1
  have HU1 := Lib.hid u2
  have HU2 := Lib.hid u3
  have CS := rset_any vs ls hls w HF
  have h32 : All32 (setL ls) := all32_set32 HF.1
  have hsl : (setL ls).length ≤ 1000000 := Nat.le_trans (setL_le 32 ls HF.1) hls
  have HGW : Hid (g < w.heap.size) := Lib.hid (Array.getElem?_eq_some_iff.1 H.row).1
  have HH0 := Lib.hid H
  obtain ⟨R, hR⟩ : ∃ R, R = A.map Prod.fst := ⟨_, rfl⟩
  rw [← hR] at hpos hl ⊢
  have HRA := Lib.hid hR
  have HPOS := Lib.hid hpos
  have HLN := Lib.hid hl
  have HPM := Lib.hid (show (0 ≤ per ∧ per ≤ 64) ∧ 0 ≤ most ∧ most ≤ 65536 from ⟨hp, hm⟩)
  obtain ⟨RES, hRES⟩ : ∃ x, x = putS per most man R ls := ⟨_, rfl⟩
  rw [← hRES]
  have HRES := Lib.hid hRES
  obtain ⟨S, hS⟩ : ∃ S, S = setL ls := ⟨_, rfl⟩
  rw [← hS] at CS h32 hsl
  have HS := Lib.hid hS
  have HS32 := Lib.hid h32
  obtain ⟨n, hn⟩ : ∃ n, n = S.length := ⟨_, rfl⟩
  have HNS : Hid (n = S.length ∧ n ≤ 1000000) := Lib.hid ⟨hn, by omega⟩
  have HMAN := Lib.hid hman
  clear i1 i2 i3 i4 i5 hiu u1 u2 u3 hls HF h32 hsl H hR hpos hl hp hm hRES hS hman
  go_enter Try.func24, Try.ntmps24
  go_wp2_with fail
  refine CS.mono ?_
  rintro e W1 ⟨v1, rfl, hown, hk1⟩
  obtain ⟨p1, cS, hv1, -, -⟩ := own_slice hown.2
  rw [← hn] at hv1
  subst hv1
  have HOWS := Lib.hid hown
  have HK1 := Lib.hid (show Kept w W1 from hk1)
  have HI1 := Lib.hid (HH0.out.later hk1)
  clear hown hk1 hn CS
  go_wp2
  go_loopg [7] n (fun gh y7 wr => ∃ (k : Nat) (A' : List (SRow × Value)) (tv' : Value), k + gh = n ∧ y7 = .int .i64 k ∧ Hid (0 < k → 0 < per ∧ 0 < most) ∧ Hid (A'.map Prod.fst = (S.take k).foldl (putOne per most man) R) ∧ Hid (PosS (A'.map Prod.fst)) ∧ Hid ((lenS (A'.map Prod.fst) : Int) ≤ most) ∧ Hid (IxAt E g per most A' tv' wr) ∧ Hid (ButBy (fun m => m = g) W1 wr))
  case atStart => exact ⟨0, A, _, by omega, rfl, Lib.hid (fun h => by omega), Lib.hid (by rw [← HRA.out]; rfl), Lib.hid (by rw [← HRA.out]; exact HPOS.out), Lib.hid (by rw [← HRA.out]; exact HLN.out), HI1, Lib.hid (but_refl _ W1)⟩
  case round =>
    obtain ⟨k, A', tv', hk, rfl, HPK, HMAP, HPOS', HLN', HI, HB⟩ := hrel
    obtain ⟨wo, rfl⟩ : ∃ W, W = wr := ⟨_, rfl⟩
    have c0 := HI.out.c0
    have c1 := HI.out.c1
    have DONE : Hid (∀ Q : List SRow, Q = RES → True) := Lib.hid (fun _ _ => trivial)
    by_cases hlt : k < n
    · have hki : (k : Int) < n := by omega
      have bk : decide ((k : Int) < (n : Int)) = true := by simpa using hki
      by_cases hp0 : 0 < per
      · have bp : decide (per > 0) = true := decide_eq_true hp0
        by_cases hm0 : 0 < most
        · have bm : decide (most > 0) = true := decide_eq_true hm0
          have hkS : k < S.length := by rw [← HNS.out.1]; exact hlt
          have hofp : OwnFps w.heap.size S (.slice p1 n cS) wo := ⟨HS32.out, own_stay HOWS.out.2 (fun q hq => HB.out.block q (HOWS.out.2.lt q hq).2 (fun e => by have := (HOWS.out.2.lt q hq).1; have := HGW.out; omega))⟩
          have hfps := hofp.fps
          rw [HNS.out.1] at hfps
          obtain ⟨b2, o2, cs2, t2, fr2, hp1, hg2, hs2, hx2⟩ := hfps.elem hkS
          have IXS := fun W => idx_at b2 o2 n cS k hlt W
          obtain ⟨h, hh⟩ : ∃ h, h = S[k] := ⟨_, rfl⟩
          have h32 : h.length = 32 := by rw [hh]; exact HS32.out _ (List.getElem_mem hkS)
          have hft := foldOne_take (putOne per most man) R S k hkS
          rw [← hh] at hx2 hft
          rw [← HMAP.out] at hft
          obtain ⟨X, hX⟩ : ∃ X, X = fpA h := ⟨_, rfl⟩
          have hXs : X.size = 32 := by rw [hX, fpA_size, h32]
          rw [← hX] at hx2
          have HE2 := Lib.hid (show o2 + k * 32 + 32 ≤ cs2.size ∧ cs2.extract (o2 + k * 32) (o2 + k * 32 + 32) = X from ⟨hs2, hx2⟩)
          have HX := Lib.hid hX
          have HXS := Lib.hid hXs
          have HH32 := Lib.hid h32
          have HGO := Lib.hid hg2
          have hA6 : A'.length ≤ 1000000 := by
            have h1 := HPOS'.out.count
            have h2 := HLN'.out
            have h3 := HPM.out
            rw [List.length_map] at h1
            omega
          have HA6 := Lib.hid hA6
          obtain ⟨W2, hW2⟩ : ∃ W, W = wo.alloc (.cells #[.int .u32 (man : Nat)] 33) := ⟨_, rfl⟩
          have hk2 : Kept wo W2 := by rw [hW2]; exact box_below _ _
          have HK2 := Lib.hid hk2
          have HOL2 : Hid (W2.ownsRow wo.heap.size 33 1 (.slice (some ⟨wo.heap.size, 0, none⟩) 1 1) 1 (flatR uL [man])) := Lib.hid (by rw [hW2]; exact World.ownsRow_lit wo #[.int .u32 (man : Nat)] 1 (Nat.le_refl _) (by decide) rfl)
          have HI2 := Lib.hid (HI.out.later hk2)
          have hgo2 := hk2.row hg2
          rw [hW2] at hgo2
          have CPK := rpeek17_any E g per most A' tv' W2 HI2.out hA6 h h32
          rw [← hX] at CPK
          obtain ⟨P, hP⟩ : ∃ P, P = peekS (A'.map Prod.fst) h := ⟨_, rfl⟩
          rw [← hP] at CPK
          have HP := Lib.hid hP
          have hPl : P.length ≤ lenS (A'.map Prod.fst) := by
            rw [hP]
            cases hi : idxS (A'.map Prod.fst) h with
            | none => unfold peekS; rw [hi]; exact Nat.zero_le _
            | some q =>
              obtain ⟨hq, e⟩ := peek_len hi
              rw [e]
              have h1 := lenS_take (A'.map Prod.fst) q hq
              have h2 := lenS_take_le (A'.map Prod.fst) (q + 1)
              omega
          have HPL : Hid (P.length ≤ 65536) := Lib.hid (by have h2 := HLN'.out; have h3 := HPM.out; omega)
          have HW2 := Lib.hid hW2
          obtain ⟨k1, hk1⟩ : ∃ k1, k1 = k + 1 := ⟨_, rfl⟩
          have v1 : IntKind.i64.wrap ((k : Int) + 1) = (k1 : Int) := by rw [show (k : Int) + 1 = (k1 : Int) by omega]; exact IntWalk.i64_in _ (by have := HNS.out; omega)
          have HKK : Hid (k1 = k + 1 ∧ k + gk = n ∧ k < n) := Lib.hid ⟨hk1, hk, hlt⟩
          rw [← hk1] at hft
          have HFT := Lib.hid hft
          have HPP : Hid (0 < per ∧ 0 < most) := Lib.hid ⟨hp0, hm0⟩
          obtain ⟨po, hpo⟩ : ∃ x, x = p1 := ⟨_, rfl⟩
          subst hp1
          clear hkS hofp hfps hs2 hx2 hh h32 hft hX hXs hA6 hk2 hP hPl hW2 hk1 hk hlt hg2 DONE hpo po HPK
          go_wp2_with (first
            | (with_reducible refine wpList_load_sub rfl _ _ rfl b2 (o2 + k * 32) 32 rfl t2 cs2 fr2 _ hgo2 Try.underlying47 rfl infoFp HE2.out.1 X HE2.out.2 ?_)
            | fail)
          rw [← HW2.out]
          refine CPK.mono ?_
          rintro e w3 ⟨vo, rfl, hpk, hk3⟩
          have hpw := hpk wo HI.out wo (Off.self E wo)
          have HBDo : Hid (∀ k, E k → k < wo.heap.size) := Lib.hid HI.out.bnd
          obtain ⟨pq, cq, hvo, -, hqc⟩ := hpw.out encU
          obtain ⟨m, hm⟩ : ∃ m, m = P.length := ⟨_, rfl⟩
          rw [← hm] at hvo
          subst hvo
          have HQC := Lib.hid hqc
          have HGD := Lib.hid hpw.good
          have HMP := Lib.hid hm
          have HM6 : Hid (m ≤ 65536) := Lib.hid (by have := HPL.out; omega)
          have HK3 := Lib.hid (HK2.out.then hk3)
          have HOL3 : Hid (w3.ownsRow wo.heap.size 33 1 (.slice (some ⟨wo.heap.size, 0, none⟩) 1 1) 1 (flatR uL [man])) := Lib.hid (own_stay HOL2.out (fun q hq => hk3.block q (HOL2.out.lt q hq).2))
          clear hpk hpw hqc hm hk3 CPK hgo2 c0 c1
          go_wp2
          go_loopg [8, 10] m (fun gh y8 y10 wq => ∃ (j : Nat) (KL : List Nat), j + gh = m ∧ y10 = .int .i64 j ∧ Hid (KL = (P.take j).foldl (addS per man) [man]) ∧ Hid (wq.ownsRow wo.heap.size 33 1 y8 KL.length (flatR uL KL)) ∧ Hid (∀ x ∈ KL, wfU x) ∧ Hid (Kept wo wq))
          case atStart => exact ⟨0, [man], by omega, rfl, Lib.hid rfl, HOL3, Lib.hid (fun x hx => by rw [List.mem_singleton.1 hx]; exact HMAN.out), HK3⟩
          case round =>
            obtain ⟨j, KL, hj, rfl, HKL, HOL, HLO, HKQ⟩ := hrel
            have HIQ := Lib.hid (HI.out.later HKQ.out)
            have c0 := HIQ.out.c0
            obtain ⟨pl, cl, htl, -, -⟩ := own_slice HOL.out
            obtain ⟨kl, hkl⟩ : ∃ x, x = KL.length := ⟨_, rfl⟩
            rw [← hkl] at htl HOL
            subst htl
            have HKLL := Lib.hid hkl
            have hkj : kl ≤ j + 1 := by
              have h1 := (foldS_len per man (P.take j) [man]).2
              rw [← HKL.out, ← hkl, List.length_take] at h1
              simp only [List.length_cons, List.length_nil] at h1
              omega
            by_cases hjm : j < m
            · have hji : (j : Int) < m := by omega
              have bj : decide ((j : Int) < (m : Int)) = true := by simpa using hji
              have hji0 : (0 : Int) ≤ j := by omega
              have hjP : j < P.length := by rw [← HMP.out]; exact hjm
              have hkt : (P.take (j + 1)).foldl (addS per man) [man] = addS per man KL P[j] := by
                rw [List.take_succ_eq_append_getElem hjP, List.foldl_append, ← HKL.out]; rfl
              rcases HQC.out with h0 | ⟨bq, om, rfl, hcm⟩
              · rw [h0] at hjP; omega
              have d1 := Kept.cell HKQ.out (hcm j hjP 0 _ rfl)
              rw [Nat.mul_one, Nat.add_zero] at d1
              have hwu := HGD.out _ (List.getElem_mem hjP)
              obtain ⟨xm, hxm⟩ : ∃ x, x = P[j] := ⟨_, rfl⟩
              rw [← hxm] at d1 hkt hwu
              have HWU : Hid (wfU xm) := Lib.hid hwu
              obtain ⟨j1, hj1⟩ : ∃ j1, j1 = j + 1 := ⟨_, rfl⟩
              have vj : IntKind.i64.wrap ((j : Int) + 1) = (j1 : Int) := by rw [show (j : Int) + 1 = (j1 : Int) by omega]; exact IntWalk.i64_in _ (by have := HM6.out; omega)
              have HJJ : Hid (j1 = j + 1 ∧ j + gk = m ∧ j < m ∧ kl ≤ j + 1) := Lib.hid ⟨hj1, hj, hjm, hkj⟩
              rw [← hj1] at hkt
              by_cases hxe : xm ≠ man ∧ (kl : Int) < per
              · have bx : ((xm : Int) != (man : Int)) = true := bne_iff_ne.2 (by have := hxe.1; omega)
                have bl : decide ((kl : Int) < per) = true := decide_eq_true hxe.2
                have bli : (kl : Int) < per := hxe.2
                have hadd : addS per man KL xm = KL ++ [xm] := if_pos ⟨hxe.1, by rw [← hkl]; exact hxe.2⟩
                have HKL1 : Hid (KL ++ [xm] = (P.take j1).foldl (addS per man) [man]) := Lib.hid (by rw [hkt, hadd])
                have HONE := Lib.hid (fun (W : World) => flat_rec encU W 33 xm HWU.out #[.int .u32 (xm : Nat)] rfl)
                clear hjP hkt hcm hwu hxm hj1 hj hjm hxe hadd hkl hkj
                go_wp2_with (at_builtin; refine wpList_append_flat rfl _ _ 44 rfl wo.heap.size 33 iu (.int .u32 0) 1 4 Try.underlying44 HIU.out HU0.out HU1.out HU2.out rfl (by decide) _ _ _ rfl (HOL.out.alloc _) _ 1 (uL xm) rfl (HONE.out _) ?qd2 ?qd3 ?qd4 ?_)
                case qd2 => have := HJJ.out; have := HM6.out; unfold maxLen; omega
                case qd3 => have := HJJ.out; have := HM6.out; omega
                case qd4 => have := HKQ.out.size; simp; omega
                intro v4 w9 hown hgrow _
                have HK9 : Hid (Kept wo w9) := Lib.hid (append_keptX HKQ.out (Nat.le_refl _) HOL.out hgrow)
                have HOL9 : Hid (w9.ownsRow wo.heap.size 33 1 v4 (KL ++ [xm]).length (flatR uL (KL ++ [xm]))) := Lib.hid (by rw [List.length_append, ← flatR_snoc, ← HKLL.out]; exact hown)
                have HLO9 : Hid (∀ x ∈ KL ++ [xm], wfU x) := Lib.hid (fun x hx => by
                  rcases List.mem_append.1 hx with y | y
                  · exact HLO.out x y
                  · rw [List.mem_singleton.1 y]; exact HWU.out)
                obtain ⟨pv', cv', htv', -, -⟩ := own_slice hown
                subst htv'
                clear hown hgrow
                go_wp2
                go_roundg (m - j1)
                · exact ⟨j1, KL ++ [xm], by have := HJJ.out; omega, by first | rfl | (have := HJJ.out; congr 1; omega), HKL1, HOL9, HLO9, HK9⟩
                · have := HJJ.out; omega
              · have hadd : addS per man KL xm = KL := if_neg (by rw [← hkl]; exact hxe)
                have HKL1 : Hid (KL = (P.take j1).foldl (addS per man) [man]) := Lib.hid (by rw [hkt, hadd])
                have HOLn : Hid (wr.ownsRow wo.heap.size 33 1 (.slice pl kl cl) KL.length (flatR uL KL)) := Lib.hid (by rw [← hkl]; exact HOL.out)
                by_cases hx1 : xm = man
                · have bx : ((xm : Int) != (man : Int)) = false := by simp [hx1]
                  clear hjP hkt hcm hwu hxm hj1 hj hjm hxe hadd hkl hkj hx1
                  go_wp2
                  go_roundg (m - j1)
                  · exact ⟨j1, KL, by have := HJJ.out; omega, by first | rfl | (have := HJJ.out; congr 1; omega), HKL1, HOLn, HLO, HKQ⟩
                  · have := HJJ.out; omega
                · have bx : ((xm : Int) != (man : Int)) = true := bne_iff_ne.2 (by omega)
                  have bli : ¬ (kl : Int) < per := fun e => hxe ⟨hx1, e⟩
                  have bl : decide ((kl : Int) < per) = false := decide_eq_false bli
                  clear hjP hkt hcm hwu hxm hj1 hj hjm hxe hadd hkl hkj hx1
                  go_wp2
                  go_roundg (m - j1)
                  · exact ⟨j1, KL, by have := HJJ.out; omega, by first | rfl | (have := HJJ.out; congr 1; omega), HKL1, HOLn, HLO, HKQ⟩
                  · have := HJJ.out; omega
            · have hji : ¬ (j : Int) < m := by omega
              have bj : decide ((j : Int) < (m : Int)) = false := by simpa using hji
              have hkl2 := HKL.out
              rw [List.take_of_length_le (by rw [← HMP.out]; omega)] at hkl2
              have HLS : Hid (KL = listS per man P) := Lib.hid hkl2
              have HG2 := Lib.hid (Kept.row HKQ.out HGO.out)
              obtain ⟨z, hz⟩ : ∃ z, z = atS (A'.map Prod.fst) h := ⟨_, rfl⟩
              have CAT := fun W (kw : Kept wr W) => Calls.kept_of'' kw (rat17_any E g per most A' tv' W (HIQ.out.later kw) HA6.out h HH32.out)
              rw [← HX.out, ← hz] at CAT
              have HZ := Lib.hid hz
              have hzw : (Lit.int .i64 z).wf = true := by
                rw [hz]
                unfold atS
                cases e : idxS (A'.map Prod.fst) h with
                | none => decide
                | some q =>
                  obtain ⟨hq, -⟩ := idxS_lt e
                  rw [List.length_map] at hq
                  have := HA6.out
                  show (Lit.int .i64 (q : Int)).wf = true
                  exact wf_of_leS _ (by omega) (by omega)
              have HZW := Lib.hid hzw
              have HBU := Lib.hid (built_row X pl kl cl HXS.out)
              obtain ⟨XE, hXE⟩ : ∃ x, x = X ++ #[.slice pl kl cl] := ⟨_, rfl⟩
              rw [← hXE] at HBU
              have HXE : Hid ((sxL ((h, KL), .slice pl kl cl)).toArray = XE) := Lib.hid (by
                rw [hXE, HX.out]
                apply Array.toList_inj.1
                unfold sxL
                simp)
              have hgo : g < wo.heap.size := (Array.getElem?_eq_some_iff.1 HI.out.row).1
              have HGO' := Lib.hid hgo
              clear hkl2 hz hzw hXE hkl hkj hjm hj hgo c0
              go_wp2_with fail
              refine wp_region_kept_tail 13 (by kernel_rfl) (by decide) (by kernel_rfl) (by kernel_rfl) ?_
              simp only [List.take_succ_cons, List.take_zero, List.drop_succ_cons, List.drop_zero]
              refine wpQuiet_pure (v := ?_) (by kernel_rfl) ?_ (fun K hK => ?_)
              case refine_2 => intro W _; go_simp; try with_reducible rfl
              go_simp
              refine hK _ ?_; clear hK K
              refine wpQuiet_pure (v := ?_) (by kernel_rfl) ?_ (fun K hK => ?_)
              case refine_2 => intro W _; go_simp; try with_reducible rfl
              go_simp
              refine hK _ ?_; clear hK K
              refine wpQuiet_pure (v := ?_) (by kernel_rfl) ?_ (fun K hK => ?_)
              case refine_2 => intro W _; go_simp; try with_reducible rfl
              go_simp
              refine hK _ ?_; clear hK K
              refine wpQuiet_pure (v := ?_) (by kernel_rfl) ?_ (fun K hK => ?_)
              case refine_2 => intro W _; go_simp; try with_reducible rfl
              go_simp
              refine hK _ ?_; clear hK K
              refine wpQuiet_pure (v := ?_) (by kernel_rfl) ?_ (fun K hK => ?_)
              case refine_2 => intro W hW; have e0 := IXS W; go_simp; try with_reducible rfl
              go_simp
              refine hK _ ?_; clear hK K
              refine wpQuiet_load_sub (by kernel_rfl) _ _ rfl b2 (o2 + k * 32) 32 rfl t2 cs2 fr2 _ (fun _ h => h.row HG2.out) Try.underlying47 rfl infoFp _ HE2.out (fun K hK => ?_)
              go_simp
              refine hK _ ?_; clear hK K
              refine wpQuiet_call (by kernel_rfl) _ _ _ (fun W => by go_simp) (fun W h => CAT W h) (fun K hK => ?_)
              go_simp
              refine hK _ ?_; clear hK K
              refine wpQuiet_pure (v := ?_) (by kernel_rfl) ?_ (fun K hK => ?_)
              case refine_2 => intro W _; go_simp; try with_reducible rfl
              go_simp
              refine hK _ ?_; clear hK K
              refine wpQuiet_pure (v := ?_) (by kernel_rfl) ?_ (fun K hK => ?_)
              case refine_2 => intro W _; go_simp; try with_reducible rfl
              go_simp
              refine hK _ ?_; clear hK K
              refine wpQuiet_pure (v := ?_) (by kernel_rfl) ?_ (fun K hK => ?_)
              case refine_2 => intro W hW; have e0 := IXS W; go_simp; try with_reducible rfl
              go_simp
              refine hK _ ?_; clear hK K
              refine wpQuiet_load_sub (by kernel_rfl) _ _ rfl b2 (o2 + k * 32) 32 rfl t2 cs2 fr2 _ (fun _ h => h.row HG2.out) Try.underlying47 rfl infoFp _ HE2.out (fun K hK => ?_)
              go_simp
              refine hK _ ?_; clear hK K
              refine wpQuiet_pure (v := ?_) (by kernel_rfl) ?_ (fun K hK => ?_)
              case refine_2 => intro W _; go_simp; try with_reducible rfl
              go_simp
              refine hK _ ?_; clear hK K
              refine wpQuiet_build (by kernel_rfl) _ _ rfl [(0, .agg X), (1, .slice pl kl cl)] (by first | go_simp | (simp; done) | (simp; rfl)) XE HBU.out (fun K hK => ?_)
              go_simp
              refine hK _ ?_; clear hK K
              refine wpQuiet_nil ?_
              intro w3 hk3
              have HI4 := Lib.hid (HIQ.out.later hk3)
              have HOL4 := Lib.hid (own_stay HOL.out (fun q hq => hk3.block q (HOL.out.lt q hq).2))
              have CLS := rlast17_any E g per most A' tv' w3 HI4.out HA6.out z HZW.out (h, KL) (.slice pl kl cl) HH32.out (fun W hW => RowsAt.own encU HLO.out (by
                rw [← HKLL.out]
                exact own_stay HOL4.out (fun q hq => hW q (fun e => by have := (HOL4.out.lt q hq).1; have := HBDo.out q e; omega) (HOL4.out.lt q hq).2))) rfl
              rw [HXE.out] at CLS
              have HK4 : Hid (Kept wo w3) := Lib.hid ((show Kept wo wr from HKQ.out).then hk3)
              clear hk3 CAT IXS
              go_wp2_with fail
              refine CLS.mono ?_
              rintro e w4 ⟨rfl, ⟨A2, tv2, hix2, hmap2⟩, hb2⟩
              have HT2 : Hid (trimS most (A2.map Prod.fst) = (S.take k1).foldl (putOne per most man) R) := Lib.hid (by
                rw [hmap2, HFT.out]
                unfold putOne
                rw [← HP.out, ← HZ.out, HLS.out])
              have hps2 : PosS (A2.map Prod.fst) := by
                rw [hmap2]
                exact HPOS'.out.last _ (by show 1 ≤ KL.length; rw [HLS.out]; exact listS_pos per man P)
              have hln2 : lenS (A2.map Prod.fst) ≤ 65537 := by
                have h1 := one_len per man (A'.map Prod.fst) h
                rw [← HP.out, ← HZ.out, ← HLS.out, ← hmap2] at h1
                have h2 := HLN'.out
                have h3 := HPM.out
                omega
              have HPS2 := Lib.hid hps2
              have HLN2 := Lib.hid hln2
              have HIX2 := Lib.hid hix2
              have HB2 : Hid (ButBy (fun m => m = g) W1 w4) := Lib.hid (HB.out.trans (hb2.after HK4.out))
              clear hmap2 hps2 hln2 hix2 hb2 CLS
              go_wp2
              go_loopg [84] A2.length (fun gh y84 wq => ∃ (A3 : List (SRow × Value)) (tv3 : Value), A3.length = gh ∧ y84 = y84 ∧ Hid (trimS most (A3.map Prod.fst) = (S.take k1).foldl (putOne per most man) R) ∧ Hid (PosS (A3.map Prod.fst)) ∧ Hid (lenS (A3.map Prod.fst) ≤ 65537) ∧ Hid (IxAt E g per most A3 tv3 wq) ∧ Hid (ButBy (fun m => m = g) W1 wq))
              case atStart => exact ⟨A2, tv2, rfl, rfl, HT2, HPS2, HLN2, HIX2, HB2⟩
              case round =>
                obtain ⟨A3, tv3, hgl, -, HT3, HPS3, HLN3, HIX3, HB3⟩ := hrel
                have hA36 : A3.length ≤ 65537 := by
                  have h1 := HPS3.out.count
                  rw [List.length_map] at h1
                  have h2 := HLN3.out
                  omega
                have HA36 := Lib.hid hA36
                have HGL := Lib.hid hgl
                have c1 := HIX3.out.c1
                have CLN := fun W (kw : Kept wr W) => Calls.kept_of'' kw (rlen17_any E g per most A3 tv3 W (HIX3.out.later kw) (by have := HLN3.out; omega) (by have := HA36.out; omega))
                obtain ⟨nl, hnl⟩ : ∃ x, x = lenS (A3.map Prod.fst) := ⟨_, rfl⟩
                rw [← hnl] at CLN
                have HNLE := Lib.hid hnl
                clear hA36 hgl hnl
                go_wp2_with fail
                refine wp_region_kept (by kernel_rfl) (by kernel_rfl) ?_
                refine wpQuiet_pure (v := ?_) (by kernel_rfl) ?_ (fun K hK => ?_)
                case refine_2 => intro W _; go_simp; try with_reducible rfl
                go_simp
                refine hK _ ?_; clear hK K
                refine wpQuiet_call (by kernel_rfl) _ _ _ (fun W => by go_simp) (fun W h => CLN W h) (fun K hK => ?_)
                go_simp
                refine hK _ ?_; clear hK K
                refine wpQuiet_pure (v := ?_) (by kernel_rfl) ?_ (fun K hK => ?_)
                case refine_2 => intro W _; go_simp; try with_reducible rfl
                go_simp
                refine hK _ ?_; clear hK K
                refine wpQuiet_pure (v := ?_) (by kernel_rfl) ?_ (fun K hK => ?_)
                case refine_2 => intro W _; go_simp; try with_reducible rfl
                go_simp
                refine hK _ ?_; clear hK K
                refine wpQuiet_pure (v := ?_) (by kernel_rfl) ?_ (fun K hK => ?_)
                case refine_2 => intro W _; go_simp; try with_reducible rfl
                go_simp
                refine hK _ ?_; clear hK K
                refine wpQuiet_load_int (by kernel_rfl) _ _ rfl ⟨g, 1, none⟩ rfl _ Try.underlying3 _ (fun _ h => h.cell c1) (fun K hK => ?_)
                go_simp
                refine hK _ ?_; clear hK K
                refine wpQuiet_pure (v := ?_) (by kernel_rfl) ?_ (fun K hK => ?_)
                case refine_2 => intro W _; go_simp; try with_reducible rfl
                go_simp
                refine hK _ ?_; clear hK K
                refine wpQuiet_nil ?_
                intro w5 hk5
                have HIX5 := Lib.hid (HIX3.out.later hk5)
                have HB5 := Lib.hid (HB3.out.then_kept hk5)
                clear hk5 CLN c1
                by_cases hgt : most < (nl : Int)
                · have bg : decide ((nl : Int) > most) = true := decide_eq_true hgt
                  have bgi : most < (nl : Int) := hgt
                  obtain ⟨p3, c3, h3⟩ := HIX5.out.in_.cut
                  subst h3
                  have hA1 : 1 ≤ A3.length := by
                    rcases Nat.eq_zero_or_pos A3.length with e | e
                    · have e2 : A3 = [] := List.length_eq_zero_iff.1 e
                      have e3 := HNLE.out
                      rw [e2] at e3
                      simp [lenS] at e3
                      have := HPM.out
                      omega
                    · exact e
                  obtain ⟨n3, hn3⟩ : ∃ x, x = A3.length := ⟨_, rfl⟩
                  rw [← hn3] at HIX5
                  obtain ⟨v2, CUT, hrest⟩ := RowsAt.rest (P := Try.prog) encSx Try.underlying30 (fun w => Try.sizeOf73 w) HIX5.out.in_.rows hn3 (by omega)
                  obtain ⟨p4, c4, hv2, -, -⟩ := hrest.out encSx
                  obtain ⟨A4, hA4⟩ : ∃ x, x = A3.drop 1 := ⟨_, rfl⟩
                  rw [← hA4] at hrest hv2
                  have HA4 := Lib.hid hA4
                  obtain ⟨m4, hm4⟩ : ∃ x, x = A4.length := ⟨_, rfl⟩
                  rw [← hm4] at hv2
                  subst hv2
                  have HRS := Lib.hid hrest
                  have HM4 := Lib.hid hm4
                  have hm5 : m4 ≤ 65537 := by rw [hm4, hA4, List.length_drop]; have := HA36.out; omega
                  have HM5 := Lib.hid hm5
                  have htr : trimS most ((A3.drop 1).map Prod.fst) = (S.take k1).foldl (putOne per most man) R := by
                    rw [← HT3.out]
                    have hnl := HNLE.out
                    match A3, hA1 with
                    | a :: rest, _ =>
                      show trimS most (rest.map Prod.fst) = trimS most (a.1 :: rest.map Prod.fst)
                      have e : trimS most (a.1 :: rest.map Prod.fst) = if most < (lenS (a.1 :: rest.map Prod.fst) : Int) then trimS most (rest.map Prod.fst) else a.1 :: rest.map Prod.fst := rfl
                      rw [e, if_pos (by rw [hnl] at hgt; exact hgt)]
                  have HTR : Hid (trimS most (A4.map Prod.fst) = (S.take k1).foldl (putOne per most man) R) := Lib.hid (by rw [hA4]; exact htr)
                  have HPS4 : Hid (PosS (A4.map Prod.fst)) := Lib.hid (fun r hr => HPS3.out r (by rw [hA4, List.map_drop] at hr; exact List.mem_of_mem_drop hr))
                  have HLN4 : Hid (lenS (A4.map Prod.fst) ≤ 65537) := Lib.hid (by
                    have h1 := lenS_append ((A3.map Prod.fst).take 1) ((A3.map Prod.fst).drop 1)
                    rw [List.take_append_drop] at h1
                    rw [hA4, List.map_drop]
                    have := HLN3.out
                    omega)
                  have HGK : Hid (A4.length < gk) := Lib.hid (by rw [hA4, List.length_drop, ← HGL.out]; omega)
                  have e2 := HIX5.out.c2
                  have e2' := (HIX5.out.later (box_below w5 (.cells #[] 73))).c2
                  have HGW5 : Hid (g < w5.heap.size) := Lib.hid (Array.getElem?_eq_some_iff.1 HIX5.out.row).1
                  clear hA1 hn3 hrest hm4 hm5 htr hgt hA4
                  go_wp2_with (at_builtin; refine wpList_append_flat rfl _ _ 30 rfl w5.heap.size 73 ir zr 33 56 Try.underlying30 HIR.out HZ0.out HZ1.out HZ2.out HZS.out (by decide) _ 0 [] rfl (World.ownsRow_made w5 #[] 0 (Nat.le_refl _) (Nat.zero_le _) rfl) _ m4 (flatR sxL A4) rfl ?qf1 ?qf2 ?qf3 ?qf4 ?_)
                  case qf1 =>
                    have hfl := HRS.out.at_.later (box_below w5 (.cells #[] 73))
                    rw [← HM4.out] at hfl
                    exact hfl
                  case qf2 => have := HM5.out; unfold maxLen; omega
                  case qf3 => have := HM5.out; omega
                  case qf4 => simp
                  intro v5 w9 hown hgrow _
                  have hkb : Kept w5 (w5.alloc (.cells #[] 73)) := box_below _ _
                  have HK9 : Hid (Kept w5 w9) := Lib.hid (ButBy.kept (Bs := fun q => q = w5.heap.size) ⟨hgrow.os, hgrow.tape, hgrow.output, hgrow.size, fun q hq hne => hgrow.block q hq (fun e => hne (Option.some.inj e))⟩ (fun q hq => by omega) hkb hkb.size)
                  have HI9 := Lib.hid (HIX5.out.later HK9.out)
                  have f2 := HI9.out.c2
                  have ff2 := frozen_of_row w9 g 2 _ _ HI9.out.row
                  replace hown : w9.ownsRow w5.heap.size 73 33 v5 m4 (flatR sxL A4) := by simpa using hown
                  obtain ⟨p5, c5, hv5, -, -⟩ := own_slice hown
                  subst hv5
                  have HO9 := Lib.hid hown
                  have HBX : Hid (ButBy (fun q => q = g) W1 (w9.setCell ⟨g, 2, none⟩ (.slice p5 m4 c5))) := Lib.hid ((HB5.out.then_kept HK9.out).setCell g 2 _ rfl)
                  have HIX9 : Hid (IxAt E g per most A4 (.slice p5 m4 c5) (w9.setCell ⟨g, 2, none⟩ (.slice p5 m4 c5))) := Lib.hid (by
                    have hbut : ButBy (fun q => q = g) w5 (w9.setCell ⟨g, 2, none⟩ (.slice p5 m4 c5)) := (ButBy.below HK9.out).setCell g 2 _ rfl
                    refine ⟨heap_setCell_same w9 g 2 _ _ _ HI9.out.row, fun W hW => ?_, HIX5.out.mem, fun j hj => Nat.lt_of_lt_of_le (HIX5.out.bnd j hj) hbut.size⟩
                    have hin := HIX5.out.rows W ((Off.of_but HIX5.out.mem hbut).trans hbut.size hW)
                    refine ⟨fun a ha => hin.each a (List.mem_of_mem_drop (by rw [← HA4.out]; exact ha)), RowsAt.own (base := w5.heap.size) (e := 73) encSx (fun a ha => hin.rows.good a (List.mem_of_mem_drop (by rw [← HA4.out]; exact ha))) ?_⟩
                    rw [← HM4.out]
                    refine own_stay HO9.out (fun q hq => ?_)
                    have h1 := HO9.out.lt q hq
                    have h2 := HGW5.out
                    have hne : q ≠ g := by omega
                    rw [hW q (fun e => by have := HIX5.out.bnd q e; omega) (by show q < (w9.heap.modify _ _).size; rw [Array.size_modify]; exact h1.2), heap_setCell_other _ _ _ _ hne])
                  clear hown hgrow hkb e2 e2'
                  go_wp2
                  go_roundg (A4.length)
                  · exact ⟨A4, _, rfl, by trivial, HTR, HPS4, HLN4, HIX9, HBX⟩
                  · exact HGK.out
                · have bg : decide ((nl : Int) > most) = false := decide_eq_false hgt
                  have bgi : ¬ most < (nl : Int) := hgt
                  have hid3 := trim_id (most := most) (A3.map Prod.fst) (by rw [← HNLE.out]; omega)
                  have HMAPn : Hid (A3.map Prod.fst = (S.take k1).foldl (putOne per most man) R) := Lib.hid (by rw [← HT3.out, hid3])
                  have HLNn : Hid ((lenS (A3.map Prod.fst) : Int) ≤ most) := Lib.hid (by rw [← HNLE.out]; omega)
                  clear hid3 hgt
                  go_wp2
                  go_roundg (n - k1)
                  · exact ⟨k1, A3, tv3, by have := HKK.out; omega, by first | rfl | (have := HKK.out; congr 1; omega), Lib.hid (fun _ => HPP.out), HMAPn, HPS3, HLNn, HIX5, HB5⟩
                  · have := HKK.out; omega
        · have bm : decide (most > 0) = false := decide_eq_false hm0
          have HFIN : Hid (A'.map Prod.fst = RES) := Lib.hid (by
            rw [HRES.out]
            unfold putS
            have hk0 : k = 0 := Nat.eq_zero_of_not_pos (fun h => hm0 (HPK.out h).2)
            rw [if_neg (fun h => hm0 h.2), HMAP.out, hk0]
            rfl)
          clear hm0 hp0 hk hlt DONE
          go_wp2
          go_end0
          first | exact ⟨rfl, ⟨A', tv', HI.out, HFIN.out⟩, HB.out.after HK1.out⟩ | exact ⟨rfl, ⟨A', ⟨tv', HI.out⟩, HFIN.out⟩, HB.out.after HK1.out⟩
      · have bp : decide (per > 0) = false := decide_eq_false hp0
        have HFIN : Hid (A'.map Prod.fst = RES) := Lib.hid (by
          rw [HRES.out]
          unfold putS
          have hk0 : k = 0 := Nat.eq_zero_of_not_pos (fun h => hp0 (HPK.out h).1)
          rw [if_neg (fun h => hp0 h.1), HMAP.out, hk0]
          rfl)
        clear hp0 hk hlt DONE
        go_wp2
        go_end0
        first | exact ⟨rfl, ⟨A', tv', HI.out, HFIN.out⟩, HB.out.after HK1.out⟩ | exact ⟨rfl, ⟨A', ⟨tv', HI.out⟩, HFIN.out⟩, HB.out.after HK1.out⟩
    · have hki : ¬ (k : Int) < n := by omega
      have bk : decide ((k : Int) < (n : Int)) = false := by simpa using hki
      have hkn : k = n := by omega
      have HFIN : Hid (A'.map Prod.fst = RES) := Lib.hid (by
        rw [HRES.out]
        unfold putS
        have hst : S.take k = S := List.take_of_length_le (by rw [hkn, HNS.out.1]; exact Nat.le_refl _)
        rw [HMAP.out, hst, ← HS.out]
        by_cases h0 : 0 < k
        · rw [if_pos (HPK.out h0)]
        · have hsn : S = [] := List.length_eq_zero_iff.1 (by rw [← HNS.out.1]; omega)
          rw [hsn]
          split <;> rfl)
      clear hkn hk hlt DONE
      go_wp2
      go_end0
      first | exact ⟨rfl, ⟨A', tv', HI.out, HFIN.out⟩, HB.out.after HK1.out⟩ | exact ⟨rfl, ⟨A', ⟨tv', HI.out⟩, HFIN.out⟩, HB.out.after HK1.out⟩

end Go.Proofs.Ytaajadmaamjebaa
