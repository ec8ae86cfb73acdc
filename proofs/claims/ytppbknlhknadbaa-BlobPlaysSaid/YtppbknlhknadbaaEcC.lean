/- The landed extent's Common. -/
import Derived.Test.YtppbknlhknadbaaGO
import Derived.ScopeJumps
import Derived.Scope
namespace Go.Proofs.Ytppbknlhknadbaa
open Go.RowKit

/-- A scope through which the run comes back to one label, a measure falling. -/
theorem wp_scope_loop {P : Program} {a : Act} {w : World} {Q : Exit → Act → World → Prop} {c rest : Code} (l : Nat) (J : Act → World → Prop) (μ : Act → World → Nat) (hf : findLabel c l = some (Code.skip.seq rest))
    (enter : ∀ Q', (∀ a w, J a w → rest.wp P Q' a w) → c.wp P Q' a w)
    (pass : ∀ a w, J a w → rest.wp P (Exit.jump l (fun a' w' => J a' w' ∧ μ a' w' < μ a w) Q) a w) : (Code.scope c).wp P Q a w := by
  refine wp_scope_jumps l J μ hf (enter _ fun a w h => wp_mono (pass a w h) ?_) (fun a w h => wp_seq (wp_skip (pass a w h)))
  intro e a w hq
  cases e with
  | goto l' => exact ⟨hq.1, hq.2.1⟩
  | _ => exact hq

def sliceLen : Value → Nat
  | .slice _ n _ => n
  | _ => 0

/-- A slice of runs from its second one on. -/
theorem run_slice_two {P : Program} (w : World) (t e : TypeId) (b o N c : Nat) (p2 : Option Addr) (ht : P.underlying t = some (.slice e)) (hs : (P.info? e).map (·.size) = some 2) (h1 : 1 ≤ N) (h2 : N ≤ c)
    (hp : (if c = 1 then some (⟨b, o, none⟩ : Addr) else some ⟨b, o + 2, none⟩) = p2) :
    (Instr.sliceAt t (.slice (some ⟨b, o, none⟩) N c) (some (.int .i64 1)) none none).run P w = .ok (.slice p2 (N - 1) (c - 1)) w := by
  subst hp
  cases hq : P.info? e with
  | none => simp [hq] at hs
  | some ti =>
    have h3 : ti.size = 2 := by simpa [hq] using hs
    have hadd : (⟨b, o, none⟩ : Addr).add 2 = ⟨b, o + 2, none⟩ := by unfold Addr.add; split <;> simp_all
    have h4 : (1 : Int) ≤ N := by omega
    have h5 : ¬ ((c : Int) < N) := by omega
    simp [Instr.sliceAt, Instr.slice, run_underlying ht, Instr.sliceBounds, Instr.sliceBound, asIntOf, sizeOf, typeInfo, hq, h3, hadd, h4]
    try (split <;> simp_all)
theorem RunsAt.tail {r : Int × Int} {l : List (Int × Int)} {b o c : Nat} {w : World} (h : RunsAt (r :: l) (.slice (some ⟨b, o, none⟩) (l.length + 1) c) w) (p2 : Option Addr)
    (hp : (if c = 1 then some (⟨b, o, none⟩ : Addr) else some ⟨b, o + 2, none⟩) = p2) : RunsAt l (.slice p2 l.length (c - 1)) w := by
  have hcap := h.cap _ _ _ rfl
  refine RunsAt.of_cells (fun s hs => h.wf s (List.mem_cons_of_mem _ hs)) p2 (c - 1) (by omega) ?_
  obtain ⟨h1, h2, p, c', he, hc⟩ := h.at_
  rcases hc with h0 | ⟨b', o', hp', hc⟩
  · simp at h0
  · simp only [Value.slice.injEq] at he
    rw [← he.1] at hp'
    have hp2 := Option.some.inj hp'
    simp only [Addr.mk.injEq] at hp2
    obtain ⟨rfl, rfl, -⟩ := hp2
    by_cases hl : l.length = 0
    · exact Or.inl hl
    · rw [if_neg (by omega)] at hp
      refine Or.inr ⟨b, o + 2, hp.symm, fun j x hx => ?_⟩
      rw [show o + 2 + j = o + (j + 2) by omega]
      refine hc (j + 2) x ?_
      have e : runC (r :: l) = [Value.int .i64 r.1, Value.int .i64 r.2] ++ runC l := rfl
      rw [e, List.getElem?_append_right (by simp)]
      simpa using hx
theorem RunsAt.head {r : Int × Int} {l : List (Int × Int)} {p : Option Addr} {n c : Nat} {w : World} (h : RunsAt (r :: l) (.slice p n c) w) :
    n = l.length + 1 ∧ n ≤ c ∧ ∃ b o, p = some ⟨b, o, none⟩ ∧ w.cell? ⟨b, o, none⟩ = some (.int .i64 r.1) ∧ w.cell? ⟨b, o + 1, none⟩ = some (.int .i64 r.2) := by
  obtain ⟨p', c', he, hcap, hc⟩ := h.out
  simp only [Value.slice.injEq] at he
  obtain ⟨rfl, rfl, rfl⟩ := he
  refine ⟨rfl, hcap, ?_⟩
  rcases hc with h0 | ⟨b, o, rfl, hc⟩
  · simp at h0
  · have h1 := hc 0 (by simp)
    simp only [Nat.zero_mul, Nat.add_zero, List.getElem_cons_zero] at h1
    exact ⟨b, o, rfl, h1.1, h1.2⟩

/-- The frame at the label. -/
def CmnAt (f : Nat → Bool) (w0 : World) (a : Act) (w : World) : Prop :=
  ∃ (lp lq C : List (Int × Int)) (vb : Value) (pp pq : Option Addr) (np nq cp cq : Nat) (u0 u1 u2 u3 u4 u8 u9 u10 u11 u12 u13 u14 u15 u16 u17 u18 u19 u20 u21 u22 u23 u24 u25 u26 u27 u28 u29 u30 u31 u32 u33 u34 u35 u36 u37 u38 u39 u40 u41 u42 u43 u44 u45 u46 u47 u48 u49 u50 u51 u52 u53 u54 u55 u56 u57 u58 u59 u60 : Value), a = { tmps := (u0 :: u1 :: u2 :: u3 :: u4 :: .slice pp np cp :: .slice pq nq cq :: vb :: u8 :: u9 :: u10 :: u11 :: u12 :: u13 :: u14 :: u15 :: u16 :: u17 :: u18 :: u19 :: u20 :: u21 :: u22 :: u23 :: u24 :: u25 :: u26 :: u27 :: u28 :: u29 :: u30 :: u31 :: u32 :: u33 :: u34 :: u35 :: u36 :: u37 :: u38 :: u39 :: u40 :: u41 :: u42 :: u43 :: u44 :: u45 :: u46 :: u47 :: u48 :: u49 :: u50 :: u51 :: u52 :: u53 :: u54 :: u55 :: u56 :: u57 :: u58 :: u59 :: u60 :: []).toArray, defers := [] } ∧
    ∃ w2, Hid (Kept w0 w2) ∧ Hid (CInv f C lp lq) ∧ Hid (np = lp.length) ∧ Hid (nq = lq.length) ∧ Hid (RunsAt lp (.slice pp np cp) w2) ∧ Hid (RunsAt lq (.slice pq nq cq) w2) ∧ Hid (w.ownsRow w2.heap.size 66 2 vb C.length (runC C)) ∧ Hid (Kept w2 w)

set_option maxRecDepth 100000 in
set_option maxHeartbeats 8000000 in
theorem ecommon_any (la lb : List (Int × Int)) (u v : Value) (w : World) (ha : RunsAt la u w) (hb : RunsAt lb v w) (hla : la.length ≤ 1048576) (hlb : lb.length ≤ 1048576) :
    Calls Try.prog 56 #[u, v] w fun e w' => ∃ x, e = .returned x ∧ OwnRuns w.heap.size (runsA (fun k => hasR la k && hasR lb k)) x w' ∧ Below w.heap.size w w' := by
  obtain ⟨ir, hir, hx⟩ := Option.map_eq_some_iff.1 infoRun
  simp only [Prod.mk.injEq] at hx
  obtain ⟨hz0, hz1, hz2⟩ := hx
  have HIR := Lib.hid hir
  have HZ0 := Lib.hid hz0
  have HZ1 := Lib.hid hz1
  have HZ2 := Lib.hid hz2
  have HFI : Hid ((Try.prog.info? 66).map (·.size) = some 2) := Lib.hid (by rw [hir]; simp [hz1])
  clear hir hz0 hz1 hz2
  have PA := eplain_any la u w ha hla
  have PB := fun W (k : Kept w W) => eplain_any lb v W (hb.later k) hlb
  obtain ⟨pa, ca, rfl, -, -⟩ := ha.out
  obtain ⟨pb, cb, rfl, -, -⟩ := hb.out
  have HPA : Hid (PlainL (runsA (hasR la))) := Lib.hid (runsA_plain _)
  have HPB : Hid (PlainL (runsA (hasR lb))) := Lib.hid (runsA_plain _)
  have HE : Hid (runsA (fun k => hasR (runsA (hasR la)) k && hasR (runsA (hasR lb)) k) = runsA (fun k => hasR la k && hasR lb k)) := Lib.hid (runsA_congr fun k hk => by rw [runsA_has _ k hk, runsA_has _ k hk])
  obtain ⟨n, hn⟩ : ∃ n, n = la.length := ⟨_, rfl⟩
  obtain ⟨m, hm⟩ : ∃ m, m = lb.length := ⟨_, rfl⟩
  rw [← hn] at PA ⊢
  rw [← hm] at PB ⊢
  obtain ⟨A, hA⟩ : ∃ A, A = runsA (hasR la) := ⟨_, rfl⟩
  obtain ⟨B, hB⟩ : ∃ B, B = runsA (hasR lb) := ⟨_, rfl⟩
  rw [← hA] at PA HPA HE
  rw [← hB] at PB HPB HE
  obtain ⟨R, hR⟩ : ∃ R, R = runsA (fun k => hasR la k && hasR lb k) := ⟨_, rfl⟩
  rw [← hR] at HE ⊢
  clear ha hb hla hlb hn hm hA hB hR
  go_enter Try.func56, Try.ntmps56
  go_wp2
  refine wp_scope_loop 0 (CmnAt (fun k => hasR A k && hasR B k) w) (fun a' _ => sliceLen (a'.tmps.getD 5 undef) + sliceLen (a'.tmps.getD 6 undef)) rfl ?_ ?_
  · intro Q' hq
    have HQ := Lib.hid hq
    clear hq
    go_wp2_with fail
    refine PA.mono ?_
    rintro e w1 ⟨x, rfl, ho1, hb1⟩
    have PB1 := PB w1 hb1
    obtain ⟨p1, c1, rfl, hc1, -⟩ := own_slice ho1
    have HA1 : Hid (RunsAt A (.slice p1 A.length c1) w1) := Lib.hid (ho1.at_ HPA.out.wf)
    have HK1 := Lib.hid hb1
    clear PA PB ho1 hb1
    go_wp2_with fail
    refine PB1.mono ?_
    rintro e w2 ⟨x, rfl, ho2, hb2⟩
    obtain ⟨p2, c2, rfl, hc2, -⟩ := own_slice ho2
    have HB2 : Hid (RunsAt B (.slice p2 B.length c2) w2) := Lib.hid (ho2.at_ HPB.out.wf)
    have HA2 : Hid (RunsAt A (.slice p1 A.length c1) w2) := Lib.hid (HA1.out.later hb2)
    have HK2 : Hid (Kept w w2) := Lib.hid ((show Kept w w1 from HK1.out).then hb2)
    have HC0 := Lib.hid (CInv.start HPA.out HPB.out)
    clear PB1 ho2 hb2 HA1
    go_wp2
    go_step3
    rename_i K hK
    refine hK _ _ (HQ.out _ _ ⟨A, B, [], .slice none 0 0, p1, p2, _, _, c1, c2, _, _, _, _, _, _, _, _, _, _, _, _, _, _, _, _, _, _, _, _, _, _, _, _, _, _, _, _, _, _, _, _, _, _, _, _, _, _, _, _, _, _, _, _, _, _, _, _, _, _, _, _, _, _, _, _, _, _, rfl, w2, HK2, HC0, Lib.hid rfl, Lib.hid rfl, HA2, HB2, Lib.hid (World.ownsRow_nil _ _ _ _), Lib.hid (Kept.refl w2)⟩)
  · rintro a' w' ⟨lp, lq, C, vb, pp, pq, np, nq, cp, cq, u0, u1, u2, u3, u4, u8, u9, u10, u11, u12, u13, u14, u15, u16, u17, u18, u19, u20, u21, u22, u23, u24, u25, u26, u27, u28, u29, u30, u31, u32, u33, u34, u35, u36, u37, u38, u39, u40, u41, u42, u43, u44, u45, u46, u47, u48, u49, u50, u51, u52, u53, u54, u55, u56, u57, u58, u59, u60, rfl, w2, HK2, HC, HNP, HNQ, HP, HQ, HO, HK⟩
    obtain ⟨pv, cv, hv, hcv, -⟩ := own_slice HO.out
    subst hv
    have HLEN : Hid (C.length ≤ 8192) := Lib.hid (by rw [plain_runsA HC.out.pc fun _ _ => rfl]; exact runsA_len _)
    match lp, lq, HC, HNP, HNQ, HP, HQ with
    | [], lq, HC, HNP, HNQ, HP, HQ =>
      obtain rfl : np = 0 := HNP.out
      have HF : Hid (OwnRuns w.heap.size R (.slice pv C.length cv) w') := Lib.hid (by
        have h := HC.out.done (Or.inl rfl)
        rw [HE.out] at h
        rw [← h]
        exact OwnRuns.base HO.out HK2.out.size)
      have HKF : Hid (Kept w w') := Lib.hid (HK2.out.then HK.out)
      obtain ⟨nc, hnc⟩ : ∃ nc, nc = C.length := ⟨_, rfl⟩
      rw [← hnc] at HF ⊢
      clear hnc
      go_wp2
      simp only [Exit.jump]
      go_ret
      exact ⟨_, rfl, HF.out, HKF.out⟩
    | r :: lp, [], HC, HNP, HNQ, HP, HQ =>
      obtain rfl : nq = 0 := HNQ.out
      have HF : Hid (OwnRuns w.heap.size R (.slice pv C.length cv) w') := Lib.hid (by
        have h := HC.out.done (Or.inr rfl)
        rw [HE.out] at h
        rw [← h]
        exact OwnRuns.base HO.out HK2.out.size)
      have HKF : Hid (Kept w w') := Lib.hid (HK2.out.then HK.out)
      obtain ⟨nc, hnc⟩ : ∃ nc, nc = C.length := ⟨_, rfl⟩
      have hnp0 : 0 < np := by rw [HNP.out]; simp
      rw [← hnc] at HF ⊢
      have bp : ((np : Int) == 0) = false := by rw [beq_eq_false_iff_ne]; omega
      clear hnc
      go_wp2
      simp only [Exit.jump]
      go_ret
      exact ⟨_, rfl, HF.out, HKF.out⟩
    | r :: lp, s :: lq, HC, HNP, HNQ, HP, HQ =>
      have ehp := HP.out.head
      have ehq := HQ.out.head
      have nr := HC.out.pp.nat r (List.mem_cons_self ..)
      have ns := HC.out.pq.nat s (List.mem_cons_self ..)
      obtain ⟨hnp, hcp, bp, op, rfl, e1, e2⟩ := ehp
      obtain ⟨hnq, hcq, bq, oq, rfl, g1, g2⟩ := ehq
      have e1 := HK.out.cell e1
      have e2 := HK.out.cell e2
      have g1 := HK.out.cell g1
      have g2 := HK.out.cell g2
      obtain ⟨x, y⟩ := r
      obtain ⟨x2, y2⟩ := s
      simp only at nr ns e1 e2 g1 g2
      have nr1 := nr.1
      have nr2 := nr.2.1
      have nr3 := nr.2.2
      have ns1 := ns.1
      have ns2 := ns.2.1
      have ns3 := ns.2.2
      have HT1 : Hid (∀ p2, (if cp = 1 then some (⟨bp, op, none⟩ : Addr) else some ⟨bp, op + 2, none⟩) = p2 → RunsAt lp (.slice p2 lp.length (cp - 1)) w2) := Lib.hid (fun p2 h => RunsAt.tail (by rw [← hnp]; exact HP.out) p2 h)
      have HT2 : Hid (∀ p2, (if cq = 1 then some (⟨bq, oq, none⟩ : Addr) else some ⟨bq, oq + 2, none⟩) = p2 → RunsAt lq (.slice p2 lq.length (cq - 1)) w2) := Lib.hid (fun p2 h => RunsAt.tail (by rw [← hnq]; exact HQ.out) p2 h)
      have hnp0 : 0 < np := by omega
      have hnq0 : 0 < nq := by omega
      have bp0 : ((np : Int) == 0) = false := by rw [beq_eq_false_iff_ne]; omega
      have bq0 : ((nq : Int) == 0) = false := by rw [beq_eq_false_iff_ne]; omega
      have ip : (0 : Int) < np := by omega
      have iq : (0 : Int) < nq := by omega
      obtain ⟨z, hz⟩ : ∃ z, z = x + y := ⟨_, rfl⟩
      obtain ⟨z2, hz2⟩ : ∃ z2, z2 = x2 + y2 := ⟨_, rfl⟩
      have EP := fun W => eend_any x y ⟨by omega, by omega⟩ W
      have EQ := fun W => eend_any x2 y2 ⟨by omega, by omega⟩ W
      rw [← hz] at EP nr3
      rw [← hz2] at EQ ns3
      have hzx : x < z := by omega
      have hzx2 : x2 < z2 := by omega
      obtain ⟨nc, hnc⟩ : ∃ nc, nc = C.length := ⟨_, rfl⟩
      have ho := HO.out
      have hcl := HLEN.out
      rw [← hnc] at ho hcl ⊢
      have HNC := Lib.hid hnc
      have HOW := Lib.hid ho
      obtain ⟨np1, hnp1⟩ : ∃ np1, np1 = lp.length := ⟨_, rfl⟩
      obtain ⟨nq1, hnq1⟩ : ∃ nq1, nq1 = lq.length := ⟨_, rfl⟩
      rw [← hnp1] at HT1 hnp
      rw [← hnq1] at HT2 hnq
      have HNP1 := Lib.hid hnp1
      have HNQ1 := Lib.hid hnq1
      have hnpi : np - 1 = np1 := by omega
      have hnqi : nq - 1 = nq1 := by omega
      have SL1 := fun (p2 : Option Addr) hp (W : World) => run_slice_two (P := Try.prog) W 22 66 bp op np cp p2 Try.underlying22 HFI.out (by omega) hcp hp
      have SL2 := fun (p2 : Option Addr) hp (W : World) => run_slice_two (P := Try.prog) W 22 66 bq oq nq cq p2 Try.underlying22 HFI.out (by omega) hcq hp
      rw [hnpi] at SL1
      rw [hnqi] at SL2
      have HST := Lib.hid (fun h => HC.out.step h)
      have HST2 := Lib.hid (fun h => HC.out.swap.step h)
      have HZA := Lib.hid hz
      have HZB := Lib.hid hz2
      have HNPI := Lib.hid hnp
      have HNQI := Lib.hid hnq
      clear nr ns hnc ho hnp hnq hnp1 hnq1 hnpi hnqi hz hz2 HO HLEN hcp hcq
      by_cases hsw : z > z2
      · have bsw : decide (z > z2) = true := decide_eq_true hsw
        go_wp2_with fail
        refine wp_region_kept (by kernel_rfl) (by kernel_rfl) ?_
        refine wpQuiet_pure (v := ?_) (by kernel_rfl) ?_ (fun K hK => ?_)
        case refine_2 => intro W _; go_simp; try with_reducible rfl
        go_simp
        refine hK _ ?_; clear hK K
        refine wpQuiet_pure (v := ?_) (by kernel_rfl) ?_ (fun K hK => ?_)
        case refine_2 => intro W _; go_simp; try with_reducible rfl
        go_simp
        refine hK _ ?_; clear hK K
        refine wpQuiet_pure (v := ?_) (by kernel_rfl) ?_ (fun K hK => ?_)
        case refine_2 => intro W hW; have e0 := hW.cell e1; have e1 := hW.cell e2; go_simp; try with_reducible rfl
        go_simp
        refine hK _ ?_; clear hK K
        refine wpQuiet_call (by kernel_rfl) _ _ _ (fun W => by go_simp) (fun W h => Calls.kept_of h (EP W)) (fun K hK => ?_)
        go_simp
        refine hK _ ?_; clear hK K
        refine wpQuiet_pure (v := ?_) (by kernel_rfl) ?_ (fun K hK => ?_)
        case refine_2 => intro W _; go_simp; try with_reducible rfl
        go_simp
        refine hK _ ?_; clear hK K
        refine wpQuiet_pure (v := ?_) (by kernel_rfl) ?_ (fun K hK => ?_)
        case refine_2 => intro W _; go_simp; try with_reducible rfl
        go_simp
        refine hK _ ?_; clear hK K
        refine wpQuiet_pure (v := ?_) (by kernel_rfl) ?_ (fun K hK => ?_)
        case refine_2 => intro W hW; have e0 := hW.cell g1; have e1 := hW.cell g2; go_simp; try with_reducible rfl
        go_simp
        refine hK _ ?_; clear hK K
        refine wpQuiet_call (by kernel_rfl) _ _ _ (fun W => by go_simp) (fun W h => Calls.kept_of h (EQ W)) (fun K hK => ?_)
        go_simp
        refine hK _ ?_; clear hK K
        refine wpQuiet_pure (v := ?_) (by kernel_rfl) ?_ (fun K hK => ?_)
        case refine_2 => intro W _; go_simp; try with_reducible rfl
        go_simp
        refine hK _ ?_; clear hK K
        refine wpQuiet_nil ?_
        intro w5 hk5
        have f1 := hk5.cell e1
        have f2 := hk5.cell e2
        have h1 := hk5.cell g1
        have h2 := hk5.cell g2
        have HK5 := Lib.hid hk5
        clear hk5 e1 e2 g1 g2
        obtain ⟨mx, hmx⟩ : ∃ mx, mx = max x2 x := ⟨_, rfl⟩
        have hmr : Hid ((if x > x2 then x else x2) = mx) := Lib.hid (by split <;> omega)
        have hmx0 : 0 ≤ mx := by omega
        obtain ⟨p3, hp3⟩ : ∃ p3, (if cq = 1 then some (⟨bq, oq, none⟩ : Addr) else some ⟨bq, oq + 2, none⟩) = p3 := ⟨_, rfl⟩
        have SLF := SL2 p3 hp3
        have HTF := Lib.hid (HT2.out p3 hp3)
        have HMX := Lib.hid hmx
        clear hp3 SL1 SL2 hmx
        go_wp2_with fail
        refine wp_region_kept (by kernel_rfl) (by kernel_rfl) ?_
        refine wpQuiet_pure (v := ?_) (by kernel_rfl) ?_ (fun K hK => ?_)
        case refine_2 => intro W _; go_simp; try with_reducible rfl
        go_simp
        refine hK _ ?_; clear hK K
        refine wpQuiet_pure (v := ?_) (by kernel_rfl) ?_ (fun K hK => ?_)
        case refine_2 => intro W _; go_simp; try with_reducible rfl
        go_simp
        refine hK _ ?_; clear hK K
        refine wpQuiet_pure (v := ?_) (by kernel_rfl) ?_ (fun K hK => ?_)
        case refine_2 => intro W _; go_simp; try with_reducible rfl
        go_simp
        refine hK _ ?_; clear hK K
        refine wpQuiet_pure (v := ?_) (by kernel_rfl) ?_ (fun K hK => ?_)
        case refine_2 => intro W hW; have e0 := hW.cell h1; go_simp; try with_reducible rfl
        go_simp
        refine hK _ ?_; clear hK K
        refine wpQuiet_pure (v := ?_) (by kernel_rfl) ?_ (fun K hK => ?_)
        case refine_2 => intro W _; go_simp; try with_reducible rfl
        go_simp
        refine hK _ ?_; clear hK K
        refine wpQuiet_pure (v := ?_) (by kernel_rfl) ?_ (fun K hK => ?_)
        case refine_2 => intro W _; go_simp; try with_reducible rfl
        go_simp
        refine hK _ ?_; clear hK K
        refine wpQuiet_pure (v := ?_) (by kernel_rfl) ?_ (fun K hK => ?_)
        case refine_2 => intro W _; go_simp; try with_reducible rfl
        go_simp
        refine hK _ ?_; clear hK K
        refine wpQuiet_pure (v := ?_) (by kernel_rfl) ?_ (fun K hK => ?_)
        case refine_2 => intro W hW; have e0 := hW.cell f1; go_simp; try with_reducible rfl
        go_simp
        refine hK _ ?_; clear hK K
        refine wpQuiet_maxI (by kernel_rfl) _ _ _ _ rfl .i64 .i64 x2 x mx rfl rfl hmr.out (fun K hK => ?_)
        go_simp
        refine hK _ ?_; clear hK K
        refine wpQuiet_pure (v := ?_) (by kernel_rfl) ?_ (fun K hK => ?_)
        case refine_2 => intro W _; go_simp; try with_reducible rfl
        go_simp
        refine hK _ ?_; clear hK K
        refine wpQuiet_nil ?_
        intro w6 hk6
        have a1 := hk6.cell h1
        have a2 := hk6.cell h2
        have HK6 := Lib.hid (HK5.out.then hk6)
        clear hk6 f1 f2 h1 h2
        go_wp2_with fail
        refine (EQ _).mono ?_
        rintro e w7 ⟨rfl, hb7⟩
        have K7 : Kept w6 w7 := hb7
        have b1 := K7.cell a1
        have b2 := K7.cell a2
        have HK7 := Lib.hid (HK6.out.then K7)
        clear K7 hb7 a1 a2
        by_cases hmz : mx < z2
        · have bmz : decide (mx < z2) = true := decide_eq_true hmz
          obtain ⟨q, hq⟩ : ∃ q, q = z2 - mx := ⟨_, rfl⟩
          have vq : IntKind.i64.wrap (z2 - mx) = q := by rw [hq]; exact IntWalk.i64_in _ (by omega)
          have HCN : Hid (CInv (fun k => hasR A k && hasR B k) (C ++ [(mx, q)]) lq ((x, y) :: lp)) := Lib.hid (by
            have h := (HST2.out (by have := HZA.out; have := HZB.out; first | omega | (simp only; omega))).1 (by have := HZB.out; have := HMX.out; first | omega | (simp only; omega))
            rw [hq, HMX.out, HZB.out]
            exact h)
          clear hq HST HST2
          go_wp2_with fail
          refine (EQ _).mono ?_
          rintro e w8 ⟨rfl, hb8⟩
          have K8 : Kept w2 w8 := HK.out.then (HK7.out.then hb8)
          have ho4 := own_stay HOW.out (fun j hj => (HK7.out.then hb8).block j (HOW.out.lt j hj).2)
          clear hb8 HK7 HK6 b1 b2
          have HOA : Hid ((w8.alloc (.cells #[.int .i64 mx, .int .i64 q] 66)).ownsRow w2.heap.size 66 2 (.slice pv nc cv) nc (runC C)) := Lib.hid (ho4.alloc _)
          have HFN : Hid (FlatAt 2 1 [.int .i64 mx, .int .i64 q] (.slice (some ⟨w8.heap.size, 0, none⟩) 1 1) (w8.alloc (.cells #[.int .i64 mx, .int .i64 q] 66))) := Lib.hid (FlatAt.new w8 66 2 1 1 #[.int .i64 mx, .int .i64 q] rfl (by intro x hx; simp at hx; rcases hx with rfl | rfl <;> rfl))
          have HKS : Hid (w2.heap.size ≤ w8.heap.size) := Lib.hid (by have := (K8).size; first | exact this | (simp at this ⊢; omega))
          have HEND : Hid (∀ v2 wz, wz.ownsRow w2.heap.size 66 2 v2 (nc + 1) (runC C ++ [.int .i64 mx, .int .i64 q]) → (w8.alloc (.cells #[.int .i64 mx, .int .i64 q] 66)).grownBy wz (Value.slice pv nc cv).ownBlock →
              Hid (wz.ownsRow w2.heap.size 66 2 v2 (C ++ [(mx, q)]).length (runC (C ++ [(mx, q)]))) ∧ Hid (Kept w2 wz) ∧ Hid (∀ k, k < w8.heap.size → (Value.slice pv nc cv).ownBlock ≠ some k → wz.heap[k]? = w8.heap[k]?)) := Lib.hid (fun v2 wz h1 h2 => ⟨Lib.hid (by
                rw [List.length_append, runC_append, ← HNC.out]; exact h1), Lib.hid (((K8).then (box_below w8 _)).grown h2 (Nat.le_trans HKS.out (by simp)) (fun j hj => (ho4.lt j hj).1)), Lib.hid (fun k hk hne => (h2.block k (Nat.lt_of_lt_of_le hk (box_below w8 _).size) (by first | exact hne | exact fun e => hne e.symm)).trans ((box_below w8 _).block k hk))⟩)
          clear ho4
          go_wp2_with (at_builtin; refine wpList_append_flat rfl _ _ 22 rfl w2.heap.size 66 ir (.agg #[.int .i64 0, .int .i64 0]) 2 16 Try.underlying22 HIR.out HZ0.out HZ1.out HZ2.out rfl (by decide) _ nc _ rfl HOA.out _ 1 _ rfl HFN.out ?wa1 ?wa2 ?wa3 ?_)
          case wa1 => unfold maxLen; omega
          case wa2 => omega
          try case wa3 => have := HKS.out; first | omega | (simp; omega) | (simp at this ⊢; omega)
          intro v2 w9 hown2 hgr2 _
          obtain ⟨HO5, HK5, HBK5⟩ := HEND.out v2 w9 hown2 hgr2
          clear hown2 hgr2 HEND HOA HFN HKS
          clear HBK5 K8 EP EQ
          go_wp2
          go_step3
          refine ⟨rfl, ⟨lq, (x, y) :: lp, C ++ [(mx, q)], v2, _, _, _, _, _, _, _, _, _, _, _, _, _, _, _, _, _, _, _, _, _, _, _, _, _, _, _, _, _, _, _, _, _, _, _, _, _, _, _, _, _, _, _, _, _, _, _, _, _, _, _, _, _, _, _, _, _, _, _, _, _, _, _, _, rfl, w2, HK2, HCN, HNQ1, HNP, HTF, HP, HO5, HK5⟩, ?_⟩
          have := HNQI.out
          simp [sliceLen]
          omega

        · have bmz : decide (mx < z2) = false := decide_eq_false hmz
          have HCN : Hid (CInv (fun k => hasR A k && hasR B k) C lq ((x, y) :: lp)) := Lib.hid ((HST2.out (by have := HZA.out; have := HZB.out; first | omega | (simp only; omega))).2 (by have := HZB.out; have := HMX.out; first | omega | (simp only; omega)))
          have HOW7 : Hid (w7.ownsRow w2.heap.size 66 2 (.slice pv nc cv) C.length (runC C)) := Lib.hid (by rw [← HNC.out]; exact own_stay HOW.out (fun j hj => HK7.out.block j (HOW.out.lt j hj).2))
          have HKN : Hid (Kept w2 w7) := Lib.hid (HK.out.then HK7.out)
          clear HST HST2 b1 b2 EP EQ HOW HK7 HK6
          go_wp2
          go_step3
          refine ⟨rfl, ⟨lq, (x, y) :: lp, C, _, _, _, _, _, _, _, _, _, _, _, _, _, _, _, _, _, _, _, _, _, _, _, _, _, _, _, _, _, _, _, _, _, _, _, _, _, _, _, _, _, _, _, _, _, _, _, _, _, _, _, _, _, _, _, _, _, _, _, _, _, _, _, _, _, rfl, w2, HK2, HCN, HNQ1, HNP, HTF, HP, HOW7, HKN⟩, ?_⟩
          have := HNQI.out
          simp [sliceLen]
          omega


      · have bsw : decide (z > z2) = false := decide_eq_false hsw
        go_wp2_with fail
        refine wp_region_kept (by kernel_rfl) (by kernel_rfl) ?_
        refine wpQuiet_pure (v := ?_) (by kernel_rfl) ?_ (fun K hK => ?_)
        case refine_2 => intro W _; go_simp; try with_reducible rfl
        go_simp
        refine hK _ ?_; clear hK K
        refine wpQuiet_pure (v := ?_) (by kernel_rfl) ?_ (fun K hK => ?_)
        case refine_2 => intro W _; go_simp; try with_reducible rfl
        go_simp
        refine hK _ ?_; clear hK K
        refine wpQuiet_pure (v := ?_) (by kernel_rfl) ?_ (fun K hK => ?_)
        case refine_2 => intro W hW; have e0 := hW.cell e1; have e1 := hW.cell e2; go_simp; try with_reducible rfl
        go_simp
        refine hK _ ?_; clear hK K
        refine wpQuiet_call (by kernel_rfl) _ _ _ (fun W => by go_simp) (fun W h => Calls.kept_of h (EP W)) (fun K hK => ?_)
        go_simp
        refine hK _ ?_; clear hK K
        refine wpQuiet_pure (v := ?_) (by kernel_rfl) ?_ (fun K hK => ?_)
        case refine_2 => intro W _; go_simp; try with_reducible rfl
        go_simp
        refine hK _ ?_; clear hK K
        refine wpQuiet_pure (v := ?_) (by kernel_rfl) ?_ (fun K hK => ?_)
        case refine_2 => intro W _; go_simp; try with_reducible rfl
        go_simp
        refine hK _ ?_; clear hK K
        refine wpQuiet_pure (v := ?_) (by kernel_rfl) ?_ (fun K hK => ?_)
        case refine_2 => intro W hW; have e0 := hW.cell g1; have e1 := hW.cell g2; go_simp; try with_reducible rfl
        go_simp
        refine hK _ ?_; clear hK K
        refine wpQuiet_call (by kernel_rfl) _ _ _ (fun W => by go_simp) (fun W h => Calls.kept_of h (EQ W)) (fun K hK => ?_)
        go_simp
        refine hK _ ?_; clear hK K
        refine wpQuiet_pure (v := ?_) (by kernel_rfl) ?_ (fun K hK => ?_)
        case refine_2 => intro W _; go_simp; try with_reducible rfl
        go_simp
        refine hK _ ?_; clear hK K
        refine wpQuiet_nil ?_
        intro w5 hk5
        have f1 := hk5.cell e1
        have f2 := hk5.cell e2
        have h1 := hk5.cell g1
        have h2 := hk5.cell g2
        have HK5 := Lib.hid hk5
        clear hk5 e1 e2 g1 g2
        obtain ⟨mx, hmx⟩ : ∃ mx, mx = max x x2 := ⟨_, rfl⟩
        have hmr : Hid ((if x2 > x then x2 else x) = mx) := Lib.hid (by split <;> omega)
        have hmx0 : 0 ≤ mx := by omega
        obtain ⟨p3, hp3⟩ : ∃ p3, (if cp = 1 then some (⟨bp, op, none⟩ : Addr) else some ⟨bp, op + 2, none⟩) = p3 := ⟨_, rfl⟩
        have SLF := SL1 p3 hp3
        have HTF := Lib.hid (HT1.out p3 hp3)
        have HMX := Lib.hid hmx
        clear hp3 SL1 SL2 hmx
        go_wp2_with fail
        refine wp_region_kept (by kernel_rfl) (by kernel_rfl) ?_
        refine wpQuiet_pure (v := ?_) (by kernel_rfl) ?_ (fun K hK => ?_)
        case refine_2 => intro W _; go_simp; try with_reducible rfl
        go_simp
        refine hK _ ?_; clear hK K
        refine wpQuiet_pure (v := ?_) (by kernel_rfl) ?_ (fun K hK => ?_)
        case refine_2 => intro W _; go_simp; try with_reducible rfl
        go_simp
        refine hK _ ?_; clear hK K
        refine wpQuiet_pure (v := ?_) (by kernel_rfl) ?_ (fun K hK => ?_)
        case refine_2 => intro W _; go_simp; try with_reducible rfl
        go_simp
        refine hK _ ?_; clear hK K
        refine wpQuiet_pure (v := ?_) (by kernel_rfl) ?_ (fun K hK => ?_)
        case refine_2 => intro W hW; have e0 := hW.cell f1; go_simp; try with_reducible rfl
        go_simp
        refine hK _ ?_; clear hK K
        refine wpQuiet_pure (v := ?_) (by kernel_rfl) ?_ (fun K hK => ?_)
        case refine_2 => intro W _; go_simp; try with_reducible rfl
        go_simp
        refine hK _ ?_; clear hK K
        refine wpQuiet_pure (v := ?_) (by kernel_rfl) ?_ (fun K hK => ?_)
        case refine_2 => intro W _; go_simp; try with_reducible rfl
        go_simp
        refine hK _ ?_; clear hK K
        refine wpQuiet_pure (v := ?_) (by kernel_rfl) ?_ (fun K hK => ?_)
        case refine_2 => intro W _; go_simp; try with_reducible rfl
        go_simp
        refine hK _ ?_; clear hK K
        refine wpQuiet_pure (v := ?_) (by kernel_rfl) ?_ (fun K hK => ?_)
        case refine_2 => intro W hW; have e0 := hW.cell h1; go_simp; try with_reducible rfl
        go_simp
        refine hK _ ?_; clear hK K
        refine wpQuiet_maxI (by kernel_rfl) _ _ _ _ rfl .i64 .i64 x x2 mx rfl rfl hmr.out (fun K hK => ?_)
        go_simp
        refine hK _ ?_; clear hK K
        refine wpQuiet_pure (v := ?_) (by kernel_rfl) ?_ (fun K hK => ?_)
        case refine_2 => intro W _; go_simp; try with_reducible rfl
        go_simp
        refine hK _ ?_; clear hK K
        refine wpQuiet_nil ?_
        intro w6 hk6
        have a1 := hk6.cell f1
        have a2 := hk6.cell f2
        have HK6 := Lib.hid (HK5.out.then hk6)
        clear hk6 f1 f2 h1 h2
        go_wp2_with fail
        refine (EP _).mono ?_
        rintro e w7 ⟨rfl, hb7⟩
        have K7 : Kept w6 w7 := hb7
        have b1 := K7.cell a1
        have b2 := K7.cell a2
        have HK7 := Lib.hid (HK6.out.then K7)
        clear K7 hb7 a1 a2
        by_cases hmz : mx < z
        · have bmz : decide (mx < z) = true := decide_eq_true hmz
          obtain ⟨q, hq⟩ : ∃ q, q = z - mx := ⟨_, rfl⟩
          have vq : IntKind.i64.wrap (z - mx) = q := by rw [hq]; exact IntWalk.i64_in _ (by omega)
          have HCN : Hid (CInv (fun k => hasR A k && hasR B k) (C ++ [(mx, q)]) lp ((x2, y2) :: lq)) := Lib.hid (by
            have h := (HST.out (by have := HZA.out; have := HZB.out; first | omega | (simp only; omega))).1 (by have := HZA.out; have := HMX.out; first | omega | (simp only; omega))
            rw [hq, HMX.out, HZA.out]
            exact h)
          clear hq HST HST2
          go_wp2_with fail
          refine (EP _).mono ?_
          rintro e w8 ⟨rfl, hb8⟩
          have K8 : Kept w2 w8 := HK.out.then (HK7.out.then hb8)
          have ho4 := own_stay HOW.out (fun j hj => (HK7.out.then hb8).block j (HOW.out.lt j hj).2)
          clear hb8 HK7 HK6 b1 b2
          have HOA : Hid ((w8.alloc (.cells #[.int .i64 mx, .int .i64 q] 66)).ownsRow w2.heap.size 66 2 (.slice pv nc cv) nc (runC C)) := Lib.hid (ho4.alloc _)
          have HFN : Hid (FlatAt 2 1 [.int .i64 mx, .int .i64 q] (.slice (some ⟨w8.heap.size, 0, none⟩) 1 1) (w8.alloc (.cells #[.int .i64 mx, .int .i64 q] 66))) := Lib.hid (FlatAt.new w8 66 2 1 1 #[.int .i64 mx, .int .i64 q] rfl (by intro x hx; simp at hx; rcases hx with rfl | rfl <;> rfl))
          have HKS : Hid (w2.heap.size ≤ w8.heap.size) := Lib.hid (by have := (K8).size; first | exact this | (simp at this ⊢; omega))
          have HEND : Hid (∀ v2 wz, wz.ownsRow w2.heap.size 66 2 v2 (nc + 1) (runC C ++ [.int .i64 mx, .int .i64 q]) → (w8.alloc (.cells #[.int .i64 mx, .int .i64 q] 66)).grownBy wz (Value.slice pv nc cv).ownBlock →
              Hid (wz.ownsRow w2.heap.size 66 2 v2 (C ++ [(mx, q)]).length (runC (C ++ [(mx, q)]))) ∧ Hid (Kept w2 wz) ∧ Hid (∀ k, k < w8.heap.size → (Value.slice pv nc cv).ownBlock ≠ some k → wz.heap[k]? = w8.heap[k]?)) := Lib.hid (fun v2 wz h1 h2 => ⟨Lib.hid (by
                rw [List.length_append, runC_append, ← HNC.out]; exact h1), Lib.hid (((K8).then (box_below w8 _)).grown h2 (Nat.le_trans HKS.out (by simp)) (fun j hj => (ho4.lt j hj).1)), Lib.hid (fun k hk hne => (h2.block k (Nat.lt_of_lt_of_le hk (box_below w8 _).size) (by first | exact hne | exact fun e => hne e.symm)).trans ((box_below w8 _).block k hk))⟩)
          clear ho4
          go_wp2_with (at_builtin; refine wpList_append_flat rfl _ _ 22 rfl w2.heap.size 66 ir (.agg #[.int .i64 0, .int .i64 0]) 2 16 Try.underlying22 HIR.out HZ0.out HZ1.out HZ2.out rfl (by decide) _ nc _ rfl HOA.out _ 1 _ rfl HFN.out ?wa1 ?wa2 ?wa3 ?_)
          case wa1 => unfold maxLen; omega
          case wa2 => omega
          try case wa3 => have := HKS.out; first | omega | (simp; omega) | (simp at this ⊢; omega)
          intro v2 w9 hown2 hgr2 _
          obtain ⟨HO5, HK5, HBK5⟩ := HEND.out v2 w9 hown2 hgr2
          clear hown2 hgr2 HEND HOA HFN HKS
          clear HBK5 K8 EP EQ
          go_wp2
          go_step3
          refine ⟨rfl, ⟨lp, (x2, y2) :: lq, C ++ [(mx, q)], v2, _, _, _, _, _, _, _, _, _, _, _, _, _, _, _, _, _, _, _, _, _, _, _, _, _, _, _, _, _, _, _, _, _, _, _, _, _, _, _, _, _, _, _, _, _, _, _, _, _, _, _, _, _, _, _, _, _, _, _, _, _, _, _, _, rfl, w2, HK2, HCN, HNP1, HNQ, HTF, HQ, HO5, HK5⟩, ?_⟩
          have := HNPI.out
          simp [sliceLen]
          omega

        · have bmz : decide (mx < z) = false := decide_eq_false hmz
          have HCN : Hid (CInv (fun k => hasR A k && hasR B k) C lp ((x2, y2) :: lq)) := Lib.hid ((HST.out (by have := HZA.out; have := HZB.out; first | omega | (simp only; omega))).2 (by have := HZA.out; have := HMX.out; first | omega | (simp only; omega)))
          have HOW7 : Hid (w7.ownsRow w2.heap.size 66 2 (.slice pv nc cv) C.length (runC C)) := Lib.hid (by rw [← HNC.out]; exact own_stay HOW.out (fun j hj => HK7.out.block j (HOW.out.lt j hj).2))
          have HKN : Hid (Kept w2 w7) := Lib.hid (HK.out.then HK7.out)
          clear HST HST2 b1 b2 EP EQ HOW HK7 HK6
          go_wp2
          go_step3
          refine ⟨rfl, ⟨lp, (x2, y2) :: lq, C, _, _, _, _, _, _, _, _, _, _, _, _, _, _, _, _, _, _, _, _, _, _, _, _, _, _, _, _, _, _, _, _, _, _, _, _, _, _, _, _, _, _, _, _, _, _, _, _, _, _, _, _, _, _, _, _, _, _, _, _, _, _, _, _, _, rfl, w2, HK2, HCN, HNP1, HNQ, HTF, HQ, HOW7, HKN⟩, ?_⟩
          have := HNPI.out
          simp [sliceLen]
          omega



end Go.Proofs.Ytppbknlhknadbaa
