/- The walk of a search for a chunk's end: a scope with two labels. -/
import Derived.Test.YtimllddlcjnikaaDoorCutT
import Derived.ScopeJumps
import Derived.Scope
import Derived.RegionTactic
import Derived.BigRegion
namespace Go.Proofs.YtimllddlcjnikaaDoor
open Go.RowKit

/-- By a goto to label 0: J0; to label 1: J1; by any other: no way out. -/
def Exit.jump2 (J0 J1 : Act → World → Prop) (Q : Exit → Act → World → Prop) : Exit → Act → World → Prop
  | .goto l, a, w => (l = 0 ∧ J0 a w) ∨ (l = 1 ∧ J1 a w)
  | e, a, w => Q e a w

/-- A scope with two labels: the run comes back to the first, a measure falling, and goes on to the second. -/
theorem wp_scope_two {P : Program} {a : Act} {w : World} {Q : Exit → Act → World → Prop} {c r0 r1 : Code} (J0 J1 : Act → World → Prop) (μ : Act → World → Nat)
    (hf0 : findLabel c 0 = some (Code.skip.seq r0)) (hf1 : findLabel c 1 = some (Code.skip.seq r1))
    (enter : ∀ Q', (∀ a w, J0 a w → r0.wp P Q' a w) → c.wp P Q' a w)
    (pass0 : ∀ a w, J0 a w → r0.wp P (Exit.jump2 (fun a' w' => J0 a' w' ∧ μ a' w' < μ a w) J1 Q) a w)
    (pass1 : ∀ a w, J1 a w → r1.wp P (Exit.noGoto Q) a w) : (Code.scope c).wp P Q a w := by
  have first : c.wp P (Exit.jump2 J0 J1 Q) a w := enter _ fun a w h => wp_mono (pass0 a w h) (by
    intro e a w hq
    cases e with
    | goto l =>
      rcases hq with h | h
      · exact Or.inl ⟨h.1, h.2.1⟩
      · exact Or.inr h
    | _ => exact hq)
  intro b k cs
  have hg0 : gotoIn 0 (.inScope c :: k) = some (.code (Code.skip.seq r0) :: .inScope c :: k) := by simp [gotoIn, hf0]
  have hg1 : gotoIn 1 (.inScope c :: k) = some (.code (Code.skip.seq r1) :: .inScope c :: k) := by simp [gotoIn, hf1]
  have key1 : ∀ a w, J1 a w → ∃ e a' w', Q e a' w' ∧ Arrives P (lone (b.at a (.code (Code.skip.seq r1) :: .inScope c :: k)) cs w) b k cs e a' w' := by
    intro a w hJ
    obtain ⟨e, a₁, w₁, hq, harr⟩ := (wp_seq (wp_skip (pass1 a w hJ))) b (.inScope c :: k) cs
    cases e with
    | normal => exact ⟨.normal, a₁, w₁, hq, Steps.trans harr (.one step_inScope)⟩
    | exit id => exact ⟨.exit id, a₁, w₁, hq, fun k' hk => harr k' (by simp [exitTo, hk])⟩
    | goto l' => exact hq.elim
    | ret => exact ⟨_, a₁, w₁, hq, harr⟩
    | panic ch => exact ⟨_, a₁, w₁, hq, harr⟩
    | outgrown => exact ⟨_, a₁, w₁, hq, harr⟩
  have key : ∀ n a w, μ a w = n → J0 a w → ∃ e a' w', Q e a' w' ∧ Arrives P (lone (b.at a (.code (Code.skip.seq r0) :: .inScope c :: k)) cs w) b k cs e a' w' := by
    intro n
    induction n using Nat.strongRecOn with
    | _ n ih =>
      intro a w hn hJ
      obtain ⟨e, a₁, w₁, hq, harr⟩ := (wp_seq (wp_skip (pass0 a w hJ))) b (.inScope c :: k) cs
      cases e with
      | normal => exact ⟨.normal, a₁, w₁, hq, Steps.trans harr (.one step_inScope)⟩
      | exit id => exact ⟨.exit id, a₁, w₁, hq, fun k' hk => harr k' (by simp [exitTo, hk])⟩
      | goto l' =>
        rcases hq with ⟨rfl, hJ', hlt⟩ | ⟨rfl, hJ'⟩
        · obtain ⟨e₂, a₂, w₂, hq₂, harr₂⟩ := ih _ (by omega) a₁ w₁ rfl hJ'
          exact ⟨e₂, a₂, w₂, hq₂, .of_steps (harr _ hg0) harr₂⟩
        · obtain ⟨e₂, a₂, w₂, hq₂, harr₂⟩ := key1 a₁ w₁ hJ'
          exact ⟨e₂, a₂, w₂, hq₂, .of_steps (harr _ hg1) harr₂⟩
      | ret => exact ⟨_, a₁, w₁, hq, harr⟩
      | panic ch => exact ⟨_, a₁, w₁, hq, harr⟩
      | outgrown => exact ⟨_, a₁, w₁, hq, harr⟩
  obtain ⟨e, a₁, w₁, hq, harr⟩ := first b (.inScope c :: k) cs
  cases e with
  | normal => exact ⟨.normal, a₁, w₁, hq, .head step_scope (Steps.trans harr (.one step_inScope))⟩
  | exit id => exact ⟨.exit id, a₁, w₁, hq, fun k' hk => .head step_scope (harr k' (by simp [exitTo, hk]))⟩
  | goto l' =>
    rcases hq with ⟨rfl, hJ'⟩ | ⟨rfl, hJ'⟩
    · obtain ⟨e₂, a₂, w₂, hq₂, harr₂⟩ := key _ a₁ w₁ rfl hJ'
      exact ⟨e₂, a₂, w₂, hq₂, .of_steps (.head step_scope (harr _ hg0)) harr₂⟩
    · obtain ⟨e₂, a₂, w₂, hq₂, harr₂⟩ := key1 a₁ w₁ hJ'
      exact ⟨e₂, a₂, w₂, hq₂, .of_steps (.head step_scope (harr _ hg1)) harr₂⟩
  | ret => exact ⟨_, a₁, w₁, hq, .of_steps (.one step_scope) harr⟩
  | panic ch => exact ⟨_, a₁, w₁, hq, .of_steps (.one step_scope) harr⟩
  | outgrown => exact ⟨_, a₁, w₁, hq, .of_steps (.one step_scope) harr⟩

/-- A cell's number. -/
def cellNat (w : World) (b o : Nat) : Nat := match w.cell? ⟨b, o, none⟩ with | some (.int _ n) => n.toNat | _ => 0
theorem SrchIn.nat {b o : Nat} {T : TypeId} {R0 C : Array Value} {n fr h k : Nat} {w : World} (s : SrchIn b o T R0 C n fr h k w) : cellNat w b (o + 13) = n := by
  unfold cellNat; rw [s.cn]; simp

/-- The frame of 'end' at its labels. -/
def EndFrame (b o : Nat) (s : ByteArray) (m : Nat) (a : Act) : Prop :=
  ∃ (u6 u7 u8 u9 u10 u11 u12 u13 u14 u15 u16 u17 u18 u19 u20 u21 u22 u23 u24 u25 u26 u27 u28 u29 u30 u31 u32 u33 u34 u35 u36 u37 u38 u39 u40 u41 u42 u43 u44 u45 u46 u47 u48 u49 u50 u51 u52 u53 u54 u55 u56 u57 u58 u59 u60 u61 u62 u63 u64 u65 u66 u67 u68 u69 u70 u71 : Value), a = { tmps := (.pointer (some ⟨b, o, none⟩) :: .string s :: undef :: undef :: .int .i64 0 :: .int .i64 m :: u6 :: u7 :: u8 :: u9 :: u10 :: u11 :: u12 :: u13 :: u14 :: u15 :: u16 :: u17 :: u18 :: u19 :: u20 :: u21 :: u22 :: u23 :: u24 :: u25 :: u26 :: u27 :: u28 :: u29 :: u30 :: u31 :: u32 :: u33 :: u34 :: u35 :: u36 :: u37 :: u38 :: u39 :: u40 :: u41 :: u42 :: u43 :: u44 :: u45 :: u46 :: u47 :: u48 :: u49 :: u50 :: u51 :: u52 :: u53 :: u54 :: u55 :: u56 :: u57 :: u58 :: u59 :: u60 :: u61 :: u62 :: u63 :: u64 :: u65 :: u66 :: u67 :: u68 :: u69 :: u70 :: u71 :: undef :: undef :: undef :: undef :: undef :: undef :: undef :: undef :: undef :: undef :: undef :: undef :: undef :: undef :: undef :: undef :: undef :: undef :: undef :: undef :: undef :: undef :: []).toArray, defers := [] }

/-- What holds at the first label. -/
def EndJ0 (b o : Nat) (T : TypeId) (R0 C : Array Value) (mn mx dm db m : Nat) (s : ByteArray) (w0 : World) (a : Act) (w : World) : Prop :=
  EndFrame b o s m a ∧ ∃ n fr h k, SrchIn b o T R0 C n fr h k w ∧ Srch mn mx dm db s.data.toList n fr h k ∧ w0.grownBy w (some b)

/-- What holds at the second. -/
def EndJ1 (b o : Nat) (T : TypeId) (R0 C : Array Value) (mn mx dm db m : Nat) (s : ByteArray) (w0 : World) (a : Act) (w : World) : Prop :=
  EndFrame b o s m a ∧ ∃ n fr h k, SrchIn b o T R0 C n fr h k w ∧ Srch mn mx dm db s.data.toList n fr h k ∧ w0.grownBy w (some b) ∧ min s.size mx ≤ n

/-- Behind the jump. -/
def EndMid (b o : Nat) (T : TypeId) (R0 C : Array Value) (mn mx dm db m : Nat) (s : ByteArray) (w0 : World) (n0 : Nat) (a : Act) (w : World) : Prop :=
  EndFrame b o s m a ∧ ∃ n fr h k, n0 ≤ n ∧ SrchIn b o T R0 C n fr h k w ∧ Srch mn mx dm db s.data.toList n fr h k ∧ w0.grownBy w (some b) ∧ (fr ≤ n → 16 ≤ fr ∧ h = rsum (s.data.toList.take n))

theorem wp_seq_cut {P : Program} {a : Act} {w : World} {Q : Exit → Act → World → Prop} {A B : Code} (J : Act → World → Prop) (h1 : A.wp P (Exit.then J Q) a w) (h2 : ∀ a w, J a w → B.wp P Q a w) : (A.seq B).wp P Q a w :=
  wp_seq (wp_mono h1 (by
    intro e a w h
    cases e with
    | normal => exact h2 a w h
    | _ => exact h))

set_option maxRecDepth 100000 in
set_option maxHeartbeats 4000000 in
theorem end_any (b o : Nat) (T : TypeId) (R0 C : Array Value) (mn mx dm db n fr h k : Nat) (hC : IsConf C mn mx dm db) (h1 : 1 ≤ mn) (h2 : mn ≤ mx) (h3 : mx ≤ 4096) (h4 : 1 ≤ dm) (h5 : dm ≤ 1048576) (h6 : 1 ≤ db) (h7 : db ≤ 1048576)
    (s : ByteArray) (hs : s.size ≤ 1000000) (w : World) (hT : TabAt w) (hb : 0 ≠ b)
    (hI : SrchIn b o T R0 C n fr h k w) (hS : Srch mn mx dm db s.data.toList n fr h k) :
    Calls Tryd.prog 25 #[.pointer (some ⟨b, o, none⟩), .string s] w fun e w' => ∃ r n' fr' h' k', e = .returned (.int .i64 (r : Nat)) ∧
      EndsAt mn mx dm db s.data.toList r n' fr' h' k' ∧ SrchIn b o T R0 C n' fr' h' k' w' ∧ w.grownBy w' (some b) := by
  have hz := data_len s
  obtain ⟨m, hm⟩ : ∃ m, m = min s.size mx := ⟨_, rfl⟩
  have HI := Lib.hid hI
  have HS := Lib.hid hS
  have HM := Lib.hid hm
  have HZ := Lib.hid hz
  have HB := Lib.hid hb
  have HC := Lib.hid hC
  go_enter Tryd.func25, Tryd.ntmps25
  go_wp2
  refine wp_scope_two (EndJ0 b o T R0 C mn mx dm db m s w) (EndJ1 b o T R0 C mn mx dm db m s w) (fun _ w' => mx + 1 - cellNat w' b (o + 13)) rfl rfl ?_ ?_ ?_
  · intro Q' hq
    have HQ := Lib.hid hq
    have c1 := hI.cc 1 (by omega) _ hC.c1
    have hmin : (if mx < s.size then (mx : Int) else (s.size : Int)) = (m : Int) := by split <;> omega
    clear hq hI hS hm hz hC hb
    go_wp2
    go_step3
    rename_i K hK
    refine hK _ _ (HQ.out _ _ ⟨⟨_, _, _, _, _, _, _, _, _, _, _, _, _, _, _, _, _, _, _, _, _, _, _, _, _, _, _, _, _, _, _, _, _, _, _, _, _, _, _, _, _, _, _, _, _, _, _, _, _, _, _, _, _, _, _, _, _, _, _, _, _, _, _, _, _, _, rfl⟩, n, fr, h, k, HI.out, HS.out, grown_refl _ _⟩)
  · rintro a' w' ⟨⟨u6, u7, u8, u9, u10, u11, u12, u13, u14, u15, u16, u17, u18, u19, u20, u21, u22, u23, u24, u25, u26, u27, u28, u29, u30, u31, u32, u33, u34, u35, u36, u37, u38, u39, u40, u41, u42, u43, u44, u45, u46, u47, u48, u49, u50, u51, u52, u53, u54, u55, u56, u57, u58, u59, u60, u61, u62, u63, u64, u65, u66, u67, u68, u69, u70, u71, rfl⟩, n, fr, h, k, hI, hS, hG⟩
    have HN := Lib.hid hI.nat
    clear hm hz
    refine wp_seq_cut (EndMid b o T R0 C mn mx dm db m s w n) ?_ ?_
    · rcases Nat.lt_or_ge n 15 with hn | hn
      · have c13 := hI.cn
        have hnI : ¬ ((15 : Int) ≤ n) := by omega
        have HJ : ∃ n2 fr h k, n ≤ n2 ∧ SrchIn b o T R0 C n2 fr h k w' ∧ Srch mn mx dm db s.data.toList n2 fr h k ∧ w.grownBy w' (some b) ∧ (fr ≤ n2 → 16 ≤ fr ∧ h = rsum (s.data.toList.take n2)) :=
          ⟨n, fr, h, k, Nat.le_refl _, hI, hS, hG, fun x => ⟨hS.f16, hS.hash x⟩⟩
        have HJJ := Lib.hid HJ
        clear HJ hI hS hG HI HS
        go_wp2
        exact ⟨⟨_, _, _, _, _, _, _, _, _, _, _, _, _, _, _, _, _, _, _, _, _, _, _, _, _, _, _, _, _, _, _, _, _, _, _, _, _, _, _, _, _, _, _, _, _, _, _, _, _, _, _, _, _, _, _, _, _, _, _, _, _, _, _, _, _, _, rfl⟩, HJJ.out⟩
      · have c13 := hI.cn
        have c14 := hI.cf
        have f13 := hI.frozen (o + 13)
        obtain ⟨j, hj⟩ : ∃ j, j = max n (fr - 1) := ⟨_, rfl⟩
        have hS2 := hS.jump hn
        rw [← hj] at hS2
        have hI2 := (hI.setN j).drew
        have hf16 := hS.f16
        obtain ⟨p, hp⟩ : ∃ p, p = fr - 1 := ⟨_, rfl⟩
        have hpw : IntKind.i64.wrap ((fr : Int) - 1) = (p : Int) := by rw [show (fr : Int) - 1 = (p : Int) by omega]; exact IntWalk.i64_in _ (by have := hS.fmx; omega)
        have hmax : (if n < p then (p : Int) else (n : Int)) = (j : Int) := by split <;> omega
        have hG2 : w.grownBy (w'.setCell ⟨b, o + 13, none⟩ (.int .i64 j)).drew (some b) := grown_trans (grown_trans hG (grown_set _ _ _ _)) (grown_drew _ _)
        have HJ : ∃ n2 fr h k, n ≤ n2 ∧ SrchIn b o T R0 C n2 fr h k (w'.setCell ⟨b, o + 13, none⟩ (.int .i64 j)).drew ∧ Srch mn mx dm db s.data.toList n2 fr h k ∧ w.grownBy (w'.setCell ⟨b, o + 13, none⟩ (.int .i64 j)).drew (some b) ∧ (fr ≤ n2 → 16 ≤ fr ∧ h = rsum (s.data.toList.take n2)) :=
          ⟨j, fr, h, k, by omega, hI2, hS2, hG2, fun x => ⟨hS.f16, hS2.hash x⟩⟩
        have HJJ := Lib.hid HJ
        have hnI : (15 : Int) ≤ n := by omega
        clear HJ hI hS hG HI HS hI2 hS2 hG2 hj hp hn hf16
        go_wp2
        go_region
        exact ⟨⟨_, _, _, _, _, _, _, _, _, _, _, _, _, _, _, _, _, _, _, _, _, _, _, _, _, _, _, _, _, _, _, _, _, _, _, _, _, _, _, _, _, _, _, _, _, _, _, _, _, _, _, _, _, _, _, _, _, _, _, _, _, _, _, _, _, _, rfl⟩, HJJ.out⟩
    · rintro a2 w2 ⟨⟨u6, u7, u8, u9, u10, u11, u12, u13, u14, u15, u16, u17, u18, u19, u20, u21, u22, u23, u24, u25, u26, u27, u28, u29, u30, u31, u32, u33, u34, u35, u36, u37, u38, u39, u40, u41, u42, u43, u44, u45, u46, u47, u48, u49, u50, u51, u52, u53, u54, u55, u56, u57, u58, u59, u60, u61, u62, u63, u64, u65, u66, u67, u68, u69, u70, u71, rfl⟩, n2, fr, h, k, hnn, hI, hS, hG, hH⟩
      have c13 := hI.cn
      by_cases hmn : m ≤ n2
      · have HJ : ∃ n fr h k, SrchIn b o T R0 C n fr h k w2 ∧ Srch mn mx dm db s.data.toList n fr h k ∧ w.grownBy w2 (some b) ∧ min s.size mx ≤ n :=
          ⟨n2, fr, h, k, hI, hS, hG, by have := HM.out; omega⟩
        have HJJ := Lib.hid HJ
        clear HJ hI hS hG HI HS hH
        go_wp2
        go_step3
        exact Or.inr ⟨rfl, ⟨_, _, _, _, _, _, _, _, _, _, _, _, _, _, _, _, _, _, _, _, _, _, _, _, _, _, _, _, _, _, _, _, _, _, _, _, _, _, _, _, _, _, _, _, _, _, _, _, _, _, _, _, _, _, _, _, _, _, _, _, _, _, _, _, _, _, rfl⟩, HJJ.out⟩
      · have hms := HM.out
        have hz2 := HZ.out
        have ST := step_any b o T R0 C n2 fr h k s hs w2 (tab_grown hT HB.out hG) HB.out hI (by omega) hS.fmx hH
        have hsn := fun x => hS.step (by omega) (by omega) x
        have hfo := fun x => hS.found (by omega) (by omega) x
        have hen := hS.ended_found (by omega) (by omega : n2 < mx)
        rw [isAt_last] at hsn hfo
        obtain ⟨r, hr⟩ : ∃ r, r = rsum (s.data.toList.take (n2 + 1)) := ⟨_, rfl⟩
        rw [← hr] at ST hsn hfo
        have hrl : r < 2147483647 := by rw [hr]; exact rsum_lt _
        have hmI : ¬ ((m : Int) ≤ n2) := by omega
        have hnn2 : n ≤ n2 := hnn
        have hcn : cellNat w' b (o + 13) = n := HN.out
        have hcc := HC.out
        have LM := fun w' => isLast_any r dm hrl h4 h5 w'
        have LB := fun w' => isLast_any r db hrl h6 h7 w'
        have hfr := hS.fmx
        have hr' : rsum (s.data.toList.take (n2 + 1)) = r := hr.symm
        clear hI hS hH HI HS hr hms hz2
        go_wp2_with fail
        refine ST.mono ?_
        rintro e w3 ⟨rfl, hI3, hb3⟩
        have hG3 := grown_trans hG hb3
        have e15 := hI3.ch
        have e2 := hI3.cc 2 (by omega) _ hcc.c2
        have e3 := hI3.cc 3 (by omega) _ hcc.c3
        have e13 := hI3.cn
        have f16 := hI3.frozen (o + 16)
        have e16 := hI3.ck
        clear ST c13 hb3 hG
        by_cases hm1 : lastB r dm = true
        · have hcu := hfo hm1
          have HD : EndsAt mn mx dm db s.data.toList (n2 + 1) (n2 + 1) fr r k := ⟨hcu.symm, Or.inr hen⟩
          rw [hm1] at LM
          have H3 := Lib.hid hI3
          have HG3 := Lib.hid hG3
          clear hsn hfo hen hcu hI3 hG3 LB e3 e16 f16
          go_wp2
          go_quiet ((go_at_call 39; exact Calls.quiet_of_same ((LM _).mono fun _ _ h => ⟨h.1, h.2.symm⟩)))
          go_wp2
          simp only [Exit.jump2]
          go_ret
          exact ⟨n2 + 1, n2 + 1, fr, r, k, congrArg (fun x => Ending.returned (.int .i64 x)) (by omega), HD, H3.out.drewN _, grown_trans HG3.out (grown_below (below_drewN' (Below.refl _ _) _) _)⟩
        · have hm2 : lastB r dm = false := by simpa using hm1
          have hS3 := hsn hm2
          rw [isAt_last, hr'] at hS3
          rw [hm2] at LM
          clear hsn hfo hen hm1 hm2
          by_cases hb1 : lastB r db = true
          · rw [hb1] at LB
            rw [if_pos hb1] at hS3
            have HS3 := Lib.hid hS3
            have HI3 := Lib.hid hI3
            have HG3 := Lib.hid hG3
            clear hS3 hI3 hG3 hb1 f16 e16
            go_wp2
            go_quiet ((go_at_call 39; exact Calls.quiet_of_same ((LM _).mono fun _ _ h => ⟨h.1, h.2.symm⟩)))
            obtain ⟨W, hW⟩ : ∃ W, W = w3.drewN nq := ⟨_, rfl⟩
            have H4 : SrchIn b o T R0 C (n2 + 1) fr r k W := by rw [hW]; exact HI3.out.drewN nq
            have G4 : w.grownBy W (some b) := by rw [hW]; exact grown_trans HG3.out (grown_below (below_drewN' (Below.refl _ _) nq) _)
            rw [← hW]
            have d15 := H4.ch
            have d3 := H4.cc 3 (by omega) _ hcc.c3
            clear hW e15 e2 e3 e13 nq
            go_wp2
            go_quiet ((go_at_call 39; exact Calls.quiet_of_same ((LB _).mono fun _ _ h => ⟨h.1, h.2.symm⟩)))
            obtain ⟨V, hV⟩ : ∃ V, V = W.drewN nq := ⟨_, rfl⟩
            have H5 : SrchIn b o T R0 C (n2 + 1) fr r k V := by rw [hV]; exact H4.drewN nq
            have G5 : w.grownBy V (some b) := by rw [hV]; exact grown_trans G4 (grown_below (below_drewN' (Below.refl _ _) nq) _)
            rw [← hV]
            clear hV H4 G4 d15 d3 nq
            have a13 := H5.cn
            have a16 := H5.ck
            have b16 := H5.frozen (o + 16)
            have H6 := H5.setK (n2 + 1)
            have G6 : w.grownBy (V.setCell ⟨b, o + 16, none⟩ (.int .i64 ((n2 + 1 : Nat) : Int))) (some b) := grown_trans G5 (grown_set _ _ _ _)
            have HJ : ∃ n fr h k, SrchIn b o T R0 C n fr h k (V.setCell ⟨b, o + 16, none⟩ (.int .i64 ((n2 + 1 : Nat) : Int))) ∧ Srch mn mx dm db s.data.toList n fr h k ∧ w.grownBy (V.setCell ⟨b, o + 16, none⟩ (.int .i64 ((n2 + 1 : Nat) : Int))) (some b) := ⟨_, _, _, _, H6, HS3.out, G6⟩
            have HC6 : cellNat (V.setCell ⟨b, o + 16, none⟩ (.int .i64 ((n2 : Int) + 1))) b (o + 13) = n2 + 1 := H6.nat
            have HJJ := Lib.hid HJ
            have HCC := Lib.hid HC6
            clear HJ HC6 H5 G5 hcc
            go_wp2
            go_step3
            exact Or.inl ⟨rfl, ⟨⟨_, _, _, _, _, _, _, _, _, _, _, _, _, _, _, _, _, _, _, _, _, _, _, _, _, _, _, _, _, _, _, _, _, _, _, _, _, _, _, _, _, _, _, _, _, _, _, _, _, _, _, _, _, _, _, _, _, _, _, _, _, _, _, _, _, _, rfl⟩, HJJ.out⟩, by have h7 := HM.out; have h9 := HCC.out; have h8 : cellNat w' b (o + 13) = n := hcn; clear HJJ; omega⟩
          · have hb2 : lastB r db = false := by simpa using hb1
            rw [hb2] at LB
            rw [if_neg hb1] at hS3
            have HS3 := Lib.hid hS3
            have HI3 := Lib.hid hI3
            have HG3 := Lib.hid hG3
            clear hS3 hI3 hG3 hb1 hb2 f16 e16
            go_wp2
            go_quiet ((go_at_call 39; exact Calls.quiet_of_same ((LM _).mono fun _ _ h => ⟨h.1, h.2.symm⟩)))
            obtain ⟨W, hW⟩ : ∃ W, W = w3.drewN nq := ⟨_, rfl⟩
            have H4 : SrchIn b o T R0 C (n2 + 1) fr r k W := by rw [hW]; exact HI3.out.drewN nq
            have G4 : w.grownBy W (some b) := by rw [hW]; exact grown_trans HG3.out (grown_below (below_drewN' (Below.refl _ _) nq) _)
            rw [← hW]
            have d15 := H4.ch
            have d3 := H4.cc 3 (by omega) _ hcc.c3
            clear hW e15 e2 e3 e13 nq
            go_wp2
            go_quiet ((go_at_call 39; exact Calls.quiet_of_same ((LB _).mono fun _ _ h => ⟨h.1, h.2.symm⟩)))
            obtain ⟨V, hV⟩ : ∃ V, V = W.drewN nq := ⟨_, rfl⟩
            have H5 : SrchIn b o T R0 C (n2 + 1) fr r k V := by rw [hV]; exact H4.drewN nq
            have G5 : w.grownBy V (some b) := by rw [hV]; exact grown_trans G4 (grown_below (below_drewN' (Below.refl _ _) nq) _)
            rw [← hV]
            clear hV H4 G4 d15 d3 nq
            have HJ : ∃ n fr h k, SrchIn b o T R0 C n fr h k V ∧ Srch mn mx dm db s.data.toList n fr h k ∧ w.grownBy V (some b) := ⟨_, _, _, _, H5, HS3.out, G5⟩
            have HC6 := H5.nat
            have HJJ := Lib.hid HJ
            have HCC := Lib.hid HC6
            clear HJ HC6 H5 G5 hcc
            go_wp2
            go_step3
            exact Or.inl ⟨rfl, ⟨⟨_, _, _, _, _, _, _, _, _, _, _, _, _, _, _, _, _, _, _, _, _, _, _, _, _, _, _, _, _, _, _, _, _, _, _, _, _, _, _, _, _, _, _, _, _, _, _, _, _, _, _, _, _, _, _, _, _, _, _, _, _, _, _, _, _, _, rfl⟩, HJJ.out⟩, by have h7 := HM.out; have h9 := HCC.out; have h8 : cellNat w' b (o + 13) = n := hcn; clear HJJ; omega⟩
  · rintro a' w' ⟨⟨u6, u7, u8, u9, u10, u11, u12, u13, u14, u15, u16, u17, u18, u19, u20, u21, u22, u23, u24, u25, u26, u27, u28, u29, u30, u31, u32, u33, u34, u35, u36, u37, u38, u39, u40, u41, u42, u43, u44, u45, u46, u47, u48, u49, u50, u51, u52, u53, u54, u55, u56, u57, u58, u59, u60, u61, u62, u63, u64, u65, u66, u67, u68, u69, u70, u71, rfl⟩, n, fr, h, k, hI, hS, hG, hmn⟩
    have hcc := HC.out
    have hz2 := HZ.out
    clear hm hz
    have c1 := hI.cc 1 (by omega) _ hcc.c1
    have c16 := hI.ck
    have HI2 := Lib.hid hI
    have HG2 := Lib.hid hG
    by_cases hx : s.size < mx
    · have hmo := hS.more (by omega) (by omega)
      have HD : EndsAt mn mx dm db s.data.toList 0 n fr h k := ⟨hmo.symm, Or.inl ⟨rfl, hS⟩⟩
      clear HI HS hI hS hG hmo hcc hz2
      go_wp2
      try rw [Exit.noGoto_ret]
      go_ret
      exact ⟨0, n, fr, h, k, rfl, HD, HI2.out, HG2.out⟩
    · obtain ⟨_, hno⟩ := hS.none h1 (by omega) (by omega)
      have hen := hS.ended_none h1 h2 (by omega) (by omega)
      by_cases hk : 0 < k
      · rw [if_pos hk] at hno hen
        have HD : EndsAt mn mx dm db s.data.toList k n fr h k := ⟨hno.symm, Or.inr hen⟩
        have hki : (0 : Int) < k := by omega
        clear HI HS hI hS hG hno hcc hz2 hen hk
        go_wp2
        try rw [Exit.noGoto_ret]
        go_ret
        exact ⟨k, n, fr, h, k, rfl, HD, HI2.out, HG2.out⟩
      · rw [if_neg hk] at hno hen
        have HD : EndsAt mn mx dm db s.data.toList mx n fr h k := ⟨hno.symm, Or.inr hen⟩
        have hki : ¬ (0 : Int) < k := by omega
        clear HI HS hI hS hG hno hcc hz2 hen
        go_wp2
        try rw [Exit.noGoto_ret]
        go_ret
        exact ⟨mx, n, fr, h, k, rfl, HD, HI2.out, HG2.out⟩

end Go.Proofs.YtimllddlcjnikaaDoor
