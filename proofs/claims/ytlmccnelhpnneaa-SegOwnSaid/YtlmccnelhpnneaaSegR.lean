/- The walks of the document's Cut, All (segments). -/
import Derived.Test.YtlmccnelhpnneaaSegW
namespace Go.Proofs.Ytlmccnelhpnneaa
open Go.RowKit

set_option maxRecDepth 100000 in
set_option maxHeartbeats 4000000 in
/-- The document's Cut. -/
theorem rcuts_any (p : Option Addr) (c n0 : Nat) (ls : List (List UInt8)) (hn0 : n0 = ls.length) (hs : n0 ≤ 1000000) (C : Array Value) (a b d : Int) (hC : IsSeg C a b d) (w : World) (h : FpsAt 32 ls (.slice p n0 c) w) :
    Calls Try.prog 12 #[.slice p n0 c, .agg C] w fun e w' => e = .returned (.int .i64 (segI a b d ls : Nat)) ∧ Below w.heap.size w w' := by
  have MA := rmays_any C a b d hC
  have HLI : Hid ((Try.prog.info? 24).map (·.size) = some C.size) := by rw [hC.size]; exact info_conf
  have gC := heap_alloc_last w (.cells C 24)
  have K0 := box_below w (.cells C 24)
  by_cases hM : MayS a b d
  · have hcu : segI a b d ls = segN (markB d.toNat) a.toNat b.toNat ls := by unfold segI; rw [if_pos hM]
    rw [hcu]
    obtain ⟨mn, mx, dv, rfl, rfl, rfl, h1, h2, h3, h4, h5⟩ := mayS_nats hM
    rw [decide_eq_true hM] at MA
    simp only [Int.toNat_natCast]
    have HF : Hid (FpsAt 32 ls (.slice p ls.length c) (w.alloc (.cells C 24))) := by rw [← hn0]; exact h.later K0
    have HC := Lib.hid hC
    have HN := Lib.hid hn0
    obtain ⟨w0, hw0⟩ : ∃ w0, w0 = w.alloc (.cells C 24) := ⟨_, rfl⟩
    have g0 : Hid (w0.heap[w.heap.size]? = some (.cells C 24 (0, 0))) := by rw [hw0]; exact gC
    have K0' : Hid (Below w.heap.size w w0) := by rw [hw0]; exact K0
    rw [← hw0] at HF
    have HW0 := Lib.hid hw0
    have hcell : ∀ wr : World, Kept w0 wr → ∀ i v, C[i]? = some v → wr.cell? ⟨w.heap.size, i, none⟩ = some v := fun wr K i v hv => by
      rw [cell_of_row _ _ _ _ _ _ (K.row g0.out)]; exact hv
    have HCELL := Lib.hid hcell
    clear hcu hM hC hcell hw0 hn0 h
    go_enter Try.func12, Try.ntmps12
    go_wp2_with (with_reducible refine wpList_load_row rfl _ _ rfl w.heap.size rfl 24 C (0, 0) _ gC Try.underlying24 rfl HLI.out ?_)
    refine (MA _).mono ?_
    rintro e w1 ⟨rfl, hb1⟩
    rw [← HW0.out] at hb1
    have K1 : Hid (Kept w0 w1) := hb1
    have e0 := HCELL.out _ hb1 4 _ HC.out.c4
    clear gC K0 HW0 MA hb1
    go_wp2
    go_loopw [5] (fun x wr => ∃ n : Nat, mn ≤ n ∧ (n = mn ∨ n ≤ n0 + 1 ∧ n ≤ mx) ∧ x = .int .i64 n ∧ Hid (∀ i, mn ≤ i → i < n → endsAt (markB dv) mx ls i = false) ∧ Hid (Kept w0 wr)) (fun x _ => n0 + 1 - (intOf x).toNat)
    case atStart => exact ⟨mn, Nat.le_refl _, Or.inl rfl, rfl, Lib.hid (fun i x y => by omega), K1⟩
    case round =>
      clear e0 K1
      obtain ⟨n, hn1, hn2, rfl, HNO, K⟩ := hrel
      have e1 := HCELL.out _ K.out 5 _ HC.out.c5
      have e2 := HCELL.out _ K.out 6 _ HC.out.c6
      by_cases hlt : n ≤ n0
      · have hni : (n : Int) ≤ n0 := by omega
        have hnl : n - 1 < ls.length := by rw [← HN.out]; omega
        have hend : endsAt (markB dv) mx ls n = (n == mx || markB dv ls[n - 1]) := by
          unfold endsAt; rw [List.getElem?_eq_getElem hnl]; rfl
        have hfind : endsAt (markB dv) mx ls n = true → segN (markB dv) mn mx ls = n := fun he => by
          have := HN.out
          exact upTo_find _ n _ mn hn1 (by omega) (by omega) HNO.out he
        by_cases hx : n = mx
        · have bx : ((n : Int) == (mx : Int)) = true := by rw [hx]; simp
          have HR : Hid (segN (markB dv) mn mx ls = n) := hfind (by rw [hend]; simp [hx])
          clear hend hfind hnl HNO
          subst hx
          go_wp2
          go_quiet (fail)
          go_wp2
          go_ret
          exact ⟨congrArg (fun x : Nat => Ending.returned (.int .i64 x)) HR.out.symm, below_drewN' (Below.then' K0'.out K.out K0'.out.size) _⟩
        · have bx : ((n : Int) == (mx : Int)) = false := beq_eq_false_iff_ne.2 (by omega)
          obtain ⟨b, off, cs, t, fr, hp, hg, E1⟩ := HF.out.elem hnl
          subst hp
          have HG : Hid (wr.heap[b]? = some (.cells cs t fr)) := K.out.row hg
          have HEL := Lib.hid E1
          have hx32 := HF.out.1 _ (List.getElem_mem hnl)
          have NU0 := fun w' => rnum_any ls[n - 1] hx32 w'
          have HE1 := Lib.hid e1
          have HE2 := Lib.hid e2
          have v1 : IntKind.i64.wrap ((n : Int) - 1) = ((n - 1 : Nat) : Int) := by rw [show (n : Int) - 1 = ((n - 1 : Nat) : Int) by omega]; exact IntWalk.i64_in _ (by omega)
          have IX1 := fun w' => idx_at b off n0 c (n - 1) (by omega) w'
          have hmk := mark_int ls[n - 1] dv h4
          have hrl := numL_lt ls[n - 1]
          obtain ⟨m, hm⟩ : ∃ m, m = markB dv ls[n - 1] := ⟨_, rfl⟩
          rw [← hm] at hmk hend
          obtain ⟨r, hr⟩ : ∃ r, r = numL ls[n - 1] := ⟨_, rfl⟩
          obtain ⟨X, hX⟩ : ∃ X, X = fpA ls[n - 1] := ⟨_, rfl⟩
          rw [← hX, ← hr] at NU0
          rw [← hX] at HEL
          rw [← hr] at hmk hrl
          have em : ((r : Int)).tmod (dv : Int) = (r : Int) % dv := Int.tmod_eq_emod_of_nonneg (by omega)
          have hge : 0 ≤ (r : Int) % dv := Int.emod_nonneg _ (by omega)
          have hdlt : (r : Int) % dv < dv := Int.emod_lt_of_pos _ (by omega)
          obtain ⟨q, hq⟩ : ∃ q : Nat, (r : Int) % dv = q := ⟨((r : Int) % dv).toNat, by omega⟩
          rw [em, hq] at hmk
          rw [hq] at em hdlt
          have hd0 : ¬ (dv = 0) := by omega
          have v2 : IntKind.i64.wrap (r : Int) = (r : Int) := IntWalk.i64_in _ (by omega)
          have v3 : IntKind.i64.wrap (q : Int) = (q : Int) := IntWalk.i64_in _ (by omega)
          have NU := NU0
          have HEND : Hid (endsAt (markB dv) mx ls n = m) := by rw [hend, beq_eq_false_iff_ne.2 hx]; rfl
          have HFI := Lib.hid hfind
          have HX := Lib.hid hx
          clear hend hfind hX hr hm NU0 hge hq hx32 hg E1 e1 e2 hx
          go_wp2_with fail
          refine wp_region_kept (by kernel_rfl) (by kernel_rfl) ?_
          refine wpQuiet_pure (v := ?_) (by kernel_rfl) ?_ (fun K hK => ?_)
          case refine_2 => intro W _; go_simp; try with_reducible rfl
          go_simp
          refine hK _ ?_; clear hK K
          refine wpQuiet_pure (v := ?_) (by kernel_rfl) ?_ (fun K hK => ?_)
          case refine_2 => intro W _; go_simp; try with_reducible rfl
          go_simp
          refine hK _ ?_; clear hK K
          refine wpQuiet_load_int (by kernel_rfl) _ _ rfl ⟨w.heap.size, 5, none⟩ rfl _ Try.underlying3 _ (fun _ h => h.cell HE1.out) (fun K hK => ?_)
          go_simp
          refine hK _ ?_; clear hK K
          refine wpQuiet_pure (by kernel_rfl) (.bool false) (fun W _ => by go_simp) (fun K hK => ?_)
          go_simp
          refine hK _ ?_; clear hK K
          refine wpQuiet_pure (v := ?_) (by kernel_rfl) ?_ (fun K hK => ?_)
          case refine_2 => intro W _; go_simp; try with_reducible rfl
          go_simp
          refine hK _ ?_; clear hK K
          refine wpQuiet_pure (v := ?_) (by kernel_rfl) ?_ (fun K hK => ?_)
          case refine_2 => intro W _; go_simp; try with_reducible rfl
          go_simp
          refine hK _ ?_; clear hK K
          refine wpQuiet_pure (v := ?_) (by kernel_rfl) ?_ (fun K hK => ?_)
          case refine_2 => intro W _; go_simp; try with_reducible rfl
          go_simp
          refine hK _ ?_; clear hK K
          refine wpQuiet_pure (v := ?_) (by kernel_rfl) ?_ (fun K hK => ?_)
          case refine_2 => intro W _; go_simp; try with_reducible rfl
          go_simp
          refine hK _ ?_; clear hK K
          refine wpQuiet_pure (v := ?_) (by kernel_rfl) ?_ (fun K hK => ?_)
          case refine_2 => intro W _; go_simp; try with_reducible rfl
          go_simp
          refine hK _ ?_; clear hK K
          refine wpQuiet_load_sub (by kernel_rfl) _ _ rfl b (off + (n - 1) * 32) 32 rfl t cs fr _ (fun _ h => h.row HG.out) Try.underlying37 rfl infoFp _ HEL.out (fun K hK => ?_)
          go_simp
          refine hK _ ?_; clear hK K
          refine wpQuiet_call (by kernel_rfl) _ _ _ (fun W => by go_simp) (fun W h => Calls.kept_of h (NU W)) (fun K hK => ?_)
          go_simp
          refine hK _ ?_; clear hK K
          refine wpQuiet_pure (by kernel_rfl) (.int .i64 r) (fun W _ => by go_simp) (fun K hK => ?_)
          go_simp
          refine hK _ ?_; clear hK K
          refine wpQuiet_pure (v := ?_) (by kernel_rfl) ?_ (fun K hK => ?_)
          case refine_2 => intro W _; go_simp; try with_reducible rfl
          go_simp
          refine hK _ ?_; clear hK K
          refine wpQuiet_load_int (by kernel_rfl) _ _ rfl ⟨w.heap.size, 6, none⟩ rfl _ Try.underlying3 _ (fun _ h => h.cell HE2.out) (fun K hK => ?_)
          go_simp
          refine hK _ ?_; clear hK K
          refine wpQuiet_pure (by kernel_rfl) (.int .i64 q) (fun W _ => by go_simp) (fun K hK => ?_)
          go_simp
          refine hK _ ?_; clear hK K
          refine wpQuiet_pure (by kernel_rfl) (.bool m) (fun W _ => by go_simp) (fun K hK => ?_)
          go_simp
          refine hK _ ?_; clear hK K
          refine wpQuiet_pure (by kernel_rfl) (.bool m) (fun W _ => by go_simp) (fun K hK => ?_)
          go_simp
          refine hK _ ?_; clear hK K
          refine wpQuiet_nil ?_
          intro w3 hk3
          have K3 : Hid (Kept w0 w3) := K.out.then hk3
          clear em hmk hdlt NU v2 v3 HE1 HE2 HEL IX1
          cases m with
          | true =>
            have HR : Hid (segN (markB dv) mn mx ls = n) := HFI.out HEND.out
            go_wp2
            go_ret
            exact ⟨congrArg (fun x : Nat => Ending.returned (.int .i64 x)) HR.out.symm, Below.then' K0'.out K3.out K0'.out.size⟩
          | false =>
            go_wp2
            go_roundw
            case rel =>
              have hx := HX.out
              refine ⟨n + 1, by omega, Or.inr (by omega), congrArg (Value.int .i64) (by omega), Lib.hid fun i x y => ?_, K3⟩
              by_cases hi : i = n
              · rw [hi]; exact HEND.out
              · exact HNO.out i x (by omega)
            case measure => simp [intOf]; omega
      · have hni : ¬ (n : Int) ≤ n0 := by omega
        have HR : Hid (segN (markB dv) mn mx ls = 0) := by
          have := HN.out
          exact (segN_zero _ _ _ h1 _).2 fun i x y => HNO.out i x (by omega)
        go_wp2
        go_ret
        exact ⟨congrArg (fun x : Nat => Ending.returned (.int .i64 x)) HR.out.symm, Below.then' K0'.out K.out K0'.out.size⟩
  · have hcu : segI a b d ls = 0 := by unfold segI; rw [if_neg hM]
    rw [hcu]
    rw [decide_eq_false hM] at MA
    clear hcu hC
    go_enter Try.func12, Try.ntmps12
    go_wp2_with (with_reducible refine wpList_load_row rfl _ _ rfl w.heap.size rfl 24 C (0, 0) _ gC Try.underlying24 rfl HLI.out ?_)
    refine (MA _).mono ?_
    rintro e w1 ⟨rfl, hb1⟩
    go_wp2
    go_ret
    exact ⟨rfl, Below.then' K0 hb1 K0.size⟩

end Go.Proofs.Ytlmccnelhpnneaa
