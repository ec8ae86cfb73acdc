/- The document's Runs. -/
import Derived.Test.YtppbknlhknadbaaGB
namespace Go.Proofs.Ytppbknlhknadbaa
open Go.RowKit

theorem infoRun : (Try.prog.info? 66).map (fun i => (i.zero, i.size, i.bytes)) = some (some (.agg #[.int .i64 0, .int .i64 0]), 2, 16) := by kernel_rfl

/-- What runs there are of the first k. -/
theorem runsF_step (f : Nat → Bool) (k : Nat) : runsF f (k + 1) = if f k = true then (if 0 < k ∧ f (k - 1) = true then bump (runsF f k) else runsF f k ++ [((k : Int), 1)]) else runsF f k := rfl
theorem runsF_pos (f : Nat → Bool) (k : Nat) (h0 : 0 < k) (hf : f (k - 1) = true) : 0 < (runsF f k).length := by
  obtain ⟨pre, r, e, _⟩ := (runsF_ok f k).last h0 hf
  rw [e]; simp

set_option maxRecDepth 100000 in
set_option maxHeartbeats 4000000 in
theorem rruns_any (b : Nat) (f : Nat → Bool) (w : World) (h : RowF b f w) :
    Calls Try.prog 78 #[.slice (some ⟨b, 0, none⟩) 8192 8192] w fun e w' => ∃ v, e = .returned v ∧ w'.ownsRow w.heap.size 66 2 v (runsA f).length (runC (runsA f)) ∧ Below w.heap.size w w' := by
  obtain ⟨ir, hir, hx⟩ := Option.map_eq_some_iff.1 infoRun
  simp only [Prod.mk.injEq] at hx
  obtain ⟨hz0, hz1, hz2⟩ := hx
  have HIR := Lib.hid hir
  have HZ0 := Lib.hid hz0
  have HZ1 := Lib.hid hz1
  have HZ2 := Lib.hid hz2
  have H := Lib.hid h
  have O0 : Hid (w.ownsRow w.heap.size 66 2 (.slice none 0 0) (runsF f 0).length (runC (runsF f 0))) := Lib.hid (World.ownsRow_nil _ _ _ _)
  have K0 : Hid (Kept w w) := Lib.hid (Kept.refl w)
  clear hir hz0 hz1 hz2 h
  go_enter Try.func78, Try.ntmps78
  go_wp2
  go_loopg [3, 4] 8192 (fun gh s3 s4 wx => ∃ k : Nat, k + gh = 8192 ∧ s4 = .int .i64 k ∧ Hid (wx.ownsRow w.heap.size 66 2 s3 (runsF f k).length (runC (runsF f k))) ∧ Hid (Kept w wx))
  case atStart => exact ⟨0, by omega, rfl, O0, K0⟩
  case round =>
    clear O0 K0
    obtain ⟨k, hk, rfl, HO, HK⟩ := hrel
    obtain ⟨k1, hk1⟩ : ∃ k1, k1 = k + 1 := ⟨_, rfl⟩
    have v1 : IntKind.i64.wrap ((k : Int) + 1) = (k1 : Int) := by rw [show (k : Int) + 1 = (k1 : Int) by omega]; exact IntWalk.i64_in _ (by omega)
    obtain ⟨pv, cv, hv, -, -⟩ := own_slice HO.out
    subst hv
    have hstep := runsF_step f k
    rw [← hk1] at hstep
    by_cases hkn : k < 8192
    · have hki : (k : Int) < 8192 := by omega
      have bk : decide ((k : Int) < 8192) = true := by simpa using hki
      have hki0 : (0 : Int) ≤ k := by omega
      have d1 := (H.out.kept HK.out).cell k hkn
      have hlen := runsF_len f k
      cases hfk : f k with
      | false =>
        rw [hfk, if_neg (by decide)] at hstep
        rw [hfk] at d1
        have HO2 : Hid (wr.ownsRow w.heap.size 66 2 (.slice pv (runsF f k).length cv) (runsF f k1).length (runC (runsF f k1))) := Lib.hid (by rw [hstep]; exact HO.out)
        obtain ⟨n, hn⟩ : ∃ n, n = (runsF f k).length := ⟨_, rfl⟩
        rw [← hn] at HO2 ⊢
        clear hstep hn HO hlen hfk
        go_wp2
        go_roundg (8192 - k1)
        case measure => omega
        case rel => exact ⟨k1, by omega, by first | rfl | (congr 1; omega), HO2, HK⟩
      | true =>
        rw [hfk, if_pos rfl] at hstep
        rw [hfk] at d1
        by_cases h0 : 0 < k ∧ f (k - 1) = true
        · rw [if_pos h0] at hstep
          have hpos := runsF_pos f k h0.1 h0.2
          obtain ⟨km, hkm⟩ : ∃ km, km = k - 1 := ⟨_, rfl⟩
          have hkm0 : (k : Int) > 0 := by omega
          have v2 : IntKind.i64.wrap ((k : Int) - 1) = (km : Int) := by rw [show (k : Int) - 1 = (km : Int) by omega]; exact IntWalk.i64_in _ (by omega)
          have d2 := (H.out.kept HK.out).cell km (by omega)
          rw [hkm, h0.2, ← hkm] at d2
          have i1 : (0 : Int) ≤ km := by omega
          have i2 : (km : Int) < 8192 := by omega
          have hcb := runC_bump (runsF f k) hpos
          obtain ⟨n, hn⟩ : ∃ n, n = (runsF f k).length := ⟨_, rfl⟩
          rw [← hn] at hcb hpos
          obtain ⟨m, hm⟩ : ∃ m, m = n - 1 := ⟨_, rfl⟩
          have v3 : IntKind.i64.wrap ((n : Int) - 1) = (m : Int) := by rw [show (n : Int) - 1 = (m : Int) by omega]; exact IntWalk.i64_in _ (by omega)
          have i3 : (0 : Int) ≤ m := by omega
          have i4 : (m : Int) < n := by omega
          rw [← hm] at hcb
          have hml : m < (runsF f k).length := by omega
          have hgd : (runsF f k).getD m (0, 0) = (runsF f k)[m] := by rw [List.getD_eq_getElem?_getD, List.getElem?_eq_getElem hml]; rfl
          rw [hgd] at hcb
          have hnat := (runsF_ok f k).nat _ (List.getElem_mem hml)
          have hgc := (runC_get (runsF f k) m hml).2
          obtain ⟨x, hx⟩ : ∃ x, x = (runsF f k)[m].2 := ⟨_, rfl⟩
          rw [← hx] at hcb hgc hnat
          have v4 : IntKind.i64.wrap (x + 1) = x + 1 := IntWalk.i64_in _ (by omega)
          have ho := HO.out
          rcases ho.2 with ⟨_, e0⟩ | ⟨g, cap, cur, hve, hbg, hgg, _, _, _, _⟩
          · omega
          simp only [Value.slice.injEq] at hve
          obtain ⟨rfl, -, rfl⟩ := hve
          rw [← hn] at ho ⊢
          have d3 : wr.cell? ⟨g, m * 2 + 1, none⟩ = some (.int .i64 x) := by rw [ho.cellAt (m * 2 + 1) (by omega)]; exact hgc
          have f3 : wr.frozen? ⟨g, m * 2 + 1, none⟩ = false := ho.frozenAt _
          have HO2 : Hid ((wr.setCell ⟨g, m * 2 + 1, none⟩ (.int .i64 (x + 1))).ownsRow w.heap.size 66 2 (.slice (some ⟨g, 0, none⟩) n cv) (runsF f k1).length (runC (runsF f k1))) := Lib.hid (by
            rw [hstep, hcb, bump_len, ← hn]
            exact (ho.stored (m * 2 + 1) _).1)
          have HK2 : Hid (Kept w (wr.setCell ⟨g, m * 2 + 1, none⟩ (.int .i64 (x + 1)))) := Lib.hid (Below.setCell HK.out hbg _)
          clear hstep hn HO hlen hfk h0 hpos hkm hcb hm hml hgd hnat hgc hx ho hgg hbg
          go_wp2
          go_roundg (8192 - k1)
          case measure => omega
          case rel => exact ⟨k1, by omega, by first | rfl | (congr 1; omega), HO2, HK2⟩
        · rw [if_neg h0] at hstep
          obtain ⟨n, hn⟩ : ∃ n, n = (runsF f k).length := ⟨_, rfl⟩
          have ho := HO.out
          rw [← hn] at ho ⊢
          have HOA : Hid ((wr.alloc (.cells #[.int .i64 (k : Int), .int .i64 1] 66)).ownsRow w.heap.size 66 2 (.slice pv n cv) n (runC (runsF f k))) := Lib.hid (ho.alloc _)
          have HFN : Hid (FlatAt 2 1 [.int .i64 (k : Int), .int .i64 1] (.slice (some ⟨wr.heap.size, 0, none⟩) 1 1) (wr.alloc (.cells #[.int .i64 (k : Int), .int .i64 1] 66))) := Lib.hid (FlatAt.new wr 66 2 1 1 #[.int .i64 (k : Int), .int .i64 1] rfl (by intro x hx; simp at hx; rcases hx with rfl | rfl <;> rfl))
          have HKS : Hid (w.heap.size ≤ wr.heap.size) := Lib.hid HK.out.size
          have hn8 : n ≤ 8192 := by omega
          have HLN := Lib.hid hn
          have HST := Lib.hid hstep
          have hcond : (0 < k → f (k - 1) = false) := fun hk0 => by
            cases e : f (k - 1) with
            | false => rfl
            | true => exact absurd ⟨hk0, e⟩ h0
          have HEND : Hid (∀ v2 w2, w2.ownsRow w.heap.size 66 2 v2 (n + 1) (runC (runsF f k) ++ [.int .i64 (k : Int), .int .i64 1]) → (wr.alloc (.cells #[.int .i64 (k : Int), .int .i64 1] 66)).grownBy w2 (Value.slice pv n cv).ownBlock →
              Hid (w2.ownsRow w.heap.size 66 2 v2 (runsF f k1).length (runC (runsF f k1))) ∧ Hid (Kept w w2)) := Lib.hid (fun v2 w2 h1 h2 => ⟨Lib.hid (by
                rw [HST.out, List.length_append, runC_append, ← HLN.out]; exact h1), Lib.hid ((HK.out.then (box_below wr _)).grown h2 (Nat.le_trans HKS.out (by simp)) (fun j hj => (ho.lt j hj).1))⟩)
          by_cases hk0 : 0 < k
          · obtain ⟨km, hkm⟩ : ∃ km, km = k - 1 := ⟨_, rfl⟩
            have hkm0 : (k : Int) > 0 := by omega
            have v2 : IntKind.i64.wrap ((k : Int) - 1) = (km : Int) := by rw [show (k : Int) - 1 = (km : Int) by omega]; exact IntWalk.i64_in _ (by omega)
            have d2 := (H.out.kept HK.out).cell km (by omega)
            rw [hkm, hcond hk0, ← hkm] at d2
            have i1 : (0 : Int) ≤ km := by omega
            have i2 : (km : Int) < 8192 := by omega
            clear hstep hn HO hlen hfk h0 hcond hkm ho
            go_wp2_with (at_builtin; refine wpList_append_flat rfl _ _ 22 rfl w.heap.size 66 ir (.agg #[.int .i64 0, .int .i64 0]) 2 16 Try.underlying22 HIR.out HZ0.out HZ1.out HZ2.out rfl (by decide) _ n _ rfl HOA.out _ 1 _ rfl HFN.out ?wa1 ?wa2 ?wa3 ?_)
            case wa1 => unfold maxLen; omega
            case wa2 => omega
            try case wa3 => have := HKS.out; first | omega | (simp; omega)
            intro v2 w2 hown2 hgr2 _
            obtain ⟨HO2, HK2⟩ := HEND.out v2 w2 hown2 hgr2
            clear hown2 hgr2
            go_wp2
            go_roundg (8192 - k1)
            case measure => omega
            case rel => exact ⟨k1, by omega, by first | rfl | (congr 1; omega), HO2, HK2⟩
          · have hkm0 : ¬ (k : Int) > 0 := by omega
            clear hstep hn HO hlen hfk h0 hcond ho
            go_wp2_with (at_builtin; refine wpList_append_flat rfl _ _ 22 rfl w.heap.size 66 ir (.agg #[.int .i64 0, .int .i64 0]) 2 16 Try.underlying22 HIR.out HZ0.out HZ1.out HZ2.out rfl (by decide) _ n _ rfl HOA.out _ 1 _ rfl HFN.out ?wa1 ?wa2 ?wa3 ?_)
            case wa1 => unfold maxLen; omega
            case wa2 => omega
            try case wa3 => have := HKS.out; first | omega | (simp; omega)
            intro v2 w2 hown2 hgr2 _
            obtain ⟨HO2, HK2⟩ := HEND.out v2 w2 hown2 hgr2
            clear hown2 hgr2
            go_wp2
            go_roundg (8192 - k1)
            case measure => omega
            case rel => exact ⟨k1, by omega, by first | rfl | (congr 1; omega), HO2, HK2⟩
    · have hke : k = 8192 := by omega
      have hki : ¬ (k : Int) < 8192 := by omega
      have bk : decide ((k : Int) < 8192) = false := by simpa using hki
      have HE : Hid (wr.ownsRow w.heap.size 66 2 (.slice pv (runsF f k).length cv) (runsA f).length (runC (runsA f))) := Lib.hid (by have h := HO.out; rw [hke] at h ⊢; exact h)
      obtain ⟨n, hn⟩ : ∃ n, n = (runsF f k).length := ⟨_, rfl⟩
      rw [← hn] at HE ⊢
      clear hstep hn HO hke
      go_wp2
      go_ret
      exact ⟨_, rfl, HE.out, HK.out⟩

end Go.Proofs.Ytppbknlhknadbaa
