/- The document's disk: the walk of New. -/
import Derived.Test.YtpnnlpmkgglgdaaDkL
namespace Go.Proofs.Ytpnnlpmkgglgdaa
open Go.RowKit

theorem infoB : (Try.prog.info? 5).map (fun i => (i.zero, i.size, i.bytes)) = some (some (.int .u8 0), 1, 1) := by kernel_rfl

/-- 128 bytes of 0. -/
def zeroZ : Array Value := (List.replicate 128 (Value.int .u8 0)).toArray
def zeroT : List UInt8 := List.replicate 128 0

theorem make_zero (w : World) : (Instr.makeSlice 50 (.int .i64 128) (.int .i64 128)).run Try.prog w = .ok (.slice (some ⟨w.heap.size, 0, none⟩) 128 128) (w.alloc (.cells zeroZ 5)) := by
  obtain ⟨i, hi, hx⟩ := Option.map_eq_some_iff.1 infoB
  simp only [Prod.mk.injEq] at hx
  obtain ⟨h0, h1, h2⟩ := hx
  have hr := run_makeSlice (P := Try.prog) w 50 5 i (.int .u8 0) Try.underlying50 hi h0 .i64 .i64 128 128 (by omega) (by omega) (by rw [h1]; omega) (by rw [h2]; omega) (by omega)
  rw [hr]
  have e : madeCells (Value.int .u8 0).cells ((128 : Int).toNat * i.size) = zeroZ := by rw [h1]; kernel_rfl
  rw [e]
  rfl

theorem conv_zero (w : World) (b : Nat) (hb : w.heap[b]? = some (.cells zeroZ 5 (0, 0))) : (convert 50 9 (.slice (some ⟨b, 0, none⟩) 128 128)).run Try.prog w = .ok (.string (str zeroT)) w := by
  refine conv_bytes w 50 9 5 b 128 128 zeroT (by simp [zeroT]) Try.underlying50 Try.underlying5 Try.underlying9 (fun j hj => ?_)
  have hj2 : j < 128 := by simpa [zeroT] using hj
  rw [cell_of_row _ _ _ _ _ _ hb]
  have e : zeroT[j]'hj = 0 := by unfold zeroT; exact List.getElem_replicate _
  refine Eq.trans ?_ (congrArg (fun x : UInt8 => some (Value.int .u8 (x.toNat : Int))) e.symm)
  show (List.replicate 128 (Value.int .u8 0)).toArray[j]? = _
  rw [List.getElem?_toArray, List.getElem?_replicate, if_pos hj2]
  rfl

set_option maxRecDepth 100000 in
set_option maxHeartbeats 4000000 in
/-- The document's New. -/
theorem rnew_any (n : Nat) (hn : n ≤ 8192) (w : World) :
    Calls Try.prog 9 #[.int .i64 n] w fun e w' => ∃ vs, e = .returned (.pointer (some ⟨w.heap.size, 0, none⟩)) ∧ RAt w.heap.size w.heap.size (Dk.new n) vs (.slice none 0 0) w' ∧ Below w.heap.size w w' := by
  obtain ⟨is, his, hx⟩ := Option.map_eq_some_iff.1 infoS
  simp only [Prod.mk.injEq] at hx
  obtain ⟨hz0, hz1, hz2⟩ := hx
  have HIS := Lib.hid his
  have HZ0 := Lib.hid hz0
  have HZ1 := Lib.hid hz1
  have HZ2 := Lib.hid hz2
  obtain ⟨g, hg⟩ : ∃ g, g = w.heap.size := ⟨_, rfl⟩
  rw [← hg]
  have R0 : Hid (RAt g g (half (List.replicate 0 zeroT)) (.slice none 0 0) (.slice none 0 0) (w.alloc (.cells (rA (half []) (.slice none 0 0) (.slice none 0 0)) 54))) := Lib.hid
    ⟨Nat.le_refl _, by rw [hg]; exact heap_alloc_new w _, World.ownsRow_nil _ _ _ _, World.ownsRow_nil _ _ _ _⟩
  have K0 : Hid (Kept w (w.alloc (.cells (rA (half []) (.slice none 0 0) (.slice none 0 0)) 54))) := Lib.hid (box_below _ _)
  have HG := Lib.hid hg
  have hmk := fun w' => make_zero w'
  have hcv := fun w' b hb => conv_zero w' b hb
  have hzo : ∀ x ∈ zeroZ.toList, x.oneCell' = true := by intro x hx; simp [zeroZ] at hx; subst hx; rfl
  obtain ⟨Z, hZ⟩ : ∃ Z, Z = zeroZ := ⟨_, rfl⟩
  rw [← hZ] at hmk hcv
  obtain ⟨tk, htk⟩ : ∃ tk, tk = str zeroT := ⟨_, rfl⟩
  rw [← htk] at hcv
  have HTK := Lib.hid htk
  clear hz0 hz1 hz2 his hzo hZ htk
  go_enter Try.func9, Try.ntmps9
  go_wp2
  rw [← HG.out]
  clear hg
  go_loopg [4] n (fun gh s4 wx => ∃ (k : Nat) (vs : Value), k + gh = n ∧ s4 = .int .i64 (k : Nat) ∧ Hid (RAt g g (half (List.replicate k zeroT)) vs (.slice none 0 0) wx) ∧ Hid (Kept w wx))
  case atStart => exact ⟨0, _, by omega, rfl, R0, K0⟩
  case round =>
    clear R0 K0
    obtain ⟨k, vs, hk, rfl, HR, HK⟩ := hrel
    obtain ⟨k1, hk1⟩ : ∃ k1, k1 = k + 1 := ⟨_, rfl⟩
    have v1 : IntKind.i64.wrap ((k : Int) + 1) = (k1 : Int) := by rw [show (k : Int) + 1 = (k1 : Int) by omega]; exact IntWalk.i64_in _ (by omega)
    by_cases hkm : k < n
    · have hki : (k : Int) < n := by omega
      have bk : decide ((k : Int) < (n : Int)) = true := by simpa using hki
      have hr := HR.out
      have hlen : (half (List.replicate k zeroT)).stands.length = k := by show (List.replicate k zeroT).length = k; simp
      have S0 : wr.drew.cell? ⟨g, 0, none⟩ = some vs := hr.cell 0 _ rfl
      have HGW : Hid (g ≤ wr.heap.size) := Lib.hid (Nat.le_of_lt (Array.getElem?_eq_some_iff.1 hr.row).1)
      have KX : Kept wr (wr.alloc (.cells Z 5)) := box_below _ _
      have KY : Kept wr ((wr.alloc (.cells Z 5)).alloc (.cells #[.string tk] 9)).drew := Below.drew (KX.then (box_below _ _))
      have S1 : (wr.alloc (.cells Z 5)).drew.cell? ⟨g, 0, none⟩ = some vs := Kept.cell KX S0
      have S2 : ((wr.alloc (.cells Z 5)).alloc (.cells #[.string tk] 9)).drew.cell? ⟨g, 0, none⟩ = some vs := Kept.cell KY S0
      have cv : (convert 50 9 (.slice (some ⟨wr.heap.size, 0, none⟩) 128 128)).run Try.prog (wr.alloc (.cells Z 5)).drew = .ok (.string tk) (wr.alloc (.cells Z 5)).drew := hcv _ _ (heap_alloc_new wr _)
      have HRW : Hid (RAt g g (half (List.replicate k zeroT)) vs (.slice none 0 0) ((wr.alloc (.cells Z 5)).alloc (.cells #[.string tk] 9)).drew) := Lib.hid (HR.out.kept KY)
      have HST1 : Hid (((wr.alloc (.cells Z 5)).alloc (.cells #[.string tk] 9)).drew.ownsRow g 9 1 vs k (stC (List.replicate k (List.replicate 128 0)))) := Lib.hid (by have h := HRW.out.st; rw [hlen] at h; exact h)
      have HFN : Hid (FlatAt 1 1 [.string tk] (.slice (some ⟨wr.heap.size + 1, 0, none⟩) 1 1) ((wr.alloc (.cells Z 5)).alloc (.cells #[.string tk] 9)).drew) := Lib.hid (by have h := FlatAt.new (wr.alloc (.cells Z 5)) 9 1 1 1 #[.string tk] rfl (by intro x hx; simp at hx; subst hx; rfl); rw [show (wr.alloc (.cells Z 5)).heap.size = wr.heap.size + 1 by simp] at h; exact h)
      have HKW : Hid (Kept w ((wr.alloc (.cells Z 5)).alloc (.cells #[.string tk] 9)).drew) := Lib.hid (HK.out.then KY)
      have HEND := Lib.hid (fun (v' : Value) (w4 : World) (ho : w4.ownsRow g 9 1 v' (k + 1) (stC (List.replicate k (List.replicate 128 0)) ++ [.string tk])) (hg : ((wr.alloc (.cells Z 5)).alloc (.cells #[.string tk] 9)).drew.grownBy w4 vs.ownBlock) =>
        (show Hid (RAt g g (half (List.replicate k1 zeroT)) v' (.slice none 0 0) (w4.setCell ⟨g, 0, none⟩ v')) ∧ Hid (Kept w (w4.setCell ⟨g, 0, none⟩ v')) from by
          refine ⟨?_, ?_⟩
          · rw [hk1, List.replicate_succ']
            refine RAt.more HRW.out hg ?_
            rw [List.length_replicate, ← HTK.out]
            exact ho
          · have h1 : Kept w w4 := HKW.out.grown hg HKW.out.size (fun kk hk => by have := (HST1.out.lt kk hk).1; have := HG.out; omega)
            exact below_touch h1 (grown_set w4 g 0 v') h1.size (by rw [HG.out]; exact Nat.le_refl _)))
      have HCELL := Lib.hid (fun (v' : Value) (w4 : World) (_ho : w4.ownsRow g 9 1 v' (k + 1) (stC (List.replicate k (List.replicate 128 0)) ++ [.string tk])) (hg : ((wr.alloc (.cells Z 5)).alloc (.cells #[.string tk] 9)).drew.grownBy w4 vs.ownBlock) =>
        (show w4.cell? ⟨g, 0, none⟩ = some vs ∧ w4.frozen? ⟨g, 0, none⟩ = false from by
          have r := HRW.out
          have e : w4.heap[g]? = some (.cells (rA (half (List.replicate k zeroT)) vs (.slice none 0 0)) 54 (0, 0)) := by
            rw [hg.block g (Array.getElem?_eq_some_iff.1 r.row).1 (fun x => r.apart.1 x.symm)]; exact r.row
          exact ⟨by rw [cell_of_row _ _ _ _ _ _ e]; rfl, frozen_of_row _ _ _ _ _ e⟩))
      clear hr hlen KX KY hcv
      go_wp2_with fail
      refine wp_region_held_drew (S := fun _ => True) (by kernel_rfl) trivial (fun hHeld => ?_)
      refine wpAnyH_take (i := 0) (v := ?_) rfl (by kernel_rfl) (by kernel_rfl) (by kernel_rfl) (fun _ _ _ h => h) (Or.inl ⟨by first | kernel_rfl | rfl, ?_⟩) (by assumption) ?_
      case refine_2 => intro w hSw; go_simp; try with_reducible rfl
      refine wpAnyH_take (i := 1) (v := ?_) rfl (by kernel_rfl) (by kernel_rfl) (by kernel_rfl) (fun _ _ _ h => h) (Or.inl ⟨by first | kernel_rfl | rfl, ?_⟩) (by assumption) ?_
      case refine_2 => intro w hSw; go_simp; try with_reducible rfl
      refine wpAnyH_take (i := 2) (v := ?_) rfl (by kernel_rfl) (by kernel_rfl) (by kernel_rfl) (fun _ _ _ h => h) (Or.inl ⟨by first | kernel_rfl | rfl, ?_⟩) (by assumption) ?_
      case refine_2 => intro w hSw; go_simp; try with_reducible rfl
      refine wpAnyH_take (i := 3) (v := ?_) rfl (by kernel_rfl) (by kernel_rfl) (by kernel_rfl) (fun _ _ _ h => h) (Or.inl ⟨by first | kernel_rfl | rfl, ?_⟩) (by assumption) ?_
      case refine_2 => intro w hSw; go_simp; try with_reducible rfl
      refine wpAnyH_ready (rs := [4, 5]) (by kernel_rfl) (by simp) (AllReadyH.cons rfl (fun K hK => ?_) (AllReadyH.cons rfl (fun K hK => ?_) AllReadyH.nil))
      · go_simp
        refine hK.out _ _ trivial (fun _ => ?_)
        clear hK K
        refine wpAnyH_ready (rs := [5]) (by kernel_rfl) (by simp) (AllReadyH.cons rfl (fun K hK => ?_) AllReadyH.nil)
        go_simp
        refine hK.out _ _ trivial (fun _ => ?_)
        clear hK K
        refine wpAnyH_ready (rs := [6]) (by kernel_rfl) (by simp) (AllReadyH.cons rfl (fun K hK => ?_) AllReadyH.nil)
        go_simp
        refine hK.out _ _ trivial (fun _ => ?_)
        clear hK K
        refine wpAnyH_ready (rs := [7]) (by kernel_rfl) (by simp) (AllReadyH.cons rfl (fun K hK => ?_) AllReadyH.nil)
        go_simp
        refine hK.out _ _ trivial (fun _ => ?_)
        clear hK K
        refine wpAnyH_ready (rs := [8]) (by kernel_rfl) (by simp) (AllReadyH.cons rfl (fun K hK => ?_) AllReadyH.nil)
        rw [if_pos (by rfl)]
        refine wp_append_flat _ _ 51 rfl g 9 is (.string ⟨#[]⟩) 1 16 Try.underlying51 HIS.out HZ0.out HZ1.out HZ2.out rfl (by decide) _ k (stC (List.replicate k (List.replicate 128 0))) rfl HST1.out _ 1 [.string tk] rfl HFN.out ?_ ?_ ?_ ?_
        · unfold maxLen; omega
        · omega
        · have := HGW.out; show g ≤ ((wr.heap.push _).push _).size; simp; omega
        intro v' w4 hown4 hg4 _
        have FIN := HEND.out v' w4 hown4 hg4
        obtain ⟨pv, cv, rfl, -, -⟩ := own_slice hown4
        have FC := HCELL.out _ w4 hown4 hg4
        have fc := FC.1
        have ff := FC.2
        clear FC hown4 hg4
        refine hK.out _ _ trivial (fun _ => ?_)
        clear hK K
        refine wpAnyH_take (i := 9) (v := ?_) rfl (by kernel_rfl) (by kernel_rfl) (by kernel_rfl) (fun _ _ _ h => h) (Or.inl ⟨by first | kernel_rfl | rfl, ?_⟩) (by assumption) ?_
        case refine_2 => intro w hSw; go_simp; try with_reducible rfl
        refine wpAnyH_take (i := 10) (v := ?_) rfl (by kernel_rfl) (by kernel_rfl) (by kernel_rfl) (fun _ _ _ h => h) (Or.inl ⟨by first | kernel_rfl | rfl, ?_⟩) (by assumption) ?_
        case refine_2 => intro w hSw; go_simp; try with_reducible rfl
        refine wpAnyH_ready (rs := [11]) (by kernel_rfl) (by simp) (AllReadyH.cons rfl (fun K hK => ?_) AllReadyH.nil)
        go_simp
        refine hK.out _ _ trivial (fun _ => ?_)
        clear hK K
        refine wpAnyH_done (by kernel_rfl) ?_ _
        go_wp2
        go_roundg (n - k1)
        case measure => omega
        case rel => exact ⟨k1, _, by omega, by first | rfl | (congr 1; omega), FIN.1, FIN.2⟩
      · go_simp
        refine hK.out _ _ trivial (fun _ => ?_)
        clear hK K
        refine wpAnyH_ready (rs := [4, 6]) (by kernel_rfl) (by simp) (AllReadyH.cons rfl (fun K hK => ?_) (AllReadyH.cons rfl (fun K hK => ?_) AllReadyH.nil))
        · go_simp
          refine hK.out _ _ trivial (fun _ => ?_)
          clear hK K
          refine wpAnyH_ready (rs := [6]) (by kernel_rfl) (by simp) (AllReadyH.cons rfl (fun K hK => ?_) AllReadyH.nil)
          go_simp
          refine hK.out _ _ trivial (fun _ => ?_)
          clear hK K
          refine wpAnyH_ready (rs := [7]) (by kernel_rfl) (by simp) (AllReadyH.cons rfl (fun K hK => ?_) AllReadyH.nil)
          go_simp
          refine hK.out _ _ trivial (fun _ => ?_)
          clear hK K
          refine wpAnyH_ready (rs := [8]) (by kernel_rfl) (by simp) (AllReadyH.cons rfl (fun K hK => ?_) AllReadyH.nil)
          rw [if_pos (by rfl)]
          refine wp_append_flat _ _ 51 rfl g 9 is (.string ⟨#[]⟩) 1 16 Try.underlying51 HIS.out HZ0.out HZ1.out HZ2.out rfl (by decide) _ k (stC (List.replicate k (List.replicate 128 0))) rfl HST1.out _ 1 [.string tk] rfl HFN.out ?_ ?_ ?_ ?_
          · unfold maxLen; omega
          · omega
          · have := HGW.out; show g ≤ ((wr.heap.push _).push _).size; simp; omega
          intro v' w4 hown4 hg4 _
          have FIN := HEND.out v' w4 hown4 hg4
          obtain ⟨pv, cv, rfl, -, -⟩ := own_slice hown4
          have FC := HCELL.out _ w4 hown4 hg4
          have fc := FC.1
          have ff := FC.2
          clear FC hown4 hg4
          refine hK.out _ _ trivial (fun _ => ?_)
          clear hK K
          refine wpAnyH_take (i := 9) (v := ?_) rfl (by kernel_rfl) (by kernel_rfl) (by kernel_rfl) (fun _ _ _ h => h) (Or.inl ⟨by first | kernel_rfl | rfl, ?_⟩) (by assumption) ?_
          case refine_2 => intro w hSw; go_simp; try with_reducible rfl
          refine wpAnyH_take (i := 10) (v := ?_) rfl (by kernel_rfl) (by kernel_rfl) (by kernel_rfl) (fun _ _ _ h => h) (Or.inl ⟨by first | kernel_rfl | rfl, ?_⟩) (by assumption) ?_
          case refine_2 => intro w hSw; go_simp; try with_reducible rfl
          refine wpAnyH_ready (rs := [11]) (by kernel_rfl) (by simp) (AllReadyH.cons rfl (fun K hK => ?_) AllReadyH.nil)
          go_simp
          refine hK.out _ _ trivial (fun _ => ?_)
          clear hK K
          refine wpAnyH_done (by kernel_rfl) ?_ _
          go_wp2
          go_roundg (n - k1)
          case measure => omega
          case rel => exact ⟨k1, _, by omega, by first | rfl | (congr 1; omega), FIN.1, FIN.2⟩
        · go_simp
          refine hK.out _ _ trivial (fun _ => ?_)
          clear hK K
          refine wpAnyH_ready (rs := [4, 7]) (by kernel_rfl) (by simp) (AllReadyH.cons rfl (fun K hK => ?_) (AllReadyH.cons rfl (fun K hK => ?_) AllReadyH.nil))
          · go_simp
            refine hK.out _ _ trivial (fun _ => ?_)
            clear hK K
            refine wpAnyH_ready (rs := [7]) (by kernel_rfl) (by simp) (AllReadyH.cons rfl (fun K hK => ?_) AllReadyH.nil)
            go_simp
            refine hK.out _ _ trivial (fun _ => ?_)
            clear hK K
            refine wpAnyH_ready (rs := [8]) (by kernel_rfl) (by simp) (AllReadyH.cons rfl (fun K hK => ?_) AllReadyH.nil)
            rw [if_pos (by rfl)]
            refine wp_append_flat _ _ 51 rfl g 9 is (.string ⟨#[]⟩) 1 16 Try.underlying51 HIS.out HZ0.out HZ1.out HZ2.out rfl (by decide) _ k (stC (List.replicate k (List.replicate 128 0))) rfl HST1.out _ 1 [.string tk] rfl HFN.out ?_ ?_ ?_ ?_
            · unfold maxLen; omega
            · omega
            · have := HGW.out; show g ≤ ((wr.heap.push _).push _).size; simp; omega
            intro v' w4 hown4 hg4 _
            have FIN := HEND.out v' w4 hown4 hg4
            obtain ⟨pv, cv, rfl, -, -⟩ := own_slice hown4
            have FC := HCELL.out _ w4 hown4 hg4
            have fc := FC.1
            have ff := FC.2
            clear FC hown4 hg4
            refine hK.out _ _ trivial (fun _ => ?_)
            clear hK K
            refine wpAnyH_take (i := 9) (v := ?_) rfl (by kernel_rfl) (by kernel_rfl) (by kernel_rfl) (fun _ _ _ h => h) (Or.inl ⟨by first | kernel_rfl | rfl, ?_⟩) (by assumption) ?_
            case refine_2 => intro w hSw; go_simp; try with_reducible rfl
            refine wpAnyH_take (i := 10) (v := ?_) rfl (by kernel_rfl) (by kernel_rfl) (by kernel_rfl) (fun _ _ _ h => h) (Or.inl ⟨by first | kernel_rfl | rfl, ?_⟩) (by assumption) ?_
            case refine_2 => intro w hSw; go_simp; try with_reducible rfl
            refine wpAnyH_ready (rs := [11]) (by kernel_rfl) (by simp) (AllReadyH.cons rfl (fun K hK => ?_) AllReadyH.nil)
            go_simp
            refine hK.out _ _ trivial (fun _ => ?_)
            clear hK K
            refine wpAnyH_done (by kernel_rfl) ?_ _
            go_wp2
            go_roundg (n - k1)
            case measure => omega
            case rel => exact ⟨k1, _, by omega, by first | rfl | (congr 1; omega), FIN.1, FIN.2⟩
          · go_simp
            refine hK.out _ _ trivial (fun _ => ?_)
            clear hK K
            refine wpAnyH_ready (rs := [4]) (by kernel_rfl) (by simp) (AllReadyH.cons rfl (fun K hK => ?_) AllReadyH.nil)
            go_simp
            refine hK.out _ _ trivial (fun _ => ?_)
            clear hK K
            refine wpAnyH_ready (rs := [8]) (by kernel_rfl) (by simp) (AllReadyH.cons rfl (fun K hK => ?_) AllReadyH.nil)
            rw [if_pos (by rfl)]
            refine wp_append_flat _ _ 51 rfl g 9 is (.string ⟨#[]⟩) 1 16 Try.underlying51 HIS.out HZ0.out HZ1.out HZ2.out rfl (by decide) _ k (stC (List.replicate k (List.replicate 128 0))) rfl HST1.out _ 1 [.string tk] rfl HFN.out ?_ ?_ ?_ ?_
            · unfold maxLen; omega
            · omega
            · have := HGW.out; show g ≤ ((wr.heap.push _).push _).size; simp; omega
            intro v' w4 hown4 hg4 _
            have FIN := HEND.out v' w4 hown4 hg4
            obtain ⟨pv, cv, rfl, -, -⟩ := own_slice hown4
            have FC := HCELL.out _ w4 hown4 hg4
            have fc := FC.1
            have ff := FC.2
            clear FC hown4 hg4
            refine hK.out _ _ trivial (fun _ => ?_)
            clear hK K
            refine wpAnyH_take (i := 9) (v := ?_) rfl (by kernel_rfl) (by kernel_rfl) (by kernel_rfl) (fun _ _ _ h => h) (Or.inl ⟨by first | kernel_rfl | rfl, ?_⟩) (by assumption) ?_
            case refine_2 => intro w hSw; go_simp; try with_reducible rfl
            refine wpAnyH_take (i := 10) (v := ?_) rfl (by kernel_rfl) (by kernel_rfl) (by kernel_rfl) (fun _ _ _ h => h) (Or.inl ⟨by first | kernel_rfl | rfl, ?_⟩) (by assumption) ?_
            case refine_2 => intro w hSw; go_simp; try with_reducible rfl
            refine wpAnyH_ready (rs := [11]) (by kernel_rfl) (by simp) (AllReadyH.cons rfl (fun K hK => ?_) AllReadyH.nil)
            go_simp
            refine hK.out _ _ trivial (fun _ => ?_)
            clear hK K
            refine wpAnyH_done (by kernel_rfl) ?_ _
            go_wp2
            go_roundg (n - k1)
            case measure => omega
            case rel => exact ⟨k1, _, by omega, by first | rfl | (congr 1; omega), FIN.1, FIN.2⟩
    · have hki : ¬ (k : Int) < n := by omega
      have bk : decide ((k : Int) < (n : Int)) = false := by simpa using hki
      have HL : Hid (RAt g g (Dk.new n) vs (.slice none 0 0) wr) := Lib.hid (by
        have h := HR.out
        rw [show k = n by omega] at h
        exact h)
      clear hcv
      go_wp2
      go_ret
      exact ⟨rfl, ⟨vs, HL.out⟩, by rw [HG.out]; exact HK.out⟩

end Go.Proofs.Ytpnnlpmkgglgdaa
