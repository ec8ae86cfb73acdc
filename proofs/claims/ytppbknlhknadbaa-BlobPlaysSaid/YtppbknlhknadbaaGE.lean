/- The document's disk: the walks of Image, May, Load. The document's disk: the walk of New. The document's disk: the walk of Spoil. A disk's contract, whatever it is made of; the statements' same, out of it. The contracts of the program's blob, by name, whatever it is made of; the statements' example, and a disk that nobody made. The law BlobNobody out of the contracts. -/
import Derived.Test.YtppbknlhknadbaaGC
import Derived.Test.YtppbknlhknadbaaGD
import Derived.RegionTactic
import Derived.BigRegion
namespace Go.Proofs.Ytppbknlhknadbaa
open Go.RowKit

set_option maxRecDepth 100000 in
set_option maxHeartbeats 1000000 in
/-- The document's Image. -/
theorem rimage_any {B g : Nat} {s : Dk} {vs vw : Value} {w : World} (h : RAt B g s vs vw w) (hok : s.ok) :
    Calls Try.prog 18 #[.pointer (some ⟨g, 0, none⟩)] w fun e w' => e = .returned (.string (str s.image)) ∧ w = w' := by
  obtain ⟨ps, cs, hvs, -, hcs⟩ := own_slice h.st
  have c0 : w.cell? ⟨g, 0, none⟩ = some vs := h.cell 0 _ rfl
  rw [hvs] at c0
  have hil := hok.image_len
  have hmost := hok.most
  have HCS := Lib.hid hcs
  have HSE := Lib.hid hok.sect
  unfold Dk.image at hil ⊢
  obtain ⟨st, hst⟩ : ∃ st, st = s.stands := ⟨_, rfl⟩
  rw [← hst] at HCS HSE hil hmost c0 ⊢
  obtain ⟨n, hn⟩ : ∃ n, n = st.length := ⟨_, rfl⟩
  rw [← hn] at HCS hil hmost c0
  have HN := Lib.hid hn
  obtain ⟨tx, htx⟩ : ∃ tx, tx = str st.flatten := ⟨_, rfl⟩
  rw [← htx]
  have HX := Lib.hid htx
  have HIL := Lib.hid hil
  clear htx hn hst hil h hok hvs hcs
  go_enter Try.func18, Try.ntmps18
  go_wp2
  go_loopg [3, 4] n (fun gh s3 s4 wx => ∃ (k : Nat) (t : ByteArray), k + gh = n ∧ s4 = .int .i64 k ∧ s3 = .string t ∧ Hid (t = str (st.take k).flatten) ∧ w = wx)
  case atStart => exact ⟨0, ⟨#[]⟩, by omega, rfl, rfl, Lib.hid rfl, rfl⟩
  case round =>
    obtain ⟨k, t, hk, rfl, rfl, HT, hwx⟩ := hrel
    subst hwx
    obtain ⟨k1, hk1⟩ : ∃ k1, k1 = k + 1 := ⟨_, rfl⟩
    have v1 : IntKind.i64.wrap ((k : Int) + 1) = (k1 : Int) := by rw [show (k : Int) + 1 = (k1 : Int) by omega]; exact IntWalk.i64_in _ (by omega)
    by_cases hkm : k < n
    · have hki : (k : Int) < n := by omega
      have bk : decide ((k : Int) < (n : Int)) = true := by simpa using hki
      have hkl : k < st.length := by rw [← HN.out]; exact hkm
      rcases HCS.out with h0 | ⟨gs, rfl, -, hcell⟩
      · omega
      have d1 := hcell _ _ (stC_get st k hkl)
      have hnx : (st.take k1).flatten = (st.take k).flatten ++ st[k] := by rw [hk1, List.take_succ_eq_append_getElem hkl, List.flatten_append]; simp
      have hx : st[k].length = 128 := HSE.out _ (List.getElem_mem hkl)
      have hpl : (st.take k).flatten.length = 128 * k := by
        rw [flat_len _ (fun l hl => HSE.out l (List.mem_of_mem_take hl)), List.length_take]; omega
      obtain ⟨x, hxx⟩ : ∃ x, x = st[k] := ⟨_, rfl⟩
      rw [← hxx] at d1 hnx hx
      obtain ⟨tb, htb⟩ : ∃ tb, tb = str x := ⟨_, rfl⟩
      rw [← htb] at d1
      obtain ⟨t2, ht2⟩ : ∃ t2, t2 = t ++ tb := ⟨_, rfl⟩
      have hs1 : t.size = 128 * k := by rw [HT.out, str_size]; exact hpl
      have hs2 : tb.size = 128 := by rw [htb, str_size]; exact hx
      have A1 : ∀ w', (Op.stringOp .add t tb).run Try.prog w' = .ok (.string t2) w' := fun w' => by rw [ht2]; exact run_string_add_sum w' t _ (by omega)
      have HT2 : Hid (t2 = str (st.take k1).flatten) := Lib.hid (by rw [ht2, HT.out, htb, str_append, hnx])
      clear ht2 htb hxx hnx hx hpl hs1 hs2 hkl hcell
      go_wp2
      go_roundg (n - k1)
      case measure => omega
      case rel => exact ⟨k1, t2, by omega, by first | rfl | (congr 1; omega), rfl, HT2, rfl⟩
    · have hke : k = n := by omega
      have hki : ¬ (k : Int) < n := by omega
      have bk : decide ((k : Int) < (n : Int)) = false := by simpa using hki
      have HT2 : Hid (t = tx) := Lib.hid (by rw [HT.out, HX.out, hke, HN.out, List.take_length])
      clear hke
      go_wp2
      go_ret
      exact ⟨by rw [HT2.out]; rfl, rfl⟩

/-- A disk that grows, sector by sector. -/
def half (L : List (List UInt8)) : Dk := ⟨L, [], -1, 0, false⟩

/-- One sector more. -/
theorem RAt.more {B g : Nat} {L : List (List UInt8)} {x : List UInt8} {vs v' : Value} {w w1 : World} (h : RAt B g (half L) vs (.slice none 0 0) w) (hg : w.grownBy w1 vs.ownBlock)
    (ho : w1.ownsRow B 9 1 v' (L.length + 1) (stC L ++ [.string (str x)])) : RAt B g (half (L ++ [x])) v' (.slice none 0 0) (w1.setCell ⟨g, 0, none⟩ v') := by
  have r1 : w1.heap[g]? = some (.cells (rA (half L) vs (.slice none 0 0)) 46 (0, 0)) := by
    rw [hg.block g (Array.getElem?_eq_some_iff.1 h.row).1 (fun e => h.apart.1 e.symm)]; exact h.row
  refine ⟨h.base, ?_, ?_, World.ownsRow_nil _ _ _ _⟩
  · rw [heap_setCell_same _ _ _ _ _ _ r1]; rfl
  · have e : stC (half (L ++ [x])).stands = stC L ++ [.string (str x)] := by show stC (L ++ [x]) = _; rw [stC_append]; rfl
    rw [e, show (half (L ++ [x])).stands.length = L.length + 1 by show (L ++ [x]).length = _; simp]
    refine own_stay ho (fun k e => set_other _ _ _ _ _ (fun x => ?_))
    subst x
    obtain ⟨cur, hc⟩ := own_typ ho k e
    rw [r1] at hc; simp at hc

end Go.Proofs.Ytppbknlhknadbaa
namespace Go.Proofs.Ytppbknlhknadbaa
open Go.RowKit

theorem infoB : (Try.prog.info? 5).map (fun i => (i.zero, i.size, i.bytes)) = some (some (.int .u8 0), 1, 1) := by kernel_rfl

/-- 128 bytes of 0. -/
def zeroZ : Array Value := (List.replicate 128 (Value.int .u8 0)).toArray
def zeroT : List UInt8 := List.replicate 128 0

theorem make_zero (w : World) : (Instr.makeSlice 49 (.int .i64 128) (.int .i64 128)).run Try.prog w = .ok (.slice (some ⟨w.heap.size, 0, none⟩) 128 128) (w.alloc (.cells zeroZ 5)) := by
  obtain ⟨i, hi, hx⟩ := Option.map_eq_some_iff.1 infoB
  simp only [Prod.mk.injEq] at hx
  obtain ⟨h0, h1, h2⟩ := hx
  have hr := run_makeSlice (P := Try.prog) w 49 5 i (.int .u8 0) Try.underlying49 hi h0 .i64 .i64 128 128 (by omega) (by omega) (by rw [h1]; omega) (by rw [h2]; omega) (by omega)
  rw [hr]
  have e : madeCells (Value.int .u8 0).cells ((128 : Int).toNat * i.size) = zeroZ := by rw [h1]; kernel_rfl
  rw [e]
  rfl

theorem conv_zero (w : World) (b : Nat) (hb : w.heap[b]? = some (.cells zeroZ 5 (0, 0))) : (convert 49 9 (.slice (some ⟨b, 0, none⟩) 128 128)).run Try.prog w = .ok (.string (str zeroT)) w := by
  refine conv_bytes w 49 9 5 b 128 128 zeroT (by simp [zeroT]) Try.underlying49 Try.underlying5 Try.underlying9 (fun j hj => ?_)
  have hj2 : j < 128 := by simpa [zeroT] using hj
  rw [cell_of_row _ _ _ _ _ _ hb]
  have e : zeroT[j]'hj = 0 := by unfold zeroT; exact List.getElem_replicate _
  refine Eq.trans ?_ (congrArg (fun x : UInt8 => some (Value.int .u8 (x.toNat : Int))) e.symm)
  show (List.replicate 128 (Value.int .u8 0)).toArray[j]? = _
  rw [List.getElem?_toArray, List.getElem?_replicate, if_pos hj2]
  rfl

set_option maxRecDepth 100000 in
set_option maxHeartbeats 4000000 in
/-- The document's New. -/
theorem rnew_any (n : Nat) (hn : n ≤ 8192) (w : World) :
    Calls Try.prog 15 #[.int .i64 n] w fun e w' => ∃ vs, e = .returned (.pointer (some ⟨w.heap.size, 0, none⟩)) ∧ RAt w.heap.size w.heap.size (Dk.new n) vs (.slice none 0 0) w' ∧ Below w.heap.size w w' := by
  obtain ⟨is, his, hx⟩ := Option.map_eq_some_iff.1 infoS
  simp only [Prod.mk.injEq] at hx
  obtain ⟨hz0, hz1, hz2⟩ := hx
  have HIS := Lib.hid his
  have HZ0 := Lib.hid hz0
  have HZ1 := Lib.hid hz1
  have HZ2 := Lib.hid hz2
  obtain ⟨g, hg⟩ : ∃ g, g = w.heap.size := ⟨_, rfl⟩
  rw [← hg]
  have R0 : Hid (RAt g g (half (List.replicate 0 zeroT)) (.slice none 0 0) (.slice none 0 0) (w.alloc (.cells (rA (half []) (.slice none 0 0) (.slice none 0 0)) 46))) := Lib.hid
    ⟨Nat.le_refl _, by rw [hg]; exact heap_alloc_new w _, World.ownsRow_nil _ _ _ _, World.ownsRow_nil _ _ _ _⟩
  have K0 : Hid (Kept w (w.alloc (.cells (rA (half []) (.slice none 0 0) (.slice none 0 0)) 46))) := Lib.hid (box_below _ _)
  have HG := Lib.hid hg
  have hmk := fun w' => make_zero w'
  have hcv := fun w' b hb => conv_zero w' b hb
  have hzo : ∀ x ∈ zeroZ.toList, x.oneCell' = true := by intro x hx; simp [zeroZ] at hx; subst hx; rfl
  obtain ⟨Z, hZ⟩ : ∃ Z, Z = zeroZ := ⟨_, rfl⟩
  rw [← hZ] at hmk hcv
  obtain ⟨tk, htk⟩ : ∃ tk, tk = str zeroT := ⟨_, rfl⟩
  rw [← htk] at hcv
  have HTK := Lib.hid htk
  clear hz0 hz1 hz2 his hzo hZ htk
  go_enter Try.func15, Try.ntmps15
  go_wp2
  rw [← HG.out]
  clear hg
  go_loopg [4] n (fun gh s4 wx => ∃ (k : Nat) (vs : Value), k + gh = n ∧ s4 = .int .i64 (k : Nat) ∧ Hid (RAt g g (half (List.replicate k zeroT)) vs (.slice none 0 0) wx) ∧ Hid (Kept w wx))
  case atStart => exact ⟨0, _, by omega, rfl, R0, K0⟩
  case round =>
    clear R0 K0
    obtain ⟨k, vs, hk, rfl, HR, HK⟩ := hrel
    obtain ⟨k1, hk1⟩ : ∃ k1, k1 = k + 1 := ⟨_, rfl⟩
    have v1 : IntKind.i64.wrap ((k : Int) + 1) = (k1 : Int) := by rw [show (k : Int) + 1 = (k1 : Int) by omega]; exact IntWalk.i64_in _ (by omega)
    by_cases hkm : k < n
    · have hki : (k : Int) < n := by omega
      have bk : decide ((k : Int) < (n : Int)) = true := by simpa using hki
      have hr := HR.out
      have hlen : (half (List.replicate k zeroT)).stands.length = k := by show (List.replicate k zeroT).length = k; simp
      have S0 : wr.drew.cell? ⟨g, 0, none⟩ = some vs := hr.cell 0 _ rfl
      have HGW : Hid (g ≤ wr.heap.size) := Lib.hid (Nat.le_of_lt (Array.getElem?_eq_some_iff.1 hr.row).1)
      have KX : Kept wr (wr.alloc (.cells Z 5)) := box_below _ _
      have KY : Kept wr ((wr.alloc (.cells Z 5)).alloc (.cells #[.string tk] 9)).drew := Below.drew (KX.then (box_below _ _))
      have S1 : (wr.alloc (.cells Z 5)).drew.cell? ⟨g, 0, none⟩ = some vs := Kept.cell KX S0
      have S2 : ((wr.alloc (.cells Z 5)).alloc (.cells #[.string tk] 9)).drew.cell? ⟨g, 0, none⟩ = some vs := Kept.cell KY S0
      have cv : (convert 49 9 (.slice (some ⟨wr.heap.size, 0, none⟩) 128 128)).run Try.prog (wr.alloc (.cells Z 5)).drew = .ok (.string tk) (wr.alloc (.cells Z 5)).drew := hcv _ _ (heap_alloc_new wr _)
      have HRW : Hid (RAt g g (half (List.replicate k zeroT)) vs (.slice none 0 0) ((wr.alloc (.cells Z 5)).alloc (.cells #[.string tk] 9)).drew) := Lib.hid (HR.out.kept KY)
      have HST1 : Hid (((wr.alloc (.cells Z 5)).alloc (.cells #[.string tk] 9)).drew.ownsRow g 9 1 vs k (stC (List.replicate k (List.replicate 128 0)))) := Lib.hid (by have h := HRW.out.st; rw [hlen] at h; exact h)
      have HFN : Hid (FlatAt 1 1 [.string tk] (.slice (some ⟨wr.heap.size + 1, 0, none⟩) 1 1) ((wr.alloc (.cells Z 5)).alloc (.cells #[.string tk] 9)).drew) := Lib.hid (by have h := FlatAt.new (wr.alloc (.cells Z 5)) 9 1 1 1 #[.string tk] rfl (by intro x hx; simp at hx; subst hx; rfl); rw [show (wr.alloc (.cells Z 5)).heap.size = wr.heap.size + 1 by simp] at h; exact h)
      have HKW : Hid (Kept w ((wr.alloc (.cells Z 5)).alloc (.cells #[.string tk] 9)).drew) := Lib.hid (HK.out.then KY)
      have HEND := Lib.hid (fun (v' : Value) (w4 : World) (ho : w4.ownsRow g 9 1 v' (k + 1) (stC (List.replicate k (List.replicate 128 0)) ++ [.string tk])) (hg : ((wr.alloc (.cells Z 5)).alloc (.cells #[.string tk] 9)).drew.grownBy w4 vs.ownBlock) =>
        (show Hid (RAt g g (half (List.replicate k1 zeroT)) v' (.slice none 0 0) (w4.setCell ⟨g, 0, none⟩ v')) ∧ Hid (Kept w (w4.setCell ⟨g, 0, none⟩ v')) from by
          refine ⟨?_, ?_⟩
          · rw [hk1, List.replicate_succ']
            refine RAt.more HRW.out hg ?_
            rw [List.length_replicate, ← HTK.out]
            exact ho
          · have h1 : Kept w w4 := HKW.out.grown hg HKW.out.size (fun kk hk => by have := (HST1.out.lt kk hk).1; have := HG.out; omega)
            exact below_touch h1 (grown_set w4 g 0 v') h1.size (by rw [HG.out]; exact Nat.le_refl _)))
      have HCELL := Lib.hid (fun (v' : Value) (w4 : World) (_ho : w4.ownsRow g 9 1 v' (k + 1) (stC (List.replicate k (List.replicate 128 0)) ++ [.string tk])) (hg : ((wr.alloc (.cells Z 5)).alloc (.cells #[.string tk] 9)).drew.grownBy w4 vs.ownBlock) =>
        (show w4.cell? ⟨g, 0, none⟩ = some vs ∧ w4.frozen? ⟨g, 0, none⟩ = false from by
          have r := HRW.out
          have e : w4.heap[g]? = some (.cells (rA (half (List.replicate k zeroT)) vs (.slice none 0 0)) 46 (0, 0)) := by
            rw [hg.block g (Array.getElem?_eq_some_iff.1 r.row).1 (fun x => r.apart.1 x.symm)]; exact r.row
          exact ⟨by rw [cell_of_row _ _ _ _ _ _ e]; rfl, frozen_of_row _ _ _ _ _ e⟩))
      clear hr hlen KX KY hcv
      go_wp2_with fail
      refine wp_region_held_drew (S := fun _ => True) (by kernel_rfl) trivial (fun hHeld => ?_)
      refine wpAnyH_take (i := 0) (v := ?_) rfl (by kernel_rfl) (by kernel_rfl) (by kernel_rfl) (fun _ _ _ h => h) (Or.inl ⟨by first | kernel_rfl | rfl, ?_⟩) (by assumption) ?_
      case refine_2 => intro w hSw; go_simp; try with_reducible rfl
      refine wpAnyH_take (i := 1) (v := ?_) rfl (by kernel_rfl) (by kernel_rfl) (by kernel_rfl) (fun _ _ _ h => h) (Or.inl ⟨by first | kernel_rfl | rfl, ?_⟩) (by assumption) ?_
      case refine_2 => intro w hSw; go_simp; try with_reducible rfl
      refine wpAnyH_take (i := 2) (v := ?_) rfl (by kernel_rfl) (by kernel_rfl) (by kernel_rfl) (fun _ _ _ h => h) (Or.inl ⟨by first | kernel_rfl | rfl, ?_⟩) (by assumption) ?_
      case refine_2 => intro w hSw; go_simp; try with_reducible rfl
      refine wpAnyH_take (i := 3) (v := ?_) rfl (by kernel_rfl) (by kernel_rfl) (by kernel_rfl) (fun _ _ _ h => h) (Or.inl ⟨by first | kernel_rfl | rfl, ?_⟩) (by assumption) ?_
      case refine_2 => intro w hSw; go_simp; try with_reducible rfl
      refine wpAnyH_ready (rs := [4, 5]) (by kernel_rfl) (by simp) (AllReadyH.cons rfl (fun K hK => ?_) (AllReadyH.cons rfl (fun K hK => ?_) AllReadyH.nil))
      · go_simp
        refine hK.out _ _ trivial (fun _ => ?_)
        clear hK K
        refine wpAnyH_ready (rs := [5]) (by kernel_rfl) (by simp) (AllReadyH.cons rfl (fun K hK => ?_) AllReadyH.nil)
        go_simp
        refine hK.out _ _ trivial (fun _ => ?_)
        clear hK K
        refine wpAnyH_ready (rs := [6]) (by kernel_rfl) (by simp) (AllReadyH.cons rfl (fun K hK => ?_) AllReadyH.nil)
        go_simp
        refine hK.out _ _ trivial (fun _ => ?_)
        clear hK K
        refine wpAnyH_ready (rs := [7]) (by kernel_rfl) (by simp) (AllReadyH.cons rfl (fun K hK => ?_) AllReadyH.nil)
        go_simp
        refine hK.out _ _ trivial (fun _ => ?_)
        clear hK K
        refine wpAnyH_ready (rs := [8]) (by kernel_rfl) (by simp) (AllReadyH.cons rfl (fun K hK => ?_) AllReadyH.nil)
        rw [if_pos (by rfl)]
        refine wp_append_flat _ _ 43 rfl g 9 is (.string ⟨#[]⟩) 1 16 Try.underlying43 HIS.out HZ0.out HZ1.out HZ2.out rfl (by decide) _ k (stC (List.replicate k (List.replicate 128 0))) rfl HST1.out _ 1 [.string tk] rfl HFN.out ?_ ?_ ?_ ?_
        · unfold maxLen; omega
        · omega
        · have := HGW.out; show g ≤ ((wr.heap.push _).push _).size; simp; omega
        intro v' w4 hown4 hg4 _
        have FIN := HEND.out v' w4 hown4 hg4
        obtain ⟨pv, cv, rfl, -, -⟩ := own_slice hown4
        have FC := HCELL.out _ w4 hown4 hg4
        have fc := FC.1
        have ff := FC.2
        clear FC hown4 hg4
        refine hK.out _ _ trivial (fun _ => ?_)
        clear hK K
        refine wpAnyH_take (i := 9) (v := ?_) rfl (by kernel_rfl) (by kernel_rfl) (by kernel_rfl) (fun _ _ _ h => h) (Or.inl ⟨by first | kernel_rfl | rfl, ?_⟩) (by assumption) ?_
        case refine_2 => intro w hSw; go_simp; try with_reducible rfl
        refine wpAnyH_take (i := 10) (v := ?_) rfl (by kernel_rfl) (by kernel_rfl) (by kernel_rfl) (fun _ _ _ h => h) (Or.inl ⟨by first | kernel_rfl | rfl, ?_⟩) (by assumption) ?_
        case refine_2 => intro w hSw; go_simp; try with_reducible rfl
        refine wpAnyH_ready (rs := [11]) (by kernel_rfl) (by simp) (AllReadyH.cons rfl (fun K hK => ?_) AllReadyH.nil)
        go_simp
        refine hK.out _ _ trivial (fun _ => ?_)
        clear hK K
        refine wpAnyH_done (by kernel_rfl) ?_ _
        go_wp2
        go_roundg (n - k1)
        case measure => omega
        case rel => exact ⟨k1, _, by omega, by first | rfl | (congr 1; omega), FIN.1, FIN.2⟩
      · go_simp
        refine hK.out _ _ trivial (fun _ => ?_)
        clear hK K
        refine wpAnyH_ready (rs := [4, 6]) (by kernel_rfl) (by simp) (AllReadyH.cons rfl (fun K hK => ?_) (AllReadyH.cons rfl (fun K hK => ?_) AllReadyH.nil))
        · go_simp
          refine hK.out _ _ trivial (fun _ => ?_)
          clear hK K
          refine wpAnyH_ready (rs := [6]) (by kernel_rfl) (by simp) (AllReadyH.cons rfl (fun K hK => ?_) AllReadyH.nil)
          go_simp
          refine hK.out _ _ trivial (fun _ => ?_)
          clear hK K
          refine wpAnyH_ready (rs := [7]) (by kernel_rfl) (by simp) (AllReadyH.cons rfl (fun K hK => ?_) AllReadyH.nil)
          go_simp
          refine hK.out _ _ trivial (fun _ => ?_)
          clear hK K
          refine wpAnyH_ready (rs := [8]) (by kernel_rfl) (by simp) (AllReadyH.cons rfl (fun K hK => ?_) AllReadyH.nil)
          rw [if_pos (by rfl)]
          refine wp_append_flat _ _ 43 rfl g 9 is (.string ⟨#[]⟩) 1 16 Try.underlying43 HIS.out HZ0.out HZ1.out HZ2.out rfl (by decide) _ k (stC (List.replicate k (List.replicate 128 0))) rfl HST1.out _ 1 [.string tk] rfl HFN.out ?_ ?_ ?_ ?_
          · unfold maxLen; omega
          · omega
          · have := HGW.out; show g ≤ ((wr.heap.push _).push _).size; simp; omega
          intro v' w4 hown4 hg4 _
          have FIN := HEND.out v' w4 hown4 hg4
          obtain ⟨pv, cv, rfl, -, -⟩ := own_slice hown4
          have FC := HCELL.out _ w4 hown4 hg4
          have fc := FC.1
          have ff := FC.2
          clear FC hown4 hg4
          refine hK.out _ _ trivial (fun _ => ?_)
          clear hK K
          refine wpAnyH_take (i := 9) (v := ?_) rfl (by kernel_rfl) (by kernel_rfl) (by kernel_rfl) (fun _ _ _ h => h) (Or.inl ⟨by first | kernel_rfl | rfl, ?_⟩) (by assumption) ?_
          case refine_2 => intro w hSw; go_simp; try with_reducible rfl
          refine wpAnyH_take (i := 10) (v := ?_) rfl (by kernel_rfl) (by kernel_rfl) (by kernel_rfl) (fun _ _ _ h => h) (Or.inl ⟨by first | kernel_rfl | rfl, ?_⟩) (by assumption) ?_
          case refine_2 => intro w hSw; go_simp; try with_reducible rfl
          refine wpAnyH_ready (rs := [11]) (by kernel_rfl) (by simp) (AllReadyH.cons rfl (fun K hK => ?_) AllReadyH.nil)
          go_simp
          refine hK.out _ _ trivial (fun _ => ?_)
          clear hK K
          refine wpAnyH_done (by kernel_rfl) ?_ _
          go_wp2
          go_roundg (n - k1)
          case measure => omega
          case rel => exact ⟨k1, _, by omega, by first | rfl | (congr 1; omega), FIN.1, FIN.2⟩
        · go_simp
          refine hK.out _ _ trivial (fun _ => ?_)
          clear hK K
          refine wpAnyH_ready (rs := [4, 7]) (by kernel_rfl) (by simp) (AllReadyH.cons rfl (fun K hK => ?_) (AllReadyH.cons rfl (fun K hK => ?_) AllReadyH.nil))
          · go_simp
            refine hK.out _ _ trivial (fun _ => ?_)
            clear hK K
            refine wpAnyH_ready (rs := [7]) (by kernel_rfl) (by simp) (AllReadyH.cons rfl (fun K hK => ?_) AllReadyH.nil)
            go_simp
            refine hK.out _ _ trivial (fun _ => ?_)
            clear hK K
            refine wpAnyH_ready (rs := [8]) (by kernel_rfl) (by simp) (AllReadyH.cons rfl (fun K hK => ?_) AllReadyH.nil)
            rw [if_pos (by rfl)]
            refine wp_append_flat _ _ 43 rfl g 9 is (.string ⟨#[]⟩) 1 16 Try.underlying43 HIS.out HZ0.out HZ1.out HZ2.out rfl (by decide) _ k (stC (List.replicate k (List.replicate 128 0))) rfl HST1.out _ 1 [.string tk] rfl HFN.out ?_ ?_ ?_ ?_
            · unfold maxLen; omega
            · omega
            · have := HGW.out; show g ≤ ((wr.heap.push _).push _).size; simp; omega
            intro v' w4 hown4 hg4 _
            have FIN := HEND.out v' w4 hown4 hg4
            obtain ⟨pv, cv, rfl, -, -⟩ := own_slice hown4
            have FC := HCELL.out _ w4 hown4 hg4
            have fc := FC.1
            have ff := FC.2
            clear FC hown4 hg4
            refine hK.out _ _ trivial (fun _ => ?_)
            clear hK K
            refine wpAnyH_take (i := 9) (v := ?_) rfl (by kernel_rfl) (by kernel_rfl) (by kernel_rfl) (fun _ _ _ h => h) (Or.inl ⟨by first | kernel_rfl | rfl, ?_⟩) (by assumption) ?_
            case refine_2 => intro w hSw; go_simp; try with_reducible rfl
            refine wpAnyH_take (i := 10) (v := ?_) rfl (by kernel_rfl) (by kernel_rfl) (by kernel_rfl) (fun _ _ _ h => h) (Or.inl ⟨by first | kernel_rfl | rfl, ?_⟩) (by assumption) ?_
            case refine_2 => intro w hSw; go_simp; try with_reducible rfl
            refine wpAnyH_ready (rs := [11]) (by kernel_rfl) (by simp) (AllReadyH.cons rfl (fun K hK => ?_) AllReadyH.nil)
            go_simp
            refine hK.out _ _ trivial (fun _ => ?_)
            clear hK K
            refine wpAnyH_done (by kernel_rfl) ?_ _
            go_wp2
            go_roundg (n - k1)
            case measure => omega
            case rel => exact ⟨k1, _, by omega, by first | rfl | (congr 1; omega), FIN.1, FIN.2⟩
          · go_simp
            refine hK.out _ _ trivial (fun _ => ?_)
            clear hK K
            refine wpAnyH_ready (rs := [4]) (by kernel_rfl) (by simp) (AllReadyH.cons rfl (fun K hK => ?_) AllReadyH.nil)
            go_simp
            refine hK.out _ _ trivial (fun _ => ?_)
            clear hK K
            refine wpAnyH_ready (rs := [8]) (by kernel_rfl) (by simp) (AllReadyH.cons rfl (fun K hK => ?_) AllReadyH.nil)
            rw [if_pos (by rfl)]
            refine wp_append_flat _ _ 43 rfl g 9 is (.string ⟨#[]⟩) 1 16 Try.underlying43 HIS.out HZ0.out HZ1.out HZ2.out rfl (by decide) _ k (stC (List.replicate k (List.replicate 128 0))) rfl HST1.out _ 1 [.string tk] rfl HFN.out ?_ ?_ ?_ ?_
            · unfold maxLen; omega
            · omega
            · have := HGW.out; show g ≤ ((wr.heap.push _).push _).size; simp; omega
            intro v' w4 hown4 hg4 _
            have FIN := HEND.out v' w4 hown4 hg4
            obtain ⟨pv, cv, rfl, -, -⟩ := own_slice hown4
            have FC := HCELL.out _ w4 hown4 hg4
            have fc := FC.1
            have ff := FC.2
            clear FC hown4 hg4
            refine hK.out _ _ trivial (fun _ => ?_)
            clear hK K
            refine wpAnyH_take (i := 9) (v := ?_) rfl (by kernel_rfl) (by kernel_rfl) (by kernel_rfl) (fun _ _ _ h => h) (Or.inl ⟨by first | kernel_rfl | rfl, ?_⟩) (by assumption) ?_
            case refine_2 => intro w hSw; go_simp; try with_reducible rfl
            refine wpAnyH_take (i := 10) (v := ?_) rfl (by kernel_rfl) (by kernel_rfl) (by kernel_rfl) (fun _ _ _ h => h) (Or.inl ⟨by first | kernel_rfl | rfl, ?_⟩) (by assumption) ?_
            case refine_2 => intro w hSw; go_simp; try with_reducible rfl
            refine wpAnyH_ready (rs := [11]) (by kernel_rfl) (by simp) (AllReadyH.cons rfl (fun K hK => ?_) AllReadyH.nil)
            go_simp
            refine hK.out _ _ trivial (fun _ => ?_)
            clear hK K
            refine wpAnyH_done (by kernel_rfl) ?_ _
            go_wp2
            go_roundg (n - k1)
            case measure => omega
            case rel => exact ⟨k1, _, by omega, by first | rfl | (congr 1; omega), FIN.1, FIN.2⟩
    · have hki : ¬ (k : Int) < n := by omega
      have bk : decide ((k : Int) < (n : Int)) = false := by simpa using hki
      have HL : Hid (RAt g g (Dk.new n) vs (.slice none 0 0) wr) := Lib.hid (by
        have h := HR.out
        rw [show k = n by omega] at h
        exact h)
      clear hcv
      go_wp2
      go_ret
      exact ⟨rfl, ⟨vs, HL.out⟩, by rw [HG.out]; exact HK.out⟩

end Go.Proofs.Ytppbknlhknadbaa
namespace Go.Proofs.Ytppbknlhknadbaa
open Go.RowKit

/-- k bytes from a place on, exclusive or. -/
def xorK (l : List UInt8) (a : Nat) (b : List UInt8) (k : Nat) : List UInt8 := (List.range l.length).map fun i => if a ≤ i ∧ i < a + k then l.getD i 0 ^^^ b.getD (i - a) 0 else l.getD i 0
theorem xorK_all (l : List UInt8) (a : Nat) (b : List UInt8) : xorK l a b b.length = xorAt l a b := rfl
theorem xorK_len (l : List UInt8) (a : Nat) (b : List UInt8) (k : Nat) : (xorK l a b k).length = l.length := by simp [xorK]
theorem xorK_zero (l : List UInt8) (a : Nat) (b : List UInt8) : xorK l a b 0 = l := by
  apply List.ext_getElem (xorK_len l a b 0)
  intro i h1 h2
  simp only [xorK, List.getElem_map, List.getElem_range]
  rw [if_neg (by omega), List.getD_eq_getElem?_getD, List.getElem?_eq_getElem h2]
  rfl
theorem xorK_at (l : List UInt8) (a : Nat) (b : List UInt8) (k : Nat) (h : a + k < l.length) : (xorK l a b k).getD (a + k) 0 = l.getD (a + k) 0 := by
  rw [List.getD_eq_getElem?_getD, List.getElem?_eq_getElem (by rw [xorK_len]; exact h)]
  simp only [xorK, List.getElem_map, List.getElem_range, Option.getD_some]
  rw [if_neg (by omega)]
theorem xorK_next (l : List UInt8) (a : Nat) (b : List UInt8) (k : Nat) (_h : a + k < l.length) : (xorK l a b k).set (a + k) (l.getD (a + k) 0 ^^^ b.getD k 0) = xorK l a b (k + 1) := by
  apply List.ext_getElem (by rw [List.length_set, xorK_len, xorK_len])
  intro i h1 h2
  rw [List.getElem_set]
  simp only [xorK, List.getElem_map, List.getElem_range]
  by_cases e : a + k = i
  · subst e
    rw [if_pos rfl, if_pos (by omega), Nat.add_sub_cancel_left]
  · rw [if_neg e]
    by_cases h3 : a ≤ i ∧ i < a + k
    · rw [if_pos h3, if_pos (by omega)]
    · rw [if_neg h3, if_neg (by omega)]

theorem ByteRow.below {w wr : World} {n : Nat} {bs : List UInt8} (h : ByteRow w wr n bs) : Below w.heap.size w wr := h.choose_spec.choose_spec.2.2.2.2
theorem ByteRow.len {w wr : World} {n : Nat} {bs : List UInt8} (h : ByteRow w wr n bs) : bs.length = n := h.choose_spec.choose_spec.2.2.1

theorem ByteRow.text {w wr : World} {n c : Nat} {bs : List UInt8} (h : ByteRow w wr n bs) : (convert 49 9 (.slice (some ⟨w.heap.size, 0, none⟩) n c)).run Try.prog wr = .ok (.string (str bs)) wr :=
  conv_bytes wr 49 9 5 w.heap.size n c bs h.len Try.underlying49 Try.underlying5 Try.underlying9 (fun j hj => by
    rw [h.cell j (by rw [← h.len]; exact hj), List.getD_eq_getElem?_getD, List.getElem?_eq_getElem hj]; rfl)

end Go.Proofs.Ytppbknlhknadbaa
namespace Go.Proofs.Ytppbknlhknadbaa
open Go.RowKit

/-- What a call that changes a disk leaves. -/
def DPost (P : Dk → (Nat → Prop) → World → Prop) (Bs : Nat → Prop) (s' : Dk) (ret : Value) (w : World) (e : Ending) (w' : World) : Prop :=
  e = .returned ret ∧ (∃ Bs', P s' Bs' w' ∧ ∀ k, Bs' k → Bs k ∨ w.heap.size ≤ k) ∧ ButBy Bs w w'

/-- What a disk is to keep, for some predicate on its state and its blocks. -/
structure DiskOk (B : Nat) (x : Value) (P : Dk → (Nat → Prop) → World → Prop) : Prop where
  above : ∀ s Bs w, P s Bs w → ∀ k, Bs k → B ≤ k ∧ k < w.heap.size
  stay : ∀ s Bs w w', P s Bs w → w.heap.size ≤ w'.heap.size → (∀ k, Bs k → w'.heap[k]? = w.heap[k]?) → P s Bs w'
  len : ∀ s Bs w, P s Bs w → s.ok → Calls Try.prog 47 #[x] w fun e w' => e = .returned (.int .i64 (s.stands.length : Nat)) ∧ Below w.heap.size w w'
  down : ∀ s Bs w, P s Bs w → Calls Try.prog 19 #[x] w fun e w' => e = .returned (.bool s.down) ∧ Below w.heap.size w w'
  waits : ∀ s Bs w, P s Bs w → Calls Try.prog 20 #[x] w fun e w' => e = .returned (.int .i64 (s.waits.length : Nat)) ∧ Below w.heap.size w w'
  image : ∀ s Bs w, P s Bs w → s.ok → Calls Try.prog 17 #[x] w fun e w' => e = .returned (.string (str s.image)) ∧ Below w.heap.size w w'
  read : ∀ s Bs w (i : Int), P s Bs w → s.ok → s.ops ≤ 4294967296 → (Lit.int .i64 i).wf = true → Calls Try.prog 36 #[x, .int .i64 i] w fun e w' => e = .returned (.tuple #[.string (str (s.readT i)), .int .i64 (s.readE i)]) ∧ Below w.heap.size w w'
  write : ∀ s Bs w (i : Int) (t : ByteArray), P s Bs w → s.ok → s.ops ≤ 4294967295 → (Lit.int .i64 i).wf = true → t.size ≤ maxLen → Calls Try.prog 49 #[x, .int .i64 i, .string t] w (DPost P Bs (s.writeS i t.data.toList) (.int .i64 (s.writeE i t.data.toList)) w)
  flush : ∀ s Bs w, P s Bs w → s.ok → s.ops ≤ 4294967295 → Calls Try.prog 24 #[x] w (DPost P Bs s.flushS (.int .i64 s.flushE) w)
  fuse : ∀ s Bs w (n : Int), P s Bs w → (Lit.int .i64 n).wf = true → Calls Try.prog 38 #[x, .int .i64 n] w (DPost P Bs { s with fuse := n } (.tuple #[]) w)
  power : ∀ s Bs w (l : List Bool) (kv : Value), P s Bs w → s.ok → s.ops ≤ 4294967296 → (∀ w', w.heap.size ≤ w'.heap.size → (∀ k, k < B → k < w.heap.size → w'.heap[k]? = w.heap[k]?) → BoolAt l kv w') → Calls Try.prog 25 #[x, kv] w (DPost P Bs (s.powerS l) (.tuple #[]) w)
  ptr : ∃ ad, x = .pointer (some ad)
  one : ∀ s Bs s' Bs' w, P s Bs w → P s' Bs' w → Bs = Bs'
  grow : ∀ s Bs w s' Bs' w' k, P s Bs w → P s' Bs' w' → Bs' k → Bs k ∨ ∃ cs T fr, w'.heap[k]? = some (.cells cs T fr)

/-- New, Load: a disk of its own, or none. -/
def NewDisk : Prop := ∀ (n : Int) w, Calls Try.prog 14 #[.int .i64 n] w fun e w' => Below w.heap.size w w' ∧
  ((¬ (1 ≤ n ∧ n ≤ 8192) ∧ e = .returned (.tuple #[.pointer none, .int .i64 5])) ∨
   ((1 ≤ n ∧ n ≤ 8192) ∧ ∃ ad P Bs, e = .returned (.tuple #[.pointer (some ad), .int .i64 0]) ∧ DiskOk w.heap.size (.pointer (some ad)) P ∧ P (Dk.new n.toNat) Bs w'))
def LoadDisk : Prop := ∀ (t : ByteArray), t.size ≤ maxLen → ∀ w, Calls Try.prog 21 #[.string t] w fun e w' => Below w.heap.size w w' ∧
  ((¬ loadOk t.data.toList ∧ e = .returned (.tuple #[.pointer none, .int .i64 1])) ∨
   (loadOk t.data.toList ∧ ∃ ad P Bs, e = .returned (.tuple #[.pointer (some ad), .int .i64 0]) ∧ DiskOk w.heap.size (.pointer (some ad)) P ∧ P (Dk.load t.data.toList) Bs w'))

theorem DiskOk.kept {B : Nat} {x : Value} {P : Dk → (Nat → Prop) → World → Prop} (D : DiskOk B x P) {s : Dk} {Bs : Nat → Prop} {w w' : World} (h : P s Bs w) (k : Kept w w') : P s Bs w' :=
  D.stay s Bs w w' h k.size (fun j hj => k.block j (D.above s Bs w h j hj).2)

end Go.Proofs.Ytppbknlhknadbaa
namespace Go.Proofs.Ytppbknlhknadbaa
open Go.RowKit

def BFitOk : Prop := ∀ (l : List (Int × Int)) (v : Value) (w : World) (n size : Int), RunsAt l v w → l.length ≤ 65536 → I64 n → I64 size → Calls Try.prog 10 #[v, .int .i64 n, .int .i64 size] w fun e w' => e = .returned (.bool (decide (fitB l n size))) ∧ Kept w w'
def BPutOk : Prop := ∀ (B : Nat) (x : Value) (P : Dk → (Nat → Prop) → World → Prop), DiskOk B x P → ∀ (s : Dk) (Bs : Nat → Prop) (w : World) (l : List (Int × Int)) (v : Value) (t : ByteArray), P s Bs w → s.ok → s.ops ≤ 4294900000 → LiveAt l v Bs w → l.length ≤ 65536 → t.size ≤ maxLen →
  Calls Try.prog 22 #[x, v, .string t] w (DPost P Bs (bPut s l t.data.toList).1 (.int .i64 (bPut s l t.data.toList).2) w)
def BGetOk : Prop := ∀ (B : Nat) (x : Value) (P : Dk → (Nat → Prop) → World → Prop), DiskOk B x P → ∀ (s : Dk) (Bs : Nat → Prop) (w : World) (l : List (Int × Int)) (v : Value) (size : Int), P s Bs w → s.ok → s.ops ≤ 4294900000 → RunsAt l v w → l.length ≤ 65536 → I64 size →
  Calls Try.prog 26 #[x, v, .int .i64 size] w fun e w' => e = .returned (.tuple #[.string (str (bGet s l size).1), .int .i64 (bGet s l size).2]) ∧ Kept w w'
def BCopyOk : Prop := ∀ (B : Nat) (x : Value) (P : Dk → (Nat → Prop) → World → Prop), DiskOk B x P → ∀ (s : Dk) (Bs : Nat → Prop) (w : World) (la lb : List (Int × Int)) (u v : Value) (size : Int), P s Bs w → s.ok → s.ops ≤ 4294900000 → LiveAt la u Bs w → LiveAt lb v Bs w → la.length ≤ 65536 → lb.length ≤ 65536 → I64 size →
  Calls Try.prog 28 #[x, u, v, .int .i64 size] w (DPost P Bs (bCopy s la lb size).1 (.int .i64 (bCopy s la lb size).2) w)
/-- A nil disk. -/
def BNilOk : Prop :=
  (∀ p n c (t : ByteArray) w, Calls Try.prog 22 #[.pointer none, .slice p n c, .string t] w fun e w' => e = .returned (.int .i64 4) ∧ Kept w w') ∧
  (∀ p n c (k : Int) w, Calls Try.prog 26 #[.pointer none, .slice p n c, .int .i64 k] w fun e w' => e = .returned (.tuple #[.string ⟨#[]⟩, .int .i64 4]) ∧ Kept w w') ∧
  (∀ p n c p' n' c' (k : Int) w, Calls Try.prog 28 #[.pointer none, .slice p n c, .slice p' n' c', .int .i64 k] w fun e w' => e = .returned (.int .i64 4) ∧ Kept w w')

/-! ### The example -/
def bR : List (Int × Int) := [(7, 1), (3, 1)]
def b0 : Dk := Dk.new 9
def b1 : Dk := (putG b0 [7, 3] (seqB 129) 0 2).1
theorem bR_wf : wfR bR := by intro r hr; simp [bR] at hr; rcases hr with rfl | rfl <;> decide
theorem bR_fit : fitB bR 9 129 := by
  have hv : validL 0 9 bR := by decide
  have hv2 := validL_mono hv (show (9 : Int) ≤ 8192 by decide)
  refine ⟨by decide, by decide, hv, ?_⟩
  rw [cntA_allR (validL_nonneg hv2) (validL_apart hv2)]
  decide
theorem b_ok0 : b0.ok := Dk.ok.new (by decide) (by decide)
theorem b_ok1 : b1.ok := putG_ok 2 0 [7, 3] (seqB 129) b_ok0
theorem b_put : bPut b0 bR (seqB 129) = (b1, 0) := by
  have hs : b0.stands.length = 9 := by decide +kernel
  have e9 : ((9 : Nat) : Int) = 9 := rfl
  have e129 : ((129 : Nat) : Int) = 129 := rfl
  have hf : fitB bR ((9 : Nat) : Int) ((129 : Nat) : Int) := by rw [e9, e129]; exact bR_fit
  have hf2 : fitB bR (b0.stands.length : Int) ((seqB 129).length : Int) := by rw [hs, seqB_len]; exact hf
  unfold bPut
  rw [if_neg (not_not_intro hf2), if_neg (by decide +kernel)]
  have ha : allR bR = [7, 3] := by decide +kernel
  have h : (putG b0 [7, 3] (seqB 129) 0 2).2 = 0 := by decide +kernel
  have hl : ([7, 3] : List Nat).length = 2 := rfl
  rw [ha, hl]
  unfold b1
  generalize putG b0 [7, 3] (seqB 129) 0 2 = z at h ⊢
  exact Prod.ext rfl h
theorem b_get : bGet b1 bR 129 = (seqB 129, 0) := by
  have hs : b1.stands.length = 9 := by decide +kernel
  have hf : fitB bR ((9 : Nat) : Int) 129 := bR_fit
  unfold bGet
  rw [hs, if_neg (not_not_intro hf), if_neg (by decide +kernel)]
  have h : ((allR bR).flatMap b1.vis).take (129 : Int).toNat = seqB 129 := by decide +kernel
  rw [h]
theorem b_reads : b1.readE 7 = 0 ∧ b1.readE 3 = 0 ∧ b1.readT 7 = seqB 128 ∧ (b1.readT 3).length = 128 ∧ (b1.readT 3).getD 0 0 = 129 ∧ (b1.readT 3).getD 1 0 = 0 ∧ b1.ops ≤ 2 ∧ b0.ops = 0 := by decide +kernel

set_option maxRecDepth 100000 in
set_option maxHeartbeats 8000000 in
theorem bawake_of (ND : NewDisk) (PU : BPutOk) (GE : BGetOk) (w : World) : Calls Try.prog 13 #[] w (LawPost w) := by
  have N9 := ND 9 w
  have T9 := fun W => text12_any 129 (by omega) W
  have T8 := fun W => text12_any 128 (by omega) W
  obtain ⟨t9, ht9⟩ : ∃ t9, t9 = str (seqB 129) := ⟨_, rfl⟩
  obtain ⟨t8, ht8⟩ : ∃ t8, t8 = str (seqB 128) := ⟨_, rfl⟩
  rw [← ht9] at T9
  rw [← ht8] at T8
  have H9 := Lib.hid ht9
  have H8 := Lib.hid ht8
  have hz9 : t9.size ≤ maxLen := by rw [ht9, str_size, seqB_len]; decide
  have HZ9 := Lib.hid hz9
  have HPU := Lib.hid PU
  have HGE := Lib.hid GE
  clear ND PU GE ht9 ht8 hz9
  go_enter Try.func13, Try.ntmps13
  go_wp2_with fail
  refine N9.mono ?_
  rintro e w1 ⟨hb0, ⟨hn, _⟩ | ⟨-, ad, P, Bs0, rfl, D, hd0⟩⟩
  · exact absurd ⟨by decide, by decide⟩ hn
  rw [show Dk.new (9 : Int).toNat = b0 from rfl] at hd0
  have HD := Lib.hid D
  have HAB := Lib.hid (D.above _ _ _ hd0)
  have hk0 : Kept w1 (w1.alloc (.cells #[.int .i64 7, .int .i64 1, .int .i64 3, .int .i64 1] 66)) := box_below w1 _
  have hra : RunsAt bR (.slice (some ⟨w1.heap.size, 0, none⟩) 2 2) (w1.alloc (.cells #[.int .i64 7, .int .i64 1, .int .i64 3, .int .i64 1] 66)) := RunsAt.new w1 bR bR_wf 2 rfl _ rfl
  have HL0 : Hid (LiveAt bR (.slice (some ⟨w1.heap.size, 0, none⟩) 2 2) Bs0 (w1.alloc (.cells #[.int .i64 7, .int .i64 1, .int .i64 3, .int .i64 1] 66))) := Lib.hid ⟨hra, fun a n c e hn hk => by
    simp only [Value.slice.injEq, Option.some.injEq] at e
    have := (HAB.out _ hk).2
    rw [← e.1] at this
    exact Nat.lt_irrefl _ this⟩
  have HD0 := Lib.hid (D.kept hd0 hk0)
  have HK0 : Hid (Kept w (w1.alloc (.cells #[.int .i64 7, .int .i64 1, .int .i64 3, .int .i64 1] 66))) := Lib.hid ((show Kept w w1 from hb0).then hk0)
  clear N9 D hd0 hk0 hra hb0
  go_wp2_with fail
  refine (T9 _).mono ?_
  rintro e w2 ⟨rfl, hb2⟩
  have HL2 := Lib.hid (HL0.out.later hb2)
  have HD2 := Lib.hid (HD.out.kept HD0.out hb2)
  have HK2 := Lib.hid (HK0.out.then hb2)
  have PU := HPU.out _ _ _ HD.out b0 Bs0 w2 bR _ t9 HD2.out b_ok0 (by have := b_reads.2.2.2.2.2.2.2; omega) HL2.out (by decide) HZ9.out
  have e9 : t9.data.toList = seqB 129 := by rw [H9.out, str_list]
  rw [e9, b_put] at PU
  clear hb2 HL0 HD0 HK0 HPU e9
  go_wp2_with fail
  refine PU.mono ?_
  rintro e w3 ⟨rfl, ⟨Bs1, hd1, hs1⟩, hb3⟩
  have HL3 := Lib.hid (HL2.out.turn hs1 hb3)
  have HD3 := Lib.hid hd1
  have HB3 : Hid (Below w.heap.size w w3) := Lib.hid (ButBy.kept hb3 (fun k hk => (HAB.out k hk).1) HK2.out HK2.out.size)
  have GE := HGE.out _ _ _ HD.out b1 Bs1 w3 bR _ 129 hd1 b_ok1 (by have := b_reads.2.2.2.2.2.2.1; omega) HL3.out.at_ (by decide) (by unfold I64; omega)
  rw [b_get, ← H9.out] at GE
  clear PU hd1 hs1 hb3 HGE HL2 HD2 HK2
  go_wp2_with fail
  refine GE.mono ?_
  rintro e w4 ⟨rfl, hb4⟩
  have HD4 := Lib.hid (HD.out.kept HD3.out hb4)
  have HB4 : Hid (Below w.heap.size w w4) := Lib.hid (Below.then' HB3.out hb4 HB3.out.size)
  have R7 := HD.out.read b1 Bs1 w4 7 HD4.out b_ok1 (by have := b_reads.2.2.2.2.2.2.1; omega) rfl
  rw [b_reads.1, b_reads.2.2.1, ← H8.out] at R7
  clear GE hb4 HD3 HB3
  go_wp2_with fail
  refine R7.mono ?_
  rintro e w5 ⟨rfl, hb5⟩
  have HD5 := Lib.hid (HD.out.kept HD4.out hb5)
  have HB5 : Hid (Below w.heap.size w w5) := Lib.hid (Below.then' HB4.out hb5 HB4.out.size)
  have R3 := HD.out.read b1 Bs1 w5 3 HD5.out b_ok1 (by have := b_reads.2.2.2.2.2.2.1; omega) rfl
  rw [b_reads.2.1] at R3
  obtain ⟨X, hX⟩ : ∃ X, X = str (b1.readT 3) := ⟨_, rfl⟩
  rw [← hX] at R3
  have hx128 : X.size = 128 := by rw [hX, str_size]; exact b_reads.2.2.2.1
  have hxl : X.data.toList = b1.readT 3 := by rw [hX, str_list]
  have hg : ∀ (k : Nat) (h : k < X.size), X[k] = (b1.readT 3).getD k 0 := fun k h => by
    rw [← hxl, List.getD_eq_getElem?_getD, Array.getElem?_toList]
    have : X.data[k]? = some X.data[k] := Array.getElem?_eq_getElem h
    rw [this]; rfl
  have hx0 : X[0].toNat = 129 := by rw [hg 0 (by omega), b_reads.2.2.2.2.1]; rfl
  have hx1 : X[1].toNat = 0 := by rw [hg 1 (by omega), b_reads.2.2.2.2.2.1]; rfl
  clear hxl hg
  clear R7 hb5 HD4 HB4 hX
  go_wp2_with fail
  refine R3.mono ?_
  rintro e w6 ⟨rfl, hb6⟩
  have HB6 : Hid (Below w.heap.size w w6) := Lib.hid (Below.then' HB5.out hb6 HB5.out.size)
  have t99 : (t9.toList == t9.toList) = true := by simp
  have t88 : (t8.toList == t8.toList) = true := by simp
  clear R3 hb6 HD5 HB5
  go_wp2_with fail
  refine (T9 _).mono ?_
  rintro e w7 ⟨rfl, hb7⟩
  have HB7 : Hid (Below w.heap.size w w7) := Lib.hid (Below.then' HB6.out hb7 HB6.out.size)
  clear hb7 HB6
  go_wp2_with fail
  refine (T8 _).mono ?_
  rintro e w8 ⟨rfl, hb8⟩
  have HB8 : Hid (Below w.heap.size w w8) := Lib.hid (Below.then' HB7.out hb8 HB7.out.size)
  clear hb8 HB7
  go_wp2
  go_ret
  exact ⟨rfl, HB8.out⟩

end Go.Proofs.Ytppbknlhknadbaa
namespace Go.Proofs.Ytppbknlhknadbaa
open Go.RowKit

/-- few, as a slice that lies where the list lay. -/
theorem few12_slice (l : List (Int × Int)) (v : Value) (w : World) (h : RunsAt l v w) : ∃ p n c, n = (l.take 20).length ∧ RunsAt (l.take 20) (.slice p n c) w ∧ (∀ Bs, Apart v Bs → Apart (.slice p n c) Bs) ∧
    ∀ W, RunsAt l v W → Calls Try.prog 7 #[v] W fun e w' => e = .returned (.slice p n c) ∧ W = w' := by
  have hf := fewT_at h
  obtain ⟨p, c, hv, -, -⟩ := hf.out
  rw [hv] at hf
  refine ⟨p, _, c, rfl, hf, fun Bs ha => ?_, fun W hW => by have := few12_val l v W hW; rw [hv] at this; exact this⟩
  obtain ⟨q, d, rfl, -, -⟩ := h.out
  have hv2 : (if 20 < l.length then Value.slice q 20 d else .slice q l.length d) = .slice p (l.take 20).length c := hv
  intro a n' c' e hn hk
  simp only [Value.slice.injEq] at e
  obtain ⟨rfl, rfl, rfl⟩ := e
  split at hv2
  · simp only [Value.slice.injEq] at hv2
    refine ha a l.length d (by rw [hv2.1]) ?_ hk
    intro h0
    rw [List.length_take, h0] at hn
    exact hn rfl
  · simp only [Value.slice.injEq] at hv2
    refine ha a l.length d (by rw [hv2.1]) ?_ hk
    intro h0
    rw [List.length_take, h0] at hn
    exact hn rfl

set_option maxRecDepth 100000 in
set_option maxHeartbeats 4000000 in
theorem blobNobody_of (ND : NewDisk) (PU : BPutOk) (GE : BGetOk) (NI : BNilOk) (w : World) (v : Value) (l : List (Int × Int)) (hv : RunsAt l v w) (t : ByteArray) (_ : t.size ≤ maxLen) :
    Calls Try.prog 6 #[v, .string t] w (LawPost w) := by
  obtain ⟨p, n, c, hn, hl, -, hf⟩ := few12_slice l v w hv
  have FW := hf w hv
  have AW := fun W => bawake_of ND PU GE W
  obtain ⟨NP, NG, NC⟩ := NI
  obtain ⟨q, d, rfl, -, -⟩ := hv.out
  obtain ⟨nl, hnl⟩ : ∃ nl, nl = l.length := ⟨_, rfl⟩
  rw [← hnl] at FW ⊢
  have HAW := Lib.hid AW
  have HNP := Lib.hid NP
  have HNG := Lib.hid NG
  have HNC := Lib.hid NC
  clear hn hl hf hv hnl ND PU GE AW NP NG NC
  go_enter Try.func6, Try.ntmps6
  go_wp2_with fail
  refine FW.mono ?_
  rintro e w1 ⟨rfl, rfl⟩
  clear FW
  go_wp2_with fail
  refine (HNG.out _ _ _ _ _).mono ?_
  rintro e w2 ⟨rfl, hb2⟩
  have HK2 := Lib.hid hb2
  clear hb2 HNG
  go_wp2_with fail
  refine (HNP.out _ _ _ _ _).mono ?_
  rintro e w3 ⟨rfl, hb3⟩
  have HK3 := Lib.hid (HK2.out.then hb3)
  clear hb3 HK2 HNP
  go_wp2_with fail
  refine (HNC.out _ _ _ _ _ _ _ _).mono ?_
  rintro e w4 ⟨rfl, hb4⟩
  have HK4 := Lib.hid (HK3.out.then hb4)
  clear hb4 HK3 HNC
  go_wp2_with fail
  refine (HAW.out _).mono ?_
  rintro e w5 ⟨rfl, hb5⟩
  have HK5 := Lib.hid (HK4.out.then hb5)
  clear hb5 HK4 HAW
  go_wp2
  go_ret
  exact ⟨rfl, HK5.out⟩

end Go.Proofs.Ytppbknlhknadbaa
