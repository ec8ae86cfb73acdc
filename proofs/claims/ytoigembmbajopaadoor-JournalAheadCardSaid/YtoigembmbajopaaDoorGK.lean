/- The document's disk: the walks of Image, May, Load. The document's disk: the walk of New. '[]byte(s)': a row of bytes of the call's own. The document's disk: the walk of Spoil. A disk's contract, whatever it is made of; the statements' same, out of it. -/
import Derived.Test.YtoigembmbajopaaDoorGI
import Derived.Test.YtoigembmbajopaaDoorGB
import Derived.Test.YtoigembmbajopaaDoorRows
import Derived.Laws.IdiomStrings
import Derived.RegionTactic
import Derived.BigRegion
namespace Go.Proofs.YtoigembmbajopaaDoor
open Go.RowKit

set_option maxRecDepth 100000 in
set_option maxHeartbeats 1000000 in
/-- The document's Image. -/
theorem rimage_any {B g : Nat} {s : Dk} {vs vw : Value} {w : World} (h : RAt B g s vs vw w) (hok : s.ok) :
    Calls Tryd.prog 35 #[.pointer (some ⟨g, 0, none⟩)] w fun e w' => e = .returned (.string (str s.image)) ∧ w = w' := by
  obtain ⟨ps, cs, hvs, -, hcs⟩ := own_slice h.st
  have c0 : w.cell? ⟨g, 0, none⟩ = some vs := h.cell 0 _ rfl
  rw [hvs] at c0
  have hil := hok.image_len
  have hmost := hok.most
  have HCS := Lib.hid hcs
  have HSE := Lib.hid hok.sect
  unfold Dk.image at hil ⊢
  obtain ⟨st, hst⟩ : ∃ st, st = s.stands := ⟨_, rfl⟩
  rw [← hst] at HCS HSE hil hmost c0 ⊢
  obtain ⟨n, hn⟩ : ∃ n, n = st.length := ⟨_, rfl⟩
  rw [← hn] at HCS hil hmost c0
  have HN := Lib.hid hn
  obtain ⟨tx, htx⟩ : ∃ tx, tx = str st.flatten := ⟨_, rfl⟩
  rw [← htx]
  have HX := Lib.hid htx
  have HIL := Lib.hid hil
  clear htx hn hst hil h hok hvs hcs
  go_enter Tryd.func35, Tryd.ntmps35
  go_wp2
  go_loopg [3, 4] n (fun gh s3 s4 wx => ∃ (k : Nat) (t : ByteArray), k + gh = n ∧ s4 = .int .i64 k ∧ s3 = .string t ∧ Hid (t = str (st.take k).flatten) ∧ w = wx)
  case atStart => exact ⟨0, ⟨#[]⟩, by omega, rfl, rfl, Lib.hid rfl, rfl⟩
  case round =>
    obtain ⟨k, t, hk, rfl, rfl, HT, hwx⟩ := hrel
    subst hwx
    obtain ⟨k1, hk1⟩ : ∃ k1, k1 = k + 1 := ⟨_, rfl⟩
    have v1 : IntKind.i64.wrap ((k : Int) + 1) = (k1 : Int) := by rw [show (k : Int) + 1 = (k1 : Int) by omega]; exact IntWalk.i64_in _ (by omega)
    by_cases hkm : k < n
    · have hki : (k : Int) < n := by omega
      have bk : decide ((k : Int) < (n : Int)) = true := by simpa using hki
      have hkl : k < st.length := by rw [← HN.out]; exact hkm
      rcases HCS.out with h0 | ⟨gs, rfl, -, hcell⟩
      · omega
      have d1 := hcell _ _ (stC_get st k hkl)
      have hnx : (st.take k1).flatten = (st.take k).flatten ++ st[k] := by rw [hk1, List.take_succ_eq_append_getElem hkl, List.flatten_append]; simp
      have hx : st[k].length = 128 := HSE.out _ (List.getElem_mem hkl)
      have hpl : (st.take k).flatten.length = 128 * k := by
        rw [flat_len _ (fun l hl => HSE.out l (List.mem_of_mem_take hl)), List.length_take]; omega
      obtain ⟨x, hxx⟩ : ∃ x, x = st[k] := ⟨_, rfl⟩
      rw [← hxx] at d1 hnx hx
      obtain ⟨tb, htb⟩ : ∃ tb, tb = str x := ⟨_, rfl⟩
      rw [← htb] at d1
      obtain ⟨t2, ht2⟩ : ∃ t2, t2 = t ++ tb := ⟨_, rfl⟩
      have hs1 : t.size = 128 * k := by rw [HT.out, str_size]; exact hpl
      have hs2 : tb.size = 128 := by rw [htb, str_size]; exact hx
      have A1 : ∀ w', (Op.stringOp .add t tb).run Tryd.prog w' = .ok (.string t2) w' := fun w' => by rw [ht2]; exact run_string_add_sum w' t _ (by omega)
      have HT2 : Hid (t2 = str (st.take k1).flatten) := Lib.hid (by rw [ht2, HT.out, htb, str_append, hnx])
      clear ht2 htb hxx hnx hx hpl hs1 hs2 hkl hcell
      go_wp2
      go_roundg (n - k1)
      case measure => omega
      case rel => exact ⟨k1, t2, by omega, by first | rfl | (congr 1; omega), rfl, HT2, rfl⟩
    · have hke : k = n := by omega
      have hki : ¬ (k : Int) < n := by omega
      have bk : decide ((k : Int) < (n : Int)) = false := by simpa using hki
      have HT2 : Hid (t = tx) := Lib.hid (by rw [HT.out, HX.out, hke, HN.out, List.take_length])
      clear hke
      go_wp2
      go_ret
      exact ⟨by rw [HT2.out]; rfl, rfl⟩

/-- A disk that grows, sector by sector. -/
def half (L : List (List UInt8)) : Dk := ⟨L, [], -1, 0, false⟩

/-- One sector more. -/
theorem RAt.more {B g : Nat} {L : List (List UInt8)} {x : List UInt8} {vs v' : Value} {w w1 : World} (h : RAt B g (half L) vs (.slice none 0 0) w) (hg : w.grownBy w1 vs.ownBlock)
    (ho : w1.ownsRow B 9 1 v' (L.length + 1) (stC L ++ [.string (str x)])) : RAt B g (half (L ++ [x])) v' (.slice none 0 0) (w1.setCell ⟨g, 0, none⟩ v') := by
  have r1 : w1.heap[g]? = some (.cells (rA (half L) vs (.slice none 0 0)) 59 (0, 0)) := by
    rw [hg.block g (Array.getElem?_eq_some_iff.1 h.row).1 (fun e => h.apart.1 e.symm)]; exact h.row
  refine ⟨h.base, ?_, ?_, World.ownsRow_nil _ _ _ _⟩
  · rw [heap_setCell_same _ _ _ _ _ _ r1]; rfl
  · have e : stC (half (L ++ [x])).stands = stC L ++ [.string (str x)] := by show stC (L ++ [x]) = _; rw [stC_append]; rfl
    rw [e, show (half (L ++ [x])).stands.length = L.length + 1 by show (L ++ [x]).length = _; simp]
    refine own_stay ho (fun k e => set_other _ _ _ _ _ (fun x => ?_))
    subst x
    obtain ⟨cur, hc⟩ := own_typ ho k e
    rw [r1] at hc; simp at hc

end Go.Proofs.YtoigembmbajopaaDoor
namespace Go.Proofs.YtoigembmbajopaaDoor
open Go.RowKit

theorem infoB : (Tryd.prog.info? 5).map (fun i => (i.zero, i.size, i.bytes)) = some (some (.int .u8 0), 1, 1) := by kernel_rfl

/-- 128 bytes of 0. -/
def zeroZ : Array Value := (List.replicate 128 (Value.int .u8 0)).toArray
def zeroT : List UInt8 := List.replicate 128 0

theorem make_zero (w : World) : (Instr.makeSlice 46 (.int .i64 128) (.int .i64 128)).run Tryd.prog w = .ok (.slice (some ⟨w.heap.size, 0, none⟩) 128 128) (w.alloc (.cells zeroZ 5)) := by
  obtain ⟨i, hi, hx⟩ := Option.map_eq_some_iff.1 infoB
  simp only [Prod.mk.injEq] at hx
  obtain ⟨h0, h1, h2⟩ := hx
  have hr := run_makeSlice (P := Tryd.prog) w 46 5 i (.int .u8 0) Tryd.underlying46 hi h0 .i64 .i64 128 128 (by omega) (by omega) (by rw [h1]; omega) (by rw [h2]; omega) (by omega)
  rw [hr]
  have e : madeCells (Value.int .u8 0).cells ((128 : Int).toNat * i.size) = zeroZ := by rw [h1]; kernel_rfl
  rw [e]
  rfl

theorem conv_zero (w : World) (b : Nat) (hb : w.heap[b]? = some (.cells zeroZ 5 (0, 0))) : (convert 46 9 (.slice (some ⟨b, 0, none⟩) 128 128)).run Tryd.prog w = .ok (.string (str zeroT)) w := by
  refine conv_bytes w 46 9 5 b 128 128 zeroT (by simp [zeroT]) Tryd.underlying46 Tryd.underlying5 Tryd.underlying9 (fun j hj => ?_)
  have hj2 : j < 128 := by simpa [zeroT] using hj
  rw [cell_of_row _ _ _ _ _ _ hb]
  have e : zeroT[j]'hj = 0 := by unfold zeroT; exact List.getElem_replicate _
  refine Eq.trans ?_ (congrArg (fun x : UInt8 => some (Value.int .u8 (x.toNat : Int))) e.symm)
  show (List.replicate 128 (Value.int .u8 0)).toArray[j]? = _
  rw [List.getElem?_toArray, List.getElem?_replicate, if_pos hj2]
  rfl

set_option maxRecDepth 100000 in
set_option maxHeartbeats 4000000 in
/-- The document's New. -/
theorem rnew_any (n : Nat) (hn : n ≤ 8192) (w : World) :
    Calls Tryd.prog 63 #[.int .i64 n] w fun e w' => ∃ vs, e = .returned (.pointer (some ⟨w.heap.size, 0, none⟩)) ∧ RAt w.heap.size w.heap.size (Dk.new n) vs (.slice none 0 0) w' ∧ Below w.heap.size w w' := by
  obtain ⟨is, his, hx⟩ := Option.map_eq_some_iff.1 infoS
  simp only [Prod.mk.injEq] at hx
  obtain ⟨hz0, hz1, hz2⟩ := hx
  have HIS := Lib.hid his
  have HZ0 := Lib.hid hz0
  have HZ1 := Lib.hid hz1
  have HZ2 := Lib.hid hz2
  obtain ⟨g, hg⟩ : ∃ g, g = w.heap.size := ⟨_, rfl⟩
  rw [← hg]
  have R0 : Hid (RAt g g (half (List.replicate 0 zeroT)) (.slice none 0 0) (.slice none 0 0) (w.alloc (.cells (rA (half []) (.slice none 0 0) (.slice none 0 0)) 59))) := Lib.hid
    ⟨Nat.le_refl _, by rw [hg]; exact heap_alloc_new w _, World.ownsRow_nil _ _ _ _, World.ownsRow_nil _ _ _ _⟩
  have K0 : Hid (Kept w (w.alloc (.cells (rA (half []) (.slice none 0 0) (.slice none 0 0)) 59))) := Lib.hid (box_below _ _)
  have HG := Lib.hid hg
  have hmk := fun w' => make_zero w'
  have hcv := fun w' b hb => conv_zero w' b hb
  have hzo : ∀ x ∈ zeroZ.toList, x.oneCell' = true := by intro x hx; simp [zeroZ] at hx; subst hx; rfl
  obtain ⟨Z, hZ⟩ : ∃ Z, Z = zeroZ := ⟨_, rfl⟩
  rw [← hZ] at hmk hcv
  obtain ⟨tk, htk⟩ : ∃ tk, tk = str zeroT := ⟨_, rfl⟩
  rw [← htk] at hcv
  have HTK := Lib.hid htk
  clear hz0 hz1 hz2 his hzo hZ htk
  go_enter Tryd.func63, Tryd.ntmps63
  go_wp2
  rw [← HG.out]
  clear hg
  go_loopg [4] n (fun gh s4 wx => ∃ (k : Nat) (vs : Value), k + gh = n ∧ s4 = .int .i64 (k : Nat) ∧ Hid (RAt g g (half (List.replicate k zeroT)) vs (.slice none 0 0) wx) ∧ Hid (Kept w wx))
  case atStart => exact ⟨0, _, by omega, rfl, R0, K0⟩
  case round =>
    clear R0 K0
    obtain ⟨k, vs, hk, rfl, HR, HK⟩ := hrel
    obtain ⟨k1, hk1⟩ : ∃ k1, k1 = k + 1 := ⟨_, rfl⟩
    have v1 : IntKind.i64.wrap ((k : Int) + 1) = (k1 : Int) := by rw [show (k : Int) + 1 = (k1 : Int) by omega]; exact IntWalk.i64_in _ (by omega)
    by_cases hkm : k < n
    · have hki : (k : Int) < n := by omega
      have bk : decide ((k : Int) < (n : Int)) = true := by simpa using hki
      have hr := HR.out
      have hlen : (half (List.replicate k zeroT)).stands.length = k := by show (List.replicate k zeroT).length = k; simp
      have S0 : wr.drew.cell? ⟨g, 0, none⟩ = some vs := hr.cell 0 _ rfl
      have HGW : Hid (g ≤ wr.heap.size) := Lib.hid (Nat.le_of_lt (Array.getElem?_eq_some_iff.1 hr.row).1)
      have KX : Kept wr (wr.alloc (.cells Z 5)) := box_below _ _
      have KY : Kept wr ((wr.alloc (.cells Z 5)).alloc (.cells #[.string tk] 9)).drew := Below.drew (KX.then (box_below _ _))
      have S1 : (wr.alloc (.cells Z 5)).drew.cell? ⟨g, 0, none⟩ = some vs := Kept.cell KX S0
      have S2 : ((wr.alloc (.cells Z 5)).alloc (.cells #[.string tk] 9)).drew.cell? ⟨g, 0, none⟩ = some vs := Kept.cell KY S0
      have cv : (convert 46 9 (.slice (some ⟨wr.heap.size, 0, none⟩) 128 128)).run Tryd.prog (wr.alloc (.cells Z 5)).drew = .ok (.string tk) (wr.alloc (.cells Z 5)).drew := hcv _ _ (heap_alloc_new wr _)
      have HRW : Hid (RAt g g (half (List.replicate k zeroT)) vs (.slice none 0 0) ((wr.alloc (.cells Z 5)).alloc (.cells #[.string tk] 9)).drew) := Lib.hid (HR.out.kept KY)
      have HST1 : Hid (((wr.alloc (.cells Z 5)).alloc (.cells #[.string tk] 9)).drew.ownsRow g 9 1 vs k (stC (List.replicate k (List.replicate 128 0)))) := Lib.hid (by have h := HRW.out.st; rw [hlen] at h; exact h)
      have HFN : Hid (FlatAt 1 1 [.string tk] (.slice (some ⟨wr.heap.size + 1, 0, none⟩) 1 1) ((wr.alloc (.cells Z 5)).alloc (.cells #[.string tk] 9)).drew) := Lib.hid (by have h := FlatAt.new (wr.alloc (.cells Z 5)) 9 1 1 1 #[.string tk] rfl (by intro x hx; simp at hx; subst hx; rfl); rw [show (wr.alloc (.cells Z 5)).heap.size = wr.heap.size + 1 by simp] at h; exact h)
      have HKW : Hid (Kept w ((wr.alloc (.cells Z 5)).alloc (.cells #[.string tk] 9)).drew) := Lib.hid (HK.out.then KY)
      have HEND := Lib.hid (fun (v' : Value) (w4 : World) (ho : w4.ownsRow g 9 1 v' (k + 1) (stC (List.replicate k (List.replicate 128 0)) ++ [.string tk])) (hg : ((wr.alloc (.cells Z 5)).alloc (.cells #[.string tk] 9)).drew.grownBy w4 vs.ownBlock) =>
        (show Hid (RAt g g (half (List.replicate k1 zeroT)) v' (.slice none 0 0) (w4.setCell ⟨g, 0, none⟩ v')) ∧ Hid (Kept w (w4.setCell ⟨g, 0, none⟩ v')) from by
          refine ⟨?_, ?_⟩
          · rw [hk1, List.replicate_succ']
            refine RAt.more HRW.out hg ?_
            rw [List.length_replicate, ← HTK.out]
            exact ho
          · have h1 : Kept w w4 := HKW.out.grown hg HKW.out.size (fun kk hk => by have := (HST1.out.lt kk hk).1; have := HG.out; omega)
            exact below_touch h1 (grown_set w4 g 0 v') h1.size (by rw [HG.out]; exact Nat.le_refl _)))
      have HCELL := Lib.hid (fun (v' : Value) (w4 : World) (_ho : w4.ownsRow g 9 1 v' (k + 1) (stC (List.replicate k (List.replicate 128 0)) ++ [.string tk])) (hg : ((wr.alloc (.cells Z 5)).alloc (.cells #[.string tk] 9)).drew.grownBy w4 vs.ownBlock) =>
        (show w4.cell? ⟨g, 0, none⟩ = some vs ∧ w4.frozen? ⟨g, 0, none⟩ = false from by
          have r := HRW.out
          have e : w4.heap[g]? = some (.cells (rA (half (List.replicate k zeroT)) vs (.slice none 0 0)) 59 (0, 0)) := by
            rw [hg.block g (Array.getElem?_eq_some_iff.1 r.row).1 (fun x => r.apart.1 x.symm)]; exact r.row
          exact ⟨by rw [cell_of_row _ _ _ _ _ _ e]; rfl, frozen_of_row _ _ _ _ _ e⟩))
      clear hr hlen KX KY hcv
      go_wp2_with fail
      refine wp_region_held_drew (S := fun _ => True) (by kernel_rfl) trivial (fun hHeld => ?_)
      refine wpAnyH_take (i := 0) (v := ?_) rfl (by kernel_rfl) (by kernel_rfl) (by kernel_rfl) (fun _ _ _ h => h) (Or.inl ⟨by first | kernel_rfl | rfl, ?_⟩) (by assumption) ?_
      case refine_2 => intro w hSw; go_simp; try with_reducible rfl
      refine wpAnyH_take (i := 1) (v := ?_) rfl (by kernel_rfl) (by kernel_rfl) (by kernel_rfl) (fun _ _ _ h => h) (Or.inl ⟨by first | kernel_rfl | rfl, ?_⟩) (by assumption) ?_
      case refine_2 => intro w hSw; go_simp; try with_reducible rfl
      refine wpAnyH_take (i := 2) (v := ?_) rfl (by kernel_rfl) (by kernel_rfl) (by kernel_rfl) (fun _ _ _ h => h) (Or.inl ⟨by first | kernel_rfl | rfl, ?_⟩) (by assumption) ?_
      case refine_2 => intro w hSw; go_simp; try with_reducible rfl
      refine wpAnyH_take (i := 3) (v := ?_) rfl (by kernel_rfl) (by kernel_rfl) (by kernel_rfl) (fun _ _ _ h => h) (Or.inl ⟨by first | kernel_rfl | rfl, ?_⟩) (by assumption) ?_
      case refine_2 => intro w hSw; go_simp; try with_reducible rfl
      refine wpAnyH_ready (rs := [4, 5]) (by kernel_rfl) (by simp) (AllReadyH.cons rfl (fun K hK => ?_) (AllReadyH.cons rfl (fun K hK => ?_) AllReadyH.nil))
      · go_simp
        refine hK.out _ _ trivial (fun _ => ?_)
        clear hK K
        refine wpAnyH_ready (rs := [5]) (by kernel_rfl) (by simp) (AllReadyH.cons rfl (fun K hK => ?_) AllReadyH.nil)
        go_simp
        refine hK.out _ _ trivial (fun _ => ?_)
        clear hK K
        refine wpAnyH_ready (rs := [6]) (by kernel_rfl) (by simp) (AllReadyH.cons rfl (fun K hK => ?_) AllReadyH.nil)
        go_simp
        refine hK.out _ _ trivial (fun _ => ?_)
        clear hK K
        refine wpAnyH_ready (rs := [7]) (by kernel_rfl) (by simp) (AllReadyH.cons rfl (fun K hK => ?_) AllReadyH.nil)
        go_simp
        refine hK.out _ _ trivial (fun _ => ?_)
        clear hK K
        refine wpAnyH_ready (rs := [8]) (by kernel_rfl) (by simp) (AllReadyH.cons rfl (fun K hK => ?_) AllReadyH.nil)
        rw [if_pos (by rfl)]
        refine wp_append_flat _ _ 56 rfl g 9 is (.string ⟨#[]⟩) 1 16 Tryd.underlying56 HIS.out HZ0.out HZ1.out HZ2.out rfl (by decide) _ k (stC (List.replicate k (List.replicate 128 0))) rfl HST1.out _ 1 [.string tk] rfl HFN.out ?_ ?_ ?_ ?_
        · unfold maxLen; omega
        · omega
        · have := HGW.out; show g ≤ ((wr.heap.push _).push _).size; simp; omega
        intro v' w4 hown4 hg4 _
        have FIN := HEND.out v' w4 hown4 hg4
        obtain ⟨pv, cv, rfl, -, -⟩ := own_slice hown4
        have FC := HCELL.out _ w4 hown4 hg4
        have fc := FC.1
        have ff := FC.2
        clear FC hown4 hg4
        refine hK.out _ _ trivial (fun _ => ?_)
        clear hK K
        refine wpAnyH_take (i := 9) (v := ?_) rfl (by kernel_rfl) (by kernel_rfl) (by kernel_rfl) (fun _ _ _ h => h) (Or.inl ⟨by first | kernel_rfl | rfl, ?_⟩) (by assumption) ?_
        case refine_2 => intro w hSw; go_simp; try with_reducible rfl
        refine wpAnyH_take (i := 10) (v := ?_) rfl (by kernel_rfl) (by kernel_rfl) (by kernel_rfl) (fun _ _ _ h => h) (Or.inl ⟨by first | kernel_rfl | rfl, ?_⟩) (by assumption) ?_
        case refine_2 => intro w hSw; go_simp; try with_reducible rfl
        refine wpAnyH_ready (rs := [11]) (by kernel_rfl) (by simp) (AllReadyH.cons rfl (fun K hK => ?_) AllReadyH.nil)
        go_simp
        refine hK.out _ _ trivial (fun _ => ?_)
        clear hK K
        refine wpAnyH_done (by kernel_rfl) ?_ _
        go_wp2
        go_roundg (n - k1)
        case measure => omega
        case rel => exact ⟨k1, _, by omega, by first | rfl | (congr 1; omega), FIN.1, FIN.2⟩
      · go_simp
        refine hK.out _ _ trivial (fun _ => ?_)
        clear hK K
        refine wpAnyH_ready (rs := [4, 6]) (by kernel_rfl) (by simp) (AllReadyH.cons rfl (fun K hK => ?_) (AllReadyH.cons rfl (fun K hK => ?_) AllReadyH.nil))
        · go_simp
          refine hK.out _ _ trivial (fun _ => ?_)
          clear hK K
          refine wpAnyH_ready (rs := [6]) (by kernel_rfl) (by simp) (AllReadyH.cons rfl (fun K hK => ?_) AllReadyH.nil)
          go_simp
          refine hK.out _ _ trivial (fun _ => ?_)
          clear hK K
          refine wpAnyH_ready (rs := [7]) (by kernel_rfl) (by simp) (AllReadyH.cons rfl (fun K hK => ?_) AllReadyH.nil)
          go_simp
          refine hK.out _ _ trivial (fun _ => ?_)
          clear hK K
          refine wpAnyH_ready (rs := [8]) (by kernel_rfl) (by simp) (AllReadyH.cons rfl (fun K hK => ?_) AllReadyH.nil)
          rw [if_pos (by rfl)]
          refine wp_append_flat _ _ 56 rfl g 9 is (.string ⟨#[]⟩) 1 16 Tryd.underlying56 HIS.out HZ0.out HZ1.out HZ2.out rfl (by decide) _ k (stC (List.replicate k (List.replicate 128 0))) rfl HST1.out _ 1 [.string tk] rfl HFN.out ?_ ?_ ?_ ?_
          · unfold maxLen; omega
          · omega
          · have := HGW.out; show g ≤ ((wr.heap.push _).push _).size; simp; omega
          intro v' w4 hown4 hg4 _
          have FIN := HEND.out v' w4 hown4 hg4
          obtain ⟨pv, cv, rfl, -, -⟩ := own_slice hown4
          have FC := HCELL.out _ w4 hown4 hg4
          have fc := FC.1
          have ff := FC.2
          clear FC hown4 hg4
          refine hK.out _ _ trivial (fun _ => ?_)
          clear hK K
          refine wpAnyH_take (i := 9) (v := ?_) rfl (by kernel_rfl) (by kernel_rfl) (by kernel_rfl) (fun _ _ _ h => h) (Or.inl ⟨by first | kernel_rfl | rfl, ?_⟩) (by assumption) ?_
          case refine_2 => intro w hSw; go_simp; try with_reducible rfl
          refine wpAnyH_take (i := 10) (v := ?_) rfl (by kernel_rfl) (by kernel_rfl) (by kernel_rfl) (fun _ _ _ h => h) (Or.inl ⟨by first | kernel_rfl | rfl, ?_⟩) (by assumption) ?_
          case refine_2 => intro w hSw; go_simp; try with_reducible rfl
          refine wpAnyH_ready (rs := [11]) (by kernel_rfl) (by simp) (AllReadyH.cons rfl (fun K hK => ?_) AllReadyH.nil)
          go_simp
          refine hK.out _ _ trivial (fun _ => ?_)
          clear hK K
          refine wpAnyH_done (by kernel_rfl) ?_ _
          go_wp2
          go_roundg (n - k1)
          case measure => omega
          case rel => exact ⟨k1, _, by omega, by first | rfl | (congr 1; omega), FIN.1, FIN.2⟩
        · go_simp
          refine hK.out _ _ trivial (fun _ => ?_)
          clear hK K
          refine wpAnyH_ready (rs := [4, 7]) (by kernel_rfl) (by simp) (AllReadyH.cons rfl (fun K hK => ?_) (AllReadyH.cons rfl (fun K hK => ?_) AllReadyH.nil))
          · go_simp
            refine hK.out _ _ trivial (fun _ => ?_)
            clear hK K
            refine wpAnyH_ready (rs := [7]) (by kernel_rfl) (by simp) (AllReadyH.cons rfl (fun K hK => ?_) AllReadyH.nil)
            go_simp
            refine hK.out _ _ trivial (fun _ => ?_)
            clear hK K
            refine wpAnyH_ready (rs := [8]) (by kernel_rfl) (by simp) (AllReadyH.cons rfl (fun K hK => ?_) AllReadyH.nil)
            rw [if_pos (by rfl)]
            refine wp_append_flat _ _ 56 rfl g 9 is (.string ⟨#[]⟩) 1 16 Tryd.underlying56 HIS.out HZ0.out HZ1.out HZ2.out rfl (by decide) _ k (stC (List.replicate k (List.replicate 128 0))) rfl HST1.out _ 1 [.string tk] rfl HFN.out ?_ ?_ ?_ ?_
            · unfold maxLen; omega
            · omega
            · have := HGW.out; show g ≤ ((wr.heap.push _).push _).size; simp; omega
            intro v' w4 hown4 hg4 _
            have FIN := HEND.out v' w4 hown4 hg4
            obtain ⟨pv, cv, rfl, -, -⟩ := own_slice hown4
            have FC := HCELL.out _ w4 hown4 hg4
            have fc := FC.1
            have ff := FC.2
            clear FC hown4 hg4
            refine hK.out _ _ trivial (fun _ => ?_)
            clear hK K
            refine wpAnyH_take (i := 9) (v := ?_) rfl (by kernel_rfl) (by kernel_rfl) (by kernel_rfl) (fun _ _ _ h => h) (Or.inl ⟨by first | kernel_rfl | rfl, ?_⟩) (by assumption) ?_
            case refine_2 => intro w hSw; go_simp; try with_reducible rfl
            refine wpAnyH_take (i := 10) (v := ?_) rfl (by kernel_rfl) (by kernel_rfl) (by kernel_rfl) (fun _ _ _ h => h) (Or.inl ⟨by first | kernel_rfl | rfl, ?_⟩) (by assumption) ?_
            case refine_2 => intro w hSw; go_simp; try with_reducible rfl
            refine wpAnyH_ready (rs := [11]) (by kernel_rfl) (by simp) (AllReadyH.cons rfl (fun K hK => ?_) AllReadyH.nil)
            go_simp
            refine hK.out _ _ trivial (fun _ => ?_)
            clear hK K
            refine wpAnyH_done (by kernel_rfl) ?_ _
            go_wp2
            go_roundg (n - k1)
            case measure => omega
            case rel => exact ⟨k1, _, by omega, by first | rfl | (congr 1; omega), FIN.1, FIN.2⟩
          · go_simp
            refine hK.out _ _ trivial (fun _ => ?_)
            clear hK K
            refine wpAnyH_ready (rs := [4]) (by kernel_rfl) (by simp) (AllReadyH.cons rfl (fun K hK => ?_) AllReadyH.nil)
            go_simp
            refine hK.out _ _ trivial (fun _ => ?_)
            clear hK K
            refine wpAnyH_ready (rs := [8]) (by kernel_rfl) (by simp) (AllReadyH.cons rfl (fun K hK => ?_) AllReadyH.nil)
            rw [if_pos (by rfl)]
            refine wp_append_flat _ _ 56 rfl g 9 is (.string ⟨#[]⟩) 1 16 Tryd.underlying56 HIS.out HZ0.out HZ1.out HZ2.out rfl (by decide) _ k (stC (List.replicate k (List.replicate 128 0))) rfl HST1.out _ 1 [.string tk] rfl HFN.out ?_ ?_ ?_ ?_
            · unfold maxLen; omega
            · omega
            · have := HGW.out; show g ≤ ((wr.heap.push _).push _).size; simp; omega
            intro v' w4 hown4 hg4 _
            have FIN := HEND.out v' w4 hown4 hg4
            obtain ⟨pv, cv, rfl, -, -⟩ := own_slice hown4
            have FC := HCELL.out _ w4 hown4 hg4
            have fc := FC.1
            have ff := FC.2
            clear FC hown4 hg4
            refine hK.out _ _ trivial (fun _ => ?_)
            clear hK K
            refine wpAnyH_take (i := 9) (v := ?_) rfl (by kernel_rfl) (by kernel_rfl) (by kernel_rfl) (fun _ _ _ h => h) (Or.inl ⟨by first | kernel_rfl | rfl, ?_⟩) (by assumption) ?_
            case refine_2 => intro w hSw; go_simp; try with_reducible rfl
            refine wpAnyH_take (i := 10) (v := ?_) rfl (by kernel_rfl) (by kernel_rfl) (by kernel_rfl) (fun _ _ _ h => h) (Or.inl ⟨by first | kernel_rfl | rfl, ?_⟩) (by assumption) ?_
            case refine_2 => intro w hSw; go_simp; try with_reducible rfl
            refine wpAnyH_ready (rs := [11]) (by kernel_rfl) (by simp) (AllReadyH.cons rfl (fun K hK => ?_) AllReadyH.nil)
            go_simp
            refine hK.out _ _ trivial (fun _ => ?_)
            clear hK K
            refine wpAnyH_done (by kernel_rfl) ?_ _
            go_wp2
            go_roundg (n - k1)
            case measure => omega
            case rel => exact ⟨k1, _, by omega, by first | rfl | (congr 1; omega), FIN.1, FIN.2⟩
    · have hki : ¬ (k : Int) < n := by omega
      have bk : decide ((k : Int) < (n : Int)) = false := by simpa using hki
      have HL : Hid (RAt g g (Dk.new n) vs (.slice none 0 0) wr) := Lib.hid (by
        have h := HR.out
        rw [show k = n by omega] at h
        exact h)
      clear hcv
      go_wp2
      go_ret
      exact ⟨rfl, ⟨vs, HL.out⟩, by rw [HG.out]; exact HK.out⟩

end Go.Proofs.YtoigembmbajopaaDoor
namespace Go.Proofs.YtoigembmbajopaaDoor
open Go.RowKit

theorem cell_frozen_row (w : World) (g i : Nat) (cs : Array Value) (t : TypeId) (m : Nat) (h : w.heap[g]? = some (.cells cs t (m, m + 1))) (hi : i < m) : w.frozen? ⟨g, i, none⟩ = false := by
  simp [World.frozen?, h]
  omega

theorem setCell_row (w : World) (g i : Nat) (cs : Array Value) (t : TypeId) (fr : Nat × Nat) (v : Value) (h : w.heap[g]? = some (.cells cs t fr)) : (w.setCell ⟨g, i, none⟩ v).heap[g]? = some (.cells (cs.setIfInBounds i v) t fr) := by
  simp [World.setCell, Array.getElem?_modify, h]

/-- A row of bytes of the call's own, as '[]byte(s)' lays it. -/
def ByteRow (w wr : World) (n : Nat) (bs : List UInt8) : Prop :=
  ∃ (cs : Array Value) (m : Nat), wr.heap[w.heap.size]? = some (.cells cs 5 (m, m + 1)) ∧ n ≤ m ∧ bs.length = n ∧ (∀ i, i < n → cs[i]? = some (.int .u8 ((bs.getD i 0).toNat : Int))) ∧ Below w.heap.size w wr

theorem ByteRow.cell {w wr : World} {n : Nat} {bs : List UInt8} (h : ByteRow w wr n bs) (i : Nat) (hi : i < n) : wr.cell? ⟨w.heap.size, i, none⟩ = some (.int .u8 ((bs.getD i 0).toNat : Int)) := by
  obtain ⟨cs, m, h1, _, _, h4, _⟩ := h
  rw [cell_of_row _ _ i _ _ _ h1]
  exact h4 i hi

theorem ByteRow.froz {w wr : World} {n : Nat} {bs : List UInt8} (h : ByteRow w wr n bs) (i : Nat) (hi : i < n) : wr.frozen? ⟨w.heap.size, i, none⟩ = false := by
  obtain ⟨cs, m, h1, h2, _, _, _⟩ := h
  exact cell_frozen_row _ _ _ _ _ _ h1 (by omega)

theorem ByteRow.set {w wr : World} {n : Nat} {bs : List UInt8} (h : ByteRow w wr n bs) (i : Nat) (hi : i < n) (c : UInt8) : ByteRow w (wr.setCell ⟨w.heap.size, i, none⟩ (.int .u8 (c.toNat : Int))) n (bs.set i c) := by
  obtain ⟨cs, m, h1, h2, h3, h4, h5⟩ := h
  refine ⟨_, m, setCell_row _ _ _ _ _ _ _ h1, h2, by rw [List.length_set]; exact h3, ?_, h5.setCell (Nat.le_refl _) _⟩
  intro j hj
  rw [Array.getElem?_setIfInBounds, List.getD_eq_getElem?_getD, List.getElem?_set]
  have hcs : i < cs.size := (Array.getElem?_eq_some_iff.1 (h4 i hi)).1
  by_cases e : i = j
  · subst e
    rw [if_pos rfl, if_pos hcs, if_pos rfl, if_pos (by omega)]
    rfl
  · rw [if_neg e, if_neg e, h4 j hj, List.getD_eq_getElem?_getD]

theorem ByteRow.drew {w wr : World} {n : Nat} {bs : List UInt8} (h : ByteRow w wr n bs) : ByteRow w wr.drew n bs := by
  obtain ⟨cs, m, h1, h2, h3, h4, h5⟩ := h
  exact ⟨cs, m, h1, h2, h3, h4, h5.drew⟩

theorem bytes_row (s : ByteArray) (w : World) : ∃ c w', (convert 9 46 (.string s)).run Tryd.prog w = .ok (.slice (some ⟨w.heap.size, 0, none⟩) s.size c) w' ∧ ByteRow w w' s.size s.data.toList := by
  refine ⟨_, _, run_bytes_of_string w 9 46 5 s Tryd.underlying9 Tryd.underlying46 Tryd.underlying5, ?_⟩
  refine ⟨_, _, heap_alloc_last w.drew _, ?_, data_len s, ?_, ?_⟩
  · simp [bytesRow]
  · intro i hi
    rw [bytesRow_at s _ i hi]
    have hl : i < s.data.toList.length := by rw [data_len]; exact hi
    rw [List.getD_eq_getElem?_getD, List.getElem?_eq_getElem hl]
    rfl
  · exact (Below.refl _ _).drew.alloc (Nat.le_refl _) _

end Go.Proofs.YtoigembmbajopaaDoor
namespace Go.Proofs.YtoigembmbajopaaDoor
open Go.RowKit

/-- k bytes from a place on, exclusive or. -/
def xorK (l : List UInt8) (a : Nat) (b : List UInt8) (k : Nat) : List UInt8 := (List.range l.length).map fun i => if a ≤ i ∧ i < a + k then l.getD i 0 ^^^ b.getD (i - a) 0 else l.getD i 0
theorem xorK_all (l : List UInt8) (a : Nat) (b : List UInt8) : xorK l a b b.length = xorAt l a b := rfl
theorem xorK_len (l : List UInt8) (a : Nat) (b : List UInt8) (k : Nat) : (xorK l a b k).length = l.length := by simp [xorK]
theorem xorK_zero (l : List UInt8) (a : Nat) (b : List UInt8) : xorK l a b 0 = l := by
  apply List.ext_getElem (xorK_len l a b 0)
  intro i h1 h2
  simp only [xorK, List.getElem_map, List.getElem_range]
  rw [if_neg (by omega), List.getD_eq_getElem?_getD, List.getElem?_eq_getElem h2]
  rfl
theorem xorK_at (l : List UInt8) (a : Nat) (b : List UInt8) (k : Nat) (h : a + k < l.length) : (xorK l a b k).getD (a + k) 0 = l.getD (a + k) 0 := by
  rw [List.getD_eq_getElem?_getD, List.getElem?_eq_getElem (by rw [xorK_len]; exact h)]
  simp only [xorK, List.getElem_map, List.getElem_range, Option.getD_some]
  rw [if_neg (by omega)]
theorem xorK_next (l : List UInt8) (a : Nat) (b : List UInt8) (k : Nat) (_h : a + k < l.length) : (xorK l a b k).set (a + k) (l.getD (a + k) 0 ^^^ b.getD k 0) = xorK l a b (k + 1) := by
  apply List.ext_getElem (by rw [List.length_set, xorK_len, xorK_len])
  intro i h1 h2
  rw [List.getElem_set]
  simp only [xorK, List.getElem_map, List.getElem_range]
  by_cases e : a + k = i
  · subst e
    rw [if_pos rfl, if_pos (by omega), Nat.add_sub_cancel_left]
  · rw [if_neg e]
    by_cases h3 : a ≤ i ∧ i < a + k
    · rw [if_pos h3, if_pos (by omega)]
    · rw [if_neg h3, if_neg (by omega)]

theorem ByteRow.below {w wr : World} {n : Nat} {bs : List UInt8} (h : ByteRow w wr n bs) : Below w.heap.size w wr := h.choose_spec.choose_spec.2.2.2.2
theorem ByteRow.len {w wr : World} {n : Nat} {bs : List UInt8} (h : ByteRow w wr n bs) : bs.length = n := h.choose_spec.choose_spec.2.2.1

theorem ByteRow.text {w wr : World} {n c : Nat} {bs : List UInt8} (h : ByteRow w wr n bs) : (convert 46 9 (.slice (some ⟨w.heap.size, 0, none⟩) n c)).run Tryd.prog wr = .ok (.string (str bs)) wr :=
  conv_bytes wr 46 9 5 w.heap.size n c bs h.len Tryd.underlying46 Tryd.underlying5 Tryd.underlying9 (fun j hj => by
    rw [h.cell j (by rw [← h.len]; exact hj), List.getD_eq_getElem?_getD, List.getElem?_eq_getElem hj]; rfl)

end Go.Proofs.YtoigembmbajopaaDoor
namespace Go.Proofs.YtoigembmbajopaaDoor
open Go.RowKit

/-- What a call that changes a disk leaves. -/
def DPost (P : Dk → (Nat → Prop) → World → Prop) (Bs : Nat → Prop) (s' : Dk) (ret : Value) (w : World) (e : Ending) (w' : World) : Prop :=
  e = .returned ret ∧ (∃ Bs', P s' Bs' w' ∧ ∀ k, Bs' k → Bs k ∨ w.heap.size ≤ k) ∧ ButBy Bs w w'

/-- What a disk is to keep, for some predicate on its state and its blocks. -/
structure DiskOk (B : Nat) (x : Value) (P : Dk → (Nat → Prop) → World → Prop) : Prop where
  above : ∀ s Bs w, P s Bs w → ∀ k, Bs k → B ≤ k ∧ k < w.heap.size
  stay : ∀ s Bs w w', P s Bs w → w.heap.size ≤ w'.heap.size → (∀ k, Bs k → w'.heap[k]? = w.heap[k]?) → P s Bs w'
  len : ∀ s Bs w, P s Bs w → s.ok → Calls Tryd.prog 101 #[x] w fun e w' => e = .returned (.int .i64 (s.stands.length : Nat)) ∧ Below w.heap.size w w'
  down : ∀ s Bs w, P s Bs w → Calls Tryd.prog 30 #[x] w fun e w' => e = .returned (.bool s.down) ∧ Below w.heap.size w w'
  waits : ∀ s Bs w, P s Bs w → Calls Tryd.prog 29 #[x] w fun e w' => e = .returned (.int .i64 (s.waits.length : Nat)) ∧ Below w.heap.size w w'
  ops : ∀ s Bs w, P s Bs w → Calls Tryd.prog 27 #[x] w fun e w' => e = .returned (.int .i64 (s.ops : Nat)) ∧ Below w.heap.size w w'
  image : ∀ s Bs w, P s Bs w → s.ok → Calls Tryd.prog 34 #[x] w fun e w' => e = .returned (.string (str s.image)) ∧ Below w.heap.size w w'
  read : ∀ s Bs w (i : Int), P s Bs w → s.ok → s.ops ≤ 4294967296 → (Lit.int .i64 i).wf = true → Calls Tryd.prog 71 #[x, .int .i64 i] w fun e w' => e = .returned (.tuple #[.string (str (s.readT i)), .int .i64 (s.readE i)]) ∧ Below w.heap.size w w'
  write : ∀ s Bs w (i : Int) (t : ByteArray), P s Bs w → s.ok → s.ops ≤ 4294967295 → (Lit.int .i64 i).wf = true → t.size ≤ maxLen → Calls Tryd.prog 64 #[x, .int .i64 i, .string t] w (DPost P Bs (s.writeS i t.data.toList) (.int .i64 (s.writeE i t.data.toList)) w)
  flush : ∀ s Bs w, P s Bs w → s.ok → s.ops ≤ 4294967295 → Calls Tryd.prog 36 #[x] w (DPost P Bs s.flushS (.int .i64 s.flushE) w)
  fuse : ∀ s Bs w (n : Int), P s Bs w → (Lit.int .i64 n).wf = true → Calls Tryd.prog 23 #[x, .int .i64 n] w (DPost P Bs { s with fuse := n } (.tuple #[]) w)
  power : ∀ s Bs w (l : List Bool) (kv : Value), P s Bs w → s.ok → s.ops ≤ 4294967296 → (∀ w', w.heap.size ≤ w'.heap.size → (∀ k, k < B → k < w.heap.size → w'.heap[k]? = w.heap[k]?) → BoolAt l kv w') → Calls Tryd.prog 32 #[x, kv] w (DPost P Bs (s.powerS l) (.tuple #[]) w)
  ptr : ∃ ad, x = .pointer (some ad)
  one : ∀ s Bs s' Bs' w, P s Bs w → P s' Bs' w → Bs = Bs'
  grow : ∀ s Bs w s' Bs' w' k, P s Bs w → P s' Bs' w' → Bs' k → Bs k ∨ ∃ cs T fr, w'.heap[k]? = some (.cells cs T fr)

/-- New, Load: a disk of its own, or none. -/
def NewDisk : Prop := ∀ (n : Int) w, Calls Tryd.prog 37 #[.int .i64 n] w fun e w' => Below w.heap.size w w' ∧
  ((¬ (1 ≤ n ∧ n ≤ 8192) ∧ e = .returned (.tuple #[.pointer none, .int .i64 5])) ∨
   ((1 ≤ n ∧ n ≤ 8192) ∧ ∃ ad P Bs, e = .returned (.tuple #[.pointer (some ad), .int .i64 0]) ∧ DiskOk w.heap.size (.pointer (some ad)) P ∧ P (Dk.new n.toNat) Bs w'))
theorem DiskOk.kept {B : Nat} {x : Value} {P : Dk → (Nat → Prop) → World → Prop} (D : DiskOk B x P) {s : Dk} {Bs : Nat → Prop} {w w' : World} (h : P s Bs w) (k : Kept w w') : P s Bs w' :=
  D.stay s Bs w w' h k.size (fun j hj => k.block j (D.above s Bs w h j hj).2)

end Go.Proofs.YtoigembmbajopaaDoor
