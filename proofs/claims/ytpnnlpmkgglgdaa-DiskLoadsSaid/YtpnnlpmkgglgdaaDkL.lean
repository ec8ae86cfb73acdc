/- The document's disk: the walks of Image, May, Load. -/
import Derived.Test.YtpnnlpmkgglgdaaDkP
namespace Go.Proofs.Ytpnnlpmkgglgdaa
open Go.RowKit

set_option maxRecDepth 100000 in
set_option maxHeartbeats 1000000 in
/-- The document's Image. -/
theorem rimage_any {B g : Nat} {s : Dk} {vs vw : Value} {w : World} (h : RAt B g s vs vw w) (hok : s.ok) :
    Calls Try.prog 33 #[.pointer (some ⟨g, 0, none⟩)] w fun e w' => e = .returned (.string (str s.image)) ∧ w = w' := by
  obtain ⟨ps, cs, hvs, -, hcs⟩ := own_slice h.st
  have c0 : w.cell? ⟨g, 0, none⟩ = some vs := h.cell 0 _ rfl
  rw [hvs] at c0
  have hil := hok.image_len
  have hmost := hok.most
  have HCS := Lib.hid hcs
  have HSE := Lib.hid hok.sect
  unfold Dk.image at hil ⊢
  obtain ⟨st, hst⟩ : ∃ st, st = s.stands := ⟨_, rfl⟩
  rw [← hst] at HCS HSE hil hmost c0 ⊢
  obtain ⟨n, hn⟩ : ∃ n, n = st.length := ⟨_, rfl⟩
  rw [← hn] at HCS hil hmost c0
  have HN := Lib.hid hn
  obtain ⟨tx, htx⟩ : ∃ tx, tx = str st.flatten := ⟨_, rfl⟩
  rw [← htx]
  have HX := Lib.hid htx
  have HIL := Lib.hid hil
  clear htx hn hst hil h hok hvs hcs
  go_enter Try.func33, Try.ntmps33
  go_wp2
  go_loopg [3, 4] n (fun gh s3 s4 wx => ∃ (k : Nat) (t : ByteArray), k + gh = n ∧ s4 = .int .i64 k ∧ s3 = .string t ∧ Hid (t = str (st.take k).flatten) ∧ w = wx)
  case atStart => exact ⟨0, ⟨#[]⟩, by omega, rfl, rfl, Lib.hid rfl, rfl⟩
  case round =>
    obtain ⟨k, t, hk, rfl, rfl, HT, hwx⟩ := hrel
    subst hwx
    obtain ⟨k1, hk1⟩ : ∃ k1, k1 = k + 1 := ⟨_, rfl⟩
    have v1 : IntKind.i64.wrap ((k : Int) + 1) = (k1 : Int) := by rw [show (k : Int) + 1 = (k1 : Int) by omega]; exact IntWalk.i64_in _ (by omega)
    by_cases hkm : k < n
    · have hki : (k : Int) < n := by omega
      have bk : decide ((k : Int) < (n : Int)) = true := by simpa using hki
      have hkl : k < st.length := by rw [← HN.out]; exact hkm
      rcases HCS.out with h0 | ⟨gs, rfl, -, hcell⟩
      · omega
      have d1 := hcell _ _ (stC_get st k hkl)
      have hnx : (st.take k1).flatten = (st.take k).flatten ++ st[k] := by rw [hk1, List.take_succ_eq_append_getElem hkl, List.flatten_append]; simp
      have hx : st[k].length = 128 := HSE.out _ (List.getElem_mem hkl)
      have hpl : (st.take k).flatten.length = 128 * k := by
        rw [flat_len _ (fun l hl => HSE.out l (List.mem_of_mem_take hl)), List.length_take]; omega
      obtain ⟨x, hxx⟩ : ∃ x, x = st[k] := ⟨_, rfl⟩
      rw [← hxx] at d1 hnx hx
      obtain ⟨tb, htb⟩ : ∃ tb, tb = str x := ⟨_, rfl⟩
      rw [← htb] at d1
      obtain ⟨t2, ht2⟩ : ∃ t2, t2 = t ++ tb := ⟨_, rfl⟩
      have hs1 : t.size = 128 * k := by rw [HT.out, str_size]; exact hpl
      have hs2 : tb.size = 128 := by rw [htb, str_size]; exact hx
      have A1 : ∀ w', (Op.stringOp .add t tb).run Try.prog w' = .ok (.string t2) w' := fun w' => by rw [ht2]; exact run_string_add_sum w' t _ (by omega)
      have HT2 : Hid (t2 = str (st.take k1).flatten) := Lib.hid (by rw [ht2, HT.out, htb, str_append, hnx])
      clear ht2 htb hxx hnx hx hpl hs1 hs2 hkl hcell
      go_wp2
      go_roundg (n - k1)
      case measure => omega
      case rel => exact ⟨k1, t2, by omega, by first | rfl | (congr 1; omega), rfl, HT2, rfl⟩
    · have hke : k = n := by omega
      have hki : ¬ (k : Int) < n := by omega
      have bk : decide ((k : Int) < (n : Int)) = false := by simpa using hki
      have HT2 : Hid (t = tx) := Lib.hid (by rw [HT.out, HX.out, hke, HN.out, List.take_length])
      clear hke
      go_wp2
      go_ret
      exact ⟨by rw [HT2.out]; rfl, rfl⟩

set_option maxRecDepth 100000 in
/-- The document's May. -/
theorem rmayd_any (t : ByteArray) (w : World) : Calls Try.prog 13 #[.string t] w fun e w' => e = .returned (.bool (decide (loadOk t.data.toList))) ∧ w = w' := by
  have hl := str_len t
  have e : decide (loadOk t.data.toList) = decide (128 ≤ t.size ∧ t.size % 128 = 0 ∧ t.size ≤ 1048576) := by rw [decide_eq_decide]; unfold loadOk; rw [hl]
  rw [e]
  clear e hl
  have em : ((t.size : Int)).tmod 128 = ((t.size % 128 : Nat) : Int) := rfl
  obtain ⟨m, hm⟩ : ∃ m, m = t.size % 128 := ⟨_, rfl⟩
  rw [← hm] at em ⊢
  clear hm
  by_cases h1 : 128 ≤ t.size
  · have i1 : (t.size : Int) ≥ 128 := by omega
    by_cases h2 : m = 0
    · subst h2
      by_cases h3 : t.size ≤ 1048576
      · have i3 : (t.size : Int) ≤ 1048576 := by omega
        rw [decide_eq_true ⟨h1, rfl, h3⟩]
        clear h1 h3
        go_enter Try.func13, Try.ntmps13
        go_wp2
        go_ret
        exact ⟨rfl, rfl⟩
      · have i3 : ¬ (t.size : Int) ≤ 1048576 := by omega
        rw [decide_eq_false (fun x => h3 x.2.2)]
        clear h1 h3
        go_enter Try.func13, Try.ntmps13
        go_wp2
        go_ret
        exact ⟨rfl, rfl⟩
    · have b2 : ((m : Int) == 0) = false := beq_eq_false_iff_ne.2 (by omega)
      rw [decide_eq_false (fun x => h2 x.2.1)]
      clear h1 h2
      go_enter Try.func13, Try.ntmps13
      go_wp2
      go_ret
      exact ⟨rfl, rfl⟩
  · have i1 : ¬ (t.size : Int) ≥ 128 := by omega
    rw [decide_eq_false (fun x => h1 x.1)]
    clear h1
    go_enter Try.func13, Try.ntmps13
    go_wp2
    go_ret
    exact ⟨rfl, rfl⟩

/-- A disk that grows, sector by sector. -/
def half (L : List (List UInt8)) : Dk := ⟨L, [], -1, 0, false⟩

/-- One sector more. -/
theorem RAt.more {B g : Nat} {L : List (List UInt8)} {x : List UInt8} {vs v' : Value} {w w1 : World} (h : RAt B g (half L) vs (.slice none 0 0) w) (hg : w.grownBy w1 vs.ownBlock)
    (ho : w1.ownsRow B 9 1 v' (L.length + 1) (stC L ++ [.string (str x)])) : RAt B g (half (L ++ [x])) v' (.slice none 0 0) (w1.setCell ⟨g, 0, none⟩ v') := by
  have r1 : w1.heap[g]? = some (.cells (rA (half L) vs (.slice none 0 0)) 54 (0, 0)) := by
    rw [hg.block g (Array.getElem?_eq_some_iff.1 h.row).1 (fun e => h.apart.1 e.symm)]; exact h.row
  refine ⟨h.base, ?_, ?_, World.ownsRow_nil _ _ _ _⟩
  · rw [heap_setCell_same _ _ _ _ _ _ r1]; rfl
  · have e : stC (half (L ++ [x])).stands = stC L ++ [.string (str x)] := by show stC (L ++ [x]) = _; rw [stC_append]; rfl
    rw [e, show (half (L ++ [x])).stands.length = L.length + 1 by show (L ++ [x]).length = _; simp]
    refine own_stay ho (fun k e => set_other _ _ _ _ _ (fun x => ?_))
    subst x
    obtain ⟨cur, hc⟩ := own_typ ho k e
    rw [r1] at hc; simp at hc

set_option maxRecDepth 100000 in
set_option maxHeartbeats 4000000 in
/-- The document's Load. -/
theorem rload_any (t : ByteArray) (hm : t.size % 128 = 0) (hs : t.size ≤ 1048576) (w : World) :
    Calls Try.prog 44 #[.string t] w fun e w' => ∃ vs, e = .returned (.pointer (some ⟨w.heap.size, 0, none⟩)) ∧ RAt w.heap.size w.heap.size (Dk.load t.data.toList) vs (.slice none 0 0) w' ∧ Below w.heap.size w w' := by
  have hl := str_len t
  have he := str_of t
  obtain ⟨l, hll⟩ : ∃ l, l = t.data.toList := ⟨_, rfl⟩
  rw [← hll] at hl he ⊢
  clear hll
  obtain ⟨n, hn⟩ : ∃ n, n = t.size / 128 := ⟨_, rfl⟩
  have hn2 : t.size = 128 * n := by omega
  have HN2 := Lib.hid hn2
  have HLN : Hid (l.length = 128 * n) := Lib.hid (by rw [hl]; exact hn2)
  have HSN : Hid ((secs l).length = n) := Lib.hid (by rw [secs_len, hl, hn])
  have HLE : Hid (str l = t) := he
  have hnb : n ≤ 8192 := by omega
  obtain ⟨is, his, hx⟩ := Option.map_eq_some_iff.1 infoS
  simp only [Prod.mk.injEq] at hx
  obtain ⟨hz0, hz1, hz2⟩ := hx
  have HIS := Lib.hid his
  have HZ0 := Lib.hid hz0
  have HZ1 := Lib.hid hz1
  have HZ2 := Lib.hid hz2
  obtain ⟨g, hg⟩ : ∃ g, g = w.heap.size := ⟨_, rfl⟩
  rw [← hg]
  have R0 : Hid (RAt g g (half []) (.slice none 0 0) (.slice none 0 0) (w.alloc (.cells (rA (half []) (.slice none 0 0) (.slice none 0 0)) 54))) := Lib.hid
    ⟨Nat.le_refl _, by rw [hg]; exact heap_alloc_new w _, World.ownsRow_nil _ _ _ _, World.ownsRow_nil _ _ _ _⟩
  have K0 : Hid (Kept w (w.alloc (.cells (rA (half []) (.slice none 0 0) (.slice none 0 0)) 54))) := Lib.hid (box_below _ _)
  have HG := Lib.hid hg
  clear hl he hn hm hs hz0 hz1 hz2 his hn2
  go_enter Try.func44, Try.ntmps44
  go_wp2
  rw [← HG.out]
  clear hg
  go_loopg [4] n (fun gh s4 wx => ∃ (k : Nat) (vs : Value), k + gh = n ∧ s4 = .int .i64 ((128 * k : Nat) : Int) ∧ Hid (RAt g g (half ((secs l).take k)) vs (.slice none 0 0) wx) ∧ Hid (Kept w wx))
  case atStart => exact ⟨0, _, by omega, rfl, R0, K0⟩
  case round =>
    clear R0 K0
    obtain ⟨k, vs, hk, rfl, HR, HK⟩ := hrel
    obtain ⟨a, ha⟩ : ∃ a, a = 128 * k := ⟨_, rfl⟩
    rw [← ha]
    by_cases hkm : k < n
    · have hki : (a : Int) < t.size := by have := HN2.out; omega
      have bk : decide ((a : Int) < (t.size : Int)) = true := by simpa using hki
      obtain ⟨b, hb⟩ : ∃ b, b = a + 128 := ⟨_, rfl⟩
      have v1 : IntKind.i64.wrap ((a : Int) + 128) = (b : Int) := by rw [show (a : Int) + 128 = (b : Int) by omega]; exact IntWalk.i64_in _ (by omega)
      have hkl : k < (secs l).length := by rw [HSN.out]; exact hkm
      have hnx := List.take_succ_eq_append_getElem hkl
      have hxe : (secs l)[k] = (l.drop a).take 128 := by
        have h := secs_get l k (by rw [← secs_len]; exact hkl)
        rw [List.getD_eq_getElem?_getD, List.getElem?_eq_getElem hkl] at h
        rw [ha]; exact h
      obtain ⟨x, hxx⟩ : ∃ x, x = (secs l)[k] := ⟨_, rfl⟩
      rw [← hxx] at hnx hxe
      obtain ⟨tk, htk⟩ : ∃ tk, tk = str x := ⟨_, rfl⟩
      have ex : t.extract a b = tk := by rw [htk, hxe, ← HLE.out, hb, str_extract _ _ _ (by rw [HLN.out]; omega)]
      have i1 : (0 : Int) ≤ a := by omega
      have i2 : (a : Int) ≤ b := by omega
      have i3 : (b : Int) ≤ t.size := by have := HN2.out; omega
      have hr := HR.out
      obtain ⟨ps, cs, hvs, -, -⟩ := own_slice hr.st
      have hlen : (half ((secs l).take k)).stands.length = k := by show ((secs l).take k).length = k; rw [List.length_take]; omega
      rw [hlen] at hvs
      have S0 : wr.drew.cell? ⟨g, 0, none⟩ = some vs := hr.cell 0 _ rfl
      have HST : Hid (wr.drew.ownsRow g 9 1 vs k (stC ((secs l).take k))) := Lib.hid (by have h := hr.st; rw [hlen] at h; exact h)
      have HGW : Hid (g ≤ wr.heap.size) := Lib.hid (Nat.le_of_lt (Array.getElem?_eq_some_iff.1 hr.row).1)
      have HVS := Lib.hid hvs
      have HNX := Lib.hid hnx
      have HTK := Lib.hid htk
      have HLEN := Lib.hid hlen
      have i4 : ¬ (b : Int) < a := by omega
      have HA := Lib.hid ha
      have HBE := Lib.hid hb
      clear htk hxx hxe hnx hkl hr hvs hlen ha hb
      have S1 : (wr.alloc (.cells #[.string tk] 9)).drew.cell? ⟨g, 0, none⟩ = some vs := Kept.cell (box_below _ _) S0
      have HST1 : Hid ((wr.alloc (.cells #[.string tk] 9)).drew.ownsRow g 9 1 vs k (stC ((secs l).take k))) := Lib.hid (HST.out.alloc _)
      have HFN : Hid (FlatAt 1 1 [.string tk] (.slice (some ⟨wr.heap.size, 0, none⟩) 1 1) (wr.alloc (.cells #[.string tk] 9)).drew) := Lib.hid (FlatAt.new wr 9 1 1 1 #[.string tk] rfl (by intro x hx; simp at hx; subst hx; rfl))
      have HRW : Hid (RAt g g (half ((secs l).take k)) vs (.slice none 0 0) (wr.alloc (.cells #[.string tk] 9)).drew) := Lib.hid (HR.out.kept (w' := (wr.alloc (.cells #[.string tk] 9)).drew) (Below.drew (box_below _ _)))
      have HKW : Hid (Kept w (wr.alloc (.cells #[.string tk] 9)).drew) := Lib.hid (HK.out.then (Below.drew (box_below _ _)))
      have HEND := Lib.hid (fun (v' : Value) (w4 : World) (ho : w4.ownsRow g 9 1 v' (k + 1) (stC ((secs l).take k) ++ [.string tk])) (hg : (wr.alloc (.cells #[.string tk] 9)).drew.grownBy w4 vs.ownBlock) =>
        (show Hid (RAt g g (half ((secs l).take (k + 1))) v' (.slice none 0 0) (w4.setCell ⟨g, 0, none⟩ v')) ∧ Hid (Kept w (w4.setCell ⟨g, 0, none⟩ v')) from by
          refine ⟨?_, ?_⟩
          · rw [HNX.out]
            refine RAt.more HRW.out hg ?_
            rw [show ((secs l).take k).length = k from HLEN.out, ← HTK.out]
            exact ho
          · have h1 : Kept w w4 := HKW.out.grown hg HKW.out.size (fun kk hk => by have := (HST.out.lt kk hk).1; have := HG.out; omega)
            exact below_touch h1 (grown_set w4 g 0 v') h1.size (by rw [HG.out]; exact Nat.le_refl _)))
      have HCELL := Lib.hid (fun (v' : Value) (w4 : World) (ho : w4.ownsRow g 9 1 v' (k + 1) (stC ((secs l).take k) ++ [.string tk])) (hg : (wr.alloc (.cells #[.string tk] 9)).drew.grownBy w4 vs.ownBlock) =>
        (show w4.cell? ⟨g, 0, none⟩ = some vs ∧ w4.frozen? ⟨g, 0, none⟩ = false from by
          have r := HRW.out
          have e : w4.heap[g]? = some (.cells (rA (half ((secs l).take k)) vs (.slice none 0 0)) 54 (0, 0)) := by
            rw [hg.block g (Array.getElem?_eq_some_iff.1 r.row).1 (fun x => r.apart.1 x.symm)]; exact r.row
          exact ⟨by rw [cell_of_row _ _ _ _ _ _ e]; rfl, frozen_of_row _ _ _ _ _ e⟩))
      go_wp2_with fail
      refine wp_region_held_drew (S := fun _ => True) (by kernel_rfl) trivial (fun hHeld => ?_)
      refine wpAnyH_take (i := 0) (v := ?_) rfl (by kernel_rfl) (by kernel_rfl) (by kernel_rfl) (fun _ _ _ h => h) (Or.inl ⟨by first | kernel_rfl | rfl, ?_⟩) (by assumption) ?_
      case refine_2 => intro w hSw; go_simp; try with_reducible rfl
      refine wpAnyH_take (i := 1) (v := ?_) rfl (by kernel_rfl) (by kernel_rfl) (by kernel_rfl) (fun _ _ _ h => h) (Or.inl ⟨by first | kernel_rfl | rfl, ?_⟩) (by assumption) ?_
      case refine_2 => intro w hSw; go_simp; try with_reducible rfl
      refine wpAnyH_take (i := 2) (v := ?_) rfl (by kernel_rfl) (by kernel_rfl) (by kernel_rfl) (fun _ _ _ h => h) (Or.inl ⟨by first | kernel_rfl | rfl, ?_⟩) (by assumption) ?_
      case refine_2 => intro w hSw; go_simp; try with_reducible rfl
      refine wpAnyH_take (i := 3) (v := ?_) rfl (by kernel_rfl) (by kernel_rfl) (by kernel_rfl) (fun _ _ _ h => h) (Or.inl ⟨by first | kernel_rfl | rfl, ?_⟩) (by assumption) ?_
      case refine_2 => intro w hSw; go_simp; try with_reducible rfl
      refine wpAnyH_take (i := 5) (v := ?_) rfl (by kernel_rfl) (by kernel_rfl) (by kernel_rfl) (fun _ _ _ h => h) (Or.inl ⟨by first | kernel_rfl | rfl, ?_⟩) (by assumption) ?_
      case refine_2 => intro w hSw; go_simp; try with_reducible rfl
      refine wpAnyH_take (i := 6) (v := ?_) rfl (by kernel_rfl) (by kernel_rfl) (by kernel_rfl) (fun _ _ _ h => h) (Or.inl ⟨by first | kernel_rfl | rfl, ?_⟩) (by assumption) ?_
      case refine_2 => intro w hSw; go_simp; try with_reducible rfl
      refine wpAnyH_take (i := 7) (v := ?_) rfl (by kernel_rfl) (by kernel_rfl) (by kernel_rfl) (fun _ _ _ h => h) (Or.inl ⟨by first | kernel_rfl | rfl, ?_⟩) (by assumption) ?_
      case refine_2 => intro w hSw; go_simp; try with_reducible rfl
      refine wpAnyH_take (i := 8) (v := ?_) rfl (by kernel_rfl) (by kernel_rfl) (by kernel_rfl) (fun _ _ _ h => h) (Or.inl ⟨by first | kernel_rfl | rfl, ?_⟩) (by assumption) ?_
      case refine_2 => intro w hSw; go_simp; try with_reducible rfl
      refine wpAnyH_take (i := 9) (v := ?_) rfl (by kernel_rfl) (by kernel_rfl) (by kernel_rfl) (fun _ _ _ h => h) (Or.inl ⟨by first | kernel_rfl | rfl, ?_⟩) (by assumption) ?_
      case refine_2 => intro w hSw; go_simp; try with_reducible rfl
      refine wpAnyH_ready (rs := [4, 10]) (by kernel_rfl) (by simp) (AllReadyH.cons rfl (fun K hK => ?_) (AllReadyH.cons rfl (fun K hK => ?_) AllReadyH.nil))
      · go_simp
        refine hK.out _ _ trivial (fun _ => ?_)
        clear hK K
        refine wpAnyH_ready (rs := [10]) (by kernel_rfl) (by simp) (AllReadyH.cons rfl (fun K hK => ?_) AllReadyH.nil)
        go_simp
        refine hK.out _ _ trivial (fun _ => ?_)
        clear hK K
        refine wpAnyH_ready (rs := [11]) (by kernel_rfl) (by simp) (AllReadyH.cons rfl (fun K hK => ?_) AllReadyH.nil)
        rw [if_pos (by rfl)]
        refine wp_append_flat _ _ 51 rfl g 9 is (.string ⟨#[]⟩) 1 16 Try.underlying51 HIS.out HZ0.out HZ1.out HZ2.out rfl (by decide) _ k (stC ((secs l).take k)) rfl HST1.out _ 1 [.string tk] rfl HFN.out ?q1 ?q2 ?q3 ?_
        case q1 => unfold maxLen; omega
        case q2 => omega
        case q3 => have := HGW.out; show g ≤ (wr.heap.push _).size; simp; omega
        intro v' w4 hown4 hg4 _
        have FIN := HEND.out v' w4 hown4 hg4
        obtain ⟨pv, cv, rfl, -, -⟩ := own_slice hown4
        have FC := HCELL.out _ w4 hown4 hg4
        have fc := FC.1
        have ff := FC.2
        clear FC hown4 hg4
        refine hK.out _ _ trivial (fun _ => ?_)
        clear hK K
        refine wpAnyH_take (i := 12) (v := ?_) rfl (by kernel_rfl) (by kernel_rfl) (by kernel_rfl) (fun _ _ _ h => h) (Or.inl ⟨by first | kernel_rfl | rfl, ?_⟩) (by assumption) ?_
        case refine_2 => intro w hSw; go_simp; try with_reducible rfl
        refine wpAnyH_take (i := 13) (v := ?_) rfl (by kernel_rfl) (by kernel_rfl) (by kernel_rfl) (fun _ _ _ h => h) (Or.inl ⟨by first | kernel_rfl | rfl, ?_⟩) (by assumption) ?_
        case refine_2 => intro w hSw; go_simp; try with_reducible rfl
        refine wpAnyH_ready (rs := [14]) (by kernel_rfl) (by simp) (AllReadyH.cons rfl (fun K hK => ?_) AllReadyH.nil)
        go_simp
        refine hK.out _ _ trivial (fun _ => ?_)
        clear hK K
        refine wpAnyH_done (by kernel_rfl) ?_ _
        go_wp2
        go_roundg (n - (k + 1))
        case measure => omega
        case rel => exact ⟨k + 1, _, by omega, by rw [HBE.out, HA.out]; first | rfl | (congr 1; omega), FIN.1, FIN.2⟩
      · go_simp
        refine hK.out _ _ trivial (fun _ => ?_)
        clear hK K
        refine wpAnyH_ready (rs := [4]) (by kernel_rfl) (by simp) (AllReadyH.cons rfl (fun K hK => ?_) AllReadyH.nil)
        go_simp
        refine hK.out _ _ trivial (fun _ => ?_)
        clear hK K
        refine wpAnyH_ready (rs := [11]) (by kernel_rfl) (by simp) (AllReadyH.cons rfl (fun K hK => ?_) AllReadyH.nil)
        rw [if_pos (by rfl)]
        refine wp_append_flat _ _ 51 rfl g 9 is (.string ⟨#[]⟩) 1 16 Try.underlying51 HIS.out HZ0.out HZ1.out HZ2.out rfl (by decide) _ k (stC ((secs l).take k)) rfl HST1.out _ 1 [.string tk] rfl HFN.out ?q1 ?q2 ?q3 ?_
        case q1 => unfold maxLen; omega
        case q2 => omega
        case q3 => have := HGW.out; show g ≤ (wr.heap.push _).size; simp; omega
        intro v' w4 hown4 hg4 _
        have FIN := HEND.out v' w4 hown4 hg4
        obtain ⟨pv, cv, rfl, -, -⟩ := own_slice hown4
        have FC := HCELL.out _ w4 hown4 hg4
        have fc := FC.1
        have ff := FC.2
        clear FC hown4 hg4
        refine hK.out _ _ trivial (fun _ => ?_)
        clear hK K
        refine wpAnyH_take (i := 12) (v := ?_) rfl (by kernel_rfl) (by kernel_rfl) (by kernel_rfl) (fun _ _ _ h => h) (Or.inl ⟨by first | kernel_rfl | rfl, ?_⟩) (by assumption) ?_
        case refine_2 => intro w hSw; go_simp; try with_reducible rfl
        refine wpAnyH_take (i := 13) (v := ?_) rfl (by kernel_rfl) (by kernel_rfl) (by kernel_rfl) (fun _ _ _ h => h) (Or.inl ⟨by first | kernel_rfl | rfl, ?_⟩) (by assumption) ?_
        case refine_2 => intro w hSw; go_simp; try with_reducible rfl
        refine wpAnyH_ready (rs := [14]) (by kernel_rfl) (by simp) (AllReadyH.cons rfl (fun K hK => ?_) AllReadyH.nil)
        go_simp
        refine hK.out _ _ trivial (fun _ => ?_)
        clear hK K
        refine wpAnyH_done (by kernel_rfl) ?_ _
        go_wp2
        go_roundg (n - (k + 1))
        case measure => omega
        case rel => exact ⟨k + 1, _, by omega, by rw [HBE.out, HA.out]; first | rfl | (congr 1; omega), FIN.1, FIN.2⟩
    · have hki : ¬ (a : Int) < t.size := by have := HN2.out; omega
      have bk : decide ((a : Int) < (t.size : Int)) = false := by simpa using hki
      have HL : Hid (RAt g g (Dk.load l) vs (.slice none 0 0) wr) := Lib.hid (by
        have h := HR.out
        rw [show k = n by omega, ← HSN.out, List.take_length] at h
        exact h)
      have HA := Lib.hid ha
      clear ha
      go_wp2
      go_ret
      exact ⟨rfl, ⟨vs, HL.out⟩, by rw [HG.out]; exact HK.out⟩

end Go.Proofs.Ytpnnlpmkgglgdaa
