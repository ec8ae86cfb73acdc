/- The walk of Write. -/
import Derived.Test.YtimllddlcjnikaaDoorCutZ
namespace Go.Proofs.YtimllddlcjnikaaDoor
open Go.RowKit

set_option maxRecDepth 100000 in
set_option maxHeartbeats 8000000 in
theorem cwrite_any (B xb : Nat) (C : Array Value) (mn mx dm db n fr h k : Nat) (hC : IsConf C mn mx dm db) (h1 : 1 ≤ mn) (h2 : mn ≤ mx) (h3 : mx ≤ 4096) (h4 : 1 ≤ dm) (h5 : dm ≤ 1048576) (h6 : 1 ≤ db) (h7 : db ≤ 1048576)
    (l : List UInt8) (s : ByteArray) (hs : l.length + s.size ≤ 1000000) (w : World) (hT : TabAt w) (hTB : 0 < B) (hBw : B ≤ w.heap.size) (hc : CutAt B xb C n fr h k l w) (hS : Srch mn mx dm db l n fr h k) :
    Calls Tryd.prog 19 #[.pointer (some ⟨xb, 0, none⟩), .string s] w fun e w' => ∃ v n' fr' h' k', e = .returned v ∧ StrAt (strs (dn (cutN mn mx dm db) (l ++ s.data.toList)).1) v w' ∧
      CutAt B xb C n' fr' h' k' (dn (cutN mn mx dm db) (l ++ s.data.toList)).2 w' ∧ Srch mn mx dm db (dn (cutN mn mx dm db) (l ++ s.data.toList)).2 n' fr' h' k' ∧ Below B w w' ∧ KeptBut xb w w' := by
  have hxw := hc.lt
  have hxB : B ≤ xb := hc.1
  have MD := made_yes B xb C n fr h k l w hc
  have WS := wstr_any B xb C n fr h k l s w hs hBw hc
  have hSL := hS.longer s.data.toList
  obtain ⟨i0, hi, hz0, hz1, hz2⟩ := info_of infoStr
  have HI := Lib.hid hi
  have HZ0 := Lib.hid hz0
  have HZ1 := Lib.hid hz1
  have HZ2 := Lib.hid hz2
  have CL := fun (t : ByteArray) (ht : t.size ≤ 1000000) w => clone_any t (by omega) w
  have hL0 : (l ++ s.data.toList).length ≤ 1000000 := by rw [List.length_append, data_len]; exact hs
  have hle := cutN_le mn mx dm db h1 h2
  obtain ⟨L, hL⟩ : ∃ L, L = l ++ s.data.toList := ⟨_, rfl⟩
  rw [← hL] at WS hSL hL0 ⊢
  obtain ⟨f, hf⟩ : ∃ f, f = cutN mn mx dm db := ⟨_, rfl⟩
  rw [← hf] at hle ⊢
  have HF := Lib.hid hf
  have HLE := Lib.hid hle
  have ST := fun w' hB' h' => bstr_any B xb C n fr h k L hL0 w' hB' h'
  have EN := fun R0 n fr h k t (ht : ByteArray.size t ≤ 1000000) W hTW hb hI hS => end_any xb 3 60 R0 C mn mx dm db n fr h k hC h1 h2 h3 h4 h5 h6 h7 t ht W hTW hb hI hS
  have AF := fun R0 n fr h k r W hr hn hI => after_any xb 3 60 R0 C mn mx dm db n fr h k r hC h1 (by omega) hr hn W hI
  have NX := fun (l : List UInt8) r n (e : Ended mx dm db l r n) => e.next (mn := mn) h1 h2 h3
  have KP := fun n fr h k l' (t : ByteArray) (ht : t.size ≤ 1000000) w' hB' h' => keep_any B xb C n fr h k l' t ht w' hB' h'
  have HFI : ∀ n fr h k, Hid ((Tryd.prog.info? 47).map (·.size) = some (srchA C n fr h k).size) := fun n fr h k => by rw [srchA_size _ _ _ _ _ hC.size]; exact info_srch
  have HSZ : ∀ n fr h k, Hid ((srchA C n fr h k).size = 17) := fun n fr h k => srchA_size _ _ _ _ _ hC.size
  have HON : ∀ n fr h k, Hid ((srchA C n fr h k).all (·.oneCell') = true) := fun n fr h k => srchA_one _ _ _ _ _ hC.one
  have HCS := Lib.hid hC.size
  have HSL := Lib.hid hSL
  have hgb : 0 ≠ xb := by omega
  clear hc hS hSL hi hz0 hz1 hz2 hL hf hle hC hs
  go_enter Tryd.func19, Tryd.ntmps19
  go_wp2_with fail
  refine MD.mono ?_
  rintro e w' ⟨rfl, rfl⟩
  go_wp2_with fail
  refine WS.mono ?_
  rintro e w1 ⟨rfl, hC1, hK1, hKB1⟩
  have hB1 : B ≤ w1.heap.size := Nat.le_trans hBw hK1.size
  go_wp2_with fail
  refine (ST w1 hB1 hC1).mono ?_
  rintro e w2 ⟨rfl, hC2, hK2, hKB2⟩
  have K2 := hK1.trans hK2
  have KB2 := hKB1.trans hKB2
  clear hC1 hK1 hKB1 hK2 hKB2 hB1 MD WS ST
  obtain ⟨R0, hR0, hI0, hback⟩ := hC2.srch
  go_wp2_with fail
  refine (EN R0 n fr h k (str L) (by rw [str_size]; exact hL0) w2 (tab_keep hT hTB K2) hgb hI0 HSL.out).mono ?_
  rintro e w3 ⟨r3, n3, fr3, h3', k3, rfl, hE3, hI3, hG3⟩
  have hC3 := hback _ _ _ _ _ hI3 hG3
  have K3 := below_touch K2 hG3 (Nat.le_trans hBw K2.size) hxB
  have KB3 := KB2.trans (KeptBut.grown hG3)
  have hX : ∃ n fr h k, EndsAt mn mx dm db (str L).data.toList r3 n fr h k ∧ CutAt B xb C n fr h k L w3 := ⟨_, _, _, _, hE3, hC3⟩
  have HX := Lib.hid hX
  clear hC2 hI0 hback hI3 hG3 hC3 hE3 K2 KB2 hX
  go_wp2
  go_loopw [5, 6, 7] (fun x v y wr => ∃ (t : ByteArray) (ls : List ByteArray) (r : Nat), x = .string t ∧ t.size ≤ 1000000 ∧ ls.length + t.size ≤ 1000000 ∧ y = .int .i64 r ∧
      (∃ n fr h k, EndsAt mn mx dm db t.data.toList r n fr h k ∧ CutAt B xb C n fr h k L wr) ∧
      ls ++ strs (dn f t.data.toList).1 = strs (dn f L).1 ∧ (dn f t.data.toList).2 = (dn f L).2 ∧ (ls = [] → t.data.toList = L) ∧
      wr.ownsRow w.heap.size 9 1 v ls.length (stL ls) ∧ Below B w wr ∧ KeptBut xb w wr) (fun x _ _ _ => match x with | .string t => t.size | _ => 0)
  case atStart => exact ⟨str L, [], r3, rfl, by rw [str_size]; exact hL0, by rw [str_size]; simpa using hL0, rfl, HX.out, rfl, rfl, fun _ => rfl, World.ownsRow_nil _ _ _ _, K3, KB3⟩
  case round =>
    clear HX K3 KB3
    obtain ⟨t, ls, r, rfl, hts, hlt, rfl, ⟨n', fr', h', k', hE, hCt⟩, hsp, hsp2, hsp3, hown, K, KB⟩ := hrel
    have HO := Lib.hid hown
    have HSP := Lib.hid hsp
    have HSP2 := Lib.hid hsp2
    have HSP3 := Lib.hid hsp3
    have hdl := data_len t
    have hww : w.heap.size ≤ wr.heap.size := KB.size
    have hnx : u6.ownBlock ≠ some xb := fun e => by have := (hown.lt xb e).1; omega
    clear hown hsp hsp2 hsp3
    by_cases h0 : 0 < r
    · have hti : (0 : Int) < r := by omega
      have hEd : Ended mx dm db t.data.toList r n' := by
        rcases hE.2 with ⟨x, _⟩ | x
        · omega
        · exact x
      have hrl : r ≤ t.data.toList.length := Nat.le_trans hEd.le hEd.len
      rw [hdl] at hrl
      have hfr : f t.data.toList = r := by rw [HF.out, hE.1]
      have hcu := dn_cut (f := f) (l := t.data.toList) (by omega) (by omega)
      rw [hfr] at hcu
      have hcut := cut_list t r hrl
      have hdr := drop_list t r hrl
      have e1 : (t.extract 0 r) = str (t.data.toList.take r) := by rw [← str_data (t.extract 0 r), hcut.1]
      have hnew : (ls ++ [t.extract 0 r]) ++ strs (dn f (t.extract r t.size).data.toList).1 = strs (dn f L).1 := by
        rw [← HSP.out, hcu, hdr.1, e1]
        simp [strs]
      have hnew2 : (dn f (t.extract r t.size).data.toList).2 = (dn f L).2 := by rw [← HSP2.out, hcu, hdr.1]
      have hnxt := NX _ _ _ hEd
      rw [← hdr.1] at hnxt
      have hsz2 := hdr.2
      have hszx := hcut.2
      obtain ⟨tx, htx⟩ : ∃ tx, t.extract 0 r = tx := ⟨_, rfl⟩
      obtain ⟨t2, ht2⟩ : ∃ t2, t.extract r t.size = t2 := ⟨_, rfl⟩
      rw [htx] at hnew hszx
      rw [ht2] at hnew hnew2 hnxt hsz2
      obtain ⟨f2, hf2⟩ : ∃ f2, f2 = max (max mn 16) (n' - r + 1) := ⟨_, rfl⟩
      rw [← hf2] at hnxt
      have HNEW := Lib.hid hnew
      have HNEW2 := Lib.hid hnew2
      have HNX := Lib.hid hnxt
      have HF2 := Lib.hid hf2
      have hqi : (r : Int) ≤ t.size := by omega
      have hqn : ((r : Int)).toNat = r := by omega
      have hins : stL (ls ++ [tx]) = stL ls ++ [.string tx] := stL_snoc _ _
      have HINS := Lib.hid hins
      have hrn := hEd.le
      have hnm := hEd.top
      have HCt := Lib.hid hCt
      clear hcu hcut hdr e1 hnew hnew2 hnxt hins HSP HSP2 HSP3 hdl hE hEd hCt hfr hf2
      go_wp2_with fail
      refine (CL tx (by omega) _).mono ?_
      rintro e w4 ⟨rfl, hb4⟩
      have hC4 := HCt.out.later hb4
      have HO4 := Lib.hid (own_later HO.out hb4)
      have K4 := Below.then' K hb4 (Nat.le_trans hBw hww)
      have KB4 := KB.trans (KeptBut.below hb4)
      have hww4 : w.heap.size ≤ w4.heap.size := KB4.size
      have hC4a := hC4.later (box_below w4 (.cells #[.string tx] 9))
      have HC4 := Lib.hid hC4a
      have KB4a := KB4.trans (KeptBut.below (box_below w4 (.cells #[.string tx] 9)))
      have K4a := K4.alloc (Nat.le_trans hBw hww4) (.cells #[.string tx] 9)
      clear hb4 HCt HO K KB hC4 hC4a K4 KB4
      go_wp2_with (at_builtin; refine wpList_append_own _ rfl _ _ 31 rfl w.heap.size 9 i0 (.string ⟨#[]⟩) 1 16 Tryd.underlying31 HI.out HZ0.out HZ1.out HZ2.out rfl (by decide) _ _ _ rfl (HO4.out.alloc _) ⟨w4.heap.size, 0, none⟩ 1 1 [.string tx] rfl rfl ?c1 ?c2 ?c3 ?c4 ?c5 ?_)
      case c1 => exact cell_one_new _ _ _
      case c2 => first | rfl | (intro u hu; simp only [List.mem_singleton] at hu; subst hu; rfl)
      case c3 => unfold maxLen; omega
      case c4 => omega
      case c5 => first | omega | (simp; omega)
      intro v' w5 hown5 hg5 _
      have hC5 := HC4.out.row (HO4.out.alloc _) hnx hg5
      have K5 : Below B w w5 := K4a.grown hg5 (by simp; omega) (fun q hq => Nat.le_trans hBw (HO4.out.lt q hq).1)
      have KB5 := KB4a.above hg5 (fun q hq => (HO4.out.lt q hq).1)
      have hnx5 : v'.ownBlock ≠ some xb := fun e => by have := (hown5.lt xb e).1; omega
      obtain ⟨R5, hR5, hI5, _⟩ := hC5.srch
      have AFr := AF R5 n' fr' h' k' r w5 hrn (by omega) hI5
      rw [← HF2.out] at AFr
      have HO5 := Lib.hid hown5
      have HC5 := Lib.hid hC5
      clear hown5 hg5 HO4 HC4 K4a KB4a hI5 hC5
      go_wp2_with fail
      refine AFr.mono ?_
      rintro e w6 ⟨rfl, hb6⟩
      have hww5 : w.heap.size ≤ w5.heap.size := KB5.size
      have K6 := Below.then' K5 hb6 (Nat.le_trans hBw hww5)
      have KB6 := KB5.trans (KeptBut.below hb6)
      have HO6 := Lib.hid (own_later HO5.out hb6)
      obtain ⟨hB6, R6, p6, v6, hg6, hr6, hp6, hown6, hne6⟩ := HC5.out.later hb6
      have hr7 := laid_row hr6 HCS.out (mn - 1) f2 0 0
      have HSTO : Hid (3 + (srchA C (mn - 1) f2 0 0).size ≤ R6.size) := by rw [(HSZ _ _ _ _).out, hr6.size]; exact (show 3 + 17 ≤ 20 by decide)
      have hG7 : w6.grownBy (w6.setRow xb (laidOver R6 3 (srchA C (mn - 1) f2 0 0).toList)) (some xb) := ⟨rfl, rfl, rfl, by simp, fun q _ hq => setRow_other _ _ _ _ (fun e => hq (by rw [e]))⟩
      have hC7 : CutAt B xb C (mn - 1) f2 0 0 L (w6.setRow xb (laidOver R6 3 (srchA C (mn - 1) f2 0 0).toList)) := ⟨hB6, _, p6, v6, setRow_heap _ _ _ _ _ _ hg6, hr7, hp6, hown6.kept hG7 (Or.inr hne6), hne6⟩
      have HC7 := Lib.hid hC7
      have HO7 := Lib.hid (HO6.out.kept hG7 (Or.inr hnx5))
      have K7 := below_touch K6 hG7 (Nat.le_trans hBw KB6.size) hB6
      have KB7 := KB6.trans (KeptBut.grown hG7)
      clear hb6 K5 KB5 HO5 HC5 K6 KB6 HO6 hr6 hr7 hown6 hne6 hp6 hC7 hG7 AFr
      go_wp2_with (first
        | (with_reducible refine wpList_store_sub rfl _ _ _ rfl xb 3 (srchA C (mn - 1) f2 0 0) rfl rfl 60 R6 hg6 (HFI _ _ _ _).out HSTO.out (HON _ _ _ _).out ?_)
        | fail)
      obtain ⟨W7, hW7⟩ : ∃ W, W = w6.setRow xb (laidOver R6 3 (srchA C (mn - 1) f2 0 0).toList) := ⟨_, rfl⟩
      rw [← hW7] at HC7 HO7 K7 KB7
      rw [← hW7]
      obtain ⟨R7, hR7, hI7, hback7⟩ := HC7.out.srch
      clear hW7 hg6 HSTO HC7
      refine (EN R7 _ _ _ _ t2 (by omega) W7 (tab_keep hT hTB K7) hgb hI7 HNX.out).mono ?_
      rintro e w8 ⟨r8, n8, fr8, h8, k8, rfl, hE8, hI8, hG8⟩
      have hC8 := hback7 _ _ _ _ _ hI8 hG8
      have K8 := below_touch K7 hG8 (Nat.le_trans hBw KB7.size) hxB
      have KB8 := KB7.trans (KeptBut.grown hG8)
      have HO8 := Lib.hid (HO7.out.kept hG8 (Or.inr hnx5))
      have hX : ∃ n fr h k, EndsAt mn mx dm db t2.data.toList r8 n fr h k ∧ CutAt B xb C n fr h k L w8 := ⟨_, _, _, _, hE8, hC8⟩
      have HX := Lib.hid hX
      clear hI7 hback7 K7 KB7 HO7 hE8 hI8 hG8 hC8 hX
      go_wp2
      go_roundw
      case rel => exact ⟨t2, ls ++ [tx], r8, rfl, by omega, by simp; omega, rfl, HX.out, HNEW.out, HNEW2.out, fun e => by simp at e, by rw [HINS.out, List.length_append]; exact HO8.out, K8, KB8⟩
      case measure => simp only []; omega
    · obtain rfl : r = 0 := by omega
      have hft : f t.data.toList = 0 := by rw [HF.out]; exact hE.1.symm
      have hd0 := dn_zero hft
      have hls : ls = strs (dn f L).1 := by rw [← HSP.out, hd0]; simp [strs]
      have hdt : (dn f L).2 = t.data.toList := by rw [← HSP2.out, hd0]
      have hSt : Srch mn mx dm db t.data.toList n' fr' h' k' := by
        rcases hE.2 with ⟨_, x⟩ | x
        · exact x
        · exact absurd x.pos (by omega)
      have HLS := Lib.hid hls
      have HDT := Lib.hid hdt
      have hU : StrAt ls u6 wr := strAt_own HO.out
      have hBr : B ≤ wr.heap.size := Nat.le_trans hBw hww
      have HU := Lib.hid hU
      have HSt := Lib.hid hSt
      have HCt := Lib.hid hCt
      by_cases hl0 : ls = []
      · have htL := HSP3.out hl0
        subst hl0
        have hCt2 := hCt
        rw [← htL] at hCt2
        have HC2 := Lib.hid hCt2
        obtain ⟨pu, cu, hue⟩ := own_nil HO.out
        subst hue
        clear hls hdt hSt hCt hU hft hd0 hE HO HSP HSP2 HSP3 htL hCt2
        go_wp2
        go_ret
        exact ⟨_, n', fr', h', k', rfl, by rw [← HLS.out]; exact HU.out, by rw [HDT.out]; exact HC2.out, by rw [HDT.out]; exact HSt.out, K, KB⟩
      · have hlp : 0 < ls.length := by
          rcases Nat.eq_zero_or_pos ls.length with x | x
          · exact absurd (List.eq_nil_of_length_eq_zero x) hl0
          · exact x
        have hlpi : (0 : Int) < ls.length := by omega
        obtain ⟨gu, cu, hue, _⟩ := own_cells HO.out hlp (stL_len ls)
        subst hue
        have KPt := KP n' fr' h' k' L t hts wr hBr hCt
        clear hls hdt hSt hCt hft hd0 hE HSP HSP2 HSP3
        go_wp2_with fail
        refine KPt.mono ?_
        rintro e w9 ⟨rfl, hC9, hK9, hKB9⟩
        have hU9 : StrAt ls (.slice (some ⟨gu, 0, none⟩) ls.length cu) w9 := strAt_own (hKB9.own HO.out hnx)
        have HU9 := Lib.hid hU9
        clear hU hU9 HO
        go_wp2
        go_ret
        exact ⟨_, n', fr', h', k', rfl, by rw [← HLS.out]; exact HU9.out, by rw [HDT.out]; exact hC9, by rw [HDT.out]; exact HSt.out, K.trans hK9, KB.trans hKB9⟩

end Go.Proofs.YtimllddlcjnikaaDoor
