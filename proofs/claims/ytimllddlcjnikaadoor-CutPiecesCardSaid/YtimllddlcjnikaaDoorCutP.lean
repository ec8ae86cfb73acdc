/- The walk of CutPieces. -/
import Derived.Test.YtimllddlcjnikaaDoorCutEn
import Derived.Test.YtimllddlcjnikaaDoorCutG
namespace Go.Proofs.YtimllddlcjnikaaDoor
open Go.RowKit

theorem str_app (l : List UInt8) (s : ByteArray) : str l ++ s = str (l ++ s.data.toList) := by
  have h := str_append l s.data.toList
  rwa [str_data] at h

theorem cutI_fun {mn mx dm db : Nat} (hM : MayC mn mx dm db) : cutI mn mx dm db = cutN mn mx dm db := by
  funext l
  unfold cutI
  rw [if_pos hM]
  rfl

theorem spl_of_dn (f : List UInt8 → Nat) (l : List UInt8) : spl f l = (dn f l).1 ++ (if (dn f l).2 = [] then [] else [(dn f l).2]) := by
  unfold spl
  split
  · simp
  · rfl

set_option maxRecDepth 100000 in
set_option maxHeartbeats 4000000 in
theorem pieces_no (w : World) (v : Value) (C : Array Value) (a b c d : Int) (hC : IsConf C a b c d) (hM : ¬ MayC a b c d) (hT : TabAt w) :
    Calls Tryd.prog 5 #[v, .agg C] w (LawPost w) := by
  have NW := newc_no C a b c d hC hM
  have RM := rmay_any C a b c d hC
  rw [decide_eq_false hM] at RM
  have HLI : Hid ((Tryd.prog.info? 23).map (·.size) = some C.size) := by rw [hC.size]; exact info_conf
  have gC := heap_alloc_last w (.cells C 23)
  have K0 := box_below w (.cells C 23)
  clear hC hM
  go_enter Tryd.func5, Tryd.ntmps5
  go_wp2_with (with_reducible refine wpList_load_row rfl _ _ rfl w.heap.size rfl 23 C (0, 0) _ gC Tryd.underlying23 rfl HLI.out ?_)
  refine (NW _).mono ?_
  rintro e w1 ⟨rfl, hb1⟩
  have g1 := (hb1.block _ (Array.getElem?_eq_some_iff.1 gC).1).trans gC
  have K1 := Below.then' K0 hb1 K0.size
  clear hb1 K0 gC NW
  go_wp2_with (with_reducible refine wpList_load_row rfl _ _ rfl w.heap.size rfl 23 C (0, 0) _ g1 Tryd.underlying23 rfl HLI.out ?_)
  refine (RM _).mono ?_
  rintro e w2 ⟨rfl, hb2⟩
  have K2 := Below.then' K1 hb2 K1.size
  clear hb2 K1 g1 RM
  go_wp2_with fail
  refine (awake_any _ (hT.later K2)).mono ?_
  rintro e w3 ⟨rfl, hb3⟩
  go_wp2
  go_ret
  exact ⟨rfl, Below.then' K2 hb3 K2.size⟩

set_option maxRecDepth 100000 in
set_option maxHeartbeats 20000000 in
theorem pieces_yes (w : World) (v : Value) (ss : List ByteArray) (hv : StrAt ss v w) (hse : ss.length ≤ maxLen ∧ ∀ s ∈ ss, s.size ≤ maxLen) (C : Array Value) (mn mx dm db : Nat) (hC : IsConf C mn mx dm db) (hM : MayC mn mx dm db) (hT : TabAt w) :
    Calls Tryd.prog 5 #[v, .agg C] w (LawPost w) := by
  obtain ⟨mn', mx', dm', db', q1, q2, q3, q4, h1, h2, h3, h4, h5, h6, h7⟩ := mayC_nats hM
  obtain rfl : mn' = mn := by omega
  obtain rfl : mx' = mx := by omega
  obtain rfl : dm' = dm := by omega
  obtain rfl : db' = db := by omega
  clear q1 q2 q3 q4
  have NW := newc_any C mn' mx' dm' db' hC hM
  have RM := rmay_any C mn' mx' dm' db' hC
  rw [decide_eq_true hM] at RM
  have HLI : Hid ((Tryd.prog.info? 23).map (·.size) = some C.size) := by rw [hC.size]; exact info_conf
  have gC := heap_alloc_last w (.cells C 23)
  have K0 := box_below w (.cells C 23)
  have hfun := cutI_fun hM
  have hle := cutN_le mn' mx' dm' db' h1 h2
  have hst := cutN_stay mn' mx' dm' db' h1 h2
  have DO := fun (t : ByteArray) ht w => done_any t ht C mn' mx' dm' db' hC w
  have RS := fun (t : ByteArray) ht w => rsplit_any t ht C mn' mx' dm' db' hC w
  have hal : ∀ l, allL mn' mx' dm' db' l = spl (cutI mn' mx' dm' db') l := fun l => by unfold allL; rw [if_pos hM]
  have hdo : ∀ l, doneL mn' mx' dm' db' l = (dn (cutI mn' mx' dm' db') l).1 := fun l => rfl
  have hdl := fun l => doneL_len mn' mx' dm' db' l
  have WR := fun B xb n fr h k l (s : ByteArray) hs w hT hTB hBw hc hS => cwrite_any B xb C mn' mx' dm' db' n fr h k hC h1 h2 h3 h4 h5 h6 h7 l s hs w hT hTB hBw hc hS
  have EY := fun B xb n fr h k l hl h0 w hBw hc => cend_yes B xb C mn' mx' dm' db' n fr h k hC h1 (by omega) l hl h0 w hBw hc
  have hS0 := Srch.start (dm := dm') (db := db') h1 h2 h3 []
  simp only [hal, hdo, hfun] at DO RS hdl
  obtain ⟨f, hf⟩ : ∃ f, f = cutN mn' mx' dm' db' := ⟨_, rfl⟩
  simp only [← hf] at DO RS hdl WR hle hst
  have hmore : ∀ l m, dn f (l ++ m) = ((dn f l).1 ++ (dn f ((dn f l).2 ++ m)).1, (dn f ((dn f l).2 ++ m)).2) := fun l m => dn_more hle hst m _ l (Nat.le_refl _)
  have hjoin : ∀ l, (dn f l).1.flatten ++ (dn f l).2 = l := fun l => dn_join hle _ l (Nat.le_refl _)
  obtain ⟨i0, hi, hz0, hz1, hz2⟩ := info_of infoStr
  have HI := Lib.hid hi
  have HZ0 := Lib.hid hz0
  have HZ1 := Lib.hid hz1
  have HZ2 := Lib.hid hz2
  have HMORE := Lib.hid hmore
  have HJOIN := Lib.hid hjoin
  have HDL := Lib.hid hdl
  have HS0 := Lib.hid hS0
  have HV := Lib.hid hv
  have ht := tab_lt hT
  have hrest : ∀ l, (dn f l).2.length ≤ l.length := fun l => by
    have := congrArg List.length (hjoin l)
    rw [List.length_append] at this
    omega
  have HREST := Lib.hid hrest
  obtain ⟨pv, cv, rfl, hcv⟩ := hv
  have HCV := Lib.hid hcv
  clear hC hM hi hz0 hz1 hz2 hmore hjoin hdl hS0 hfun hle hst hal hdo hf hrest hcv hse
  go_enter Tryd.func5, Tryd.ntmps5
  go_wp2_with (with_reducible refine wpList_load_row rfl _ _ rfl w.heap.size rfl 23 C (0, 0) _ gC Tryd.underlying23 rfl HLI.out ?_)
  obtain ⟨w0, hw0⟩ : ∃ w0, w0 = w.alloc (.cells C 23) := ⟨_, rfl⟩
  have g0 : w0.heap[w.heap.size]? = some (.cells C 23 (0, 0)) := by rw [hw0]; exact gC
  have K0' : Below w.heap.size w w0 := by rw [hw0]; exact K0
  rw [← hw0]
  obtain ⟨B, hB⟩ : ∃ B, B = w0.heap.size := ⟨_, rfl⟩
  have hBw : w.heap.size < B := by rw [hB]; exact (Array.getElem?_eq_some_iff.1 g0).1
  refine (NW _).mono ?_
  rintro e w1 ⟨xb, rfl, hC1, hb1⟩
  rw [← hB] at hC1 hb1
  have hTB : 0 < B := by omega
  have hT0 : TabAt w0 := hT.later K0'
  have g1 := (hb1.block _ (by omega : w.heap.size < B)).trans g0
  have HB0 := Lib.hid hB
  clear gC K0 hw0 NW hB
  go_wp2_with (with_reducible refine wpList_load_row rfl _ _ rfl w.heap.size rfl 23 C (0, 0) _ g1 Tryd.underlying23 rfl HLI.out ?_)
  refine (RM _).mono ?_
  rintro e w2 ⟨rfl, hb2⟩
  have hC2 := hC1.later hb2
  have hBs : B ≤ w0.heap.size := by have := HB0.out; omega
  have K2 : Below B w0 w2 := Below.then' hb1 hb2 (Nat.le_trans hBs hb1.size)
  have hx2 := hC2.lt
  have HC2 := Lib.hid hC2
  clear hb1 hb2 hC1 g1 RM hC2
  go_wp2
  go_loopw [7, 8, 9, 10] (fun xa xl xt xi wr => ∃ (i : Nat) (al le : List UInt8) (td : List ByteArray) (n fr h k : Nat), i ≤ ss.length ∧ i ≤ 10 ∧ xi = .int .i64 i ∧ xa = .string (str al) ∧ xl = .string (str le) ∧ al.length ≤ 700 * i ∧
      td = strs (dn f al).1 ∧ le = (dn f al).2 ∧ wr.ownsRow w2.heap.size 9 1 xt td.length (stL td) ∧ CutAt B xb C n fr h k le wr ∧ Srch mn' mx' dm' db' le n fr h k ∧ Below B w0 wr ∧ w2.heap.size ≤ wr.heap.size) (fun _ _ _ xi _ => 10 - (intOf xi).toNat)
  case atStart =>
    have e0 : (dn f []).2 = [] := by have := HREST.out []; exact List.eq_nil_of_length_eq_zero (by simpa using this)
    have e1 : (dn f []).1 = [] := by have := HDL.out []; exact List.eq_nil_of_length_eq_zero (by simpa using this)
    exact ⟨0, [], [], [], mn' - 1, max mn' 16, 0, 0, Nat.zero_le _, by omega, rfl, rfl, rfl, by simp, by rw [e1]; rfl, e0.symm, World.ownsRow_nil _ _ _ _, HC2.out, HS0.out, K2, Nat.le_refl _⟩
  case round =>
    clear HC2
    obtain ⟨i, al, le, td, n, fr, h, k, hi1, hi2, rfl, rfl, rfl, hal, htd, hle, hown, hCt, hSt, K, hww⟩ := hrel
    have HO := Lib.hid hown
    have HTD := Lib.hid htd
    have HLEq := Lib.hid hle
    have HCt := Lib.hid hCt
    have HSt := Lib.hid hSt
    have hBr : B ≤ wr.heap.size := by have := hCt.1; have := hCt.lt; omega
    have hnx : u9.ownBlock ≠ some xb := fun e => by have := (hown.lt xb e).1; omega
    clear hown htd hle hCt hSt
    by_cases hlt : i < ss.length ∧ i < 10
    · obtain ⟨hi3, hi4⟩ := hlt
      rcases HCV.out with hnil | ⟨bz, off, rfl, hcell⟩
      · rw [hnil] at hi3; simp at hi3
      have Kw : Below w.heap.size w wr := K0'.trans (K.mono (by omega))
      have k0 := hcell i hi3
      have k1 := (Kw.cell (World.block_lt_of_cell? _ _ k0)).trans k0
      obtain ⟨s, hs⟩ : ∃ s, ss[i] = s := ⟨_, rfl⟩
      rw [hs] at k1
      have hi5 : (i : Int) < ss.length := by omega
      have hi6 : (i : Int) < 10 := by omega
      have hTX : ∃ tx : ByteArray, ((700 : Int) < s.size ∧ s.extract 0 700 = tx ∨ ¬ (700 : Int) < s.size ∧ s = tx) ∧ tx.size ≤ 700 := by
        by_cases hx : (700 : Int) < s.size
        · exact ⟨_, Or.inl ⟨hx, rfl⟩, by rw [(cut_list s 700 (by omega)).2]; exact Nat.le_refl _⟩
        · exact ⟨s, Or.inr ⟨hx, rfl⟩, by omega⟩
      obtain ⟨tx, htx, htxs⟩ := hTX
      clear hcell k0 Kw hs
      have hleal : le.length ≤ al.length := by rw [HLEq.out]; exact HREST.out al
      have hcat1 := str_app al tx
      have hcat2 := str_app le tx
      have hX1 : (str al).size + tx.size ≤ 7700 := by rw [str_size]; omega
      have hY1 : (str le).size + tx.size ≤ 7700 := by rw [str_size]; omega
      have hX2 : (str (al ++ tx.data.toList)).size ≤ 7700 := by rw [str_size, List.length_append, data_len]; omega
      have hY2 : (str (le ++ tx.data.toList)).size ≤ 7700 := by rw [str_size, List.length_append, data_len]; omega
      have hY2l : (str (le ++ tx.data.toList)).data.toList = le ++ tx.data.toList := rfl
      have hTr : TabAt wr := tab_keep hT0 (by have := HB0.out; omega) K
      have WRt := WR B xb n fr h k le tx (by omega) wr hTr hTB hBr HCt.out HSt.out
      have DOt := DO (str (le ++ tx.data.toList)) (by omega)
      rw [hY2l] at DOt
      have hall : (al ++ tx.data.toList).length ≤ 700 * (i + 1) := by rw [List.length_append, data_len]; omega
      have hm1 : strs (dn f (al ++ tx.data.toList)).1 = td ++ strs (dn f (le ++ tx.data.toList)).1 := by
        rw [HMORE.out, HTD.out, HLEq.out]; simp [strs]
      have hm2 : (dn f (al ++ tx.data.toList)).2 = (dn f (le ++ tx.data.toList)).2 := by rw [HMORE.out, HLEq.out]
      have hj := HJOIN.out (le ++ tx.data.toList)
      have hWl := HDL.out (le ++ tx.data.toList)
      have htdl : td.length ≤ 7700 := by
        rw [HTD.out, strs_len]; have := HDL.out al; omega
      obtain ⟨X1, hX1e⟩ : ∃ X, X = str al := ⟨_, rfl⟩
      obtain ⟨Y1, hY1e⟩ : ∃ X, X = str le := ⟨_, rfl⟩
      obtain ⟨X2, hX2e⟩ : ∃ X, X = str (al ++ tx.data.toList) := ⟨_, rfl⟩
      obtain ⟨Y2, hY2e⟩ : ∃ X, X = str (le ++ tx.data.toList) := ⟨_, rfl⟩
      obtain ⟨L2, hL2e⟩ : ∃ X, X = le ++ tx.data.toList := ⟨_, rfl⟩
      obtain ⟨A2, hA2e⟩ : ∃ X, X = al ++ tx.data.toList := ⟨_, rfl⟩
      rw [← hX1e, ← hX2e] at hcat1
      rw [← hY1e, ← hY2e] at hcat2
      rw [← hX1e] at hX1
      rw [← hY1e] at hY1
      rw [← hX2e] at hX2
      rw [← hY2e] at hY2 DOt
      rw [← hL2e] at WRt DOt hm1 hm2 hj hWl hY2e
      rw [← hA2e] at hall hm1 hm2 hX2e
      have hL2s : L2.length ≤ 7700 := by rw [hY2e, str_size] at hY2; exact hY2
      obtain ⟨W, hW⟩ : ∃ X, X = (dn f L2).1 := ⟨_, rfl⟩
      obtain ⟨re, hre⟩ : ∃ X, X = (dn f L2).2 := ⟨_, rfl⟩
      rw [← hW] at WRt DOt hm1 hj hWl
      rw [← hre] at WRt hm2 hj
      have HM1 := Lib.hid hm1
      have HM2 := Lib.hid hm2
      have HJ := Lib.hid hj
      have HX2 := Lib.hid hX2e
      have HY2 := Lib.hid hY2e
      have hX1i : (X1.size : Int) + tx.size ≤ 7700 := by omega
      have hY1i : (Y1.size : Int) + tx.size ≤ 7700 := by omega
      have SA := fun v u w' h h' => same_any (strs W) (by rw [strs_len]; omega) v u w' h h'
      have hstl := strs_len W
      have HSTL := Lib.hid hstl
      rw [← hX1e, ← hY1e]
      clear hX1e hY1e hX2e hY2e hL2e hA2e hW hre hm1 hm2 hj hY2l hleal hstl HCt HSt WR DO EY RS
      rcases htx with ⟨hx7, hxe⟩ | ⟨hx7, rfl⟩
      all_goals
        go_wp2_with fail
        refine WRt.mono ?_
        rintro e w3 ⟨v3, n3, fr3, h3', k3, rfl, hv3, hC3, hS3, hK3, hKB3⟩
        have K3 := K.trans hK3
        have HO3 := Lib.hid (hKB3.own HO.out hnx)
        have g3 := (K3.block _ hBw).trans g0
        have hww3 : w2.heap.size ≤ w3.heap.size := Nat.le_trans hww hKB3.size
        have HS3 := Lib.hid hS3
        clear HO hK3 hKB3 K hS3
        go_wp2_with (with_reducible refine wpList_load_row rfl _ _ rfl w.heap.size rfl 23 C (0, 0) _ g3 Tryd.underlying23 rfl HLI.out ?_)
        refine (DOt _).mono ?_
        rintro e w4 ⟨v4, rfl, hv4, hb4⟩
        have hv34 := hv3.later hb4
        have hC4 := hC3.later hb4
        have HO4 := Lib.hid (own_later HO3.out hb4)
        have hB3 : B ≤ w3.heap.size := Nat.le_trans hBs K3.size
        have K4 := Below.then' K3 hb4 hB3
        have hww4 := Nat.le_trans hww3 hb4.size
        clear hv3 hC3 HO3 hb4 K3 g3
        go_wp2_with fail
        refine (SA _ _ _ hv34 hv4).mono ?_
        rintro e w5 ⟨rfl, hb5⟩
        have hv35 := hv34.later hb5
        have hv45 := hv4.later hb5
        have hC5 := hC4.later hb5
        have HO5 := Lib.hid (own_later HO4.out hb5)
        have K5 := Below.then' K4 hb5 (Nat.le_trans hBs K4.size)
        have hww5 := Nat.le_trans hww4 hb5.size
        have HC5 := Lib.hid hC5
        clear hv34 hv4 hC4 HO4 hb5 K4 hC5
        obtain ⟨p4, c4, rfl, hc4⟩ := hv45
        rw [HSTL.out]
        have HC4 := Lib.hid hc4
        have HV3 := Lib.hid hv35
        clear hc4 hv35 SA DOt WRt
        go_wp2
        go_loopw [8, 14] (fun xl xj wq => ∃ (j : Nat) (t : ByteArray), j ≤ W.length ∧ xj = .int .i64 j ∧ xl = .string t ∧ t.data.toList = (W.drop j).flatten ++ re ∧ Below w5.heap.size w5 wq) (fun _ xj _ => W.length - (intOf xj).toNat)
        case atStart => exact ⟨0, Y2, Nat.zero_le _, rfl, rfl, by rw [HY2.out]; exact HJ.out.symm, Below.refl _ _⟩
        case round =>
          obtain ⟨j, t, hj1, rfl, rfl, htl, KQ⟩ := hrel
          by_cases hjl : j < W.length
          · rcases HC4.out with hnil | ⟨b4, o4, rfl, hcell4⟩
            · have := HSTL.out; rw [hnil] at this; simp at this; omega
            have m0 := hcell4 j (by have := HSTL.out; omega)
            have hgs : (strs W)[j]'(by have := HSTL.out; omega) = str W[j] := by simp [strs]
            rw [hgs] at m0
            have m1 := (KQ.cell (World.block_lt_of_cell? _ _ m0)).trans m0
            have hft := flat_take W j hjl
            have hxs := str_size W[j]
            obtain ⟨x, hx⟩ : ∃ x, x = W[j] := ⟨_, rfl⟩
            rw [← hx] at m1 hft hxs
            obtain ⟨y, hy⟩ : ∃ y, y = str x := ⟨_, rfl⟩
            rw [← hy] at m1 hxs
            rw [hft] at htl
            have htz := data_len t
            have hqt : y.size ≤ t.size := by rw [← htz, htl, hxs]; simp only [List.length_append]; omega
            have hdr := drop_list t y.size hqt
            have e2 : (t.extract y.size t.size).data.toList = (W.drop (j + 1)).flatten ++ re := by
              rw [hdr.1, htl, List.append_assoc, hxs, List.drop_left]
            obtain ⟨t2, ht2⟩ : ∃ t2, t.extract y.size t.size = t2 := ⟨_, rfl⟩
            rw [ht2] at e2
            have HE2 := Lib.hid e2
            have hqi : (y.size : Int) ≤ t.size := by omega
            have hqn : ((y.size : Int)).toNat = y.size := by omega
            have hjj : (j : Int) < W.length := by omega
            clear hcell4 m0 hgs hft hx hy htl htz hdr e2 hxs
            go_wp2
            go_roundw
            case rel => exact ⟨j + 1, t2, by omega, by go_num, rfl, HE2.out, KQ⟩
            case measure => simp [intOf]; omega
          · obtain rfl : j = W.length := by omega
            rw [List.drop_length, List.flatten_nil, List.nil_append] at htl
            have hts : t.size = re.length := by rw [← data_len, htl]
            have hte : t = str re := by rw [← str_data t, htl]
            have hC6 := HC5.out.later KQ
            have LE := left_any B xb C n3 fr3 h3' k3 re _ hC6
            rw [← hts] at LE
            have HO6 := Lib.hid (own_later HO5.out KQ)
            have hv36 := HV3.out.later KQ
            have K6 := Below.then' K5 KQ (Nat.le_trans hBs K5.size)
            have hww6 := Nat.le_trans hww5 KQ.size
            have HTE := Lib.hid hte
            have HC6 := Lib.hid hC6
            have HV6 := Lib.hid hv36
            clear htl hts hte hC6 hv36 HC5 HO5 HV3 K5 HC4 HJ
            go_wp2_with fail
            refine LE.mono ?_
            rintro e w' ⟨rfl, rfl⟩
            go_wp2_with (at_builtin; refine wpList_append_texts rfl _ _ 31 rfl w2.heap.size 9 i0 (.string ⟨#[]⟩) 16 Tryd.underlying31 HI.out HZ0.out HZ1.out HZ2.out rfl _ _ _ rfl HO6.out v3 (strs W) rfl HV6.out ?c3 ?c4 ?c5 ?_)
            case c3 => have := HSTL.out; unfold maxLen; omega
            case c4 => have := HSTL.out; omega
            case c5 => omega
            intro v' w6 hown6 hg6
            have hC7 := HC6.out.row HO6.out hnx hg6
            have hxw := HC6.out.lt
            have K7 : Below B w0 w6 := K6.grown hg6 (Nat.le_trans hBs K6.size) (fun q hq => by have := (HO6.out.lt q hq).1; have := K2.size; omega)
            have hww7 := Nat.le_trans hww6 hg6.size
            have hown7 : w6.ownsRow w2.heap.size 9 1 v' (td ++ strs W).length (stL (td ++ strs W)) := by
              rw [List.length_append]
              simpa [stL] using hown6
            have HO7 := Lib.hid hown7
            have HC7 := Lib.hid hC7
            clear hown6 hown7 hg6 hC7 HC6 HO6 HV6
            go_wp2
            go_roundw
            case rel => exact ⟨i + 1, A2, re, td ++ strs W, n3, fr3, h3', k3, by omega, by omega, by go_num, congrArg Value.string HX2.out, congrArg Value.string HTE.out, hall, HM1.out.symm, HM2.out.symm, HO7.out, HC7.out, HS3.out, K7, hww7⟩
            case measure => simp [intOf]; omega
    · have hEnd : ∃ ts : List ByteArray, td ++ ts = strs (spl f al) ∧ ts.length ≤ 1 ∧ Calls Tryd.prog 22 #[.pointer (some ⟨xb, 0, none⟩)] wr fun e w' => ∃ v, e = .returned v ∧ StrAt ts v w' ∧ (∃ n fr h k, CutAt B xb C n fr h k [] w') ∧ Below B wr w' ∧ KeptBut xb wr w' := by
        by_cases hle0 : le = []
        · refine ⟨[], ?_, by simp, ?_⟩
          · rw [List.append_nil, HTD.out, spl_of_dn, ← HLEq.out, if_pos hle0, List.append_nil]
          · have hCt := HCt.out
            rw [hle0] at hCt
            refine (cend_no B xb C n fr h k wr hCt).mono ?_
            rintro e w' ⟨rfl, rfl⟩
            exact ⟨_, rfl, ⟨none, 0, rfl, Or.inl rfl⟩, ⟨_, _, _, _, hCt⟩, (Below.refl _ _).mono hBr, KeptBut.refl _ _⟩
        · refine ⟨[str le], ?_, by simp, ?_⟩
          · rw [HTD.out, spl_of_dn, ← HLEq.out, if_neg hle0]; simp [strs]
          · refine (EY B xb n fr h k le (by have := HREST.out al; rw [HLEq.out]; omega) hle0 wr hBr HCt.out).mono ?_
            rintro e w' ⟨v, rfl, h1, h2, h3, h4⟩
            exact ⟨v, rfl, h1, ⟨_, _, _, _, h2⟩, h3, h4⟩
      obtain ⟨ts, hts, htsl, EE⟩ := hEnd
      have RSt := RS (str al) (by rw [str_size]; omega)
      have hall : (str al).data.toList = al := rfl
      rw [hall, ← hts] at RSt
      have htdl : td.length ≤ 7700 := by rw [HTD.out, strs_len]; have := HDL.out al; omega
      have SA := fun v u w' h h' => same_any (td ++ ts) (by rw [List.length_append]; omega) v u w' h h'
      obtain ⟨X, hX⟩ : ∃ X, X = str al := ⟨_, rfl⟩
      rw [← hX] at RSt ⊢
      clear hX hts hall HTD HLEq HCt HSt WR DO EY RS HMORE HJOIN HDL HREST hal
      rcases (show ¬ (i : Int) < ss.length ∨ ((i : Int) < ss.length ∧ ¬ (i : Int) < 10) by omega) with hg1 | ⟨hg1, hg2⟩
      all_goals
        go_wp2_with fail
        refine EE.mono ?_
        rintro e w3 ⟨ve, rfl, hve, ⟨n3, fr3, h3', k3, hC3⟩, hK3, hKB3⟩
        have K3 := K.trans hK3
        have HO3 := Lib.hid (hKB3.own HO.out hnx)
        have hww3 : w2.heap.size ≤ w3.heap.size := Nat.le_trans hww hKB3.size
        have HC3 := Lib.hid hC3
        clear HO hK3 hKB3 K hC3 EE
        go_wp2_with (at_builtin; refine wpList_append_texts rfl _ _ 31 rfl w2.heap.size 9 i0 (.string ⟨#[]⟩) 16 Tryd.underlying31 HI.out HZ0.out HZ1.out HZ2.out rfl _ _ _ rfl HO3.out ve ts rfl hve ?c3 ?c4 ?c5 ?_)
        case c3 => unfold maxLen; omega
        case c4 => omega
        case c5 => omega
        intro v' w4 hown4 hg4
        have hC4 := HC3.out.row HO3.out hnx hg4
        have K4 : Below B w0 w4 := K3.grown hg4 (Nat.le_trans hBs K3.size) (fun q hq => by have := (HO3.out.lt q hq).1; have := K2.size; omega)
        have hu4 : StrAt (td ++ ts) v' w4 := strAt_own (by
          rw [List.length_append]
          simpa [stL] using hown4)
        have g4 := (K4.block _ hBw).trans g0
        have HC4 := Lib.hid hC4
        have HU4 := Lib.hid hu4
        clear hown4 hg4 HO3 HC3 K3 hC4 hu4 hve
        go_wp2_with (with_reducible refine wpList_load_row rfl _ _ rfl w.heap.size rfl 23 C (0, 0) _ g4 Tryd.underlying23 rfl HLI.out ?_)
        refine (RSt _).mono ?_
        rintro e w5 ⟨v5, rfl, hv5, hb5⟩
        have hu5 := HU4.out.later hb5
        have hC5 := HC4.out.later hb5
        have K5 := Below.then' K4 hb5 (Nat.le_trans hBs K4.size)
        clear hb5 HC4 HU4 K4 g4
        go_wp2_with fail
        refine (SA _ _ _ hu5 hv5).mono ?_
        rintro e w6 ⟨rfl, hb6⟩
        have hC6 := hC5.later hb6
        have K6 := Below.then' K5 hb6 (Nat.le_trans hBs K5.size)
        clear hb6 hC5 K5 hu5 hv5
        have LE : Calls Tryd.prog 21 #[.pointer (some ⟨xb, 0, none⟩)] w6 fun e w' => e = .returned (.int .i64 0) ∧ w6 = w' := left_any B xb C n3 fr3 h3' k3 [] w6 hC6
        have EN := cend_no B xb C n3 fr3 h3' k3 w6 hC6
        go_wp2_with fail
        refine LE.mono ?_
        rintro e w' ⟨rfl, rfl⟩
        go_wp2_with fail
        refine EN.mono ?_
        rintro e w' ⟨rfl, rfl⟩
        have K7 : Below w.heap.size w w6 := K0'.trans (K6.mono (by omega))
        go_wp2_with fail
        refine (awake_any _ (hT.later K7)).mono ?_
        rintro e w7 ⟨rfl, hb7⟩
        go_wp2
        go_ret
        exact ⟨rfl, Below.then' K7 hb7 K7.size⟩

set_option maxRecDepth 100000 in
theorem walk_cutPieces (w : World) (v : Value) (ss : List ByteArray) (hv : StrAt ss v w) (hse : ss.length ≤ maxLen ∧ ∀ s ∈ ss, s.size ≤ maxLen) (C : Array Value) (a b c d : Int) (hC : IsConf C a b c d) (hT : TabAt w) :
    Calls Tryd.prog 5 #[v, .agg C] w (LawPost w) := by
  by_cases hM : MayC a b c d
  · obtain ⟨mn, mx, dm, db, rfl, rfl, rfl, rfl, _⟩ := mayC_nats hM
    exact pieces_yes w v ss hv hse C mn mx dm db hC hM hT
  · exact pieces_no w v C a b c d hC hM hT

end Go.Proofs.YtimllddlcjnikaaDoor
