/- The landed journal's refuses, Load. The landed journal's Append, and a nil disk. -/
import Derived.Test.YtoigembmbajopaaDoorGZ
import Derived.Test.YtoigembmbajopaaDoorGL
namespace Go.Proofs.YtoigembmbajopaaDoor
open Go.RowKit

set_option maxHeartbeats 2000000 in
set_option maxRecDepth 100000 in
theorem bwriteL_any (B b : Nat) (l : List UInt8) (s : ByteArray) (w : World) (hs : l.length + s.size ≤ 1000000000) (hBw : B ≤ w.heap.size) (hc : BldAt B b l w) :
    Calls Tryd.prog 47 #[.pointer (some ⟨b, 0, none⟩), .string s] w fun e w' => e = .returned (.tuple #[.int .i64 s.size, .nilIface]) ∧ BldAt B b (l ++ s.data.toList) w' ∧ Below B w w' ∧ KeptBut b w w' := by
  obtain ⟨p, v, hB, hg, hp, hown, hne⟩ := hc.row
  have CC := bcheck_any b p v w hg hp
  obtain ⟨i0, hi, hz0⟩ := Option.map_eq_some_iff.1 infoByte
  simp only [Prod.mk.injEq] at hz0
  obtain ⟨hz0, hz1, hz2⟩ := hz0
  have HI := Lib.hid hi
  have HZ0 := Lib.hid hz0
  have HZ1 := Lib.hid hz1
  have HZ2 := Lib.hid hz2
  have HOW := Lib.hid hown
  have HNE := Lib.hid hne
  clear hi hz0 hz1 hz2 hg hp hown hne hc
  go_enter Tryd.func47, Tryd.ntmps47
  go_wp2_with fail
  refine CC.mono ?_
  rintro e w1 ⟨rfl, hg1, hG1⟩
  have hown1 := HOW.out.kept hG1 (Or.inr HNE.out)
  have c2 : w1.cell? ⟨b, 1, none⟩ = some v := (cell_of_row _ _ _ _ _ _ hg1).trans rfl
  have K1 := below_touch (Below.refl B w) (by exact hG1) hBw hB
  have hsz1 := hG1.size
  have HO1 := Lib.hid hown1
  have HG1 := Lib.hid hg1
  clear hown1 hg1
  go_wp2_with (at_builtin; refine Lib.wpList_append_own_string _ rfl _ _ 46 9 rfl B 5 i0 Tryd.underlying46 Tryd.underlying9 HI.out HZ0.out HZ1.out HZ2.out _ _ _ rfl HO1.out s rfl ?c3 ?c4 ?c5 ?_)
  case c3 => unfold maxLen; omega
  case c4 => omega
  case c5 => omega
  intro v' w2 hown2 hgrow _
  have hb2 : w2.heap[b]? = some (.cells #[.pointer (some ⟨b, 0, none⟩), v] 86 (0, 0)) := by
    rw [hgrow.block b (Array.getElem?_eq_some_iff.1 HG1.out).1 (fun e => HNE.out e.symm)]
    exact HG1.out
  have d2 : w2.cell? ⟨b, 1, none⟩ = some v := (cell_of_row _ _ _ _ _ _ hb2).trans rfl
  have f2 : w2.frozen? ⟨b, 1, none⟩ = false := frozen_of_row _ _ _ _ _ hb2
  have hg3 := heap_setCell_same w2 b 1 _ 86 v' hb2
  have hne3 : v'.ownBlock ≠ some b := Lib.ownBlock_ne hown2 hb2 (by decide)
  have hown3 := hown2.kept (grown_set w2 b 1 v') (Or.inr hne3)
  have hll : (l ++ s.data.toList).length = l.length + s.size := by rw [List.length_append, data_len]
  have hbc : Lib.byteCells (l ++ s.data.toList) = Lib.byteCells l ++ Lib.strCells s := by rw [Lib.byteCells_append, Lib.strCells_eq]
  have hC : BldAt B b (l ++ s.data.toList) (w2.setCell ⟨b, 1, none⟩ v') := BldAt.of hB hg3 (by rw [hll, hbc]; exact hown3) hne3
  have hK : KeptBut b w (w2.setCell ⟨b, 1, none⟩ v') := (KeptBut.grown hG1).trans ((KeptBut.bytes HO1.out hgrow).trans (KeptBut.grown (grown_set _ _ _ _)))
  have hKB : Below B w (w2.setCell ⟨b, 1, none⟩ v') := (K1.grown hgrow (by omega) (fun k hk => (HO1.out.lt k hk).1)).setCell (p := ⟨b, 1, none⟩) hB _
  obtain ⟨ao, n', cap, rfl⟩ : ∃ ao n' cap, v' = .slice ao n' cap := by
    rcases hown2.2 with ⟨hv, _⟩ | ⟨g, cap, cur, hv, _⟩
    · exact ⟨_, _, _, hv⟩
    · exact ⟨_, _, _, hv⟩
  have HC := Lib.hid hC
  have HK := Lib.hid hK
  have HKB := Lib.hid hKB
  clear hC hK hKB hown2 hgrow hb2 hg3 hne3 hown3 hll hbc
  go_wp2
  go_ret2
  exact ⟨rfl, HC.out, HKB.out, HK.out⟩

theorem need_cnt {u : Int} (h : 0 ≤ u) : needN u = (cntJ u.toNat : Nat) := by
  unfold needN cntJ
  split <;> omega

set_option maxRecDepth 100000 in
set_option maxHeartbeats 8000000 in
theorem jrefuses_any {B : Nat} {x : Value} {P : Dk → (Nat → Prop) → World → Prop} (D : DiskOk B x P) {s : Dk} {Bs : Nat → Prop} {w : World} (hp : P s Bs w) (hok : s.ok) (j u : Int) (hj : I64 j) (hu : I64 u) :
    Calls Tryd.prog 68 #[x, .int .i64 j, .int .i64 u] w fun e w' => e = .returned (.int .i64 (if jFits s.stands.length j u then 0 else 1)) ∧ Kept w w' := by
  obtain ⟨ad, rfl⟩ := D.ptr
  have LEN := fun W (k : Kept w W) => D.len s Bs W (D.kept hp k) hok
  have hN1 := hok.pos
  have hN2 := hok.most
  obtain ⟨N, hN⟩ : ∃ N, N = s.stands.length := ⟨_, rfl⟩
  rw [← hN] at LEN hN1 hN2 ⊢
  have n1 : ((N : Int) == 0) = false := beq_eq_false_iff_ne.2 (by omega)
  obtain ⟨r, hr⟩ : ∃ r : Int, r = if jFits (N : Nat) j u then 0 else 1 := ⟨_, rfl⟩
  rw [← hr]
  have HR := Lib.hid hr
  obtain ⟨y, hy⟩ : ∃ y : Int, y = (N : Int) - 2 := ⟨_, rfl⟩
  have v1 : IntKind.i64.wrap ((N : Int) - 2) = y := by rw [← hy]; exact IntWalk.i64_in _ (by omega)
  have L1 := LEN w (Kept.refl w)
  have HJ := Lib.hid hj
  have HU := Lib.hid hu
  have HNN := Lib.hid hN1
  have HY := Lib.hid hy
  clear hN hr hp hok D hN1 hy hj hu
  by_cases g1 : j < 1
  · have b1 : decide (j < 1) = true := decide_eq_true g1
    obtain rfl : r = 1 := by rw [HR.out, if_neg (fun z => by have := z.1; omega)]
    clear g1 LEN
    go_enter Tryd.func68, Tryd.ntmps68
    go_wp2_with fail
    refine L1.mono ?_
    rintro e w1 ⟨rfl, hb1⟩
    have K := Lib.hid (show Kept w w1 from hb1)
    clear L1 hb1
    go_wp2
    go_ret
    exact ⟨rfl, K.out⟩
  · have b1 : decide (j < 1) = false := decide_eq_false g1
    by_cases g2 : j > y
    · have b2 : decide (j > y) = true := decide_eq_true g2
      obtain rfl : r = 1 := by rw [HR.out, if_neg (fun z => by have := z.2.1; have := HY.out; omega)]
      clear g1 g2
      go_enter Tryd.func68, Tryd.ntmps68
      go_wp2_with fail
      refine L1.mono ?_
      rintro e w1 ⟨rfl, hb1⟩
      have K := Lib.hid (show Kept w w1 from hb1)
      have L2 := LEN w1 hb1
      clear L1 hb1 LEN
      go_wp2_with fail
      refine L2.mono ?_
      rintro e w2 ⟨rfl, hb2⟩
      have K2 := Lib.hid ((show Kept w w1 from K.out).then hb2)
      clear L2 hb2
      go_wp2
      go_ret
      exact ⟨rfl, K2.out⟩
    · have b2 : decide (j > y) = false := decide_eq_false g2
      obtain ⟨m, hm⟩ : ∃ m : Int, m = j * 128 := ⟨_, rfl⟩
      have v2 : IntKind.i64.wrap (j * 128) = m := by rw [← hm]; exact IntWalk.i64_in _ (by have := HY.out; omega)
      have HM := Lib.hid hm
      clear hm
      by_cases g3 : u < 0
      · have b3 : decide (u < 0) = true := decide_eq_true g3
        obtain rfl : r = 1 := by rw [HR.out, if_neg (fun z => by have := z.2.2.1; omega)]
        clear g1 g2 g3
        go_enter Tryd.func68, Tryd.ntmps68
        go_wp2_with fail
        refine L1.mono ?_
        rintro e w1 ⟨rfl, hb1⟩
        have K := Lib.hid (show Kept w w1 from hb1)
        have L2 := LEN w1 hb1
        clear L1 hb1 LEN
        go_wp2_with fail
        refine L2.mono ?_
        rintro e w2 ⟨rfl, hb2⟩
        have K2 := Lib.hid ((show Kept w w1 from K.out).then hb2)
        clear L2 hb2
        go_wp2
        go_ret
        exact ⟨rfl, K2.out⟩
      · have b3 : decide (u < 0) = false := decide_eq_false g3
        obtain ⟨b4, hb4⟩ : ∃ b4, b4 = decide (u > m) := ⟨_, rfl⟩
        have c4 : decide (u > m) = b4 := hb4.symm
        have HF : Hid (r = if b4 = true then 1 else 0) := Lib.hid (by
          rw [HR.out, hb4]
          have h1 := HM.out
          have h2 := HY.out
          have hiff : jFits (N : Nat) j u ↔ ¬ u > m := by unfold jFits; omega
          by_cases g4 : u > m
          · rw [if_neg (fun z => hiff.1 z g4), decide_eq_true g4, if_pos rfl]
          · rw [if_pos (hiff.2 g4), decide_eq_false g4, if_neg (by decide)])
        clear g1 g2 g3 hb4
        cases b4 with
        | true =>
          obtain rfl : r = 1 := HF.out
          go_enter Tryd.func68, Tryd.ntmps68
          go_wp2_with fail
          refine L1.mono ?_
          rintro e w1 ⟨rfl, hb1⟩
          have K := Lib.hid (show Kept w w1 from hb1)
          have L2 := LEN w1 hb1
          clear L1 hb1 LEN
          go_wp2_with fail
          refine L2.mono ?_
          rintro e w2 ⟨rfl, hb2⟩
          have K2 := Lib.hid ((show Kept w w1 from K.out).then hb2)
          clear L2 hb2
          go_wp2
          go_ret
          exact ⟨rfl, K2.out⟩
        | false =>
          obtain rfl : r = 0 := HF.out
          go_enter Tryd.func68, Tryd.ntmps68
          go_wp2_with fail
          refine L1.mono ?_
          rintro e w1 ⟨rfl, hb1⟩
          have K := Lib.hid (show Kept w w1 from hb1)
          have L2 := LEN w1 hb1
          clear L1 hb1 LEN
          go_wp2_with fail
          refine L2.mono ?_
          rintro e w2 ⟨rfl, hb2⟩
          have K2 := Lib.hid ((show Kept w w1 from K.out).then hb2)
          clear L2 hb2
          go_wp2
          go_ret
          exact ⟨rfl, K2.out⟩

set_option maxRecDepth 100000 in
set_option maxHeartbeats 16000000 in
theorem loadOkJ : JLoadOk := by
  intro B x P D s Bs w j u hp hok hlo hj hu
  have RF := jrefuses_any D hp hok j u hj hu
  have DN := fun W (k : Kept w W) => D.down s Bs W (D.kept hp k)
  have RD := fun W (k : Kept w W) (i : Int) (hi : (Lit.int .i64 i).wf = true) => D.read s Bs W i (D.kept hp k) hok (by omega) hi
  obtain ⟨ad, rfl⟩ := D.ptr
  obtain ⟨res, hres⟩ : ∃ res, res = str (jLd s j u).1 := ⟨_, rfl⟩
  obtain ⟨er, her⟩ : ∃ er, er = (jLd s j u).2 := ⟨_, rfl⟩
  rw [← hres, ← her]
  have HRES := Lib.hid hres
  have HER := Lib.hid her
  have HOK := Lib.hid hok
  clear hres her hp D hlo
  by_cases hf : jFits s.stands.length j u
  · rw [if_pos hf] at RF
    have hjl : jLd s j u = jLoad s u.toNat := by unfold jLd; rw [if_neg (fun z => z hf)]
    have HJL := Lib.hid hjl
    by_cases hd : s.down = true
    · rw [hd] at DN
      have e1 : jLoad s u.toNat = ([], 90) := by unfold jLoad; rw [if_pos hd]
      obtain rfl : res = ⟨#[]⟩ := by rw [HRES.out, hjl, e1]; rfl
      obtain rfl : er = 90 := by rw [HER.out, hjl, e1]
      clear RD hf hjl hd e1 HRES HER HJL
      go_enter Tryd.func26, Tryd.ntmps26
      go_wp2_with fail
      refine RF.mono ?_
      rintro e w1 ⟨rfl, hb1⟩
      have K1 := Lib.hid hb1
      have D1 := DN w1 hb1
      clear RF hb1 DN
      go_wp2_with fail
      refine D1.mono ?_
      rintro e w2 ⟨rfl, hb2⟩
      have K2 := Lib.hid ((show Kept w w1 from K1.out).then hb2)
      clear D1 hb2
      go_wp2
      first | go_ret | go_ret2
      exact ⟨rfl, K2.out⟩
    · have hd' : s.down = false := by simpa using hd
      rw [hd'] at DN
      unfold jFits at hf
      obtain ⟨z, rfl⟩ : ∃ z : Nat, u = z := ⟨u.toNat, by omega⟩
      obtain ⟨n, hn⟩ : ∃ n, n = cntJ z := ⟨_, rfl⟩
      have hby := cntJ_bytes z
      rw [← hn] at hby
      have hmost := hok.most
      have CN := fun W => needOk (z : Int) W hu
      rw [need_cnt (by omega), Int.toNat_natCast, ← hn] at CN
      have hJ : jLoad s z = (((secJ 0 n).flatMap s.vis).take z, 0) := by unfold jLoad; rw [if_neg hd, ← hn]
      obtain rfl : er = 0 := by rw [HER.out, hjl, Int.toNat_natCast, hJ]
      have HRS : Hid (res = str (((secJ 0 n).flatMap s.vis).take z)) := Lib.hid (by rw [HRES.out, hjl, Int.toNat_natCast, hJ])
      have HNB : Hid (2 + n ≤ s.stands.length ∧ n ≤ 8192 ∧ z ≤ 128 * n) := Lib.hid (by omega)
      have HDN := Lib.hid hd'
      clear hf hjl hd hd' hn hby hmost hJ HRES HER HJL hu hj
      go_enter Tryd.func26, Tryd.ntmps26
      go_wp2_with fail
      refine RF.mono ?_
      rintro e w1 ⟨rfl, hb1⟩
      have K1 := Lib.hid hb1
      have D1 := DN w1 hb1
      clear RF hb1 DN
      go_wp2_with fail
      refine D1.mono ?_
      rintro e w2 ⟨rfl, hb2⟩
      have K2 := Lib.hid ((show Kept w w1 from K1.out).then hb2)
      clear D1 hb2
      obtain ⟨WB, hWB⟩ : ∃ WB, WB = w2.alloc (.cells #[.pointer none, .slice none 0 0] 86) := ⟨_, rfl⟩
      have HWB := Lib.hid hWB
      have HBD : Hid (BldAt w2.heap.size w2.heap.size [] WB) := Lib.hid (by rw [hWB]; exact Lib.fresh_isBuilder _ _ w2)
      have hkB : Kept w2 WB := by rw [hWB]; exact box_below _ _
      have HKB : Hid (Kept w WB) := Lib.hid ((show Kept w w2 from K2.out).then hkB)
      have CN1 := CN WB
      clear hWB hkB CN
      go_wp2_with fail
      rw [← HWB.out]
      refine CN1.mono ?_
      rintro e w3 ⟨rfl, hb3⟩
      have HBD3 : Hid (BldAt w2.heap.size w2.heap.size ((secJ 0 0).flatMap s.vis) w3) := Lib.hid (HBD.out.later hb3)
      have HK3 : Hid (Kept w w3) := Lib.hid ((show Kept w WB from HKB.out).then hb3)
      have HS3 : Hid (w2.heap.size ≤ w3.heap.size) := Lib.hid (by have := IsB.size HBD3.out; omega)
      clear hb3 CN1 HBD HKB HWB
      go_wp2
      go_loopg [24] n (fun gh s24 wx => ∃ k : Nat, k + gh = n ∧ s24 = .int .i64 k ∧ Hid (BldAt w2.heap.size w2.heap.size ((secJ 0 k).flatMap s.vis) wx) ∧ Hid (((secJ 0 k).flatMap s.vis).length = 128 * k) ∧ Hid (Kept w wx) ∧ Hid (w2.heap.size ≤ wx.heap.size))
      case atStart => exact ⟨0, by omega, rfl, HBD3, Lib.hid rfl, HK3, HS3⟩
      case round =>
        clear HBD3 HK3 HS3
        obtain ⟨k, hk, rfl, HBD, HLN, HK, HS⟩ := hrel
        by_cases hkn : k < n
        · have hki : (k : Int) < n := by omega
          have bk : decide ((k : Int) < (n : Int)) = true := by simpa using hki
          obtain ⟨k1, hk1⟩ : ∃ k1, k1 = k + 1 := ⟨_, rfl⟩
          have hnb := HNB.out
          have v1 : IntKind.i64.wrap ((k : Int) + 1) = (k1 : Int) := by rw [show (k : Int) + 1 = (k1 : Int) by omega]; exact IntWalk.i64_in _ (by omega)
          obtain ⟨y, hy⟩ : ∃ y, y = 2 + k := ⟨_, rfl⟩
          have v2 : IntKind.i64.wrap (2 + (k : Int)) = (y : Int) := by rw [show 2 + (k : Int) = (y : Int) by omega]; exact IntWalk.i64_in _ (by omega)
          have hrd := Dk.up_read HDN.out y (by omega)
          have hvl := HOK.out.vis_len y (by omega)
          have CR := RD wr HK.out (y : Int) (by simp [Lit.wf, IntKind.min, IntKind.max, IntKind.signed, IntKind.bits]; omega)
          rw [hrd.1, hrd.2] at CR
          obtain ⟨V, hV⟩ : ∃ V, V = str (s.vis y) := ⟨_, rfl⟩
          rw [← hV] at CR
          have HVS : Hid (V.size = 128 ∧ V.data.toList = s.vis y) := Lib.hid ⟨by rw [hV, str_size]; exact hvl, by rw [hV, str_list]⟩
          have HSX : Hid ((secJ 0 k1).flatMap s.vis = (secJ 0 k).flatMap s.vis ++ s.vis y) := Lib.hid (by
            rw [hk1, secJ_succ, List.flatMap_append, hy]
            simp only [List.flatMap_cons, List.flatMap_nil, List.append_nil, Nat.add_zero])
          have HKK : Hid (k1 = k + 1 ∧ k + gk = n ∧ n ≤ 8192) := Lib.hid ⟨hk1, hk, hnb.2.1⟩
          clear hk1 hnb hy hrd hvl hV hk
          go_wp2_with fail
          refine CR.mono ?_
          rintro e w4 ⟨rfl, hb4⟩
          have HK4 : Hid (Kept w w4) := Lib.hid ((show Kept w wr from HK.out).then hb4)
          have HS4 : Hid (w2.heap.size ≤ w4.heap.size) := Lib.hid (Nat.le_trans HS.out hb4.size)
          have CW := bwriteL_any w2.heap.size w2.heap.size _ V w4 (by rw [HLN.out, HVS.out.1]; have := HKK.out; omega) HS4.out (HBD.out.later hb4)
          rw [HVS.out.2, ← HSX.out] at CW
          clear CR hb4 HBD HK HS
          go_wp2_with fail
          refine CW.mono ?_
          rintro e w5 ⟨rfl, hbd, hb5, -⟩
          have HBD5 := Lib.hid hbd
          have HK5 : Hid (Kept w w5) := Lib.hid (Below.trans HK4.out (hb5.mono K2.out.size))
          have HS5 : Hid (w2.heap.size ≤ w5.heap.size) := Lib.hid (Nat.le_trans HS4.out hb5.size)
          have HLN5 : Hid (((secJ 0 k1).flatMap s.vis).length = 128 * k1) := Lib.hid (by
            rw [HSX.out, List.length_append, HLN.out, ← HVS.out.2, data_len, HVS.out.1, HKK.out.1]; omega)
          clear CW hbd hb5 HK4 HS4
          go_wp2
          go_roundg (n - k1)
          case measure => have := HKK.out; omega
          case rel => exact ⟨k1, by have := HKK.out; omega, by first | rfl | (congr 1; have := HKK.out; omega), HBD5, HLN5, HK5, HS5⟩
        · have hki : ¬ (k : Int) < n := by omega
          have bk : decide ((k : Int) < (n : Int)) = false := by simpa using hki
          have hke : k = n := by omega
          subst hke
          have CST := Tryd.Builder_String_any w2.heap.size w2.heap.size _ wr HBD.out HS.out
          obtain ⟨X, hX⟩ : ∃ X, X = str ((secJ 0 k).flatMap s.vis) := ⟨_, rfl⟩
          have CST2 : Calls Tryd.prog 50 #[.pointer (some ⟨w2.heap.size, 0, none⟩)] wr fun e w' => e = .returned (.string X) ∧ Below w2.heap.size wr w' := by rw [hX]; exact CST
          obtain ⟨x0, hx0⟩ : ∃ x0, x0 = 128 * k := ⟨_, rfl⟩
          have zX : X.size = x0 := by rw [hX, str_size, HLN.out, hx0]
          have hnb := HNB.out
          have b1 : (0 : Int) ≤ (z : Int) := by omega
          have b2 : (z : Int) ≤ (x0 : Int) := by omega
          have b3 : ¬ ((x0 : Int) < (z : Int)) := by omega
          have b4 : ¬ ((z : Int) < 0) := by omega
          have HXE : Hid (X.extract 0 z = res) := Lib.hid (by
            rw [HRS.out, hX, Lib.extract_eq]
            unfold str
            simp)
          have HKW := Lib.hid HK.out
          clear CST hX hx0 hnb HBD HK HS hk
          go_wp2_with fail
          refine CST2.mono ?_
          rintro e w5 ⟨rfl, hb5⟩
          have HK5 : Hid (Kept w w5) := Lib.hid (Below.trans HKW.out (hb5.mono K2.out.size))
          clear hb5 CST2
          go_wp2
          first | go_ret | go_ret2
          exact ⟨by rw [← HXE.out]; rfl, HK5.out⟩
  · rw [if_neg hf] at RF
    have e1 : jLd s j u = ([], 1) := by unfold jLd; rw [if_pos hf]
    obtain rfl : res = ⟨#[]⟩ := by rw [HRES.out, e1]; rfl
    obtain rfl : er = 1 := by rw [HER.out, e1]
    clear RD DN hf e1 HRES HER
    go_enter Tryd.func26, Tryd.ntmps26
    go_wp2_with fail
    refine RF.mono ?_
    rintro e w1 ⟨rfl, hb1⟩
    have K1 := Lib.hid hb1
    clear RF hb1
    go_wp2
    first | go_ret | go_ret2
    exact ⟨rfl, K1.out⟩

end Go.Proofs.YtoigembmbajopaaDoor
namespace Go.Proofs.YtoigembmbajopaaDoor
open Go.RowKit

set_option maxRecDepth 100000 in
theorem fillJ_any (s : ByteArray) (n : Int) (hn : n ≤ 2000000) (w : World) :
    Calls Tryd.prog 102 #[.string s, .int .i64 n] w fun e w' => e = .returned (.string (fillB s n)) ∧ Below w.heap.size w w' := by
  by_cases h : n ≤ s.size
  · have e := fillB_same s n h
    go_enter Tryd.func102, Tryd.ntmps102
    go_wp2
    go_ret
    exact ⟨by first | rfl | (rw [e]; rfl), Below.refl _ _⟩
  · obtain ⟨k, hk⟩ : ∃ k : Nat, n = s.size + k := ⟨(n - s.size).toNat, by omega⟩
    subst hk
    have e : fillB s (s.size + k) = s ++ str (List.replicate k 0) := by
      unfold fillB; congr 3; omega
    have hz : (str (List.replicate k 0)).size = k := by simp [str_size]
    have es : (s.size : Int) + (k : Int) - (s.size : Int) = k := by omega
    have er : (⟨(Lib.repeatL (⟨#[0]⟩ : ByteArray).data.toList k).toArray⟩ : ByteArray) = str (List.replicate k 0) := by
      rw [show (⟨#[0]⟩ : ByteArray).data.toList = [0] from rfl, repeat_zero]; rfl
    go_enter Tryd.func102, Tryd.ntmps102
    go_wp2_with (go_at_call 118; fail)
    refine (Tryd.strings_Repeat _ k _ ?_ ?_).mono ?_
    · omega
    · show 1 * k ≤ _
      omega
    rw [er]
    rintro e' w' ⟨rfl, hb⟩
    go_wp2
    go_ret
    exact ⟨by first | rfl | (rw [e]; rfl), hb⟩

theorem part_fill (L : List UInt8) (n k : Nat) (h : L.length ≤ 128 * n) (hk : k < n) : ((fillL L (128 * n)).drop (128 * k)).take 128 = partB L k := by
  apply List.ext_getElem?
  intro i
  unfold partB fillL
  by_cases hi : i < 128
  · rw [List.getElem?_take, if_pos hi, List.getElem?_drop]
    by_cases hl : 128 * k + i < L.length
    · rw [List.getElem?_append_left hl, List.getElem?_append_left (by rw [List.length_take, List.length_drop]; omega), List.getElem?_take, if_pos hi, List.getElem?_drop]
    · rw [List.getElem?_append_right (by omega), List.getElem?_append_right (by rw [List.length_take, List.length_drop]; omega), List.getElem?_replicate, List.getElem?_replicate, if_pos (by omega), if_pos (by rw [List.length_take, List.length_drop]; omega)]
  · rw [List.getElem?_eq_none (by rw [List.length_take]; omega), List.getElem?_eq_none (by rw [List.length_append, List.length_replicate, List.length_take, List.length_drop]; omega)]
theorem fillB_fill (T : ByteArray) (n : Nat) : fillB T (n : Int) = str (fillL T.data.toList n) := by
  unfold fillB fillL
  have e : ((n : Int) - T.size).toNat = n - T.data.toList.length := by rw [data_len]; omega
  rw [e, ← str_append, str_data]
theorem ButBy.chain {Bs Cs : Nat → Prop} {w w1 w2 : World} (h : ButBy Bs w w1) (k : ButBy Cs w1 w2) (hc : ∀ j, Cs j → Bs j ∨ w.heap.size ≤ j) : ButBy Bs w w2 :=
  ⟨k.os.trans h.os, k.tape.trans h.tape, k.output.trans h.output, Nat.le_trans h.size k.size, fun j hj hn => by
    rw [k.block j (Nat.lt_of_lt_of_le hj h.size) (fun z => by
      rcases hc j z with y | y
      · exact hn y
      · omega)]
    exact h.block j hj hn⟩
theorem wf_nat {n : Nat} (h : n ≤ 4294967296) : (Lit.int .i64 (n : Int)).wf = true := by
  simp [Lit.wf, IntKind.min, IntKind.max, IntKind.signed, IntKind.bits]; omega

set_option maxRecDepth 100000 in
set_option maxHeartbeats 16000000 in
theorem jwrite_any {B : Nat} {x : Value} {P : Dk → (Nat → Prop) → World → Prop} (D : DiskOk B x P) {s : Dk} {Bs : Nat → Prop} {w : World} (hp : P s Bs w) (hok : s.ok) (hlo : s.ops ≤ 4294900000) (hd : s.down = false)
    (f q n : Nat) (t : ByteArray) (hq : q ≤ 128) (hn : n = cntJ (q + t.size)) (hfn : 2 + f + n ≤ s.stands.length) (hf2 : 2 + f < s.stands.length) (F2 : Int) (hF2 : F2 = (2 + f : Nat)) (Q2 : Int) (hQ2 : Q2 = (q : Nat)) :
    Calls Tryd.prog 69 #[x, .int .i64 F2, .int .i64 Q2, .string t] w (DPost P Bs (putG s (secJ f n) ((s.vis (2 + f)).take q ++ t.data.toList) 0 n).1 (.int .i64 (putG s (secJ f n) ((s.vis (2 + f)).take q ++ t.data.toList) 0 n).2) w) := by
  subst hF2 hQ2
  obtain ⟨ad, hx⟩ := D.ptr
  subst hx
  obtain ⟨f2, hf2e⟩ : ∃ f2, f2 = 2 + f := ⟨_, rfl⟩
  rw [← hf2e] at hfn hf2 ⊢
  have hmost := hok.most
  have hrd := Dk.up_read hd f2 hf2
  have hvl := hok.vis_len f2 hf2
  have CR := D.read s Bs w (f2 : Int) hp hok (by omega) (wf_nat (by omega))
  rw [hrd.1, hrd.2] at CR
  obtain ⟨V, hV⟩ : ∃ V, V = str (s.vis f2) := ⟨_, rfl⟩
  rw [← hV] at CR
  have zV : V.size = 128 := by rw [hV, str_size]; exact hvl
  obtain ⟨H, hH⟩ : ∃ H, H = V.extract 0 q := ⟨_, rfl⟩
  have hHs : H = str ((s.vis f2).take q) := by
    rw [hH, hV, Lib.extract_eq]
    unfold str
    simp
  have zH : H.size = q := by rw [hHs, str_size, List.length_take]; omega
  obtain ⟨T, hT⟩ : ∃ T, T = H ++ t := ⟨_, rfl⟩
  have hTl : T.data.toList = (s.vis f2).take q ++ t.data.toList := by
    have e : T = str ((s.vis f2).take q ++ t.data.toList) := by rw [hT, hHs, ← str_append, str_data]
    rw [e, str_list]
  have zT : T.size = q + t.size := by rw [hT, ByteArray.size_append, zH]
  rw [← hTl]
  obtain ⟨R, hR⟩ : ∃ R, R = putG s (secJ f n) T.data.toList 0 n := ⟨_, rfl⟩
  rw [← hR]
  have HF : Hid (R = putG s (secJ f n) T.data.toList 0 n) := Lib.hid hR
  have hby := cntJ_bytes (q + t.size)
  rw [← hn] at hby
  obtain ⟨z, hz⟩ : ∃ z, z = T.size := ⟨_, rfl⟩
  have zTz : T.size = z := hz.symm
  have hzq : z = q + t.size := by rw [hz, zT]
  have CN := fun W => needOk (z : Int) W (by unfold I64; omega)
  rw [need_cnt (by omega), Int.toNat_natCast, hzq, ← hn, ← hzq] at CN
  obtain ⟨m, hm⟩ : ∃ m, m = 128 * n := ⟨_, rfl⟩
  have w1 : IntKind.i64.wrap ((n : Int) * 128) = (m : Int) := by rw [show (n : Int) * 128 = (m : Int) by omega]; exact IntWalk.i64_in _ (by omega)
  have FC := fun W => fillJ_any T (m : Int) (by omega) W
  rw [fillB_fill] at FC
  obtain ⟨T2, hT2⟩ : ∃ T2, T2 = str (fillL T.data.toList m) := ⟨_, rfl⟩
  rw [← hT2] at FC
  have zT2 : T2.size = m := by rw [hT2, str_size]; exact fillL_len _ _ (by rw [data_len]; omega)
  have HT2 : Hid (T2.data.toList = fillL T.data.toList (128 * n)) := Lib.hid (by rw [hT2, str_list, hm])
  have HTL : Hid (T.data.toList.length ≤ 128 * n) := Lib.hid (by rw [data_len]; omega)
  have HNB : Hid (f2 + n ≤ s.stands.length ∧ f2 + n ≤ 8192 ∧ m = 128 * n ∧ f2 = 2 + f) := Lib.hid (by omega)
  have HP := Lib.hid hp
  have HOK := Lib.hid hok
  have HLO := Lib.hid hlo
  have HD := Lib.hid D
  have cH : V.extract 0 q = H := hH.symm
  have cT : H ++ t = T := hT.symm
  have s0 : (0 : Int) ≤ (q : Int) := by omega
  have s1 : (q : Int) ≤ 128 := by omega
  have s2 : ¬ 9223372036854775807 < q + t.size := by omega
  clear hrd hvl hV hH hHs hT hTl zT hR hby hz hT2 hm hn hfn hf2 hf2e hmost hd hok hp hlo D hzq
  go_enter Tryd.func69, Tryd.ntmps69
  go_wp2_with fail
  refine CR.mono ?_
  rintro e w1' ⟨rfl, hb1⟩
  have K1 : Hid (Kept w w1') := Lib.hid hb1
  have CN1 := CN w1'
  clear hb1 CR CN
  go_wp2_with fail
  refine CN1.mono ?_
  rintro e w2' ⟨rfl, hb2⟩
  have K2 : Hid (Kept w w2') := Lib.hid ((show Kept w w1' from K1.out).then hb2)
  have FC2 := FC w2'
  clear hb2 CN1 FC
  go_wp2_with fail
  refine FC2.mono ?_
  rintro e w3' ⟨rfl, hb3⟩
  have K3 : Hid (Kept w w3') := Lib.hid ((show Kept w w2' from K2.out).then hb3)
  have HP3 : Hid (P s Bs w3') := Lib.hid (HD.out.kept HP.out K3.out)
  have HB3 : Hid (ButBy Bs w w3') := Lib.hid (ButBy.below K3.out)
  clear hb3 FC2 cH cT
  go_wp2
  go_loopg [36] n (fun gh s36 wx => ∃ (k : Nat) (sk : Dk) (Ck : Nat → Prop), k + gh = n ∧ s36 = .int .i64 k ∧ Hid (R = putG sk (secJ f n) T.data.toList k gh) ∧ Hid (sk.ok ∧ sk.ops ≤ s.ops + k) ∧ Hid (P sk Ck wx) ∧ Hid (∀ j, Ck j → Bs j ∨ w.heap.size ≤ j) ∧ Hid (ButBy Bs w wx))
  case atStart => exact ⟨0, s, Bs, by omega, rfl, HF, Lib.hid ⟨HOK.out, Nat.le_refl _⟩, HP3, Lib.hid (fun j hj => Or.inl hj), HB3⟩
  case round =>
    clear HP3 HB3 HF
    obtain ⟨k, sk, Ck, hkn, rfl, HG, HSK, HPK, HSB, HBB⟩ := hrel
    by_cases hlt : k < n
    · have hki : (k : Int) < n := by omega
      have bk : decide ((k : Int) < (n : Int)) = true := by simpa using hki
      have hnb := HNB.out
      obtain ⟨m1, hm1⟩ : ∃ m1, m1 = 128 * k := ⟨_, rfl⟩
      have v1 : IntKind.i64.wrap ((k : Int) * 128) = (m1 : Int) := by rw [show (k : Int) * 128 = (m1 : Int) by omega]; exact IntWalk.i64_in _ (by omega)
      obtain ⟨k1, hk1⟩ : ∃ k1, k1 = k + 1 := ⟨_, rfl⟩
      obtain ⟨y, hy⟩ : ∃ y, y = f2 + k := ⟨_, rfl⟩
      have v2 : IntKind.i64.wrap ((k : Int) + 1) = (k1 : Int) := by rw [show (k : Int) + 1 = (k1 : Int) by omega]; exact IntWalk.i64_in _ (by omega)
      have v3 : IntKind.i64.wrap ((f2 : Int) + (k : Int)) = (y : Int) := by rw [show (f2 : Int) + (k : Int) = (y : Int) by omega]; exact IntWalk.i64_in _ (by omega)
      have hgd : (secJ f n).getD k 0 = y := by rw [secJ_at f n k hlt, hy, hnb.2.2.2]
      obtain ⟨P1, hP1⟩ : ∃ P1, P1 = T2.extract m1 m := ⟨_, rfl⟩
      obtain ⟨p1, hp1⟩ : ∃ p1, p1 = m - m1 := ⟨_, rfl⟩
      have zP1 : P1.size = p1 := by rw [hP1, ByteArray.size_extract, zT2]; omega
      obtain ⟨Fk, hFk⟩ : ∃ Fk, Fk = P1.extract 0 128 := ⟨_, rfl⟩
      have hFe : Fk = str (partB T.data.toList k) := by
        rw [hFk, hP1, Lib.extract_eq, Lib.extract_eq, ← part_fill _ n k HTL.out hlt, ← HT2.out]
        unfold str
        simp only [List.drop_zero, Nat.sub_zero]
        rw [hm1]
        congr 2
        apply List.ext_getElem?
        intro i
        by_cases hi : i < 128
        · simp [List.getElem?_take, hi]; omega
        · simp [List.getElem?_take, hi]
      have hFl : Fk.data.toList = partB T.data.toList k := by rw [hFe, str_list]
      have hFz : Fk.size = 128 := by rw [hFe, str_size, partB_len]
      have cP : T2.extract m1 m = P1 := hP1.symm
      have cF : P1.extract 0 128 = Fk := hFk.symm
      have r0 : (0 : Int) ≤ (m1 : Int) := by omega
      have r1 : (m1 : Int) ≤ (m : Int) := by omega
      have r2 : (128 : Int) ≤ (p1 : Int) := by omega
      have CW := HD.out.write sk Ck wr (y : Int) Fk HPK.out HSK.out.1 (by have := HSK.out.2; have := HLO.out; omega) (wf_nat (by omega)) (by rw [hFz]; unfold maxLen; omega)
      rw [hFl] at CW
      obtain ⟨g, rfl⟩ : ∃ g, gk = g + 1 := ⟨gk - 1, by omega⟩
      obtain ⟨er, her⟩ : ∃ er, er = sk.writeE (y : Int) (partB T.data.toList k) := ⟨_, rfl⟩
      obtain ⟨sn, hsn⟩ : ∃ sn, sn = sk.writeS (y : Int) (partB T.data.toList k) := ⟨_, rfl⟩
      have HPG : Hid (R = if er = 0 then putG sn (secJ f n) T.data.toList k1 g else (sn, er)) := Lib.hid (by
        rw [HG.out]
        show (if sk.writeE ((secJ f n).getD k 0 : Nat) (partB T.data.toList k) = 0 then putG (sk.writeS ((secJ f n).getD k 0 : Nat) (partB T.data.toList k)) (secJ f n) T.data.toList (k + 1) g else (sk.writeS ((secJ f n).getD k 0 : Nat) (partB T.data.toList k), sk.writeE ((secJ f n).getD k 0 : Nat) (partB T.data.toList k))) = _
        rw [hgd, ← her, ← hsn, hk1])
      have SK2 : Hid (sn.ok ∧ sn.ops ≤ s.ops + k1) := Lib.hid (by
        have h3 := writeS_ops sk (y : Int) (partB T.data.toList k)
        have h4 := HSK.out.1.write (y : Int) (partB T.data.toList k)
        rw [← hsn] at h3 h4
        exact ⟨h4, by have := HSK.out.2; omega⟩)
      rw [← her, ← hsn] at CW
      have HKK : Hid (k1 = k + 1 ∧ k + (g + 1) = n) := Lib.hid ⟨hk1, hkn⟩
      unfold DPost at CW
      clear hnb hm1 hk1 hy hgd hP1 hFk hFe hFl her hsn HG HSK HPK hp1 hkn
      go_wp2_with fail
      refine CW.mono ?_
      rintro e w4 ⟨rfl, ⟨C4, hp4, hc4⟩, hb4⟩
      have HP4 := Lib.hid hp4
      have HBB4 : Hid (ButBy Bs w w4) := Lib.hid (HBB.out.chain hb4 HSB.out)
      have HSB4 : Hid (∀ j, C4 j → Bs j ∨ w.heap.size ≤ j) := Lib.hid (fun j hj => by
        rcases hc4 j hj with z | z
        · exact HSB.out j z
        · exact Or.inr (Nat.le_trans HBB.out.size z))
      clear CW hp4 hc4 hb4 HSB HBB cP cF zP1 hFz r0 r1 r2
      by_cases he : er = 0
      · subst he
        have HG2 : Hid (R = putG sn (secJ f n) T.data.toList k1 g) := Lib.hid (by rw [HPG.out, if_pos rfl])
        go_wp2
        go_roundg g
        case measure => omega
        case rel => exact ⟨k1, sn, C4, by have := HKK.out; omega, by first | rfl | (congr 1; have := HKK.out; omega), HG2, SK2, HP4, HSB4, HBB4⟩
      · have be : (er != 0) = true := by simpa using he
        have HR2 : Hid (R = (sn, er)) := Lib.hid (by rw [HPG.out, if_neg he])
        clear he
        go_wp2
        first | go_ret | go_ret2
        exact ⟨by rw [HR2.out]; rfl, ⟨C4, by rw [HR2.out]; exact HP4.out, HSB4.out⟩, HBB4.out⟩
    · have hki : ¬ (k : Int) < n := by omega
      have bk : decide ((k : Int) < (n : Int)) = false := by simpa using hki
      have HR2 : Hid (R = (sk, 0)) := Lib.hid (by rw [HG.out, show gk = 0 by omega]; rfl)
      go_wp2
      first | go_ret | go_ret2
      exact ⟨by rw [HR2.out]; rfl, ⟨Ck, by rw [HR2.out]; exact HPK.out, HSB.out⟩, HBB.out⟩

end Go.Proofs.YtoigembmbajopaaDoor
