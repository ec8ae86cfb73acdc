/- The document's Put, Get, Copy. The document's Get, Copy. The document's Copy. '[]byte(s)': a row of bytes of the call's own. Bytes from a block's start on, written in place: '[]byte' of the call's own, however it was made ('make', '[]byte(s)'). The statements' helpers of stage 12: few, text, fill. -/
import Derived.Test.YtppbknlhknadbaaBlR
import Derived.Test.YtppbknlhknadbaaGC
import Derived.Test.YtppbknlhknadbaaGA
import Derived.Deep.RegionHeld
import Derived.Test.YtppbknlhknadbaaGB
import Derived.Test.YtppbknlhknadbaaRows
import Derived.Laws.IdiomStrings
import Derived.Lib.LazyBuf
import Derived.Laws.OwnMore
import Derived.Laws.MakeOwn
import Derived.Laws.AppendOwn
namespace Go.Proofs.Ytppbknlhknadbaa
open Go.RowKit

/-- A call, by its contract. -/
theorem wp_calledB {P : Program} {o : Oper} {a : Act} {w : World} {K : Act → World → Prop} {Q : Exit → Act → World → Prop} (f : FuncId) (args : Array Value)
    (ho : (execOp a.eval o).run P w = .ok (.enter f args) w) (h : Calls P f args w fun e w' => ∃ v, e = .returned v ∧ K (a.put o.dst v) w') : Oper.wp P o a w K Q := by
  unfold Oper.wp
  rw [ho]
  exact h.mono fun e w' ⟨v, he, hk⟩ => by subst he; exact hk

theorem part_is (t : ByteArray) (k e : Nat) (he : e = min t.size (128 * k + 128)) (h : 128 * k ≤ t.size) : rpFill (t.extract (128 * k) e) 128 = str (partB t.data.toList k) := by
  have hl := data_len t
  have hx := Lib.extract_eq t (128 * k) e
  have h2 : (t.data.toList.drop (128 * k)).take (e - 128 * k) = (t.data.toList.drop (128 * k)).take 128 := by
    by_cases hc : 128 * k + 128 ≤ t.size
    · rw [show e - 128 * k = 128 by omega]
    · rw [List.take_of_length_le (by rw [List.length_drop]; omega), List.take_of_length_le (by rw [List.length_drop]; omega)]
  have hx2 : t.extract (128 * k) e = str ((t.data.toList.drop (128 * k)).take 128) := by
    rw [hx]
    unfold str
    congr 2
  rw [hx2]
  unfold rpFill partB fillL
  rw [str_append, str_size]
  congr 3
  omega

set_option maxRecDepth 100000 in
set_option maxHeartbeats 16000000 in
theorem rput12_any {B g : Nat} {s : Dk} {vs vw : Value} {w : World} (h : RAt B g s vs vw w) (hok : s.ok) (hlo : s.ops ≤ 4294900000) (hB : B ≤ w.heap.size) (l : List (Int × Int)) (v : Value) (hr : RunsAt l v w) (hl : l.length ≤ 65536) (t : ByteArray) (ht : t.size ≤ maxLen) :
    Calls Try.prog 40 #[.pointer (some ⟨g, 0, none⟩), v, .string t] w (RPost B g (bPut s l t.data.toList).1 vs vw (.int .i64 (bPut s l t.data.toList).2) w) := by
  have c0 : w.cell? ⟨g, 0, none⟩ = some vs := h.cell 0 _ rfl
  have c4 : w.cell? ⟨g, 4, none⟩ = some (.bool s.down) := h.cell 4 _ rfl
  obtain ⟨ps, cs, hvs, -, -⟩ := own_slice h.st
  have hmost := hok.most
  have hIs : I64 (t.size : Int) := by unfold I64; unfold maxLen at ht; omega
  have CF := rfit12_any l v w hr hl s.stands.length t.size (by unfold I64; omega) hIs
  have CL := fun W (k : Kept w W) => rlist12_any l v W (hr.later k) hl
  have hdl : t.data.toList.length = t.size := data_len t
  obtain ⟨p, c, rfl, -, -⟩ := hr.out
  obtain ⟨nl, hnl⟩ : ∃ nl, nl = l.length := ⟨_, rfl⟩
  rw [← hnl] at CF CL ⊢
  obtain ⟨N, hN⟩ : ∃ N, N = s.stands.length := ⟨_, rfl⟩
  rw [← hN] at CF hvs
  rw [hvs] at c0
  have HN := Lib.hid hN
  have HR := Lib.hid h
  have HOK := Lib.hid hok
  have HLO := Lib.hid hlo
  have HBW := Lib.hid hB
  have HDL := Lib.hid hdl
  obtain ⟨R, hR⟩ : ∃ R, R = bPut s l t.data.toList := ⟨_, rfl⟩
  rw [← hR]
  have HRR := Lib.hid hR
  have HMB : Hid (N ≤ 8192) := Lib.hid (by rw [hN]; exact hmost)
  by_cases hf : fitB l (N : Int) (t.size : Int)
  · rw [decide_eq_true hf] at CF
    obtain ⟨f1, f2, f3, f4, f5⟩ := fitB_list hf
    rw [f1] at CL
    by_cases hd : s.down = true
    · rw [hd] at c4
      have HF : Hid (R = (s, 90)) := Lib.hid (by rw [hR]; unfold bPut; rw [if_neg (by rw [← hN, hdl]; exact not_not_intro hf), if_pos hd])
      clear CL f1 f2 f3 f4 f5 hf hd h hok hlo hB hr hN hR hvs hnl hIs hdl hmost
      go_enter Try.func40, Try.ntmps40
      go_wp2_with fail
      refine CF.mono ?_
      rintro e W1 ⟨rfl, hb⟩
      have hk : Kept w W1 := hb
      have HK := Lib.hid hk
      have d4 := hk.cell c4
      clear hb hk c0 c4 CF
      go_wp2
      go_ret
      refine ⟨by rw [HF.out]; rfl, vs, vw, ?_, fun k hk => Or.inl hk, ButBy.below HK.out⟩
      rw [HF.out]
      exact HR.out.kept HK.out
    · have hd' : s.down = false := by simpa using hd
      rw [hd'] at c4
      obtain ⟨L, hL⟩ : ∃ L, L = allR l := ⟨_, rfl⟩
      rw [← hL] at CL f2 f3 f4 f5
      obtain ⟨n, hn⟩ : ∃ n, n = L.length := ⟨_, rfl⟩
      rw [← hn] at CL f2
      have hby := needN_bytes f2
      have HF : Hid (R = putG s L t.data.toList 0 n) := Lib.hid (by rw [hR]; unfold bPut; rw [if_neg (by rw [← hN, hdl]; exact not_not_intro hf), if_neg hd, ← hL, ← hn])
      have HBY := Lib.hid hby
      have HN2 := Lib.hid hn
      have HF4 := Lib.hid f4
      have hn8 : n ≤ 8192 := by
        have := hby.2
        have h1 := hf.2.2.1
        have h2 := cntA_le (hasR l)
        have h3 := hf.2.2.2
        omega
      have HN8 := Lib.hid hn8
      clear f1 f2 f3 f4 f5 hf hd hd' h hok hlo hB hr hN hR hvs hnl hIs hdl hmost hL hn hby hn8
      go_enter Try.func40, Try.ntmps40
      go_wp2_with fail
      refine CF.mono ?_
      rintro e W1 ⟨rfl, hb⟩
      have hk : Kept w W1 := hb
      have HK1 := Lib.hid hk
      have d4 := hk.cell c4
      have CL1 := CL W1 hk
      clear hb hk c0 c4 CF CL
      go_wp2_with fail
      refine CL1.mono ?_
      rintro e W2 ⟨⟨x, rfl, hx⟩, hb⟩
      obtain ⟨px, cx, hvx, hncx, hcellx⟩ := own_slice hx
      have hk2 : Kept W1 W2 := hb
      have HBX : Hid (∀ m, x.ownBlock = some m → w.heap.size ≤ m) := Lib.hid (fun m hm => Nat.le_trans (show Kept w W1 from HK1.out).size (hx.lt m hm).1)
      have HX0 : Hid (W2.ownsRow W1.heap.size 3 1 x n (intC L)) := Lib.hid hx
      have HR0 : Hid (RAt B g s vs vw W2) := Lib.hid ((HR.out.kept HK1.out).kept hk2)
      have HK2 : Hid (Kept w W2) := Lib.hid ((show Kept w W1 from HK1.out).then hk2)
      have HG0 : Hid (R = putG s L t.data.toList (0) n) := HF
      subst hvx
      clear hb hk2 hx hncx hcellx CL1 d4 HK1 HF
      go_wp2
      go_loopg [8] n (fun gh s8 wx => ∃ (k : Nat) (sk : Dk) (vk wk : Value), k + gh = n ∧ s8 = .int .i64 k ∧ Hid (R = putG sk L t.data.toList k gh) ∧ Hid (sk.ok ∧ sk.ops ≤ s.ops + k ∧ sk.stands = s.stands) ∧ Hid (RAt B g sk vk wk wx) ∧ Hid (∀ j, RBs g vk wk j → RBs g vs vw j ∨ w.heap.size ≤ j) ∧ Hid (ButBy (fun j => j = g) w wx) ∧ Hid (wx.ownsRow W1.heap.size 3 1 (.slice px n cx) n (intC L)))
      case atStart => exact ⟨0, s, vs, vw, by omega, rfl, HG0, Lib.hid ⟨HOK.out, Nat.le_refl _, rfl⟩, HR0, Lib.hid (fun j hj => Or.inl hj), Lib.hid (ButBy.below HK2.out), HX0⟩
      case round =>
        clear HG0 HR0 HX0
        obtain ⟨k, sk, vk, wk, hkn, rfl, HG, HSK, HRK, HSB, HBB, HX⟩ := hrel
        by_cases hlt : k < n
        · have hki : (k : Int) < n := by omega
          have bk : decide ((k : Int) < (n : Int)) = true := by simpa using hki
          have hki0 : (0 : Int) ≤ k := by omega
          have hby := HBY.out
          have hn8 := HN8.out
          obtain ⟨m1, hm1⟩ : ∃ m1, m1 = 128 * k := ⟨_, rfl⟩
          obtain ⟨m2, hm2⟩ : ∃ m2, m2 = m1 + 128 := ⟨_, rfl⟩
          obtain ⟨k1, hk1⟩ : ∃ k1, k1 = k + 1 := ⟨_, rfl⟩
          have w1 : IntKind.i64.wrap ((k : Int) * 128) = (m1 : Int) := by rw [show (k : Int) * 128 = (m1 : Int) by omega]; exact IntWalk.i64_in _ (by omega)
          have w2 : IntKind.i64.wrap ((m1 : Int) + 128) = (m2 : Int) := by rw [show (m1 : Int) + 128 = (m2 : Int) by omega]; exact IntWalk.i64_in _ (by omega)
          have w3 : IntKind.i64.wrap ((k : Int) + 1) = (k1 : Int) := by rw [show (k : Int) + 1 = (k1 : Int) by omega]; exact IntWalk.i64_in _ (by omega)
          obtain ⟨px', cx', hvx, hncx, hcellx⟩ := own_slice HX.out
          have hLk : k < L.length := by rw [← HN2.out]; exact hlt
          have hLg := intC_get L k hLk
          rcases hcellx with h0 | ⟨bi, hpi, hbi, hci⟩
          · omega
          simp only [Value.slice.injEq] at hvx
          obtain ⟨rfl, -, -⟩ := hvx
          subst hpi
          have q0 := hci k _ hLg
          obtain ⟨y, hy⟩ : ∃ y, y = L[k] := ⟨_, rfl⟩
          rw [← hy] at q0
          have hgd : L.getD k 0 = y := by rw [List.getD_eq_getElem?_getD, List.getElem?_eq_getElem hLk, hy]; rfl
          have hyb := HF4.out _ (List.getElem_mem hLk)
          rw [← hy] at hyb
          obtain ⟨hi, hhi⟩ : ∃ hi, hi = min t.size m2 := ⟨_, rfl⟩
          have hmin : ((m2 : Int) < t.size ∧ hi = m2) ∨ (¬ (m2 : Int) < t.size ∧ hi = t.size) := by omega
          have hpart := part_is t k hi (by rw [hhi, hm2, hm1]) (by omega)
          rw [← hm1] at hpart
          obtain ⟨P, hP⟩ : ∃ P, P = t.extract m1 hi := ⟨_, rfl⟩
          rw [← hP] at hpart
          have hPe : t.extract m1 hi = P := hP.symm
          obtain ⟨F, hF⟩ : ∃ F, F = str (partB t.data.toList k) := ⟨_, rfl⟩
          rw [← hF] at hpart
          have HPT := Lib.hid hpart
          have HFL : Hid (F.data.toList = partB t.data.toList k) := Lib.hid (by rw [hF, str_list])
          have HGD := Lib.hid hgd
          have HXB : Hid (bi ≠ g) := Lib.hid (by have := HBX.out bi rfl; have := (HR.out.lt g (Or.inl rfl)).2; omega)
          have b1 : (m1 : Int) ≤ t.size := by omega
          have b2 : (m1 : Int) ≤ hi := by omega
          have b3 : (hi : Int) ≤ t.size := by omega
          have b0 : (0 : Int) ≤ m1 := by omega
          have b4 : (0 : Int) ≤ hi := by omega
          have HK1 := Lib.hid hk1
          clear hm1 hm2 hncx hci hLg hgd hyb hhi hpart hP hF hby hy hLk
          rcases hmin with ⟨hq, rfl⟩ | ⟨hq, rfl⟩
          · have hdr : Kept wr wr.drew := (Below.refl _ _).drew
            have R0 : Hid (RAt B g sk vk wk wr.drew) := Lib.hid (HRK.out.kept hdr)
            have X0 : Hid (wr.drew.ownsRow W1.heap.size 3 1 (.slice (some ⟨bi, 0, none⟩) n cx) n (intC L)) := Lib.hid (own_stay HX.out (fun _ _ => rfl))
            have BB0 : Hid (ButBy (fun j => j = g) w wr.drew) := Lib.hid (HBB.out.then_kept hdr)
            have q1 : wr.drew.cell? ⟨bi, k, none⟩ = some (.int .i64 (y : Int)) := q0
            have HQ1 := Lib.hid q1
            clear hdr q1
            go_wp2
            refine wp_region_held_drew (S := fun w' => w'.cell? ⟨bi, k, none⟩ = some (.int .i64 (y : Int))) (by kernel_rfl) (HQ1.out) (fun hHeld => ?_)
            refine wpAnyH_take (i := 0) (v := ?_) rfl (by kernel_rfl) (by kernel_rfl) (by kernel_rfl) (fun _ _ _ h => h) (Or.inl ⟨by first | kernel_rfl | rfl, ?_⟩) (by assumption) ?_
            case refine_2 => intro w hSw; go_simp; try with_reducible rfl
            refine wpAnyH_take (i := 1) (v := ?_) rfl (by kernel_rfl) (by kernel_rfl) (by kernel_rfl) (fun _ _ _ h => h) (Or.inl ⟨by first | kernel_rfl | rfl, ?_⟩) (by assumption) ?_
            case refine_2 => intro w hSw; go_simp; try with_reducible rfl
            refine wpAnyH_take (i := 2) (v := ?_) rfl (by kernel_rfl) (by kernel_rfl) (by kernel_rfl) (fun _ _ _ h => h) (Or.inl ⟨by first | kernel_rfl | rfl, ?_⟩) (by assumption) ?_
            case refine_2 => intro w hSw; go_simp; try with_reducible rfl
            refine wpAnyH_take (i := 3) (v := ?_) rfl (by kernel_rfl) (by kernel_rfl) (by kernel_rfl) (fun _ _ _ h => h) (Or.inl ⟨by first | kernel_rfl | rfl, ?_⟩) (by assumption) ?_
            case refine_2 => intro w hSw; go_simp; try with_reducible rfl
            refine wpAnyH_take (i := 4) (v := ?_) rfl (by kernel_rfl) (by kernel_rfl) (by kernel_rfl) (fun _ _ _ h => h) (Or.inl ⟨by first | kernel_rfl | rfl, ?_⟩) (by assumption) ?_
            case refine_2 => intro w hSw; go_simp; try with_reducible rfl
            refine wpAnyH_take (i := 5) (v := ?_) rfl (by kernel_rfl) (by kernel_rfl) (by kernel_rfl) (fun _ _ _ h => h) (Or.inl ⟨by first | kernel_rfl | rfl, ?_⟩) (by assumption) ?_
            case refine_2 => intro w hSw; go_simp; try with_reducible rfl
            refine wpAnyH_ready (rs := [6]) (by kernel_rfl) (by simp) (AllReadyH.cons rfl (fun K hK => ?_) AllReadyH.nil)
            rw [if_pos (by kernel_rfl)]
            refine wp_calledB 67 #[.string P, .int .i64 128] (by first | kernel_rfl | rfl) ((rpfill0_any P 128 (by omega) _).mono ?_)
            rintro e u1 ⟨rfl, hb⟩
            rw [HPT.out]
            have hku : Kept wr.drew u1 := hb
            have R1 := Lib.hid (R0.out.kept hku)
            have X1 : Hid (u1.ownsRow W1.heap.size 3 1 (.slice (some ⟨bi, 0, none⟩) n cx) n (intC L)) := Lib.hid (own_stay X0.out (fun m hm => hku.block m (X0.out.lt m hm).2))
            have BB1 := Lib.hid (BB0.out.then_kept hku)
            have HQ2 := Lib.hid (hku.cell HQ1.out)
            clear hb hku R0 X0 BB0
            refine ⟨_, rfl, ?_⟩
            refine hK.out _ _ HQ2.out (fun _ => ?_)
            clear hK K
            refine wpAnyH_ready (rs := [7]) (by kernel_rfl) (by simp) (AllReadyH.cons rfl (fun K hK => ?_) AllReadyH.nil)
            rw [if_pos (by kernel_rfl)]
            refine wp_calledB 66 #[.pointer (some ⟨g, 0, none⟩), .int .i64 (y : Int), .string F] (by first | kernel_rfl | rfl) ((rwrite_any R1.out HSK.out.1 (by have := HSK.out.2.1; have := HLO.out; omega) (Nat.le_trans HBW.out BB1.out.size) (y : Int) F).mono ?_)
            rintro e u2 ⟨rfl, vk2, wk2, hr2, hs2, hb2⟩
            rw [HFL.out] at hr2 ⊢
            have R2 := Lib.hid hr2
            have X2 : Hid (u2.ownsRow W1.heap.size 3 1 (.slice (some ⟨bi, 0, none⟩) n cx) n (intC L)) := Lib.hid (own_stay X1.out (fun m hm => hb2.block m (X1.out.lt m hm).2 (fun e => HXB.out (by simp only [Value.ownBlock, Option.some.injEq] at hm; rw [hm]; exact e))))
            have BB2 := Lib.hid (BB1.out.trans hb2)
            have S2 : Hid (∀ j, RBs g vk2 wk2 j → RBs g vs vw j ∨ w.heap.size ≤ j) := Lib.hid (fun j hj => by
              rcases hs2 j hj with z | z
              · exact HSB.out j z
              · exact Or.inr (Nat.le_trans BB1.out.size z))
            have HQ3 : Hid (u2.cell? ⟨bi, k, none⟩ = some (.int .i64 (y : Int))) := Lib.hid (by
              have hlt := World.block_lt_of_cell? _ _ HQ2.out
              rw [World.cell?_of_block (a := ⟨bi, k, none⟩) (hb2.block bi hlt HXB.out)]
              exact HQ2.out)
            have SK2 : Hid ((sk.writeS (y : Int) (partB t.data.toList k)).ok ∧ (sk.writeS (y : Int) (partB t.data.toList k)).ops ≤ s.ops + k1 ∧ (sk.writeS (y : Int) (partB t.data.toList k)).stands = s.stands) := Lib.hid ⟨HSK.out.1.write _ _, by have := HSK.out.2.1; have h3 := writeS_ops sk (y : Int) (partB t.data.toList k); have := HK1.out; omega, by rw [writeS_stands]; exact HSK.out.2.2⟩
            clear hr2 hs2 hb2 R1 X1 BB1 HQ1 HQ2
            obtain ⟨er, her⟩ : ∃ er, er = sk.writeE (y : Int) (partB t.data.toList k) := ⟨_, rfl⟩
            rw [← her]
            have HER := Lib.hid her
            clear her
            refine ⟨_, rfl, ?_⟩
            refine hK.out _ _ HQ3.out (fun _ => ?_)
            clear hK K
            refine wpAnyH_take (i := 8) (v := ?_) rfl (by kernel_rfl) (by kernel_rfl) (by kernel_rfl) (fun _ _ _ h => h) (Or.inl ⟨by first | kernel_rfl | rfl, ?_⟩) (by assumption) ?_
            case refine_2 => intro w hSw; go_simp; try with_reducible rfl
            refine wpAnyH_done (by kernel_rfl) ?_ _
            go_simp
            obtain ⟨gg, hgg⟩ : ∃ gg, n - k = gg + 1 := ⟨n - k - 1, by omega⟩
            have hgk : gk = gg + 1 := by omega
            have HPG : Hid (R = if er = 0 then putG (sk.writeS (y : Int) (partB t.data.toList k)) L t.data.toList k1 gg else (sk.writeS (y : Int) (partB t.data.toList k), er)) := Lib.hid (by
              rw [HG.out, hgk]
              show (if sk.writeE (L.getD k 0 : Nat) (partB t.data.toList k) = 0 then putG (sk.writeS (L.getD k 0 : Nat) (partB t.data.toList k)) L t.data.toList (k + 1) gg else (sk.writeS (L.getD k 0 : Nat) (partB t.data.toList k), sk.writeE (L.getD k 0 : Nat) (partB t.data.toList k))) = _
              rw [HGD.out, ← HER.out, ← HK1.out])
            have HGG : Hid (k1 + gg = n) := Lib.hid (by have := HK1.out; omega)
            clear hgk hgg
            by_cases he : er = 0
            · subst he
              have HG2 : Hid (R = putG (sk.writeS (y : Int) (partB t.data.toList k)) L t.data.toList k1 gg) := Lib.hid (by rw [HPG.out, if_pos rfl])
              go_wp2
              go_roundg gg
              case measure => have := HK1.out; have := HGG.out; omega
              case rel => exact ⟨k1, _, vk2, wk2, HGG.out, by first | rfl | (congr 1; have := HK1.out; omega), HG2, SK2, R2, S2, BB2, X2⟩
            · have be : (er != 0) = true := by simpa using he
              have HF : Hid (R = (sk.writeS (y : Int) (partB t.data.toList k), er)) := Lib.hid (by rw [HPG.out, if_neg he])
              clear he
              go_wp2
              go_ret
              refine ⟨by rw [HF.out]; rfl, vk2, wk2, ?_, S2.out, BB2.out⟩
              rw [HF.out]
              exact R2.out

          · have hdr : Kept wr wr.drew := (Below.refl _ _).drew
            have R0 : Hid (RAt B g sk vk wk wr.drew) := Lib.hid (HRK.out.kept hdr)
            have X0 : Hid (wr.drew.ownsRow W1.heap.size 3 1 (.slice (some ⟨bi, 0, none⟩) n cx) n (intC L)) := Lib.hid (own_stay HX.out (fun _ _ => rfl))
            have BB0 : Hid (ButBy (fun j => j = g) w wr.drew) := Lib.hid (HBB.out.then_kept hdr)
            have q1 : wr.drew.cell? ⟨bi, k, none⟩ = some (.int .i64 (y : Int)) := q0
            have HQ1 := Lib.hid q1
            clear hdr q1
            go_wp2
            refine wp_region_held_drew (S := fun w' => w'.cell? ⟨bi, k, none⟩ = some (.int .i64 (y : Int))) (by kernel_rfl) (HQ1.out) (fun hHeld => ?_)
            refine wpAnyH_take (i := 0) (v := ?_) rfl (by kernel_rfl) (by kernel_rfl) (by kernel_rfl) (fun _ _ _ h => h) (Or.inl ⟨by first | kernel_rfl | rfl, ?_⟩) (by assumption) ?_
            case refine_2 => intro w hSw; go_simp; try with_reducible rfl
            refine wpAnyH_take (i := 1) (v := ?_) rfl (by kernel_rfl) (by kernel_rfl) (by kernel_rfl) (fun _ _ _ h => h) (Or.inl ⟨by first | kernel_rfl | rfl, ?_⟩) (by assumption) ?_
            case refine_2 => intro w hSw; go_simp; try with_reducible rfl
            refine wpAnyH_take (i := 2) (v := ?_) rfl (by kernel_rfl) (by kernel_rfl) (by kernel_rfl) (fun _ _ _ h => h) (Or.inl ⟨by first | kernel_rfl | rfl, ?_⟩) (by assumption) ?_
            case refine_2 => intro w hSw; go_simp; try with_reducible rfl
            refine wpAnyH_take (i := 3) (v := ?_) rfl (by kernel_rfl) (by kernel_rfl) (by kernel_rfl) (fun _ _ _ h => h) (Or.inl ⟨by first | kernel_rfl | rfl, ?_⟩) (by assumption) ?_
            case refine_2 => intro w hSw; go_simp; try with_reducible rfl
            refine wpAnyH_take (i := 4) (v := ?_) rfl (by kernel_rfl) (by kernel_rfl) (by kernel_rfl) (fun _ _ _ h => h) (Or.inl ⟨by first | kernel_rfl | rfl, ?_⟩) (by assumption) ?_
            case refine_2 => intro w hSw; go_simp; try with_reducible rfl
            refine wpAnyH_take (i := 5) (v := ?_) rfl (by kernel_rfl) (by kernel_rfl) (by kernel_rfl) (fun _ _ _ h => h) (Or.inl ⟨by first | kernel_rfl | rfl, ?_⟩) (by assumption) ?_
            case refine_2 => intro w hSw; go_simp; try with_reducible rfl
            refine wpAnyH_ready (rs := [6]) (by kernel_rfl) (by simp) (AllReadyH.cons rfl (fun K hK => ?_) AllReadyH.nil)
            rw [if_pos (by kernel_rfl)]
            refine wp_calledB 67 #[.string P, .int .i64 128] (by first | kernel_rfl | rfl) ((rpfill0_any P 128 (by omega) _).mono ?_)
            rintro e u1 ⟨rfl, hb⟩
            rw [HPT.out]
            have hku : Kept wr.drew u1 := hb
            have R1 := Lib.hid (R0.out.kept hku)
            have X1 : Hid (u1.ownsRow W1.heap.size 3 1 (.slice (some ⟨bi, 0, none⟩) n cx) n (intC L)) := Lib.hid (own_stay X0.out (fun m hm => hku.block m (X0.out.lt m hm).2))
            have BB1 := Lib.hid (BB0.out.then_kept hku)
            have HQ2 := Lib.hid (hku.cell HQ1.out)
            clear hb hku R0 X0 BB0
            refine ⟨_, rfl, ?_⟩
            refine hK.out _ _ HQ2.out (fun _ => ?_)
            clear hK K
            refine wpAnyH_ready (rs := [7]) (by kernel_rfl) (by simp) (AllReadyH.cons rfl (fun K hK => ?_) AllReadyH.nil)
            rw [if_pos (by kernel_rfl)]
            refine wp_calledB 66 #[.pointer (some ⟨g, 0, none⟩), .int .i64 (y : Int), .string F] (by first | kernel_rfl | rfl) ((rwrite_any R1.out HSK.out.1 (by have := HSK.out.2.1; have := HLO.out; omega) (Nat.le_trans HBW.out BB1.out.size) (y : Int) F).mono ?_)
            rintro e u2 ⟨rfl, vk2, wk2, hr2, hs2, hb2⟩
            rw [HFL.out] at hr2 ⊢
            have R2 := Lib.hid hr2
            have X2 : Hid (u2.ownsRow W1.heap.size 3 1 (.slice (some ⟨bi, 0, none⟩) n cx) n (intC L)) := Lib.hid (own_stay X1.out (fun m hm => hb2.block m (X1.out.lt m hm).2 (fun e => HXB.out (by simp only [Value.ownBlock, Option.some.injEq] at hm; rw [hm]; exact e))))
            have BB2 := Lib.hid (BB1.out.trans hb2)
            have S2 : Hid (∀ j, RBs g vk2 wk2 j → RBs g vs vw j ∨ w.heap.size ≤ j) := Lib.hid (fun j hj => by
              rcases hs2 j hj with z | z
              · exact HSB.out j z
              · exact Or.inr (Nat.le_trans BB1.out.size z))
            have HQ3 : Hid (u2.cell? ⟨bi, k, none⟩ = some (.int .i64 (y : Int))) := Lib.hid (by
              have hlt := World.block_lt_of_cell? _ _ HQ2.out
              rw [World.cell?_of_block (a := ⟨bi, k, none⟩) (hb2.block bi hlt HXB.out)]
              exact HQ2.out)
            have SK2 : Hid ((sk.writeS (y : Int) (partB t.data.toList k)).ok ∧ (sk.writeS (y : Int) (partB t.data.toList k)).ops ≤ s.ops + k1 ∧ (sk.writeS (y : Int) (partB t.data.toList k)).stands = s.stands) := Lib.hid ⟨HSK.out.1.write _ _, by have := HSK.out.2.1; have h3 := writeS_ops sk (y : Int) (partB t.data.toList k); have := HK1.out; omega, by rw [writeS_stands]; exact HSK.out.2.2⟩
            clear hr2 hs2 hb2 R1 X1 BB1 HQ1 HQ2
            obtain ⟨er, her⟩ : ∃ er, er = sk.writeE (y : Int) (partB t.data.toList k) := ⟨_, rfl⟩
            rw [← her]
            have HER := Lib.hid her
            clear her
            refine ⟨_, rfl, ?_⟩
            refine hK.out _ _ HQ3.out (fun _ => ?_)
            clear hK K
            refine wpAnyH_take (i := 8) (v := ?_) rfl (by kernel_rfl) (by kernel_rfl) (by kernel_rfl) (fun _ _ _ h => h) (Or.inl ⟨by first | kernel_rfl | rfl, ?_⟩) (by assumption) ?_
            case refine_2 => intro w hSw; go_simp; try with_reducible rfl
            refine wpAnyH_done (by kernel_rfl) ?_ _
            go_simp
            obtain ⟨gg, hgg⟩ : ∃ gg, n - k = gg + 1 := ⟨n - k - 1, by omega⟩
            have hgk : gk = gg + 1 := by omega
            have HPG : Hid (R = if er = 0 then putG (sk.writeS (y : Int) (partB t.data.toList k)) L t.data.toList k1 gg else (sk.writeS (y : Int) (partB t.data.toList k), er)) := Lib.hid (by
              rw [HG.out, hgk]
              show (if sk.writeE (L.getD k 0 : Nat) (partB t.data.toList k) = 0 then putG (sk.writeS (L.getD k 0 : Nat) (partB t.data.toList k)) L t.data.toList (k + 1) gg else (sk.writeS (L.getD k 0 : Nat) (partB t.data.toList k), sk.writeE (L.getD k 0 : Nat) (partB t.data.toList k))) = _
              rw [HGD.out, ← HER.out, ← HK1.out])
            have HGG : Hid (k1 + gg = n) := Lib.hid (by have := HK1.out; omega)
            clear hgk hgg
            by_cases he : er = 0
            · subst he
              have HG2 : Hid (R = putG (sk.writeS (y : Int) (partB t.data.toList k)) L t.data.toList k1 gg) := Lib.hid (by rw [HPG.out, if_pos rfl])
              go_wp2
              go_roundg gg
              case measure => have := HK1.out; have := HGG.out; omega
              case rel => exact ⟨k1, _, vk2, wk2, HGG.out, by first | rfl | (congr 1; have := HK1.out; omega), HG2, SK2, R2, S2, BB2, X2⟩
            · have be : (er != 0) = true := by simpa using he
              have HF : Hid (R = (sk.writeS (y : Int) (partB t.data.toList k), er)) := Lib.hid (by rw [HPG.out, if_neg he])
              clear he
              go_wp2
              go_ret
              refine ⟨by rw [HF.out]; rfl, vk2, wk2, ?_, S2.out, BB2.out⟩
              rw [HF.out]
              exact R2.out

        · have hki : ¬ (k : Int) < n := by omega
          have bk : decide ((k : Int) < (n : Int)) = false := by simpa using hki
          have hg0 : gk = 0 := by omega
          have HF : Hid (R = (sk, 0)) := Lib.hid (by rw [HG.out, hg0]; rfl)
          clear hg0
          go_wp2
          go_ret
          refine ⟨by rw [HF.out]; rfl, vk, wk, ?_, HSB.out, HBB.out⟩
          rw [HF.out]
          exact HRK.out
  · rw [decide_eq_false hf] at CF
    have HF : Hid (R = (s, 1)) := Lib.hid (by rw [hR]; unfold bPut; rw [if_pos (by rw [← hN, hdl]; exact hf)])
    clear CL hf h hok hlo hB hr hN hR hvs hnl hIs hdl hmost c4
    go_enter Try.func40, Try.ntmps40
    go_wp2_with fail
    refine CF.mono ?_
    rintro e W1 ⟨rfl, hb⟩
    have HK : Hid (Kept w W1) := Lib.hid hb
    clear hb c0 CF
    go_wp2
    go_ret
    refine ⟨by rw [HF.out]; rfl, vs, vw, ?_, fun k hk => Or.inl hk, ButBy.below HK.out⟩
    rw [HF.out]
    exact HR.out.kept HK.out

end Go.Proofs.Ytppbknlhknadbaa
namespace Go.Proofs.Ytppbknlhknadbaa
open Go.RowKit

theorem visK_len (i : Nat) : ∀ (ws : List (Nat × List UInt8)) (t : List UInt8), t.length = 128 → (∀ p ∈ ws, p.2.length = 128) → (visK i t ws).length = 128
  | [], t, h, _ => h
  | p :: ws, t, h, hw => by
    show (visK i (if p.1 = i then p.2 else t) ws).length = 128
    refine visK_len i ws _ ?_ (fun q hq => hw q (List.mem_cons_of_mem _ hq))
    split
    · exact hw p (List.mem_cons_self ..)
    · exact h
theorem Dk.ok.vis_len {s : Dk} (h : s.ok) (i : Nat) (hi : i < s.stands.length) : (s.vis i).length = 128 := by
  unfold Dk.vis
  refine visK_len i _ _ ?_ (fun p hp => (h.wait p hp).2)
  rw [List.getD_eq_getElem?_getD, List.getElem?_eq_getElem hi]
  exact h.sect _ (List.getElem_mem hi)
theorem flat_vis_len {s : Dk} (h : s.ok) : ∀ (L : List Nat), (∀ k ∈ L, k < s.stands.length) → (L.flatMap s.vis).length = 128 * L.length
  | [], _ => rfl
  | k :: L, hk => by
    rw [List.flatMap_cons, List.length_append, h.vis_len k (hk k (List.mem_cons_self ..)), flat_vis_len h L (fun j hj => hk j (List.mem_cons_of_mem _ hj)), List.length_cons]
    omega
theorem bGet_len {s : Dk} (h : s.ok) (l : List (Int × Int)) (size : Int) : (bGet s l size).1.length ≤ 1048576 := by
  unfold bGet
  split
  · exact Nat.zero_le _
  · next hf =>
    split
    · exact Nat.zero_le _
    · have hf' := Decidable.not_not.1 hf
      obtain ⟨f1, f2, f3, f4, f5⟩ := fitB_list hf'
      have h2 := cntA_le (hasR l)
      have h3 := hf'.2.2.2
      have h4 := flat_vis_len h (allR l) (fun k hk => by have := (f4 k hk).1; omega)
      show (((allR l).flatMap s.vis).take size.toNat).length ≤ _
      rw [List.length_take]
      omega

set_option maxRecDepth 100000 in
set_option maxHeartbeats 8000000 in
theorem rget12_any {B g : Nat} {s : Dk} {vs vw : Value} {w : World} (h : RAt B g s vs vw w) (hok : s.ok) (hlo : s.ops ≤ 4294967296) (l : List (Int × Int)) (v : Value) (hr : RunsAt l v w) (hl : l.length ≤ 65536) (size : Int) (hs : I64 size) :
    Calls Try.prog 41 #[.pointer (some ⟨g, 0, none⟩), v, .int .i64 size] w fun e w' => e = .returned (.tuple #[.string (str (bGet s l size).1), .int .i64 (bGet s l size).2]) ∧ Below w.heap.size w w' := by
  have c0 : w.cell? ⟨g, 0, none⟩ = some vs := h.cell 0 _ rfl
  have c4 : w.cell? ⟨g, 4, none⟩ = some (.bool s.down) := h.cell 4 _ rfl
  obtain ⟨ps, cs, hvs, -, -⟩ := own_slice h.st
  have hmost := hok.most
  have CF := rfit12_any l v w hr hl s.stands.length size (by unfold I64; omega) hs
  have CL := fun W (k : Kept w W) => rlist12_any l v W (hr.later k) hl
  obtain ⟨p, c, rfl, -, -⟩ := hr.out
  obtain ⟨nl, hnl⟩ : ∃ nl, nl = l.length := ⟨_, rfl⟩
  rw [← hnl] at CF CL ⊢
  obtain ⟨N, hN⟩ : ∃ N, N = s.stands.length := ⟨_, rfl⟩
  rw [← hN] at CF hvs
  rw [hvs] at c0
  have HN := Lib.hid hN
  have HR := Lib.hid h
  have HOK := Lib.hid hok
  have HLO := Lib.hid hlo
  obtain ⟨R, hR⟩ : ∃ R, R = bGet s l size := ⟨_, rfl⟩
  rw [← hR]
  by_cases hf : fitB l (N : Int) size
  · rw [decide_eq_true hf] at CF
    obtain ⟨f1, f2, f3, f4, f5⟩ := fitB_list hf
    rw [f1] at CL
    by_cases hd : s.down = true
    · rw [hd] at c4
      have HF : Hid (R = ([], 90)) := Lib.hid (by rw [hR]; unfold bGet; rw [if_neg (by rw [← hN]; exact not_not_intro hf), if_pos hd])
      clear CL f1 f2 f3 f4 f5 hf hd h hok hlo hr hN hR hvs hnl hmost hs
      go_enter Try.func41, Try.ntmps41
      go_wp2_with fail
      refine CF.mono ?_
      rintro e W1 ⟨rfl, hb⟩
      have hk : Kept w W1 := hb
      have HK := Lib.hid hk
      have d4 := hk.cell c4
      clear hb hk c0 c4 CF
      go_wp2
      go_ret2
      exact ⟨by rw [HF.out]; rfl, HK.out⟩
    · have hd' : s.down = false := by simpa using hd
      rw [hd'] at c4
      obtain ⟨L, hL⟩ : ∃ L, L = allR l := ⟨_, rfl⟩
      rw [← hL] at CL f2 f3 f4 f5
      obtain ⟨n, hn⟩ : ∃ n, n = L.length := ⟨_, rfl⟩
      rw [← hn] at CL f2
      have hn8 : n ≤ 8192 := by
        have h2 := cntA_le (hasR l)
        have h3 := hf.2.2.2
        omega
      obtain ⟨zn, rfl⟩ : ∃ zn : Nat, size = zn := ⟨size.toNat, by have := hf.1; omega⟩
      have hby := needN_bytes f2
      have hin : ∀ k ∈ L, k < s.stands.length := fun k hk => by have := (f4 k hk).1; omega
      have HIN := Lib.hid hin
      have HF : Hid (R = ((L.flatMap s.vis).take zn, 0)) := Lib.hid (by rw [hR]; unfold bGet; rw [if_neg (by rw [← hN]; exact not_not_intro hf), if_neg hd, ← hL, Int.toNat_natCast])
      have HBY := Lib.hid hby
      have HN2 := Lib.hid hn
      have HN8 := Lib.hid hn8
      have HDN := Lib.hid hd'
      have HRD : Hid (∀ k ∈ L, s.readT (k : Int) = s.vis k ∧ s.readE (k : Int) = 0) := Lib.hid (fun k hk => by
        have h1 := hin k hk
        have ho : ¬ s.out (k : Int) := by unfold Dk.out; omega
        refine ⟨?_, ?_⟩
        · unfold Dk.readT; rw [if_neg (by rw [hd']; simp; exact ho), Int.toNat_natCast]
        · unfold Dk.readE; rw [if_neg hd, if_neg ho])
      clear f1 f2 f3 f4 f5 hf hd hd' h hok hlo hr hN hR hvs hnl hmost hL hn hby hn8 hin hs
      go_enter Try.func41, Try.ntmps41
      go_wp2_with fail
      refine CF.mono ?_
      rintro e W1 ⟨rfl, hb⟩
      have hk : Kept w W1 := hb
      have HK1 := Lib.hid hk
      have d4 := hk.cell c4
      have CL1 := CL W1 hk
      clear hb hk c0 c4 CF CL
      go_wp2_with fail
      refine CL1.mono ?_
      rintro e W2 ⟨⟨x, rfl, hx⟩, hb⟩
      obtain ⟨px, cx, hvx, hncx, hcellx⟩ := own_slice hx
      have hk2 : Kept W1 W2 := hb
      have HK2 : Hid (Kept w W2) := Lib.hid ((show Kept w W1 from HK1.out).then hk2)
      have HR0 : Hid (RAt B g s vs vw W2) := Lib.hid (HR.out.kept HK2.out)
      have HCX := Lib.hid hcellx
      have X0 : Hid ((⟨#[]⟩ : ByteArray) = str ((L.take 0).flatMap s.vis)) := Lib.hid rfl
      subst hvx
      clear hb hk2 hx hncx hcellx CL1 d4 HK1
      go_wp2
      go_loopg [8, 10] n (fun gh s8 s10 wx => ∃ (k : Nat) (X : ByteArray), k + gh = n ∧ s8 = .string X ∧ s10 = .int .i64 k ∧ Hid (X = str ((L.take k).flatMap s.vis)) ∧ Hid (X.size = 128 * k) ∧ W2 = wx)
      case atStart => exact ⟨0, _, by omega, rfl, rfl, X0, Lib.hid rfl, rfl⟩
      case round =>
        clear X0
        obtain ⟨k, X, hkn, rfl, rfl, HX, HXZ, rfl⟩ := hrel
        by_cases hlt : k < n
        · have hki : (k : Int) < n := by omega
          have bk : decide ((k : Int) < (n : Int)) = true := by simpa using hki
          have hki0 : (0 : Int) ≤ k := by omega
          have hn8 := HN8.out
          obtain ⟨k1, hk1⟩ : ∃ k1, k1 = k + 1 := ⟨_, rfl⟩
          have w3 : IntKind.i64.wrap ((k : Int) + 1) = (k1 : Int) := by rw [show (k : Int) + 1 = (k1 : Int) by omega]; exact IntWalk.i64_in _ (by omega)
          have hLk : k < L.length := by rw [← HN2.out]; exact hlt
          have hLg := intC_get L k hLk
          rcases HCX.out with h0 | ⟨bi, hpi, hbi, hci⟩
          · omega
          subst hpi
          have q0 := hci k _ hLg
          have htk := List.take_succ_eq_append_getElem hLk
          have hrd := HRD.out _ (List.getElem_mem hLk)
          have hvl := HOK.out.vis_len _ (HIN.out _ (List.getElem_mem hLk))
          obtain ⟨y, hy⟩ : ∃ y, y = L[k] := ⟨_, rfl⟩
          rw [← hy] at q0 htk hrd hvl
          have CR := rread_any HR0.out HOK.out HLO.out (y : Int)
          rw [hrd.1, hrd.2] at CR
          obtain ⟨V, hV⟩ : ∃ V, V = str (s.vis y) := ⟨_, rfl⟩
          rw [← hV] at CR
          have zV : V.size = 128 := by rw [hV, str_size]; exact hvl
          have zX := HXZ.out
          obtain ⟨Y, hY⟩ : ∃ Y, Y = X ++ V := ⟨_, rfl⟩
          have zY : Y.size = 128 * k1 := by rw [hY, ByteArray.size_append]; omega
          have HY : Hid (Y = str ((L.take k1).flatMap s.vis)) := Lib.hid (by
            rw [hY, hk1, htk, List.flatMap_append, HX.out, hV]
            simp only [str_append, List.flatMap_cons, List.flatMap_nil, List.append_nil])
          have HYZ := Lib.hid zY
          have cY : X ++ V = Y := hY.symm
          have s1 : ¬ 9223372036854775807 < 128 * k + 128 := by omega
          have HK1 := Lib.hid hk1
          clear hbi hci hLg hLk htk hrd hvl hy hV hY HX HXZ zY
          go_wp2_with fail
          refine CR.mono ?_
          rintro e w9 ⟨rfl, rfl⟩
          clear CR
          go_wp2
          go_roundg (n - k1)
          case measure => have := HK1.out; omega
          case rel => exact ⟨k1, Y, by have := HK1.out; omega, rfl, by first | rfl | (congr 1; have := HK1.out; omega), HY, HYZ, rfl⟩
        · have hki : ¬ (k : Int) < n := by omega
          have bk : decide ((k : Int) < (n : Int)) = false := by simpa using hki
          have hby := HBY.out
          have hke : k = n := by omega
          have zX := HXZ.out
          have b1 : (0 : Int) ≤ (zn : Int) := by omega
          have b2 : (zn : Int) ≤ X.size := by omega
          have b3 : (zn : Int) ≤ 128 * (k : Int) := by omega
          have hXe : X.extract 0 zn = str R.1 := by
            have hx := Lib.extract_eq X 0 zn
            rw [hx, HF.out, HX.out, List.take_of_length_le (l := L) (by rw [← HN2.out]; omega)]
            unfold str
            simp
          have HE := Lib.hid hXe
          have HF2 : Hid (R.2 = 0) := Lib.hid (by rw [HF.out])
          clear hby hke hXe
          go_wp2
          go_ret2
          exact ⟨by rw [← HE.out, HF2.out]; rfl, HK2.out⟩
  · rw [decide_eq_false hf] at CF
    have HF : Hid (R = ([], 1)) := Lib.hid (by rw [hR]; unfold bGet; rw [if_pos (by rw [← hN]; exact hf)])
    clear CL hf h hok hlo hr hN hR hvs hnl hmost c4 hs
    go_enter Try.func41, Try.ntmps41
    go_wp2_with fail
    refine CF.mono ?_
    rintro e W1 ⟨rfl, hb⟩
    have HK : Hid (Kept w W1) := Lib.hid hb
    clear hb c0 CF
    go_wp2
    go_ret2
    exact ⟨by rw [HF.out]; rfl, HK.out⟩

end Go.Proofs.Ytppbknlhknadbaa
namespace Go.Proofs.Ytppbknlhknadbaa
open Go.RowKit

theorem bGet_code (s : Dk) (l : List (Int × Int)) (size : Int) (h : fitB l s.stands.length size) : (bGet s l size).2 = if s.down = true then 90 else 0 := by
  unfold bGet
  rw [if_neg (not_not_intro h)]
  split <;> rfl

set_option maxRecDepth 100000 in
set_option maxHeartbeats 8000000 in
theorem rcopy12_any {B g : Nat} {s : Dk} {vs vw : Value} {w : World} (h : RAt B g s vs vw w) (hok : s.ok) (hlo : s.ops ≤ 4294900000) (hB : B ≤ w.heap.size) (la lb : List (Int × Int)) (u v : Value) (ha : RunsAt la u w) (hb : RunsAt lb v w)
    (hla : la.length ≤ 65536) (hlb : lb.length ≤ 65536) (size : Int) (hs : I64 size) :
    Calls Try.prog 42 #[.pointer (some ⟨g, 0, none⟩), u, v, .int .i64 size] w (RPost B g (bCopy s la lb size).1 vs vw (.int .i64 (bCopy s la lb size).2) w) := by
  have c0 : w.cell? ⟨g, 0, none⟩ = some vs := h.cell 0 _ rfl
  obtain ⟨ps, cs, hvs, -, -⟩ := own_slice h.st
  have hmost := hok.most
  have hin : I64 (s.stands.length : Int) := by unfold I64; omega
  have CF1 := rfit12_any la u w ha hla s.stands.length size hin hs
  have CF2 := fun W (k : Kept w W) => rfit12_any lb v W (hb.later k) hlb s.stands.length size hin hs
  have CM := fun W (k : Kept w W) => rcommon_any la lb u v W (ha.later k) (hb.later k) (by omega) (by omega)
  have CT := fun W x (hx : RunsAt (runsA (fun k => hasR la k && hasR lb k)) x W) => rcount_any _ x W hx (Nat.le_trans (runsA_len _) (by omega))
  rw [cntA_again] at CT
  have CG := fun W (k : Kept w W) => rget12_any (h.kept k) hok (by omega) la u (ha.later k) hla size hs
  have CP := fun W (k : Kept w W) => rput12_any (h.kept k) hok hlo (Nat.le_trans hB k.size) lb v (hb.later k) hlb (str (bGet s la size).1) (by rw [str_size]; have := bGet_len hok la size; unfold maxLen; omega)
  rw [str_list] at CP
  have HR := Lib.hid h
  have HBC : Hid (bCopy s la lb size = if ¬ fitB la s.stands.length size ∨ ¬ fitB lb s.stands.length size ∨ 0 < cntA (fun k => hasR la k && hasR lb k) then (s, 1) else if s.down = true then (s, 90) else bPut s lb (bGet s la size).1) := Lib.hid rfl
  have HGC := Lib.hid (bGet_code s la size)
  obtain ⟨pa, ca, rfl, -, -⟩ := ha.out
  obtain ⟨pb, cb, rfl, -, -⟩ := hb.out
  obtain ⟨na, hna⟩ : ∃ na, na = la.length := ⟨_, rfl⟩
  obtain ⟨nb, hnb⟩ : ∃ nb, nb = lb.length := ⟨_, rfl⟩
  rw [← hna] at CF1 CM CG ⊢
  rw [← hnb] at CF2 CM CP ⊢
  obtain ⟨N, hN⟩ : ∃ N, N = s.stands.length := ⟨_, rfl⟩
  rw [← hN] at CF1 CF2 hvs HBC HGC
  rw [hvs] at c0
  obtain ⟨R, hR⟩ : ∃ R, R = bCopy s la lb size := ⟨_, rfl⟩
  rw [← hR] at HBC ⊢
  obtain ⟨ct, hct⟩ : ∃ ct, ct = cntA (fun k => hasR la k && hasR lb k) := ⟨_, rfl⟩
  rw [← hct] at CT HBC
  have HCF2 := Lib.hid CF2
  have HCM := Lib.hid CM
  have HCT := Lib.hid CT
  have HCG := Lib.hid CG
  have HCP := Lib.hid CP
  clear CF2 CM CT CG CP h hok hlo hB ha hb hla hlb hs hin hmost hna hnb hN hR hct hvs
  by_cases h1 : fitB la (N : Int) size
  · rw [decide_eq_true h1] at CF1
    by_cases h2 : fitB lb (N : Int) size
    · have CF2 := HCF2.out
      rw [decide_eq_true h2] at CF2
      have HCF3 := Lib.hid CF2
      have HG2 := Lib.hid (HGC.out h1)
      by_cases h3 : 0 < ct
      · have HF : Hid (R = (s, 1)) := Lib.hid (by rw [HBC.out, if_pos (Or.inr (Or.inr h3))])
        have h3i : (ct : Int) > 0 := by omega
        clear h1 h2 h3 CF2 HCF2 HCG HCP HBC HGC HG2
        go_enter Try.func42, Try.ntmps42
        go_wp2_with fail
        refine CF1.mono ?_
        rintro e w1 ⟨rfl, hb1⟩
        have K1 : Kept w w1 := hb1
        have CF := HCF3.out w1 K1
        have d0 := K1.cell c0
        have HK1 := Lib.hid K1
        clear CF1 hb1 K1 c0 HCF3
        go_wp2_with fail
        refine CF.mono ?_
        rintro e w2 ⟨rfl, hb2⟩
        have K2 := HK1.out.then hb2
        have CM := HCM.out w2 K2
        have HK2 := Lib.hid K2
        clear CF hb2 K2 d0 HCM
        go_wp2_with fail
        refine CM.mono ?_
        rintro e w3 ⟨x, rfl, ho, hb3⟩
        have CT := HCT.out w3 x (ho.at_ (runsA_wf _))
        obtain ⟨px, cx, rfl, -, -⟩ := own_slice ho
        obtain ⟨nx, hnx⟩ : ∃ nx, nx = (runsA (fun k => hasR la k && hasR lb k)).length := ⟨_, rfl⟩
        rw [← hnx] at CT ⊢
        have HK3 : Hid (Kept w w3) := Lib.hid (HK2.out.then hb3)
        clear CM ho hb3 hnx HCT
        go_wp2_with fail
        refine CT.mono ?_
        rintro e w4 ⟨rfl, hb4⟩
        have HK4 : Hid (Kept w w4) := Lib.hid (HK3.out.then hb4)
        clear CT hb4
        go_wp2
        go_ret
        refine ⟨by rw [HF.out]; rfl, vs, vw, ?_, fun k hk => Or.inl hk, ButBy.below HK4.out⟩
        rw [HF.out]
        exact HR.out.kept HK4.out
      · have h3i : ¬ (ct : Int) > 0 := by omega
        have HBD : Hid (R = if s.down = true then (s, 90) else bPut s lb (bGet s la size).1) := Lib.hid (by rw [HBC.out, if_neg (fun hh => by
          rcases hh with hh | hh | hh
          · exact hh h1
          · exact hh h2
          · exact h3 hh)])
        clear h1 h2 h3 CF2 HCF2 HBC HGC
        go_enter Try.func42, Try.ntmps42
        go_wp2_with fail
        refine CF1.mono ?_
        rintro e w1 ⟨rfl, hb1⟩
        have K1 : Kept w w1 := hb1
        have CF := HCF3.out w1 K1
        have d0 := K1.cell c0
        have HK1 := Lib.hid K1
        clear CF1 hb1 K1 c0 HCF3
        go_wp2_with fail
        refine CF.mono ?_
        rintro e w2 ⟨rfl, hb2⟩
        have K2 := HK1.out.then hb2
        have CM := HCM.out w2 K2
        have HK2 := Lib.hid K2
        clear CF hb2 K2 d0 HCM
        go_wp2_with fail
        refine CM.mono ?_
        rintro e w3 ⟨x, rfl, ho, hb3⟩
        have CT := HCT.out w3 x (ho.at_ (runsA_wf _))
        obtain ⟨px, cx, rfl, -, -⟩ := own_slice ho
        obtain ⟨nx, hnx⟩ : ∃ nx, nx = (runsA (fun k => hasR la k && hasR lb k)).length := ⟨_, rfl⟩
        rw [← hnx] at CT ⊢
        have HK3 : Hid (Kept w w3) := Lib.hid (HK2.out.then hb3)
        clear CM ho hb3 hnx HCT
        go_wp2_with fail
        refine CT.mono ?_
        rintro e w4 ⟨rfl, hb4⟩
        have HK4 : Hid (Kept w w4) := Lib.hid (HK3.out.then hb4)
        have CG := HCG.out w4 HK4.out
        rw [HG2.out] at CG
        clear CT hb4 HCG HG2
        by_cases hd : s.down = true
        · rw [if_pos hd] at CG
          have HF : Hid (R = (s, 90)) := Lib.hid (by rw [HBD.out, if_pos hd])
          clear hd HBD HCP
          go_wp2_with fail
          refine CG.mono ?_
          rintro e w5 ⟨rfl, hb5⟩
          have HK5 : Hid (Kept w w5) := Lib.hid (HK4.out.then hb5)
          clear CG hb5
          go_wp2
          go_ret
          refine ⟨by rw [HF.out]; rfl, vs, vw, ?_, fun k hk => Or.inl hk, ButBy.below HK5.out⟩
          rw [HF.out]
          exact HR.out.kept HK5.out
        · rw [if_neg hd] at CG
          have HF : Hid (R = bPut s lb (bGet s la size).1) := Lib.hid (by rw [HBD.out, if_neg hd])
          obtain ⟨T, hT⟩ : ∃ T, T = str (bGet s la size).1 := ⟨_, rfl⟩
          rw [← hT] at CG
          have HCP2 := HCP
          clear HCP
          have HCP := HCP2.out
          rw [← hT] at HCP
          have HCP3 := Lib.hid HCP
          clear hd HBD HCP HCP2 hT
          go_wp2_with fail
          refine CG.mono ?_
          rintro e w5 ⟨rfl, hb5⟩
          have K5 := HK4.out.then hb5
          have CP := HCP3.out w5 K5
          rw [← HF.out] at CP
          have HK5 := Lib.hid K5
          clear CG hb5 K5 HCP3
          go_wp2_with fail
          refine CP.mono ?_
          rintro e w6 ⟨rfl, vs', vw', hr, hsub, hbb⟩
          have HRR := Lib.hid hr
          have HSB : Hid (∀ k, RBs g vs' vw' k → RBs g vs vw k ∨ w.heap.size ≤ k) := Lib.hid (fun k hk => (hsub k hk).imp id (fun z => Nat.le_trans HK5.out.size z))
          have HBB : Hid (ButBy (fun j => j = g) w w6) := Lib.hid ((ButBy.below HK5.out).trans hbb)
          clear CP hr hsub hbb
          go_wp2
          go_ret
          exact ⟨rfl, vs', vw', HRR.out, HSB.out, HBB.out⟩
    · have CF2 := HCF2.out
      rw [decide_eq_false h2] at CF2
      have HCF3 := Lib.hid CF2
      have HF : Hid (R = (s, 1)) := Lib.hid (by rw [HBC.out, if_pos (Or.inr (Or.inl h2))])
      clear h1 h2 CF2 HCF2 HCM HCT HCG HCP HBC HGC
      go_enter Try.func42, Try.ntmps42
      go_wp2_with fail
      refine CF1.mono ?_
      rintro e w1 ⟨rfl, hb1⟩
      have K1 : Kept w w1 := hb1
      have CF := HCF3.out w1 K1
      have d0 := K1.cell c0
      have HK1 := Lib.hid K1
      clear CF1 hb1 K1 c0 HCF3
      go_wp2_with fail
      refine CF.mono ?_
      rintro e w2 ⟨rfl, hb2⟩
      have HK2 : Hid (Kept w w2) := Lib.hid (HK1.out.then hb2)
      clear CF hb2 d0
      go_wp2
      go_ret
      refine ⟨by rw [HF.out]; rfl, vs, vw, ?_, fun k hk => Or.inl hk, ButBy.below HK2.out⟩
      rw [HF.out]
      exact HR.out.kept HK2.out
  · rw [decide_eq_false h1] at CF1
    have HF : Hid (R = (s, 1)) := Lib.hid (by rw [HBC.out, if_pos (Or.inl h1)])
    clear h1 HCF2 HCM HCT HCG HCP HBC HGC
    go_enter Try.func42, Try.ntmps42
    go_wp2_with fail
    refine CF1.mono ?_
    rintro e w1 ⟨rfl, hb1⟩
    have HK1 : Hid (Kept w w1) := Lib.hid hb1
    clear CF1 hb1 c0
    go_wp2
    go_ret
    refine ⟨by rw [HF.out]; rfl, vs, vw, ?_, fun k hk => Or.inl hk, ButBy.below HK1.out⟩
    rw [HF.out]
    exact HR.out.kept HK1.out

end Go.Proofs.Ytppbknlhknadbaa
namespace Go.Proofs.Ytppbknlhknadbaa
open Go.RowKit

theorem cell_frozen_row (w : World) (g i : Nat) (cs : Array Value) (t : TypeId) (m : Nat) (h : w.heap[g]? = some (.cells cs t (m, m + 1))) (hi : i < m) : w.frozen? ⟨g, i, none⟩ = false := by
  simp [World.frozen?, h]
  omega

theorem setCell_row (w : World) (g i : Nat) (cs : Array Value) (t : TypeId) (fr : Nat × Nat) (v : Value) (h : w.heap[g]? = some (.cells cs t fr)) : (w.setCell ⟨g, i, none⟩ v).heap[g]? = some (.cells (cs.setIfInBounds i v) t fr) := by
  simp [World.setCell, Array.getElem?_modify, h]

/-- A row of bytes of the call's own, as '[]byte(s)' lays it. -/
def ByteRow (w wr : World) (n : Nat) (bs : List UInt8) : Prop :=
  ∃ (cs : Array Value) (m : Nat), wr.heap[w.heap.size]? = some (.cells cs 5 (m, m + 1)) ∧ n ≤ m ∧ bs.length = n ∧ (∀ i, i < n → cs[i]? = some (.int .u8 ((bs.getD i 0).toNat : Int))) ∧ Below w.heap.size w wr

theorem ByteRow.cell {w wr : World} {n : Nat} {bs : List UInt8} (h : ByteRow w wr n bs) (i : Nat) (hi : i < n) : wr.cell? ⟨w.heap.size, i, none⟩ = some (.int .u8 ((bs.getD i 0).toNat : Int)) := by
  obtain ⟨cs, m, h1, _, _, h4, _⟩ := h
  rw [cell_of_row _ _ i _ _ _ h1]
  exact h4 i hi

theorem ByteRow.froz {w wr : World} {n : Nat} {bs : List UInt8} (h : ByteRow w wr n bs) (i : Nat) (hi : i < n) : wr.frozen? ⟨w.heap.size, i, none⟩ = false := by
  obtain ⟨cs, m, h1, h2, _, _, _⟩ := h
  exact cell_frozen_row _ _ _ _ _ _ h1 (by omega)

theorem ByteRow.set {w wr : World} {n : Nat} {bs : List UInt8} (h : ByteRow w wr n bs) (i : Nat) (hi : i < n) (c : UInt8) : ByteRow w (wr.setCell ⟨w.heap.size, i, none⟩ (.int .u8 (c.toNat : Int))) n (bs.set i c) := by
  obtain ⟨cs, m, h1, h2, h3, h4, h5⟩ := h
  refine ⟨_, m, setCell_row _ _ _ _ _ _ _ h1, h2, by rw [List.length_set]; exact h3, ?_, h5.setCell (Nat.le_refl _) _⟩
  intro j hj
  rw [Array.getElem?_setIfInBounds, List.getD_eq_getElem?_getD, List.getElem?_set]
  have hcs : i < cs.size := (Array.getElem?_eq_some_iff.1 (h4 i hi)).1
  by_cases e : i = j
  · subst e
    rw [if_pos rfl, if_pos hcs, if_pos rfl, if_pos (by omega)]
    rfl
  · rw [if_neg e, if_neg e, h4 j hj, List.getD_eq_getElem?_getD]

theorem ByteRow.drew {w wr : World} {n : Nat} {bs : List UInt8} (h : ByteRow w wr n bs) : ByteRow w wr.drew n bs := by
  obtain ⟨cs, m, h1, h2, h3, h4, h5⟩ := h
  exact ⟨cs, m, h1, h2, h3, h4, h5.drew⟩

theorem bytes_row (s : ByteArray) (w : World) : ∃ c w', (convert 9 49 (.string s)).run Try.prog w = .ok (.slice (some ⟨w.heap.size, 0, none⟩) s.size c) w' ∧ ByteRow w w' s.size s.data.toList := by
  refine ⟨_, _, run_bytes_of_string w 9 49 5 s Try.underlying9 Try.underlying49 Try.underlying5, ?_⟩
  refine ⟨_, _, heap_alloc_last w.drew _, ?_, data_len s, ?_, ?_⟩
  · simp [bytesRow]
  · intro i hi
    rw [bytesRow_at s _ i hi]
    have hl : i < s.data.toList.length := by rw [data_len]; exact hi
    rw [List.getD_eq_getElem?_getD, List.getElem?_eq_getElem hl]
    rfl
  · exact (Below.refl _ _).drew.alloc (Nat.le_refl _) _

end Go.Proofs.Ytppbknlhknadbaa
namespace Go.Proofs.Ytppbknlhknadbaa
open Go.RowKit

def u8V (x : UInt8) : Value := .int .u8 (x.toNat : Int)

/-- The block b holds these bytes first. -/
def BytesAt (b : Nat) (bs : List UInt8) (w : World) : Prop :=
  ∃ (cs : Array Value) (fr : Nat × Nat), w.heap[b]? = some (.cells cs 5 fr) ∧ (∀ i, i < bs.length → ¬ (fr.1 ≤ i ∧ i < fr.2)) ∧ ∀ i (h : i < bs.length), cs[i]? = some (u8V bs[i])

section
variable {b : Nat} {bs : List UInt8} {w : World} (h : BytesAt b bs w)
include h

theorem BytesAt.lt : b < w.heap.size := by
  obtain ⟨cs, fr, hb, _⟩ := h
  exact (Array.getElem?_eq_some_iff.1 hb).1
theorem BytesAt.stay {w' : World} (hk : w'.heap[b]? = w.heap[b]?) : BytesAt b bs w' := by
  obtain ⟨cs, fr, hb, r⟩ := h
  exact ⟨cs, fr, hk.trans hb, r⟩
theorem BytesAt.kept {w' : World} (k : Kept w w') : BytesAt b bs w' := h.stay (k.block b h.lt)
theorem BytesAt.cell (i : Nat) (hi : i < bs.length) : w.cell? ⟨b, i, none⟩ = some (u8V bs[i]) := by
  obtain ⟨cs, fr, hb, _, hc⟩ := h
  rw [cell_of_row _ _ i _ _ _ hb]
  exact hc i hi
theorem BytesAt.froz (i : Nat) (hi : i < bs.length) : w.frozen? ⟨b, i, none⟩ = false := by
  obtain ⟨cs, fr, hb, hf, _⟩ := h
  have := hf i hi
  simp only [World.frozen?, hb]
  by_cases h1 : fr.1 ≤ i
  · have h2 : ¬ i < fr.2 := fun x => this ⟨h1, x⟩
    simp [h1, h2]
  · simp [h1]
theorem BytesAt.set (i : Nat) (hi : i < bs.length) (x : UInt8) : BytesAt b (bs.set i x) (w.setCell ⟨b, i, none⟩ (u8V x)) := by
  obtain ⟨cs, fr, hb, hf, hc⟩ := h
  refine ⟨_, fr, setCell_row _ _ _ _ _ _ _ hb, fun j hj => hf j (by simpa using hj), fun j hj => ?_⟩
  have hj' : j < bs.length := by simpa using hj
  have hcs : i < cs.size := (Array.getElem?_eq_some_iff.1 (hc i hi)).1
  rw [Array.getElem?_setIfInBounds, List.getElem_set]
  by_cases e : i = j
  · subst e; rw [if_pos rfl, if_pos hcs, if_pos rfl]
  · rw [if_neg e, if_neg e, hc j hj']
theorem BytesAt.typ : ∃ cs fr, w.heap[b]? = some (.cells cs 5 fr) := by
  obtain ⟨cs, fr, hb, _⟩ := h
  exact ⟨cs, fr, hb⟩
end

/-- Bytes laid over others. -/
def patch (bs : List UInt8) (o : Nat) : List UInt8 → List UInt8
  | [] => bs
  | v :: r => patch (bs.set o v) (o + 1) r

theorem patch_len (o : Nat) (vs : List UInt8) : ∀ bs : List UInt8, (patch bs o vs).length = bs.length := by
  induction vs generalizing o with
  | nil => intro bs; rfl
  | cons v r ih => intro bs; unfold patch; rw [ih, List.length_set]

theorem patch_eq (vs : List UInt8) : ∀ (bs : List UInt8) (o : Nat), o + vs.length ≤ bs.length → patch bs o vs = bs.take o ++ vs ++ bs.drop (o + vs.length) := by
  induction vs with
  | nil => intro bs o _; show bs = bs.take o ++ [] ++ bs.drop (o + 0); simp
  | cons v r ih =>
    intro bs o h
    have hl : o + 1 + r.length ≤ bs.length := by simp at h; omega
    unfold patch
    rw [ih _ _ (by rw [List.length_set]; exact hl), List.length_cons]
    have e1 : (bs.set o v).take (o + 1) = bs.take o ++ [v] := by
      rw [List.take_succ_eq_append_getElem (by rw [List.length_set]; omega), List.take_set_of_le (by omega), List.getElem_set_self]
    have e2 : (bs.set o v).drop (o + 1 + r.length) = bs.drop (o + (r.length + 1)) := by
      rw [List.drop_set_of_lt (by omega), show o + 1 + r.length = o + (r.length + 1) by omega]
    rw [e1, e2]
    simp

theorem BytesAt.sets {b : Nat} (vs : List UInt8) : ∀ {bs : List UInt8} {w : World} (o : Nat), BytesAt b bs w → o + vs.length ≤ bs.length → BytesAt b (patch bs o vs) (w.setCells b o (vs.map u8V)) := by
  induction vs with
  | nil => intro bs w o h _; exact h
  | cons v r ih =>
    intro bs w o h hl
    have hl2 : o + (r.length + 1) ≤ bs.length := hl
    exact ih (o + 1) (h.set o (by omega) v) (by rw [List.length_set]; omega)

theorem setCells_other (b k : Nat) (hk : k ≠ b) : ∀ (vs : List Value) (o : Nat) (w : World), (w.setCells b o vs).heap[k]? = w.heap[k]?
  | [], _, _ => rfl
  | v :: r, o, w => by
    show ((w.setCell ⟨b, o, none⟩ v).setCells b (o + 1) r).heap[k]? = _
    rw [setCells_other b k hk r]
    exact heap_setCell_other _ _ _ _ hk

theorem grown_sets (b : Nat) : ∀ (vs : List Value) (o : Nat) (w : World), w.grownBy (w.setCells b o vs) (some b)
  | [], _, w => ⟨rfl, rfl, rfl, Nat.le_refl _, fun _ _ _ => rfl⟩
  | v :: r, o, w => by
    have h1 := grown_set w b o v
    have h2 := grown_sets b r (o + 1) (w.setCell ⟨b, o, none⟩ v)
    exact ⟨h2.os.trans h1.os, h2.tape.trans h1.tape, h2.output.trans h1.output, Nat.le_trans h1.size h2.size, fun j hj hn => (h2.block j (Nat.lt_of_lt_of_le hj h1.size) hn).trans (h1.block j hj hn)⟩

/-- 'string(b[a:e])' -/
theorem BytesAt.conv {b : Nat} {bs : List UInt8} {w : World} (h : BytesAt b bs w) (a n c : Nat) (hn : a + n ≤ bs.length) :
    (convert 49 9 (.slice (some ⟨b, a, none⟩) n c)).run Try.prog w = .ok (.string (str ((bs.drop a).take n))) w := by
  have hl : ((bs.drop a).take n).length = n := by rw [List.length_take, List.length_drop]; omega
  have h1 := run_convert_bytes_back (P := Try.prog) w 49 9 5 ⟨b, a, none⟩ c ((bs.drop a).take n) Try.underlying49 Try.underlying5 Try.underlying9 (fun j hj => by
    rw [addr_add]
    have hj2 : j < n := by rw [hl] at hj; exact hj
    rw [h.cell (a + j) (by omega)]
    simp [u8V])
  rw [hl] at h1
  exact h1

/-- 'make([]byte, n)' -/
theorem infoU8 : (Try.prog.info? 5).map (fun i => (i.zero, i.size, i.bytes)) = some (some (.int .u8 0), 1, 1) := by kernel_rfl
theorem BytesAt.made (n : Nat) (hn : n ≤ 16777216) (w : World) : ∃ w', (Instr.makeSlice 49 (.int .i64 (n : Int)) (.int .i64 (n : Int))).run Try.prog w = .ok (.slice (some ⟨w.heap.size, 0, none⟩) n n) w' ∧ BytesAt w.heap.size (List.replicate n 0) w' ∧ Below w.heap.size w w' := by
  obtain ⟨i, hi, hx⟩ := Option.map_eq_some_iff.1 infoU8
  simp only [Prod.mk.injEq] at hx
  obtain ⟨h0, h1, h2⟩ := hx
  have hr := run_makeSlice (P := Try.prog) w 49 5 i (.int .u8 0) Try.underlying49 hi h0 .i64 .i64 (n : Int) (n : Int) (by omega) (by omega) (by rw [h1]; omega) (by rw [h2]; omega) (by omega)
  refine ⟨_, hr, ⟨_, _, heap_alloc_new w _, fun i hi x => by simp at x, fun j hj => ?_⟩, box_below _ _⟩
  have hj2 : j < n := by simpa using hj
  rw [h1, Int.toNat_natCast, Nat.mul_one]
  show (madeCells #[.int .u8 0] n)[j]? = _
  rw [← Array.getElem?_toList, toList_madeCells_one, List.getElem?_replicate, if_pos hj2]
  simp [u8V]

/-- '[]byte(s)' -/
theorem BytesAt.of_str (s : ByteArray) (w : World) : ∃ c w', s.size ≤ c ∧ (convert 9 49 (.string s)).run Try.prog w = .ok (.slice (some ⟨w.heap.size, 0, none⟩) s.size c) w' ∧ BytesAt w.heap.size s.data.toList w' ∧ Below w.heap.size w w' := by
  refine ⟨_, _, grownCap_ge w s.size 0 5, run_bytes_of_string w 9 49 5 s Try.underlying9 Try.underlying49 Try.underlying5, ⟨_, _, heap_alloc_last w.drew _, fun i hi x => ?_, fun i hi => ?_⟩, (Below.refl _ _).drew.alloc (Nat.le_refl _) _⟩
  · rw [data_len] at hi
    simp [bytesRow] at x
    omega
  · have hi2 : i < s.size := by rw [← data_len s]; exact hi
    rw [bytesRow_at s _ i hi2]
    rfl

end Go.Proofs.Ytppbknlhknadbaa
namespace Go.Proofs.Ytppbknlhknadbaa
open Go.RowKit

theorem wpList_minI {P : Program} {ops : Array Oper} {rest : List Oper} {o : Oper} {a : Act} {w : World} {Q : Exit → Act → World → Prop} (hgd : o.guard = none) (x y : Operand) (t u : TypeId)
    (ho : o.op = .call { callee := .builtin .min, args := #[x, y], argTypes := #[t, u] }) (k k' : IntKind) (m n r : Int) (hx : a.eval x = .int k m) (hy : a.eval y = .int k' n) (hr : (if n < m then n else m) = r)
    (h : wpList P ops Q rest (a.put o.dst (.int k r)) w) : wpList P ops Q (o :: rest) a w := by
  refine wpList_plain hgd fun K hK => ?_
  subst hr
  unfold Oper.wp execOp
  simp only [ho, resolve, invoke, builtin, Sem.run_bind, Sem.run_pure, Result.andThen_ok, List.map_toArray, List.map_cons, List.map_nil, hx, hy, run_min_int2]
  exact hK _ _ h

/-- What few returns: at most twenty runs. -/
def fewT (l : List (Int × Int)) (v : Value) : Value := match v with
  | .slice p n c => if 20 < l.length then .slice p 20 c else .slice p n c
  | x => x
theorem fewT_at {l : List (Int × Int)} {v : Value} {w : World} (h : RunsAt l v w) : RunsAt (l.take 20) (fewT l v) w := by
  obtain ⟨hl, h1, p, c, rfl, hc⟩ := h.at_
  have hcap := h.cap _ _ _ rfl
  have hwf := wfR_take h.wf 20
  show RunsAt (l.take 20) (if 20 < l.length then .slice p 20 c else .slice p l.length c) w
  by_cases hb : 20 < l.length
  · rw [if_pos hb]
    have hlt : (l.take 20).length = 20 := by rw [List.length_take]; omega
    rcases hc with h0 | ⟨b, off, rfl, hcell⟩
    · omega
    have := RunsAt.of_cells (w := w) hwf (some ⟨b, off, none⟩) c (by rw [hlt]; omega) (Or.inr ⟨b, off, rfl, fun j x hx => hcell j x (by
      rw [runC_take, List.getElem?_take] at hx
      split at hx
      · exact hx
      · cases hx)⟩)
    rw [hlt] at this
    exact this
  · rw [if_neg hb, List.take_of_length_le (by omega)]
    exact h

set_option maxRecDepth 100000 in
set_option maxHeartbeats 1000000 in
theorem few12_val (l : List (Int × Int)) (v : Value) (w : World) (h : RunsAt l v w) : Calls Try.prog 7 #[v] w fun e w' => e = .returned (fewT l v) ∧ w = w' := by
  obtain ⟨p, c, rfl, hcap, -⟩ := h.out
  by_cases hb : 20 < l.length
  · have hb1 : (l.length : Int) > 20 := by omega
    have e1 : fewT l (.slice p l.length c) = .slice p 20 c := by show (if 20 < l.length then _ else _) = _; rw [if_pos hb]
    rw [e1]
    obtain ⟨hl, h1, p', c', he, hc⟩ := h.at_
    simp only [Value.slice.injEq] at he
    obtain ⟨rfl, -, rfl⟩ := he
    rcases hc with h0 | ⟨b, off, rfl, hcell⟩
    · omega
    obtain ⟨n, hn⟩ : ∃ n, n = l.length := ⟨_, rfl⟩
    rw [← hn] at hb1 hcap ⊢
    have i1 : (20 : Int) ≤ c := by omega
    clear hl h1 hcell h hn hb e1
    go_enter Try.func7, Try.ntmps7
    go_wp2
    go_ret
    exact ⟨rfl, rfl⟩
  · have hb1 : ¬ (l.length : Int) > 20 := by omega
    have e1 : fewT l (.slice p l.length c) = .slice p l.length c := by show (if 20 < l.length then _ else _) = _; rw [if_neg hb]
    rw [e1]
    obtain ⟨n, hn⟩ : ∃ n, n = l.length := ⟨_, rfl⟩
    rw [← hn] at hb1 hcap ⊢
    clear h hn hb e1
    go_enter Try.func7, Try.ntmps7
    go_wp2
    go_ret
    exact ⟨rfl, rfl⟩

/-- The first k of n bytes are written. -/
def genB (f : Nat → UInt8) (n k : Nat) : List UInt8 := (List.range n).map fun i => if i < k then f i else 0
theorem genB_len (f : Nat → UInt8) (n k : Nat) : (genB f n k).length = n := by unfold genB; simp
theorem genB_zero (f : Nat → UInt8) (n : Nat) : genB f n 0 = List.replicate n 0 := by
  apply List.ext_getElem?
  intro i
  unfold genB
  by_cases h : i < n <;> simp [h]
theorem genB_set (f : Nat → UInt8) (n k : Nat) : (genB f n k).set k (f k) = genB f n (k + 1) := by
  apply List.ext_getElem?
  intro i
  rw [List.getElem?_set]
  unfold genB
  by_cases h : i < n
  · by_cases e : k = i
    · subst e; simp [h]
    · rw [if_neg e]
      simp only [List.getElem?_map, List.getElem?_range h, Option.map_some]
      congr 1
      by_cases h2 : i < k
      · rw [if_pos h2, if_pos (by omega)]
      · rw [if_neg h2, if_neg (by omega)]
  · by_cases e : k = i
    · subst e; simp [h]
    · rw [if_neg e]; simp [h]
theorem genB_all (f : Nat → UInt8) (n : Nat) : genB f n n = (List.range n).map f := by
  unfold genB
  refine List.map_congr_left fun i hi => ?_
  rw [if_pos (List.mem_range.1 hi)]
def seqB (n : Nat) : List UInt8 := (List.range n).map fun i => UInt8.ofNat (i % 251 + 1)
theorem seqB_len (n : Nat) : (seqB n).length = n := by unfold seqB; simp
def fillN (n : Int) : Nat := (min (max n 0) 3000).toNat
theorem repl_map (n : Nat) (b : UInt8) : (List.range n).map (fun _ => b) = List.replicate n b := by
  apply List.ext_getElem?
  intro i
  by_cases h : i < n <;> simp [h]

set_option maxRecDepth 100000 in
set_option maxHeartbeats 4000000 in
theorem text12_any (n : Nat) (hn : n ≤ 1000000) (w : World) : Calls Try.prog 23 #[.int .i64 n] w fun e w' => e = .returned (.string (str (seqB n))) ∧ Below w.heap.size w w' := by
  obtain ⟨w1, hmk, hB, hb1⟩ := BytesAt.made n (by omega) w
  rw [← genB_zero (fun i => UInt8.ofNat (i % 251 + 1)) n] at hB
  obtain ⟨b, hbb⟩ : ∃ b, b = w.heap.size := ⟨_, rfl⟩
  rw [← hbb] at hmk hB
  have HB0 := Lib.hid hB
  have HK1 := Lib.hid hb1
  have HBB := Lib.hid hbb
  clear hB hb1 hbb
  go_enter Try.func23, Try.ntmps23
  go_wp2
  clear hmk
  go_loopg [9] n (fun gh s9 wx => ∃ k : Nat, k + gh = n ∧ s9 = .int .i64 k ∧ Hid (BytesAt b (genB (fun i => UInt8.ofNat (i % 251 + 1)) n k) wx) ∧ Hid (Below w.heap.size w wx))
  case atStart => exact ⟨0, by omega, rfl, HB0, HK1⟩
  case round =>
    clear HB0 HK1
    obtain ⟨k, hk, rfl, HB, HK⟩ := hrel
    obtain ⟨k1, hk1⟩ : ∃ k1, k1 = k + 1 := ⟨_, rfl⟩
    have v1 : IntKind.i64.wrap ((k : Int) + 1) = (k1 : Int) := by rw [show (k : Int) + 1 = (k1 : Int) by omega]; exact IntWalk.i64_in _ (by omega)
    by_cases hkn : k < n
    · have hki : (k : Int) < n := by omega
      have bk : decide ((k : Int) < (n : Int)) = true := by simpa using hki
      have hki0 : (0 : Int) ≤ k := by omega
      obtain ⟨r, hr⟩ : ∃ r, r = k % 251 := ⟨_, rfl⟩
      have m1 : (k : Int).tmod 251 = (r : Int) := by rw [Int.tmod_eq_emod_of_nonneg (by omega)]; omega
      have m2 : (k : Int) % 251 = (r : Int) := by omega
      obtain ⟨q, hq⟩ : ∃ q, q = r + 1 := ⟨_, rfl⟩
      have hq8 : q ≤ 251 := by omega
      have v2 : IntKind.i64.wrap ((r : Int) + 1) = (q : Int) := by rw [show (r : Int) + 1 = (q : Int) by omega]; exact IntWalk.i64_in _ (by omega)
      have v3 : IntKind.i64.wrap (r : Int) = (r : Int) := IntWalk.i64_in _ (by omega)
      have v4 : IntKind.u8.wrap (q : Int) = (q : Int) := by simp [IntKind.wrap, IntKind.bits, IntKind.signed]; omega
      obtain ⟨c, hc⟩ : ∃ c, c = UInt8.ofNat (k % 251 + 1) := ⟨_, rfl⟩
      have hcn : c.toNat = q := by rw [hc, hq, hr, UInt8.toNat_ofNat']; omega
      have hcell := HB.out.cell k (by rw [genB_len]; exact hkn)
      obtain ⟨x0, hx0⟩ : ∃ x0, x0 = u8V ((genB (fun i => UInt8.ofNat (i % 251 + 1)) n k)[k]'(by rw [genB_len]; exact hkn)) := ⟨_, rfl⟩
      rw [← hx0] at hcell
      have hfz := HB.out.froz k (by rw [genB_len]; exact hkn)
      have hset := HB.out.set k (by rw [genB_len]; exact hkn) c
      rw [hc, genB_set (fun i => UInt8.ofNat (i % 251 + 1)) n k, ← hc, ← hk1] at hset
      unfold u8V at hset
      rw [hcn] at hset
      have HB2 := Lib.hid hset
      have HK2 : Hid (Below w.heap.size w (wr.setCell ⟨b, k, none⟩ (.int .u8 (q : Int)))) := Lib.hid (HK.out.setCell (by rw [HBB.out]; exact Nat.le_refl _) _)
      clear hr hq hc hcn hx0 hset
      go_wp2
      go_roundg (n - k1)
      case measure => omega
      case rel => exact ⟨k1, by omega, by first | rfl | (congr 1; omega), HB2, HK2⟩
    · have hki : ¬ (k : Int) < n := by omega
      have bk : decide ((k : Int) < (n : Int)) = false := by simpa using hki
      have hke : k = n := by omega
      have hcv := HB.out.conv 0 n n (by rw [genB_len]; omega)
      rw [hke, genB_all, List.drop_zero, List.take_of_length_le (by simp)] at hcv
      change (convert _ _ _).run _ _ = .ok (.string (str (seqB n))) _ at hcv
      obtain ⟨T, hT⟩ : ∃ T, T = str (seqB n) := ⟨_, rfl⟩
      rw [← hT] at hcv
      have HT := Lib.hid hT
      clear hke hT
      go_wp2
      go_ret
      exact ⟨by rw [← HT.out]; rfl, HK.out⟩

set_option maxRecDepth 100000 in
set_option maxHeartbeats 4000000 in
theorem fill12_any (z : Int) (c : UInt8) (w : World) : Calls Try.prog 39 #[.int .i64 z, .int .u8 (c.toNat : Int)] w fun e w' => e = .returned (.string (str (List.replicate (fillN z) c))) ∧ Below w.heap.size w w' := by
  obtain ⟨n, hn⟩ : ∃ n, n = fillN z := ⟨_, rfl⟩
  rw [← hn]
  unfold fillN at hn
  obtain ⟨mx, hmx⟩ : ∃ mx, mx = max z 0 := ⟨_, rfl⟩
  have hmr : Hid ((if (0 : Int) > z then 0 else z) = mx) := Lib.hid (by split <;> omega)
  have hni : (n : Int) = min mx 3000 := by omega
  have hmi : Hid ((if (3000 : Int) < mx then 3000 else mx) = (n : Int)) := Lib.hid (by split <;> omega)
  have hn3 : n ≤ 3000 := by omega
  clear hn hmx hni
  obtain ⟨w1, hmk, hB, hb1⟩ := BytesAt.made n (by omega) w
  rw [← genB_zero (fun _ => c) n] at hB
  obtain ⟨b, hbb⟩ : ∃ b, b = w.heap.size := ⟨_, rfl⟩
  rw [← hbb] at hmk hB
  have HB0 := Lib.hid hB
  have HK1 := Lib.hid hb1
  have HBB := Lib.hid hbb
  obtain ⟨q, hq⟩ : ∃ q, q = c.toNat := ⟨_, rfl⟩
  rw [← hq]
  have HQ := Lib.hid hq
  clear hB hb1 hbb hq
  go_enter Try.func39, Try.ntmps39
  go_wp2_with (first
    | (with_reducible refine wpList_maxI rfl _ _ _ _ rfl .i64 .i64 z 0 mx rfl rfl hmr.out ?_)
    | (with_reducible refine wpList_minI rfl _ _ _ _ rfl .i64 .i64 mx 3000 (n : Int) rfl rfl hmi.out ?_))
  clear hmk
  go_loopg [13] n (fun gh s13 wx => ∃ k : Nat, k + gh = n ∧ s13 = .int .i64 k ∧ Hid (BytesAt b (genB (fun _ => c) n k) wx) ∧ Hid (Below w.heap.size w wx))
  case atStart => exact ⟨0, by omega, rfl, HB0, HK1⟩
  case round =>
    clear HB0 HK1
    obtain ⟨k, hk, rfl, HB, HK⟩ := hrel
    obtain ⟨k1, hk1⟩ : ∃ k1, k1 = k + 1 := ⟨_, rfl⟩
    have v1 : IntKind.i64.wrap ((k : Int) + 1) = (k1 : Int) := by rw [show (k : Int) + 1 = (k1 : Int) by omega]; exact IntWalk.i64_in _ (by omega)
    by_cases hkn : k < n
    · have hki : (k : Int) < n := by omega
      have bk : decide ((k : Int) < (n : Int)) = true := by simpa using hki
      have hki0 : (0 : Int) ≤ k := by omega
      have hcell := HB.out.cell k (by rw [genB_len]; exact hkn)
      obtain ⟨x0, hx0⟩ : ∃ x0, x0 = u8V ((genB (fun _ => c) n k)[k]'(by rw [genB_len]; exact hkn)) := ⟨_, rfl⟩
      rw [← hx0] at hcell
      have hfz := HB.out.froz k (by rw [genB_len]; exact hkn)
      have hset := HB.out.set k (by rw [genB_len]; exact hkn) c
      rw [genB_set (fun _ => c) n k, ← hk1] at hset
      unfold u8V at hset
      rw [← HQ.out] at hset
      have HB2 := Lib.hid hset
      have HK2 : Hid (Below w.heap.size w (wr.setCell ⟨b, k, none⟩ (.int .u8 (q : Int)))) := Lib.hid (HK.out.setCell (by rw [HBB.out]; exact Nat.le_refl _) _)
      clear hx0 hset
      go_wp2
      go_roundg (n - k1)
      case measure => omega
      case rel => exact ⟨k1, by omega, by first | rfl | (congr 1; omega), HB2, HK2⟩
    · have hki : ¬ (k : Int) < n := by omega
      have bk : decide ((k : Int) < (n : Int)) = false := by simpa using hki
      have hke : k = n := by omega
      have hcv := HB.out.conv 0 n n (by rw [genB_len]; omega)
      rw [hke, genB_all, List.drop_zero, repl_map, List.take_of_length_le (by simp)] at hcv
      obtain ⟨T, hT⟩ : ∃ T, T = str (List.replicate n c) := ⟨_, rfl⟩
      rw [← hT] at hcv
      have HT := Lib.hid hT
      clear hke hT
      go_wp2
      go_ret
      exact ⟨by rw [← HT.out]; rfl, HK.out⟩

end Go.Proofs.Ytppbknlhknadbaa
