/- The walk of more: a text goes on. -/
import Derived.Test.YtepcnedagmfpeaaDoorText
namespace Go.Proofs.YtepcnedagmfpeaaDoor
open Go.RowKit

def aggSize : Value → Nat
  | .agg cs => cs.size
  | _ => 0
def isAggV : Value → Bool
  | .agg _ => true
  | _ => false
theorem zeroTx0 : ((Tryd.prog.info? 53).bind (·.zero)).map (fun z => (isAggV z, aggSize z)) = some (true, 73) := by kernel_rfl
theorem zeroTx : ∃ Z : Array Value, Z.size = 73 ∧ ∀ w, (zeroValue 53).run Tryd.prog w = .ok (.agg Z) w := by
  have h := zeroTx0
  cases hq : Tryd.prog.info? 53 with
  | none => rw [hq] at h; cases h
  | some i =>
    rw [hq] at h
    simp only [Option.bind_some] at h
    cases hz : i.zero with
    | none => rw [hz] at h; cases h
    | some z =>
      rw [hz] at h
      simp only [Option.map_some, Option.some.injEq, Prod.mk.injEq] at h
      cases z <;> simp only [isAggV, Bool.false_eq_true, false_and] at h
      rename_i cs
      exact ⟨cs, h.2, fun w => by simp [zeroValue, typeInfo, hq, hz]⟩

def TextPost (w : World) (l : List UInt8) (e : Ending) (w' : World) : Prop := ∃ T, IsText l T ∧ e = .returned (.agg T) ∧ Below w.heap.size w w'

/-- How long a text is. -/
def textLen : Value → Nat
  | .string s => s.size
  | _ => 0

/-- What the loop holds. -/
def MoreAt (w : World) (l S : List UInt8) (Z : Array Value) (x : Value) (wr : World) : Prop :=
  ∃ (j : Nat) (T : Array Value), j ≤ S.length ∧ x = .string (str (S.drop j)) ∧ IsText (l ++ S.take j) T ∧
    wr.heap[w.heap.size]? = some (.cells T 53 (0, 0)) ∧ wr.heap[w.heap.size + 1]? = some (.cells Z 53 (0, 0)) ∧ Below w.heap.size w wr

set_option maxRecDepth 100000 in
set_option maxHeartbeats 2000000 in
theorem more_any (l : List UInt8) (T : Array Value) (hT : IsText l T) (s : ByteArray) (hl : l.length + s.size ≤ 1000000000000000) (w : World) (hK : TabAt w) :
    Calls Tryd.prog 22 #[.agg T, .string s] w (TextPost w (l ++ s.data.toList)) := by
  obtain ⟨S, rfl⟩ : ∃ S, s = str S := ⟨s.data.toList, (str_data s).symm⟩
  rw [str_list]
  have hsz := str_size S
  rw [hsz] at hl
  have HT := Lib.hid hT
  clear hT hsz
  obtain ⟨Z, hZs, hZr⟩ := zeroTx
  have HZS := Lib.hid hZs
  clear hZs
  go_enter Tryd.func22, Tryd.ntmps22
  go_wp2
  go_loopw [1] (fun x wr => MoreAt w l S Z x wr) (fun x _ => textLen x)
  case atStart =>
    refine ⟨0, T, Nat.zero_le _, by rw [List.drop_zero], by rw [List.take_zero, List.append_nil]; exact HT.out, heap_alloc2_old w _ _, heap_alloc2_new w _ _, ?_⟩
    exact ((Below.refl _ _).alloc (Nat.le_refl _) _).alloc (by simp) _
  case round =>
    clear HT
    obtain ⟨j, U, hj, rfl, hT, a1, z1, K⟩ := hrel
    obtain ⟨R, hR⟩ : ∃ R, R = S.drop j := ⟨_, rfl⟩
    have hRl : R.length = S.length - j := by rw [hR, List.length_drop]
    obtain ⟨L, hL⟩ : ∃ L, L = l ++ S.take j := ⟨_, rfl⟩
    have hLl : L.length = l.length + j := by rw [hL, List.length_append, List.length_take, Nat.min_eq_left hj]
    rw [← hL] at hT
    rw [← hR]
    by_cases h0 : 0 < R.length
    · obtain ⟨blk, hb1, hb2, hTx⟩ := hT
      have hm : (txt (absorb (L.length / 64) L) blk L.length)[72]? = some (.int .i64 L.length) := txt_last _ _ _ hb1
      subst hTx
      obtain ⟨m, hm'⟩ : ∃ m, m = L.length := ⟨_, rfl⟩
      have hmb : m ≤ 1000000000000000 := by omega
      obtain ⟨st, hst⟩ : ∃ st, st = absorb (L.length / 64) L := ⟨_, rfl⟩
      obtain ⟨q, hq⟩ : ∃ q, q = m % 64 := ⟨_, rfl⟩
      have hq64 : q < 64 := by omega
      rw [← hst, ← hm'] at a1 hm
      have cm : wr.cell? ⟨w.heap.size, 72, none⟩ = some (.int .i64 m) := (cell_of_row _ _ _ _ _ _ a1).trans hm
      have eq : (m : Int) % 64 = (q : Int) := by omega
      have hts := txt_size st blk m hb1
      obtain ⟨X, hX⟩ : ∃ X, X = txt st blk m := ⟨_, rfl⟩
      rw [← hX] at a1 hts
      obtain ⟨k, hk⟩ : ∃ k, k = min R.length (64 - q) := ⟨_, rfl⟩
      have hRs := str_size R
      have hkR : k ≤ R.length := by omega
      have hk0 : 0 < k := by omega
      have hqk : q + k ≤ 64 := by omega
      have hx : (R.take k).length = k := by rw [List.length_take]; omega
      have hlay : laidOver X (8 + q) (firstB (str R) k) = txt st (blkOver blk q (R.take k)) m := by
        rw [hX]
        unfold firstB
        rw [str_list]
        exact txt_lay_block st blk m q (R.take k) hb1 (by omega)
      have hb1' : (blkOver blk q (R.take k)).length = 64 := by rw [blkOver_len _ _ _ (by omega), hb1]
      have hLx : L ++ R.take k = l ++ S.take (j + k) := by
        rw [hL, hR, List.append_assoc, List.take_add]
      have hRd : R.drop k = S.drop (j + k) := by rw [hR, List.drop_drop]
      have hfull : q + k = 64 → IsText (l ++ S.take (j + k)) (txt (proc st (blkOver blk q (R.take k))) (blkOver blk q (R.take k)) (m + k)) := fun h => by
        have := text_full L (R.take k) blk hb1 hb2 (by omega)
        rw [hx, ← hst, ← hm', ← hq, hLx] at this
        exact this
      have hpart : q + k < 64 → IsText (l ++ S.take (j + k)) (txt st (blkOver blk q (R.take k)) (m + k)) := fun h => by
        have := text_part L (R.take k) blk hb1 hb2 (by omega)
        rw [hx, ← hst, ← hm', ← hq, hLx] at this
        exact this
      have hslo : st.lo := by rw [hst]; exact absorb_lo _ _
      have hex : (str R).extract k (str R).size = str (R.drop k) := by rw [hRs]; exact str_drop R k
      have hkS : (k : Int) ≤ ((str R).size : Int) := by rw [hRs]; omega
      have hkS' : k ≤ (str R).size := by rw [hRs]; omega
      obtain ⟨bk, hbk⟩ : ∃ bk, bk = blkOver blk q (R.take k) := ⟨_, rfl⟩
      rw [← hbk] at hlay hb1' hfull hpart
      have hY := txt_set st bk m (m + k) hb1'
      have hY72 := txt_last st bk m hb1'
      have hYs := txt_size st bk m hb1'
      have hY's := txt_size st bk (m + k) hb1'
      have hst8 := txt_state st bk (m + k)
      have hbk8 := txt_block st bk (m + k) hb1'
      have hst9 := txt_lay_state st (proc st bk) bk (m + k)
      obtain ⟨Y, hYY⟩ : ∃ Y, Y = txt st bk m := ⟨_, rfl⟩
      obtain ⟨Y', hYY'⟩ : ∃ Y', Y' = txt st bk (m + k) := ⟨_, rfl⟩
      obtain ⟨Y2, hYY2⟩ : ∃ Y', Y' = txt (proc st bk) bk (m + k) := ⟨_, rfl⟩
      rw [← hYY] at hlay hY hY72 hYs
      rw [← hYY'] at hY hY's hst8 hbk8 hst9 hpart
      rw [← hYY2] at hst9 hfull
      have g1 := setRow_heap wr w.heap.size X Y 53 (0, 0) a1
      have gz := (setRow_other wr w.heap.size (w.heap.size + 1) Y (by omega)).trans z1
      have cm2 : (wr.setRow w.heap.size Y).cell? ⟨w.heap.size, 72, none⟩ = some (.int .i64 m) := (cell_of_row _ _ _ _ _ _ g1).trans hY72
      have fm2 : (wr.setRow w.heap.size Y).frozen? ⟨w.heap.size, 72, none⟩ = false := frozen_of_row _ _ _ _ _ g1
      have KK := below_setRow K (Nat.le_refl _) Y
      obtain ⟨W2, hW2⟩ : ∃ W2, W2 = wr.setRow w.heap.size Y := ⟨_, rfl⟩
      rw [← hW2] at g1 gz cm2 fm2 KK
      have hv : ((m + k : Nat) : Int) = (m : Int) + (k : Int) := by omega
      have g2 := heap_setCell_same W2 w.heap.size 72 Y 53 (.int .i64 ((m + k : Nat) : Int)) g1
      rw [hY, hv] at g2
      have gz2 := (heap_setCell_other W2 ⟨w.heap.size, 72, none⟩ (w.heap.size + 1) (.int .i64 ((m : Int) + k)) (by show ¬ w.heap.size + 1 = w.heap.size; omega)).trans gz
      have K2 := KK.setCell (p := ⟨w.heap.size, 72, none⟩) (Nat.le_refl _) (.int .i64 ((m : Int) + k))
      have HHW := Lib.hid hW2
      have HLAY := Lib.hid hlay
      have HMIN : Hid (Nat.min (str R).size (64 - q) = k) := by
        have : Nat.min R.length (64 - q) = k := hk.symm
        rw [hRs]; exact this
      have HTS := Lib.hid hts
      have HQ64 : Hid (8 + q + (64 - q) ≤ X.size) := by
        have : 8 + q + (64 - q) ≤ X.size := by omega
        exact this
      have HFULL := Lib.hid hfull
      have HPART := Lib.hid hpart
      have HB1 := Lib.hid hb1'
      have HS8 := Lib.hid hst8
      have HB8 := Lib.hid hbk8
      have HS9 := Lib.hid hst9
      have HYS := Lib.hid hY's
      have HY8 : Hid (0 + 8 ≤ Y'.size) := by
        have : 0 + 8 ≤ Y'.size := by omega
        exact this
      have HY64 : Hid (8 + 64 ≤ Y'.size) := by
        have : 8 + 64 ≤ Y'.size := by omega
        exact this
      have hNs : (nuA (proc st bk).list).size = 8 := by rw [nuA_size]; rfl
      have HPS : Hid (0 + (nuA (proc st bk).list).size ≤ Y'.size) := by
        have : 0 + (nuA (proc st bk).list).size ≤ Y'.size := by omega
        exact this
      have HRD := Lib.hid hRd
      have HLX := Lib.hid hLx
      have HG2 := Lib.hid g2
      have HGZ2 := Lib.hid gz2
      have HRS := Lib.hid hRs
      have hjk : j + k ≤ S.length := by omega
      have HY2 := Lib.hid hYY2
      have hN : R.length - k < R.length := by omega
      have HN := Lib.hid hN
      have hsmall : (m : Int) + k ≤ 9223372036854775807 := by omega
      have h0' : 0 < (str R).size := by rw [hRs]; exact h0
      have hsl := fun w' => run_cut_arr (P := Tryd.prog) w' 51 5 64 w.heap.size 8 q .i64 Tryd.underlying51 infoU8 hq64
      have HRDS := Lib.hid (str_size (R.drop k))
      by_cases hc : q + k = 64
      · have em : ((m : Int) + k) % 64 = 0 := by omega
        have PR := processed_any st hslo bk hb1'
        have hPi := infoSt (proc st bk)
        have hP1 := nuA_one (proc st bk).list
        have HPI := Lib.hid hPi
        have HP1 := Lib.hid hP1
        clear hX hm hm' hst hq hk hR hL hRl hLl hb1 hb2 hts hRs hx hlay hb1' hfull hpart hbk hY hY72 hYs hY's hst8 hbk8 hst9 hYY hYY' hYY2 hRd hLx g1 gz hW2 hv g2 gz2 hPi hP1 hNs
        go_wp2_with (first
          | ((with_reducible refine wpList_copy_str rfl _ _ _ _ rfl 5 Tryd.underlying60 infoU8 w.heap.size (8 + q) (64 - q) (64 - q) (str R) rfl rfl X 53 a1 k HMIN.out HQ64.out Y HLAY.out ?_); rw [← HHW.out])
          | (with_reducible refine wpList_load_sub rfl _ _ rfl w.heap.size 0 8 rfl 53 Y' (0, 0) _ HG2.out Tryd.underlying39 rfl infoS8 HY8.out _ HS8.out ?_)
          | (with_reducible refine wpList_load_sub rfl _ _ rfl w.heap.size 8 64 rfl 53 Y' (0, 0) _ HG2.out Tryd.underlying51 rfl infoB64 HY64.out _ HB8.out ?_))
        obtain ⟨W3, hW3⟩ : ∃ W3, W3 = W2.setCell ⟨w.heap.size, 72, none⟩ (.int .i64 ((m : Int) + k)) := ⟨_, rfl⟩
        rw [← hW3]
        have g3 := HG2.out
        have gz3 := HGZ2.out
        rw [← hW3] at K2 g3 gz3
        refine (PR _ (hK.later K2)).mono ?_
        rintro e w4 ⟨rfl, hb4⟩
        have K4 := Below.then' K2 hb4 K2.size
        have g4 := (hb4.block _ (Array.getElem?_eq_some_iff.1 g3).1).trans g3
        have gz4 := (hb4.block _ (Array.getElem?_eq_some_iff.1 gz3).1).trans gz3
        clear hb4 hW3 g3 gz3 K2
        go_wp2_with ((with_reducible refine wpList_store_sub rfl _ _ _ rfl w.heap.size 0 (nuA (proc st bk).list) rfl rfl 53 Y' g4 HPI.out HPS.out HP1.out ?_); rw [HS9.out])
        simp only [Act.put]
        go_roundw
        case rel =>
          exact ⟨j + k, Y2, hjk, by rw [← HRD.out], HFULL.out hc, setRow_heap _ _ _ _ _ _ g4, (setRow_other _ _ _ _ (by omega)).trans gz4, below_setRow K4 (Nat.le_refl _) _⟩
        case measure =>
          have h1 := HRDS.out
          have h2 := HRS.out
          show (str (R.drop k)).size < (str R).size
          rw [h1, h2, List.length_drop]
          exact HN.out
      · have em : ¬ ((m : Int) + k) % 64 = 0 := by omega
        have hc' : q + k < 64 := by omega
        clear hX hm hm' hst hq hk hR hL hRl hLl hb1 hb2 hts hRs hx hlay hb1' hfull hpart hbk hY hY72 hYs hY's hst8 hbk8 hst9 hYY hYY' hYY2 hRd hLx g1 gz hW2 hv g2 gz2 hNs
        go_wp2_with ((with_reducible refine wpList_copy_str rfl _ _ _ _ rfl 5 Tryd.underlying60 infoU8 w.heap.size (8 + q) (64 - q) (64 - q) (str R) rfl rfl X 53 a1 k HMIN.out HQ64.out Y HLAY.out ?_); rw [← HHW.out])
        go_roundw
        case rel =>
          refine ⟨j + k, Y', hjk, by rw [HRD.out], HPART.out hc', HG2.out, HGZ2.out, K2⟩
        case measure =>
          have h1 := HRDS.out
          have h2 := HRS.out
          show (str (R.drop k)).size < (str R).size
          rw [h1, h2, List.length_drop]
          exact HN.out
    · have hRn : R = [] := List.eq_nil_of_length_eq_zero (by omega)
      have hjS : j = S.length := by omega
      have hL' : L = l ++ S := by rw [hL, hjS, List.take_of_length_le (Nat.le_refl _)]
      rw [hL'] at hT
      have hUi := isText_info hT
      have hU1 := isText_one hT
      have hUs := isText_size hT
      have hst0 : str R = ⟨#[]⟩ := by rw [hRn]; rfl
      rw [hst0]
      have HT := Lib.hid hT
      have HUI := Lib.hid hUi
      have HU1 := Lib.hid hU1
      have HUS : Hid (Z.size = U.size) := by
        have : Z.size = U.size := by rw [HZS.out, hUs]
        exact this
      clear hR hRl hL hLl hRn hjS hL' hT hUi hU1 hUs hst0 h0
      go_wp2_with (first
        | (with_reducible refine wpList_load_row rfl _ _ rfl w.heap.size rfl 53 U (0, 0) _ a1 Tryd.underlying53 rfl HUI.out ?_)
        | (with_reducible refine wpList_store_row rfl _ _ _ rfl (w.heap.size + 1) U rfl rfl 53 Z z1 HUI.out HUS.out HU1.out ?_))
      refine bodyPost_ret (results_cell_row Tryd.results22 _ _ (w.heap.size + 1) 53 U (0, 0) _ rfl (setRow_heap _ _ _ _ _ _ z1) Tryd.underlying53 rfl HUI.out) rfl ⟨U, HT.out, rfl, ?_⟩
      exact below_setRow K (by omega) _

end Go.Proofs.YtepcnedagmfpeaaDoor
