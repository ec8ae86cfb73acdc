/- The walk of RollPushes. -/
import Derived.Test.YtopdgjfgdodgeaaDoorRollLaw
namespace Go.Proofs.YtopdgjfgdodgeaaDoor
open Go.RowKit

theorem cut_mid (s : ByteArray) (f n : Nat) (hn : n ≤ s.size) (hf : f ≤ n) : (s.extract f n).data.toList = (s.data.toList.take n).drop f ∧ (s.extract f n).size = n - f := by
  have e : (s.extract f n).data.toList = (s.data.toList.take n).drop f := by
    have h := Lib.extract_eq s f n
    rw [h, List.drop_take]
  refine ⟨e, ?_⟩
  rw [← data_len, e, List.length_drop, List.length_take, data_len]
  omega

theorem rsum_nil0 : rsum [] = 0 := rfl

set_option maxRecDepth 100000 in
set_option maxHeartbeats 16000000 in
theorem walk_rollPushes (w : World) (s : ByteArray) (_hs : s.size ≤ maxLen) (v : Value) (zs : List Int) (hv : IntAt .u8 zs v w) (hz : zs.length ≤ maxLen ∧ ∀ n ∈ zs, (Lit.int .u8 n).wf = true) (hT : TabAt w) :
    Calls Tryd.prog 6 #[.string s, v] w (LawPost w) := by
  have hlen := hz.1
  unfold maxLen at hlen
  have HW8 := Lib.hid hz.2
  obtain ⟨p, c, rfl, hc⟩ := hv
  have HC := Lib.hid hc
  have hTB := tab_lt hT
  have hdl := data_len s
  obtain ⟨L, hL⟩ : ∃ L, L = s.data.toList := ⟨_, rfl⟩
  rw [← hL] at hdl
  have HL := Lib.hid hL
  have HDL := Lib.hid hdl
  obtain ⟨B, hB⟩ : ∃ B, B = w.heap.size := ⟨_, rfl⟩
  have HB := Lib.hid hB
  rw [← hB] at hTB
  clear hc hz hL hdl hB
  by_cases h3 : (300 : Int) < s.size
  · clear _hs
    go_enter Tryd.func6, Tryd.ntmps6
    go_wp2_with fail
    refine (new_any _).mono ?_
    rintro e w1 ⟨rfl, hI1, K1⟩
    go_wp2_with fail
    refine (awake_any _ (hT.later K1)).mono ?_
    rintro e w2 ⟨rfl, hb2⟩
    go_wp2
    go_ret
    exact ⟨rfl, Below.then' K1 hb2 K1.size⟩
  · clear _hs
    have hs3 : s.size ≤ 300 := by omega
    go_enter Tryd.func6, Tryd.ntmps6
    go_wp2_with fail
    refine (new_any _).mono ?_
    rintro e w1 ⟨rfl, hI1, K1⟩
    rw [← HB.out] at hI1 K1 ⊢
    go_wp2
    go_loopw [6, 7] (fun y x wr => ∃ (i f : Nat), f ≤ i ∧ i ≤ s.size ∧ x = .int .i64 i ∧ y = .int .i64 f ∧ IsRoll B ((L.take i).drop f) wr ∧ Below B w wr) (fun _ x _ => s.size - (intOf x).toNat)
    case atStart => exact ⟨0, 0, Nat.le_refl _, Nat.zero_le _, rfl, rfl, hI1, K1⟩
    case round =>
      clear hI1 K1
      obtain ⟨i, f, hfi, hi, rfl, rfl, hI, K⟩ := hrel
      by_cases hlt : i < s.size
      · have b0 : decide ((i : Int) < s.size) = true := by simp; omega
        go_wp2
        go_loopw [6, 8] (fun y x wq => ∃ (k f : Nat), f ≤ i ∧ k ≤ 5 ∧ x = .int .i64 k ∧ y = .int .i64 f ∧ IsRoll B ((L.take i).drop f) wq ∧ Below B w wq) (fun _ x _ => 5 - (intOf x).toNat)
        case atStart => exact ⟨0, f, hfi, by omega, rfl, rfl, hI, K⟩
        case round =>
          clear hI K hfi
          obtain ⟨k, f, hfi, hk, rfl, rfl, hI, K⟩ := hrel
          by_cases hin : (k : Int) < zs.length ∧ (k : Int) < 5
          · obtain ⟨hk1, hk5⟩ := hin
            rcases HC.out with h | ⟨b, off, rfl, hcell⟩
            · rw [h] at hk1; simp at hk1; omega
            have hkl : k < zs.length := by omega
            have hbl := World.block_lt_of_cell? _ _ (hcell k hkl)
            have k1 : wr.cell? ⟨b, off + k, none⟩ = some (.int .u8 zs[k]) := (K.cell (by rw [HB.out]; exact hbl)).trans (hcell k hkl)
            have hzr := wf_u8 (HW8.out zs[k] (List.getElem_mem hkl))
            obtain ⟨z, hz⟩ : ∃ z, z = zs[k] := ⟨_, rfl⟩
            rw [← hz] at k1 hzr
            obtain ⟨hz0, hz255⟩ := hzr
            have hwB : B ≤ wr.heap.size := by have := K.size; have := HB.out; omega
            clear hcell hz HC hbl
            by_cases hzi : z = (i : Int)
            · have b1 : (z == (i : Int)) = true := by rw [hzi]; exact beq_self_eq_true _
              have RE := reset_any B B (Nat.le_refl _) _ wr hwB hI
              clear hI hzi
              go_wp2_with fail
              refine RE.mono ?_
              rintro e w2 ⟨rfl, hI2, hb2⟩
              have K2 := K.trans hb2
              clear hb2 K RE k1 hwB
              have hw2 : B ≤ w2.heap.size := by have := K2.size; have := HB.out; omega
              have SU := sumr_any B [] (by simp) w2 hI2 (tab_keep hT hTB K2)
              rw [rsum_nil0] at SU
              go_wp2_with fail
              refine SU.mono ?_
              rintro e w3 ⟨rfl, hb3⟩
              have hI3 := hI2.later hb3
              have K3 := Below.then' K2 hb3 hw2
              clear hb3 hI2 K2 SU hw2
              have LN : Calls Tryd.prog 21 #[.pointer (some ⟨B, 0, none⟩)] w3 fun e w' => e = .returned (.int .i64 0) ∧ w3 = w' := len_any B [] w3 hI3
              go_wp2_with fail
              refine LN.mono ?_
              rintro e w' ⟨rfl, rfl⟩
              clear LN
              go_wp2
              go_roundw
              case rel => exact ⟨k + 1, i, Nat.le_refl _, by omega, by go_num, rfl, by rw [List.drop_eq_nil_of_le (by rw [List.length_take]; omega)]; exact hI3, K3⟩
              case measure => simp [intOf]; omega
            · have b1 : (z == (i : Int)) = false := by simpa using hzi
              clear hzi
              go_wp2
              go_roundw
              case rel => exact ⟨k + 1, f, hfi, by omega, by go_num, rfl, hI, K⟩
              case measure => simp [intOf]; omega
          · have hex : ¬ (k : Int) < zs.length ∨ (k : Int) < zs.length ∧ ¬ (k : Int) < 5 := by omega
            clear hin
            have hwB : B ≤ wr.heap.size := by have := K.size; have := HB.out; omega
            have hiL : i < L.length := by rw [HDL.out]; exact hlt
            have hcut := cut_mid s f (i + 1) (by omega) (by omega)
            rw [← HL.out] at hcut
            have hmo := seg_more L f i hfi hiL
            have hlen2 : ((L.take i).drop f).length = i - f := by rw [List.length_drop, List.length_take]; omega
            have hlen3 : ((L.take (i + 1)).drop f).length = i + 1 - f := by rw [List.length_drop, List.length_take]; omega
            obtain ⟨ch, hch⟩ : ∃ ch : UInt8, L[i] = ch := ⟨_, rfl⟩
            rw [hch] at hmo
            have hc1 : s[i].toNat = ch.toNat := by subst hch; simp only [HL.out]; rfl
            have hc2 : (s.data[i]'hlt).toNat = ch.toNat := hc1
            obtain ⟨tx, htx⟩ : ∃ tx, s.extract f (i + 1) = tx := ⟨_, rfl⟩
            rw [htx] at hcut
            have RS := rsum_any tx (by unfold maxLen; omega) wr
            rw [hcut.1] at RS
            have PU := push_any B B (Nat.le_refl _) ((L.take i).drop f) (by omega) ch wr hwB hI (tab_keep hT hTB K) hTB
            rw [← hmo] at PU
            have SU := fun w' h h' => sumr_any B ((L.take (i + 1)).drop f) (by omega) w' h h'
            have LN := fun w' h => len_any B ((L.take (i + 1)).drop f) w' h
            rw [hlen3] at LN
            obtain ⟨M, hM⟩ : ∃ M, M = (L.take (i + 1)).drop f := ⟨_, rfl⟩
            rw [← hM] at RS PU SU LN
            obtain ⟨r, hr⟩ : ∃ r, r = rsum M := ⟨_, rfl⟩
            rw [← hr] at RS PU SU
            obtain ⟨q, hq⟩ : ∃ q : Nat, q = ch.toNat := ⟨_, rfl⟩
            rw [← hq] at hc1 hc2 PU
            obtain ⟨d, hd⟩ : ∃ d, d = i + 1 - f := ⟨_, rfl⟩
            rw [← hd] at LN
            have hd2 : (i : Int) + 1 - (f : Int) = (d : Int) := by omega
            have e1 : ((i : Int) + 1).toNat = i + 1 := by omega
            have l1 : (f : Int) ≤ (i : Int) + 1 := by omega
            have l2 : (i : Int) + 1 ≤ s.size := by omega
            have l3 : f ≤ i + 1 := by omega
            have l4 : i + 1 ≤ s.size := by omega
            have l5 : (i : Int) < s.size := by omega
            have HM := Lib.hid hM
            clear hI hcut hmo hlen2 hlen3 hch hM hr hq hd hiL
            rcases hex with hx | ⟨hx, hx5⟩
            all_goals
              go_wp2_with fail
              refine RS.mono ?_
              rintro e w' ⟨rfl, rfl⟩
              go_wp2_with fail
              refine PU.mono ?_
              rintro e w2 ⟨rfl, hI2, hb2⟩
              have K2 := K.trans hb2
              have hw2 : B ≤ w2.heap.size := by have := K2.size; have := HB.out; omega
              go_wp2_with fail
              refine (SU _ hI2 (tab_keep hT hTB K2)).mono ?_
              rintro e w3 ⟨rfl, hb3⟩
              have hI3 := hI2.later hb3
              have K3 := Below.then' K2 hb3 hw2
              go_wp2_with fail
              refine (LN _ hI3).mono ?_
              rintro e w' ⟨rfl, rfl⟩
              go_wp2
              go_roundw
              case rel => exact ⟨i + 1, f, by omega, by omega, by go_num, rfl, by rw [← HM.out]; exact hI3, K3⟩
              case measure => simp [intOf]; omega
      · have hge : ¬ (i : Int) < s.size := by omega
        have hKw : Below w.heap.size w wr := by rw [← HB.out]; exact K
        have RN := reset_no
        have PN := push_no
        have SN := sumr_no
        have LN := len_no
        clear hI K hlt
        go_wp2_with fail
        refine (RN _).mono ?_
        rintro e w' ⟨rfl, rfl⟩
        go_wp2_with fail
        refine (PN _ _).mono ?_
        rintro e w' ⟨rfl, rfl⟩
        go_wp2_with fail
        refine (SN _).mono ?_
        rintro e w' ⟨rfl, rfl⟩
        go_wp2_with fail
        refine (LN _).mono ?_
        rintro e w' ⟨rfl, rfl⟩
        go_wp2_with fail
        refine (awake_any _ (hT.later hKw)).mono ?_
        rintro e w2 ⟨rfl, hb2⟩
        go_wp2
        go_ret
        exact ⟨rfl, Below.then' hKw hb2 hKw.size⟩

end Go.Proofs.YtopdgjfgdodgeaaDoor
