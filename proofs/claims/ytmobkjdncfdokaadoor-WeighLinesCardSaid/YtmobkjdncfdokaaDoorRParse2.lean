/- The walk of the document's Parse, whole. -/
import Derived.Test.YtmobkjdncfdokaaDoorRParse
import Derived.Laws.ResultCell
namespace Go.Proofs.YtmobkjdncfdokaaDoor
open Go.RowKit

/-- What the loop holds. -/
def RpAt (w : World) (s : ByteArray) (k : Nat) (wr : World) : Prop :=
  wr.heap[w.heap.size]? = some (.cells #[.int .i64 0, .int .i64 0] 27 (0, 0)) ∧ Below w.heap.size w wr ∧ NotYet s k

set_option maxRecDepth 100000 in
set_option maxHeartbeats 8000000 in
theorem rparse_any (s : ByteArray) (hs : s.size ≤ 60) (w : World) :
    Calls Tryd.prog 7 #[.string s] w (RParsePost w s) := by
  have hl := data_len s
  obtain ⟨l, hle⟩ : ∃ l, l = s.data.toList := ⟨_, rfl⟩
  have hat : ∀ i (hi : i < s.size), (s[i]'hi).toNat = (l.getD i 0).toNat ∧ (s.data[i]'hi).toNat = (l.getD i 0).toNat := by
    intro i hi
    have : l.getD i 0 = s[i]'hi := by
      rw [hle, List.getD_eq_getElem?_getD, Lib.data_getElem? s i hi]; rfl
    rw [this]
    exact ⟨rfl, rfl⟩
  have htx : ∀ a b, s = str (textW a b) → l = textW a b := fun a b h => by rw [hle, h, str_list]
  have HX := Lib.hid htx
  have HE := Lib.hid hle
  rw [← hle] at hl
  clear hle htx
  have HAT := Lib.hid hat
  have HL := Lib.hid hl
  clear hat hl
  have HR0 : Hid (RpAt w s 1 (w.alloc (.cells #[.int .i64 0, .int .i64 0] 27))) := ⟨heap_alloc_last w _, (Below.refl _ _).alloc (Nat.le_refl _) _, fun a b hv _ => (itoa_len a hv.1).1⟩
  have hsi : (s.size : Int) ≤ 60 := by omega
  go_enter Tryd.func7, Tryd.ntmps7
  go_wp2
  go_loopw [4] (fun x wr => ∃ k : Nat, 1 ≤ k ∧ k ≤ 61 ∧ x = .int .i64 k ∧ RpAt w s k wr) (fun x _ => 70 - (intOf x).toNat)
  case atStart => exact ⟨1, Nat.le_refl _, by omega, rfl, HR0.out⟩
  case round =>
    clear HR0
    obtain ⟨k, hk1, hk61, rfl, h0, K, hny⟩ := hrel
    have HNY := Lib.hid hny
    clear hny
    by_cases hlt : k + 1 < s.size
    · have hlti : (k : Int) < (s.size : Int) - 1 := by omega
      have hk1i : (1 : Int) ≤ k := by omega
      have hki : (k : Int) < s.size := by omega
      obtain ⟨q1, q2⟩ := HAT.out k (by omega)
      obtain ⟨b, hb⟩ : ∃ b, (l.getD k 0).toNat = b := ⟨_, rfl⟩
      rw [hb] at q1 q2
      have next : (∀ a b', Valid a b' → s = str (textW a b') → k ≠ (Lib.itoa a).length) → NotYet s (k + 1) := fun h a b' hv he => by
        have h1 := HNY.out a b' hv he
        have h2 := h a b' hv he
        omega
      have HNX := Lib.hid next
      clear next
      by_cases hsg : b = 43 ∨ b = 45
      · obtain ⟨r1, r2⟩ := HAT.out (s.size - 1) (by omega)
        obtain ⟨z, hz⟩ : ∃ z, (l.getD (s.size - 1) 0).toNat = z := ⟨_, rfl⟩
        rw [hz] at r1 r2
        by_cases h105 : z = 105
        · subst h105
          have hUd : (s.extract 0 k).data.toList = l.take k := by rw [ext_take, ← HE.out]
          have hU60 : (s.extract 0 k).size ≤ 60 := by have := data_extract s 0 k; omega
          have HUs : Hid ((s.extract 0 k).size = k) := by
            have : (s.extract 0 k).size = k := by rw [ByteArray.size_extract]; omega
            exact Lib.hid this
          have hU0 : ∀ h : 0 < (s.extract 0 k).size, ((s.extract 0 k)[0]'h).toNat = (l.getD 0 0).toNat ∧ ((s.extract 0 k).data[0]'h).toNat = (l.getD 0 0).toNat := by
            intro h
            have e : (s.extract 0 k).data.toList[0]? = l[0]? := by rw [hUd, List.getElem?_take, if_pos (by omega)]
            rw [Lib.data_getElem? (s.extract 0 k) 0 h] at e
            have : l.getD 0 0 = (s.extract 0 k)[0]'h := by rw [List.getD_eq_getElem?_getD, ← e]; rfl
            rw [this]
            exact ⟨rfl, rfl⟩
          have hVd : (s.extract (k + 1) (s.size - 1)).data.toList = sndB l k := by
            rw [Lib.extract_eq s (k + 1) (s.size - 1), ← HE.out]
            unfold sndB
            rw [HL.out, List.drop_take]
          have hV60 : (s.extract (k + 1) (s.size - 1)).size ≤ 60 := by have := data_extract s (k + 1) (s.size - 1); omega
          obtain ⟨U, hU⟩ : ∃ U, s.extract 0 k = U := ⟨_, rfl⟩
          obtain ⟨V, hV⟩ : ∃ V, s.extract (k + 1) (s.size - 1) = V := ⟨_, rfl⟩
          rw [hU] at hUd hU60 HUs
          simp only [hU] at hU0
          rw [hV] at hVd hV60
          have SV := size_any V hV60
          rw [hVd] at SV
          have hUp : 0 < U.size := by rw [HUs.out]; omega
          obtain ⟨u1, u2⟩ := hU0 hUp
          obtain ⟨c, hc⟩ : ∃ c, (l.getD 0 0).toNat = c := ⟨_, rfl⟩
          rw [hc] at u1 u2
          have hUpos : (1 : Int) ≤ U.size := by omega
          have hUi : (U.size : Int) ≤ 60 := by omega
          have el : ((s.size : Int) - 1).toNat = s.size - 1 := by omega
          have ek : ((k : Int) + 1).toNat = k + 1 := by omega
          have ekl : (k : Int) + 1 ≤ (s.size : Int) - 1 := by omega
          clear hU0 hV60 hVd
          by_cases hc45 : c = 45
          · subst hc45
            have hnegb : isMinus (l.getD 0 0) = true := by unfold isMinus; rw [hc]; rfl
            rcases hsg with rfl | rfl
            · have hminb : isMinus (l.getD k 0) = false := by unfold isMinus; rw [hb]; rfl
              clear hz hb hc
              obtain ⟨A, hA⟩ : ∃ A, U.extract 1 U.size = A := ⟨_, rfl⟩
              have hAd : A.data.toList = fstB l k true := by rw [← hA, ext_drop U 1, hUd]; rfl
              have hA60 : A.size ≤ 60 := by have := data_extract U 1 U.size; rw [hA] at this; omega
              have SA := size_any A hA60
              rw [hAd] at SA
              have FD : ∀ a b', Valid a b' → s = str (textW a b') → k = (Lib.itoa a).length → (sizeR (fstB l k true)).2 = true ∧ (sizeR (sndB l k)).2 = true ∧ byNeg true (sizeR (fstB l k true)).1 = a ∧ byNeg false (sizeR (sndB l k)).1 = b' := fun a b' hv he hkk => found hv (HX.out a b' he) hkk true false hnegb hminb
              have bx := sizeR_lt (fstB l k true)
              have by' := sizeR_lt (sndB l k)
              have vx := sizeR_bound (fstB l k true)
              have vy := sizeR_bound (sndB l k)
              obtain ⟨x, hx⟩ : ∃ x, x = (sizeR (fstB l k true)).1 := ⟨_, rfl⟩
              obtain ⟨y, hy⟩ : ∃ y, y = (sizeR (sndB l k)).1 := ⟨_, rfl⟩
              obtain ⟨ok, hok⟩ : ∃ ok, ok = (sizeR (fstB l k true)).2 := ⟨_, rfl⟩
              obtain ⟨is, his⟩ : ∃ is, is = (sizeR (sndB l k)).2 := ⟨_, rfl⟩
              rw [← hx, ← hok] at SA
              rw [← hy, ← his] at SV
              rw [← hx, ← hy, ← hok, ← his] at FD
              rw [← hx] at bx vx
              rw [← hy] at by' vy
              rw [← hok] at vx
              rw [← his] at vy
              have HFD := Lib.hid FD
              have bxi : (x : Int) < 10000000000000000 := by omega
              have byi : (y : Int) < 10000000000000000 := by omega
              clear FD hx hy hok his hUd hAd hnegb hminb bx by' hU60 hA60
              obtain ⟨Z9, hZ9⟩ : ∃ Z9, Z9 = wr.alloc (.cells #[.int .i64 (-(x : Int)), .int .i64 (y : Int)] 27) := ⟨_, rfl⟩
              have KZ : Below w.heap.size w Z9 := by rw [hZ9]; exact K.alloc K.size _
              have Zr : Z9.heap[w.heap.size]? = some (.cells #[.int .i64 0, .int .i64 0] 27 (0, 0)) := by rw [hZ9]; exact (Below.heap_alloc _ _ _ (Array.getElem?_eq_some_iff.1 h0).1).trans h0
              have Zn : Z9.heap[wr.heap.size]? = some (.cells #[.int .i64 (-(x : Int)), .int .i64 (y : Int)] 27 (0, 0)) := by rw [hZ9]; exact heap_alloc_last wr _
              have HZ9 := Lib.hid hZ9
              clear hZ9
              cases ok with
              | false =>
                have HN : Hid (NotYet s (k + 1)) := HNX.out fun a b' hv he hkk => by have := (HFD.out a b' hv he hkk).1; cases this
                go_wp2_with fail
                refine (SA _).mono ?_
                rintro e w' ⟨rfl, rfl⟩
                go_wp2_with fail
                refine (SV _).mono ?_
                rintro e w' ⟨rfl, rfl⟩
                go_wp2
                rw [← HZ9.out]
                go_roundw
                case rel => exact ⟨k + 1, by omega, by omega, by go_num, Zr, KZ, HN.out⟩
                case measure => simp [intOf]; omega
              | true =>
                cases is with
                | false =>
                  have HN : Hid (NotYet s (k + 1)) := HNX.out fun a b' hv he hkk => by have := (HFD.out a b' hv he hkk).2.1; cases this
                  go_wp2_with fail
                  refine (SA _).mono ?_
                  rintro e w' ⟨rfl, rfl⟩
                  go_wp2_with fail
                  refine (SV _).mono ?_
                  rintro e w' ⟨rfl, rfl⟩
                  go_wp2
                  rw [← HZ9.out]
                  go_roundw
                  case rel => exact ⟨k + 1, by omega, by omega, by go_num, Zr, KZ, HN.out⟩
                  case measure => simp [intOf]; omega
                | true =>
                  have hva : Valid (-(x : Int)) (y : Int) := by
                    have h1 := vx rfl
                    have h2 := vy rfl
                    unfold Valid
                    omega
                  have RT := rtext_any (-(x : Int)) (y : Int) hva
                  unfold wW at RT
                  have HVA := Lib.hid hva
                  clear hva vx vy
                  by_cases hR : str (textW (-(x : Int)) (y : Int)) = s
                  · have HR := Lib.hid hR.symm
                    rw [hR] at RT
                    clear hR
                    go_wp2_with fail
                    refine (SA _).mono ?_
                    rintro e w' ⟨rfl, rfl⟩
                    go_wp2_with fail
                    refine (SV _).mono ?_
                    rintro e w' ⟨rfl, rfl⟩
                    go_wp2_with fail
                    rw [← HZ9.out]
                    refine (RT _).mono ?_
                    rintro e w5 ⟨rfl, hb5⟩
                    have K5 := Below.then' KZ hb5 KZ.size
                    have R5 := (hb5.block _ (Array.getElem?_eq_some_iff.1 Zr).1).trans Zr
                    have N5 := (hb5.block _ (Array.getElem?_eq_some_iff.1 Zn).1).trans Zn
                    clear hb5 KZ Zr Zn
                    have c0 : w5.cell? ⟨wr.heap.size, 0, none⟩ = some (.int .i64 (-(x : Int))) := (cell_of_row _ _ 0 _ _ _ N5).trans rfl
                    have c1 : w5.cell? ⟨wr.heap.size, 1, none⟩ = some (.int .i64 (y : Int)) := (cell_of_row _ _ 1 _ _ _ N5).trans rfl
                    have e0 : w5.cell? ⟨w.heap.size, 0, none⟩ = some (.int .i64 0) := (cell_of_row _ _ 0 _ _ _ R5).trans rfl
                    have e1 : w5.cell? ⟨w.heap.size, 1, none⟩ = some (.int .i64 0) := (cell_of_row _ _ 1 _ _ _ R5).trans rfl
                    have g0 := frozen_of_row w5 w.heap.size 0 _ _ R5
                    have g1 := frozen_of_row w5 w.heap.size 1 _ _ R5
                    have z1 := heap_setCell_same w5 w.heap.size 0 _ _ (.int .i64 (-(x : Int))) R5
                    have z2 := heap_setCell_same _ w.heap.size 1 _ _ (.int .i64 (y : Int)) z1
                    have z3 : ((w5.setCell ⟨w.heap.size, 0, none⟩ (.int .i64 (-(x : Int)))).setCell ⟨w.heap.size, 1, none⟩ (.int .i64 (y : Int))).heap[w.heap.size]? = some (.cells #[.int .i64 (-(x : Int)), .int .i64 (y : Int)] 27 (0, 0)) := by simpa using z2
                    have b1 : Below w.heap.size w (w5.setCell ⟨w.heap.size, 0, none⟩ (.int .i64 (-(x : Int)))) := K5.setCell (Nat.le_refl _) _
                    have b2 : Below w.heap.size w ((w5.setCell ⟨w.heap.size, 0, none⟩ (.int .i64 (-(x : Int)))).setCell ⟨w.heap.size, 1, none⟩ (.int .i64 (y : Int))) := b1.setCell (Nat.le_refl _) _
                    have HZ := Lib.hid z3
                    have HB := Lib.hid b2
                    clear z1 z2 z3 b1 b2 N5 R5 K5
                    go_wp2
                    refine bodyPost_ret (results_cell_tmp_row Tryd.results7 _ _ w.heap.size 27 #[.int .i64 (-(x : Int)), .int .i64 (y : Int)] (0, 0) _ rfl HZ.out Tryd.underlying27 rfl infoW) rfl ⟨Or.inl ⟨_, _, HVA.out, HR.out, rfl⟩, HB.out⟩
                  · have HN : Hid (NotYet s (k + 1)) := HNX.out fun a b' hv he hkk => by
                      obtain ⟨_, _, e1, e2⟩ := HFD.out a b' hv he hkk
                      simp only [byNeg, if_true, Bool.false_eq_true, if_false] at e1 e2
                      apply hR
                      rw [he, e1, e2]
                    have hneq : ((str (textW (-(x : Int)) (y : Int))).toList == s.toList) = false := by
                      rw [Lib.toList_data, Lib.toList_data]
                      refine beq_eq_false_iff_ne.2 fun e => hR ?_
                      apply ByteArray.ext
                      exact Array.toList_inj.1 e
                    obtain ⟨R, hRe⟩ : ∃ R, R = str (textW (-(x : Int)) (y : Int)) := ⟨_, rfl⟩
                    rw [← hRe] at RT hneq
                    clear hRe hR HVA
                    go_wp2_with fail
                    refine (SA _).mono ?_
                    rintro e w' ⟨rfl, rfl⟩
                    go_wp2_with fail
                    refine (SV _).mono ?_
                    rintro e w' ⟨rfl, rfl⟩
                    go_wp2_with fail
                    rw [← HZ9.out]
                    refine (RT _).mono ?_
                    rintro e w5 ⟨rfl, hb5⟩
                    have K5 := Below.then' KZ hb5 KZ.size
                    have R5 := (hb5.block _ (Array.getElem?_eq_some_iff.1 Zr).1).trans Zr
                    clear hb5 KZ Zr Zn
                    go_wp2
                    go_roundw
                    case rel => exact ⟨k + 1, by omega, by omega, by go_num, R5, K5, HN.out⟩
                    case measure => simp [intOf]; omega
            · have hminb : isMinus (l.getD k 0) = true := by unfold isMinus; rw [hb]; rfl
              clear hz hb hc
              obtain ⟨A, hA⟩ : ∃ A, U.extract 1 U.size = A := ⟨_, rfl⟩
              have hAd : A.data.toList = fstB l k true := by rw [← hA, ext_drop U 1, hUd]; rfl
              have hA60 : A.size ≤ 60 := by have := data_extract U 1 U.size; rw [hA] at this; omega
              have SA := size_any A hA60
              rw [hAd] at SA
              have FD : ∀ a b', Valid a b' → s = str (textW a b') → k = (Lib.itoa a).length → (sizeR (fstB l k true)).2 = true ∧ (sizeR (sndB l k)).2 = true ∧ byNeg true (sizeR (fstB l k true)).1 = a ∧ byNeg true (sizeR (sndB l k)).1 = b' := fun a b' hv he hkk => found hv (HX.out a b' he) hkk true true hnegb hminb
              have bx := sizeR_lt (fstB l k true)
              have by' := sizeR_lt (sndB l k)
              have vx := sizeR_bound (fstB l k true)
              have vy := sizeR_bound (sndB l k)
              obtain ⟨x, hx⟩ : ∃ x, x = (sizeR (fstB l k true)).1 := ⟨_, rfl⟩
              obtain ⟨y, hy⟩ : ∃ y, y = (sizeR (sndB l k)).1 := ⟨_, rfl⟩
              obtain ⟨ok, hok⟩ : ∃ ok, ok = (sizeR (fstB l k true)).2 := ⟨_, rfl⟩
              obtain ⟨is, his⟩ : ∃ is, is = (sizeR (sndB l k)).2 := ⟨_, rfl⟩
              rw [← hx, ← hok] at SA
              rw [← hy, ← his] at SV
              rw [← hx, ← hy, ← hok, ← his] at FD
              rw [← hx] at bx vx
              rw [← hy] at by' vy
              rw [← hok] at vx
              rw [← his] at vy
              have HFD := Lib.hid FD
              have bxi : (x : Int) < 10000000000000000 := by omega
              have byi : (y : Int) < 10000000000000000 := by omega
              clear FD hx hy hok his hUd hAd hnegb hminb bx by' hU60 hA60
              obtain ⟨Z9, hZ9⟩ : ∃ Z9, Z9 = wr.alloc (.cells #[.int .i64 (-(x : Int)), .int .i64 (-(y : Int))] 27) := ⟨_, rfl⟩
              have KZ : Below w.heap.size w Z9 := by rw [hZ9]; exact K.alloc K.size _
              have Zr : Z9.heap[w.heap.size]? = some (.cells #[.int .i64 0, .int .i64 0] 27 (0, 0)) := by rw [hZ9]; exact (Below.heap_alloc _ _ _ (Array.getElem?_eq_some_iff.1 h0).1).trans h0
              have Zn : Z9.heap[wr.heap.size]? = some (.cells #[.int .i64 (-(x : Int)), .int .i64 (-(y : Int))] 27 (0, 0)) := by rw [hZ9]; exact heap_alloc_last wr _
              have HZ9 := Lib.hid hZ9
              clear hZ9
              cases ok with
              | false =>
                have HN : Hid (NotYet s (k + 1)) := HNX.out fun a b' hv he hkk => by have := (HFD.out a b' hv he hkk).1; cases this
                go_wp2_with fail
                refine (SA _).mono ?_
                rintro e w' ⟨rfl, rfl⟩
                go_wp2_with fail
                refine (SV _).mono ?_
                rintro e w' ⟨rfl, rfl⟩
                go_wp2
                rw [← HZ9.out]
                go_roundw
                case rel => exact ⟨k + 1, by omega, by omega, by go_num, Zr, KZ, HN.out⟩
                case measure => simp [intOf]; omega
              | true =>
                cases is with
                | false =>
                  have HN : Hid (NotYet s (k + 1)) := HNX.out fun a b' hv he hkk => by have := (HFD.out a b' hv he hkk).2.1; cases this
                  go_wp2_with fail
                  refine (SA _).mono ?_
                  rintro e w' ⟨rfl, rfl⟩
                  go_wp2_with fail
                  refine (SV _).mono ?_
                  rintro e w' ⟨rfl, rfl⟩
                  go_wp2
                  rw [← HZ9.out]
                  go_roundw
                  case rel => exact ⟨k + 1, by omega, by omega, by go_num, Zr, KZ, HN.out⟩
                  case measure => simp [intOf]; omega
                | true =>
                  have hva : Valid (-(x : Int)) (-(y : Int)) := by
                    have h1 := vx rfl
                    have h2 := vy rfl
                    unfold Valid
                    omega
                  have RT := rtext_any (-(x : Int)) (-(y : Int)) hva
                  unfold wW at RT
                  have HVA := Lib.hid hva
                  clear hva vx vy
                  by_cases hR : str (textW (-(x : Int)) (-(y : Int))) = s
                  · have HR := Lib.hid hR.symm
                    rw [hR] at RT
                    clear hR
                    go_wp2_with fail
                    refine (SA _).mono ?_
                    rintro e w' ⟨rfl, rfl⟩
                    go_wp2_with fail
                    refine (SV _).mono ?_
                    rintro e w' ⟨rfl, rfl⟩
                    go_wp2_with fail
                    rw [← HZ9.out]
                    refine (RT _).mono ?_
                    rintro e w5 ⟨rfl, hb5⟩
                    have K5 := Below.then' KZ hb5 KZ.size
                    have R5 := (hb5.block _ (Array.getElem?_eq_some_iff.1 Zr).1).trans Zr
                    have N5 := (hb5.block _ (Array.getElem?_eq_some_iff.1 Zn).1).trans Zn
                    clear hb5 KZ Zr Zn
                    have c0 : w5.cell? ⟨wr.heap.size, 0, none⟩ = some (.int .i64 (-(x : Int))) := (cell_of_row _ _ 0 _ _ _ N5).trans rfl
                    have c1 : w5.cell? ⟨wr.heap.size, 1, none⟩ = some (.int .i64 (-(y : Int))) := (cell_of_row _ _ 1 _ _ _ N5).trans rfl
                    have e0 : w5.cell? ⟨w.heap.size, 0, none⟩ = some (.int .i64 0) := (cell_of_row _ _ 0 _ _ _ R5).trans rfl
                    have e1 : w5.cell? ⟨w.heap.size, 1, none⟩ = some (.int .i64 0) := (cell_of_row _ _ 1 _ _ _ R5).trans rfl
                    have g0 := frozen_of_row w5 w.heap.size 0 _ _ R5
                    have g1 := frozen_of_row w5 w.heap.size 1 _ _ R5
                    have z1 := heap_setCell_same w5 w.heap.size 0 _ _ (.int .i64 (-(x : Int))) R5
                    have z2 := heap_setCell_same _ w.heap.size 1 _ _ (.int .i64 (-(y : Int))) z1
                    have z3 : ((w5.setCell ⟨w.heap.size, 0, none⟩ (.int .i64 (-(x : Int)))).setCell ⟨w.heap.size, 1, none⟩ (.int .i64 (-(y : Int)))).heap[w.heap.size]? = some (.cells #[.int .i64 (-(x : Int)), .int .i64 (-(y : Int))] 27 (0, 0)) := by simpa using z2
                    have b1 : Below w.heap.size w (w5.setCell ⟨w.heap.size, 0, none⟩ (.int .i64 (-(x : Int)))) := K5.setCell (Nat.le_refl _) _
                    have b2 : Below w.heap.size w ((w5.setCell ⟨w.heap.size, 0, none⟩ (.int .i64 (-(x : Int)))).setCell ⟨w.heap.size, 1, none⟩ (.int .i64 (-(y : Int)))) := b1.setCell (Nat.le_refl _) _
                    have HZ := Lib.hid z3
                    have HB := Lib.hid b2
                    clear z1 z2 z3 b1 b2 N5 R5 K5
                    go_wp2
                    refine bodyPost_ret (results_cell_tmp_row Tryd.results7 _ _ w.heap.size 27 #[.int .i64 (-(x : Int)), .int .i64 (-(y : Int))] (0, 0) _ rfl HZ.out Tryd.underlying27 rfl infoW) rfl ⟨Or.inl ⟨_, _, HVA.out, HR.out, rfl⟩, HB.out⟩
                  · have HN : Hid (NotYet s (k + 1)) := HNX.out fun a b' hv he hkk => by
                      obtain ⟨_, _, e1, e2⟩ := HFD.out a b' hv he hkk
                      simp only [byNeg, if_true, Bool.false_eq_true, if_false] at e1 e2
                      apply hR
                      rw [he, e1, e2]
                    have hneq : ((str (textW (-(x : Int)) (-(y : Int)))).toList == s.toList) = false := by
                      rw [Lib.toList_data, Lib.toList_data]
                      refine beq_eq_false_iff_ne.2 fun e => hR ?_
                      apply ByteArray.ext
                      exact Array.toList_inj.1 e
                    obtain ⟨R, hRe⟩ : ∃ R, R = str (textW (-(x : Int)) (-(y : Int))) := ⟨_, rfl⟩
                    rw [← hRe] at RT hneq
                    clear hRe hR HVA
                    go_wp2_with fail
                    refine (SA _).mono ?_
                    rintro e w' ⟨rfl, rfl⟩
                    go_wp2_with fail
                    refine (SV _).mono ?_
                    rintro e w' ⟨rfl, rfl⟩
                    go_wp2_with fail
                    rw [← HZ9.out]
                    refine (RT _).mono ?_
                    rintro e w5 ⟨rfl, hb5⟩
                    have K5 := Below.then' KZ hb5 KZ.size
                    have R5 := (hb5.block _ (Array.getElem?_eq_some_iff.1 Zr).1).trans Zr
                    clear hb5 KZ Zr Zn
                    go_wp2
                    go_roundw
                    case rel => exact ⟨k + 1, by omega, by omega, by go_num, R5, K5, HN.out⟩
                    case measure => simp [intOf]; omega
          · have hnegb : isMinus (l.getD 0 0) = false := by unfold isMinus; rw [hc]; simp [hc45]
            have hcn : ((c : Int) == 45) = false := by simp; omega
            rcases hsg with rfl | rfl
            · have hminb : isMinus (l.getD k 0) = false := by unfold isMinus; rw [hb]; rfl
              clear hz hb hc hc45
              have hAd : U.data.toList = fstB l k false := hUd
              have SA := size_any U hU60
              rw [hAd] at SA
              have FD : ∀ a b', Valid a b' → s = str (textW a b') → k = (Lib.itoa a).length → (sizeR (fstB l k false)).2 = true ∧ (sizeR (sndB l k)).2 = true ∧ byNeg false (sizeR (fstB l k false)).1 = a ∧ byNeg false (sizeR (sndB l k)).1 = b' := fun a b' hv he hkk => found hv (HX.out a b' he) hkk false false hnegb hminb
              have bx := sizeR_lt (fstB l k false)
              have by' := sizeR_lt (sndB l k)
              have vx := sizeR_bound (fstB l k false)
              have vy := sizeR_bound (sndB l k)
              obtain ⟨x, hx⟩ : ∃ x, x = (sizeR (fstB l k false)).1 := ⟨_, rfl⟩
              obtain ⟨y, hy⟩ : ∃ y, y = (sizeR (sndB l k)).1 := ⟨_, rfl⟩
              obtain ⟨ok, hok⟩ : ∃ ok, ok = (sizeR (fstB l k false)).2 := ⟨_, rfl⟩
              obtain ⟨is, his⟩ : ∃ is, is = (sizeR (sndB l k)).2 := ⟨_, rfl⟩
              rw [← hx, ← hok] at SA
              rw [← hy, ← his] at SV
              rw [← hx, ← hy, ← hok, ← his] at FD
              rw [← hx] at bx vx
              rw [← hy] at by' vy
              rw [← hok] at vx
              rw [← his] at vy
              have HFD := Lib.hid FD
              have bxi : (x : Int) < 10000000000000000 := by omega
              have byi : (y : Int) < 10000000000000000 := by omega
              clear FD hx hy hok his hUd hAd hnegb hminb bx by' hU60
              obtain ⟨Z9, hZ9⟩ : ∃ Z9, Z9 = wr.alloc (.cells #[.int .i64 (x : Int), .int .i64 (y : Int)] 27) := ⟨_, rfl⟩
              have KZ : Below w.heap.size w Z9 := by rw [hZ9]; exact K.alloc K.size _
              have Zr : Z9.heap[w.heap.size]? = some (.cells #[.int .i64 0, .int .i64 0] 27 (0, 0)) := by rw [hZ9]; exact (Below.heap_alloc _ _ _ (Array.getElem?_eq_some_iff.1 h0).1).trans h0
              have Zn : Z9.heap[wr.heap.size]? = some (.cells #[.int .i64 (x : Int), .int .i64 (y : Int)] 27 (0, 0)) := by rw [hZ9]; exact heap_alloc_last wr _
              have HZ9 := Lib.hid hZ9
              clear hZ9
              cases ok with
              | false =>
                have HN : Hid (NotYet s (k + 1)) := HNX.out fun a b' hv he hkk => by have := (HFD.out a b' hv he hkk).1; cases this
                go_wp2_with fail
                refine (SA _).mono ?_
                rintro e w' ⟨rfl, rfl⟩
                go_wp2_with fail
                refine (SV _).mono ?_
                rintro e w' ⟨rfl, rfl⟩
                go_wp2
                rw [← HZ9.out]
                go_roundw
                case rel => exact ⟨k + 1, by omega, by omega, by go_num, Zr, KZ, HN.out⟩
                case measure => simp [intOf]; omega
              | true =>
                cases is with
                | false =>
                  have HN : Hid (NotYet s (k + 1)) := HNX.out fun a b' hv he hkk => by have := (HFD.out a b' hv he hkk).2.1; cases this
                  go_wp2_with fail
                  refine (SA _).mono ?_
                  rintro e w' ⟨rfl, rfl⟩
                  go_wp2_with fail
                  refine (SV _).mono ?_
                  rintro e w' ⟨rfl, rfl⟩
                  go_wp2
                  rw [← HZ9.out]
                  go_roundw
                  case rel => exact ⟨k + 1, by omega, by omega, by go_num, Zr, KZ, HN.out⟩
                  case measure => simp [intOf]; omega
                | true =>
                  have hva : Valid (x : Int) (y : Int) := by
                    have h1 := vx rfl
                    have h2 := vy rfl
                    unfold Valid
                    omega
                  have RT := rtext_any (x : Int) (y : Int) hva
                  unfold wW at RT
                  have HVA := Lib.hid hva
                  clear hva vx vy
                  by_cases hR : str (textW (x : Int) (y : Int)) = s
                  · have HR := Lib.hid hR.symm
                    rw [hR] at RT
                    clear hR
                    go_wp2_with fail
                    refine (SA _).mono ?_
                    rintro e w' ⟨rfl, rfl⟩
                    go_wp2_with fail
                    refine (SV _).mono ?_
                    rintro e w' ⟨rfl, rfl⟩
                    go_wp2_with fail
                    rw [← HZ9.out]
                    refine (RT _).mono ?_
                    rintro e w5 ⟨rfl, hb5⟩
                    have K5 := Below.then' KZ hb5 KZ.size
                    have R5 := (hb5.block _ (Array.getElem?_eq_some_iff.1 Zr).1).trans Zr
                    have N5 := (hb5.block _ (Array.getElem?_eq_some_iff.1 Zn).1).trans Zn
                    clear hb5 KZ Zr Zn
                    have c0 : w5.cell? ⟨wr.heap.size, 0, none⟩ = some (.int .i64 (x : Int)) := (cell_of_row _ _ 0 _ _ _ N5).trans rfl
                    have c1 : w5.cell? ⟨wr.heap.size, 1, none⟩ = some (.int .i64 (y : Int)) := (cell_of_row _ _ 1 _ _ _ N5).trans rfl
                    have e0 : w5.cell? ⟨w.heap.size, 0, none⟩ = some (.int .i64 0) := (cell_of_row _ _ 0 _ _ _ R5).trans rfl
                    have e1 : w5.cell? ⟨w.heap.size, 1, none⟩ = some (.int .i64 0) := (cell_of_row _ _ 1 _ _ _ R5).trans rfl
                    have g0 := frozen_of_row w5 w.heap.size 0 _ _ R5
                    have g1 := frozen_of_row w5 w.heap.size 1 _ _ R5
                    have z1 := heap_setCell_same w5 w.heap.size 0 _ _ (.int .i64 (x : Int)) R5
                    have z2 := heap_setCell_same _ w.heap.size 1 _ _ (.int .i64 (y : Int)) z1
                    have z3 : ((w5.setCell ⟨w.heap.size, 0, none⟩ (.int .i64 (x : Int))).setCell ⟨w.heap.size, 1, none⟩ (.int .i64 (y : Int))).heap[w.heap.size]? = some (.cells #[.int .i64 (x : Int), .int .i64 (y : Int)] 27 (0, 0)) := by simpa using z2
                    have b1 : Below w.heap.size w (w5.setCell ⟨w.heap.size, 0, none⟩ (.int .i64 (x : Int))) := K5.setCell (Nat.le_refl _) _
                    have b2 : Below w.heap.size w ((w5.setCell ⟨w.heap.size, 0, none⟩ (.int .i64 (x : Int))).setCell ⟨w.heap.size, 1, none⟩ (.int .i64 (y : Int))) := b1.setCell (Nat.le_refl _) _
                    have HZ := Lib.hid z3
                    have HB := Lib.hid b2
                    clear z1 z2 z3 b1 b2 N5 R5 K5
                    go_wp2
                    refine bodyPost_ret (results_cell_tmp_row Tryd.results7 _ _ w.heap.size 27 #[.int .i64 (x : Int), .int .i64 (y : Int)] (0, 0) _ rfl HZ.out Tryd.underlying27 rfl infoW) rfl ⟨Or.inl ⟨_, _, HVA.out, HR.out, rfl⟩, HB.out⟩
                  · have HN : Hid (NotYet s (k + 1)) := HNX.out fun a b' hv he hkk => by
                      obtain ⟨_, _, e1, e2⟩ := HFD.out a b' hv he hkk
                      simp only [byNeg, if_true, Bool.false_eq_true, if_false] at e1 e2
                      apply hR
                      rw [he, e1, e2]
                    have hneq : ((str (textW (x : Int) (y : Int))).toList == s.toList) = false := by
                      rw [Lib.toList_data, Lib.toList_data]
                      refine beq_eq_false_iff_ne.2 fun e => hR ?_
                      apply ByteArray.ext
                      exact Array.toList_inj.1 e
                    obtain ⟨R, hRe⟩ : ∃ R, R = str (textW (x : Int) (y : Int)) := ⟨_, rfl⟩
                    rw [← hRe] at RT hneq
                    clear hRe hR HVA
                    go_wp2_with fail
                    refine (SA _).mono ?_
                    rintro e w' ⟨rfl, rfl⟩
                    go_wp2_with fail
                    refine (SV _).mono ?_
                    rintro e w' ⟨rfl, rfl⟩
                    go_wp2_with fail
                    rw [← HZ9.out]
                    refine (RT _).mono ?_
                    rintro e w5 ⟨rfl, hb5⟩
                    have K5 := Below.then' KZ hb5 KZ.size
                    have R5 := (hb5.block _ (Array.getElem?_eq_some_iff.1 Zr).1).trans Zr
                    clear hb5 KZ Zr Zn
                    go_wp2
                    go_roundw
                    case rel => exact ⟨k + 1, by omega, by omega, by go_num, R5, K5, HN.out⟩
                    case measure => simp [intOf]; omega
            · have hminb : isMinus (l.getD k 0) = true := by unfold isMinus; rw [hb]; rfl
              clear hz hb hc hc45
              have hAd : U.data.toList = fstB l k false := hUd
              have SA := size_any U hU60
              rw [hAd] at SA
              have FD : ∀ a b', Valid a b' → s = str (textW a b') → k = (Lib.itoa a).length → (sizeR (fstB l k false)).2 = true ∧ (sizeR (sndB l k)).2 = true ∧ byNeg false (sizeR (fstB l k false)).1 = a ∧ byNeg true (sizeR (sndB l k)).1 = b' := fun a b' hv he hkk => found hv (HX.out a b' he) hkk false true hnegb hminb
              have bx := sizeR_lt (fstB l k false)
              have by' := sizeR_lt (sndB l k)
              have vx := sizeR_bound (fstB l k false)
              have vy := sizeR_bound (sndB l k)
              obtain ⟨x, hx⟩ : ∃ x, x = (sizeR (fstB l k false)).1 := ⟨_, rfl⟩
              obtain ⟨y, hy⟩ : ∃ y, y = (sizeR (sndB l k)).1 := ⟨_, rfl⟩
              obtain ⟨ok, hok⟩ : ∃ ok, ok = (sizeR (fstB l k false)).2 := ⟨_, rfl⟩
              obtain ⟨is, his⟩ : ∃ is, is = (sizeR (sndB l k)).2 := ⟨_, rfl⟩
              rw [← hx, ← hok] at SA
              rw [← hy, ← his] at SV
              rw [← hx, ← hy, ← hok, ← his] at FD
              rw [← hx] at bx vx
              rw [← hy] at by' vy
              rw [← hok] at vx
              rw [← his] at vy
              have HFD := Lib.hid FD
              have bxi : (x : Int) < 10000000000000000 := by omega
              have byi : (y : Int) < 10000000000000000 := by omega
              clear FD hx hy hok his hUd hAd hnegb hminb bx by' hU60
              obtain ⟨Z9, hZ9⟩ : ∃ Z9, Z9 = wr.alloc (.cells #[.int .i64 (x : Int), .int .i64 (-(y : Int))] 27) := ⟨_, rfl⟩
              have KZ : Below w.heap.size w Z9 := by rw [hZ9]; exact K.alloc K.size _
              have Zr : Z9.heap[w.heap.size]? = some (.cells #[.int .i64 0, .int .i64 0] 27 (0, 0)) := by rw [hZ9]; exact (Below.heap_alloc _ _ _ (Array.getElem?_eq_some_iff.1 h0).1).trans h0
              have Zn : Z9.heap[wr.heap.size]? = some (.cells #[.int .i64 (x : Int), .int .i64 (-(y : Int))] 27 (0, 0)) := by rw [hZ9]; exact heap_alloc_last wr _
              have HZ9 := Lib.hid hZ9
              clear hZ9
              cases ok with
              | false =>
                have HN : Hid (NotYet s (k + 1)) := HNX.out fun a b' hv he hkk => by have := (HFD.out a b' hv he hkk).1; cases this
                go_wp2_with fail
                refine (SA _).mono ?_
                rintro e w' ⟨rfl, rfl⟩
                go_wp2_with fail
                refine (SV _).mono ?_
                rintro e w' ⟨rfl, rfl⟩
                go_wp2
                rw [← HZ9.out]
                go_roundw
                case rel => exact ⟨k + 1, by omega, by omega, by go_num, Zr, KZ, HN.out⟩
                case measure => simp [intOf]; omega
              | true =>
                cases is with
                | false =>
                  have HN : Hid (NotYet s (k + 1)) := HNX.out fun a b' hv he hkk => by have := (HFD.out a b' hv he hkk).2.1; cases this
                  go_wp2_with fail
                  refine (SA _).mono ?_
                  rintro e w' ⟨rfl, rfl⟩
                  go_wp2_with fail
                  refine (SV _).mono ?_
                  rintro e w' ⟨rfl, rfl⟩
                  go_wp2
                  rw [← HZ9.out]
                  go_roundw
                  case rel => exact ⟨k + 1, by omega, by omega, by go_num, Zr, KZ, HN.out⟩
                  case measure => simp [intOf]; omega
                | true =>
                  have hva : Valid (x : Int) (-(y : Int)) := by
                    have h1 := vx rfl
                    have h2 := vy rfl
                    unfold Valid
                    omega
                  have RT := rtext_any (x : Int) (-(y : Int)) hva
                  unfold wW at RT
                  have HVA := Lib.hid hva
                  clear hva vx vy
                  by_cases hR : str (textW (x : Int) (-(y : Int))) = s
                  · have HR := Lib.hid hR.symm
                    rw [hR] at RT
                    clear hR
                    go_wp2_with fail
                    refine (SA _).mono ?_
                    rintro e w' ⟨rfl, rfl⟩
                    go_wp2_with fail
                    refine (SV _).mono ?_
                    rintro e w' ⟨rfl, rfl⟩
                    go_wp2_with fail
                    rw [← HZ9.out]
                    refine (RT _).mono ?_
                    rintro e w5 ⟨rfl, hb5⟩
                    have K5 := Below.then' KZ hb5 KZ.size
                    have R5 := (hb5.block _ (Array.getElem?_eq_some_iff.1 Zr).1).trans Zr
                    have N5 := (hb5.block _ (Array.getElem?_eq_some_iff.1 Zn).1).trans Zn
                    clear hb5 KZ Zr Zn
                    have c0 : w5.cell? ⟨wr.heap.size, 0, none⟩ = some (.int .i64 (x : Int)) := (cell_of_row _ _ 0 _ _ _ N5).trans rfl
                    have c1 : w5.cell? ⟨wr.heap.size, 1, none⟩ = some (.int .i64 (-(y : Int))) := (cell_of_row _ _ 1 _ _ _ N5).trans rfl
                    have e0 : w5.cell? ⟨w.heap.size, 0, none⟩ = some (.int .i64 0) := (cell_of_row _ _ 0 _ _ _ R5).trans rfl
                    have e1 : w5.cell? ⟨w.heap.size, 1, none⟩ = some (.int .i64 0) := (cell_of_row _ _ 1 _ _ _ R5).trans rfl
                    have g0 := frozen_of_row w5 w.heap.size 0 _ _ R5
                    have g1 := frozen_of_row w5 w.heap.size 1 _ _ R5
                    have z1 := heap_setCell_same w5 w.heap.size 0 _ _ (.int .i64 (x : Int)) R5
                    have z2 := heap_setCell_same _ w.heap.size 1 _ _ (.int .i64 (-(y : Int))) z1
                    have z3 : ((w5.setCell ⟨w.heap.size, 0, none⟩ (.int .i64 (x : Int))).setCell ⟨w.heap.size, 1, none⟩ (.int .i64 (-(y : Int)))).heap[w.heap.size]? = some (.cells #[.int .i64 (x : Int), .int .i64 (-(y : Int))] 27 (0, 0)) := by simpa using z2
                    have b1 : Below w.heap.size w (w5.setCell ⟨w.heap.size, 0, none⟩ (.int .i64 (x : Int))) := K5.setCell (Nat.le_refl _) _
                    have b2 : Below w.heap.size w ((w5.setCell ⟨w.heap.size, 0, none⟩ (.int .i64 (x : Int))).setCell ⟨w.heap.size, 1, none⟩ (.int .i64 (-(y : Int)))) := b1.setCell (Nat.le_refl _) _
                    have HZ := Lib.hid z3
                    have HB := Lib.hid b2
                    clear z1 z2 z3 b1 b2 N5 R5 K5
                    go_wp2
                    refine bodyPost_ret (results_cell_tmp_row Tryd.results7 _ _ w.heap.size 27 #[.int .i64 (x : Int), .int .i64 (-(y : Int))] (0, 0) _ rfl HZ.out Tryd.underlying27 rfl infoW) rfl ⟨Or.inl ⟨_, _, HVA.out, HR.out, rfl⟩, HB.out⟩
                  · have HN : Hid (NotYet s (k + 1)) := HNX.out fun a b' hv he hkk => by
                      obtain ⟨_, _, e1, e2⟩ := HFD.out a b' hv he hkk
                      simp only [byNeg, if_true, Bool.false_eq_true, if_false] at e1 e2
                      apply hR
                      rw [he, e1, e2]
                    have hneq : ((str (textW (x : Int) (-(y : Int)))).toList == s.toList) = false := by
                      rw [Lib.toList_data, Lib.toList_data]
                      refine beq_eq_false_iff_ne.2 fun e => hR ?_
                      apply ByteArray.ext
                      exact Array.toList_inj.1 e
                    obtain ⟨R, hRe⟩ : ∃ R, R = str (textW (x : Int) (-(y : Int))) := ⟨_, rfl⟩
                    rw [← hRe] at RT hneq
                    clear hRe hR HVA
                    go_wp2_with fail
                    refine (SA _).mono ?_
                    rintro e w' ⟨rfl, rfl⟩
                    go_wp2_with fail
                    refine (SV _).mono ?_
                    rintro e w' ⟨rfl, rfl⟩
                    go_wp2_with fail
                    rw [← HZ9.out]
                    refine (RT _).mono ?_
                    rintro e w5 ⟨rfl, hb5⟩
                    have K5 := Below.then' KZ hb5 KZ.size
                    have R5 := (hb5.block _ (Array.getElem?_eq_some_iff.1 Zr).1).trans Zr
                    clear hb5 KZ Zr Zn
                    go_wp2
                    go_roundw
                    case rel => exact ⟨k + 1, by omega, by omega, by go_num, R5, K5, HN.out⟩
                    case measure => simp [intOf]; omega
        · have hne : ((z : Int) != 105) = true := by simp; omega
          have hnt : NotYet s (k + 1) := HNX.out fun a b' hv he => by
            exfalso
            have e1 := HX.out a b' he
            have e2 := text_last a b'
            rw [← e1, HL.out, hz] at e2
            exact h105 e2
          have HN := Lib.hid hnt
          have el : ((s.size : Int) - 1).toNat = s.size - 1 := by omega
          clear hnt hz hb h105
          rcases hsg with rfl | rfl
          all_goals
            go_wp2
            go_roundw
            case rel => exact ⟨k + 1, by omega, by omega, by go_num, h0, K, HN.out⟩
            case measure => simp [intOf]; omega
      · have n1 : ((b : Int) != 43) = true := by simp; omega
        have n2 : ((b : Int) != 45) = true := by simp; omega
        have hnt : NotYet s (k + 1) := HNX.out fun a b' hv he hkk => by
          have e1 := HX.out a b' he
          have e2 := text_sign a b'
          rw [← e1, ← hkk] at e2
          rw [e2] at hb
          apply hsg
          split at hb
          · right; exact hb.symm
          · left; exact hb.symm
        have HN := Lib.hid hnt
        clear hnt hsg hb
        go_wp2
        go_roundw
        case rel => exact ⟨k + 1, by omega, by omega, by go_num, h0, K, HN.out⟩
        case measure => simp [intOf]; omega
    · have hlti : ¬ ((k : Int) < (s.size : Int) - 1) := by omega
      have hno : NoText s := fun a b hv he => by
        have h1 := HNY.out a b hv he
        have e1 := text_len a b
        rw [← HX.out a b he, HL.out] at e1
        have h2 := sec_len b hv.2
        omega
      have HN := Lib.hid hno
      have e0 : wr.cell? ⟨w.heap.size, 0, none⟩ = some (.int .i64 0) := (cell_of_row _ _ 0 _ _ _ h0).trans rfl
      have e1 : wr.cell? ⟨w.heap.size, 1, none⟩ = some (.int .i64 0) := (cell_of_row _ _ 1 _ _ _ h0).trans rfl
      have g0 := frozen_of_row wr w.heap.size 0 _ _ h0
      have g1 := frozen_of_row wr w.heap.size 1 _ _ h0
      have z1 := heap_setCell_same wr w.heap.size 0 _ _ (.int .i64 0) h0
      have z2 := heap_setCell_same _ w.heap.size 1 _ _ (.int .i64 0) z1
      have z3 : ((wr.setCell ⟨w.heap.size, 0, none⟩ (.int .i64 0)).setCell ⟨w.heap.size, 1, none⟩ (.int .i64 0)).heap[w.heap.size]? = some (.cells #[.int .i64 0, .int .i64 0] 27 (0, 0)) := by simpa using z2
      have b1 : Below w.heap.size w (wr.setCell ⟨w.heap.size, 0, none⟩ (.int .i64 0)) := K.setCell (Nat.le_refl _) _
      have b2 : Below w.heap.size w ((wr.setCell ⟨w.heap.size, 0, none⟩ (.int .i64 0)).setCell ⟨w.heap.size, 1, none⟩ (.int .i64 0)) := b1.setCell (Nat.le_refl _) _
      have HZ := Lib.hid z3
      have HB := Lib.hid b2
      clear z1 z2 z3 b1 b2 hno hlt
      go_wp2
      refine bodyPost_ret (results_cell_tmp_row Tryd.results7 _ _ w.heap.size 27 #[.int .i64 0, .int .i64 0] (0, 0) _ rfl HZ.out Tryd.underlying27 rfl infoW) rfl ⟨Or.inr ⟨HN.out, rfl⟩, HB.out⟩

end Go.Proofs.YtmobkjdncfdokaaDoor
