/- The walk of the document's Cut. -/
import Derived.Test.YtimllddlcjnikaaDoorCutU
namespace Go.Proofs.YtimllddlcjnikaaDoor
open Go.RowKit

theorem take_take_le (l : List UInt8) (p m : Nat) (h : p ≤ m) : (l.take m).take p = l.take p := by rw [List.take_take, Nat.min_eq_left h]

set_option maxRecDepth 100000 in
set_option maxHeartbeats 20000000 in
theorem rcut_any (s : ByteArray) (hs : s.size ≤ 1000000) (C : Array Value) (a b c d : Int) (hC : IsConf C a b c d) (w : World) :
    Calls Tryd.prog 12 #[.string s, .agg C] w fun e w' => e = .returned (.int .i64 (cutI a b c d s.data.toList : Nat)) ∧ Below w.heap.size w w' := by
  have MA := rmay_any C a b c d hC
  have HLI : Hid ((Tryd.prog.info? 23).map (·.size) = some C.size) := by rw [hC.size]; exact info_conf
  have gC := heap_alloc_last w (.cells C 23)
  have K0 := box_below w (.cells C 23)
  by_cases hM : MayC a b c d
  · obtain ⟨mn, mx, dm, db, rfl, rfl, rfl, rfl, h1, h2, h3, h4, h5, h6, h7⟩ := mayC_nats hM
    have hcu : cutI mn mx dm db s.data.toList = cutN mn mx dm db s.data.toList := by unfold cutI; rw [if_pos hM]; rfl
    rw [hcu]
    rw [decide_eq_true hM] at MA
    have hz := data_len s
    obtain ⟨m, hm⟩ : ∃ m, m = min s.size mx := ⟨_, rfl⟩
    -- the text that is looked at
    have hT2 : ∃ tx : ByteArray, (mx ≤ s.size → s.extract 0 mx = tx) ∧ (¬ mx ≤ s.size → s = tx) ∧ tx.data.toList = s.data.toList.take m ∧ tx.size = m := by
      by_cases hf : mx ≤ s.size
      · have := cut_list s mx hf
        exact ⟨_, fun _ => rfl, fun x => absurd hf x, by rw [this.1, hm, Nat.min_eq_right hf], by rw [this.2]; omega⟩
      · refine ⟨s, fun x => absurd x hf, fun _ => rfl, ?_, by omega⟩
        rw [List.take_of_length_le (by omega)]
    obtain ⟨tx, htx1, htx2, htxl, htxs⟩ := hT2
    have AL := rall_any tx (by omega)
    rw [htxl, htxs] at AL
    have hall : ∀ n, 1 ≤ n → n ≤ m → (hashes (s.data.toList.take m) m).getD (n - 1) 0 = rsum (s.data.toList.take n) := fun n x y => by
      rw [hashes_get _ _ _ (by omega), take_take_le _ _ _ (by omega)]
      congr 2; omega
    have hlen := hashes_len (s.data.toList.take m) m
    obtain ⟨zs, hzs⟩ : ∃ zs, zs = hashes (s.data.toList.take m) m := ⟨_, rfl⟩
    rw [← hzs] at AL hall hlen
    have hlts : ∀ n, rsum (s.data.toList.take n) < 2147483647 := fun n => rsum_lt _
    obtain ⟨l, hl⟩ : ∃ l, l = s.data.toList := ⟨_, rfl⟩
    rw [← hl] at hall hlts hz ⊢
    have HALL := Lib.hid hall
    have HLT := Lib.hid hlts
    have HZ := Lib.hid hz
    have HM := Lib.hid hm
    have HLEN := Lib.hid hlen
    have HC := Lib.hid hC
    have IM := fun h hh w' => is_any h dm hh h4 h5 w'
    have IB := fun h hh w' => is_any h db hh h6 h7 w'
    obtain ⟨w0, hw0⟩ : ∃ w0, w0 = w.alloc (.cells C 23) := ⟨_, rfl⟩
    have g0 : w0.heap[w.heap.size]? = some (.cells C 23 (0, 0)) := by rw [hw0]; exact gC
    have K0' : Below w.heap.size w w0 := by rw [hw0]; exact K0
    have HW0 := Lib.hid hw0
    have hcell : ∀ wr : World, Below w0.heap.size w0 wr → ∀ i v, C[i]? = some v → wr.cell? ⟨w.heap.size, i, none⟩ = some v := fun wr K i v hv => by
      rw [cell_of_row _ _ _ _ _ _ ((K.block _ (Array.getElem?_eq_some_iff.1 g0).1).trans g0)]; exact hv
    have HCELL := Lib.hid hcell
    clear hcu hM htxl htxs hzs hl hall hlts hz hm hlen hC hcell hw0
    go_enter Tryd.func12, Tryd.ntmps12
    go_wp2_with (with_reducible refine wpList_load_row rfl _ _ rfl w.heap.size rfl 23 C (0, 0) _ gC Tryd.underlying23 rfl HLI.out ?_)
    refine (MA _).mono ?_
    rintro e w1 ⟨rfl, hb1⟩
    rw [← HW0.out] at hb1
    have e1 := HCELL.out _ hb1 1 _ HC.out.c1
    clear gC K0 HW0
    rcases (show (mx ≤ s.size ∧ s.extract 0 mx = tx) ∨ (¬ mx ≤ s.size ∧ s = tx) from by
      by_cases hf : mx ≤ s.size
      · exact Or.inl ⟨hf, htx1 hf⟩
      · exact Or.inr ⟨hf, htx2 hf⟩) with ⟨hf, hx⟩ | ⟨hf, rfl⟩
    all_goals
      clear htx1 htx2
      go_wp2_with fail
      refine (AL _).mono ?_
      rintro e w2 ⟨v, rfl, hU, hb2⟩
      try clear hx
      have K2 := Below.then' hb1 hb2 hb1.size
      have e0 := HCELL.out _ K2 0 _ HC.out.c0
      obtain ⟨pz, cz, rfl, hcz⟩ := hU
      have HCZ := Lib.hid hcz
      rw [HLEN.out]
      clear hb1 hb2 e1 hcz AL
      go_wp2
      go_loopw [7] (fun x wr => ∃ n : Nat, mn ≤ n ∧ (n = mn ∨ n ≤ m + 1) ∧ x = .int .i64 n ∧ (∀ p, mn ≤ p → p < n → isAt l dm p = false) ∧ Below w2.heap.size w2 wr) (fun x _ => m + 1 - (intOf x).toNat)
      case atStart => exact ⟨mn, Nat.le_refl _, Or.inl rfl, rfl, fun p x y => by omega, Below.refl _ _⟩
      case round =>
        clear e0
        obtain ⟨n, hn1, hn2, rfl, hno, K⟩ := hrel
        have K3 := Below.then' K2 K K2.size
        have e2 := HCELL.out _ K3 2 _ HC.out.c2
        have e3 := HCELL.out _ K3 3 _ HC.out.c3
        have e0 := HCELL.out _ K3 0 _ HC.out.c0
        have e1 := HCELL.out _ K3 1 _ HC.out.c1
        have HNO := Lib.hid hno
        clear hno
        by_cases hlt : n ≤ m
        · rcases HCZ.out with h | ⟨bz, off, rfl, hcell⟩
          · have := HLEN.out; rw [h] at this; simp at this; omega
          have k0 := hcell (n - 1) (by have := HLEN.out; omega)
          have k1 := (K.cell (World.block_lt_of_cell? _ _ k0)).trans k0
          rw [HALL.out n (by omega) hlt] at k1
          have hrl := HLT.out n
          have hat : isAt l dm n = lastB (rsum (l.take n)) dm := isAt_last _ _ _
          obtain ⟨r, hr⟩ : ∃ r, r = rsum (l.take n) := ⟨_, rfl⟩
          rw [← hr] at k1 hrl hat
          obtain ⟨p, hp⟩ : ∃ p, p = n - 1 := ⟨_, rfl⟩
          rw [← hp] at k1
          have hm5 : m ≤ 4096 := by have := HM.out; omega
          have v1 : IntKind.i64.wrap ((n : Int) - 1) = (p : Int) := by rw [show (n : Int) - 1 = (p : Int) by omega]; exact IntWalk.i64_in _ (by omega)
          have hp0 : (0 : Int) ≤ (p : Int) := by omega
          have hp1 : (p : Int) < m := by omega
          have hni : (n : Int) ≤ m := by omega
          have IQ := fun w' => IM r hrl w'
          clear k0 hcell hr hp IM IB
          by_cases hla : lastB r dm = true
          · rw [hla] at IQ
            have hcu : cutN mn mx dm db l = n := by
              have hno := HNO.out
              have hmm := HM.out
              have hzz := HZ.out
              unfold cutN
              rw [seekUp_find (isAt l dm) n _ mn hn1 (by omega) hno (hat.trans hla)]
              simp; omega
            have HCU := Lib.hid hcu
            clear hat hcu hla
            go_wp2
            go_quiet ((go_at_call 27; exact Calls.quiet_of_same ((IQ _).mono fun _ _ h => ⟨h.1, h.2.symm⟩)))
            go_wp2
            go_ret
            exact ⟨congrArg (fun x : Nat => Ending.returned (.int .i64 x)) HCU.out.symm, below_drewN' (Below.then' K0' K3 K0'.size) _⟩
          · have hla2 : lastB r dm = false := by simpa using hla
            rw [hla2] at IQ
            rw [hla2] at hat
            have HAT := Lib.hid hat
            clear hat hla hla2
            go_wp2
            go_quiet ((go_at_call 27; exact Calls.quiet_of_same ((IQ _).mono fun _ _ h => ⟨h.1, h.2.symm⟩)))
            go_wp2
            go_roundw
            case rel =>
              refine ⟨n + 1, by omega, Or.inr (by omega), congrArg (Value.int .i64) (by omega), fun q x y => ?_, below_drewN' K _⟩
              by_cases hq : q = n
              · rw [hq]; exact HAT.out
              · exact HNO.out q x (by omega)
            case measure => simp [intOf]; omega
        · have hni : ¬ (n : Int) ≤ m := by omega
          have hmm := HM.out
          have hzz := HZ.out
          have hup : seekUp (isAt l dm) mn (m + 1 - mn) = 0 := by
            have hno := HNO.out
            exact seekUp_none _ _ _ (fun i x y => hno i x (by omega))
          have hmin : min l.length mx = m := by omega
          by_cases hf2 : mx ≤ s.size
          · try exact absurd hf2 hf
            all_goals
              have hlow : ¬ l.length < mx := by omega
              have hcu : cutN mn mx dm db l = (if seekDown (isAt l db) mx (mx + 1 - mn) ≠ 0 then seekDown (isAt l db) mx (mx + 1 - mn) else mx) := by
                unfold cutN
                simp only
                rw [hmin, hup, if_neg (by simp), if_neg hlow]
              have HCU := Lib.hid hcu
              have hmx : m = mx := by omega
              clear hcu hup hmin hlow hmm hzz
              go_wp2
              go_loopw [8] (fun x wr => ∃ n : Nat, mn ≤ n + 1 ∧ n ≤ mx ∧ x = .int .i64 n ∧ (∀ p, n < p → p ≤ mx → isAt l db p = false) ∧ Below w2.heap.size w2 wr) (fun x _ => (intOf x).toNat)
              case atStart => exact ⟨mx, by omega, Nat.le_refl _, rfl, fun p x y => by omega, K⟩
              case round =>
                clear K K3 e0 e1 e2 e3 hn1 hn2 HNO hlt hni
                obtain ⟨q, hq1, hq2, rfl, hno, K⟩ := hrel
                have K3 := Below.then' K2 K K2.size
                have e3 := HCELL.out _ K3 3 _ HC.out.c3
                have e0 := HCELL.out _ K3 0 _ HC.out.c0
                have e1 := HCELL.out _ K3 1 _ HC.out.c1
                have HNO := Lib.hid hno
                clear hno
                by_cases hlt : mn ≤ q
                · rcases HCZ.out with h | ⟨bz, off, rfl, hcell⟩
                  · have := HLEN.out; rw [h] at this; simp at this; omega
                  have k0 := hcell (q - 1) (by have := HLEN.out; omega)
                  have k1 := (K.cell (World.block_lt_of_cell? _ _ k0)).trans k0
                  rw [HALL.out q (by omega) (by omega)] at k1
                  have hrl := HLT.out q
                  have hat : isAt l db q = lastB (rsum (l.take q)) db := isAt_last _ _ _
                  obtain ⟨r, hr⟩ : ∃ r, r = rsum (l.take q) := ⟨_, rfl⟩
                  rw [← hr] at k1 hrl hat
                  obtain ⟨p, hp⟩ : ∃ p, p = q - 1 := ⟨_, rfl⟩
                  rw [← hp] at k1
                  have v1 : IntKind.i64.wrap ((q : Int) - 1) = (p : Int) := by rw [show (q : Int) - 1 = (p : Int) by omega]; exact IntWalk.i64_in _ (by omega)
                  have hp0 : (0 : Int) ≤ (p : Int) := by omega
                  have hp1 : (p : Int) < m := by omega
                  have hni : (mn : Int) ≤ q := by omega
                  have IQ := fun w' => IB r hrl w'
                  clear k0 hcell hr IM IB
                  by_cases hla : lastB r db = true
                  · rw [hla] at IQ
                    have hcu : cutN mn mx dm db l = q := by
                      have hno := HNO.out
                      rw [HCU.out, seekDown_find (isAt l db) q _ mx hq2 (by omega) hno (hat.trans hla)]
                      rw [if_pos (by omega)]
                    have HCU2 := Lib.hid hcu
                    clear hat hcu hla hp
                    go_wp2
                    go_quiet ((go_at_call 27; exact Calls.quiet_of_same ((IQ _).mono fun _ _ h => ⟨h.1, h.2.symm⟩)))
                    go_wp2
                    go_ret
                    exact ⟨congrArg (fun x : Nat => Ending.returned (.int .i64 x)) HCU2.out.symm, below_drewN' (Below.then' K0' K3 K0'.size) _⟩
                  · have hla2 : lastB r db = false := by simpa using hla
                    rw [hla2] at IQ
                    rw [hla2] at hat
                    have HAT := Lib.hid hat
                    have HP := Lib.hid hp
                    clear hat hla hla2 hp
                    go_wp2
                    go_quiet ((go_at_call 27; exact Calls.quiet_of_same ((IQ _).mono fun _ _ h => ⟨h.1, h.2.symm⟩)))
                    go_wp2
                    go_roundw
                    case rel =>
                      have hpp := HP.out
                      refine ⟨p, by omega, by omega, congrArg (Value.int .i64) (by omega), fun j x y => ?_, below_drewN' K _⟩
                      by_cases hj : j = q
                      · rw [hj]; exact HAT.out
                      · exact HNO.out j (by omega) y
                    case measure => have hpp := HP.out; simp [intOf]; omega
                · have hni : ¬ (mn : Int) ≤ q := by omega
                  have hcu : cutN mn mx dm db l = mx := by
                    have hno := HNO.out
                    rw [HCU.out, seekDown_none (isAt l db) _ mx (fun i x y => hno i (by omega) x)]
                    simp
                  have HCU2 := Lib.hid hcu
                  clear hcu
                  go_wp2
                  go_ret
                  exact ⟨congrArg (fun x : Nat => Ending.returned (.int .i64 x)) HCU2.out.symm, Below.then' K0' K3 K0'.size⟩
          · try exact absurd hf hf2
            all_goals
              have hcu : cutN mn mx dm db l = 0 := by
                unfold cutN
                simp only
                rw [hmin, hup, if_neg (by simp), if_pos (by omega)]
              have HCU := Lib.hid hcu
              clear hcu hup hmin hmm hzz
              go_wp2
              go_ret
              exact ⟨congrArg (fun x : Nat => Ending.returned (.int .i64 x)) HCU.out.symm, Below.then' K0' K3 K0'.size⟩
  · have hcu : cutI a b c d s.data.toList = 0 := by unfold cutI; rw [if_neg hM]
    rw [hcu]
    rw [decide_eq_false hM] at MA
    clear hcu hC
    go_enter Tryd.func12, Tryd.ntmps12
    go_wp2_with (with_reducible refine wpList_load_row rfl _ _ rfl w.heap.size rfl 23 C (0, 0) _ gC Tryd.underlying23 rfl HLI.out ?_)
    refine (MA _).mono ?_
    rintro e w1 ⟨rfl, hb1⟩
    go_wp2
    go_ret
    exact ⟨rfl, Below.then' K0 hb1 K0.size⟩

end Go.Proofs.YtimllddlcjnikaaDoor
