/- The walk of the document's Sum. -/
import Derived.Test.YtepcnedagmfpeaaDoorRBlock
import Derived.Test.YtepcnedagmfpeaaDoorRPad
import Derived.Test.YtepcnedagmfpeaaDoorSumT
namespace Go.Proofs.YtepcnedagmfpeaaDoor
open Go.RowKit

theorem str_mid (l : List UInt8) (a n : Nat) (_h : a + n ≤ l.length) : (str l).extract a (a + n) = str ((l.drop a).take n) := by
  have e := Lib.extract_eq (str l) a (a + n)
  rw [e, str_list]
  unfold str
  congr 2
  rw [show a + n - a = n by omega]

set_option maxRecDepth 100000 in
set_option maxHeartbeats 8000000 in
theorem rsumS_any (s : ByteArray) (hs : s.size ≤ 1000000000) (w : World) :
    Calls Tryd.prog 10 #[.string s] w fun e w' => e = .returned (.agg (byA (digest s.data.toList))) ∧ Below w.heap.size w w' := by
  obtain ⟨l, rfl⟩ : ∃ l, s = str l := ⟨s.data.toList, (str_data s).symm⟩
  rw [str_list]
  have hsz := str_size l
  rw [hsz] at hs
  have PA := rpad_any l.length (by omega)
  obtain ⟨L, hL⟩ : ∃ L, L = l ++ padL l.length := ⟨_, rfl⟩
  have hcat : str l ++ str (padL l.length) = str L := by rw [str_append, hL]
  have hLl : L.length = l.length + (padL l.length).length := by rw [hL, List.length_append]
  have hpl := padL_len l.length
  have hpm := pad_mod l.length
  obtain ⟨m, hm⟩ : ∃ m, L.length = 64 * m := ⟨L.length / 64, by omega⟩
  have hLb : L.length ≤ 1000000100 := by omega
  have hdg : digest l = (absorb m L).bytes := by
    have : L.length / 64 = m := by omega
    unfold digest
    rw [← hL, this]
  obtain ⟨pd, hpd⟩ : ∃ pd, pd = str (padL l.length) := ⟨_, rfl⟩
  rw [← hpd] at hcat PA
  have hpds : pd.size = (padL l.length).length := by rw [hpd, str_size]
  have hTsz := str_size L
  obtain ⟨n, hn⟩ : ∃ n, n = l.length := ⟨_, rfl⟩
  rw [← hn] at PA hsz
  obtain ⟨tx, htx⟩ : ∃ tx, tx = str L := ⟨_, rfl⟩
  rw [← htx] at hcat hTsz
  have htxm : tx.size = 64 * m := by rw [hTsz, hm]
  have hcut : ∀ q, q < m → tx.extract (64 * q) (64 * q + 64) = str ((L.drop (64 * q)).take 64) := fun q hq => by
    rw [htx]; exact str_mid L (64 * q) 64 (by omega)
  have hlen : ∀ q, q < m → ((L.drop (64 * q)).take 64).length = 64 := fun q hq => by
    rw [List.length_take, List.length_drop]; omega
  have hmb : m ≤ 20000000 := by omega
  have HD := Lib.hid hdg
  have HCUT := Lib.hid hcut
  have HLEN := Lib.hid hlen
  have HPDS : (pd.size : Int) ≤ 100000 := by omega
  have HNS : (str l).size ≤ 1000000000 := by omega
  have RS := rstart_any
  obtain ⟨SA, hSA⟩ : ∃ SA, SA = nuA stH.list := ⟨_, rfl⟩
  have hSg : ∀ j, j < 8 → SA[j]? = some (.int .u32 ((absorb 0 L).list.getD j 0 : Nat)) := fun j hj => by rw [hSA]; exact nuA_get _ _ hj
  rw [← hSA] at RS
  have HSG := Lib.hid hSg
  have HTXM := Lib.hid htxm
  obtain ⟨D, hD⟩ : ∃ D, D = byA (digest l) := ⟨_, rfl⟩
  have hFi := infoFpD l
  have hF1 := byA_one (digest l)
  have hDs : D.size = 32 := by rw [hD, byA_size, digest_len]
  rw [← hD] at hFi hF1 ⊢
  have HFI := Lib.hid hFi
  have HF1 := Lib.hid hF1
  have HDS := Lib.hid hDs
  have HDD := Lib.hid hD
  clear hn hs hL hLl hpl hpm hm hLb hdg hpd hpds hTsz hcut hlen hSA hSg hFi hF1 hDs hD htx
  go_enter Tryd.func10, Tryd.ntmps10
  go_wp2_with fail
  obtain ⟨F, hF⟩ : ∃ F : Array Value, F = zerosF := ⟨_, rfl⟩
  have hF' := hF
  unfold zerosF at hF'
  rw [← hF']
  have hFs : F.size = 32 := by rw [hF]; rfl
  have HFS := Lib.hid hFs
  clear hF hF' hFs
  ((with_reducible refine (PA _).mono ?_))
  rintro e w1 ⟨rfl, hb1⟩
  have K0 : Below w.heap.size w (w.alloc (.cells F 24)) := (Below.refl _ _).alloc (Nat.le_refl _) _
  have f0 := heap_alloc_last w (.cells F 24)
  have K1 := Below.then' K0 hb1 K0.size
  have f1 := (hb1.block _ (Array.getElem?_eq_some_iff.1 f0).1).trans f0
  have hfl : w.heap.size < w1.heap.size := (Array.getElem?_eq_some_iff.1 f1).1
  clear hb1 f0 K0
  go_wp2_with fail
  ((with_reducible refine (RS _).mono ?_))
  rintro e w2 ⟨rfl, hw2⟩
  have K2 : Below w.heap.size w w2 := by rw [hw2]; exact K1.alloc K1.size _
  have f2 : w2.heap[w.heap.size]? = some (.cells F 24 (0, 0)) := by rw [hw2]; exact (Below.heap_alloc _ _ _ hfl).trans f1
  have s2 : ∀ j, j < 8 → w2.cell? ⟨w1.heap.size, j, none⟩ = some (.int .u32 ((absorb 0 L).list.getD j 0 : Nat)) := fun j hj => by
    rw [hw2]; exact (cell_of_row _ _ _ _ _ _ (heap_alloc_last w1 _)).trans (HSG.out j hj)
  obtain ⟨g0, hg0⟩ : ∃ g, g = w1.heap.size := ⟨_, rfl⟩
  rw [← hg0] at s2 hfl ⊢
  clear hw2 hg0 K1 f1 w1
  have S2 := Lib.hid s2
  clear s2
  go_wp2
  go_loopw [4, 5] (fun v x wr => ∃ (q g cap : Nat), q ≤ m ∧ x = .int .i64 ((64 * q : Nat) : Int) ∧ v = .slice (some ⟨g, 0, none⟩) 8 cap ∧ w.heap.size < g ∧ (∀ j, j < 8 → wr.cell? ⟨g, j, none⟩ = some (.int .u32 ((absorb q L).list.getD j 0 : Nat))) ∧
      wr.heap[w.heap.size]? = some (.cells F 24 (0, 0)) ∧ Below w.heap.size w wr) (fun _ x _ => 64 * m - (intOf x).toNat)
  case atStart => exact ⟨0, g0, 8, Nat.zero_le _, rfl, rfl, hfl, S2.out, f2, K2⟩
  case round =>
    clear S2 f2 K2 hfl
    obtain ⟨q, g, cap, hq, rfl, rfl, hg, hsc, f3, K3⟩ := hrel
    by_cases hlt : q < m
    · have hcu := HCUT.out q hlt
      have hle := HLEN.out q hlt
      have BL := rblock_any (absorb q L) (absorb_lo q L) g cap (str ((L.drop (64 * q)).take 64)) (by rw [str_size]; exact hle) wr hsc
      rw [str_list] at BL
      have hnx : absorb (q + 1) L = proc (absorb q L) ((L.drop (64 * q)).take 64) := rfl
      rw [← hnx] at BL
      obtain ⟨bk, hbk⟩ : ∃ bk, bk = str ((L.drop (64 * q)).take 64) := ⟨_, rfl⟩
      rw [← hbk] at hcu BL
      have ei : ((64 * q : Nat) : Int).toNat = 64 * q := by omega
      obtain ⟨i, hi⟩ : ∃ i, i = 64 * q := ⟨_, rfl⟩
      rw [← hi] at hcu ei ⊢
      have hts := HTXM.out
      have hib : (i : Int) + 64 ≤ tx.size := by omega
      have hib2 : i + 64 ≤ tx.size := by omega
      have hlt2 : (i : Int) < tx.size := by omega
      have hlt3 : i < tx.size := by omega
      have e64 : ((i : Int) + 64).toNat = i + 64 := by omega
      have HI := Lib.hid hi
      have hib3 : i ≤ 1280000000 := by omega
      have htsb : tx.size ≤ 1280000000 := by omega
      have HSC := Lib.hid hsc
      clear hle hnx hbk hi hts hsc htxm
      go_wp2_with fail
      have hwl : w.heap.size < wr.heap.size := (Array.getElem?_eq_some_iff.1 f3).1
      refine BL.mono ?_
      rintro e w4 ⟨g', cap', rfl, hg', hs', hb4⟩
      have K4 := Below.then' K3 hb4 K3.size
      have f4 := (hb4.block _ hwl).trans f3
      have HS' := Lib.hid hs'
      clear hb4 f3 K3 hs' BL hcu
      go_wp2
      go_roundw
      case rel =>
        have hii := HI.out
        exact ⟨q + 1, g', cap', by omega, congrArg (Value.int .i64) (by omega), rfl, by omega, HS'.out, f4, K4⟩
      case measure =>
        have hii := HI.out
        simp [intOf]
        omega
    · obtain rfl : q = m := by omega
      have hts := HTXM.out
      have hge : ¬ ((64 * q : Nat) : Int) < tx.size := by omega
      obtain ⟨i, hi⟩ : ∃ i, i = 64 * q := ⟨_, rfl⟩
      rw [← hi] at hge ⊢
      have hge2 : ¬ i < tx.size := by omega
      have hge3 : tx.size = i := by omega
      obtain ⟨st, hst⟩ : ∃ st, st = absorb q L := ⟨_, rfl⟩
      rw [← hst] at hsc HD
      have HSC := Lib.hid hsc
      have HGE3 := Lib.hid hge3
      clear hts hi hst hsc htxm hge3
      go_wp2
      obtain ⟨Z, hZ⟩ : ∃ Z : Array Value, Z = zerosF := ⟨_, rfl⟩
      have hZ' := hZ
      unfold zerosF at hZ'
      rw [← hZ']
      have hZs : Z.size = 32 := by rw [hZ]; rfl
      have HZS := Lib.hid hZs
      clear hZ hZ' hZs
      have hwl : w.heap.size < wr.heap.size := (Array.getElem?_eq_some_iff.1 f3).1
      have K4 := K3.alloc K3.size (.cells Z 24)
      have f4 := (Below.heap_alloc wr (.cells Z 24) _ hwl).trans f3
      have z4 := heap_alloc_last wr (.cells Z 24)
      have hgl : g < wr.heap.size := World.block_lt_of_cell? _ _ (HSC.out 0 (by omega))
      have s4 : ∀ j, j < 8 → (wr.alloc (.cells Z 24)).cell? ⟨g, j, none⟩ = some (.int .u32 (st.list.getD j 0 : Nat)) := fun j hj =>
        (((Below.refl wr.heap.size wr).alloc (Nat.le_refl _) _).cell (p := ⟨g, j, none⟩) hgl).trans (HSC.out j hj)
      obtain ⟨b, hb⟩ : ∃ b, b = wr.heap.size := ⟨_, rfl⟩
      rw [← hb] at z4 hgl hwl ⊢
      have S4 := Lib.hid s4
      clear hb s4 f3 K3 HSC
      go_loopw [7] (fun x wq => ∃ (i : Nat) (C : Array Value), i ≤ 32 ∧ x = .int .i64 i ∧ C.size = 32 ∧ (∀ j, j < i → C[j]? = some (.int .u8 ((st.bytes.getD j 0).toNat : Int))) ∧
          (∀ j, j < 8 → wq.cell? ⟨g, j, none⟩ = some (.int .u32 (st.list.getD j 0 : Nat))) ∧ wq.heap[b]? = some (.cells C 24 (0, 0)) ∧ wq.heap[w.heap.size]? = some (.cells F 24 (0, 0)) ∧ Below w.heap.size w wq) (fun x _ => 32 - (intOf x).toNat)
      case atStart => exact ⟨0, Z, Nat.zero_le _, rfl, HZS.out, fun j hj => by omega, S4.out, z4, f4, K4⟩
      case round =>
        clear S4 f4 z4 K4
        obtain ⟨i, C, hi, rfl, hC, hcs, g4, f4, z4, K4⟩ := hrel
        have HC := Lib.hid hcs
        have HCS := Lib.hid hC
        have HG4 := Lib.hid g4
        clear hcs g4
        by_cases hlt : i < 32
        · have cg := HG4.out (i / 4) (by omega)
          have hd := st_byte_div st i hlt
          obtain ⟨v, hv'⟩ : ∃ v, v = st.list.getD (i / 4) 0 := ⟨_, rfl⟩
          rw [← hv'] at cg hd
          obtain ⟨c, hc⟩ : ∃ c, c = st.bytes.getD i 0 := ⟨_, rfl⟩
          rw [← hc] at hd
          have HCC := Lib.hid hc
          have e4 : ((i : Int) / 4).toNat = i / 4 := by omega
          have eq4 : (i : Int) / 4 = ((i / 4 : Nat) : Int) := by omega
          have em4 : (i : Int) % 4 = ((i % 4 : Nat) : Int) := by omega
          obtain ⟨q, hq⟩ : ∃ q, q = i / 4 := ⟨_, rfl⟩
          obtain ⟨p, hp⟩ : ∃ p, p = i % 4 := ⟨_, rfl⟩
          rw [← hq] at cg e4 eq4
          rw [← hp] at hd em4
          have hq8 : (q : Int) < 8 := by omega
          have hp4 : (p : Int) ≤ 3 := by omega
          have es : ((24 : Int) - 8 * (p : Int)).toNat = 24 - 8 * p := by omega
          obtain ⟨vo, ho⟩ : ∃ vo, C[i]? = some vo := ⟨_, Array.getElem?_eq_getElem (by omega)⟩
          have cf := (cell_of_row _ _ i C _ _ f4).trans ho
          have ff := frozen_of_row _ _ i _ _ f4
          clear hv' hc hq hp ho hC
          go_wp2
          go_roundw
          case rel =>
            refine ⟨i + 1, C.setIfInBounds i (.int .u8 (c.toNat : Int)), by omega, by go_num, by simpa using HCS.out, ?_, fun j hj => ?_, heap_setCell_same _ _ _ _ _ _ f4, ?_, K4.setCell (by show w.heap.size ≤ b; omega) _⟩
            · intro j hj
              have hC' := HCS.out
              rw [Array.getElem?_setIfInBounds]
              by_cases e : i = j
              · subst e
                rw [if_pos rfl, if_pos (by omega), HCC.out]
              · rw [if_neg e]; exact HC.out j (by omega)
            · rw [World.cell?_setCell_far _ _ _ _ (by show ¬ b = g; omega)]
              exact HG4.out j hj
            · rw [heap_setCell_other _ _ _ _ (by show ¬ w.heap.size = b; omega)]; exact z4
          case measure => simp [intOf]; omega
        · obtain rfl : i = 32 := by omega
          have hfin : C = D := by
            rw [HDD.out]
            exact byA_of _ _ (by rw [digest_len]; exact HCS.out) (fun j hj => by
              rw [digest_len] at hj
              rw [HD.out]
              exact HC.out j hj)
          subst hfin
          have HFC : Hid (F.size = C.size) := by
            have : F.size = C.size := by rw [HFS.out, HCS.out]
            exact this
          clear HC hC
          go_wp2_with (first
            | (with_reducible refine wpList_load_row rfl _ _ rfl b rfl 24 C (0, 0) _ f4 Tryd.underlying24 rfl HFI.out ?_)
            | (with_reducible refine wpList_store_row rfl _ _ _ rfl w.heap.size C rfl rfl 24 F z4 HFI.out HFC.out HF1.out ?_))
          refine bodyPost_ret (results_cell_row Tryd.results10 _ _ w.heap.size 24 C (0, 0) _ rfl (setRow_heap _ _ _ _ _ _ z4) Tryd.underlying24 rfl HFI.out) rfl ⟨rfl, ?_⟩
          exact below_setRow K4 (Nat.le_refl _) _

end Go.Proofs.YtepcnedagmfpeaaDoor
