/- The walks of Start, emptyText, sum, Sum. -/
import Derived.Test.YtepcnedagmfpeaaDoorMoreT
import Derived.Test.YtepcnedagmfpeaaDoorPad
namespace Go.Proofs.YtepcnedagmfpeaaDoor
open Go.RowKit

theorem stH_arr : nuA stH.list = #[Value.int .u32 1779033703, Value.int .u32 3144134277, Value.int .u32 1013904242, Value.int .u32 2773480762, Value.int .u32 1359893119, Value.int .u32 2600822924, Value.int .u32 528734635, Value.int .u32 1541459225] := rfl

set_option maxRecDepth 100000 in
theorem start_any (w : World) :
    Calls Tryd.prog 17 #[] w fun e w' => e = .returned (.agg (nuA stH.list)) ∧ Below w.heap.size w w' := by
  have hi := infoSt stH
  have h1 := nuA_one stH.list
  have HI := Lib.hid hi
  have H1 := Lib.hid h1
  clear hi h1
  go_enter Tryd.func17, Tryd.ntmps17
  go_wp2_with (with_reducible refine wpList_store_row rfl _ _ _ rfl w.heap.size (nuA stH.list) rfl rfl 39 _ (heap_alloc_last w _) HI.out rfl H1.out ?_)
  rw [World.setRow_alloc_new]
  simp only [Act.put]
  refine bodyPost_ret (results_cell_row Tryd.results17 _ _ w.heap.size 39 (nuA stH.list) (0, 0) _ rfl (heap_alloc_last w _) Tryd.underlying39 rfl HI.out) rfl ⟨rfl, ?_⟩
  exact (Below.refl _ _).alloc (Nat.le_refl _) _

theorem built_empty : Tryd.prog.built 53 [(0, .agg (nuA stH.list))] = some (txt stH (List.replicate 64 0) 0) := by kernel_rfl

set_option maxRecDepth 100000 in
theorem emptyText_at (T : Array Value) (hTT : T = txt stH (List.replicate 64 0) 0) (w : World) :
    Calls Tryd.prog 21 #[] w fun e w' => e = .returned (.agg T) ∧ Below w.heap.size w w' := by
  have hT := text_empty
  have hb := built_empty
  rw [← hTT] at hT hb
  have hi := isText_info hT
  have h1 := isText_one hT
  have hs := isText_size hT
  obtain ⟨A, hA⟩ : ∃ A, A = nuA stH.list := ⟨_, rfl⟩
  have SA := start_any
  rw [← hA] at hb
  have SA' : ∀ w, Calls Tryd.prog 17 #[] w fun e w' => e = .returned (.agg A) ∧ Below w.heap.size w w' := by rw [hA]; exact SA
  obtain ⟨Z, hZs, hZr⟩ := zeroTx
  have HI := Lib.hid hi
  have H1 := Lib.hid h1
  have HB := Lib.hid hb
  have HS : Hid (Z.size = T.size) := by
    have : Z.size = T.size := by rw [hs, hZs]
    exact this
  clear hi h1 hs hT hTT hb hA SA hZs
  go_enter Tryd.func21, Tryd.ntmps21
  go_wp2_with fail
  refine (SA' _).mono ?_
  rintro e w1 ⟨rfl, hb1⟩
  have K0 : Below w.heap.size w (w.alloc (.cells Z 53)) := (Below.refl _ _).alloc (Nat.le_refl _) _
  have g0 := heap_alloc_last w (.cells Z 53)
  have K1 := Below.then' K0 hb1 K0.size
  have g1 := (hb1.block _ (Array.getElem?_eq_some_iff.1 g0).1).trans g0
  clear hb1 K0 g0
  go_wp2_with (first
    | (with_reducible refine wpList_built rfl _ _ rfl [(0, .agg A)] ?p T HB.out ?_)
    | (with_reducible refine wpList_store_row rfl _ _ _ rfl w.heap.size T rfl rfl 53 Z g1 HI.out HS.out H1.out ?_))
  refine bodyPost_ret (results_cell_row Tryd.results21 _ _ w.heap.size 53 T (0, 0) _ rfl (setRow_heap _ _ _ _ _ _ g1) Tryd.underlying53 rfl HI.out) rfl ⟨rfl, ?_⟩
  exact below_setRow K1 (Nat.le_refl _) _

theorem emptyText_any (w : World) :
    Calls Tryd.prog 21 #[] w (TextPost w []) :=
  (emptyText_at _ rfl w).mono fun _ _ h => ⟨_, text_empty, h.1, h.2⟩

/-- A byte of a state. -/
theorem st_byte (s : St) (i : Nat) (h : i < 32) : s.bytes.getD i 0 = UInt8.ofNat (s.list.getD (i / 4) 0 / 256 ^ (3 - i % 4)) := by
  have : i = 0 ∨ i = 1 ∨ i = 2 ∨ i = 3 ∨ i = 4 ∨ i = 5 ∨ i = 6 ∨ i = 7 ∨ i = 8 ∨ i = 9 ∨ i = 10 ∨ i = 11 ∨ i = 12 ∨ i = 13 ∨ i = 14 ∨ i = 15 ∨ i = 16 ∨ i = 17 ∨ i = 18 ∨ i = 19 ∨ i = 20 ∨ i = 21 ∨ i = 22 ∨ i = 23 ∨ i = 24 ∨ i = 25 ∨ i = 26 ∨ i = 27 ∨ i = 28 ∨ i = 29 ∨ i = 30 ∨ i = 31 := by omega
  rcases this with rfl | rfl | rfl | rfl | rfl | rfl | rfl | rfl | rfl | rfl | rfl | rfl | rfl | rfl | rfl | rfl | rfl | rfl | rfl | rfl | rfl | rfl | rfl | rfl | rfl | rfl | rfl | rfl | rfl | rfl | rfl | rfl <;> rfl

theorem st_byte_div (s : St) (i : Nat) (h : i < 32) : (((s.list.getD (i / 4) 0 : Nat) : Int) / 2 ^ (24 - 8 * (i % 4))) % 256 = ((s.bytes.getD i 0).toNat : Int) := by
  have e : (2 : Int) ^ (24 - 8 * (i % 4)) = ((256 ^ (3 - i % 4) : Nat) : Int) := by
    rw [Int.natCast_pow, show ((256 : Nat) : Int) = 2 ^ 8 from rfl, ← Int.pow_mul]
    congr 1
    omega
  rw [st_byte s i h, e, UInt8.toNat_ofNat']
  omega

def zerosF : Array Value := #[Value.int .u8 0, Value.int .u8 0, Value.int .u8 0, Value.int .u8 0, Value.int .u8 0, Value.int .u8 0, Value.int .u8 0, Value.int .u8 0, Value.int .u8 0, Value.int .u8 0, Value.int .u8 0, Value.int .u8 0, Value.int .u8 0, Value.int .u8 0, Value.int .u8 0, Value.int .u8 0, Value.int .u8 0, Value.int .u8 0, Value.int .u8 0, Value.int .u8 0, Value.int .u8 0, Value.int .u8 0, Value.int .u8 0, Value.int .u8 0, Value.int .u8 0, Value.int .u8 0, Value.int .u8 0, Value.int .u8 0, Value.int .u8 0, Value.int .u8 0, Value.int .u8 0, Value.int .u8 0]

theorem byA_of (l : List UInt8) (C : Array Value) (hs : C.size = l.length) (h : ∀ j, j < l.length → C[j]? = some (.int .u8 ((l.getD j 0).toNat : Int))) : C = byA l := by
  apply Array.ext_getElem?
  intro j
  by_cases hj : j < l.length
  · rw [h j hj, byA_get l j hj]
  · rw [Array.getElem?_eq_none (by omega), Array.getElem?_eq_none (by rw [byA_size]; omega)]

theorem infoFpD (l : List UInt8) : (Tryd.prog.info? 24).map (·.size) = some (byA (digest l)).size := by rw [byA_size, digest_len]; exact infoFp

set_option maxRecDepth 100000 in
set_option maxHeartbeats 2000000 in
theorem sumT_any (l : List UInt8) (T : Array Value) (hT : IsText l T) (hl : l.length ≤ 100000000000000) (w : World) (hK : TabAt w) :
    Calls Tryd.prog 23 #[.agg T] w fun e w' => e = .returned (.agg (byA (digest l))) ∧ Below w.heap.size w w' := by
  have hn := isText_len hT
  have hi := isText_info hT
  have PA := pad_any l.length (by omega)
  have MO := more_any l T hT (str (padL l.length)) (by rw [str_size, padL_len]; omega)
  rw [str_list] at MO
  obtain ⟨e, he⟩ : ∃ e, e = str (padL l.length) := ⟨_, rfl⟩
  obtain ⟨L, hL⟩ : ∃ L, L = l ++ padL l.length := ⟨_, rfl⟩
  have hdg : digest l = (absorb (L.length / 64) L).bytes := by rw [hL]; rfl
  rw [← he] at PA MO
  rw [← hL] at MO
  obtain ⟨m, hm⟩ : ∃ m, m = l.length := ⟨_, rfl⟩
  rw [← hm] at hn PA
  have HI := Lib.hid hi
  have HN := Lib.hid hn
  have HD := Lib.hid hdg
  clear hn hi he hL hdg hm hT hl
  go_enter Tryd.func23, Tryd.ntmps23
  have hlt0 := heap_alloc2_old w (.cells T 53) (.cells zerosF 24)
  have c0 : ((w.alloc (.cells T 53)).alloc (.cells zerosF 24)).cell? ⟨w.heap.size, 72, none⟩ = some (.int .i64 m) := (cell_of_row _ _ _ _ _ _ hlt0).trans HN.out
  unfold zerosF at c0
  go_wp2_with fail
  clear c0 hlt0
  obtain ⟨Z, hZ⟩ : ∃ Z : Array Value, Z = zerosF := ⟨_, rfl⟩
  have hZ' := hZ
  unfold zerosF at hZ'
  rw [← hZ']
  have hZs : Z.size = 32 := by rw [hZ]; rfl
  have HZS := Lib.hid hZs
  clear hZ hZ' hZs
  have g0 := heap_alloc2_old w (.cells T 53) (.cells Z 24)
  have z0 := heap_alloc2_new w (.cells T 53) (.cells Z 24)
  have K0 : Below w.heap.size w ((w.alloc (.cells T 53)).alloc (.cells Z 24)) := ((Below.refl _ _).alloc (Nat.le_refl _) _).alloc (by simp) _
  refine (PA _).mono ?_
  rintro e0 w1 ⟨rfl, hb1⟩
  have K1 := Below.then' K0 hb1 K0.size
  have g1 := (hb1.block _ (Array.getElem?_eq_some_iff.1 g0).1).trans g0
  have z1 := (hb1.block _ (Array.getElem?_eq_some_iff.1 z0).1).trans z0
  clear hb1 g0 z0 K0
  go_wp2_with (with_reducible refine wpList_load_row rfl _ _ rfl w.heap.size rfl 53 T (0, 0) _ g1 Tryd.underlying53 rfl HI.out ?_)
  refine (MO _ (hK.later K1)).mono ?_
  rintro e0 w2 ⟨T', hT', rfl, hb2⟩
  have K2 := Below.then' K1 hb2 K1.size
  have z2 := (hb2.block _ (Array.getElem?_eq_some_iff.1 z1).1).trans z1
  have hzl : w.heap.size + 1 < w2.heap.size := (Array.getElem?_eq_some_iff.1 z2).1
  clear hb2 g1 z1 K1
  have hfi := isText_state hT'
  obtain ⟨s, hs⟩ : ∃ s, s = absorb (L.length / 64) L := ⟨_, rfl⟩
  rw [← hs] at hfi
  have HS := Lib.hid hs
  have hfield := fun w' => run_field_sub (P := Tryd.prog) w' 53 _ T' 0 _ _ 8 Tryd.underlying53 rfl Tryd.underlying39 rfl infoS8
  have hfield' : ∀ w', (Instr.field 53 (.agg T') 0).run Tryd.prog w' = .ok (.agg (nuA s.list)) w' := fun w' => by rw [← hfi]; exact hfield w'
  have hAi := infoSt s
  have hA1 := nuA_one s.list
  have hAg : ∀ j, j < 8 → (nuA s.list)[j]? = some (.int .u32 (s.list.getD j 0 : Nat)) := fun j hj => nuA_get _ _ hj
  have hAs : (nuA s.list).size = 8 := by rw [nuA_size]; rfl
  obtain ⟨A, hA⟩ : ∃ A, A = nuA s.list := ⟨_, rfl⟩
  rw [← hA] at hAi hA1 hAg hAs
  have hfield2 : ∀ w', (Instr.field 53 (.agg T') 0).run Tryd.prog w' = .ok (.agg A) w' := by rw [hA]; exact hfield'
  have HAI := Lib.hid hAi
  have HA1 := Lib.hid hA1
  have HAG := Lib.hid hAg
  have HAS := Lib.hid hAs
  clear hfi hs hfield hfield' hAi hA1 hAg hAs hA hT'
  go_wp2_with (((with_reducible refine wpList_store_row rfl _ _ _ rfl w2.heap.size A rfl rfl 39 _ (heap_alloc_last w2 _) HAI.out ?_ HA1.out ?_); rotate_left))
  rotate_left
  · rw [HAS.out]; rfl
  rw [World.setRow_alloc_new]
  obtain ⟨F, hF⟩ : ∃ F : Array Value, F = zerosF := ⟨_, rfl⟩
  have hF' := hF
  unfold zerosF at hF'
  rw [← hF']
  have hFs : F.size = 32 := by rw [hF]; rfl
  have HFS := Lib.hid hFs
  clear hF hF' hFs
  have g3 := heap_alloc2_old w2 (.cells A 39) (.cells F 24)
  have f3 := heap_alloc2_new w2 (.cells A 39) (.cells F 24)
  have K3 := (K2.alloc K2.size (.cells A 39)).alloc (by simp; omega) (.cells F 24)
  have z3 : ((w2.alloc (.cells A 39)).alloc (.cells F 24)).heap[w.heap.size + 1]? = some (.cells Z 24 (0, 0)) := by
    rw [Below.heap_alloc _ _ _ (by simp; omega), Below.heap_alloc _ _ _ (by omega)]; exact z2
  obtain ⟨b, hb⟩ : ∃ b, b = w2.heap.size := ⟨_, rfl⟩
  rw [← hb] at g3 f3 hzl ⊢
  clear hb z2 K2
  go_loopw [18] (fun x wr => ∃ (i : Nat) (C : Array Value), i ≤ 32 ∧ x = .int .i64 i ∧ C.size = 32 ∧ (∀ j, j < i → C[j]? = some (.int .u8 ((s.bytes.getD j 0).toNat : Int))) ∧
      wr.heap[b]? = some (.cells A 39 (0, 0)) ∧ wr.heap[b + 1]? = some (.cells C 24 (0, 0)) ∧ wr.heap[w.heap.size + 1]? = some (.cells Z 24 (0, 0)) ∧ Below w.heap.size w wr) (fun x _ => 32 - (intOf x).toNat)
  case atStart => exact ⟨0, F, Nat.zero_le _, rfl, HFS.out, fun j hj => by omega, g3, f3, z3, K3⟩
  case round =>
    clear g3 f3 z3 K3
    obtain ⟨i, C, hi, rfl, hC, hcs, g4, f4, z4, K4⟩ := hrel
    have HC := Lib.hid hcs
    have HCS := Lib.hid hC
    clear hcs
    by_cases hlt : i < 32
    · have hv := HAG.out (i / 4) (by omega)
      have hd := st_byte_div s i hlt
      obtain ⟨v, hv'⟩ : ∃ v, v = s.list.getD (i / 4) 0 := ⟨_, rfl⟩
      rw [← hv'] at hv hd
      obtain ⟨c, hc⟩ : ∃ c, c = s.bytes.getD i 0 := ⟨_, rfl⟩
      rw [← hc] at hd
      have HCC := Lib.hid hc
      have e4 : ((i : Int) / 4).toNat = i / 4 := by omega
      have eq4 : (i : Int) / 4 = ((i / 4 : Nat) : Int) := by omega
      have em4 : (i : Int) % 4 = ((i % 4 : Nat) : Int) := by omega
      obtain ⟨q, hq⟩ : ∃ q, q = i / 4 := ⟨_, rfl⟩
      obtain ⟨p, hp⟩ : ∃ p, p = i % 4 := ⟨_, rfl⟩
      rw [← hq] at hv e4 eq4
      rw [← hp] at hd em4
      have hq8 : (q : Int) < 8 := by omega
      have hp4 : (p : Int) ≤ 3 := by omega
      have es : ((24 : Int) - 8 * (p : Int)).toNat = 24 - 8 * p := by omega
      have cg : wr.cell? ⟨b, q, none⟩ = some (.int .u32 (v : Nat)) := (cell_of_row _ _ _ A _ _ g4).trans hv
      obtain ⟨vo, ho⟩ : ∃ vo, C[i]? = some vo := ⟨_, Array.getElem?_eq_getElem (by omega)⟩
      have cf : wr.cell? ⟨b + 1, i, none⟩ = some vo := (cell_of_row _ _ _ C _ _ f4).trans ho
      have ff : wr.frozen? ⟨b + 1, i, none⟩ = false := frozen_of_row _ _ _ _ _ f4
      clear hv hv' hc hq hp ho hC
      go_wp2
      go_roundw
      case rel =>
        refine ⟨i + 1, C.setIfInBounds i (.int .u8 (c.toNat : Int)), by omega, by go_num, by simpa using HCS.out, ?_, ?_, heap_setCell_same _ _ _ _ _ _ f4, ?_, K4.setCell (by show w.heap.size ≤ b + 1; omega) _⟩
        · intro j hj
          have hC' := HCS.out
          rw [Array.getElem?_setIfInBounds]
          by_cases e : i = j
          · subst e
            rw [if_pos rfl, if_pos (by omega), HCC.out]
          · rw [if_neg e]; exact HC.out j (by omega)
        · rw [heap_setCell_other _ _ _ _ (by show ¬ b = b + 1; omega)]; exact g4
        · rw [heap_setCell_other _ _ _ _ (by show ¬ w.heap.size + 1 = b + 1; omega)]; exact z4
      case measure => simp [intOf]; omega
    · obtain rfl : i = 32 := by omega
      have hfin : C = byA (digest l) := byA_of _ _ (by rw [digest_len]; exact HCS.out) (fun j hj => by
        rw [digest_len] at hj
        rw [HD.out, ← HS.out]
        exact HC.out j hj)
      subst hfin
      clear HC hC
      have hFi := infoFpD l
      have hF1 := byA_one (digest l)
      have HFI := Lib.hid hFi
      have HF1 := Lib.hid hF1
      clear hFi hF1
      go_wp2_with (first
        | (with_reducible refine wpList_load_row rfl _ _ rfl (b + 1) rfl 24 (byA (digest l)) (0, 0) _ f4 Tryd.underlying24 rfl HFI.out ?_)
        | (with_reducible refine wpList_store_row rfl _ _ _ rfl (w.heap.size + 1) (byA (digest l)) rfl rfl 24 Z z4 HFI.out (by rw [HZS.out, HCS.out]) HF1.out ?_))
      refine bodyPost_ret (results_cell_row Tryd.results23 _ _ (w.heap.size + 1) 24 (byA (digest l)) (0, 0) _ rfl (setRow_heap _ _ _ _ _ _ z4) Tryd.underlying24 rfl HFI.out) rfl ⟨rfl, ?_⟩
      exact below_setRow K4 (by omega) _

end Go.Proofs.YtepcnedagmfpeaaDoor
