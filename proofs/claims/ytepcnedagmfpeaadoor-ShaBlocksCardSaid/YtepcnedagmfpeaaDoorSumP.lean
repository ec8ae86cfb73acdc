/- The walk of Sum. -/
import Derived.Test.YtepcnedagmfpeaaDoorSumT
namespace Go.Proofs.YtepcnedagmfpeaaDoor
open Go.RowKit

/-- The bytes of some texts, one behind the other. -/
def joinB (ss : List ByteArray) : List UInt8 := (ss.map fun s => s.data.toList).flatten

theorem joinB_snoc (ss : List ByteArray) (k : Nat) (h : k < ss.length) : joinB (ss.take (k + 1)) = joinB (ss.take k) ++ ss[k].data.toList := by
  unfold joinB
  rw [List.take_succ_eq_append_getElem h]
  simp only [List.map_append, List.flatten_append, List.map_cons, List.map_nil, List.flatten_cons, List.flatten_nil, List.append_nil]

theorem joinB_le (ss : List ByteArray) (k : Nat) : (joinB (ss.take k)).length ≤ (joinB ss).length := by
  conv => rhs; rw [← List.take_append_drop k ss]
  unfold joinB
  simp only [List.map_append, List.flatten_append, List.length_append]
  omega

theorem joinB_step (ss : List ByteArray) (k : Nat) (h : k < ss.length) : (joinB (ss.take k)).length + ss[k].size ≤ (joinB ss).length := by
  have h1 := joinB_le ss (k + 1)
  rw [joinB_snoc ss k h, List.length_append, data_len] at h1
  exact h1

set_option maxRecDepth 100000 in
set_option maxHeartbeats 2000000 in
theorem sum_any (ss : List ByteArray) (v : Value) (w : World) (hv : StrAt ss v w) (hl : (joinB ss).length ≤ 100000000000000) (hn : ss.length ≤ 9223372036854775807) (hK : TabAt w) :
    Calls Tryd.prog 9 #[v] w fun e w' => e = .returned (.agg (byA (digest (joinB ss)))) ∧ Below w.heap.size w w' := by
  obtain ⟨p, c, rfl, hc⟩ := hv
  obtain ⟨Z, hZs, hZr⟩ := zeroTx
  have HZS := Lib.hid hZs
  have HL := Lib.hid hl
  have HC := Lib.hid hc
  obtain ⟨D, hD⟩ : ∃ D, D = byA (digest (joinB ss)) := ⟨_, rfl⟩
  rw [← hD]
  have HD := Lib.hid hD
  clear hZs hc hl hD
  go_enter Tryd.func9, Tryd.ntmps9
  go_wp2_with fail
  obtain ⟨F, hF⟩ : ∃ F : Array Value, F = zerosF := ⟨_, rfl⟩
  have hF' := hF
  unfold zerosF at hF'
  rw [← hF']
  have hFs : F.size = 32 := by rw [hF]; rfl
  have HFS := Lib.hid hFs
  clear hF hF' hFs
  refine (emptyText_any _).mono ?_
  rintro e0 w1 ⟨T, hT, rfl, hb1⟩
  have K0 : Below w.heap.size w (w.alloc (.cells F 24)) := (Below.refl _ _).alloc (Nat.le_refl _) _
  have f0 := heap_alloc_last w (.cells F 24)
  have K1 := Below.then' K0 hb1 K0.size
  have f1 := (hb1.block _ (Array.getElem?_eq_some_iff.1 f0).1).trans f0
  have hfl : w.heap.size < w1.heap.size := (Array.getElem?_eq_some_iff.1 f1).1
  have hTi := isText_info hT
  have hT1 := isText_one hT
  have hTs := isText_size hT
  have HTI := Lib.hid hTi
  have HT1 := Lib.hid hT1
  have HTS : Hid (Z.size = T.size) := by
    have : Z.size = T.size := by rw [HZS.out, hTs]
    exact this
  have HT := Lib.hid hT
  clear hb1 f0 K0 hTi hT1 hTs hT
  go_wp2_with ((with_reducible refine wpList_store_row rfl _ _ _ rfl w1.heap.size T rfl rfl 53 _ (heap_alloc_last w1 _) HTI.out HTS.out HT1.out ?_); rw [World.setRow_alloc_new])
  have t2 := heap_alloc_last w1 (.cells T 53)
  have f2 := (Below.heap_alloc w1 (.cells T 53) w.heap.size hfl).trans f1
  have K2 := K1.alloc K1.size (.cells T 53)
  obtain ⟨b, hb⟩ : ∃ b, b = w1.heap.size := ⟨_, rfl⟩
  rw [← hb] at t2 hfl ⊢
  clear f1 K1 hb
  go_loopw [9] (fun x wr => ∃ (k : Nat) (U : Array Value), k ≤ ss.length ∧ x = .int .i64 k ∧ IsText (joinB (ss.take k)) U ∧
      wr.heap[b]? = some (.cells U 53 (0, 0)) ∧ wr.heap[w.heap.size]? = some (.cells F 24 (0, 0)) ∧ Below w.heap.size w wr) (fun x _ => ss.length - (intOf x).toNat)
  case atStart => exact ⟨0, T, Nat.zero_le _, rfl, HT.out, t2, f2, K2⟩
  case round =>
    clear t2 f2 K2
    obtain ⟨k, U, hk, rfl, hU, t3, f3, K3⟩ := hrel
    have hUi := isText_info hU
    by_cases hlt : k < ss.length
    · rcases HC.out with h | ⟨b2, off, rfl, hcell⟩
      · rw [h] at hlt; simp at hlt
      have hst := joinB_step ss k hlt
      have hsn := joinB_snoc ss k hlt
      have hc1 : wr.cell? ⟨b2, off + k, none⟩ = some (.string ss[k]) := (K3.cell (World.block_lt_of_cell? _ _ (hcell k hlt))).trans (hcell k hlt)
      obtain ⟨s, hs⟩ : ∃ s, ss[k] = s := ⟨_, rfl⟩
      rw [hs] at hst hsn hc1
      have MO := more_any (joinB (ss.take k)) U hU s (by have := HL.out; omega)
      rw [← hsn] at MO
      have HUI := Lib.hid hUi
      have hUs := isText_size hU
      have HUS := Lib.hid hUs
      clear hcell hs hsn hUi hUs hU
      go_wp2_with (with_reducible refine wpList_load_row rfl _ _ rfl b rfl 53 U (0, 0) _ t3 Tryd.underlying53 rfl HUI.out ?_)
      refine (MO _ (hK.later K3)).mono ?_
      rintro e0 w4 ⟨U', hU', rfl, hb4⟩
      have K4 := Below.then' K3 hb4 K3.size
      have t4 := (hb4.block _ (Array.getElem?_eq_some_iff.1 t3).1).trans t3
      have f4 := (hb4.block _ (Array.getElem?_eq_some_iff.1 f3).1).trans f3
      have hUi := isText_info hU'
      have hU1 := isText_one hU'
      have HUI' := Lib.hid hUi
      have HU1' := Lib.hid hU1
      have HUS' : Hid (U.size = U'.size) := by
        have : U.size = U'.size := by rw [HUS.out, isText_size hU']
        exact this
      have HU' := Lib.hid hU'
      clear hb4 t3 f3 K3 hUi hU1 hU'
      go_wp2_with (with_reducible refine wpList_store_row rfl _ _ _ rfl b U' rfl rfl 53 U t4 HUI'.out HUS'.out HU1'.out ?_)
      go_roundw
      case rel => exact ⟨k + 1, U', by omega, by go_num, HU'.out, setRow_heap _ _ _ _ _ _ t4, (setRow_other _ _ _ _ (by omega)).trans f4, below_setRow K4 (by omega) _⟩
      case measure => simp [intOf]; omega
    · obtain rfl : k = ss.length := by omega
      rw [List.take_length] at hU
      have SU := sumT_any (joinB ss) U hU HL.out
      have hFi := infoFpD (joinB ss)
      have hF1 := byA_one (digest (joinB ss))
      have hFs : F.size = (byA (digest (joinB ss))).size := by rw [HFS.out, byA_size, digest_len]
      rw [← HD.out] at SU hFi hF1 hFs
      have HUI := Lib.hid hUi
      have HFI := Lib.hid hFi
      have HF1 := Lib.hid hF1
      have HFS' := Lib.hid hFs
      clear hU hUi hFi hF1 hFs
      go_wp2_with (with_reducible refine wpList_load_row rfl _ _ rfl b rfl 53 U (0, 0) _ t3 Tryd.underlying53 rfl HUI.out ?_)
      refine (SU _ (hK.later K3)).mono ?_
      rintro e0 w4 ⟨rfl, hb4⟩
      have K4 := Below.then' K3 hb4 K3.size
      have f4 := (hb4.block _ (Array.getElem?_eq_some_iff.1 f3).1).trans f3
      clear hb4 t3 f3 K3
      go_wp2_with (with_reducible refine wpList_store_row rfl _ _ _ rfl w.heap.size D rfl rfl 24 F f4 HFI.out HFS'.out HF1.out ?_)
      simp only [Act.put]
      refine bodyPost_ret (results_cell_row Tryd.results9 _ _ w.heap.size 24 D (0, 0) _ rfl (setRow_heap _ _ _ _ _ _ f4) Tryd.underlying24 rfl HFI.out) rfl ⟨rfl, ?_⟩
      exact below_setRow K4 (Nat.le_refl _) _

end Go.Proofs.YtepcnedagmfpeaaDoor
