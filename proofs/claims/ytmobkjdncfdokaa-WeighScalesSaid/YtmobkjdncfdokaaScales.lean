/- The walk of WeighScales. -/
import Derived.Test.YtmobkjdncfdokaaTexts
namespace Go.Proofs.Ytmobkjdncfdokaa
open Go.RowKit

/-- The texts, each cut, joined. -/
def catC (ss : List ByteArray) : List UInt8 := (ss.map fun s => (cutB s).data.toList).flatten

theorem catC_snoc (ss : List ByteArray) (k : Nat) (h : k < ss.length) : catC (ss.take (k + 1)) = catC (ss.take k) ++ (cutB ss[k]).data.toList := by
  unfold catC
  rw [List.take_succ_eq_append_getElem h]
  simp only [List.map_append, List.flatten_append, List.map_cons, List.map_nil, List.flatten_cons, List.flatten_nil, List.append_nil]

theorem catC_bound (ss : List ByteArray) : ∀ k, k ≤ ss.length → (catC (ss.take k)).length ≤ 2000 * k
  | 0, _ => by simp [catC]
  | k + 1, hk => by
    have ih := catC_bound ss k (by omega)
    rw [catC_snoc ss k (by omega), List.length_append, data_len]
    have := cutB_size ss[k]
    omega

/-- What the loop holds. -/
def ScalesAt (w : World) (ss : List ByteArray) (g k : Nat) (wr : World) : Prop := IsScale g (catC (ss.take k)) wr ∧ Below w.heap.size w wr

theorem IsScale.later {g : Nat} {l : List UInt8} {w w' : World} (h : IsScale g l w) (hb : Below w.heap.size w w') : IsScale g l w' :=
  (hb.block _ (Array.getElem?_eq_some_iff.1 h).1).trans h

set_option maxRecDepth 100000 in
set_option maxHeartbeats 8000000 in
theorem walk_weighScales (w : World) (v : Value) (ss : List ByteArray) (hv : StrAt ss v w) (hs : ss.length ≤ maxLen ∧ ∀ s ∈ ss, s.size ≤ maxLen) :
    Calls Try.prog 6 #[v] w (LawPost w) := by
  have hlen := hs.1
  unfold maxLen at hlen
  have HSM := Lib.hid hs.2
  obtain ⟨p, c, rfl, hc⟩ := hv
  have HC := Lib.hid hc
  have oz := order_zero_zero
  clear hc hs
  go_enter Try.func6, Try.ntmps6
  go_wp2_with fail
  refine (new_any _).mono ?_
  rintro e w1 ⟨g, rfl, hg, hH, K1⟩
  have HP0 : Hid (ScalesAt w ss g 0 w1) := ⟨by simpa [catC] using hH, K1⟩
  clear hH K1
  go_wp2
  go_loopw [4, 5] (fun a x wr => ∃ (k : Nat), k ≤ ss.length ∧ k ≤ 12 ∧ x = .int .i64 k ∧ a = .string (str (catC (ss.take k))) ∧ ScalesAt w ss g k wr) (fun _ x _ => 12 - (intOf x).toNat)
  case atStart => exact ⟨0, Nat.zero_le _, by omega, rfl, rfl, HP0.out⟩
  case round =>
    clear HP0
    obtain ⟨k, hk, hk12, rfl, rfl, hH, K⟩ := hrel
    have hbd := catC_bound ss k hk
    by_cases hlt : k < ss.length ∧ k < 12
    · obtain ⟨hlt, hlt12⟩ := hlt
      rcases HC.out with h | ⟨b, off, rfl, hcell⟩
      · rw [h] at hlt; simp at hlt
      have hc0 := hcell k hlt
      have hblk := World.block_lt_of_cell? _ _ hc0
      have hc1 : wr.cell? ⟨b, off + k, none⟩ = some (.string ss[k]) := (K.cell hblk).trans hc0
      have hsn := catC_snoc ss k hlt
      have hbd1 := catC_bound ss (k + 1) (by omega)
      have hmx := HSM.out ss[k] (List.getElem_mem hlt)
      have C0 := cut_any ss[k] hmx
      have hcut := cutB_size ss[k]
      obtain ⟨t, ht⟩ : ∃ t, t = cutB ss[k] := ⟨_, rfl⟩
      obtain ⟨s, hse⟩ : ∃ s, s = ss[k] := ⟨_, rfl⟩
      rw [← ht] at hsn hcut C0
      rw [← hse] at hc0 hc1 C0
      obtain ⟨A, hA⟩ : ∃ A, A = catC (ss.take k) := ⟨_, rfl⟩
      obtain ⟨A', hA'⟩ : ∃ A', A' = catC (ss.take (k + 1)) := ⟨_, rfl⟩
      rw [← hA] at hsn hbd hH ⊢
      rw [← hA'] at hsn hbd1
      have hcat : str A ++ t = str A' := by rw [hsn, ← str_append, str_data]
      have W := write_any w.heap.size g A t (by omega) wr hH hg
      rw [← hsn] at W
      have S := fun w' h => sum_any g A' w' h
      have L := fun w' h => len_any g A' w' h
      have R := rof_any (str A') (by rw [str_size]; omega)
      rw [str_list] at R
      have N := num_any (wRe 0 A') (wIm 0 A')
      have hsm := w_small A' (by omega)
      have o1 := order_self _ hsm.1
      have o2 := order_self _ hsm.2
      have hsz := str_size A'
      have hszA := str_size A
      have HA' := Lib.hid hA'
      generalize flt (wRe 0 A') = x at *
      generalize flt (wIm 0 A') = y at *
      have hk1 : (k : Int) < ss.length := by omega
      have hk2 : (k : Int) < 12 := by omega
      have hln : (A'.length : Int) ≤ 100000 := by omega
      clear hsm hA hA' hse ht hmx hsn hcell hH hlt hbd1
      go_wp2_with fail
      refine (C0 _).mono ?_
      rintro e w' ⟨rfl, rfl⟩
      go_wp2_with fail
      refine W.mono ?_
      rintro e w2 ⟨rfl, hH2, hb2⟩
      have K2 := K.trans hb2
      have hc2 := (K2.cell hblk).trans hc0
      clear hb2 W
      clear K hc1
      go_wp2_with fail
      refine (C0 _).mono ?_
      rintro e w' ⟨rfl, rfl⟩
      go_wp2_with fail
      refine (S _ hH2).mono ?_
      rintro e w' ⟨rfl, rfl⟩
      go_wp2_with fail
      refine (R _).mono ?_
      rintro e w3 ⟨rfl, hb3⟩
      have K3 := Below.then' K2 hb3 K2.size
      have hH3 := hH2.later hb3
      clear hb3 K2 hH2 hc2
      go_wp2_with fail
      refine (N _).mono ?_
      rintro e w4 ⟨rfl, hb4⟩
      have K4 := Below.then' K3 hb4 K3.size
      have hH4 := hH3.later hb4
      clear hb4 K3 hH3
      go_wp2_with fail
      refine (L _ hH4).mono ?_
      rintro e w' ⟨rfl, rfl⟩
      go_wp2
      go_roundw
      case rel =>
        exact ⟨k + 1, by omega, by omega, by go_num, by rw [← HA'.out], by rw [← HA'.out]; exact hH4, K4⟩
      case measure => simp [intOf]; omega
    · obtain ⟨A, hA⟩ : ∃ A, A = catC (ss.take k) := ⟨_, rfl⟩
      rw [← hA] at hbd hH ⊢
      have S := fun w' h => sum_any g A w' h
      have O := of_any (str A) (by rw [str_size]; omega)
      rw [str_list] at O
      unfold wOf at O
      have hsm := w_small A (by omega)
      have o1 := order_self _ hsm.1
      have o2 := order_self _ hsm.2
      have WN := write_no ⟨#[97]⟩
      generalize flt (wRe 0 A) = x at *
      generalize flt (wIm 0 A) = y at *
      have hk3 : ¬ ((k : Int) < ss.length ∧ (k : Int) < 12) := by omega
      clear hsm hA hbd
      have step : (k : Int) < ss.length ∧ ¬ ((k : Int) < 12) ∨ ¬ ((k : Int) < ss.length) := by omega
      clear hlt hk3
      rcases step with ⟨g1, g2⟩ | g1
      all_goals
        go_wp2_with fail
        refine (WN _).mono ?_
        rintro e w' ⟨rfl, rfl⟩
        go_wp2_with fail
        refine (S _ hH).mono ?_
        rintro e w' ⟨rfl, rfl⟩
        go_wp2_with fail
        refine (O _).mono ?_
        rintro e w2 ⟨rfl, hb2⟩
        have K2 := Below.then' K hb2 K.size
        clear K hb2 hH
        go_wp2_with fail
        refine (sum_no _).mono ?_
        rintro e w' ⟨rfl, rfl⟩
        go_wp2_with fail
        refine (len_no _).mono ?_
        rintro e w' ⟨rfl, rfl⟩
        go_wp2_with fail
        refine (awake_any _).mono ?_
        rintro e w3 ⟨rfl, hb3⟩
        go_wp2
        go_ret
        exact ⟨rfl, Below.then' K2 hb3 K2.size⟩

end Go.Proofs.Ytmobkjdncfdokaa
