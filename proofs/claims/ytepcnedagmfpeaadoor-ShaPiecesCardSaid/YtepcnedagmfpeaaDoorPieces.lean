/- The walk of ShaPieces. -/
import Derived.Test.YtepcnedagmfpeaaDoorSumsS
namespace Go.Proofs.YtepcnedagmfpeaaDoor
open Go.RowKit

/-- The texts so far, joined. -/
def catS (ss : List ByteArray) : ByteArray := str (joinB ss)
theorem catS_snoc (ss : List ByteArray) (k : Nat) (h : k < ss.length) : catS (ss.take k) ++ ss[k] = catS (ss.take (k + 1)) := by
  unfold catS
  rw [joinB_snoc ss k h, ← str_append, str_data]
theorem catS_size (ss : List ByteArray) : (catS ss).size = (joinB ss).length := str_size _

/-- What the loop holds. -/
def PiecesAt (w : World) (ss : List ByteArray) (B hh hb k : Nat) (wr : World) : Prop :=
  (∀ i, (h : i < ss.length) → i < k → ss[i].size ≤ 200) ∧ IsHash B hh hb (joinB (ss.take k)) wr ∧ B ≤ wr.heap.size ∧ Below w.heap.size w wr

theorem joinB_bound (ss : List ByteArray) : ∀ k, k ≤ ss.length → (∀ i, (h : i < ss.length) → i < k → ss[i].size ≤ 200) → (joinB (ss.take k)).length ≤ 200 * k
  | 0, _, _ => by simp [joinB]
  | k + 1, hk, h => by
    have ih := joinB_bound ss k (by omega) (fun i hi hik => h i hi (by omega))
    rw [joinB_snoc ss k (by omega), List.length_append, data_len]
    have := h k (by omega) (by omega)
    omega

set_option maxRecDepth 100000 in
set_option maxHeartbeats 16000000 in
theorem walk_shaPieces (w : World) (v : Value) (ss : List ByteArray) (hv : StrAt ss v w) (_hs : ss.length ≤ maxLen ∧ ∀ s ∈ ss, s.size ≤ maxLen) (hT : TabAt w) :
    Calls Tryd.prog 4 #[v] w (LawPost w) := by
  have hlen := _hs.1
  unfold maxLen at hlen
  have hsm := _hs.2
  have HSM := Lib.hid hsm
  have HV := Lib.hid hv
  obtain ⟨p, c, rfl, hc⟩ := hv
  have HC := Lib.hid hc
  clear hc hsm _hs
  go_enter Tryd.func4, Tryd.ntmps4
  go_wp2_with fail
  refine (new_any _).mono ?_
  rintro e w1 ⟨hh, hb, rfl, hH, K1⟩
  have HP0 : Hid (PiecesAt w ss w.heap.size hh hb 0 w1) := ⟨fun i h hi => by omega, hH, K1.size, K1⟩
  clear hH K1
  go_wp2
  go_loopw [3, 5] (fun a x wr => ∃ (k : Nat), k ≤ ss.length ∧ k ≤ 20 ∧ x = .int .i64 k ∧ a = .string (catS (ss.take k)) ∧ PiecesAt w ss w.heap.size hh hb k wr) (fun _ x _ => 20 - (intOf x).toNat)
  case atStart => exact ⟨0, Nat.zero_le _, by omega, rfl, rfl, HP0.out⟩
  case round =>
    clear HP0
    obtain ⟨k, hk, hk20, rfl, rfl, hsz, hH, hB, K⟩ := hrel
    have hbd := joinB_bound ss k hk hsz
    have hTw := hT.later K
    have HSZ := Lib.hid hsz
    clear hsz
    by_cases hlt : k < ss.length ∧ k < 20
    · obtain ⟨hlt, hlt20⟩ := hlt
      rcases HC.out with h | ⟨b, off, rfl, hcell⟩
      · rw [h] at hlt; simp at hlt
      have hc1 : wr.cell? ⟨b, off + k, none⟩ = some (.string ss[k]) := (K.cell (World.block_lt_of_cell? _ _ (hcell k hlt))).trans (hcell k hlt)
      have hcat := catS_snoc ss k hlt
      have hjn := joinB_snoc ss k hlt
      have hmx := HSM.out ss[k] (List.getElem_mem hlt)
      unfold maxLen at hmx
      have hnext : ss[k].size ≤ 200 → ∀ i, (h : i < ss.length) → i < k + 1 → ss[i].size ≤ 200 := fun h200 i hi hik => by
        by_cases e : i = k
        · subst e; exact h200
        · exact HSZ.out i hi (by omega)
      obtain ⟨s, hs⟩ : ∃ s, ss[k] = s := ⟨_, rfl⟩
      rw [hs] at hc1 hcat hjn hmx hnext
      have HNX := Lib.hid hnext
      have hl1 : (k : Int) < ss.length := by omega
      have hl2 : (k : Int) < 20 := by omega
      clear hcell hs hnext
      by_cases h200 : (200 : Int) < s.size
      · clear hcat hjn hbd
        go_wp2_with fail
        refine (awake_any _ hTw).mono ?_
        rintro e w2 ⟨rfl, hb2⟩
        go_wp2
        go_ret
        exact ⟨rfl, Below.then' K hb2 K.size⟩
      · have WR := write_any w.heap.size hh hb (joinB (ss.take k)) s (by omega) wr hH hB hTw
        rw [← hjn] at WR
        have hln : (joinB (ss.take (k + 1))).length ≤ 4200 := by rw [hjn, List.length_append, data_len]; omega
        have hals := catS_size (ss.take (k + 1))
        have hdat : (catS (ss.take (k + 1))).data.toList = joinB (ss.take (k + 1)) := str_list _
        obtain ⟨J, hJ⟩ : ∃ J, J = joinB (ss.take (k + 1)) := ⟨_, rfl⟩
        obtain ⟨al, hal⟩ : ∃ al, al = catS (ss.take (k + 1)) := ⟨_, rfl⟩
        rw [← hJ] at WR hln hals hdat
        rw [← hal] at hcat hals hdat
        have RS := rsumS_any al (by omega)
        rw [hdat] at RS
        have LE := fun w' h => len_any w.heap.size hh hb J w' h
        have SM := fun w' h hT' => hsum_any w.heap.size hh hb J (by omega) w' h hT'
        have heq := same_fp (digest J) (digest_len _)
        obtain ⟨D, hD⟩ : ∃ D, D = byA (digest J) := ⟨_, rfl⟩
        rw [← hD] at RS SM heq
        obtain ⟨n, hn⟩ : ∃ n, n = J.length := ⟨_, rfl⟩
        rw [← hn] at LE hals
        have HJ := Lib.hid hJ
        have HAL := Lib.hid hal
        have hlen2 : n ≤ 4200 := by omega
        have hcs : (catS (ss.take k)).size ≤ 4000 := by rw [catS_size]; omega
        have hs200 : s.size ≤ 200 := by omega
        have HN := Lib.hid hn
        clear hjn hJ hal hdat hD hn hln hbd
        by_cases h3 : (k : Int) % 3 = 1
        all_goals
          go_wp2_with fail
          refine WR.mono ?_
          rintro e w2 ⟨rfl, hH2, hb2⟩
          have K2 := K.trans hb2
          have hB2 : w.heap.size ≤ w2.heap.size := K2.size
          go_wp2_with fail
          refine (LE _ hH2).mono ?_
          rintro e w' ⟨rfl, rfl⟩
        · go_wp2_with fail
          refine (SM _ hH2 (hT.later K2)).mono ?_
          rintro e w3 ⟨rfl, hb3⟩
          have K3 := Below.then' K2 hb3 K2.size
          have hH3 := hH2.later hb3
          clear hb3 hH2 K2 hb2
          go_wp2_with fail
          refine (RS _).mono ?_
          rintro e w4 ⟨rfl, hb4⟩
          have K4 := Below.then' K3 hb4 K3.size
          have hH4 := hH3.later hb4
          clear hb4 hH3 K3
          go_wp2
          go_roundw
          case rel =>
            exact ⟨k + 1, by omega, by omega, by go_num, by rw [HAL.out], HNX.out hs200, by rw [← HJ.out]; exact hH4, K4.size, K4⟩
          case measure => simp [intOf]; omega
        · go_wp2
          go_roundw
          case rel =>
            exact ⟨k + 1, by omega, by omega, by go_num, by rw [HAL.out], HNX.out hs200, by rw [← HJ.out]; exact hH2, hB2, K2⟩
          case measure => simp [intOf]; omega
    · by_cases hgt : (20 : Int) < ss.length
      · obtain rfl : k = 20 := by omega
        have hl1 : (20 : Int) < ss.length := hgt
        clear hlt
        go_wp2_with fail
        refine (awake_any _ hTw).mono ?_
        rintro e w2 ⟨rfl, hb2⟩
        go_wp2
        go_ret
        exact ⟨rfl, Below.then' K hb2 K.size⟩
      · have hkl : k = ss.length := by omega
        have hT2 : ss.take k = ss := by rw [hkl, List.take_length]
        rw [hT2] at hH hbd ⊢
        have SU := sum_any ss (.slice p ss.length c) wr (HV.out.later K) (by omega) (by omega) hTw
        have hals := catS_size ss
        have hdat : (catS ss).data.toList = joinB ss := str_list _
        have SM := fun w' h hT' => hsum_any w.heap.size hh hb (joinB ss) (by omega) w' h hT'
        have LE := fun w' h => len_any w.heap.size hh hb (joinB ss) w' h
        have heq := same_fp (digest (joinB ss)) (digest_len _)
        have RS := rsumS_any (catS ss) (by omega)
        rw [hdat] at RS
        obtain ⟨D, hD⟩ : ∃ D, D = byA (digest (joinB ss)) := ⟨_, rfl⟩
        rw [← hD] at SU RS SM heq
        obtain ⟨n, hn⟩ : ∃ n, n = (joinB ss).length := ⟨_, rfl⟩
        rw [← hn] at LE hals
        obtain ⟨al, hal⟩ : ∃ al, al = catS ss := ⟨_, rfl⟩
        rw [← hal] at hals RS ⊢
        have hk1 : ¬ (k : Int) < ss.length := by omega
        have hlen2 : n ≤ 4200 := by omega
        clear hdat hD hn hal hT2 hlt hbd
        subst hkl
        go_wp2_with fail
        refine SU.mono ?_
        rintro e w2 ⟨rfl, hb2⟩
        have K2 := Below.then' K hb2 K.size
        have hH2 := hH.later hb2
        clear hb2 hH K SU
        go_wp2_with fail
        refine (RS _).mono ?_
        rintro e w3 ⟨rfl, hb3⟩
        have K3 := Below.then' K2 hb3 K2.size
        have hH3 := hH2.later hb3
        clear hb3 hH2 K2
        go_wp2_with fail
        refine (SM _ hH3 (hT.later K3)).mono ?_
        rintro e w4 ⟨rfl, hb4⟩
        have K4 := Below.then' K3 hb4 K3.size
        have hH4 := hH3.later hb4
        clear hb4 hH3 K3
        go_wp2_with fail
        refine (RS _).mono ?_
        rintro e w5 ⟨rfl, hb5⟩
        have K5 := Below.then' K4 hb5 K4.size
        have hH5 := hH4.later hb5
        clear hb5 hH4 K4
        go_wp2_with fail
        refine (LE _ hH5).mono ?_
        rintro e w' ⟨rfl, rfl⟩
        go_wp2_with fail
        refine (awake_any _ (hT.later K5)).mono ?_
        rintro e w6 ⟨rfl, hb6⟩
        go_wp2
        go_ret
        exact ⟨rfl, Below.then' K5 hb6 K5.size⟩

end Go.Proofs.YtepcnedagmfpeaaDoor
