/- The walks of RollSums, RollForgets, RollPlaces. -/
import Derived.Test.YtopdgjfgdodgeaaDoorRollK
namespace Go.Proofs.YtopdgjfgdodgeaaDoor
open Go.RowKit

theorem wf_u8 {x : Int} (wx : (Lit.int .u8 x).wf = true) : 0 ≤ x ∧ x ≤ 255 := by
  simp [Lit.wf, IntKind.min, IntKind.max, IntKind.bits, IntKind.signed] at wx; omega
theorem wf_u32 {x : Int} (wx : (Lit.int .u32 x).wf = true) : 0 ≤ x ∧ x ≤ 4294967295 := by
  simp [Lit.wf, IntKind.min, IntKind.max, IntKind.bits, IntKind.signed] at wx; omega
theorem wf_i64 {x : Int} (wx : (Lit.int .i64 x).wf = true) : -9223372036854775808 ≤ x ∧ x ≤ 9223372036854775807 := by
  simp [Lit.wf, IntKind.min, IntKind.max, IntKind.bits, IntKind.signed] at wx; omega
theorem byte_of {x : Int} (wx : (Lit.int .u8 x).wf = true) : ∃ b : UInt8, x = (b.toNat : Int) := by
  have h := wf_u8 wx
  refine ⟨UInt8.ofNat x.toNat, ?_⟩
  rw [UInt8.toNat_ofNat']
  omega

set_option maxRecDepth 100000 in
set_option maxHeartbeats 2000000 in
theorem walk_rollSums (s : ByteArray) (hs : s.size ≤ maxLen) (w : World) (hT : TabAt w) :
    Calls Tryd.prog 3 #[.string s] w (LawPost w) := by
  by_cases h3 : (300 : Int) < s.size
  · clear hs
    go_enter Tryd.func3, Tryd.ntmps3
    go_wp2_with fail
    refine (awake_any _ hT).mono ?_
    rintro e w1 ⟨rfl, K1⟩
    go_wp2
    go_ret
    exact ⟨rfl, K1⟩
  · have SU := sum_any s hs
    have RS := rsum_any s hs
    have AL := all_any s (by omega)
    have RA := rall_any s (by omega)
    have hn := hashes_len s.data.toList s.size
    obtain ⟨r, hr⟩ : ∃ r, r = rsum s.data.toList := ⟨_, rfl⟩
    obtain ⟨zs, hzs⟩ : ∃ zs, zs = hashes s.data.toList s.size := ⟨_, rfl⟩
    rw [← hr] at SU RS
    rw [← hzs] at AL RA hn
    have SA := fun v u w' h h' => same_any zs (by omega) v u w' h h'
    clear hr hzs hs hn
    go_enter Tryd.func3, Tryd.ntmps3
    go_wp2_with fail
    refine (SU _ hT).mono ?_
    rintro e w1 ⟨rfl, K1⟩
    go_wp2_with fail
    refine (RS _).mono ?_
    rintro e w' ⟨rfl, rfl⟩
    go_wp2_with fail
    refine (AL _ (hT.later K1)).mono ?_
    rintro e w2 ⟨v1, rfl, hv1, hb2⟩
    have K2 := Below.then' K1 hb2 K1.size
    clear hb2 K1
    go_wp2_with fail
    refine (RA _).mono ?_
    rintro e w3 ⟨v2, rfl, hv2, hb3⟩
    have K3 := Below.then' K2 hb3 K2.size
    have hv3 := hv1.later hb3
    clear hb3 K2 hv1
    go_wp2_with fail
    refine (SA _ _ _ hv3 hv2).mono ?_
    rintro e w4 ⟨rfl, hb4⟩
    have K4 := Below.then' K3 hb4 K3.size
    clear hb4 K3 hv3 hv2
    go_wp2_with fail
    refine (awake_any _ (hT.later K4)).mono ?_
    rintro e w5 ⟨rfl, hb5⟩
    go_wp2
    go_ret
    exact ⟨rfl, Below.then' K4 hb5 K4.size⟩

/-- A text, with bytes 's' behind it till it has sixteen. -/
def padded (s : ByteArray) (c : UInt8) (k : Nat) : ByteArray := str (s.data.toList ++ List.replicate k c)
theorem padded_size (s : ByteArray) (c : UInt8) (k : Nat) : (padded s c k).size = s.size + k := by unfold padded; rw [str_size, List.length_append, data_len, List.length_replicate]
theorem padded_zero (s : ByteArray) (c : UInt8) : padded s c 0 = s := by unfold padded; rw [List.replicate_zero, List.append_nil, str_data]
theorem padded_more (s : ByteArray) (c : UInt8) (k : Nat) : padded s c k ++ ⟨#[c]⟩ = padded s c (k + 1) := by
  unfold padded
  have e : (⟨#[c]⟩ : ByteArray) = str [c] := rfl
  rw [e, str_append, List.append_assoc, List.replicate_succ']

set_option maxRecDepth 100000 in
set_option maxHeartbeats 4000000 in
theorem walk_rollForgets (a : ByteArray) (_ha : a.size ≤ maxLen) (b : ByteArray) (_hb : b.size ≤ maxLen) (s : ByteArray) (_hs : s.size ≤ maxLen) (w : World) (hT : TabAt w) :
    Calls Tryd.prog 7 #[.string a, .string b, .string s] w (LawPost w) := by
  by_cases h3 : (300 : Int) < a.size ∨ (300 : Int) < b.size ∨ (300 : Int) < s.size
  · clear _hs _ha _hb
    by_cases h1 : (300 : Int) < a.size
    · clear h3
      go_enter Tryd.func7, Tryd.ntmps7
      go_wp2_with fail
      refine (awake_any _ hT).mono ?_
      rintro e w1 ⟨rfl, K1⟩
      go_wp2
      go_ret
      exact ⟨rfl, K1⟩
    · by_cases h2 : (300 : Int) < b.size
      · clear h3
        go_enter Tryd.func7, Tryd.ntmps7
        go_wp2_with fail
        refine (awake_any _ hT).mono ?_
        rintro e w1 ⟨rfl, K1⟩
        go_wp2
        go_ret
        exact ⟨rfl, K1⟩
      · have h4 : (300 : Int) < s.size := by omega
        clear h3
        go_enter Tryd.func7, Tryd.ntmps7
        go_wp2_with fail
        refine (awake_any _ hT).mono ?_
        rintro e w1 ⟨rfl, K1⟩
        go_wp2
        go_ret
        exact ⟨rfl, K1⟩
  · have h1 : ¬ (300 : Int) < a.size := by omega
    have h2 : ¬ (300 : Int) < b.size := by omega
    have h4 : ¬ (300 : Int) < s.size := by omega
    clear h3 _ha _hb _hs
    go_enter Tryd.func7, Tryd.ntmps7
    go_wp2
    go_loop [2] (fun x => ∃ (k : Nat), k ≤ 16 - s.size ∧ x = .string (padded s 115 k)) (fun x => match x with | .string t => 16 - t.size | _ => 0)
    case atStart => exact ⟨0, Nat.zero_le _, by rw [padded_zero]⟩
    case round =>
      obtain ⟨k, hk, rfl⟩ := hrel
      have hz := padded_size s 115 k
      have hmo := padded_more s 115 k
      obtain ⟨t, ht⟩ : ∃ t, t = padded s 115 k := ⟨_, rfl⟩
      rw [← ht] at hz hmo ⊢
      have HT := Lib.hid ht
      by_cases hlt : (t.size : Int) < 16
      · clear ht
        go_wp2
        go_round
        case rel => exact ⟨k + 1, by omega, rfl⟩
        case measure => simp only [padded_size]; omega
      · have ea : (a ++ t).data.toList = a.data.toList ++ t.data.toList := by simp [ByteArray.data_append]
        have eb : (b ++ t).data.toList = b.data.toList ++ t.data.toList := by simp [ByteArray.data_append]
        have hfo := rsum_forgets a.data.toList b.data.toList t.data.toList (by rw [data_len]; omega)
        rw [← ea, ← eb] at hfo
        have SA := sum_any (a ++ t) (by rw [ByteArray.size_append]; unfold maxLen; omega)
        have SB := sum_any (b ++ t) (by rw [ByteArray.size_append]; unfold maxLen; omega)
        rw [hfo] at SA
        obtain ⟨r, hr⟩ : ∃ r, r = rsum (b ++ t).data.toList := ⟨_, rfl⟩
        rw [← hr] at SA SB
        obtain ⟨A, hA⟩ : ∃ A, a ++ t = A := ⟨_, rfl⟩
        obtain ⟨B, hB⟩ : ∃ B, b ++ t = B := ⟨_, rfl⟩
        rw [hA] at SA
        rw [hB] at SB
        have hl1 : a.size + t.size ≤ 700 := by omega
        have hl2 : b.size + t.size ≤ 700 := by omega
        have hl3 : (a.size : Int) + t.size ≤ 700 := by omega
        have hl4 : (b.size : Int) + t.size ≤ 700 := by omega
        clear ea eb hfo hr ht hz hmo hk
        go_wp2_with fail
        refine (SA _ hT).mono ?_
        rintro e w1 ⟨rfl, K1⟩
        go_wp2_with fail
        refine (SB _ (hT.later K1)).mono ?_
        rintro e w2 ⟨rfl, hb2⟩
        have K2 := Below.then' K1 hb2 K1.size
        go_wp2_with fail
        refine (awake_any _ (hT.later K2)).mono ?_
        rintro e w3 ⟨rfl, hb3⟩
        go_wp2
        go_ret
        exact ⟨rfl, Below.then' K2 hb3 K2.size⟩

set_option maxRecDepth 100000 in
set_option maxHeartbeats 4000000 in
theorem walk_rollPlaces (s : ByteArray) (_hs : s.size ≤ maxLen) (div : Int) (wd : (Lit.int .i64 div).wf = true) (w : World) (hT : TabAt w) :
    Calls Tryd.prog 5 #[.string s, .int .i64 div] w (LawPost w) := by
  by_cases h3 : (300 : Int) < s.size
  · clear _hs wd
    go_enter Tryd.func5, Tryd.ntmps5
    go_wp2_with fail
    refine (awake_any _ hT).mono ?_
    rintro e w1 ⟨rfl, K1⟩
    go_wp2
    go_ret
    exact ⟨rfl, K1⟩
  · have hP : ∃ zs : List Nat, zs.length ≤ 1000000 ∧ (∀ w, TabAt w → Calls Tryd.prog 16 #[.string s, .int .i64 div] w fun e w' => ∃ v, e = .returned v ∧ I64At zs v w' ∧ Below w.heap.size w w') ∧
        (∀ w, Calls Tryd.prog 17 #[.string s, .int .i64 div] w fun e w' => ∃ v, e = .returned v ∧ I64At zs v w' ∧ Below w.heap.size w w') := by
      by_cases hd : div < 1
      · refine ⟨[], by simp, fun w _ => (places_no s div hd w).mono ?_, fun w => (rplaces_no s (by omega) div hd w).mono ?_⟩
        · rintro e w' ⟨rfl, rfl⟩
          exact ⟨_, rfl, ⟨none, 0, rfl, Or.inl rfl⟩, Below.refl _ _⟩
        · rintro e w' ⟨rfl, rfl⟩
          exact ⟨_, rfl, ⟨none, 0, rfl, Or.inl rfl⟩, Below.refl _ _⟩
      · have hwf := wf_i64 wd
        obtain ⟨d, rfl⟩ := Int.eq_ofNat_of_zero_le (show 0 ≤ div by omega)
        exact ⟨_, Nat.le_trans (placesTo_len s.data.toList d s.size) (by omega), fun w hT => places_any s (by omega) d (by omega) (by omega) w hT, fun w => rplaces_any s (by omega) d (by omega) (by omega) w⟩
    obtain ⟨zs, hzl, PL, RP⟩ := hP
    clear _hs wd
    go_enter Tryd.func5, Tryd.ntmps5
    go_wp2_with fail
    refine (PL _ hT).mono ?_
    rintro e w1 ⟨v1, rfl, hv1, K1⟩
    go_wp2_with fail
    refine (RP _).mono ?_
    rintro e w2 ⟨v2, rfl, hv2, hb2⟩
    have K2 := Below.then' K1 hb2 K1.size
    have hv1' := hv1.later hb2
    clear hb2 hv1 K1
    obtain ⟨p, c, rfl, hc⟩ := hv1'
    obtain ⟨p2, c2, rfl, hc2⟩ := hv2
    have HC := Lib.hid hc
    have HC2 := Lib.hid hc2
    clear hc hc2
    go_wp2
    go_loopw [7] (fun x wr => ∃ (i : Nat), i ≤ zs.length ∧ x = .int .i64 i ∧ Below w2.heap.size w2 wr) (fun x _ => zs.length - (intOf x).toNat)
    case atStart => exact ⟨0, Nat.zero_le _, rfl, Below.refl _ _⟩
    case round =>
      obtain ⟨i, hi, rfl, K⟩ := hrel
      by_cases hlt : i < zs.length
      · rcases HC.out with h | ⟨b, off, rfl, hcell⟩
        · rw [h] at hlt; simp at hlt
        rcases HC2.out with h | ⟨b2, off2, rfl, hcell2⟩
        · rw [h] at hlt; simp at hlt
        have k1 : wr.cell? ⟨b, off + i, none⟩ = some (.int .i64 (zs.getD i 0 : Nat)) := (K.cell (World.block_lt_of_cell? _ _ (hcell i hlt))).trans (hcell i hlt)
        have k2 : wr.cell? ⟨b2, off2 + i, none⟩ = some (.int .i64 (zs.getD i 0 : Nat)) := (K.cell (World.block_lt_of_cell? _ _ (hcell2 i hlt))).trans (hcell2 i hlt)
        obtain ⟨z, hz⟩ : ∃ z, z = zs.getD i 0 := ⟨_, rfl⟩
        rw [← hz] at k1 k2
        clear hcell hcell2 hz HC HC2
        go_wp2
        go_quiet (fail)
        go_wp2
        go_roundw
        case rel => exact ⟨i + 1, by omega, by go_num, below_drewN' K _⟩
        case measure => simp [intOf]; omega
      · obtain rfl : i = zs.length := by omega
        have K3 := Below.then' K2 K K2.size
        clear K
        go_wp2_with fail
        refine (awake_any _ (hT.later K3)).mono ?_
        rintro e w4 ⟨rfl, hb4⟩
        go_wp2
        go_ret
        exact ⟨rfl, Below.then' K3 hb4 K3.size⟩

end Go.Proofs.YtopdgjfgdodgeaaDoor
