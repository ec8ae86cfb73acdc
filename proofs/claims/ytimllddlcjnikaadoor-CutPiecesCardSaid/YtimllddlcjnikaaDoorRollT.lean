/- The walks of a text's hash, and of the document's. -/
import Derived.Test.YtimllddlcjnikaaDoorRollS
namespace Go.Proofs.YtimllddlcjnikaaDoor
open Go.RowKit

theorem seg_more (l : List UInt8) (f k : Nat) (hk : f ≤ k) (h : k < l.length) : (l.take (k + 1)).drop f = (l.take k).drop f ++ [l[k]] := by
  rw [List.take_succ_eq_append_getElem h, List.drop_append_of_le_length (by rw [List.length_take]; omega)]

set_option maxRecDepth 100000 in
set_option maxHeartbeats 1000000 in
theorem sum_any (s : ByteArray) (hs : s.size ≤ maxLen) (w : World) (hT : TabAt w) :
    Calls Tryd.prog 43 #[.string s] w fun e w' => e = .returned (.int .u32 (rsum s.data.toList : Nat)) ∧ Below w.heap.size w w' := by
  unfold maxLen at hs
  have hz := data_len s
  obtain ⟨f, hf⟩ : ∃ f, f = s.size - 16 := ⟨_, rfl⟩
  have hsum := last16_eq s.data.toList f (by rw [hz]; exact hf)
  obtain ⟨r, hr⟩ : ∃ r, r = rsum s.data.toList := ⟨_, rfl⟩
  rw [← hr] at hsum ⊢
  have HS := Lib.hid hsum
  have HZ := Lib.hid hz
  clear hsum hz hr
  have h16 : (16 : Int) < s.size ∧ (s.size : Int) - 16 = (f : Int) ∨ (s.size : Int) ≤ 16 ∧ f = 0 := by omega
  rcases h16 with ⟨h16, hfe⟩ | ⟨h16, hf0⟩
  all_goals
    have HF := Lib.hid hf
    clear hf
    go_enter Tryd.func43, Tryd.ntmps43
    go_wp2_with fail
    refine (new_any _).mono ?_
    rintro e w1 ⟨rfl, hI, hb1⟩
    have hfs := HF.out
    go_wp2
    go_loopw [4] (fun x wr => ∃ (k : Nat), f ≤ k ∧ k ≤ s.size ∧ x = .int .i64 k ∧ IsRoll w.heap.size ((s.data.toList.take k).drop f) wr ∧ Below w.heap.size w wr) (fun x _ => s.size - (intOf x).toNat)
    case atStart => exact ⟨f, Nat.le_refl _, by omega, by first | rfl | (rw [hf0]; rfl) | exact congrArg (Value.int .i64) (by omega), by rw [List.drop_eq_nil_of_le (by rw [List.length_take]; omega)]; exact hI, hb1⟩
    case round =>
      clear hI hb1 hfs
      obtain ⟨k, hfk, hk, rfl, hI, K⟩ := hrel
      have hfs := HF.out
      by_cases hlt : k < s.size
      · have hkl : k < s.data.toList.length := by rw [HZ.out]; exact hlt
        have hsn := seg_more s.data.toList f k hfk hkl
        have hll : ((s.data.toList.take k).drop f).length ≤ 16 := by rw [List.length_drop, List.length_take, HZ.out]; omega
        obtain ⟨c, hc⟩ : ∃ c : UInt8, s.data.toList[k] = c := ⟨_, rfl⟩
        have hc1 : s[k].toNat = c.toNat := congrArg UInt8.toNat hc
        have hc2 : (s.data[k]'hlt).toNat = c.toNat := hc1
        rw [hc] at hsn
        have AD := add_any w.heap.size w.heap.size (Nat.le_refl _) ((s.data.toList.take k).drop f) (by omega) c wr K.size hI
        rw [← hsn] at AD
        obtain ⟨L, hL⟩ : ∃ L, L = (s.data.toList.take (k + 1)).drop f := ⟨_, rfl⟩
        rw [← hL] at AD
        obtain ⟨q, hq⟩ : ∃ q : Nat, q = c.toNat := ⟨_, rfl⟩
        rw [← hq] at AD hc1 hc2
        have HL := Lib.hid hL
        clear hsn hc hll hI hL hq
        go_wp2_with fail
        refine AD.mono ?_
        rintro e w2 ⟨rfl, hI, hb2⟩
        go_wp2
        go_roundw
        case rel => exact ⟨k + 1, by omega, by omega, by go_num, by rw [← HL.out]; exact hI, K.trans hb2⟩
        case measure => simp [intOf]; omega
      · obtain rfl : k = s.size := by omega
        rw [List.take_of_length_le (by rw [HZ.out]; exact Nat.le_refl _)] at hI
        have SU := sumr_any w.heap.size (s.data.toList.drop f) (by rw [List.length_drop, HZ.out]; omega) wr hI (hT.later K)
        rw [HS.out] at SU
        clear hI
        go_wp2_with fail
        refine SU.mono ?_
        rintro e w2 ⟨rfl, hb2⟩
        go_wp2
        go_ret
        exact ⟨rfl, Below.then' K hb2 K.size⟩

set_option maxRecDepth 100000 in
set_option maxHeartbeats 1000000 in
theorem rsum_any (s : ByteArray) (hs : s.size ≤ maxLen) (w : World) :
    Calls Tryd.prog 40 #[.string s] w fun e w' => e = .returned (.int .u32 (rsum s.data.toList : Nat)) ∧ w = w' := by
  unfold maxLen at hs
  have hz := data_len s
  obtain ⟨f, hf⟩ : ∃ f, f = s.size - 16 := ⟨_, rfl⟩
  have hsum : rfold 0 (s.data.toList.drop f) = rsum s.data.toList := by
    unfold rsum last16
    rw [hz, hf]
  obtain ⟨r, hr⟩ : ∃ r, r = rsum s.data.toList := ⟨_, rfl⟩
  have hrl := rsum_lt s.data.toList
  rw [← hr] at hsum hrl ⊢
  have HS := Lib.hid hsum
  have HZ := Lib.hid hz
  clear hsum hz hr
  have h16 : (0 : Int) ≤ (s.size : Int) - 16 ∧ (s.size : Int) - 16 = (f : Int) ∨ (s.size : Int) - 16 < 0 ∧ f = 0 := by omega
  rcases h16 with ⟨h16, hfe⟩ | ⟨h16, hf0⟩
  all_goals
    have HF := Lib.hid hf
    clear hf
    go_enter Tryd.func40, Tryd.ntmps40
    have hfs := HF.out
    go_wp2
    go_loop [4, 5] (fun y x => ∃ (k : Nat), f ≤ k ∧ k ≤ s.size ∧ x = .int .i64 k ∧ y = .int .u64 (rfold 0 ((s.data.toList.take k).drop f) : Nat)) (fun _ x => s.size - (intOf x).toNat)
    case atStart => exact ⟨f, Nat.le_refl _, by omega, by first | rfl | (rw [hf0]; rfl) | exact congrArg (Value.int .i64) (by omega), by rw [List.drop_eq_nil_of_le (by rw [List.length_take]; omega)]; rfl⟩
    case round =>
      clear hfs
      obtain ⟨k, hfk, hk, rfl, rfl⟩ := hrel
      have hfs := HF.out
      have hlo := rfold_lt ((s.data.toList.take k).drop f) (n := 0) (by decide)
      by_cases hlt : k < s.size
      · have hkl : k < s.data.toList.length := by rw [HZ.out]; exact hlt
        have hsn := rfold_seg s.data.toList f k hfk hkl
        obtain ⟨c, hc⟩ : ∃ c : UInt8, s.data.toList[k] = c := ⟨_, rfl⟩
        have hc1 : s[k].toNat = c.toNat := congrArg UInt8.toNat hc
        have hc2 : (s.data[k]'hlt).toNat = c.toNat := hc1
        rw [hc] at hsn
        unfold rstep rP at hsn
        obtain ⟨n, hn⟩ : ∃ n, n = rfold 0 ((s.data.toList.take k).drop f) := ⟨_, rfl⟩
        rw [← hn] at hsn hlo ⊢
        have hcl := c.toNat_lt
        obtain ⟨q, hq⟩ : ∃ q : Nat, q = c.toNat := ⟨_, rfl⟩
        rw [← hq] at hc1 hc2 hsn hcl
        have HN := Lib.hid hsn
        clear hsn hc hq hn
        go_wp2
        go_round
        case rel => exact ⟨k + 1, by omega, by omega, by go_num, by rw [HN.out]; go_num⟩
        case measure => simp [intOf]; omega
      · obtain rfl : k = s.size := by omega
        rw [List.take_of_length_le (by rw [HZ.out]; exact Nat.le_refl _)]
        rw [HS.out]
        have hrl' : (r : Int) < 4294967296 := by omega
        clear hlo
        go_wp2
        go_ret
        exact ⟨rfl, rfl⟩

end Go.Proofs.YtimllddlcjnikaaDoor
