/- The program's disk: New, Load, and a disk that nobody made; the walks of the laws. -/
import Derived.Test.YtpnnlpmkgglgdaaDtN
import Derived.Test.YtpnnlpmkgglgdaaDkF
import Derived.Test.YtpnnlpmkgglgdaaDkKw
namespace Go.Proofs.Ytpnnlpmkgglgdaa
open Go.RowKit

theorem new_image (n : Nat) : (Dk.new n).image = List.replicate (128 * n) 0 := by
  show (List.replicate n (List.replicate 128 (0 : UInt8))).flatten = _
  rw [List.flatten_replicate_replicate, Nat.mul_comm]

set_option maxRecDepth 100000 in
set_option maxHeartbeats 1000000 in
theorem newDisk : NewDisk := by
  intro n w
  by_cases h : 1 ≤ n ∧ n ≤ 8192
  · obtain ⟨q, rfl⟩ : ∃ q : Nat, n = q := ⟨n.toNat, by omega⟩
    have h1 : ¬ (q : Int) < 1 := by omega
    have h2 : ¬ (q : Int) > 8192 := by omega
    obtain ⟨z, hz⟩ : ∃ z, z = 128 * q := ⟨_, rfl⟩
    have v1 : IntKind.i64.wrap ((q : Int) * 128) = (z : Int) := by rw [show (q : Int) * 128 = (z : Int) by omega]; exact IntWalk.i64_in _ (by omega)
    obtain ⟨w1, hmk, hba, hb1⟩ := BytesAt.made z (by omega) w
    have MK := dmake_any (B := w.heap.size) hba (Nat.le_refl _) (c := z) (by simp) (Dk.new q) (by rw [new_image, hz]) rfl rfl rfl rfl
    rw [List.length_replicate] at MK
    have HB1 := Lib.hid hb1
    have HQ := Lib.hid h
    clear hz hba hb1 h
    go_enter Try.func7, Try.ntmps7
    go_wp2_with fail
    refine MK.mono ?_
    rintro e w2 ⟨rfl, hd, hb2⟩
    have K2 : Kept w w2 := (show Kept w w1 from HB1.out).then hb2
    have HD := Lib.hid hd
    have HK2 := Lib.hid K2
    clear hd hb2 K2 MK hmk
    go_wp2
    first | go_ret | go_ret2
    exact ⟨HK2.out, Or.inr ⟨HQ.out, _, _, _, rfl, diskOk _ _ _ _ _, ⟨_, HD.out, rfl⟩⟩⟩
  · have HN := Lib.hid h
    by_cases h1 : n < 1
    · clear h
      go_enter Try.func7, Try.ntmps7
      go_wp2
      first | go_ret | go_ret2
      exact ⟨Below.refl _ _, Or.inl ⟨HN.out, rfl⟩⟩
    · have h2 : n > 8192 := by omega
      clear h
      go_enter Try.func7, Try.ntmps7
      go_wp2
      first | go_ret | go_ret2
      first | exact ⟨Below.refl _ _, Or.inl ⟨HN.out, rfl⟩⟩ | exact ⟨Below.refl _ _, Or.inl rfl⟩

set_option maxRecDepth 100000 in
set_option maxHeartbeats 1000000 in
theorem loadDisk : LoadDisk := by
  intro t htm w
  have hl := str_len t
  by_cases h : loadOk t.data.toList
  · obtain ⟨c, w1, hc, hcv, hba, hb1⟩ := BytesAt.of_str t w
    have MK := dmake_any (B := w.heap.size) hba (Nat.le_refl _) (c := c) (by rw [hl]; exact hc) (Dk.load t.data.toList) (Dk.load_image h) rfl rfl rfl rfl
    rw [hl] at MK
    have HB1 := Lib.hid hb1
    have HQ := Lib.hid h
    unfold loadOk at h
    rw [hl] at h
    obtain ⟨n, hn⟩ : ∃ n, n = t.size := ⟨_, rfl⟩
    have b1 : ¬ (t.size : Int) < 128 := by omega
    have b2 : (((t.size : Int).tmod 128) != 0) = false := by
      rw [bne_eq_false_iff_eq, Int.tmod_eq_emod_of_nonneg (by omega)]; omega
    have b2' : (((t.size : Int) % 128) != 0) = false := by
      rw [bne_eq_false_iff_eq]; omega
    have b3 : ¬ (t.size : Int) > 1048576 := by omega
    clear hba hb1 h hn hl htm
    go_enter Try.func12, Try.ntmps12
    go_wp2_with fail
    refine MK.mono ?_
    rintro e w2 ⟨rfl, hd, hb2⟩
    have K2 : Kept w w2 := (show Kept w w1 from HB1.out).then hb2
    have HD := Lib.hid hd
    have HK2 := Lib.hid K2
    clear hd hb2 K2 MK hcv
    go_wp2
    first | go_ret | go_ret2
    exact ⟨HK2.out, Or.inr ⟨HQ.out, _, _, _, rfl, diskOk _ _ _ _ _, ⟨_, HD.out, rfl⟩⟩⟩
  · have HN := Lib.hid h
    unfold loadOk at h
    rw [hl] at h
    have htb : t.size ≤ 9223372036854775807 := by simp only [maxLen] at htm; omega
    by_cases h0 : t.size < 128
    · have b1 : (t.size : Int) < 128 := by omega
      clear h h0 hl htm htb
      go_enter Try.func12, Try.ntmps12
      go_wp2
      first | go_ret | go_ret2
      exact ⟨Below.refl _ _, Or.inl ⟨HN.out, rfl⟩⟩
    · have b1 : ¬ (t.size : Int) < 128 := by omega
      by_cases h3 : t.size > 1048576
      · have b3 : (t.size : Int) > 1048576 := by omega
        clear h h0 h3 hl htm htb
        go_enter Try.func12, Try.ntmps12
        go_wp2
        first | go_ret | go_ret2
        exact ⟨Below.refl _ _, Or.inl ⟨HN.out, rfl⟩⟩
      · have b3 : ¬ (t.size : Int) > 1048576 := by omega
        have h1 : ¬ t.size % 128 = 0 := by omega
        have b2 : (((t.size : Int).tmod 128) != 0) = true := by
          rw [bne_iff_ne, Int.tmod_eq_emod_of_nonneg (by omega)]; omega
        have b2' : (((t.size : Int) % 128) != 0) = true := by
          rw [bne_iff_ne]; omega
        clear h h0 h1 h3 hl htm htb
        go_enter Try.func12, Try.ntmps12
        go_wp2
        first | go_ret | go_ret2
        exact ⟨Below.refl _ _, Or.inl ⟨HN.out, rfl⟩⟩

set_option maxRecDepth 100000 in
theorem dmade_nil (w : World) : Calls Try.prog 34 #[.pointer none] w fun e w' => e = .returned (.bool false) ∧ w = w' := by
  go_enter Try.func34, Try.ntmps34
  go_wp2
  go_ret
  exact ⟨rfl, rfl⟩

set_option maxRecDepth 100000 in
theorem dready_nil (w : World) : Calls Try.prog 38 #[.pointer none] w fun e w' => e = .returned (.int .i64 4) ∧ w = w' := by
  go_enter Try.func38, Try.ntmps38
  go_wp2_with fail
  refine (dmade_nil _).mono ?_
  rintro e w' ⟨rfl, rfl⟩
  go_wp2
  go_ret
  exact ⟨rfl, rfl⟩

set_option maxRecDepth 100000 in
theorem dreach_nil (i : Int) (w : World) : Calls Try.prog 35 #[.pointer none, .int .i64 i] w fun e w' => e = .returned (.int .i64 4) ∧ w = w' := by
  go_enter Try.func35, Try.ntmps35
  go_wp2_with fail
  refine (dready_nil _).mono ?_
  rintro e w' ⟨rfl, rfl⟩
  go_wp2
  go_ret
  exact ⟨rfl, rfl⟩

set_option maxRecDepth 100000 in
theorem nilDisk : NilDisk := by
  refine ⟨fun n w => ?_, fun w => ?_, fun i w => ?_, fun i t w => ?_, fun w => ?_, fun i t w => ?_, fun w => ?_, fun w => ?_, fun w => ?_, fun w => ?_, fun w => ?_⟩
  · go_enter Try.func24, Try.ntmps24
    go_wp2_with fail
    refine (dmade_nil _).mono ?_
    rintro e w' ⟨rfl, rfl⟩
    go_wp2
    first | go_ret | go_end0
    exact ⟨rfl, Below.refl _ _⟩
  · go_enter Try.func23, Try.ntmps23
    go_wp2_with fail
    refine (dmade_nil _).mono ?_
    rintro e w' ⟨rfl, rfl⟩
    go_wp2
    first | go_ret | go_end0 | refine bodyPost_ret (results_none rfl _ _ _) rfl ?_
    exact ⟨rfl, Below.refl _ _⟩
  · go_enter Try.func19, Try.ntmps19
    go_wp2_with fail
    refine (dreach_nil _ _).mono ?_
    rintro e w' ⟨rfl, rfl⟩
    go_wp2
    first | go_ret | go_ret2
    exact ⟨rfl, Below.refl _ _⟩
  · go_enter Try.func20, Try.ntmps20
    go_wp2_with fail
    refine (dreach_nil _ _).mono ?_
    rintro e w' ⟨rfl, rfl⟩
    go_wp2
    go_ret
    exact ⟨rfl, Below.refl _ _⟩
  · go_enter Try.func22, Try.ntmps22
    go_wp2_with fail
    refine (dready_nil _).mono ?_
    rintro e w' ⟨rfl, rfl⟩
    go_wp2
    go_ret
    exact ⟨rfl, Below.refl _ _⟩
  · go_enter Try.func25, Try.ntmps25
    go_wp2_with fail
    refine (dmade_nil _).mono ?_
    rintro e w' ⟨rfl, rfl⟩
    go_wp2
    go_ret
    exact ⟨rfl, Below.refl _ _⟩
  · go_enter Try.func18, Try.ntmps18
    go_wp2_with fail
    refine (dmade_nil _).mono ?_
    rintro e w' ⟨rfl, rfl⟩
    go_wp2
    go_ret
    exact ⟨rfl, Below.refl _ _⟩
  · go_enter Try.func15, Try.ntmps15
    go_wp2_with fail
    refine (dmade_nil _).mono ?_
    rintro e w' ⟨rfl, rfl⟩
    go_wp2
    go_ret
    exact ⟨rfl, Below.refl _ _⟩
  · go_enter Try.func16, Try.ntmps16
    go_wp2_with fail
    refine (dmade_nil _).mono ?_
    rintro e w' ⟨rfl, rfl⟩
    go_wp2
    go_ret
    exact ⟨rfl, Below.refl _ _⟩
  · go_enter Try.func17, Try.ntmps17
    go_wp2_with fail
    refine (dmade_nil _).mono ?_
    rintro e w' ⟨rfl, rfl⟩
    go_wp2
    go_ret
    exact ⟨rfl, Below.refl _ _⟩
  · go_enter Try.func14, Try.ntmps14
    go_wp2_with fail
    refine (dmade_nil _).mono ?_
    rintro e w' ⟨rfl, rfl⟩
    go_wp2
    go_ret
    exact ⟨rfl, Below.refl _ _⟩

theorem walk_diskNobody (i : Int) (wi : (Lit.int .i64 i).wf = true) (t : ByteArray) (ht : t.size ≤ maxLen) (w : World) : Calls Try.prog 6 #[.int .i64 i, .string t] w (LawPost w) := diskNobody_of newDisk nilDisk i t w
theorem walk_diskLoads (t : ByteArray) (ht : t.size ≤ maxLen) (w : World) : Calls Try.prog 4 #[.string t] w (LawPost w) := diskLoads_of newDisk loadDisk t ht w
theorem walk_diskDoes (w : World) (n : Int) (hn : (Lit.int .i64 n).wf = true) (v : Value) (acs : List ActR) (hv : ActsAt acs v w) (hl : acs.length ≤ maxLen) :
    Calls Try.prog 3 #[.int .i64 n, v] w (LawPost w) := diskDoes_of newDisk w n hn v acs hv hl
theorem walk_diskKeeps (w : World) (u1 : Value) (as1 : List ActR) (hv1 : ActsAt as1 u1 w) (hl1 : as1.length ≤ maxLen) (u2 : Value) (as2 : List ActR) (hv2 : ActsAt as2 u2 w) (hl2 : as2.length ≤ maxLen) (u3 : Value) (l : List Bool) (hv3 : BoolAt l u3 w) (hl3 : l.length ≤ maxLen) :
    Calls Try.prog 5 #[u1, u2, u3] w (LawPost w) := diskKeeps_of newDisk w u1 as1 hv1 hl1 u2 as2 hv2 hl2 u3 l hv3 hl3

end Go.Proofs.Ytpnnlpmkgglgdaa
