/- Bursts: the walk of CrcBursts. -/
import Derived.Test.YtonhoahklmafgaaDoorTurnR
import Derived.Test.YtonhoahklmafgaaDoorOpen
namespace Go.Proofs.YtonhoahklmafgaaDoor
open Go.RowKit

theorem ofBits_append : ∀ (l m : List Bool), ofBits (l ++ m) = ofBits l + 2 ^ l.length * ofBits m
  | [], m => by simp [ofBits]
  | b :: l, m => by
    simp only [List.cons_append, ofBits, ofBits_append l m, List.length_cons, Nat.pow_succ]
    rw [Nat.mul_add, ← Nat.mul_assoc, Nat.mul_comm 2 (2 ^ l.length), Nat.add_assoc]

theorem ofBits_leB : ∀ (k m : Nat), ofBits (bitsB (leB k m)) = m % 256 ^ k
  | 0, m => by simp [leB, bitsB, ofBits, Nat.mod_one]
  | k + 1, m => by
    have ih := ofBits_leB k (m / 256)
    rw [leB, show ∀ (c : UInt8) (l : List UInt8), bitsB (c :: l) = byteBits c ++ bitsB l from fun c l => by simp [bitsB], ofBits_append, ofBits_byte, byteBits_len, ih, UInt8.toNat_ofNat']
    have e : 256 ^ (k + 1) = 256 * 256 ^ k := by rw [Nat.pow_succ, Nat.mul_comm]
    rw [e, Nat.mod_mul]

/-- What is left of a text with its sum behind it: always the same. -/
theorem residue (s : ByteArray) : reg top32 (bitsB (sealed s).data.toList) = stps 32 top32 := by
  have hr : reg top32 (bitsB s.data.toList) ≤ top32 := reg_le (Nat.le_refl _)
  have hm : moreN 0 s.data.toList = top32 ^^^ reg top32 (bitsB s.data.toList) := by rw [← top_xor hr]; rfl
  have hl := moreN_le 0 s.data.toList
  rw [sealed_list, bits_append, reg_append, reg_stps, ofBits_leB, Nat.mod_eq_of_lt (by omega), bits_len, leB_len, hm]
  congr 1
  rw [Nat.xor_comm top32, ← Nat.xor_assoc, Nat.xor_self, Nat.zero_xor]

theorem turn_same (s : ByteArray) (a b : Nat) (h : str (turnL s a b) = s) : flips (bitsB s.data.toList) a b 32 = bitsB s.data.toList := by
  rw [← turnL_bits]
  congr 1
  have := congrArg (fun x : ByteArray => x.data.toList) h
  simpa [str_list] using this

theorem turn_back (s : ByteArray) (a b : Nat) (h : flips (bitsB s.data.toList) a b 32 = bitsB s.data.toList) : str (turnL s a b) = s := by
  have : turnL s a b = s.data.toList := bits_inj _ _ (by rw [turnL_bits, h])
  rw [this, str_data]

/-- A change within 32 bits changes the sum. -/
theorem burst_sum (s : ByteArray) (a b : Nat) (ha : a ≤ 8 * s.size) (hb : b ≤ 4294967295) (hne : str (turnL s a b) ≠ s) : moreN 0 (turnL s a b) ≠ moreN 0 s.data.toList := by
  intro h
  unfold moreN at h
  rw [turnL_bits] at h
  have h1 : reg (top32 - 0) (bitsB s.data.toList) ≤ top32 := reg_le (Nat.sub_le _ _)
  have h2 : reg (top32 - 0) (flips (bitsB s.data.toList) a b 32) ≤ top32 := reg_le (Nat.sub_le _ _)
  have h3 : reg (top32 - 0) (bitsB s.data.toList) = reg (top32 - 0) (flips (bitsB s.data.toList) a b 32) := by
    generalize reg (top32 - 0) (bitsB s.data.toList) = x at *
    generalize reg (top32 - 0) (flips (bitsB s.data.toList) a b 32) = y at *
    omega
  exact hne (turn_back s a b (burst _ a b _ (by rw [bits_len, data_len]; exact ha) (by omega) h3))

/-- A sealed text with a change within 32 bits is not opened. -/
theorem burst_open (s : ByteArray) (a b : Nat) (ha : a ≤ 8 * (s.size + 4)) (hb : b ≤ 4294967295) (hne : str (turnL (sealed s) a b) ≠ sealed s) : openV (str (turnL (sealed s) a b)) = (⟨#[]⟩, 110) := by
  have hz := sealed_size s
  have hsz : (str (turnL (sealed s) a b)).size = s.size + 4 := by rw [str_size, turnL_len, hz]
  unfold openV
  rw [if_neg (by omega), if_neg]
  intro h
  have r1 := residue s
  have r2 := residue ((str (turnL (sealed s) a b)).extract 0 ((str (turnL (sealed s) a b)).size - 4))
  rw [h, str_list, turnL_bits, ← r1] at r2
  exact hne (turn_back _ a b (burst _ a b _ (by rw [bits_len, data_len, hz]; exact ha) (by omega) r2.symm))

set_option maxHeartbeats 1000000 in
theorem walk_crcBursts (s0 : ByteArray) (hs0 : s0.size ≤ maxLen) (at0 : Int) (wat : (Lit.int .u16 at0).wf = true) (b0 : Int) (wb : (Lit.int .u32 b0).wf = true) (w : World) (hT : TabAt w) :
    Calls Tryd.prog 8 #[.string s0, .int .u16 at0, .int .u32 b0] w (LawPost w) := by
  have hat := wf_u16 wat
  have hbb := wf_u32 wb
  obtain ⟨p, rfl⟩ := Int.eq_ofNat_of_zero_le hat.1
  obtain ⟨b, rfl⟩ := Int.eq_ofNat_of_zero_le hbb.1
  have hp : p ≤ 65535 := by omega
  have hb : b ≤ 4294967295 := by omega
  have C0 := cut_any s0 hs0
  have ha := cutB_size s0
  obtain ⟨s, hst⟩ : ∃ t, t = cutB s0 := ⟨_, rfl⟩
  rw [← hst] at ha C0
  clear hat hbb wat wb hst hs0
  have SE := seal_any s (by omega)
  have SS := sum_any s (by unfold maxLen; omega)
  have hz := sealed_size s
  obtain ⟨q1, hq1⟩ : ∃ q : Nat, q = p % (8 * (sealed s).size + 1) := ⟨_, rfl⟩
  obtain ⟨q2, hq2⟩ : ∃ q : Nat, q = p % (8 * s.size + 1) := ⟨_, rfl⟩
  have l1 : q1 ≤ 8 * (s.size + 4) := by
    have := Nat.mod_lt p (show 0 < 8 * (sealed s).size + 1 by omega)
    omega
  have l2 : q2 ≤ 8 * s.size := by
    have := Nat.mod_lt p (show 0 < 8 * s.size + 1 by omega)
    omega
  have e1 : (p : Int) % (8 * ((sealed s).size : Int) + 1) = (q1 : Int) := by rw [hq1]; simp
  have e2 : (p : Int) % (8 * (s.size : Int) + 1) = (q2 : Int) := by rw [hq2]; simp
  have T1 := rturn_any (sealed s) (by omega) (q1 : Int) (by omega) b hb
  have T2 := rturn_any s (by omega) (q2 : Int) (by omega) b hb
  have O1 := open_any (str (turnL (sealed s) q1 b)) (by rw [str_size, turnL_len, hz]; omega)
  have U1 := sum_any (str (turnL s q2 b)) (by rw [str_size, turnL_len]; unfold maxLen; omega)
  have BS := burst_sum s q2 b l2 hb
  have BO := burst_open s q1 b l1 hb
  have OS := open_sealed s
  rw [str_list] at U1
  obtain ⟨ms, hms⟩ : ∃ m : Nat, m = moreN 0 s.data.toList := ⟨_, rfl⟩
  obtain ⟨mu, hmu⟩ : ∃ m : Nat, m = moreN 0 (turnL s q2 b) := ⟨_, rfl⟩
  rw [← hms] at SS BS
  rw [← hmu] at U1 BS
  have zs : (sealed s).size ≤ 304 := by omega
  have HQ1 := Lib.hid hq1
  obtain ⟨z, hzz⟩ : ∃ z, z = sealed s := ⟨_, rfl⟩
  rw [← hzz] at SE e1 T1 O1 BO OS zs
  obtain ⟨t, ht⟩ : ∃ t, t = str (turnL z q1 b) := ⟨_, rfl⟩
  obtain ⟨u, hu⟩ : ∃ u, u = str (turnL s q2 b) := ⟨_, rfl⟩
  rw [← ht] at T1 O1 BO
  rw [← hu] at T2 U1 BS
  clear hq1 hq2 HQ1 hz hms hmu hzz ht hu l1 l2
  by_cases htz : t = z
  · subst htz
    rw [OS] at O1
    clear BO BS OS
    go_enter Tryd.func8, Tryd.ntmps8
    go_wp2_with fail
    refine (C0 _).mono ?_
    rintro e w' ⟨rfl, rfl⟩
    go_wp2_with fail
    refine (SE _ hT).mono ?_
    rintro e w1 ⟨rfl, K1⟩
    have T1' := hT.later K1
    go_wp2_with fail
    refine (T1 _).mono ?_
    rintro e w2 ⟨rfl, hb2⟩
    have K2 := Below.then' K1 hb2 K1.size
    have T2' := hT.later K2
    clear K1 T1' hb2
    go_wp2_with fail
    refine (O1 _ T2').mono ?_
    rintro e w3 ⟨rfl, hb3⟩
    have K3 := Below.then' K2 hb3 K2.size
    have T3' := hT.later K3
    clear K2 T2' hb3
    go_wp2_with fail
    refine (awake_any _ T3').mono ?_
    rintro e w4 ⟨rfl, hb4⟩
    go_wp2
    go_ret
    exact ⟨rfl, Below.then' K3 hb4 K3.size⟩
  · have n1 := text_ne htz
    rw [BO htz] at O1
    clear BO OS htz
    by_cases hus : u = s
    · subst hus
      clear BS
      go_enter Tryd.func8, Tryd.ntmps8
      go_wp2_with fail
      refine (C0 _).mono ?_
      rintro e w' ⟨rfl, rfl⟩
      go_wp2_with fail
      refine (SE _ hT).mono ?_
      rintro e w1 ⟨rfl, K1⟩
      have T1' := hT.later K1
      go_wp2_with fail
      refine (T1 _).mono ?_
      rintro e w2 ⟨rfl, hb2⟩
      have K2 := Below.then' K1 hb2 K1.size
      have T2' := hT.later K2
      clear K1 T1' hb2
      go_wp2_with fail
      refine (O1 _ T2').mono ?_
      rintro e w3 ⟨rfl, hb3⟩
      have K3 := Below.then' K2 hb3 K2.size
      have T3' := hT.later K3
      clear K2 T2' hb3
      go_wp2_with fail
      refine (T2 _).mono ?_
      rintro e w4 ⟨rfl, hb4⟩
      have K4 := Below.then' K3 hb4 K3.size
      have T4' := hT.later K4
      clear K3 T3' hb4
      go_wp2_with fail
      refine (awake_any _ T4').mono ?_
      rintro e w5 ⟨rfl, hb5⟩
      go_wp2
      go_ret
      exact ⟨rfl, Below.then' K4 hb5 K4.size⟩
    · have n2 := text_ne hus
      have n3 : (!u.toList == s.toList) = true := by rw [n2]; rfl
      have hmm := BS hus
      have n4 : ((mu : Int) == (ms : Int)) = false := by
        rw [beq_eq_false_iff_ne]
        omega
      clear BS hus hmm
      go_enter Tryd.func8, Tryd.ntmps8
      go_wp2_with fail
      refine (C0 _).mono ?_
      rintro e w' ⟨rfl, rfl⟩
      go_wp2_with fail
      refine (SE _ hT).mono ?_
      rintro e w1 ⟨rfl, K1⟩
      have T1' := hT.later K1
      go_wp2_with fail
      refine (T1 _).mono ?_
      rintro e w2 ⟨rfl, hb2⟩
      have K2 := Below.then' K1 hb2 K1.size
      have T2' := hT.later K2
      clear K1 T1' hb2
      go_wp2_with fail
      refine (O1 _ T2').mono ?_
      rintro e w3 ⟨rfl, hb3⟩
      have K3 := Below.then' K2 hb3 K2.size
      have T3' := hT.later K3
      clear K2 T2' hb3
      go_wp2_with fail
      refine (T2 _).mono ?_
      rintro e w4 ⟨rfl, hb4⟩
      have K4 := Below.then' K3 hb4 K3.size
      have T4' := hT.later K4
      clear K3 T3' hb4
      go_wp2_with fail
      refine (U1 _ T4').mono ?_
      rintro e w' ⟨rfl, rfl⟩
      go_wp2_with fail
      refine (SS _ T4').mono ?_
      rintro e w' ⟨rfl, rfl⟩
      go_wp2_with fail
      refine (awake_any _ T4').mono ?_
      rintro e w5 ⟨rfl, hb5⟩
      go_wp2
      go_ret
      exact ⟨rfl, Below.then' K4 hb5 K4.size⟩

end Go.Proofs.YtonhoahklmafgaaDoor
