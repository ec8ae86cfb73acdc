/- The walk of PackLays. -/
import Derived.Test.YtpicaiikejohaaaRows
import Derived.Test.YtpicaiikejohaaaAwake
import Derived.Test.YtpicaiikejohaaaRef
import Derived.Test.YtpicaiikejohaaaPlain2
import Derived.WalkKit
import Derived.WalkSpells
import Derived.WalkLawsBesides
import Derived.OpenShut
import Derived.Lib.Hide
namespace Go.Proofs.Ytpicaiikejohaaa
open Go.RowKit

/-- A call that makes a text and turns nothing that was there. -/
def TextPost (l : List UInt8) (w : World) (e : Ending) (w' : World) : Prop := e = .returned (.string (str l)) ∧ Below w.heap.size w w'

theorem lays_u8 (m : Nat) (w : World) : Calls Try.prog 9 #[.int .u8 ((m : Int) % 256)] w (TextPost (leB 1 m) w) := by
  have h := u8_any ((m : Int) % 256) (by omega) (by omega) w
  rw [show ((m : Int) % 256).toNat = m % 256 ^ 1 by omega, leB_mod] at h
  exact h
theorem lays_u16 (m : Nat) (w : World) : Calls Try.prog 10 #[.int .u16 ((m : Int) % 65536)] w (TextPost (leB 2 m) w) := by
  have h := u16_any ((m : Int) % 65536) (by omega) (by omega) w
  rw [show ((m : Int) % 65536).toNat = m % 256 ^ 2 by omega, leB_mod] at h
  exact h
theorem lays_u32 (m : Nat) (w : World) : Calls Try.prog 11 #[.int .u32 ((m : Int) % 4294967296)] w (TextPost (leB 4 m) w) := by
  have h := u32_any ((m : Int) % 4294967296) (by omega) (by omega) w
  rw [show ((m : Int) % 4294967296).toNat = m % 256 ^ 4 by omega, leB_mod] at h
  exact h
theorem lays_u64 (m : Nat) (w : World) : Calls Try.prog 12 #[.int .u64 (m : Int)] w (TextPost (leB 8 m) w) := u64_any m (by omega) w
theorem lays_text (s : ByteArray) (h : s.size ≤ 500) (w : World) : Calls Try.prog 14 #[.string s] w (TextPost (textB s) w) := by
  have h := text_any s (by omega) w
  rw [str_text] at h
  exact h
theorem lays_list (ss : List ByteArray) (v : Value) (w : World) (hv : StrAt ss v w) (hL : (listB ss).length ≤ 20164) : Calls Try.prog 16 #[v] w (TextPost (listB ss) w) := list_any ss v w hv (by omega)
theorem lays_n1 (m : Nat) (h : m < 2 ^ 64) (w : World) : Calls Try.prog 13 #[.int .u64 (m : Int), .int .i64 1] w (TextPost (leB 1 m) w) := refNum_any 1 m (by omega) h w
theorem lays_n2 (m : Nat) (h : m < 2 ^ 64) (w : World) : Calls Try.prog 13 #[.int .u64 (m : Int), .int .i64 2] w (TextPost (leB 2 m) w) := refNum_any 2 m (by omega) h w
theorem lays_n4 (m : Nat) (h : m < 2 ^ 64) (w : World) : Calls Try.prog 13 #[.int .u64 (m : Int), .int .i64 4] w (TextPost (leB 4 m) w) := refNum_any 4 m (by omega) h w
theorem lays_n8 (m : Nat) (h : m < 2 ^ 64) (w : World) : Calls Try.prog 13 #[.int .u64 (m : Int), .int .i64 8] w (TextPost (leB 8 m) w) := refNum_any 8 m (by omega) h w
theorem lays_rtext (s : ByteArray) (h : s.size ≤ 500) (w : World) : Calls Try.prog 15 #[.string s] w (TextPost (textB s) w) := refText_any s (by omega) w
theorem lays_rlist (ss : List ByteArray) (v : Value) (w : World) (hv : StrAt ss v w) (hL : (listB ss).length ≤ 20164) : Calls Try.prog 17 #[v] w (TextPost (listB ss) w) := refList_any ss v w hv (by omega)

def RP (b : Nat) (v : Value) (l : List UInt8) (w : World) (e : Ending) (w' : World) : Prop := e = .returned v ∧ RdAt b (l, 0) w' ∧ w.grownBy w' (some b)

theorem lr_u8 (m b : Nat) (l : List UInt8) (hl : l.length ≤ 900000) (w : World) (h : RdAt b (leB 1 m ++ l, 0) w) : Calls Try.prog 19 #[.pointer (some ⟨b, 0, none⟩)] w (RP b (.int .u8 ((m : Int) % 256)) l w) := by
  have c := u8r_any b _ w h (by simp [leB_len]; omega)
  rw [numR_app] at c
  simp only at c
  rw [show ((m % 256 ^ 1 : Nat) : Int) = (m : Int) % 256 by omega] at c
  exact c
theorem lr_u16 (m b : Nat) (l : List UInt8) (hl : l.length ≤ 900000) (w : World) (h : RdAt b (leB 2 m ++ l, 0) w) : Calls Try.prog 20 #[.pointer (some ⟨b, 0, none⟩)] w (RP b (.int .u16 ((m : Int) % 65536)) l w) := by
  have c := u16r_any b _ w h (by simp [leB_len]; omega)
  rw [numR_app] at c
  simp only at c
  rw [show ((m % 256 ^ 2 : Nat) : Int) = (m : Int) % 65536 by omega] at c
  exact c
theorem lr_u32 (m b : Nat) (l : List UInt8) (hl : l.length ≤ 900000) (w : World) (h : RdAt b (leB 4 m ++ l, 0) w) : Calls Try.prog 21 #[.pointer (some ⟨b, 0, none⟩)] w (RP b (.int .u32 ((m : Int) % 4294967296)) l w) := by
  have c := u32r_any b _ w h (by simp [leB_len]; omega)
  rw [numR_app] at c
  simp only at c
  rw [show ((m % 256 ^ 4 : Nat) : Int) = (m : Int) % 4294967296 by omega] at c
  exact c
theorem lr_u64 (m b : Nat) (hm : m < 2 ^ 64) (l : List UInt8) (hl : l.length ≤ 900000) (w : World) (h : RdAt b (leB 8 m ++ l, 0) w) : Calls Try.prog 22 #[.pointer (some ⟨b, 0, none⟩)] w (RP b (.int .u64 (m : Int)) l w) := by
  have c := u64r_any b _ w h (by simp [leB_len]; omega)
  rw [numR_app, Nat.mod_eq_of_lt (by omega)] at c
  exact c
theorem lr_text (s : ByteArray) (b : Nat) (hs : s.size ≤ 500) (l : List UInt8) (hl : l.length ≤ 900000) (w : World) (h : RdAt b (textB s ++ l, 0) w) : Calls Try.prog 23 #[.pointer (some ⟨b, 0, none⟩)] w (RP b (.string s) l w) := by
  have c := textr_any b _ w h (by simp [textB_len]; omega)
  rw [textR_app s l (by omega), str_data] at c
  exact c
def RPl (b : Nat) (ss : List ByteArray) (l : List UInt8) (w : World) (e : Ending) (w' : World) : Prop := ∃ v, e = .returned v ∧ StrAt ss v w' ∧ RdAt b (l, 0) w' ∧ w.grownBy w' (some b)
theorem lr_list (ss : List ByteArray) (b : Nat) (hn : ss.length ≤ 40) (hs : ∀ s ∈ ss, s.size ≤ 500) (hL : (listB ss).length ≤ 20164) (l : List UInt8) (hl : l.length ≤ 900000) (w : World) (h : RdAt b (listB ss ++ l, 0) w) : Calls Try.prog 25 #[.pointer (some ⟨b, 0, none⟩)] w (RPl b ss l w) := by
  refine (listr_any b _ w h (by simp; omega)).mono ?_
  rintro e w' ⟨v, rfl, h1, h2, h3⟩
  rw [listR_app ss l (by omega) (fun s hs' => by have := hs s hs'; omega)] at h1 h2
  simp only [str_map] at h1
  exact ⟨v, rfl, h1, h2, h3⟩
theorem lr_read (l : List UInt8) (w : World) : Calls Try.prog 18 #[.string (str l)] w fun e w' => e = .returned (.pointer (some ⟨w.heap.size, 0, none⟩)) ∧ RdAt w.heap.size (l, 0) w' ∧ Below w.heap.size w w' := read_any (str l) w

def laysL (m : Nat) (s : ByteArray) (ss : List ByteArray) : List UInt8 := leB 1 m ++ (leB 2 m ++ (leB 4 m ++ (leB 8 m ++ (textB s ++ (listB ss ++ [])))))

theorem lays_all (m : Nat) (s : ByteArray) (ss : List ByteArray) : (str (leB 1 m) ++ str (leB 2 m) ++ str (leB 4 m) ++ str (leB 8 m) ++ str (textB s) ++ str (listB ss)) = str (laysL m s ss) := by
  simp only [str_append, laysL, List.append_assoc, List.append_nil]

set_option maxHeartbeats 4000000 in
theorem walk_packLays (w : World) (n : Int) (hn : (Lit.int .u64 n).wf = true) (s : ByteArray) (hs : s.size ≤ maxLen) (v : Value) (ss : List ByteArray) (hv : StrAt ss v w) (hz : ss.length ≤ maxLen ∧ ∀ s ∈ ss, s.size ≤ maxLen) :
    Calls Try.prog 3 #[.int .u64 n, .string s, v] w (LawPost w) := by
  obtain ⟨hn0, hn1⟩ := bounds_u64 hn
  obtain ⟨m, rfl⟩ := Int.eq_ofNat_of_zero_le hn0
  have hm : m < 2 ^ 64 := by omega
  unfold maxLen at hs hz
  have CL := light_any ss v w hv (by omega) (fun t ht => by have := hz.2 t ht; omega)
  unfold LightPost at CL
  clear hn hz hn0
  by_cases h1 : (500 : Int) < s.size
  · clear CL hv
    go_enter Try.func3, Try.ntmps3
    go_wp2_with (go_at_call 8; refine (awake_any _).mono ?_; rintro e w' ⟨rfl, hb⟩)
    go_ret
    exact ⟨rfl, hb⟩
  cases hl : lightB ss with
  | false =>
    rw [hl] at CL
    clear hl hv
    go_enter Try.func3, Try.ntmps3
    go_wp2_with (first
      | (go_at_call 7; refine CL.mono ?_; rintro e w' ⟨rfl, rfl⟩)
      | (go_at_call 8; refine (awake_any _).mono ?_; rintro e w' ⟨rfl, hb⟩))
    go_ret
    exact ⟨rfl, hb⟩
  | true =>
    rw [hl] at CL
    obtain ⟨hq1, hq2⟩ := of_decide_eq_true hl
    have hL := listB_light ss hq1 hq2
    have HQ := Lib.hid hq2
    have hs5 : s.size ≤ 500 := by omega
    have z1 : (str (leB 1 m)).size = 1 := by rw [str_size, leB_len]
    have z2 : (str (leB 2 m)).size = 2 := by rw [str_size, leB_len]
    have z4 : (str (leB 4 m)).size = 4 := by rw [str_size, leB_len]
    have z8 : (str (leB 8 m)).size = 8 := by rw [str_size, leB_len]
    have zt : (str (textB s)).size = 4 + s.size := by rw [str_size, textB_len]
    have zl : (str (listB ss)).size = (listB ss).length := str_size _
    have HA := Lib.hid (lays_all m s ss)
    have K := Below.refl w.heap.size w
    have tok1 : True := trivial
    have tok2 : True := trivial
    have tok4 : True := trivial
    have tok8 : True := trivial
    clear hl hq2
    go_enter Try.func3, Try.ntmps3
    go_wp2_with (first
      | (go_at_call 7; refine CL.mono ?_; rintro e w' ⟨rfl, rfl⟩)
      | (go_at_call 9; refine (lays_u8 m _).mono ?_; rintro e w' ⟨rfl, hb⟩; replace K := Below.then' K hb K.size; clear hb)
      | (go_at_call 10; refine (lays_u16 m _).mono ?_; rintro e w' ⟨rfl, hb⟩; replace K := Below.then' K hb K.size; clear hb)
      | (go_at_call 11; refine (lays_u32 m _).mono ?_; rintro e w' ⟨rfl, hb⟩; replace K := Below.then' K hb K.size; clear hb)
      | (go_at_call 12; refine (lays_u64 m _).mono ?_; rintro e w' ⟨rfl, hb⟩; replace K := Below.then' K hb K.size; clear hb)
      | (go_at_call 13; have _t := tok1; refine (lays_n1 m hm _).mono ?_; rintro e w' ⟨rfl, hb⟩; replace K := Below.then' K hb K.size; clear hb _t tok1)
      | (go_at_call 13; have _t := tok2; refine (lays_n2 m hm _).mono ?_; rintro e w' ⟨rfl, hb⟩; replace K := Below.then' K hb K.size; clear hb _t tok2)
      | (go_at_call 13; have _t := tok4; refine (lays_n4 m hm _).mono ?_; rintro e w' ⟨rfl, hb⟩; replace K := Below.then' K hb K.size; clear hb _t tok4)
      | (go_at_call 13; have _t := tok8; refine (lays_n8 m hm _).mono ?_; rintro e w' ⟨rfl, hb⟩; replace K := Below.then' K hb K.size; clear hb _t tok8)
      | (go_at_call 14; refine (lays_text s hs5 _).mono ?_; rintro e w' ⟨rfl, hb⟩; replace K := Below.then' K hb K.size; clear hb)
      | (go_at_call 15; refine (lays_rtext s hs5 _).mono ?_; rintro e w' ⟨rfl, hb⟩; replace K := Below.then' K hb K.size; clear hb)
      | (go_at_call 16; refine (lays_list ss v _ (hv.later K) hL).mono ?_; rintro e w' ⟨rfl, hb⟩; replace K := Below.then' K hb K.size; clear hb)
      | (go_at_call 17; refine (lays_rlist ss v _ (hv.later K) hL).mono ?_; rintro e w' ⟨rfl, hb⟩; replace K := Below.then' K hb K.size; clear hb))
    rw [HA.out]
    refine (lr_read _ _).mono ?_
    rintro e w1 ⟨rfl, R, hb⟩
    have hge := K.size
    replace K := Below.then' K hb K.size
    unfold laysL at R
    have hs6 : (textB s).length ≤ 504 := by rw [textB_len]; omega
    have l5 : (listB ss ++ []).length ≤ 900000 := by simp; omega
    have l4 : (textB s ++ (listB ss ++ [])).length ≤ 900000 := by simp; omega
    have l3 : (leB 8 m ++ (textB s ++ (listB ss ++ []))).length ≤ 900000 := by simp [leB_len]; omega
    have l2 : (leB 4 m ++ (leB 8 m ++ (textB s ++ (listB ss ++ [])))).length ≤ 900000 := by simp [leB_len]; omega
    have l1 : (leB 2 m ++ (leB 4 m ++ (leB 8 m ++ (textB s ++ (listB ss ++ []))))).length ≤ 900000 := by simp [leB_len]; omega
    have L5 := Lib.hid l5
    have L4 := Lib.hid l4
    have L3 := Lib.hid l3
    have L2 := Lib.hid l2
    have L1 := Lib.hid l1
    clear hb CL HA l1 l2 l3 l4 l5 hs6 z1 z2 z4 z8 zt zl
    go_wp2_with (first
      | (go_at_call 19; refine (lr_u8 m _ _ L1.out _ R).mono ?_; rintro e w' ⟨rfl, R', hg⟩; replace K := below_touch K hg K.size hge; replace R := R'; clear hg R')
      | (go_at_call 20; refine (lr_u16 m _ _ L2.out _ R).mono ?_; rintro e w' ⟨rfl, R', hg⟩; replace K := below_touch K hg K.size hge; replace R := R'; clear hg R')
      | (go_at_call 21; refine (lr_u32 m _ _ L3.out _ R).mono ?_; rintro e w' ⟨rfl, R', hg⟩; replace K := below_touch K hg K.size hge; replace R := R'; clear hg R')
      | (go_at_call 22; refine (lr_u64 m _ hm _ L4.out _ R).mono ?_; rintro e w' ⟨rfl, R', hg⟩; replace K := below_touch K hg K.size hge; replace R := R'; clear hg R')
      | (go_at_call 23; refine (lr_text s _ hs5 _ L5.out _ R).mono ?_; rintro e w' ⟨rfl, R', hg⟩; replace K := below_touch K hg K.size hge; replace R := R'; clear hg R'))
    refine (lr_list ss _ hq1 HQ.out hL [] (by simp) _ R).mono ?_
    rintro e w8 ⟨u, rfl, U, R8, hg8⟩
    have K8 := below_touch K hg8 K.size hge
    have S8 := same_any ss u v w8 U (hv.later K8) (by omega)
    clear K R hg8
    go_wp2_with (go_at_call 24; refine S8.mono ?_; rintro e w9 ⟨rfl, hb9⟩)
    have K9 := Below.then' K8 hb9 K8.size
    have R9 := R8.later (grown_below hb9 none) (by simp)
    have D9 := end_any _ _ _ R9
    simp only [endR, ne_eq, not_true_eq_false, and_false, if_false] at D9
    clear S8 U hb9 R8 K8
    go_wp2_with (first
      | (go_at_call 26; refine D9.mono ?_; rintro e w' ⟨rfl, rfl⟩)
      | (go_at_call 8; refine (awake_any _).mono ?_; rintro e w10 ⟨rfl, hb10⟩))
    go_ret
    exact ⟨rfl, Below.then' K9 hb10 K9.size⟩

end Go.Proofs.Ytpicaiikejohaaa
