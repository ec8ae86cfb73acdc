/- The walks of Open, of the document's Seal and Open, of CrcSeals. -/
import Derived.Test.YtonhoahklmafgaaDoorSums
import Derived.RegionTactic
import Derived.BigRegion
import Derived.Deep.DrawnRows
import Derived.Deep.RegionLaw
import Derived.Deep.RegionWith
namespace Go.Proofs.YtonhoahklmafgaaDoor
open Go.RowKit

theorem conv_one {n : Nat} (w' : World) (b c : Nat) (h : w'.cell? ⟨b, 0, none⟩ = some (.int .u8 ((n : Int) % 256))) :
    (convert 54 9 (.slice (some ⟨b, 0, none⟩) 1 c)).run Tryd.prog w' = .ok (.string (str [UInt8.ofNat n])) w' :=
  conv_bytes w' 54 9 5 b 1 c [UInt8.ofNat n] rfl Tryd.underlying54 Tryd.underlying5 Tryd.underlying9 (fun j hj => by
    obtain rfl : j = 0 := by simpa using hj
    rw [h]; simp)

theorem after_new {w wx : World} {v : Value} {t : TypeId} (hb : Below ((w.alloc (.cells #[v] t)).drew).heap.size ((w.alloc (.cells #[v] t)).drew) wx) : wx.cell? ⟨w.heap.size, 0, none⟩ = some v :=
  (hb.cell (p := ⟨w.heap.size, 0, none⟩) (by show w.heap.size < (w.heap.push _).size; simp)).trans (World.cell?_alloc_mark w #[v] t _ 0)

set_option maxHeartbeats 1000000 in
theorem refNum_any : ∀ (k : Nat) (n : Nat), k ≤ 8 → n < 2 ^ 64 → ∀ (w : World),
    Calls Tryd.prog 32 #[.int .u64 n, .int .i64 k] w fun e w' => e = .returned (.string (str (leB k n))) ∧ Below w.heap.size w w'
  | 0, n, _, _, w => by
    go_enter Tryd.func32, Tryd.ntmps32
    go_wp2
    go_ret
    exact ⟨rfl, Below.refl _ _⟩
  | k + 1, n, hk, hn, w => by
    have ih := refNum_any k (n / 256) (by omega) (by omega)
    have e1 : IntKind.u8.wrap ((n : Int).tmod 256) = (n : Int) % 256 := by
      rw [Int.tmod_eq_emod_of_nonneg (by omega)]
      exact IntWalk.u8_in _ (by omega)
    have e2 : IntKind.u64.wrap ((n : Int) / 256) = ((n / 256 : Nat) : Int) := by
      have : (((n / 256 : Nat)) : Int) = (n : Int) / 256 := by omega
      rw [this]
      exact IntWalk.u64_in _ (by omega)
    have z1 : (str [UInt8.ofNat n]).size = 1 := str_size _
    have z2 : (str (leB k (n / 256))).size = k := by rw [str_size, leB_len]
    have e3 : IntKind.i64.wrap (k : Int) = k := IntWalk.i64_in _ (by omega)
    have hk0 : ¬ ((k : Int) + 1 ≤ 0) := by omega
    have hcv := @conv_one n
    go_enter Tryd.func32, Tryd.ntmps32
    go_wp2
    go_region_with (go_at_call 32; refine (ih _).mono ?_; rintro e w' ⟨rfl, hb⟩; try have hcc := after_new hb)
    all_goals go_wp2
    all_goals
      go_ret
      refine ⟨by rw [str_append]; rfl, ?_⟩
      first
        | exact Below.then' (((Below.refl _ _).alloc (Nat.le_refl _) _).drew) hb (le_drew_alloc _ _)
        | exact (Below.then' ((Below.refl _ _).drew) hb (Nat.le_refl _)).alloc hb.size _

theorem rseal_any (s : ByteArray) (hs : s.size ≤ 100000) (w : World) :
    Calls Tryd.prog 20 #[.string s] w fun e w' => e = .returned (.string (sealed s)) ∧ Below w.heap.size w w' := by
  have C1 := rsum_any s hs
  have hz : (str (leB 4 (moreN 0 s.data.toList))).size = 4 := by rw [str_size, leB_len]
  have hl := moreN_le 0 s.data.toList
  go_enter Tryd.func20, Tryd.ntmps20
  go_wp2_with (go_at_call 11; refine (C1 _).mono ?_; rintro e w' ⟨rfl, K1⟩)
  go_wp2_with (go_at_call 32; refine (refNum_any 4 _ (by omega) (by omega) _).mono ?_; rintro e w' ⟨rfl, hb⟩)
  go_ret
  exact ⟨rfl, Below.then' K1 hb K1.size⟩

/-- What opening a text answers. -/
def openV (t : ByteArray) : ByteArray × Int :=
  if t.size < 4 then (⟨#[]⟩, 7) else if sealed (t.extract 0 (t.size - 4)) = t then (t.extract 0 (t.size - 4), 0) else (⟨#[]⟩, 110)

def OpenPost (p : ByteArray × Int) (w : World) (e : Ending) (w' : World) : Prop := e = .returned (.tuple #[.string p.1, .int .i64 p.2]) ∧ Below w.heap.size w w'

theorem append_cancel {a b c : ByteArray} : a ++ b = a ++ c ↔ b = c := by
  constructor
  · intro h
    have h2 := congrArg (fun x : ByteArray => x.data.toList) h
    simp only [ByteArray.data_append, Array.toList_append, List.append_cancel_left_eq] at h2
    exact ByteArray.ext (Array.ext' h2)
  · rintro rfl; rfl

theorem halves (t : ByteArray) (n : Nat) (h : n ≤ t.size) : t.extract 0 n ++ t.extract n t.size = t := by
  apply ByteArray.ext
  apply Array.ext'
  rw [ByteArray.data_append, Array.toList_append, Lib.extract_eq t 0 n, Lib.extract_eq t n t.size]
  have := data_len t
  simp [List.drop_zero, List.take_of_length_le, this]

theorem tail_iff (t : ByteArray) (n : Nat) (h : n ≤ t.size) : (t.extract n t.size = str (leB 4 (moreN 0 (t.extract 0 n).data.toList))) ↔ sealed (t.extract 0 n) = t := by
  unfold sealed
  conv => rhs; rhs; rw [← halves t n h]
  rw [append_cancel]
  exact ⟨Eq.symm, Eq.symm⟩

theorem text_ne {a b : ByteArray} (h : a ≠ b) : (a.toList == b.toList) = false := by
  rw [Lib.toList_data, Lib.toList_data, beq_eq_false_iff_ne]
  exact fun e => h (ByteArray.ext (Array.ext' e))

set_option maxHeartbeats 1000000 in
theorem open_any (t : ByteArray) (ht : t.size ≤ 100000) (w : World) (hT : TabAt w) :
    Calls Tryd.prog 17 #[.string t] w (OpenPost (openV t) w) := by
  unfold openV
  by_cases h4 : t.size < 4
  · rw [if_pos h4]
    have h4' : decide ((t.size : Int) < 4) = true := by simp; omega
    go_enter Tryd.func17, Tryd.ntmps17
    go_wp2
    go_ret2
    exact ⟨rfl, Below.refl _ _⟩
  · rw [if_neg h4]
    have h4' : ¬ ((t.size : Int) < 4) := by omega
    have hti := tail_iff t (t.size - 4) (by omega)
    have e5 : ((t.size : Int) - 4).toNat = t.size - 4 := by omega
    have hus : (t.extract 0 (t.size - 4)).size ≤ 100000 := by rw [ByteArray.size_extract]; omega
    obtain ⟨u, hu⟩ : ∃ u, u = t.extract 0 (t.size - 4) := ⟨_, rfl⟩
    obtain ⟨v, hv⟩ : ∃ v, v = t.extract (t.size - 4) t.size := ⟨_, rfl⟩
    rw [← hu] at hti hus ⊢
    rw [← hv] at hti
    have SU := sum_any u (by unfold maxLen; omega)
    have hl := moreN_le 0 u.data.toList
    obtain ⟨m, hm⟩ : ∃ m : Nat, m = moreN 0 u.data.toList := ⟨_, rfl⟩
    rw [← hm] at SU hl hti
    have hu' : t.extract 0 (t.size - 4) = u := hu.symm
    have hv' : t.extract (t.size - 4) t.size = v := hv.symm
    have U := fun w => u32_any m (by omega) (by omega) w
    rw [Int.toNat_natCast] at U
    have hTd : TabAt w.drew := hT
    clear hm hu hv
    by_cases hx : sealed u = t
    · rw [if_pos hx]
      have hvx := hti.2 hx
      have HX := Lib.hid hx
      clear hx hti
      subst hvx
      go_enter Tryd.func17, Tryd.ntmps17
      go_wp2
      go_region_with (first
        | (go_at_call 10; refine (SU _ hTd).mono ?_; rintro e w' ⟨rfl, rfl⟩)
        | (go_at_call 31; refine (U _).mono ?_; rintro e w1 ⟨rfl, hb⟩))
      all_goals
        go_wp2
        go_ret2
        exact ⟨rfl, Below.then' (Below.refl _ _).drew hb (Nat.le_refl _)⟩
    · rw [if_neg hx]
      have hvx : v ≠ str (leB 4 m) := fun h => hx (hti.1 h)
      have hb1 := text_ne hvx
      have hb2 : (!v.toList == (str (leB 4 m)).toList) = true := by rw [hb1]; rfl
      clear hx hti hvx
      go_enter Tryd.func17, Tryd.ntmps17
      go_wp2
      go_region_with (first
        | (go_at_call 10; refine (SU _ hTd).mono ?_; rintro e w' ⟨rfl, rfl⟩)
        | (go_at_call 31; refine (U _).mono ?_; rintro e w1 ⟨rfl, hb⟩))
      all_goals
        go_wp2
        go_ret2
        exact ⟨rfl, Below.then' (Below.refl _ _).drew hb (Nat.le_refl _)⟩

set_option maxHeartbeats 1000000 in
theorem ropen_any (t : ByteArray) (ht : t.size ≤ 100000) (w : World) :
    Calls Tryd.prog 19 #[.string t] w (OpenPost (openV t) w) := by
  unfold openV
  by_cases h4 : t.size < 4
  · rw [if_pos h4]
    have h4' : decide ((t.size : Int) < 4) = true := by simp; omega
    go_enter Tryd.func19, Tryd.ntmps19
    go_wp2
    go_ret2
    exact ⟨rfl, Below.refl _ _⟩
  · rw [if_neg h4]
    have h4' : ¬ ((t.size : Int) < 4) := by omega
    have e5 : ((t.size : Int) - 4).toNat = t.size - 4 := by omega
    have hus : (t.extract 0 (t.size - 4)).size ≤ 100000 := by rw [ByteArray.size_extract]; omega
    obtain ⟨u, hu⟩ : ∃ u, u = t.extract 0 (t.size - 4) := ⟨_, rfl⟩
    rw [← hu] at hus ⊢
    have hu' : t.extract 0 (t.size - 4) = u := hu.symm
    have RS := rseal_any u hus
    obtain ⟨z, hz⟩ : ∃ z, z = sealed u := ⟨_, rfl⟩
    rw [← hz] at RS ⊢
    clear hu hz
    by_cases hx : z = t
    · rw [if_pos hx]
      subst hx
      go_enter Tryd.func19, Tryd.ntmps19
      go_wp2_with (go_at_call 20; refine (RS _).mono ?_; rintro e w1 ⟨rfl, hb⟩)
      go_ret2
      exact ⟨rfl, hb⟩
    · rw [if_neg hx]
      have hb1 := text_ne hx
      have hb2 : (!z.toList == t.toList) = true := by rw [hb1]; rfl
      clear hx
      go_enter Tryd.func19, Tryd.ntmps19
      go_wp2_with (go_at_call 20; refine (RS _).mono ?_; rintro e w1 ⟨rfl, hb⟩)
      go_ret2
      exact ⟨rfl, hb⟩

theorem open_sealed (s : ByteArray) : openV (sealed s) = (s, 0) := by
  have hz := sealed_size s
  unfold openV
  have e : (sealed s).extract 0 ((sealed s).size - 4) = s := by
    rw [hz, Nat.add_sub_cancel]
    apply ByteArray.ext
    apply Array.ext'
    rw [Lib.extract_eq, sealed_list]
    simp [data_len]
  rw [if_neg (by omega), e, if_pos rfl]

set_option maxHeartbeats 1000000 in
theorem walk_crcSeals (s0 : ByteArray) (hs0 : s0.size ≤ maxLen) (s1 : ByteArray) (hs1 : s1.size ≤ maxLen) (w : World) (hT : TabAt w) :
    Calls Tryd.prog 6 #[.string s0, .string s1] w (LawPost w) := by
  have C0 := cut_any s0 hs0
  have C1 := cut_any s1 hs1
  have ha := cutB_size s0
  have hb := cutB_size s1
  obtain ⟨a, hat⟩ : ∃ t, t = cutB s0 := ⟨_, rfl⟩
  obtain ⟨b, hbt⟩ : ∃ t, t = cutB s1 := ⟨_, rfl⟩
  rw [← hat] at ha C0
  rw [← hbt] at hb C1
  have SA := seal_any a (by omega)
  have RA := rseal_any a (by omega)
  have hz := sealed_size a
  have OA := open_any (sealed a) (by omega)
  rw [open_sealed] at OA
  have OB := open_any b (by omega)
  have RB := ropen_any b (by omega)
  obtain ⟨z, hzz⟩ : ∃ z, z = sealed a := ⟨_, rfl⟩
  rw [← hzz] at SA RA OA
  obtain ⟨p, hp⟩ : ∃ p, p = openV b := ⟨_, rfl⟩
  obtain ⟨y, f⟩ := p
  rw [← hp] at OB RB
  clear hat hbt hs0 hs1 hz hzz hp
  go_enter Tryd.func6, Tryd.ntmps6
  go_wp2_with fail
  refine (C0 _).mono ?_
  rintro e w' ⟨rfl, rfl⟩
  go_wp2_with fail
  refine (C1 _).mono ?_
  rintro e w' ⟨rfl, rfl⟩
  go_wp2_with fail
  refine (SA _ hT).mono ?_
  rintro e w1 ⟨rfl, K1⟩
  have T1 := hT.later K1
  go_wp2_with fail
  refine (OA _ T1).mono ?_
  rintro e w2 ⟨rfl, hb2⟩
  have K2 := Below.then' K1 hb2 K1.size
  have T2 := hT.later K2
  clear K1 T1 hb2
  go_wp2_with fail
  refine (OB _ T2).mono ?_
  rintro e w3 ⟨rfl, hb3⟩
  have K3 := Below.then' K2 hb3 K2.size
  have T3 := hT.later K3
  clear K2 T2 hb3
  go_wp2_with fail
  refine (RB _).mono ?_
  rintro e w4 ⟨rfl, hb4⟩
  have K4 := Below.then' K3 hb4 K3.size
  have T4 := hT.later K4
  clear K3 T3 hb4
  go_wp2_with fail
  refine (SA _ T4).mono ?_
  rintro e w5 ⟨rfl, hb5⟩
  have K5 := Below.then' K4 hb5 K4.size
  have T5 := hT.later K5
  clear K4 T4 hb5
  go_wp2_with fail
  refine (RA _).mono ?_
  rintro e w6 ⟨rfl, hb6⟩
  have K6 := Below.then' K5 hb6 K5.size
  have T6 := hT.later K6
  clear K5 T5 hb6
  go_wp2_with fail
  refine (awake_any _ T6).mono ?_
  rintro e w7 ⟨rfl, hb7⟩
  go_wp2
  go_ret
  exact ⟨rfl, Below.then' K6 hb7 K6.size⟩

end Go.Proofs.YtonhoahklmafgaaDoor
