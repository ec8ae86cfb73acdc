/- The walk of weigh's Parse, of what is no weight's text. -/
import Derived.Test.YtmobkjdncfdokaaDoorTextW
namespace Go.Proofs.YtmobkjdncfdokaaDoor
open Go.RowKit

/-- What is asked of a text that is no weight's. -/
def NoText (s : ByteArray) : Prop := ∀ a b, Valid a b → s ≠ str (textW a b)

theorem data_extract (s : ByteArray) (a b : Nat) : (s.extract a b).size ≤ s.size := by
  rw [ByteArray.size_extract]; omega

set_option maxRecDepth 100000 in
set_option maxHeartbeats 4000000 in
theorem parse_no (s : ByteArray) (hs : s.size ≤ 60) (hno : NoText s) (w : World) (hT : TabAt w) :
    Calls Tryd.prog 6 #[.string s] w fun e w' => e = .returned (.tuple #[.complex .f64 0 0, .int .i64 7]) ∧ Below w.heap.size w w' := by
  have TS := flipW (Tryd.strings_TrimSuffix s ⟨#[105]⟩ w (by omega))
  have htl : (Lib.trimSuffix s.data.toList (ByteArray.mk #[105]).data.toList).length ≤ 60 := by
    have := trim_len s.data.toList
    rw [data_len] at this
    show (Lib.trimSuffix s.data.toList [105]).length ≤ 60
    omega
  obtain ⟨L, hL⟩ : ∃ L, L = Lib.trimSuffix s.data.toList (ByteArray.mk #[105]).data.toList := ⟨_, rfl⟩
  rw [← hL] at TS htl
  have hPsz := str_size L
  have LA := fun w hT => lastAny_any (str L) (by omega) w hT
  rw [str_list] at LA
  have hT0 : (⟨L.toArray⟩ : ByteArray) = str L := rfl
  rw [hT0] at TS
  obtain ⟨P, hP⟩ : ∃ P, P = str L := ⟨_, rfl⟩
  rw [← hP] at TS LA hPsz
  have HN := Lib.hid hno
  clear hL hP hT0 hno
  go_enter Tryd.func6, Tryd.ntmps6
  go_wp2_with fail
  refine TS.mono ?_
  rintro e w' ⟨rfl, rfl⟩
  go_wp2_with fail
  refine (LA _ hT).mono ?_
  rintro e w1 ⟨⟨v, rfl, hv1, _⟩, K1⟩
  clear TS LA
  by_cases hneg : v < 0
  · clear hv1
    go_wp2
    go_ret2
    exact ⟨rfl, K1⟩
  · obtain ⟨k, rfl⟩ := Int.eq_ofNat_of_zero_le (show 0 ≤ v by omega)
    have hk : k < P.size := by omega
    have hkp : (k : Int) ≤ P.size := by omega
    obtain ⟨U, hU⟩ : ∃ U, P.extract 0 k = U := ⟨_, rfl⟩
    obtain ⟨V, hV⟩ : ∃ V, P.extract k P.size = V := ⟨_, rfl⟩
    have A1 := atoi_any U (by have := data_extract P 0 k; rw [hU] at this; omega)
    have A2 := atoi_any V (by have := data_extract P k P.size; rw [hV] at this; omega)
    clear hv1 hneg hPsz htl
    rcases A1 with ⟨r, A1⟩ | ⟨r, A1⟩
    · rcases A2 with ⟨i, A2⟩ | ⟨i, A2⟩
      · by_cases hva : Valid r i
        · have MK := make_yes r i hva.1 hva.2
          have TX := text_yes (num_flt r hva.1) (num_flt i hva.2)
          have hne := HN.out r i hva
          obtain ⟨R, hR⟩ : ∃ R, R = str (textW r i) := ⟨_, rfl⟩
          rw [← hR] at TX hne
          have hneq : (R.toList == s.toList) = false := by
            rw [Lib.toList_data, Lib.toList_data]
            refine beq_eq_false_iff_ne.2 fun e => hne ?_
            apply ByteArray.ext
            exact (Array.toList_inj.1 e).symm
          generalize flt r = x at *
          generalize flt i = y at *
          clear hR hva hne
          go_wp2_with fail
          refine (A1 _ (hT.later K1)).mono ?_
          rintro e w2 ⟨rfl, hb2⟩
          have K2 := Below.then' K1 hb2 K1.size
          clear K1 hb2
          go_wp2_with fail
          refine (A2 _ (hT.later K2)).mono ?_
          rintro e w3 ⟨rfl, hb3⟩
          have K3 := Below.then' K2 hb3 K2.size
          clear K2 hb3
          go_wp2_with fail
          refine (MK _).mono ?_
          rintro e w' ⟨rfl, rfl⟩
          go_wp2_with fail
          refine (TX _ (hT.later K3)).mono ?_
          rintro e w4 ⟨rfl, hb4⟩
          have K4 := Below.then' K3 hb4 K3.size
          go_wp2
          go_ret2
          exact ⟨rfl, K4⟩
        · have MK := make_no r i hva
          go_wp2_with fail
          refine (A1 _ (hT.later K1)).mono ?_
          rintro e w2 ⟨rfl, hb2⟩
          have K2 := Below.then' K1 hb2 K1.size
          clear K1 hb2
          go_wp2_with fail
          refine (A2 _ (hT.later K2)).mono ?_
          rintro e w3 ⟨rfl, hb3⟩
          have K3 := Below.then' K2 hb3 K2.size
          clear K2 hb3 hva
          go_wp2_with fail
          refine (MK _).mono ?_
          rintro e w' ⟨rfl, rfl⟩
          go_wp2
          go_ret2
          exact ⟨rfl, K3⟩
      · go_wp2_with fail
        refine (A1 _ (hT.later K1)).mono ?_
        rintro e w2 ⟨rfl, hb2⟩
        have K2 := Below.then' K1 hb2 K1.size
        clear K1 hb2
        go_wp2_with fail
        refine (A2 _ (hT.later K2)).mono ?_
        rintro e w3 ⟨N, rfl, hb3⟩
        have K3 := Below.then' K2 hb3 K2.size
        clear K2 hb3
        go_wp2
        go_ret2
        exact ⟨rfl, K3⟩
    · have A2' : ∃ (i : Int) (ev : Nat → Value), ∀ w, TabAt w → Calls Tryd.prog 17 #[.string V] w fun e w' => ∃ N, e = .returned (.tuple #[.int .i64 i, ev N]) ∧ Below w.heap.size w w' := by
        rcases A2 with ⟨i, A2⟩ | ⟨i, A2⟩
        · exact ⟨i, fun _ => .nilIface, fun w h => (A2 w h).mono fun _ _ h => ⟨0, h.1, h.2⟩⟩
        · exact ⟨i, fun N => .iface 85 (.pointer (some ⟨N, 0, none⟩)), A2⟩
      obtain ⟨i, ev, A2'⟩ := A2'
      clear A2
      go_wp2_with fail
      refine (A1 _ (hT.later K1)).mono ?_
      rintro e w2 ⟨N, rfl, hb2⟩
      have K2 := Below.then' K1 hb2 K1.size
      clear K1 hb2
      go_wp2_with fail
      refine (A2' _ (hT.later K2)).mono ?_
      rintro e w3 ⟨M, rfl, hb3⟩
      have K3 := Below.then' K2 hb3 K2.size
      clear K2 hb3
      go_wp2
      go_ret2
      exact ⟨rfl, K3⟩

end Go.Proofs.YtmobkjdncfdokaaDoor
