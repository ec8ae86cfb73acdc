/- The walks of Places, and of the document's Places. -/
import Derived.Test.YtopdgjfgdodgeaaDoorRollP
namespace Go.Proofs.YtopdgjfgdodgeaaDoor
open Go.RowKit

/-- The places among the first k beginnings. -/
def placesTo (l : List UInt8) (d : Nat) : Nat → List Nat
  | 0 => []
  | k + 1 => if rsum (l.take (k + 1)) % d = d - 1 then placesTo l d k ++ [k + 1] else placesTo l d k
theorem placesTo_len (l : List UInt8) (d : Nat) : ∀ k, (placesTo l d k).length ≤ k
  | 0 => Nat.le_refl _
  | k + 1 => by
    have := placesTo_len l d k
    simp only [placesTo]
    split
    · rw [List.length_append, List.length_singleton]; omega
    · omega
theorem placesTo_in (l : List UInt8) (d k : Nat) (h : rsum (l.take (k + 1)) % d = d - 1) : placesTo l d (k + 1) = placesTo l d k ++ [k + 1] := by simp only [placesTo]; rw [if_pos h]
theorem placesTo_out (l : List UInt8) (d k : Nat) (h : ¬ rsum (l.take (k + 1)) % d = d - 1) : placesTo l d (k + 1) = placesTo l d k := by simp only [placesTo]; rw [if_neg h]

/-- What a loop holds that appends places. -/
def PlacesAt (w : World) (l : List UInt8) (d k : Nat) (v : Value) (wr : World) : Prop :=
  wr.ownsRow w.heap.size 3 1 v (placesTo l d k).length (inL (placesTo l d k)) ∧ Below w.heap.size w wr

theorem places_no (s : ByteArray) (div : Int) (hd : div < 1) (w : World) :
    Calls Tryd.prog 16 #[.string s, .int .i64 div] w fun e w' => e = .returned (.slice none 0 0) ∧ w = w' := by
  go_enter Tryd.func16, Tryd.ntmps16
  go_wp2
  go_ret
  exact ⟨rfl, rfl⟩

set_option maxRecDepth 100000 in
set_option maxHeartbeats 4000000 in
theorem places_any (s : ByteArray) (hs : s.size ≤ 1000000) (d : Nat) (hd1 : 1 ≤ d) (hd2 : d ≤ 9223372036854775807) (w : World) (hT : TabAt w) :
    Calls Tryd.prog 16 #[.string s, .int .i64 d] w fun e w' => ∃ v, e = .returned v ∧ I64At (placesTo s.data.toList d s.size) v w' ∧ Below w.heap.size w w' := by
  obtain ⟨i0, hi, hz0, hz1, hz2⟩ := info_of infoInt
  have HI := Lib.hid hi
  have HZ0 := Lib.hid hz0
  have HZ1 := Lib.hid hz1
  have HZ2 := Lib.hid hz2
  have AL := all_any s hs
  obtain ⟨l, hl⟩ : ∃ l, l = s.data.toList := ⟨_, rfl⟩
  rw [← hl] at AL ⊢
  clear hl hi hz0 hz1 hz2
  obtain ⟨n, hn⟩ : ∃ n, n = s.size := ⟨_, rfl⟩
  rw [← hn] at AL hs ⊢
  clear hn
  go_enter Tryd.func16, Tryd.ntmps16
  go_wp2_with fail
  refine (AL w hT).mono ?_
  rintro e w1 ⟨v1, rfl, ⟨p, c, rfl, hc⟩, K1⟩
  rw [hashes_len] at hc ⊢
  have HC := Lib.hid hc
  clear hc AL
  go_wp2
  go_loopw [5, 13] (fun v x wr => ∃ (k : Nat), k ≤ n ∧ x = .int .i64 k ∧ PlacesAt w1 l d k v wr) (fun _ x _ => n - (intOf x).toNat)
  case atStart => exact ⟨0, Nat.zero_le _, rfl, World.ownsRow_nil _ _ _ _, Below.refl _ _⟩
  case round =>
    obtain ⟨k, hk, rfl, hown, K⟩ := hrel
    have HO := Lib.hid hown
    clear hown
    have HSK := Lib.hid hk
    by_cases hlt : k < n
    · rcases HC.out with h | ⟨b, off, rfl, hcell⟩
      · have := hashes_len l n; rw [h] at this; simp at this; omega
      have k1 := (K.cell (World.block_lt_of_cell? _ _ (hcell k hlt))).trans (hcell k hlt)
      rw [hashes_get _ _ _ hlt] at k1
      have hrl := rsum_lt (l.take (k + 1))
      have hin := placesTo_in l d k
      have hout := placesTo_out l d k
      have hpl := placesTo_len l d k
      obtain ⟨r, hr⟩ : ∃ r, r = rsum (l.take (k + 1)) := ⟨_, rfl⟩
      rw [← hr] at k1 hrl hin hout
      obtain ⟨m, hm⟩ : ∃ m, m = r % d := ⟨_, rfl⟩
      rw [← hm] at hin hout
      have hml : m < d := by rw [hm]; exact Nat.mod_lt _ (by omega)
      have em : (r : Int) % (d : Int) = (m : Int) := by rw [hm]; simp
      have et : (r : Int).tmod (d : Int) = (m : Int) := by rw [Int.tmod_eq_emod_of_nonneg (by omega)]; exact em
      have hd0 : ¬ ((d : Int) = 0) := by omega
      obtain ⟨P, hP⟩ : ∃ P, P = placesTo l d k := ⟨_, rfl⟩
      rw [← hP] at HO hin hout hpl
      have HP := Lib.hid hP
      clear hcell hr hm hP HC
      have hszw : w1.heap.size ≤ wr.heap.size := K.size
      by_cases hpq : m = d - 1
      · have HIN := Lib.hid (hin hpq)
        have b0 : (m : Int) = (d : Int) - 1 := by clear et em HIN hin hout; omega
        have b1 : ((m : Int) == (d : Int) - 1) = true := by rw [b0]; exact beq_self_eq_true _
        clear hin hout hpq hk b0
        go_wp2_with (at_builtin; refine wpList_append_own _ rfl _ _ 35 rfl w1.heap.size 3 i0 (.int .i64 0) 1 8 Tryd.underlying35 HI.out HZ0.out HZ1.out HZ2.out rfl (by decide) _ _ _ rfl (HO.out.alloc _) ⟨wr.heap.size, 0, none⟩ 1 1 [.int .i64 ((k : Int) + 1)] rfl rfl ?c1 ?c2 ?c3 ?c4 ?c5 ?_)
        case c1 => exact cell_one_new _ _ _
        case c2 => first | rfl | (intro u hu; simp only [List.mem_singleton] at hu; subst hu; rfl)
        case c3 => unfold maxLen; omega
        case c4 => omega
        case c5 => first | omega | (simp; omega)
        intro v' w4 hown4 hg4 _
        have h6 : Below w1.heap.size w1 w4 := (K.alloc hszw _).grown hg4 (by simp; omega) (fun k hk => (HO.out.lt k hk).1)
        clear HO K
        go_wp2
        go_roundw
        case rel =>
          refine ⟨k + 1, by omega, by go_num, ?_, h6⟩
          rw [HIN.out, List.length_append, List.length_singleton]
          have e : inL (P ++ [k + 1]) = inL P ++ [.int .i64 ((k : Int) + 1)] := by simp [inL]
          rw [e]; exact hown4
        case measure => simp [intOf]; omega
      · have HOUT := Lib.hid (hout hpq)
        have b0 : ¬ (m : Int) = (d : Int) - 1 := by clear et em HOUT hin hout; omega
        have b1 : ((m : Int) == (d : Int) - 1) = false := by simpa using b0
        clear hin hout hpq b0
        go_wp2
        go_roundw
        case rel => exact ⟨k + 1, by omega, by go_num, by rw [HOUT.out]; exact HO.out, K⟩
        case measure => simp [intOf]; omega
    · obtain rfl : k = n := by omega
      have hU := i64At_own HO.out
      have HU := Lib.hid hU
      clear hU HO
      go_wp2
      go_ret
      exact ⟨_, rfl, HU.out, Below.then' K1 K K1.size⟩

theorem rplaces_no (s : ByteArray) (hs : s.size ≤ 1000000) (div : Int) (hd : div < 1) (w : World) :
    Calls Tryd.prog 17 #[.string s, .int .i64 div] w fun e w' => e = .returned (.slice none 0 0) ∧ w = w' := by
  by_cases h0 : s.size = 0
  · have h1 : (s.size : Int) = 0 := by omega
    clear h0
    go_enter Tryd.func17, Tryd.ntmps17
    go_wp2
    go_loop [5, 6] (fun v i => v = .slice none 0 0 ∧ i = .int .i64 1) (fun _ _ => 0)
    case atStart => exact ⟨rfl, rfl⟩
    case round =>
      obtain ⟨rfl, rfl⟩ := hrel
      go_wp2
      go_ret
      exact ⟨rfl, rfl⟩
  · have h1 : (1 : Int) ≤ s.size := by omega
    clear h0
    go_enter Tryd.func17, Tryd.ntmps17
    go_wp2
    go_loop [5, 6] (fun v i => v = .slice none 0 0 ∧ i = .int .i64 1) (fun _ _ => 0)
    case atStart => exact ⟨rfl, rfl⟩
    case round =>
      obtain ⟨rfl, rfl⟩ := hrel
      go_wp2
      go_ret
      exact ⟨rfl, rfl⟩

set_option maxRecDepth 100000 in
set_option maxHeartbeats 4000000 in
theorem rplaces_any (s : ByteArray) (hs : s.size ≤ 1000000) (d : Nat) (hd1 : 1 ≤ d) (hd2 : d ≤ 9223372036854775807) (w : World) :
    Calls Tryd.prog 17 #[.string s, .int .i64 d] w fun e w' => ∃ v, e = .returned v ∧ I64At (placesTo s.data.toList d s.size) v w' ∧ Below w.heap.size w w' := by
  obtain ⟨i0, hi, hz0, hz1, hz2⟩ := info_of infoInt
  have HI := Lib.hid hi
  have HZ0 := Lib.hid hz0
  have HZ1 := Lib.hid hz1
  have HZ2 := Lib.hid hz2
  obtain ⟨l, hl⟩ : ∃ l, l = s.data.toList := ⟨_, rfl⟩
  rw [← hl]
  have HL := Lib.hid hl
  clear hl hi hz0 hz1 hz2
  go_enter Tryd.func17, Tryd.ntmps17
  go_wp2
  go_loopw [5, 6] (fun v x wr => ∃ (k : Nat), k ≤ s.size ∧ x = .int .i64 ((k + 1 : Nat) : Int) ∧ PlacesAt w l d k v wr) (fun _ x _ => s.size + 1 - (intOf x).toNat)
  case atStart => exact ⟨0, Nat.zero_le _, rfl, World.ownsRow_nil _ _ _ _, Below.refl _ _⟩
  case round =>
    obtain ⟨k, hk, rfl, hown, K⟩ := hrel
    have HO := Lib.hid hown
    clear hown
    have HSK := Lib.hid hk
    obtain ⟨j, hj⟩ : ∃ j, j = k + 1 := ⟨_, rfl⟩
    rw [← hj]
    by_cases hlt : k < s.size
    · have hcut := cut_list s j (by omega)
      rw [← HL.out] at hcut
      obtain ⟨tx, htx⟩ : ∃ tx, s.extract 0 j = tx := ⟨_, rfl⟩
      rw [htx] at hcut
      have SU := rsum_any tx (by unfold maxLen; omega) wr
      rw [hcut.1, hj] at SU
      have hrl := rsum_lt (l.take (k + 1))
      have hin := placesTo_in l d k
      have hout := placesTo_out l d k
      have hpl := placesTo_len l d k
      obtain ⟨r, hr⟩ : ∃ r, r = rsum (l.take (k + 1)) := ⟨_, rfl⟩
      rw [← hr] at SU hrl hin hout
      obtain ⟨m, hm⟩ : ∃ m, m = r % d := ⟨_, rfl⟩
      rw [← hm] at hin hout
      have hml : m < d := by rw [hm]; exact Nat.mod_lt _ (by omega)
      have em : (r : Int) % (d : Int) = (m : Int) := by rw [hm]; simp
      have hd0 : ¬ ((d : Int) = 0) := by omega
      obtain ⟨P, hP⟩ : ∃ P, P = placesTo l d k := ⟨_, rfl⟩
      rw [← hP] at HO hin hout hpl
      have HP := Lib.hid hP
      have HJ := Lib.hid hj
      have hj1 : (j : Int) ≤ s.size := by omega
      have hj2 : j ≤ s.size := by omega
      have hdi : (1 : Int) ≤ (d : Int) := by omega
      have hszw : w.heap.size ≤ wr.heap.size := K.size
      clear hcut hr hj hlt hk hm hP
      by_cases hpq : m = d - 1
      · have HIN := Lib.hid (hin hpq)
        have b0 : (m : Int) = (d : Int) - 1 := by clear em HIN hin hout; omega
        have b1 : ((m : Int) == (d : Int) - 1) = true := by rw [b0]; exact beq_self_eq_true _
        clear hin hout hpq b0
        go_wp2_with fail
        refine SU.mono ?_
        rintro e w2 ⟨rfl, rfl⟩
        go_wp2_with (at_builtin; refine wpList_append_own _ rfl _ _ 35 rfl w.heap.size 3 i0 (.int .i64 0) 1 8 Tryd.underlying35 HI.out HZ0.out HZ1.out HZ2.out rfl (by decide) _ _ _ rfl (HO.out.alloc _) ⟨wr.heap.size, 0, none⟩ 1 1 [.int .i64 (j : Int)] rfl rfl ?c1 ?c2 ?c3 ?c4 ?c5 ?_)
        case c1 => exact cell_one_new _ _ _
        case c2 => first | rfl | (intro u hu; simp only [List.mem_singleton] at hu; subst hu; rfl)
        case c3 => have := HSK.out; unfold maxLen; omega
        case c4 => have := HSK.out; omega
        case c5 => first | omega | (simp; omega)
        intro v' w4 hown4 hg4 _
        have h6 : Below w.heap.size w w4 := (K.alloc hszw _).grown hg4 (by simp; omega) (fun k hk => (HO.out.lt k hk).1)
        clear HO K
        go_wp2
        go_roundw
        case rel =>
          have hj := HJ.out
          refine ⟨k + 1, by omega, congrArg (Value.int .i64) (by omega), ?_, h6⟩
          rw [HIN.out, List.length_append, List.length_singleton]
          have e : inL (P ++ [k + 1]) = inL P ++ [.int .i64 (j : Int)] := by simp [inL, hj]
          rw [e]; exact hown4
        case measure => have := HJ.out; have := HSK.out; simp [intOf]; omega
      · have HOUT := Lib.hid (hout hpq)
        have b0 : ¬ (m : Int) = (d : Int) - 1 := by clear em HOUT hin hout; omega
        have b1 : ((m : Int) == (d : Int) - 1) = false := by simpa using b0
        clear hin hout hpq b0
        go_wp2_with fail
        refine SU.mono ?_
        rintro e w2 ⟨rfl, rfl⟩
        go_wp2
        go_roundw
        case rel => exact ⟨k + 1, by have := HJ.out; omega, congrArg (Value.int .i64) (by have := HJ.out; omega), by rw [HOUT.out]; exact HO.out, K⟩
        case measure => have := HJ.out; have := HSK.out; simp [intOf]; omega
    · obtain rfl : k = s.size := by omega
      have hU := i64At_own HO.out
      have HU := Lib.hid hU
      have hj1 : ¬ (j : Int) ≤ s.size := by omega
      clear hU HO hj
      go_wp2
      go_ret
      exact ⟨_, rfl, HU.out, K⟩

end Go.Proofs.YtopdgjfgdodgeaaDoor
