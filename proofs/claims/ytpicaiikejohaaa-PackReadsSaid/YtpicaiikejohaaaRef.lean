/- The walks of the document's numbers and texts. -/
import Derived.Test.YtpicaiikejohaaaRows
import Derived.Test.YtpicaiikejohaaaPlain
import Derived.WalkKit
import Derived.WalkSpells
import Derived.WalkLawsBesides
import Derived.Deep.OwnRows
import Derived.RegionTactic
import Derived.BigRegion
import Derived.Deep.DrawnRows
import Derived.Deep.RegionLaw
import Derived.Deep.QuietTactic
import Derived.BigQuiet
import Derived.Lib.Hide
namespace Go.Proofs.Ytpicaiikejohaaa
open Go.RowKit

theorem conv_one {n : Nat} (w' : World) (b c : Nat) (h : w'.cell? ⟨b, 0, none⟩ = some (.int .u8 ((n : Int) % 256))) :
    (convert 59 9 (.slice (some ⟨b, 0, none⟩) 1 c)).run Try.prog w' = .ok (.string (str [UInt8.ofNat n])) w' :=
  conv_bytes w' 59 9 5 b 1 c [UInt8.ofNat n] rfl Try.underlying59 Try.underlying5 Try.underlying9 (fun j hj => by
    obtain rfl : j = 0 := by simpa using hj
    rw [h]; simp)

theorem after_new {w wx : World} {v : Value} {t : TypeId} (hb : Below ((w.alloc (.cells #[v] t)).drew).heap.size ((w.alloc (.cells #[v] t)).drew) wx) : wx.cell? ⟨w.heap.size, 0, none⟩ = some v :=
  cell_later hb (World.cell?_alloc_mark w #[v] t _ 0)

set_option maxHeartbeats 1000000 in
theorem refNum_any : ∀ (k : Nat) (n : Nat), k ≤ 8 → n < 2 ^ 64 → ∀ (w : World),
    Calls Try.prog 13 #[.int .u64 n, .int .i64 k] w fun e w' => e = .returned (.string (str (leB k n))) ∧ Below w.heap.size w w'
  | 0, n, _, _, w => by
    go_enter Try.func13, Try.ntmps13
    go_wp2
    go_ret
    exact ⟨rfl, Below.refl _ _⟩
  | k + 1, n, hk, hn, w => by
    have ih := refNum_any k (n / 256) (by omega) (by omega)
    have e1 : IntKind.u8.wrap ((n : Int).tmod 256) = (n : Int) % 256 := by
      rw [Int.tmod_eq_emod_of_nonneg (by omega)]
      exact IntWalk.u8_in _ (by omega)
    have e2 : IntKind.u64.wrap ((n : Int) / 256) = ((n / 256 : Nat) : Int) := by
      have : (((n / 256 : Nat)) : Int) = (n : Int) / 256 := by omega
      rw [this]
      exact IntWalk.u64_in _ (by omega)
    have z1 : (str [UInt8.ofNat n]).size = 1 := str_size _
    have z2 : (str (leB k (n / 256))).size = k := by rw [str_size, leB_len]
    have e3 : IntKind.i64.wrap (k : Int) = k := IntWalk.i64_in _ (by omega)
    have hk0 : ¬ ((k : Int) + 1 ≤ 0) := by omega
    have hcv := @conv_one n
    go_enter Try.func13, Try.ntmps13
    go_wp2
    go_region_with (go_at_call 13; refine (ih _).mono ?_; rintro e w' ⟨rfl, hb⟩; try have hcc := after_new hb)
    all_goals go_wp2
    all_goals
      go_ret
      refine ⟨by rw [str_append]; rfl, ?_⟩
      first
        | exact Below.then' (((Below.refl _ _).alloc (Nat.le_refl _) _).drew) hb (le_drew_alloc _ _)
        | exact (Below.then' ((Below.refl _ _).drew) hb (Nat.le_refl _)).alloc hb.size _

theorem refText_any (s : ByteArray) (hs : s.size ≤ 4294967295) (w : World) :
    Calls Try.prog 15 #[.string s] w fun e w' => e = .returned (.string (str (textB s))) ∧ Below w.heap.size w w' := by
  have hz : (str (leB 4 s.size)).size = 4 := by rw [str_size, leB_len]
  have ht := str_text s
  go_enter Try.func15, Try.ntmps15
  go_wp2_with (go_at_call 13; refine (refNum_any 4 s.size (by omega) (by omega) _).mono ?_; rintro e w' ⟨rfl, hb⟩)
  go_ret
  exact ⟨rfl, hb⟩

theorem str_parts (ss : List ByteArray) (k : Nat) (h : k < ss.length) : str (leB 4 ss.length ++ textsB (ss.take k)) ++ str (textB ss[k]) = str (leB 4 ss.length ++ textsB (ss.take (k + 1))) := by
  rw [str_append, textsB_snoc ss k h, List.append_assoc]

set_option maxHeartbeats 1000000 in
theorem refList_any (ss : List ByteArray) (v : Value) (w : World) (hv : StrAt ss v w) (hL : (listB ss).length ≤ 1000000000) :
    Calls Try.prog 17 #[v] w fun e w' => e = .returned (.string (str (listB ss))) ∧ Below w.heap.size w w' := by
  obtain ⟨p, c, rfl, hc⟩ := hv
  have hL1 : 4 + (textsB ss).length ≤ 1000000000 := by simpa [listB, leB_len] using hL
  have hn : ss.length ≤ 1000000000 := by have := texts_ge ss; omega
  go_enter Try.func17, Try.ntmps17
  go_wp2_with (go_at_call 13; refine (refNum_any 4 ss.length (by omega) (by omega) _).mono ?_; rintro e w' ⟨rfl, hb⟩)
  go_loopw [3, 4] (fun x y wr => ∃ k : Nat, k ≤ ss.length ∧ x = .string (str (leB 4 ss.length ++ textsB (ss.take k))) ∧ y = .int .i64 k ∧ Below w.heap.size w wr) (fun _ y _ => ss.length - (intOf y).toNat)
  case atStart => exact ⟨0, Nat.zero_le _, by simp [textsB], rfl, hb⟩
  case round =>
    clear hb
    obtain ⟨k, hk, rfl, rfl, Kk⟩ := hrel
    by_cases hlt : k < ss.length
    · rcases hc with h | ⟨b, off, rfl, hcell⟩
      · rw [h] at hlt; simp at hlt
      have hsz := size_le_texts ss k hlt
      have hj := str_parts ss k hlt
      have hc1 : wr.cell? ⟨b, off + k, none⟩ = some (.string ss[k]) := (Kk.cell (World.block_lt_of_cell? _ _ (hcell k hlt))).trans (hcell k hlt)
      obtain ⟨s, hs⟩ : ∃ s, ss[k] = s := ⟨_, rfl⟩
      rw [hs] at hsz hj hc1
      have z1 : (str (leB 4 ss.length ++ textsB (ss.take k))).size = 4 + (textsB (ss.take k)).length := by rw [str_size, List.length_append, leB_len]
      have z2 : (str (textB s)).size = 4 + s.size := by rw [str_size, textB_len]
      clear hcell hs
      go_wp2_with (go_at_call 15; refine (refText_any _ (by omega) _).mono ?_; rintro e w3 ⟨rfl, hb3⟩)
      go_roundw
      case rel => exact ⟨k + 1, by omega, rfl, by go_num, Below.then' Kk hb3 Kk.size⟩
      case measure => simp [intOf]; omega
    · obtain rfl : k = ss.length := by omega
      rw [List.take_length]
      go_wp2
      go_ret
      exact ⟨rfl, Kk⟩

/-- The same texts, twice. -/
theorem same_any (ss : List ByteArray) (v u : Value) (w : World) (hv : StrAt ss v w) (hu : StrAt ss u w) (hn : ss.length ≤ 1000000000) :
    Calls Try.prog 24 #[v, u] w fun e w' => e = .returned (.bool true) ∧ Below w.heap.size w w' := by
  obtain ⟨p, c, rfl, hc⟩ := hv
  obtain ⟨p2, c2, rfl, hc2⟩ := hu
  go_enter Try.func24, Try.ntmps24
  go_wp2
  go_loopw [5] (fun x wr => ∃ k : Nat, k ≤ ss.length ∧ x = .int .i64 k ∧ Below w.heap.size w wr) (fun x _ => ss.length - (intOf x).toNat)
  case atStart => exact ⟨0, Nat.zero_le _, rfl, Below.refl _ _⟩
  case round =>
    obtain ⟨k, hk, rfl, Kk⟩ := hrel
    by_cases hlt : k < ss.length
    · rcases hc with h | ⟨b, off, rfl, hcell⟩
      · rw [h] at hlt; simp at hlt
      rcases hc2 with h | ⟨b2, off2, rfl, hcell2⟩
      · rw [h] at hlt; simp at hlt
      have h1 : wr.cell? ⟨b, off + k, none⟩ = some (.string ss[k]) := (Kk.cell (World.block_lt_of_cell? _ _ (hcell k hlt))).trans (hcell k hlt)
      have h2 : wr.cell? ⟨b2, off2 + k, none⟩ = some (.string ss[k]) := (Kk.cell (World.block_lt_of_cell? _ _ (hcell2 k hlt))).trans (hcell2 k hlt)
      obtain ⟨s, hs⟩ : ∃ s, ss[k] = s := ⟨_, rfl⟩
      rw [hs] at h1 h2
      have hi : (k : Int) < (ss.length : Int) := by omega
      have hi0 : (0 : Int) ≤ (k : Int) := by omega
      clear hcell hcell2 hs
      go_wp2
      go_quiet (fail)
      go_wp2
      go_roundw
      case rel => exact ⟨k + 1, by omega, by go_num, below_drewN Kk nq⟩
      case measure => simp [intOf]; omega
    · go_wp2
      go_ret
      exact ⟨rfl, Kk⟩

/-- Not too many texts, none too long. -/
def lightB (ss : List ByteArray) : Bool := decide (ss.length ≤ 40 ∧ ∀ s ∈ ss, s.size ≤ 500)

def LightPost (ss : List ByteArray) (w : World) (e : Ending) (w' : World) : Prop := e = .returned (.bool (lightB ss)) ∧ w = w'

theorem light_any (ss : List ByteArray) (v : Value) (w : World) (hv : StrAt ss v w) (hn : ss.length ≤ 9223372036854775807) (hm : ∀ s ∈ ss, s.size ≤ 9223372036854775807) :
    Calls Try.prog 7 #[v] w (LightPost ss w) := by
  obtain ⟨p, c, rfl, hc⟩ := hv
  go_enter Try.func7, Try.ntmps7
  go_wp2
  go_loop [3] (fun x => ∃ k : Nat, k ≤ ss.length ∧ k ≤ 40 ∧ x = .int .i64 k ∧ ∀ i (h : i < ss.length), i < k → (ss[i]).size ≤ 500) (fun x => ss.length - (intOf x).toNat)
  case atStart => exact ⟨0, Nat.zero_le _, by omega, rfl, fun i _ h => by omega⟩
  case round =>
    obtain ⟨k, hk, hk40, rfl, hall⟩ := hrel
    by_cases hlt : k < ss.length
    · by_cases h40 : k < 40
      · rcases hc with h | ⟨b, off, rfl, hcell⟩
        · rw [h] at hlt; simp at hlt
        have hb : (ss[k]).size ≤ 9223372036854775807 := hm _ (List.getElem_mem hlt)
        have h1 : w.cell? ⟨b, off + k, none⟩ = some (.string ss[k]) := hcell k hlt
        have HA := Lib.hid hall
        have HI := Lib.hid (List.getElem_mem hlt)
        obtain ⟨s, hs⟩ : ∃ s, ss[k] = s := ⟨_, rfl⟩
        rw [hs] at h1 hb HI
        have HS := Lib.hid hs
        clear hall hs hm hcell
        by_cases hz : 500 < s.size
        · have HZ : lightB ss = false := decide_eq_false (fun h => by have := h.2 s HI.out; omega)
          have HZ' := Lib.hid HZ
          clear HZ
          go_wp2
          go_ret
          exact ⟨by rw [HZ'.out]; rfl, rfl⟩
        · go_wp2
          go_round
          case rel =>
            refine ⟨k + 1, by omega, by omega, by go_num, fun i hi hik => ?_⟩
            by_cases e : i = k
            · subst e; rw [HS.out]; omega
            · exact HA.out i hi (by omega)
          case measure => simp [intOf]; omega
      · obtain rfl : k = 40 := by omega
        clear hall hm hc
        have HZ : lightB ss = false := decide_eq_false (fun h => by have := h.1; omega)
        have HZ' := Lib.hid HZ
        clear HZ
        have : ¬ (ss.length : Int) ≤ 40 := by omega
        go_wp2
        go_ret
        exact ⟨by rw [HZ'.out]; rfl, rfl⟩
    · obtain rfl : k = ss.length := by omega
      have HZ : lightB ss = true := decide_eq_true ⟨hk40, fun s hs => by
        obtain ⟨i, hi, rfl⟩ := List.getElem_of_mem hs
        exact hall i hi hi⟩
      have HZ' := Lib.hid HZ
      clear HZ hall hm hc
      have hd : decide ((ss.length : Int) ≤ 40) = true := decide_eq_true (by omega)
      go_wp2
      go_ret
      refine ⟨?_, rfl⟩
      rw [HZ'.out]
      first | rfl | (show Ending.returned (.bool (decide ((ss.length : Int) ≤ 40))) = _; rw [hd])

end Go.Proofs.Ytpicaiikejohaaa
