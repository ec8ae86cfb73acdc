/- The walks of pack's List and Fill, and of the document's. -/
import Derived.Test.YtpicaiikejohaaaRows
import Derived.Test.YtpicaiikejohaaaPlain
import Derived.Test.YtpicaiikejohaaaNum
import Derived.Test.YtpicaiikejohaaaShelf
import Derived.WalkKit
import Derived.Lib.Hide
import Derived.WalkSpells
import Derived.WalkLawsBesides
import Derived.Deep.OwnRows
namespace Go.Proofs.Ytpicaiikejohaaa
open Go.RowKit

theorem lays166 : Go.Proofs.Lays.n166 Try.prog Try.lays105_ren := { Try.lays105 with }

theorem write_any (B b : Nat) (bs : List Value) (s : ByteArray) (w : World) (h : Lib.IsBuilder 62 5 B b bs w) (hlen : bs.length + s.size ≤ 140737488355328) (hBw : B ≤ w.heap.size) :
    Calls Try.prog 37 #[.pointer (some ⟨b, 0, none⟩), .string s] w fun e w' => e = .returned (.tuple #[.int .i64 s.size, .nilIface]) ∧ (Lib.IsBuilder 62 5 B b (bs ++ Lib.strCells s) w' ∧ Below B w w') :=
  (Any.Builder_WriteString lays166 Try.Builder_Extra_105 B b bs s w h hlen hBw).mono fun _ _ ⟨he, h1, h2⟩ => ⟨he, Or.inr h1, h2⟩

set_option maxHeartbeats 1000000 in
theorem list_any (ss : List ByteArray) (v : Value) (w : World) (hv : StrAt ss v w) (hL : (listB ss).length ≤ 1000000000) :
    Calls Try.prog 16 #[v] w fun e w' => e = .returned (.string (str (listB ss))) ∧ Below w.heap.size w w' := by
  obtain ⟨p, c, rfl, hc⟩ := hv
  have hL1 : 4 + (textsB ss).length ≤ 1000000000 := by simpa [listB, leB_len] using hL
  have hn : ss.length ≤ 1000000000 := by have := texts_ge ss; omega
  go_enter Try.func16, Try.ntmps16
  go_wp2_with (go_at_call 36; refine (lengthBytes_any _ (by omega) _).mono ?_; rintro e w1 ⟨rfl, hb1⟩)
  have B1 := builder_later (Lib.fresh_isBuilder 62 5 w) hb1
  have K1 := Below.then' ((Below.refl w.heap.size w).alloc (Nat.le_refl _) _) hb1 (by simp)
  clear hb1
  go_wp2_with (go_at_call 37; refine (write_any w.heap.size w.heap.size [] _ _ B1 ?_ ?_).mono ?_)
  · rw [str_size, leB_len]; simp
  · exact K1.size
  rintro e w2 ⟨rfl, B2, hb2⟩
  have K2 := K1.trans hb2
  clear B1 K1 hb2
  go_wp2
  go_loopw [12] (fun x wr => ∃ k : Nat, k ≤ ss.length ∧ x = .int .i64 k ∧ Lib.IsBuilder 62 5 w.heap.size w.heap.size (Lib.byteCells (leB 4 ss.length ++ textsB (ss.take k))) wr ∧ Below w.heap.size w wr) (fun x _ => ss.length - (intOf x).toNat)
  case atStart => exact ⟨0, Nat.zero_le _, rfl, by simpa [textsB, strCells_str] using B2, K2⟩
  case round =>
    clear B2 K2
    obtain ⟨k, hk, rfl, Bk, Kk⟩ := hrel
    by_cases hlt : k < ss.length
    · rcases hc with h | ⟨b, off, rfl, hcell⟩
      · rw [h] at hlt; simp at hlt
      have hsz := size_le_texts ss k hlt
      have hsn := textsB_snoc ss k hlt
      have hc1 : wr.cell? ⟨b, off + k, none⟩ = some (.string ss[k]) := (Kk.cell (World.block_lt_of_cell? _ _ (hcell k hlt))).trans (hcell k hlt)
      obtain ⟨s, hs⟩ : ∃ s, ss[k] = s := ⟨_, rfl⟩
      rw [hs] at hsz hsn hc1
      have HS := Lib.hid hsn
      clear hcell hs hsn
      have hl0 : (Lib.byteCells (leB 4 ss.length ++ textsB (ss.take k))).length = 4 + (textsB (ss.take k)).length := by simp [Lib.byteCells_length, leB_len]
      go_wp2_with (go_at_call 36; refine (lengthBytes_any _ (by omega) _).mono ?_; rintro e w3 ⟨rfl, hb3⟩)
      have B3 := builder_later Bk hb3
      have K3 := Below.then' Kk hb3 Kk.size
      clear hb3 Bk Kk hc1
      go_wp2_with (go_at_call 37; refine (write_any w.heap.size w.heap.size _ _ _ B3 ?_ ?_).mono ?_)
      · rw [hl0, str_size, leB_len]; omega
      · exact K3.size
      rintro e w4 ⟨rfl, B4, hb4⟩
      have K4 := K3.trans hb4
      clear hb4 B3 K3
      go_wp2_with (go_at_call 37; refine (write_any w.heap.size w.heap.size _ _ _ B4 ?_ ?_).mono ?_)
      · rw [List.length_append, hl0, strCells_str, Lib.byteCells_length, leB_len]; omega
      · exact K4.size
      rintro e w5 ⟨rfl, B5, hb5⟩
      have K5 := K4.trans hb5
      clear hb5 B4 K4
      go_wp2
      go_roundw
      case rel =>
        refine ⟨k + 1, by omega, by go_num, ?_, K5⟩
        rw [HS.out]
        simpa [textB, str_list, Lib.strCells_eq, Lib.byteCells_append] using B5
      case measure => simp [intOf]; omega
    · obtain rfl : k = ss.length := by omega
      rw [List.take_length] at Bk
      go_wp2_with (go_at_call 38; refine (Try.Builder_String_any w.heap.size w.heap.size _ _ Bk Kk.size).mono ?_; rintro e w3 ⟨rfl, hb3⟩)
      go_ret
      exact ⟨rfl, Kk.trans hb3⟩

/-- A text filled with zero bytes up to a length. -/
def fillB (s : ByteArray) (n : Int) : ByteArray := s ++ str (List.replicate (n - s.size).toNat 0)

theorem repeat_zero (k : Nat) : Lib.repeatL [0] k = List.replicate k 0 := by
  induction k with
  | zero => rfl
  | succ k ih => simp [Lib.repeatL, List.replicate_succ, ih]

theorem fillB_same (s : ByteArray) (n : Int) (h : n ≤ s.size) : fillB s n = s := by
  have : (n - s.size).toNat = 0 := by omega
  unfold fillB
  rw [this]
  apply ByteArray.ext
  simp [str, ByteArray.data_append]

theorem fill_any (s : ByteArray) (n : Int) (hn : n ≤ 5000) (w : World) :
    Calls Try.prog 33 #[.string s, .int .i64 n] w fun e w' => e = .returned (.string (fillB s n)) ∧ Below w.heap.size w w' := by
  by_cases h : n ≤ s.size
  · have e := fillB_same s n h
    go_enter Try.func33, Try.ntmps33
    go_wp2
    go_ret
    exact ⟨by first | rfl | (rw [e]; rfl), Below.refl _ _⟩
  · obtain ⟨k, hk⟩ : ∃ k : Nat, n = s.size + k := ⟨(n - s.size).toNat, by omega⟩
    subst hk
    have e : fillB s (s.size + k) = s ++ str (List.replicate k 0) := by
      unfold fillB; congr 3; omega
    have hz : (str (List.replicate k 0)).size = k := by simp [str_size]
    have es : (s.size : Int) + (k : Int) - (s.size : Int) = k := by omega
    have er : (⟨(Lib.repeatL (⟨#[0]⟩ : ByteArray).data.toList k).toArray⟩ : ByteArray) = str (List.replicate k 0) := by
      rw [show (⟨#[0]⟩ : ByteArray).data.toList = [0] from rfl, repeat_zero]; rfl
    go_enter Try.func33, Try.ntmps33
    go_wp2_with (go_at_call 46; fail)
    refine (Try.strings_Repeat _ k _ ?_ ?_).mono ?_
    · omega
    · show 1 * k ≤ _
      omega
    rw [er]
    rintro e' w' ⟨rfl, hb⟩
    go_wp2
    go_ret
    exact ⟨by first | rfl | (rw [e]; rfl), hb⟩

set_option maxHeartbeats 400000 in
theorem refFill_any (s : ByteArray) (n : Int) (hn : n ≤ 5000) (w : World) :
    Calls Try.prog 34 #[.string s, .int .i64 n] w fun e w' => e = .returned (.string (fillB s n)) ∧ Below w.heap.size w w' := by
  by_cases h : n ≤ s.size
  · have e := fillB_same s n h
    go_enter Try.func34, Try.ntmps34
    go_wp2
    go_ret
    exact ⟨by first | rfl | (rw [e]; rfl), Below.refl _ _⟩
  · obtain ⟨k, hk⟩ : ∃ k : Nat, n = s.size + k := ⟨(n - s.size).toNat, by omega⟩
    subst hk
    have e : fillB s (s.size + k) = s ++ str (List.replicate k 0) := by
      unfold fillB; congr 3; omega
    have hz : (str (List.replicate k 0)).size = k := by simp [str_size]
    have es : (s.size : Int) + (k : Int) - (s.size : Int) = k := by omega
    have hmk := fun w' => run_make_row' (P := Try.prog) 59 5 (.int .u8 0) 1 Try.underlying59 info5 rfl .i64 .i64 k (by omega) (by omega) w'
    have hcv := conv_bytes (P := Try.prog) (w.alloc (.cells (madeCells #[.int .u8 0] k) 5)) 59 9 5 w.heap.size k k (List.replicate k 0) (by simp) Try.underlying59 Try.underlying5 Try.underlying9 (fun j hj => by
        have hj' : j < k := by simpa using hj
        rw [World.cell?_alloc_mark]
        simp [madeCells, hj', Nat.mod_one])
    go_enter Try.func34, Try.ntmps34
    go_wp2
    go_ret
    exact ⟨rfl, (Below.refl _ _).alloc (Nat.le_refl _) _⟩

end Go.Proofs.Ytpicaiikejohaaa
