/- The walk of PackReads, whole. -/
import Derived.Test.YtpicaiikejohaaaRows
import Derived.Test.YtpicaiikejohaaaReads
import Derived.Test.YtpicaiikejohaaaNil
import Derived.WalkKit
import Derived.WalkSpells
import Derived.WalkLawsBesides
import Derived.OpenShut
import Derived.RegionTactic
import Derived.BigRegion
import Derived.Deep.RegionHeld3
import Derived.Lib.Hide
namespace Go.Proofs.Ytpicaiikejohaaa
open Go.RowKit

theorem RfAt.c2 {b : Nat} {s : RdSt} {w : World} (h : RfAt b s w) : w.cell? ⟨b, 2, none⟩ = some (.int .i64 s.2) := by obtain ⟨_, _, hin, _⟩ := h; exact hin.c2

set_option maxHeartbeats 4000000 in
theorem walk_packReads (w : World) (s : ByteArray) (hs : s.size ≤ maxLen) (v : Value) (zs : List Int) (hv : IntAt .i64 zs v w) (hz : zs.length ≤ maxLen ∧ ∀ n ∈ zs, (Lit.int .i64 n).wf = true) :
    Calls Try.prog 4 #[.string s, v] w (LawPost w) := by
  obtain ⟨p, cp, rfl, hc⟩ := hv
  unfold maxLen at hs hz
  obtain ⟨hz1, hz2⟩ := hz
  by_cases h1 : (2000 : Int) < s.size
  · clear hc hz2
    go_enter Try.func4, Try.ntmps4
    go_wp2_with (go_at_call 8; refine (awake_any _).mono ?_; rintro e w' ⟨rfl, hb⟩)
    go_ret
    exact ⟨rfl, hb⟩
  · have HZ := Lib.hid hz2
    have HC := Lib.hid hc
    have hd : s.data.toList.length ≤ 1000000 := by rw [data_len]; omega
    clear hz2 hc
    go_enter Try.func4, Try.ntmps4
    go_wp2_with (go_at_call 18; refine (read_any s _).mono ?_; rintro e w1 ⟨rfl, R1, hb1⟩)
    have hlt := R1.lt
    have R2 := R1.later (grown_below ((Below.refl w1.heap.size w1).alloc (Nat.le_refl _) (.cells #[.string s, .int .i64 0, .int .i64 0] 51)) none) (by simp)
    have F2 : RfAt w1.heap.size (s.data.toList, 0) (w1.alloc (.cells #[.string s, .int .i64 0, .int .i64 0] 51)) := by
      refine ⟨s.data.toList, 0, ?_, rfl, Nat.zero_le _, hd⟩
      unfold RfIn
      rw [str_data]
      exact Go.Deep.blk_alloc_new _ _
    have K2 := hb1.alloc hb1.size (.cells #[.string s, .int .i64 0, .int .i64 0] 51)
    have hbw := K2.size
    go_loopw [7] (fun x wr => ∃ (i : Nat) (t : RdSt), i ≤ zs.length ∧ i ≤ 60 ∧ x = .int .i64 i ∧ RdAt w.heap.size t wr ∧ RfAt w1.heap.size t wr ∧ Below w.heap.size w wr) (fun x _ => zs.length - (intOf x).toNat)
    case atStart => exact ⟨0, _, Nat.zero_le _, by omega, rfl, R2, F2, K2⟩
    case round =>
      clear R1 R2 F2 K2 hb1
      obtain ⟨i, t, hi, hi60, rfl, R, F, K⟩ := hrel
      by_cases hlt : i < zs.length
      · by_cases h60 : i < 60
        · rcases HC.out with h | ⟨g, off, rfl, hcell⟩
          · rw [h] at hlt; simp at hlt
          have hq : wr.cell? ⟨g, off + i, none⟩ = some (.int .i64 zs[i]) := (K.cell (World.block_lt_of_cell? _ _ (hcell i hlt))).trans (hcell i hlt)
          have hwf := HZ.out zs[i] (List.getElem_mem hlt)
          have hi0 : (0 : Int) ≤ (i : Int) := by omega
          have hi1 : (i : Int) < (zs.length : Int) := by omega
          obtain ⟨n, hn⟩ : ∃ n, zs[i] = n := ⟨_, rfl⟩
          rw [hn] at hq hwf
          clear hn hcell
          go_wp2
          have Rd : RdAt w.heap.size t wr.drew := R
          have Fd : RfAt w1.heap.size t wr.drew := F.later (grown_drew wr 1 none) (by simp)
          have ST := step_any w.heap.size w.heap.size w1.heap.size t n hwf wr.drew K.size (Nat.le_refl _) (by omega) (by omega) Rd Fd
          clear R F Rd Fd
          go_region_with (first
            | (go_at_call 27; refine ST.mono ?_; rintro e w5 ⟨rfl, t5, R5, F5, K5⟩; have q5 := F5.c2)
            | (go_at_call 28; refine (left_any _ _ w5 R5).mono ?_; rintro e w6 ⟨rfl, rfl⟩)
            | (go_at_call 29; refine (rleft_any _ _ w5 F5).mono ?_; rintro e w6 ⟨rfl, nd, rfl⟩)
            | (go_at_call 30; refine (err_any _ _ (w5.drewN nd) R5).mono ?_; rintro e w6 ⟨rfl, rfl⟩)
            | (go_at_call 26; refine (end_any _ _ (w5.drewN nd) R5).mono ?_; rintro e w6 ⟨rfl, rfl⟩)
            | (go_at_call 31; refine (rend_any _ _ (w5.drewN nd) F5).mono ?_; rintro e w6 ⟨rfl, ne, rfl⟩))
          all_goals
            have R6 := R5
            have F7 := F5.later (grown_drew w5 (nd + ne) none) (by simp)
            have K8 := (K.drew).trans K5
            clear F5 K5 ST q5 K R5
            go_wp2
            go_roundw
            case rel => exact ⟨i + 1, t5, by omega, by omega, by go_num, R6, F7, below_drewN K8 (nd + ne)⟩
            case measure => simp [intOf]; omega
        · clear HZ HC
          go_wp2_with (first
            | (go_at_call 19; refine (nil_u8 _).mono ?_; rintro e w' ⟨rfl, rfl⟩)
            | (go_at_call 20; refine (nil_u16 _).mono ?_; rintro e w' ⟨rfl, rfl⟩)
            | (go_at_call 21; refine (nil_u32 _).mono ?_; rintro e w' ⟨rfl, rfl⟩)
            | (go_at_call 22; refine (nil_u64 _).mono ?_; rintro e w' ⟨rfl, rfl⟩)
            | (go_at_call 32; refine (nil_take _ _).mono ?_; rintro e w' ⟨rfl, rfl⟩)
            | (go_at_call 23; refine (nil_text _).mono ?_; rintro e w' ⟨rfl, rfl⟩)
            | (go_at_call 25; refine (nil_list _).mono ?_; rintro e w' ⟨rfl, rfl⟩)
            | (go_at_call 28; refine (nil_left _).mono ?_; rintro e w' ⟨rfl, rfl⟩)
            | (go_at_call 30; refine (nil_err _).mono ?_; rintro e w' ⟨rfl, rfl⟩)
            | (go_at_call 26; refine (nil_end _).mono ?_; rintro e w' ⟨rfl, rfl⟩)
            | (go_at_call 8; refine (awake_any _).mono ?_; rintro e w7 ⟨rfl, hb7⟩))
          go_ret
          exact ⟨rfl, Below.then' K hb7 K.size⟩
      · clear HZ HC
        go_wp2_with (first
          | (go_at_call 19; refine (nil_u8 _).mono ?_; rintro e w' ⟨rfl, rfl⟩)
          | (go_at_call 20; refine (nil_u16 _).mono ?_; rintro e w' ⟨rfl, rfl⟩)
          | (go_at_call 21; refine (nil_u32 _).mono ?_; rintro e w' ⟨rfl, rfl⟩)
          | (go_at_call 22; refine (nil_u64 _).mono ?_; rintro e w' ⟨rfl, rfl⟩)
          | (go_at_call 32; refine (nil_take _ _).mono ?_; rintro e w' ⟨rfl, rfl⟩)
          | (go_at_call 23; refine (nil_text _).mono ?_; rintro e w' ⟨rfl, rfl⟩)
          | (go_at_call 25; refine (nil_list _).mono ?_; rintro e w' ⟨rfl, rfl⟩)
          | (go_at_call 28; refine (nil_left _).mono ?_; rintro e w' ⟨rfl, rfl⟩)
          | (go_at_call 30; refine (nil_err _).mono ?_; rintro e w' ⟨rfl, rfl⟩)
          | (go_at_call 26; refine (nil_end _).mono ?_; rintro e w' ⟨rfl, rfl⟩)
          | (go_at_call 8; refine (awake_any _).mono ?_; rintro e w7 ⟨rfl, hb7⟩))
        go_ret
        exact ⟨rfl, Below.then' K hb7 K.size⟩

end Go.Proofs.Ytpicaiikejohaaa
