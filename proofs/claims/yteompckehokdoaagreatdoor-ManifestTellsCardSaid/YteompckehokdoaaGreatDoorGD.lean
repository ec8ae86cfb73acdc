/- The walks of pack's reader. The walk of pack's reader's List. The walks of the document's reader. -/
import Derived.Test.YteompckehokdoaaGreatDoorRows
import Derived.Test.YteompckehokdoaaGreatDoorGA
import Derived.WalkKit
import Derived.WalkSpells
import Derived.WalkLawsBesides
import Derived.Deep.OwnRows
import Derived.Lib.Hide
import Derived.Lib.Builder
import Derived.Deep.LoopGhost
import Derived.Deep.QuietTactic
import Derived.BigQuiet
namespace Go.Proofs.YteompckehokdoaaGreatDoor
open Go.RowKit

/-- A reader in the block b: what is left, and its error. -/
def RdAt (b : Nat) (s : RdSt) (w : World) : Prop := w.heap[b]? = some (.cells #[.string (str s.1), .int .i64 s.2] 103 (0, 0))

theorem RdAt.c0 {b : Nat} {s : RdSt} {w : World} (h : RdAt b s w) : w.cell? ⟨b, 0, none⟩ = some (.string (str s.1)) := by rw [Lib.cell_of_heap h]; rfl
theorem RdAt.c1 {b : Nat} {s : RdSt} {w : World} (h : RdAt b s w) : w.cell? ⟨b, 1, none⟩ = some (.int .i64 s.2) := by rw [Lib.cell_of_heap h]; rfl
theorem RdAt.f {b : Nat} {s : RdSt} {w : World} (h : RdAt b s w) (j : Nat) : w.frozen? ⟨b, j, none⟩ = false := Lib.frozen_of_heap h j
theorem RdAt.lt {b : Nat} {s : RdSt} {w : World} (h : RdAt b s w) : b < w.heap.size := (Array.getElem?_eq_some_iff.1 h).1
theorem RdAt.set0 {b : Nat} {s : RdSt} {w : World} (h : RdAt b s w) (l : List UInt8) : RdAt b (l, s.2) (w.setCell ⟨b, 0, none⟩ (.string (str l))) := by
  unfold RdAt at *
  simp [World.setCell, Array.getElem?_modify, h]
theorem RdAt.set1 {b : Nat} {s : RdSt} {w : World} (h : RdAt b s w) (e : Int) : RdAt b (s.1, e) (w.setCell ⟨b, 1, none⟩ (.int .i64 e)) := by
  unfold RdAt at *
  simp [World.setCell, Array.getElem?_modify, h]
theorem RdAt.later {b : Nat} {s : RdSt} {w w' : World} (h : RdAt b s w) {r : Option Nat} (hb : w.grownBy w' r) (hr : some b ≠ r) : RdAt b s w' := by
  unfold RdAt at *
  rw [hb.block b (Array.getElem?_eq_some_iff.1 h).1 hr]; exact h

def RdPost (b : Nat) (v : Value) (s : RdSt) (w : World) (e : Ending) (w' : World) : Prop := e = .returned v ∧ RdAt b s w' ∧ w.grownBy w' (some b)

theorem read_any (s : ByteArray) (w : World) :
    Calls Tryz.prog 35 #[.string s] w fun e w' => e = .returned (.pointer (some ⟨w.heap.size, 0, none⟩)) ∧ RdAt w.heap.size (s.data.toList, 0) w' ∧ Below w.heap.size w w' := by
  go_enter Tryz.func35, Tryz.ntmps35
  go_wp2
  go_ret
  refine ⟨rfl, ?_, (Below.refl _ _).alloc (Nat.le_refl _) _⟩
  unfold RdAt
  rw [str_data]
  exact Go.Deep.blk_alloc_new _ _

theorem fail_any (b : Nat) (s : RdSt) (er : Int) (w : World) (h : RdAt b s w) :
    Calls Tryz.prog 77 #[.pointer (some ⟨b, 0, none⟩), .int .i64 er] w (RdPost b (.tuple #[]) ([], er) w) := by
  have f0 := h.f 0
  have f1 := h.f 1
  have c0 := h.c0
  have c1 := h.c1
  go_enter Tryz.func77, Tryz.ntmps77
  go_wp2
  go_end0
  refine ⟨rfl, ?_, ?_⟩
  · exact RdAt.set1 (h.set0 []) er
  · exact grown_trans (grown_set _ _ _ _) (grown_set _ _ _ _)

set_option maxHeartbeats 400000 in
theorem take_any (b : Nat) (s : RdSt) (n : Int) (w : World) (h : RdAt b s w) (hl : s.1.length ≤ 1000000) :
    Calls Tryz.prog 52 #[.pointer (some ⟨b, 0, none⟩), .int .i64 n] w (RdPost b (.string (str (takeR s n).1)) (takeR s n).2 w) := by
  obtain ⟨l, e⟩ := s
  have f0 := h.f 0
  have f1 := h.f 1
  have c0 := h.c0
  have c1 := h.c1
  have hz : (str l).size = l.length := str_size l
  simp only at c0 c1 hl
  unfold takeR
  by_cases he : e = 0
  · subst he
    rw [if_neg (by simp)]
    by_cases hn : n < 0
    · rw [if_pos hn]
      go_enter Tryz.func52, Tryz.ntmps52
      go_wp2_with (go_at_call 77; refine (fail_any b _ 1 _ h).mono ?_; rintro e w' ⟨rfl, h1, h2⟩)
      go_ret
      exact ⟨rfl, h1, h2⟩
    · rw [if_neg hn]
      by_cases hb : (l.length : Int) < n
      · rw [if_pos hb]
        go_enter Tryz.func52, Tryz.ntmps52
        go_wp2_with (go_at_call 77; refine (fail_any b _ 10 _ h).mono ?_; rintro e w' ⟨rfl, h1, h2⟩)
        go_ret
        exact ⟨rfl, h1, h2⟩
      · rw [if_neg hb]
        obtain ⟨k, rfl⟩ := Int.eq_ofNat_of_zero_le (show 0 ≤ n by omega)
        have ht := str_take l k
        have hd := str_drop l k
        go_enter Tryz.func52, Tryz.ntmps52
        go_wp2
        go_ret
        refine ⟨rfl, ?_, grown_set _ _ _ _⟩
        exact h.set0 (l.drop k)
  · rw [if_pos he]
    have he' : (e == 0) = false := by simpa using he
    have he'' : (e != 0) = true := by simpa using he
    have HE := Lib.hid he
    clear he
    go_enter Tryz.func52, Tryz.ntmps52
    go_wp2
    go_ret
    exact ⟨rfl, h, grown_refl _ _⟩

theorem takeR_len (s : RdSt) (n : Int) : (takeR s n).2.1.length ≤ s.1.length := by
  unfold takeR
  split
  · simp
  · split
    · simp
    · split <;> simp

theorem takeR_le (s : RdSt) (k : Nat) : (takeR s k).1.length ≤ k := by
  unfold takeR
  split
  · simp
  · split
    · simp
    · split
      · simp
      · simp [List.length_take]; omega

set_option maxHeartbeats 400000 in
theorem number_any (b : Nat) (s : RdSt) (k : Nat) (hk : k ≤ 8) (w : World) (h : RdAt b s w) (hl : s.1.length ≤ 1000000) :
    Calls Tryz.prog 78 #[.pointer (some ⟨b, 0, none⟩), .int .i64 k] w (RdPost b (.int .u64 (numR s k).1) (numR s k).2 w) := by
  unfold numR
  have hx := takeR_le s k
  go_enter Tryz.func78, Tryz.ntmps78
  go_wp2_with (go_at_call 52; refine (take_any b s k _ h hl).mono ?_; rintro e w' ⟨rfl, h1, h2⟩)
  obtain ⟨x, hX⟩ : ∃ x, (takeR s k).1 = x := ⟨_, rfl⟩
  rw [hX] at hx ⊢
  have HX := Lib.hid hX
  clear hX h hl
  have hz : (str x).size = x.length := str_size x
  go_wp2
  go_loop [6, 13] (fun n y => ∃ i : Nat, i ≤ x.length ∧ y = .int .i64 i ∧ n = .int .u64 (ofLE (x.take i))) (fun _ y => x.length - (intOf y).toNat)
  case atStart => exact ⟨0, Nat.zero_le _, rfl, rfl⟩
  case round =>
    obtain ⟨i, hi, rfl, rfl⟩ := hrel
    by_cases hlt : i < x.length
    · have hlt' := ofLE_lt (x.take i)
      rw [List.length_take, Nat.min_eq_left (by omega)] at hlt'
      have hB := x[i].toNat_lt
      have HO := Lib.hid (or_step (ofLE (x.take i)) (x[i]).toNat i hlt' (by omega) (by omega))
      have HT := Lib.hid (ofLE_take x i hlt)
      clear hlt' hB
      go_wp2
      go_round
      case rel => exact ⟨i + 1, by omega, by go_num, by rw [HT.out, ← HO.out]; rfl⟩
      case measure => simp [intOf]; omega
    · obtain rfl : i = x.length := by omega
      rw [List.take_length]
      go_wp2
      go_ret
      exact ⟨by rw [HX.out]; rfl, h1, h2⟩

theorem numR_lt (s : RdSt) (k : Nat) : (numR s k).1 < 256 ^ k :=
  Nat.lt_of_lt_of_le (ofLE_lt _) (Nat.pow_le_pow_right (by omega) (takeR_le s k))

theorem numR_len (s : RdSt) (k : Nat) : (numR s k).2.1.length ≤ s.1.length := takeR_len s k

theorem u16r_any (b : Nat) (s : RdSt) (w : World) (h : RdAt b s w) (hl : s.1.length ≤ 1000000) :
    Calls Tryz.prog 54 #[.pointer (some ⟨b, 0, none⟩)] w (RdPost b (.int .u16 (numR s 2).1) (numR s 2).2 w) := by
  have hb : (numR s 2).1 < 65536 := numR_lt s 2
  go_enter Tryz.func54, Tryz.ntmps54
  go_wp2_with (go_at_call 78; refine (number_any b s 2 (by omega) _ h hl).mono ?_; rintro e w' ⟨rfl, h1, h2⟩)
  go_ret
  exact ⟨rfl, h1, h2⟩

theorem u32r_any (b : Nat) (s : RdSt) (w : World) (h : RdAt b s w) (hl : s.1.length ≤ 1000000) :
    Calls Tryz.prog 53 #[.pointer (some ⟨b, 0, none⟩)] w (RdPost b (.int .u32 (numR s 4).1) (numR s 4).2 w) := by
  have hb : (numR s 4).1 < 4294967296 := numR_lt s 4
  go_enter Tryz.func53, Tryz.ntmps53
  go_wp2_with (go_at_call 78; refine (number_any b s 4 (by omega) _ h hl).mono ?_; rintro e w' ⟨rfl, h1, h2⟩)
  go_ret
  exact ⟨rfl, h1, h2⟩

theorem lenR_len (s : RdSt) (m : Nat) : (lenR s m).2.1.length ≤ s.1.length := by
  unfold lenR
  split
  · simp
  · exact numR_len s 4

theorem textR_len (s : RdSt) : (textR s).2.1.length ≤ s.1.length := Nat.le_trans (takeR_len _ _) (lenR_len s _)

/-- What End answers. -/
def endR (s : RdSt) : Int := if s.2 = 0 ∧ s.1 ≠ [] then 7 else s.2

end Go.Proofs.YteompckehokdoaaGreatDoor
namespace Go.Proofs.YteompckehokdoaaGreatDoor
open Go.RowKit

theorem infoStr : (Tryz.prog.info? 9).map (fun i => (i.zero, i.size, i.bytes)) = some (some (.string ⟨#[]⟩), 1, 16) := by kernel_rfl

theorem lenR_le (s : RdSt) : (lenR s 65536).1 ≤ 65536 := by
  unfold lenR
  split
  · simp
  · omega

def ListPost (b : Nat) (s : RdSt) (w : World) (e : Ending) (w' : World) : Prop :=
  ∃ v, e = .returned v ∧ StrAt ((listR s).1.map str) v w' ∧ RdAt b (listR s).2 w' ∧ w.grownBy w' (some b)

/-- A row of the call's own that holds texts is a slice of them. -/
theorem strAt_own {w : World} {B : Nat} {v : Value} {acc : List (List UInt8)} (h : w.ownsRow B 9 1 v acc.length (acc.map fun l => Value.string (str l))) : StrAt (acc.map str) v w := by
  rcases h.2 with ⟨rfl, h0⟩ | ⟨g, cap, cur, rfl, _, hg, _, _, hcs, htake⟩
  · have : acc = [] := List.length_eq_zero_iff.1 h0
    subst this
    exact ⟨none, 0, rfl, Or.inl rfl⟩
  · refine ⟨some ⟨g, 0, none⟩, cap, by simp, Or.inr ⟨g, 0, rfl, fun i hi => ?_⟩⟩
    have hi' : i < acc.length := by simpa using hi
    have := h.cells (g := g) rfl i (.string (str acc[i])) (by simp [hi'])
    have e : (⟨g, 0, none⟩ : Addr).add i = ⟨g, 0 + i, none⟩ := by unfold Addr.add; split <;> simp_all
    rw [e] at this
    rw [this]; simp

/-- .. the list in new memory. -/
def ListOwn (b : Nat) (s : RdSt) (w : World) (e : Ending) (w' : World) : Prop :=
  ∃ v, e = .returned v ∧ w'.ownsRow w.heap.size 9 1 v (listR s).1.length ((listR s).1.map fun l => Value.string (str l)) ∧ RdAt b (listR s).2 w' ∧ w.grownBy w' (some b)

end Go.Proofs.YteompckehokdoaaGreatDoor
namespace Go.Proofs.YteompckehokdoaaGreatDoor
open Go.RowKit

theorem grown_drew (w : World) (n : Nat) (r : Option Nat) : w.grownBy (w.drewN n) r := ⟨rfl, rfl, rfl, Nat.le_refl _, fun _ _ _ => rfl⟩

theorem str_mid (S : List UInt8) (i k : Nat) : (str S).extract i (i + k) = str ((S.drop i).take k) := by
  have h := Lib.extract_eq (str S) i (i + k)
  rw [h, str_list]
  unfold str
  congr 3
  omega

theorem ofLE_drop (x : List UInt8) (j : Nat) (h : j < x.length) : ofLE (x.drop j) = x[j].toNat + 256 * ofLE (x.drop (j + 1)) := by
  rw [List.drop_eq_getElem_cons h]
  rfl

theorem wrap_step (q c : Nat) (hq : q ≤ 72057594037927935) (hc : c < 256) : IntKind.u64.wrap ((q : Int) * 256 + IntKind.u64.wrap (c : Int)) = ((c + 256 * q : Nat) : Int) := by
  rw [IntWalk.u64_in (c : Int) (by omega), IntWalk.u64_in _ (by omega)]
  omega

/-- A reading that gave more than nothing had no error. -/
theorem numR_pos {s : RdSt} {k : Nat} (h : 0 < (numR s k).1) : (numR s k).2.2 = 0 := by
  unfold numR at *
  simp only at *
  unfold takeR at *
  by_cases h0 : s.2 = 0
  · rw [if_neg (by simpa using h0)] at h ⊢
    by_cases h1 : (k : Int) < 0
    · rw [if_pos h1] at h; simp [ofLE] at h
    · rw [if_neg h1] at h ⊢
      by_cases h2 : (s.1.length : Int) < k
      · rw [if_pos h2] at h; simp [ofLE] at h
      · rw [if_neg h2]
  · rw [if_pos h0] at h; simp [ofLE] at h

theorem takeR_none (l : List UInt8) (e n : Int) (he : e ≠ 0) : takeR (l, e) n = ([], (l, e)) := by
  unfold takeR
  rw [if_pos he]

theorem wf_of_le (n : Int) (h0 : 0 ≤ n) (h : n ≤ 4294967295) : (Lit.int .i64 n).wf = true := by
  simp [Lit.wf, IntKind.min, IntKind.max, IntKind.signed, IntKind.bits]; omega

end Go.Proofs.YteompckehokdoaaGreatDoor
