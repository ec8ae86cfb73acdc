/- The walks of pack's reader. The walk of pack's reader's List. The walks of the document's reader. The document's Get. The document's Get: a text of 128 bytes. The document's Pick. -/
import Derived.Test.YtlfmmhalheohdaaDoorRows
import Derived.Test.YtlfmmhalheohdaaDoorGA
import Derived.WalkKit
import Derived.WalkSpells
import Derived.WalkLawsBesides
import Derived.Deep.OwnRows
import Derived.Lib.Hide
import Derived.Lib.Builder
import Derived.Deep.LoopGhost
import Derived.Test.YtlfmmhalheohdaaDoorGB
import Derived.Deep.QuietTactic
import Derived.BigQuiet
import Derived.Test.YtlfmmhalheohdaaDoorGD
import Derived.Deep.CutBlock
namespace Go.Proofs.YtlfmmhalheohdaaDoor
open Go.RowKit

/-- A reader in the block b: what is left, and its error. -/
def RdAt (b : Nat) (s : RdSt) (w : World) : Prop := w.heap[b]? = some (.cells #[.string (str s.1), .int .i64 s.2] 88 (0, 0))

theorem RdAt.c0 {b : Nat} {s : RdSt} {w : World} (h : RdAt b s w) : w.cell? ⟨b, 0, none⟩ = some (.string (str s.1)) := by rw [Lib.cell_of_heap h]; rfl
theorem RdAt.c1 {b : Nat} {s : RdSt} {w : World} (h : RdAt b s w) : w.cell? ⟨b, 1, none⟩ = some (.int .i64 s.2) := by rw [Lib.cell_of_heap h]; rfl
theorem RdAt.f {b : Nat} {s : RdSt} {w : World} (h : RdAt b s w) (j : Nat) : w.frozen? ⟨b, j, none⟩ = false := Lib.frozen_of_heap h j
theorem RdAt.lt {b : Nat} {s : RdSt} {w : World} (h : RdAt b s w) : b < w.heap.size := (Array.getElem?_eq_some_iff.1 h).1
theorem RdAt.set0 {b : Nat} {s : RdSt} {w : World} (h : RdAt b s w) (l : List UInt8) : RdAt b (l, s.2) (w.setCell ⟨b, 0, none⟩ (.string (str l))) := by
  unfold RdAt at *
  simp [World.setCell, Array.getElem?_modify, h]
theorem RdAt.set1 {b : Nat} {s : RdSt} {w : World} (h : RdAt b s w) (e : Int) : RdAt b (s.1, e) (w.setCell ⟨b, 1, none⟩ (.int .i64 e)) := by
  unfold RdAt at *
  simp [World.setCell, Array.getElem?_modify, h]
theorem RdAt.later {b : Nat} {s : RdSt} {w w' : World} (h : RdAt b s w) {r : Option Nat} (hb : w.grownBy w' r) (hr : some b ≠ r) : RdAt b s w' := by
  unfold RdAt at *
  rw [hb.block b (Array.getElem?_eq_some_iff.1 h).1 hr]; exact h

def RdPost (b : Nat) (v : Value) (s : RdSt) (w : World) (e : Ending) (w' : World) : Prop := e = .returned v ∧ RdAt b s w' ∧ w.grownBy w' (some b)

theorem read_any (s : ByteArray) (w : World) :
    Calls Tryd.prog 35 #[.string s] w fun e w' => e = .returned (.pointer (some ⟨w.heap.size, 0, none⟩)) ∧ RdAt w.heap.size (s.data.toList, 0) w' ∧ Below w.heap.size w w' := by
  go_enter Tryd.func35, Tryd.ntmps35
  go_wp2
  go_ret
  refine ⟨rfl, ?_, (Below.refl _ _).alloc (Nat.le_refl _) _⟩
  unfold RdAt
  rw [str_data]
  exact Go.Deep.blk_alloc_new _ _

theorem fail_any (b : Nat) (s : RdSt) (er : Int) (w : World) (h : RdAt b s w) :
    Calls Tryd.prog 76 #[.pointer (some ⟨b, 0, none⟩), .int .i64 er] w (RdPost b (.tuple #[]) ([], er) w) := by
  have f0 := h.f 0
  have f1 := h.f 1
  have c0 := h.c0
  have c1 := h.c1
  go_enter Tryd.func76, Tryd.ntmps76
  go_wp2
  go_end0
  refine ⟨rfl, ?_, ?_⟩
  · exact RdAt.set1 (h.set0 []) er
  · exact grown_trans (grown_set _ _ _ _) (grown_set _ _ _ _)

set_option maxHeartbeats 400000 in
theorem take_any (b : Nat) (s : RdSt) (n : Int) (w : World) (h : RdAt b s w) (hl : s.1.length ≤ 1000000) :
    Calls Tryd.prog 60 #[.pointer (some ⟨b, 0, none⟩), .int .i64 n] w (RdPost b (.string (str (takeR s n).1)) (takeR s n).2 w) := by
  obtain ⟨l, e⟩ := s
  have f0 := h.f 0
  have f1 := h.f 1
  have c0 := h.c0
  have c1 := h.c1
  have hz : (str l).size = l.length := str_size l
  simp only at c0 c1 hl
  unfold takeR
  by_cases he : e = 0
  · subst he
    rw [if_neg (by simp)]
    by_cases hn : n < 0
    · rw [if_pos hn]
      go_enter Tryd.func60, Tryd.ntmps60
      go_wp2_with (go_at_call 76; refine (fail_any b _ 1 _ h).mono ?_; rintro e w' ⟨rfl, h1, h2⟩)
      go_ret
      exact ⟨rfl, h1, h2⟩
    · rw [if_neg hn]
      by_cases hb : (l.length : Int) < n
      · rw [if_pos hb]
        go_enter Tryd.func60, Tryd.ntmps60
        go_wp2_with (go_at_call 76; refine (fail_any b _ 10 _ h).mono ?_; rintro e w' ⟨rfl, h1, h2⟩)
        go_ret
        exact ⟨rfl, h1, h2⟩
      · rw [if_neg hb]
        obtain ⟨k, rfl⟩ := Int.eq_ofNat_of_zero_le (show 0 ≤ n by omega)
        have ht := str_take l k
        have hd := str_drop l k
        go_enter Tryd.func60, Tryd.ntmps60
        go_wp2
        go_ret
        refine ⟨rfl, ?_, grown_set _ _ _ _⟩
        exact h.set0 (l.drop k)
  · rw [if_pos he]
    have he' : (e == 0) = false := by simpa using he
    have he'' : (e != 0) = true := by simpa using he
    have HE := Lib.hid he
    clear he
    go_enter Tryd.func60, Tryd.ntmps60
    go_wp2
    go_ret
    exact ⟨rfl, h, grown_refl _ _⟩

theorem takeR_len (s : RdSt) (n : Int) : (takeR s n).2.1.length ≤ s.1.length := by
  unfold takeR
  split
  · simp
  · split
    · simp
    · split <;> simp

theorem takeR_le (s : RdSt) (k : Nat) : (takeR s k).1.length ≤ k := by
  unfold takeR
  split
  · simp
  · split
    · simp
    · split
      · simp
      · simp [List.length_take]; omega

set_option maxHeartbeats 400000 in
theorem number_any (b : Nat) (s : RdSt) (k : Nat) (hk : k ≤ 8) (w : World) (h : RdAt b s w) (hl : s.1.length ≤ 1000000) :
    Calls Tryd.prog 77 #[.pointer (some ⟨b, 0, none⟩), .int .i64 k] w (RdPost b (.int .u64 (numR s k).1) (numR s k).2 w) := by
  unfold numR
  have hx := takeR_le s k
  go_enter Tryd.func77, Tryd.ntmps77
  go_wp2_with (go_at_call 60; refine (take_any b s k _ h hl).mono ?_; rintro e w' ⟨rfl, h1, h2⟩)
  obtain ⟨x, hX⟩ : ∃ x, (takeR s k).1 = x := ⟨_, rfl⟩
  rw [hX] at hx ⊢
  have HX := Lib.hid hX
  clear hX h hl
  have hz : (str x).size = x.length := str_size x
  go_wp2
  go_loop [6, 13] (fun n y => ∃ i : Nat, i ≤ x.length ∧ y = .int .i64 i ∧ n = .int .u64 (ofLE (x.take i))) (fun _ y => x.length - (intOf y).toNat)
  case atStart => exact ⟨0, Nat.zero_le _, rfl, rfl⟩
  case round =>
    obtain ⟨i, hi, rfl, rfl⟩ := hrel
    by_cases hlt : i < x.length
    · have hlt' := ofLE_lt (x.take i)
      rw [List.length_take, Nat.min_eq_left (by omega)] at hlt'
      have hB := x[i].toNat_lt
      have HO := Lib.hid (or_step (ofLE (x.take i)) (x[i]).toNat i hlt' (by omega) (by omega))
      have HT := Lib.hid (ofLE_take x i hlt)
      clear hlt' hB
      go_wp2
      go_round
      case rel => exact ⟨i + 1, by omega, by go_num, by rw [HT.out, ← HO.out]; rfl⟩
      case measure => simp [intOf]; omega
    · obtain rfl : i = x.length := by omega
      rw [List.take_length]
      go_wp2
      go_ret
      exact ⟨by rw [HX.out]; rfl, h1, h2⟩

theorem numR_lt (s : RdSt) (k : Nat) : (numR s k).1 < 256 ^ k :=
  Nat.lt_of_lt_of_le (ofLE_lt _) (Nat.pow_le_pow_right (by omega) (takeR_le s k))

theorem numR_len (s : RdSt) (k : Nat) : (numR s k).2.1.length ≤ s.1.length := takeR_len s k

theorem u16r_any (b : Nat) (s : RdSt) (w : World) (h : RdAt b s w) (hl : s.1.length ≤ 1000000) :
    Calls Tryd.prog 79 #[.pointer (some ⟨b, 0, none⟩)] w (RdPost b (.int .u16 (numR s 2).1) (numR s 2).2 w) := by
  have hb : (numR s 2).1 < 65536 := numR_lt s 2
  go_enter Tryd.func79, Tryd.ntmps79
  go_wp2_with (go_at_call 77; refine (number_any b s 2 (by omega) _ h hl).mono ?_; rintro e w' ⟨rfl, h1, h2⟩)
  go_ret
  exact ⟨rfl, h1, h2⟩

theorem u32r_any (b : Nat) (s : RdSt) (w : World) (h : RdAt b s w) (hl : s.1.length ≤ 1000000) :
    Calls Tryd.prog 78 #[.pointer (some ⟨b, 0, none⟩)] w (RdPost b (.int .u32 (numR s 4).1) (numR s 4).2 w) := by
  have hb : (numR s 4).1 < 4294967296 := numR_lt s 4
  go_enter Tryd.func78, Tryd.ntmps78
  go_wp2_with (go_at_call 77; refine (number_any b s 4 (by omega) _ h hl).mono ?_; rintro e w' ⟨rfl, h1, h2⟩)
  go_ret
  exact ⟨rfl, h1, h2⟩

theorem u64r_any (b : Nat) (s : RdSt) (w : World) (h : RdAt b s w) (hl : s.1.length ≤ 1000000) :
    Calls Tryd.prog 61 #[.pointer (some ⟨b, 0, none⟩)] w (RdPost b (.int .u64 (numR s 8).1) (numR s 8).2 w) := by
  go_enter Tryd.func61, Tryd.ntmps61
  go_wp2_with (go_at_call 77; refine (number_any b s 8 (by omega) _ h hl).mono ?_; rintro e w' ⟨rfl, h1, h2⟩)
  go_ret
  exact ⟨rfl, h1, h2⟩

theorem lenR_len (s : RdSt) (m : Nat) : (lenR s m).2.1.length ≤ s.1.length := by
  unfold lenR
  split
  · simp
  · exact numR_len s 4

theorem textR_len (s : RdSt) : (textR s).2.1.length ≤ s.1.length := Nat.le_trans (takeR_len _ _) (lenR_len s _)

/-- What End answers. -/
def endR (s : RdSt) : Int := if s.2 = 0 ∧ s.1 ≠ [] then 7 else s.2

end Go.Proofs.YtlfmmhalheohdaaDoor
namespace Go.Proofs.YtlfmmhalheohdaaDoor
open Go.RowKit

theorem infoStr : (Tryd.prog.info? 9).map (fun i => (i.zero, i.size, i.bytes)) = some (some (.string ⟨#[]⟩), 1, 16) := by kernel_rfl

theorem lenR_le (s : RdSt) : (lenR s 65536).1 ≤ 65536 := by
  unfold lenR
  split
  · simp
  · omega

def ListPost (b : Nat) (s : RdSt) (w : World) (e : Ending) (w' : World) : Prop :=
  ∃ v, e = .returned v ∧ StrAt ((listR s).1.map str) v w' ∧ RdAt b (listR s).2 w' ∧ w.grownBy w' (some b)

/-- A row of the call's own that holds texts is a slice of them. -/
theorem strAt_own {w : World} {B : Nat} {v : Value} {acc : List (List UInt8)} (h : w.ownsRow B 9 1 v acc.length (acc.map fun l => Value.string (str l))) : StrAt (acc.map str) v w := by
  rcases h.2 with ⟨rfl, h0⟩ | ⟨g, cap, cur, rfl, _, hg, _, _, hcs, htake⟩
  · have : acc = [] := List.length_eq_zero_iff.1 h0
    subst this
    exact ⟨none, 0, rfl, Or.inl rfl⟩
  · refine ⟨some ⟨g, 0, none⟩, cap, by simp, Or.inr ⟨g, 0, rfl, fun i hi => ?_⟩⟩
    have hi' : i < acc.length := by simpa using hi
    have := h.cells (g := g) rfl i (.string (str acc[i])) (by simp [hi'])
    have e : (⟨g, 0, none⟩ : Addr).add i = ⟨g, 0 + i, none⟩ := by unfold Addr.add; split <;> simp_all
    rw [e] at this
    rw [this]; simp

/-- .. the list in new memory. -/
def ListOwn (b : Nat) (s : RdSt) (w : World) (e : Ending) (w' : World) : Prop :=
  ∃ v, e = .returned v ∧ w'.ownsRow w.heap.size 9 1 v (listR s).1.length ((listR s).1.map fun l => Value.string (str l)) ∧ RdAt b (listR s).2 w' ∧ w.grownBy w' (some b)

end Go.Proofs.YtlfmmhalheohdaaDoor
namespace Go.Proofs.YtlfmmhalheohdaaDoor
open Go.RowKit

/-- The document's reader in the block b: its bytes, a place, an error. -/
def RfIn (b : Nat) (S : List UInt8) (i : Nat) (e : Int) (w : World) : Prop := w.heap[b]? = some (.cells #[.string (str S), .int .i64 i, .int .i64 e] 75 (0, 0))

/-- .. with what is left of its bytes. -/
def RfAt (b : Nat) (s : RdSt) (w : World) : Prop := ∃ S i, RfIn b S i s.2 w ∧ S.drop i = s.1 ∧ i ≤ S.length ∧ S.length ≤ 1000000

theorem RfIn.c0 {b : Nat} {S : List UInt8} {i : Nat} {e : Int} {w : World} (h : RfIn b S i e w) : w.cell? ⟨b, 0, none⟩ = some (.string (str S)) := by rw [Lib.cell_of_heap h]; rfl
theorem RfIn.c1 {b : Nat} {S : List UInt8} {i : Nat} {e : Int} {w : World} (h : RfIn b S i e w) : w.cell? ⟨b, 1, none⟩ = some (.int .i64 i) := by rw [Lib.cell_of_heap h]; rfl
theorem RfIn.c2 {b : Nat} {S : List UInt8} {i : Nat} {e : Int} {w : World} (h : RfIn b S i e w) : w.cell? ⟨b, 2, none⟩ = some (.int .i64 e) := by rw [Lib.cell_of_heap h]; rfl
theorem RfIn.f {b : Nat} {S : List UInt8} {i : Nat} {e : Int} {w : World} (h : RfIn b S i e w) (j : Nat) : w.frozen? ⟨b, j, none⟩ = false := Lib.frozen_of_heap h j
theorem RfIn.lt {b : Nat} {S : List UInt8} {i : Nat} {e : Int} {w : World} (h : RfIn b S i e w) : b < w.heap.size := (Array.getElem?_eq_some_iff.1 h).1
theorem RfIn.set1 {b : Nat} {S : List UInt8} {i : Nat} {e : Int} {w : World} (h : RfIn b S i e w) (j : Nat) : RfIn b S j e (w.setCell ⟨b, 1, none⟩ (.int .i64 j)) := by
  unfold RfIn at *
  simp [World.setCell, Array.getElem?_modify, h]
theorem RfIn.set2 {b : Nat} {S : List UInt8} {i : Nat} {e : Int} {w : World} (h : RfIn b S i e w) (e' : Int) : RfIn b S i e' (w.setCell ⟨b, 2, none⟩ (.int .i64 e')) := by
  unfold RfIn at *
  simp [World.setCell, Array.getElem?_modify, h]
theorem RfIn.drew {b : Nat} {S : List UInt8} {i : Nat} {e : Int} {w : World} (h : RfIn b S i e w) (n : Nat) : RfIn b S i e (w.drewN n) := h
theorem RfAt.later {b : Nat} {s : RdSt} {w w' : World} (h : RfAt b s w) {r : Option Nat} (hb : w.grownBy w' r) (hr : some b ≠ r) : RfAt b s w' := by
  obtain ⟨S, i, h1, h2⟩ := h
  refine ⟨S, i, ?_, h2⟩
  unfold RfIn at *
  rw [hb.block b (Array.getElem?_eq_some_iff.1 h1).1 hr]; exact h1
theorem RfAt.lt {b : Nat} {s : RdSt} {w : World} (h : RfAt b s w) : b < w.heap.size := by obtain ⟨_, _, h, _⟩ := h; exact h.lt
theorem RfAt.len {b : Nat} {s : RdSt} {w : World} (h : RfAt b s w) : s.1.length ≤ 1000000 := by
  obtain ⟨S, i, _, h2, _, h4⟩ := h
  rw [← h2, List.length_drop]
  omega
theorem grown_drew (w : World) (n : Nat) (r : Option Nat) : w.grownBy (w.drewN n) r := ⟨rfl, rfl, rfl, Nat.le_refl _, fun _ _ _ => rfl⟩

def RfPost (b : Nat) (v : Value) (s : RdSt) (w : World) (e : Ending) (w' : World) : Prop := e = .returned v ∧ RfAt b s w' ∧ w.grownBy w' (some b)

theorem rfail_any (b : Nat) (S : List UInt8) (i : Nat) (er : Int) (w : World) (h : RfIn b S i 0 w) (hS : S.length ≤ 1000000) :
    Calls Tryd.prog 66 #[.pointer (some ⟨b, 0, none⟩), .int .i64 er] w (RfPost b (.tuple #[]) ([], er) w) := by
  have f1 := h.f 1
  have f2 := h.f 2
  have c0 := h.c0
  have c1 := h.c1
  have c2 := h.c2
  have hz : (str S).size = S.length := str_size S
  go_enter Tryd.func66, Tryd.ntmps66
  go_wp2
  go_end0
  refine ⟨rfl, ⟨S, S.length, ?_, by simp, Nat.le_refl _, hS⟩, ?_⟩
  · exact RfIn.set1 (h.set2 er) S.length
  · exact grown_trans (grown_set _ _ _ _) (grown_set _ _ _ _)

/-- An error that is there stays. -/
theorem rfail_no (b : Nat) (s : RdSt) (er : Int) (w : World) (h : RfAt b s w) (he : (s.2 == 0) = false) :
    Calls Tryd.prog 66 #[.pointer (some ⟨b, 0, none⟩), .int .i64 er] w (RfPost b (.tuple #[]) s w) := by
  obtain ⟨S, i, h1, h2⟩ := h
  have c2 := h1.c2
  go_enter Tryd.func66, Tryd.ntmps66
  go_wp2
  go_end0
  exact ⟨rfl, ⟨S, i, h1, h2⟩, grown_refl _ _⟩

theorem str_mid (S : List UInt8) (i k : Nat) : (str S).extract i (i + k) = str ((S.drop i).take k) := by
  have h := Lib.extract_eq (str S) i (i + k)
  rw [h, str_list]
  unfold str
  congr 3
  omega

set_option maxHeartbeats 1000000 in
theorem rtake_any (b : Nat) (s : RdSt) (n : Int) (hn : (Lit.int .i64 n).wf = true) (w : World) (h : RfAt b s w) :
    Calls Tryd.prog 40 #[.pointer (some ⟨b, 0, none⟩), .int .i64 n] w (RfPost b (.string (str (takeR s n).1)) (takeR s n).2 w) := by
  obtain ⟨l, e⟩ := s
  obtain ⟨S, i, h, hd, hi, hS⟩ := h
  simp only at h hd
  have f1 := h.f 1
  have c0 := h.c0
  have c1 := h.c1
  have c2 := h.c2
  have hz : (str S).size = S.length := str_size S
  have hl : l.length = S.length - i := by rw [← hd, List.length_drop]
  unfold takeR
  by_cases he : e = 0
  · subst he
    rw [if_neg (by simp)]
    by_cases hn0 : n < 0
    · rw [if_pos hn0]
      go_enter Tryd.func40, Tryd.ntmps40
      go_wp2_with (go_at_call 66; refine (rfail_any b S i 1 _ h hS).mono ?_; rintro e w' ⟨rfl, h1, h2⟩)
      go_ret
      exact ⟨rfl, h1, h2⟩
    · rw [if_neg hn0]
      by_cases hb : (l.length : Int) < n
      · rw [if_pos hb]
        have hb' : (S.length : Int) - (i : Int) < n := by omega
        go_enter Tryd.func40, Tryd.ntmps40
        go_wp2
        go_quiet (fail)
        go_wp2_with (go_at_call 66; refine (rfail_any b S i 10 _ (h.drew _) hS).mono ?_; rintro e w' ⟨rfl, h1, h2⟩)
        go_ret
        exact ⟨rfl, h1, grown_trans (grown_drew _ _ _) h2⟩
      · rw [if_neg hb]
        obtain ⟨k, rfl⟩ := Int.eq_ofNat_of_zero_le (show 0 ≤ n by omega)
        have hb' : ¬ (S.length : Int) - (i : Int) < k := by omega
        have hm := str_mid S i k
        have hik : i + k ≤ S.length := by omega
        go_enter Tryd.func40, Tryd.ntmps40
        go_wp2
        go_quiet (fail)
        go_wp2
        go_quiet (fail)
        go_wp2
        go_ret
        refine ⟨?_, ⟨S, i + k, ?_, ?_, hik, hS⟩, ?_⟩
        · show Ending.returned (.string ((str S).extract i (i + k))) = _
          rw [hm, hd]; rfl
        · have e : (i : Int) + (k : Int) = ((i + k : Nat) : Int) := by omega
          rw [e]
          exact RfIn.set1 (h.drew _) (i + k)
        · show S.drop (i + k) = l.drop k
          rw [← hd, List.drop_drop]
        · exact grown_trans (grown_drew _ _ _) (grown_set _ _ _ _)
  · rw [if_pos he]
    have he' : (e == 0) = false := by simpa using he
    have he'' : (e != 0) = true := by simpa using he
    have HE := Lib.hid he
    clear he
    go_enter Tryd.func40, Tryd.ntmps40
    go_wp2
    go_ret
    exact ⟨rfl, ⟨S, i, h, hd, hi, hS⟩, grown_refl _ _⟩

theorem ofLE_drop (x : List UInt8) (j : Nat) (h : j < x.length) : ofLE (x.drop j) = x[j].toNat + 256 * ofLE (x.drop (j + 1)) := by
  rw [List.drop_eq_getElem_cons h]
  rfl

theorem wrap_step (q c : Nat) (hq : q ≤ 72057594037927935) (hc : c < 256) : IntKind.u64.wrap ((q : Int) * 256 + IntKind.u64.wrap (c : Int)) = ((c + 256 * q : Nat) : Int) := by
  rw [IntWalk.u64_in (c : Int) (by omega), IntWalk.u64_in _ (by omega)]
  omega

set_option maxHeartbeats 1000000 in
theorem rnum_any (b : Nat) (s : RdSt) (k : Nat) (hk : k ≤ 8) (w : World) (h : RfAt b s w) :
    Calls Tryd.prog 41 #[.pointer (some ⟨b, 0, none⟩), .int .i64 k] w (RfPost b (.int .u64 (numR s k).1) (numR s k).2 w) := by
  unfold numR
  have hx := takeR_le s k
  have hkw : (Lit.int .i64 (k : Int)).wf = true := by
    simp [Lit.wf, IntKind.min, IntKind.max, IntKind.signed, IntKind.bits]; omega
  have CT := rtake_any b s k hkw w h
  clear hkw h
  obtain ⟨x, hX⟩ : ∃ x, (takeR s k).1 = x := ⟨_, rfl⟩
  rw [hX] at hx CT ⊢
  clear hX
  have hz : (str x).size = x.length := str_size x
  go_enter Tryd.func41, Tryd.ntmps41
  go_wp2_with (go_at_call 40; refine CT.mono ?_; rintro e w' ⟨rfl, h1, h2⟩)
  clear CT
  go_loop [6, 7] (fun n y => ∃ j : Nat, j ≤ x.length ∧ y = .int .i64 ((j : Int) - 1) ∧ n = .int .u64 (ofLE (x.drop j))) (fun _ y => (intOf y + 1).toNat)
  case atStart => exact ⟨x.length, Nat.le_refl _, rfl, by simp [ofLE]⟩
  case round =>
    obtain ⟨j, hj, rfl, rfl⟩ := hrel
    cases j with
    | zero =>
      go_wp2
      go_ret
      exact ⟨rfl, h1, h2⟩
    | succ j =>
      have hj' : j < x.length := by omega
      have ho := ofLE_drop x j hj'
      have hlt := ofLE_lt (x.drop (j + 1))
      rw [List.length_drop] at hlt
      have hp : 256 ^ (x.length - (j + 1)) ≤ 256 ^ 7 := Nat.pow_le_pow_right (by omega) (by omega)
      have hB := x[j].toNat_lt
      have e1 : ((j + 1 : Nat) : Int) - 1 = (j : Int) := by omega
      have hbd : ofLE (x.drop (j + 1)) ≤ 72057594037927935 := by omega
      obtain ⟨q, hq⟩ : ∃ q, ofLE (x.drop (j + 1)) = q := ⟨_, rfl⟩
      rw [hq] at ho hbd ⊢
      have HO := Lib.hid ho
      clear ho hlt hp hq
      rw [e1]
      have HW := Lib.hid (wrap_step q (x[j]).toNat hbd hB)
      clear hB
      go_wp2
      go_round
      case rel => exact ⟨j, by omega, rfl, by rw [HO.out, ← HW.out]; rfl⟩
      case measure => simp [intOf]

theorem rnum4 (b : Nat) (s : RdSt) (w : World) (h : RfAt b s w) : Calls Tryd.prog 41 #[.pointer (some ⟨b, 0, none⟩), .int .i64 4] w (RfPost b (.int .u64 (numR s 4).1) (numR s 4).2 w) := rnum_any b s 4 (by omega) w h

/-- A reading that gave more than nothing had no error. -/
theorem numR_pos {s : RdSt} {k : Nat} (h : 0 < (numR s k).1) : (numR s k).2.2 = 0 := by
  unfold numR at *
  simp only at *
  unfold takeR at *
  by_cases h0 : s.2 = 0
  · rw [if_neg (by simpa using h0)] at h ⊢
    by_cases h1 : (k : Int) < 0
    · rw [if_pos h1] at h; simp [ofLE] at h
    · rw [if_neg h1] at h ⊢
      by_cases h2 : (s.1.length : Int) < k
      · rw [if_pos h2] at h; simp [ofLE] at h
      · rw [if_neg h2]
  · rw [if_pos h0] at h; simp [ofLE] at h

theorem rfail_at (b : Nat) (s : RdSt) (er : Int) (w : World) (h : RfAt b s w) (he : s.2 = 0) :
    Calls Tryd.prog 66 #[.pointer (some ⟨b, 0, none⟩), .int .i64 er] w (RfPost b (.tuple #[]) ([], er) w) := by
  obtain ⟨l, e⟩ := s
  simp only at he
  subst he
  obtain ⟨S, i, h1, _, _, hS⟩ := h
  exact rfail_any b S i er w h1 hS

theorem takeR_none (l : List UInt8) (e n : Int) (he : e ≠ 0) : takeR (l, e) n = ([], (l, e)) := by
  unfold takeR
  rw [if_pos he]

theorem wf_of_le (n : Int) (h0 : 0 ≤ n) (h : n ≤ 4294967295) : (Lit.int .i64 n).wf = true := by
  simp [Lit.wf, IntKind.min, IntKind.max, IntKind.signed, IntKind.bits]; omega

end Go.Proofs.YtlfmmhalheohdaaDoor
namespace Go.Proofs.YtlfmmhalheohdaaDoor
open Go.RowKit

theorem results_cell_tmp_rowS {P : Program} {fn : Func} {p u : Tmp} {ty : TypeId} (h : fn.results = #[.cell p ty, .tmp u]) (tmps : Array Value) (w : World) (g : Nat) (t : TypeId) (cs : Array Value) (fr : Nat × Nat) (d : TypeDesc)
    (hp : tmps.getD p undef = .pointer (some ⟨g, 0, none⟩)) (hg : w.heap[g]? = some (.cells cs t fr))
    (hu : P.underlying ty = some d) (hd : (match d with | .struct _ | .array _ _ => true | _ => false) = true) (hi : (P.info? ty).map (·.size) = some cs.size) :
    (results fn tmps).run P w = .ok (.tuple #[.agg cs, tmps.getD u undef]) w := by
  rw [results_cell_tmp h, hp]
  simp [asAddr, run_loadVar_row w g t ty cs fr d hg hu hd hi, Result.andThen]

theorem text_neS {a b : ByteArray} (h : a ≠ b) : (a.toList == b.toList) = false := by
  rw [Lib.toList_data, Lib.toList_data, beq_eq_false_iff_ne]
  exact fun e => h (ByteArray.ext (Array.ext' e))

theorem takeR_val (l : List UInt8) (n : Nat) (h : n ≤ l.length) : takeR (l, 0) (n : Int) = (l.take n, (l.drop n, 0)) := by
  unfold takeR
  simp only
  rw [if_neg (by simp), if_neg (by omega), if_neg (by omega), Int.toNat_natCast]
theorem fieldN_two (t : List UInt8) (i : Nat) (h : i + 1 < t.length) : fieldN t i 2 = (t[i]'(by omega)).toNat + 256 * t[i + 1].toNat := by
  unfold fieldN
  rw [List.drop_eq_getElem_cons (by omega : i < t.length), List.drop_eq_getElem_cons h]
  rfl

/-- The document's reader, at a place of a text. -/
def RdS (b : Nat) (S : List UInt8) (i : Nat) (w : World) : Prop := RfAt b (S.drop i, 0) w
theorem RdS.new (w : World) (S : List UInt8) (h : S.length ≤ 1000000) : RdS w.heap.size S 0 (w.alloc (.cells #[.string (str S), .int .i64 0, .int .i64 0] 75)) :=
  ⟨S, 0, heap_alloc_last w _, rfl, Nat.zero_le _, h⟩
theorem rtakeS {b : Nat} {S : List UInt8} {i : Nat} {w : World} (h : RdS b S i w) (k : Nat) (z : Int) (hz : z = k) (hk : i + k ≤ S.length) (hs : S.length ≤ 1000000) :
    Calls Tryd.prog 40 #[.pointer (some ⟨b, 0, none⟩), .int .i64 z] w fun e w' => (∃ x, e = .returned x) ∧ RdS b S (i + k) w' ∧ w.grownBy w' (some b) := by
  subst hz
  refine (rtake_any b (S.drop i, 0) k (by simp [Lit.wf, IntKind.min, IntKind.max, IntKind.signed, IntKind.bits]; omega) w h).mono ?_
  rintro e w' ⟨rfl, h1, h2⟩
  rw [takeR_val _ _ (by rw [List.length_drop]; omega)] at h1
  refine ⟨⟨_, rfl⟩, ?_, h2⟩
  unfold RdS
  rw [← List.drop_drop]
  exact h1
theorem rnumS {b : Nat} {S : List UInt8} {i : Nat} {w : World} (h : RdS b S i w) (k : Nat) (z : Int) (hz : z = k) (hk8 : k ≤ 8) (hk : i + k ≤ S.length) :
    Calls Tryd.prog 41 #[.pointer (some ⟨b, 0, none⟩), .int .i64 z] w fun e w' => e = .returned (.int .u64 (fieldN S i k : Nat)) ∧ RdS b S (i + k) w' ∧ w.grownBy w' (some b) := by
  subst hz
  refine (rnum_any b (S.drop i, 0) k hk8 w h).mono ?_
  rintro e w' ⟨rfl, h1, h2⟩
  unfold numR at h1 ⊢
  rw [takeR_val _ _ (by rw [List.length_drop]; omega)] at h1
  rw [takeR_val _ _ (by rw [List.length_drop]; omega)]
  refine ⟨rfl, ?_, h2⟩
  unfold RdS
  rw [← List.drop_drop]
  exact h1

def zeroC : Array Value := #[.int .u64 0, .int .i64 0, .int .i64 0, .int .i64 0, .int .i64 0, .slice none 0 0]
theorem zero_at (w w' : World) : SbNew Sb.zero (.agg zeroC) w w' := ⟨.slice none 0 0, rfl, RunsAt.nil w' 0, Sb.zero_wf, fun a n c e => by simp at e⟩

set_option maxRecDepth 100000 in
set_option maxHeartbeats 1000000 in
/-- A text of another length. -/
theorem rget11_short (t : ByteArray) (h : t.size ≠ 128) (w : World) :
    Calls Tryd.prog 17 #[.string t] w fun e w' => e = .returned (.tuple #[.agg zeroC, .bool false]) ∧ Below w.heap.size w w' := by
  have b1 : ((t.size : Int) != 128) = true := by rw [bne_iff_ne]; omega
  unfold zeroC
  clear h
  go_enter Tryd.func17, Tryd.ntmps17
  go_wp2
  refine bodyPost_ret (results_cell_tmp_rowS Tryd.results17 _ _ w.heap.size 25 #[.int .u64 0, .int .i64 0, .int .i64 0, .int .i64 0, .int .i64 0, .slice none 0 0] (0, 0) _ rfl (heap_alloc_last w _) Tryd.underlying25 rfl infoSb) rfl ⟨rfl, ?_⟩
  exact box_below _ _

/-- What lies while a sector is read. -/
structure GI (w0 : World) (b2 b4 b5 : Nat) (S : List UInt8) (i : Nat) (C : Array Value) (w : World) : Prop where
  kept : Kept w0 w
  row2 : w.heap[b2]? = some (.cells zeroC 25 (0, 0))
  rd : RdS b4 S i w
  row5 : w.heap[b5]? = some (.cells C 25 (0, 0))
  h0 : w0.heap.size ≤ b2 ∧ w0.heap.size ≤ b4 ∧ w0.heap.size ≤ b5
  hne : b2 ≠ b4 ∧ b2 ≠ b5 ∧ b4 ≠ b5

theorem RdS.stay {b : Nat} {S : List UInt8} {i : Nat} {w w' : World} (h : RdS b S i w) (hk : w'.heap[b]? = w.heap[b]?) : RdS b S i w' := by
  obtain ⟨T, j, h1, h2⟩ := h
  exact ⟨T, j, by unfold RfIn at *; rw [hk]; exact h1, h2⟩
theorem GI.read {w0 : World} {b2 b4 b5 : Nat} {S : List UInt8} {i j : Nat} {C : Array Value} {w w' : World} (h : GI w0 b2 b4 b5 S i C w) (hr : RdS b4 S j w') (hg : w.grownBy w' (some b4)) : GI w0 b2 b4 b5 S j C w' where
  kept := below_touch h.kept hg h.kept.size h.h0.2.1
  row2 := by rw [hg.block b2 (Array.getElem?_eq_some_iff.1 h.row2).1 (fun e => h.hne.1 (Option.some.inj e))]; exact h.row2
  rd := hr
  row5 := by rw [hg.block b5 (Array.getElem?_eq_some_iff.1 h.row5).1 (fun e => h.hne.2.2 (Option.some.inj e).symm)]; exact h.row5
  h0 := h.h0
  hne := h.hne
theorem GI.set {w0 : World} {b2 b4 b5 : Nat} {S : List UInt8} {i : Nat} {C : Array Value} {w : World} (h : GI w0 b2 b4 b5 S i C w) (k : Nat) (v : Value) : GI w0 b2 b4 b5 S i (C.setIfInBounds k v) (w.setCell ⟨b5, k, none⟩ v) where
  kept := below_touch h.kept (grown_set _ _ _ _) h.kept.size h.h0.2.2
  row2 := by rw [heap_setCell_other _ _ _ _ h.hne.2.1]; exact h.row2
  rd := h.rd.stay (heap_setCell_other _ _ _ _ h.hne.2.2)
  row5 := heap_setCell_same _ _ _ _ _ _ h.row5
  h0 := h.h0
  hne := h.hne

end Go.Proofs.YtlfmmhalheohdaaDoor
namespace Go.Proofs.YtlfmmhalheohdaaDoor
open Go.RowKit

theorem run_flat_run (w : World) (a b : Int) : FlatAt 2 1 (runC [(a, b)]) (.slice (some ⟨w.heap.size, 0, none⟩) 1 1) (w.alloc (.cells #[.int .i64 a, .int .i64 b] 48)) :=
  FlatAt.new w 48 2 1 1 #[.int .i64 a, .int .i64 b] rfl (by intro x hx; simp at hx; rcases hx with rfl | rfl <;> rfl)
theorem infoRn : (Tryd.prog.info? 48).map (fun i => (i.zero, i.size, i.bytes)) = some (some (.agg #[.int .i64 0, .int .i64 0]), 2, 16) := by kernel_rfl


def rowB (q0 : Nat) (q1 q2 q3 q4 : Int) (tv : Value) : Array Value := #[.int .u64 q0, .int .i64 q1, .int .i64 q2, .int .i64 q3, .int .i64 q4, tv]
theorem set6_row {w : World} {g : Nat} {T : TypeId} {x0 x1 x2 x3 x4 x5 : Value} (h : w.heap[g]? = some (.cells #[x0, x1, x2, x3, x4, x5] T (0, 0))) (y0 y1 y2 y3 y4 y5 : Value) :
    ((((((w.setCell ⟨g, 0, none⟩ y0).setCell ⟨g, 1, none⟩ y1).setCell ⟨g, 2, none⟩ y2).setCell ⟨g, 3, none⟩ y3).setCell ⟨g, 4, none⟩ y4).setCell ⟨g, 5, none⟩ y5).heap[g]? = some (.cells #[y0, y1, y2, y3, y4, y5] T (0, 0)) :=
  heap_setCell_same _ _ _ _ _ _ (heap_setCell_same _ _ _ _ _ _ (heap_setCell_same _ _ _ _ _ _ (heap_setCell_same _ _ _ _ _ _ (heap_setCell_same _ _ _ _ _ _ (heap_setCell_same _ _ _ _ _ _ h)))))
theorem below_set6 {w0 w : World} {g : Nat} (h : Kept w0 w) (hg : w0.heap.size ≤ g) (y0 y1 y2 y3 y4 y5 : Value) :
    Kept w0 ((((((w.setCell ⟨g, 0, none⟩ y0).setCell ⟨g, 1, none⟩ y1).setCell ⟨g, 2, none⟩ y2).setCell ⟨g, 3, none⟩ y3).setCell ⟨g, 4, none⟩ y4).setCell ⟨g, 5, none⟩ y5) :=
  ButBy.kept (Bs := fun k => k = g) (((((((but_refl (fun k => k = g) w).setCell g 0 y0 rfl).setCell g 1 y1 rfl).setCell g 2 y2 rfl).setCell g 3 y3 rfl).setCell g 4 y4 rfl).setCell g 5 y5 rfl) (fun k hk => by rw [hk]; exact hg) h h.size

theorem own_set6 {w : World} {base g n : Nat} {T : TypeId} {v : Value} {xs : List Value} (h : w.ownsRow base T 2 v n xs) (hg : g < base) (y0 y1 y2 y3 y4 y5 : Value) :
    ((((((w.setCell ⟨g, 0, none⟩ y0).setCell ⟨g, 1, none⟩ y1).setCell ⟨g, 2, none⟩ y2).setCell ⟨g, 3, none⟩ y3).setCell ⟨g, 4, none⟩ y4).setCell ⟨g, 5, none⟩ y5).ownsRow base T 2 v n xs :=
  own_stay h fun m hm => by
    have hne : m ≠ g := by have := (h.lt m hm).1; omega
    rw [heap_setCell_other _ _ _ _ hne, heap_setCell_other _ _ _ _ hne, heap_setCell_other _ _ _ _ hne, heap_setCell_other _ _ _ _ hne, heap_setCell_other _ _ _ _ hne, heap_setCell_other _ _ _ _ hne]

/-- A run is appended to a superblock's. -/
theorem app_step {w wr w6 : World} {base b5 i n' : Nat} {C : Value → Array Value} {tv v' : Value} {xs xs' : List Value} {XA : Array Value} {Wd : World} (hd : Kept wr Wd)
    (hk : Kept w wr) (hb : base ≤ wr.heap.size) (hr2 : wr.heap[w.heap.size]? = some (.cells zeroC 25 (0, 0))) (hr5 : wr.heap[b5]? = some (.cells (C tv) 25 (0, 0)))
    (ho : wr.ownsRow base 48 2 tv i xs) (hbs : w.heap.size < base ∧ b5 < base ∧ w.heap.size ≤ b5 ∧ w.heap.size ≠ b5) (hC : (C tv).setIfInBounds 5 v' = C v')
    (ho6 : w6.ownsRow base 48 2 v' n' xs') (hg : (Wd.alloc (.cells XA 48)).grownBy w6 tv.ownBlock) :
    w6.heap[b5]? = some (.cells (C tv) 25 (0, 0)) ∧ Kept w (w6.setCell ⟨b5, 5, none⟩ v') ∧ base ≤ (w6.setCell ⟨b5, 5, none⟩ v').heap.size ∧ (w6.setCell ⟨b5, 5, none⟩ v').heap[w.heap.size]? = some (.cells zeroC 25 (0, 0)) ∧
    (w6.setCell ⟨b5, 5, none⟩ v').heap[b5]? = some (.cells (C v') 25 (0, 0)) ∧ (w6.setCell ⟨b5, 5, none⟩ v').ownsRow base 48 2 v' n' xs' := by
  have hka : Kept wr (Wd.alloc (.cells XA 48)) := hd.then (box_below _ _)
  have hb6 : ButBy (fun m => tv.ownBlock = some m) wr w6 := ⟨hg.os.trans hka.os, hg.tape.trans hka.tape, hg.output.trans hka.output, Nat.le_trans hka.size hg.size, fun m hm hn => (hg.block m (Nat.lt_of_lt_of_le hm hka.size) (fun e => hn e.symm)).trans (hka.block m hm)⟩
  have hl2 := (Array.getElem?_eq_some_iff.1 hr2).1
  have hl5 := (Array.getElem?_eq_some_iff.1 hr5).1
  have nb : ∀ m, tv.ownBlock = some m → base ≤ m := fun m hm => (ho.lt m hm).1
  have nb' : ∀ m, v'.ownBlock = some m → base ≤ m := fun m hm => (ho6.lt m hm).1
  have h5 : w6.heap[b5]? = some (.cells (C tv) 25 (0, 0)) := by rw [hb6.block b5 hl5 (fun e => by have := nb _ e; omega)]; exact hr5
  have h2 : w6.heap[w.heap.size]? = some (.cells zeroC 25 (0, 0)) := by rw [hb6.block _ hl2 (fun e => by have := nb _ e; omega)]; exact hr2
  have hk6 : Kept w w6 := ButBy.kept hb6 (fun m hm => by have := nb m hm; omega) hk hk.size
  refine ⟨h5, below_touch hk6 (grown_set _ _ _ _) hk6.size hbs.2.2.1, ?_, ?_, ?_, ?_⟩
  · have := hb6.size
    show base ≤ (w6.heap.modify _ _).size
    rw [Array.size_modify]; omega
  · rw [heap_setCell_other _ _ _ _ hbs.2.2.2]; exact h2
  · have := heap_setCell_same w6 b5 5 (C tv) 25 v' h5
    rw [hC] at this; exact this
  · exact own_stay ho6 (fun m hm => heap_setCell_other _ _ _ _ (by show m ≠ b5; have := nb' m hm; omega))

theorem fieldN_two2 (t : List UInt8) (i a b : Nat) (ha : a = i) (hb : b = i + 1) (h : b < t.length) : fieldN t i 2 = (t[a]'(by omega)).toNat + 256 * t[b].toNat := by
  subst ha hb
  exact fieldN_two t a h

set_option maxRecDepth 100000 in
set_option maxHeartbeats 16000000 in
theorem rget11_full (t : ByteArray) (h : t.size = 128) (w : World) :
    Calls Tryd.prog 17 #[.string t] w fun e w' => (∃ v, e = .returned (.tuple #[v, .bool (getS t.data.toList).isSome]) ∧ SbNew (getD t.data.toList) v w w') ∧ Below w.heap.size w w' := by
  obtain ⟨S, hS⟩ : ∃ S, S = t.data.toList := ⟨_, rfl⟩
  have hSl : S.length = 128 := by rw [hS, data_len]; exact h
  have hts : t = str S := by rw [hS, str_data]
  obtain ⟨ok, hok⟩ : ∃ ok, ok = (getS S).isSome := ⟨_, rfl⟩
  obtain ⟨D, hD⟩ : ∃ D, D = getD S := ⟨_, rfl⟩
  rw [← hS, ← hok, ← hD]
  have b1 : ((t.size : Int) != 128) = false := by rw [bne_eq_false_iff_eq]; omega
  have HOK := Lib.hid hok
  have HD := Lib.hid hD
  have HSL := Lib.hid hSl
  have HTS := Lib.hid hts
  have HS := Lib.hid hS
  obtain ⟨q0, hq0⟩ : ∃ q, q = fieldN S 8 8 := ⟨_, rfl⟩
  obtain ⟨q1, hq1⟩ : ∃ q, q = fieldN S 16 4 := ⟨_, rfl⟩
  obtain ⟨q2, hq2⟩ : ∃ q, q = fieldN S 20 4 := ⟨_, rfl⟩
  obtain ⟨q3, hq3⟩ : ∃ q, q = fieldN S 24 4 := ⟨_, rfl⟩
  obtain ⟨q4, hq4⟩ : ∃ q, q = fieldN S 28 4 := ⟨_, rfl⟩
  obtain ⟨nn, hnn⟩ : ∃ q, q = fieldN S 32 2 := ⟨_, rfl⟩
  have l0 := fieldN_lt S 8 8
  have l1 := fieldN_lt S 16 4
  have l2 := fieldN_lt S 20 4
  have l3 := fieldN_lt S 24 4
  have l4 := fieldN_lt S 28 4
  have l5 := fieldN_lt S 32 2
  rw [← hq0] at l0
  rw [← hq1] at l1
  rw [← hq2] at l2
  rw [← hq3] at l3
  rw [← hq4] at l4
  rw [← hnn] at l5
  have HQ : Hid (q0 = fieldN S 8 8 ∧ q1 = fieldN S 16 4 ∧ q2 = fieldN S 20 4 ∧ q3 = fieldN S 24 4 ∧ q4 = fieldN S 28 4 ∧ nn = fieldN S 32 2) := Lib.hid ⟨hq0, hq1, hq2, hq3, hq4, hnn⟩
  have v1 : IntKind.i64.wrap (q1 : Int) = q1 := IntWalk.i64_in _ (by omega)
  have v2 : IntKind.i64.wrap (q2 : Int) = q2 := IntWalk.i64_in _ (by omega)
  have v3 : IntKind.i64.wrap (q3 : Int) = q3 := IntWalk.i64_in _ (by omega)
  have v4 : IntKind.i64.wrap (q4 : Int) = q4 := IntWalk.i64_in _ (by omega)
  have HL5 : Hid (nn < 65536) := Lib.hid (by omega)
  have hk1 : Kept w (w.alloc (.cells #[.int .u64 0, .int .i64 0, .int .i64 0, .int .i64 0, .int .i64 0, .slice none 0 0] 25)) := box_below _ _
  obtain ⟨W1, hW1⟩ : ∃ W1, W1 = w.alloc (.cells #[.int .u64 0, .int .i64 0, .int .i64 0, .int .i64 0, .int .i64 0, .slice none 0 0] 25) := ⟨_, rfl⟩
  have hr1 : W1.heap[w.heap.size]? = some (.cells zeroC 25 (0, 0)) := by rw [hW1]; exact heap_alloc_last w _
  have hs1 : W1.heap.size = w.heap.size + 1 := by rw [hW1]; simp
  have hk2 : Kept W1 (W1.alloc (.cells #[.string t, .int .i64 0, .int .i64 0] 75)) := box_below _ _
  have hrd2 : RdS (w.heap.size + 1) S 0 (W1.alloc (.cells #[.string t, .int .i64 0, .int .i64 0] 75)) := by rw [← hs1, hts]; exact RdS.new W1 S (by omega)
  rw [← hW1] at hk1
  obtain ⟨W2, hW2⟩ : ∃ W2, W2 = W1.alloc (.cells #[.string t, .int .i64 0, .int .i64 0] 75) := ⟨_, rfl⟩
  rw [← hW2] at hk2 hrd2
  have HK2 : Hid (Kept w W2) := Lib.hid (hk1.then hk2)
  have HR2 : Hid (W2.heap[w.heap.size]? = some (.cells zeroC 25 (0, 0))) := Lib.hid (hk2.row hr1)
  have HRD2 := Lib.hid hrd2
  have HW2 : Hid (W2 = (w.alloc (.cells #[.int .u64 0, .int .i64 0, .int .i64 0, .int .i64 0, .int .i64 0, .slice none 0 0] 25)).alloc (.cells #[.string t, .int .i64 0, .int .i64 0] 75)) := Lib.hid (by rw [hW2, hW1])
  clear hS hSl hts hok hD hq0 hq1 hq2 hq3 hq4 hnn hk1 hk2 hrd2 hr1 hs1 hW1 hW2 l0 l1 l2 l3 l4 l5 h
  go_enter Tryd.func17, Tryd.ntmps17
  go_wp2_with fail
  rw [← HW2.out]
  refine (rtakeS HRD2.out 8 8 rfl (by rw [HSL.out]; omega) (by rw [HSL.out]; omega)).mono ?_
  rintro e W3 ⟨⟨x0, rfl⟩, hrd, hgr⟩
  have HK3 : Hid (Kept w W3) := Lib.hid (below_touch HK2.out hgr HK2.out.size (by omega))
  have HR3 : Hid (W3.heap[w.heap.size]? = some (.cells zeroC 25 (0, 0))) := Lib.hid (by rw [hgr.block _ (Array.getElem?_eq_some_iff.1 HR2.out).1 (fun e => by have := Option.some.inj e; omega)]; exact HR2.out)
  have HRD3 := Lib.hid hrd
  clear hrd hgr HK2 HR2 HRD2
  go_wp2_with fail
  refine (rnumS HRD3.out 8 8 rfl (by omega) (by rw [HSL.out]; omega)).mono ?_
  rintro e W4 ⟨rfl, hrd, hgr⟩
  rw [← HQ.out.1]
  have hk4 : Kept w W4 := below_touch HK3.out hgr HK3.out.size (by omega)
  have hr4 : W4.heap[w.heap.size]? = some (.cells zeroC 25 (0, 0)) := by rw [hgr.block _ (Array.getElem?_eq_some_iff.1 HR3.out).1 (fun e => by have := Option.some.inj e; omega)]; exact HR3.out
  have hlt4 : w.heap.size + 1 < W4.heap.size := by obtain ⟨T, j, z1, z2⟩ := hrd; exact (Array.getElem?_eq_some_iff.1 z1).1
  have hb5 : Kept W4 (W4.alloc (.cells #[.int .u64 q0, .int .i64 0, .int .i64 0, .int .i64 0, .int .i64 0, .slice none 0 0] 25)) := box_below _ _
  have G0 : GI w w.heap.size (w.heap.size + 1) W4.heap.size S 16 #[.int .u64 q0, .int .i64 0, .int .i64 0, .int .i64 0, .int .i64 0, .slice none 0 0] (W4.alloc (.cells #[.int .u64 q0, .int .i64 0, .int .i64 0, .int .i64 0, .int .i64 0, .slice none 0 0] 25)) :=
    ⟨hk4.then hb5, hb5.row hr4, hrd.stay (hb5.block _ hlt4), heap_alloc_last W4 _, ⟨Nat.le_refl _, by omega, hk4.size⟩, ⟨by omega, by omega, by omega⟩⟩
  obtain ⟨b5, hb⟩ : ∃ b5, b5 = W4.heap.size := ⟨_, rfl⟩
  have HB5 := Lib.hid hb
  obtain ⟨W5, hW5⟩ : ∃ W5, W5 = W4.alloc (.cells #[.int .u64 q0, .int .i64 0, .int .i64 0, .int .i64 0, .int .i64 0, .slice none 0 0] 25) := ⟨_, rfl⟩
  rw [← hb, ← hW5] at G0
  have HG := Lib.hid G0
  have HW5 := Lib.hid hW5
  clear hrd hgr hk4 hr4 hlt4 hb5 G0 hb hW5 HK3 HR3 HRD3
  go_wp2_with fail
  rw [← HB5.out]
  rw [← HW5.out]
  refine (rnumS HG.out.rd 4 4 rfl (by omega) (by rw [HSL.out]; omega)).mono ?_
  rintro e WA1 ⟨rfl, hrd, hgr⟩
  rw [← HQ.out.2.1]
  replace HG := Lib.hid (HG.out.read hrd hgr)
  have c0 : WA1.cell? ⟨b5, 1, none⟩ = some (.int .i64 0) := by rw [cell_of_row _ _ _ _ _ _ HG.out.row5]; rfl
  have f0 := frozen_of_row WA1 b5 1 _ _ HG.out.row5
  replace HG := Lib.hid (HG.out.set 1 (.int .i64 q1))
  obtain ⟨WB1, hWB1⟩ : ∃ W, W = WA1.setCell ⟨b5, 1, none⟩ (.int .i64 q1) := ⟨_, rfl⟩
  rw [← hWB1] at HG
  have HWB1 := Lib.hid hWB1
  clear hrd hgr hWB1
  go_wp2_with fail
  skip
  rw [← HWB1.out]
  refine (rnumS HG.out.rd 4 4 rfl (by omega) (by rw [HSL.out]; omega)).mono ?_
  rintro e WA2 ⟨rfl, hrd, hgr⟩
  rw [← HQ.out.2.2.1]
  replace HG := Lib.hid (HG.out.read hrd hgr)
  have c0 : WA2.cell? ⟨b5, 2, none⟩ = some (.int .i64 0) := by rw [cell_of_row _ _ _ _ _ _ HG.out.row5]; rfl
  have f0 := frozen_of_row WA2 b5 2 _ _ HG.out.row5
  replace HG := Lib.hid (HG.out.set 2 (.int .i64 q2))
  obtain ⟨WB2, hWB2⟩ : ∃ W, W = WA2.setCell ⟨b5, 2, none⟩ (.int .i64 q2) := ⟨_, rfl⟩
  rw [← hWB2] at HG
  have HWB2 := Lib.hid hWB2
  clear hrd hgr hWB2
  go_wp2_with fail
  skip
  rw [← HWB2.out]
  refine (rnumS HG.out.rd 4 4 rfl (by omega) (by rw [HSL.out]; omega)).mono ?_
  rintro e WA3 ⟨rfl, hrd, hgr⟩
  rw [← HQ.out.2.2.2.1]
  replace HG := Lib.hid (HG.out.read hrd hgr)
  have c0 : WA3.cell? ⟨b5, 3, none⟩ = some (.int .i64 0) := by rw [cell_of_row _ _ _ _ _ _ HG.out.row5]; rfl
  have f0 := frozen_of_row WA3 b5 3 _ _ HG.out.row5
  replace HG := Lib.hid (HG.out.set 3 (.int .i64 q3))
  obtain ⟨WB3, hWB3⟩ : ∃ W, W = WA3.setCell ⟨b5, 3, none⟩ (.int .i64 q3) := ⟨_, rfl⟩
  rw [← hWB3] at HG
  have HWB3 := Lib.hid hWB3
  clear hrd hgr hWB3
  go_wp2_with fail
  skip
  rw [← HWB3.out]
  refine (rnumS HG.out.rd 4 4 rfl (by omega) (by rw [HSL.out]; omega)).mono ?_
  rintro e WA4 ⟨rfl, hrd, hgr⟩
  rw [← HQ.out.2.2.2.2.1]
  replace HG := Lib.hid (HG.out.read hrd hgr)
  have c0 : WA4.cell? ⟨b5, 4, none⟩ = some (.int .i64 0) := by rw [cell_of_row _ _ _ _ _ _ HG.out.row5]; rfl
  have f0 := frozen_of_row WA4 b5 4 _ _ HG.out.row5
  replace HG := Lib.hid (HG.out.set 4 (.int .i64 q4))
  obtain ⟨WB4, hWB4⟩ : ∃ W, W = WA4.setCell ⟨b5, 4, none⟩ (.int .i64 q4) := ⟨_, rfl⟩
  rw [← hWB4] at HG
  have HWB4 := Lib.hid hWB4
  clear hrd hgr hWB4
  go_wp2_with fail
  rw [← HWB4.out]
  refine (rnumS HG.out.rd 2 2 rfl (by omega) (by rw [HSL.out]; omega)).mono ?_
  rintro e W6 ⟨rfl, hrd, hgr⟩
  rw [← HQ.out.2.2.2.2.2]
  replace HG := Lib.hid (HG.out.read hrd hgr)
  obtain ⟨base, hbase⟩ : ∃ base, base = W6.heap.size := ⟨_, rfl⟩
  have G := HG.out
  have HBS : Hid (w.heap.size < base ∧ b5 < base ∧ w.heap.size ≤ b5 ∧ w.heap.size ≠ b5) := Lib.hid (by
    refine ⟨?_, ?_, G.h0.2.2, G.hne.2.1⟩
    · rw [hbase]; exact (Array.getElem?_eq_some_iff.1 G.row2).1
    · rw [hbase]; exact (Array.getElem?_eq_some_iff.1 G.row5).1)
  have HK6 : Hid (Kept w W6) := Lib.hid G.kept
  have HR2 : Hid (W6.heap[w.heap.size]? = some (.cells zeroC 25 (0, 0))) := Lib.hid G.row2
  have HR5 : Hid (W6.heap[b5]? = some (.cells #[.int .u64 q0, .int .i64 q1, .int .i64 q2, .int .i64 q3, .int .i64 q4, .slice none 0 0] 25 (0, 0))) := Lib.hid G.row5
  have HBW : Hid (base ≤ W6.heap.size) := Lib.hid (by omega)
  have OW0 : Hid (W6.ownsRow base 48 2 (.slice none 0 0) 0 (runC [])) := Lib.hid (World.ownsRow_nil _ _ _ _)
  clear hrd hgr HG G hbase HB5 HW5 HWB1 HWB2 HWB3 HWB4 c0 f0 v1 v2 v3 v4
  obtain ⟨N, hN⟩ : ∃ N, N = min nn 16 := ⟨_, rfl⟩
  have HN := Lib.hid hN
  have hN16 : N ≤ 16 := by omega
  clear hN
  obtain ⟨ir, hir, hzz⟩ := Option.map_eq_some_iff.1 infoRn
  simp only [Prod.mk.injEq] at hzz
  obtain ⟨hz0, hz1, hz2⟩ := hzz
  have HIR := Lib.hid hir
  have HZ0 := Lib.hid hz0
  have HZ1 := Lib.hid hz1
  have HZ2 := Lib.hid hz2
  clear hir hz0 hz1 hz2
  go_wp2
  go_loopg [7] N (fun gh s7 wx => ∃ (i : Nat) (tv : Value), i + gh = N ∧ s7 = .int .u64 i ∧ Hid (Kept w wx) ∧ Hid (base ≤ wx.heap.size) ∧ Hid (wx.heap[w.heap.size]? = some (.cells zeroC 25 (0, 0))) ∧
    Hid (wx.heap[b5]? = some (.cells #[.int .u64 q0, .int .i64 q1, .int .i64 q2, .int .i64 q3, .int .i64 q4, tv] 25 (0, 0))) ∧ Hid (wx.ownsRow base 48 2 tv i (runC ((List.range i).map (getRun S)))))
  case atStart => exact ⟨0, _, by omega, rfl, HK6, HBW, HR2, HR5, OW0⟩
  case round =>
    clear HK6 HBW HR2 HR5 OW0
    obtain ⟨i, tv, hi, rfl, HK, HBW, HR2, HR5, HO⟩ := hrel
    by_cases hin : i < N
    · have hn := HN.out
      have hin1 : (i : Int) < nn := by omega
      have hin2 : (i : Int) < 16 := by omega
      obtain ⟨f4, hf4⟩ : ∃ f4, f4 = 4 * i := ⟨_, rfl⟩
      have m1 : IntKind.u64.wrap (4 * (i : Int)) = (f4 : Int) := by rw [show 4 * (i : Int) = (f4 : Int) by omega]; exact IntWalk.u64_in _ (by omega)
      obtain ⟨e0, he0⟩ : ∃ e, e = 36 + f4 := ⟨_, rfl⟩
      obtain ⟨e1, he1⟩ : ∃ e, e = 37 + f4 := ⟨_, rfl⟩
      obtain ⟨e2, he2⟩ : ∃ e, e = 38 + f4 := ⟨_, rfl⟩
      obtain ⟨e3, he3⟩ : ∃ e, e = 39 + f4 := ⟨_, rfl⟩
      have w0 : IntKind.u64.wrap (36 + (f4 : Int)) = (e0 : Int) := by rw [show 36 + (f4 : Int) = (e0 : Int) by omega]; exact IntWalk.u64_in _ (by omega)
      have w1 : IntKind.u64.wrap (37 + (f4 : Int)) = (e1 : Int) := by rw [show 37 + (f4 : Int) = (e1 : Int) by omega]; exact IntWalk.u64_in _ (by omega)
      have w2 : IntKind.u64.wrap (38 + (f4 : Int)) = (e2 : Int) := by rw [show 38 + (f4 : Int) = (e2 : Int) by omega]; exact IntWalk.u64_in _ (by omega)
      have w3 : IntKind.u64.wrap (39 + (f4 : Int)) = (e3 : Int) := by rw [show 39 + (f4 : Int) = (e3 : Int) by omega]; exact IntWalk.u64_in _ (by omega)
      have hts := HTS.out
      have hsl := HSL.out
      have hsz : t.size = 128 := by rw [hts, str_size]; exact hsl
      have hlt0 : e0 < t.size := by omega
      have hlt1 : e1 < t.size := by omega
      have hlt2 : e2 < t.size := by omega
      have hlt3 : e3 < t.size := by omega
      have by_ : ∀ e (h : e < t.size), ∃ q : Nat, t[e].toNat = q ∧ (t.data[e]'h).toNat = q ∧ q < 256 ∧ q = (S[e]'(by omega)).toNat := fun e h => by
        refine ⟨_, rfl, rfl, UInt8.toNat_lt _, ?_⟩
        have hs := HS.out
        subst hs
        rfl
      obtain ⟨p0, a0, a0', a0l, a0s⟩ := by_ e0 hlt0
      obtain ⟨p1, a1, a1', a1l, a1s⟩ := by_ e1 hlt1
      obtain ⟨p2, a2, a2', a2l, a2s⟩ := by_ e2 hlt2
      obtain ⟨p3, a3, a3', a3l, a3s⟩ := by_ e3 hlt3
      have g0 : fieldN S (36 + 4 * i) 2 = p0 + 256 * p1 := by
        rw [a0s, a1s]
        exact fieldN_two2 S (36 + 4 * i) e0 e1 (by omega) (by omega) (by omega)
      have g1 : fieldN S (38 + 4 * i) 2 = p2 + 256 * p3 := by
        rw [a2s, a3s]
        exact fieldN_two2 S (38 + 4 * i) e2 e3 (by omega) (by omega) (by omega)
      have hgr : getRun S i = (((p0 + 256 * p1 : Nat) : Int), ((p2 + 256 * p3 : Nat) : Int)) := by unfold getRun; rw [g0, g1]
      obtain ⟨d0, hd0⟩ : ∃ d, d = 256 * p1 := ⟨_, rfl⟩
      obtain ⟨d1, hd1⟩ : ∃ d, d = 256 * p3 := ⟨_, rfl⟩
      obtain ⟨x, hx⟩ : ∃ x, x = p0 + d0 := ⟨_, rfl⟩
      obtain ⟨y, hy⟩ : ∃ y, y = p2 + d1 := ⟨_, rfl⟩
      rw [← hd0, ← hd1, ← hx, ← hy] at hgr
      have n0 : IntKind.i64.wrap (256 * (p1 : Int)) = (d0 : Int) := by rw [show 256 * (p1 : Int) = (d0 : Int) by omega]; exact IntWalk.i64_in _ (by omega)
      have n1 : IntKind.i64.wrap (256 * (p3 : Int)) = (d1 : Int) := by rw [show 256 * (p3 : Int) = (d1 : Int) by omega]; exact IntWalk.i64_in _ (by omega)
      have n2 : IntKind.i64.wrap ((p0 : Int) + (d0 : Int)) = (x : Int) := by rw [show (p0 : Int) + (d0 : Int) = (x : Int) by omega]; exact IntWalk.i64_in _ (by omega)
      have n3 : IntKind.i64.wrap ((p2 : Int) + (d1 : Int)) = (y : Int) := by rw [show (p2 : Int) + (d1 : Int) = (y : Int) by omega]; exact IntWalk.i64_in _ (by omega)
      have n4 : IntKind.i64.wrap (p0 : Int) = p0 := IntWalk.i64_in _ (by omega)
      have n5 : IntKind.i64.wrap (p1 : Int) = p1 := IntWalk.i64_in _ (by omega)
      have n6 : IntKind.i64.wrap (p2 : Int) = p2 := IntWalk.i64_in _ (by omega)
      have n7 : IntKind.i64.wrap (p3 : Int) = p3 := IntWalk.i64_in _ (by omega)
      have r0 : (0 : Int) ≤ e0 := by omega
      have r1 : (0 : Int) ≤ e1 := by omega
      have r2 : (0 : Int) ≤ e2 := by omega
      have r3 : (0 : Int) ≤ e3 := by omega
      have s0 : (e0 : Int) < t.size := by omega
      have s1 : (e1 : Int) < t.size := by omega
      have s2 : (e2 : Int) < t.size := by omega
      have s3 : (e3 : Int) < t.size := by omega
      obtain ⟨i1, hi1⟩ : ∃ i1, i1 = i + 1 := ⟨_, rfl⟩
      have v9 : IntKind.u64.wrap ((i : Int) + 1) = (i1 : Int) := by rw [show (i : Int) + 1 = (i1 : Int) by omega]; exact IntWalk.u64_in _ (by omega)
      have HGR := Lib.hid hgr
      have HI1 := Lib.hid hi1
      clear hf4 he0 he1 he2 he3 by_ a0s a1s a2s a3s g0 g1 hgr hd0 hd1 hx hy hts hsl hsz hn a0l a1l a2l a3l
      go_wp2
      go_quiet (fail)
      obtain ⟨Wa, hWa⟩ : ∃ Wa, Wa = wr.drewN nq := ⟨_, rfl⟩
      rw [← hWa]
      have hka : Kept wr Wa := by rw [hWa]; exact below_drewN (Below.refl _ wr) _
      clear hWa
      go_wp2
      go_quiet (fail)
      obtain ⟨Wd, hWd⟩ : ∃ Wd, Wd = Wa.drewN nq := ⟨_, rfl⟩
      rw [← hWd]
      have hd : Kept wr Wd := by rw [hWd]; exact hka.then (below_drewN (Below.refl _ Wa) _)
      clear hWd hka
      have c5 : Wd.cell? ⟨b5, 5, none⟩ = some tv := by rw [cell_of_row _ _ _ _ _ _ (hd.row HR5.out)]; rfl
      obtain ⟨pv, cv, htv, -, -⟩ := own_slice HO.out
      have HOWN : Hid ((Wd.alloc (.cells #[.int .i64 (x : Int), .int .i64 (y : Int)] 48)).ownsRow base 48 2 tv i (runC ((List.range i).map (getRun S)))) := Lib.hid ((own_stay HO.out (fun m hm => hd.block m (HO.out.lt m hm).2) : Wd.ownsRow base 48 2 tv i _).alloc _)
      have HHB : Hid (base ≤ (Wd.alloc (.cells #[.int .i64 (x : Int), .int .i64 (y : Int)] 48)).heap.size) := Lib.hid (Nat.le_trans HBW.out (Nat.le_trans hd.size (box_below Wd _).size))
      have HSTEP := Lib.hid (fun (w6 : World) (v' : Value) (h1 : w6.ownsRow base 48 2 v' (i + 1) (runC ((List.range i).map (getRun S)) ++ runC [((x : Int), (y : Int))])) (h2 : (Wd.alloc (.cells #[.int .i64 (x : Int), .int .i64 (y : Int)] 48)).grownBy w6 tv.ownBlock) =>
        app_step (C := fun z => rowB q0 q1 q2 q3 q4 z) hd HK.out HBW.out HR2.out HR5.out HO.out HBS.out rfl h1 h2)
      subst htv
      clear HK HBW HR2 HR5 HO hd
      go_wp2_with (at_builtin; refine wpList_append_flat rfl _ _ 23 rfl base 48 ir (.agg #[.int .i64 0, .int .i64 0]) 2 16 Tryd.underlying23 HIR.out HZ0.out HZ1.out HZ2.out rfl (by decide) _ i _ rfl HOWN.out _ 1 _ rfl (run_flat_run _ (x : Int) (y : Int)) ?wa1 ?wa2 ?wa3 ?_)
      case wa1 => unfold maxLen; omega
      case wa2 => omega
      case wa3 => exact HHB.out
      intro v' w6 hown hgrw hwh
      obtain ⟨h5, hk7, hb7, hr27, hr57, ho7⟩ := HSTEP.out w6 v' hown hgrw
      have x5 : w6.cell? ⟨b5, 5, none⟩ = some (.slice pv i cv) := by rw [cell_of_row _ _ _ _ _ _ h5]; rfl
      have f5 := frozen_of_row w6 b5 5 _ _ h5
      obtain ⟨pv', cv', htv', -, -⟩ := own_slice ho7
      have HK7 := Lib.hid hk7
      have HB7 := Lib.hid hb7
      have HR27 := Lib.hid hr27
      have HR57 := Lib.hid hr57
      have HO7 : Hid ((w6.setCell ⟨b5, 5, none⟩ v').ownsRow base 48 2 v' i1 (runC ((List.range i1).map (getRun S)))) := Lib.hid (by
        rw [HI1.out, List.range_succ, List.map_append, List.map_cons, List.map_nil, HGR.out, runC_append]
        exact ho7)
      subst htv'
      clear h5 hk7 hb7 hr27 hr57 ho7 hown hgrw hwh HSTEP HOWN HHB
      go_wp2
      go_roundg (N - i1)
      case measure => have := HI1.out; omega
      case rel => exact ⟨i1, _, by have := HI1.out; omega, by first | rfl | (congr 1; omega), HK7, HB7, HR27, HR57, HO7⟩
    · have hie : i = N := by omega
      subst hie
      have hn := HN.out
      have hcs : (¬ (i : Int) < nn) ∨ ((i : Int) < nn ∧ ¬ (i : Int) < 16) := by omega
      obtain ⟨RR, hRR⟩ : ∃ R, R = getR S := ⟨_, rfl⟩
      have hruns : RR.runs = (List.range i).map (getRun S) := by rw [hRR]; show (List.range (min (fieldN S 32 2) 16)).map (getRun S) = _; rw [← HQ.out.2.2.2.2.2, ← hn]
      have hRRv : ∀ z, sbV RR z = .agg #[.int .u64 q0, .int .i64 q1, .int .i64 q2, .int .i64 q3, .int .i64 q4, z] := fun z => by
        rw [HQ.out.1, HQ.out.2.1, HQ.out.2.2.1, HQ.out.2.2.2.1, HQ.out.2.2.2.2.1, hRR]; rfl
      have hlen : RR.runs.length = i := by rw [hruns, List.length_map, List.length_range]
      have hwfr : wfR RR.runs := by rw [hRR]; exact getR_wfR S
      have hrat : RunsAt RR.runs tv wr := RunsAt.own (by rw [hlen, hruns]; exact HO.out) hwfr
      have hat : SbAt RR (.agg #[.int .u64 q0, .int .i64 q1, .int .i64 q2, .int .i64 q3, .int .i64 q4, tv]) wr := ⟨tv, (hRRv tv).symm, hrat, by rw [hRR]; exact getR_wf S⟩
      have HAT := Lib.hid hat
      have HRR := Lib.hid hRR
      have CM := fun W (k : Kept wr W) => rmay11_any RR _ W (hat.later k) (by rw [hlen]; omega)
      have c0 : wr.cell? ⟨b5, 0, none⟩ = some (.int .u64 q0) := by rw [cell_of_row _ _ _ _ _ _ HR5.out]; rfl
      have c1 : wr.cell? ⟨b5, 1, none⟩ = some (.int .i64 q1) := by rw [cell_of_row _ _ _ _ _ _ HR5.out]; rfl
      have c2 : wr.cell? ⟨b5, 2, none⟩ = some (.int .i64 q2) := by rw [cell_of_row _ _ _ _ _ _ HR5.out]; rfl
      have c3 : wr.cell? ⟨b5, 3, none⟩ = some (.int .i64 q3) := by rw [cell_of_row _ _ _ _ _ _ HR5.out]; rfl
      have c4 : wr.cell? ⟨b5, 4, none⟩ = some (.int .i64 q4) := by rw [cell_of_row _ _ _ _ _ _ HR5.out]; rfl
      obtain ⟨pv, cv, htv, -, -⟩ := own_slice HO.out
      subst htv
      have c5 : wr.cell? ⟨b5, 5, none⟩ = some (.slice pv i cv) := by rw [cell_of_row _ _ _ _ _ _ HR5.out]; rfl
      obtain ⟨mb, hmb⟩ : ∃ mb, mb = mayS RR := ⟨_, rfl⟩
      rw [← hmb] at CM
      have HMB := Lib.hid hmb
      have HRUNS := Lib.hid hruns
      have HSB := Lib.hid hRRv
      have HLEN := Lib.hid hlen
      have HWFR := Lib.hid hwfr
      clear hn hRR hruns hRRv hlen hwfr hrat hat hmb hin
      rcases hcs with ht1 | ⟨ht1, ht2⟩
      all_goals
        go_wp2_with fail
        refine (CM wr (Kept.refl wr)).mono ?_
        rintro e W7 ⟨rfl, hb7⟩
        have hk7 : Kept wr W7 := hb7
        have HW7 : Hid (Kept w W7) := Lib.hid (HK.out.then hk7)
        have HAT7 := Lib.hid (HAT.out.later hk7)
        have hr5 := hk7.row HR5.out
        have hr2 := hk7.row HR2.out
        have d0 := hk7.cell c0
        have d1 := hk7.cell c1
        have d2 := hk7.cell c2
        have d3 := hk7.cell c3
        have d4 := hk7.cell c4
        have d5 := hk7.cell c5
        have HR27 := Lib.hid hr2
        have HR57 := Lib.hid hr5
        have HO7 : Hid (W7.ownsRow base 48 2 (.slice pv i cv) i (runC ((List.range i).map (getRun S)))) := Lib.hid (own_stay HO.out (fun m hm => hk7.block m (HO.out.lt m hm).2))
        clear hb7 hk7 c0 c1 c2 c3 c4 c5 CM HAT HR5 HR2 hr5 hr2 HK HBW HO
        cases mb with
        | false =>
          have HF1 : Hid (getS S = none) := Lib.hid (by
            unfold getS
            rw [if_neg (fun y => by have h2 := HMB.out; rw [HRR.out] at h2; exact of_decide_eq_false h2.symm y.2.1)])
          have HF : Hid (ok = false ∧ D = Sb.zero) := Lib.hid ⟨by rw [HOK.out, HF1.out]; rfl, by rw [HD.out]; unfold getD; rw [HF1.out]; rfl⟩
          have g0 : W7.cell? ⟨w.heap.size, 0, none⟩ = some (.int .u64 0) := by rw [cell_of_row _ _ _ _ _ _ HR27.out]; rfl
          have g1 : W7.cell? ⟨w.heap.size, 1, none⟩ = some (.int .i64 0) := by rw [cell_of_row _ _ _ _ _ _ HR27.out]; rfl
          have g2 : W7.cell? ⟨w.heap.size, 2, none⟩ = some (.int .i64 0) := by rw [cell_of_row _ _ _ _ _ _ HR27.out]; rfl
          have g3 : W7.cell? ⟨w.heap.size, 3, none⟩ = some (.int .i64 0) := by rw [cell_of_row _ _ _ _ _ _ HR27.out]; rfl
          have g4 : W7.cell? ⟨w.heap.size, 4, none⟩ = some (.int .i64 0) := by rw [cell_of_row _ _ _ _ _ _ HR27.out]; rfl
          have g5 : W7.cell? ⟨w.heap.size, 5, none⟩ = some (.slice none 0 0) := by rw [cell_of_row _ _ _ _ _ _ HR27.out]; rfl
          have f0 := frozen_of_row W7 w.heap.size 0 _ _ HR27.out
          have f1 := frozen_of_row W7 w.heap.size 1 _ _ HR27.out
          have f2 := frozen_of_row W7 w.heap.size 2 _ _ HR27.out
          have f3 := frozen_of_row W7 w.heap.size 3 _ _ HR27.out
          have f4 := frozen_of_row W7 w.heap.size 4 _ _ HR27.out
          have f5 := frozen_of_row W7 w.heap.size 5 _ _ HR27.out
          go_wp2
          refine bodyPost_ret (results_cell_tmp_rowS Tryd.results17 _ _ w.heap.size 25 #[.int .u64 0, .int .i64 0, .int .i64 0, .int .i64 0, .int .i64 0, .slice none 0 0] (0, 0) _ rfl (set6_row HR27.out _ _ _ _ _ _) Tryd.underlying25 rfl infoSb) rfl ⟨⟨.agg zeroC, by rw [HF.out.1]; rfl, by rw [HF.out.2]; exact zero_at _ _⟩, below_set6 HW7.out (Nat.le_refl _) _ _ _ _ _ _⟩
        | true =>
          have hm : maySP RR := of_decide_eq_true HMB.out.symm
          obtain ⟨P, hP⟩ : ∃ P, P = str (putS RR) := ⟨_, rfl⟩
          have CP := rput11_any RR _ W7 HAT7.out hm
          rw [← hP] at CP
          have HP := Lib.hid hP
          have HM := Lib.hid hm
          clear hP hm
          by_cases hpt : P = t
          · have bp : (!P.toList == t.toList) = false := by rw [hpt]; simp
            have bp2 : (P.toList == t.toList) = true := by rw [hpt]; simp
            have HF1 : Hid (getS S = some RR) := Lib.hid (by
              have e : putS RR = S := by
                have h1 := HP.out
                rw [hpt, HTS.out] at h1
                have := congrArg (fun z : ByteArray => z.data.toList) h1
                simpa [str_list] using this.symm
              unfold getS
              rw [← HRR.out, if_pos ⟨HSL.out, HM.out, e⟩])
            have HF : Hid (ok = true ∧ D = RR) := Lib.hid ⟨by rw [HOK.out, HF1.out]; rfl, by rw [HD.out]; unfold getD; rw [HF1.out]; rfl⟩
            clear hpt
            go_wp2_with fail
            refine CP.mono ?_
            rintro e W8 ⟨rfl, hb8⟩
            have hk8 : Kept W7 W8 := hb8
            have HW8 : Hid (Kept w W8) := Lib.hid (HW7.out.then hk8)
            have HR28 := Lib.hid (hk8.row HR27.out)
            have HO8 : Hid (W8.ownsRow base 48 2 (.slice pv i cv) i (runC ((List.range i).map (getRun S)))) := Lib.hid (own_stay HO7.out (fun m hm => hk8.block m (HO7.out.lt m hm).2))
            have e0 := hk8.cell d0
            have e1 := hk8.cell d1
            have e2 := hk8.cell d2
            have e3 := hk8.cell d3
            have e4 := hk8.cell d4
            have e5 := hk8.cell d5
            clear hb8 hk8 d0 d1 d2 d3 d4 d5 CP HR27 HR57 HW7 HAT7
            have g0 : W8.cell? ⟨w.heap.size, 0, none⟩ = some (.int .u64 0) := by rw [cell_of_row _ _ _ _ _ _ HR28.out]; rfl
            have g1 : W8.cell? ⟨w.heap.size, 1, none⟩ = some (.int .i64 0) := by rw [cell_of_row _ _ _ _ _ _ HR28.out]; rfl
            have g2 : W8.cell? ⟨w.heap.size, 2, none⟩ = some (.int .i64 0) := by rw [cell_of_row _ _ _ _ _ _ HR28.out]; rfl
            have g3 : W8.cell? ⟨w.heap.size, 3, none⟩ = some (.int .i64 0) := by rw [cell_of_row _ _ _ _ _ _ HR28.out]; rfl
            have g4 : W8.cell? ⟨w.heap.size, 4, none⟩ = some (.int .i64 0) := by rw [cell_of_row _ _ _ _ _ _ HR28.out]; rfl
            have g5 : W8.cell? ⟨w.heap.size, 5, none⟩ = some (.slice none 0 0) := by rw [cell_of_row _ _ _ _ _ _ HR28.out]; rfl
            have f0 := frozen_of_row W8 w.heap.size 0 _ _ HR28.out
            have f1 := frozen_of_row W8 w.heap.size 1 _ _ HR28.out
            have f2 := frozen_of_row W8 w.heap.size 2 _ _ HR28.out
            have f3 := frozen_of_row W8 w.heap.size 3 _ _ HR28.out
            have f4 := frozen_of_row W8 w.heap.size 4 _ _ HR28.out
            have f5 := frozen_of_row W8 w.heap.size 5 _ _ HR28.out
            go_wp2
            have hfin := own_set6 HO8.out HBS.out.1 (.int .u64 q0) (.int .i64 q1) (.int .i64 q2) (.int .i64 q3) (.int .i64 q4) (.slice pv i cv)
            refine bodyPost_ret (results_cell_tmp_rowS Tryd.results17 _ _ w.heap.size 25 #[.int .u64 q0, .int .i64 q1, .int .i64 q2, .int .i64 q3, .int .i64 q4, .slice pv i cv] (0, 0) _ rfl (set6_row HR28.out _ _ _ _ _ _) Tryd.underlying25 rfl infoSb) rfl ⟨⟨_, by rw [HF.out.1]; rfl, ?_⟩, below_set6 HW8.out (Nat.le_refl _) _ _ _ _ _ _⟩
            rw [HF.out.2]
            refine ⟨_, (HSB.out _).symm, RunsAt.own (by rw [HLEN.out, HRUNS.out]; exact hfin) HWFR.out, by rw [HRR.out]; exact getR_wf S, fun a n c e hn => ?_⟩
            rw [e] at hfin
            have := (hfin.lt a.block rfl).1
            have := HBS.out.1
            omega
          · have bp : (!P.toList == t.toList) = true := by rw [text_neS hpt]; rfl
            have bp2 : (P.toList == t.toList) = false := text_neS hpt
            have HF1 : Hid (getS S = none) := Lib.hid (by
              unfold getS
              rw [if_neg (fun y => hpt (by rw [HP.out, HRR.out, y.2.2, HTS.out]))])
            have HF : Hid (ok = false ∧ D = Sb.zero) := Lib.hid ⟨by rw [HOK.out, HF1.out]; rfl, by rw [HD.out]; unfold getD; rw [HF1.out]; rfl⟩
            clear hpt
            go_wp2_with fail
            refine CP.mono ?_
            rintro e W8 ⟨rfl, hb8⟩
            have hk8 : Kept W7 W8 := hb8
            have HW8 : Hid (Kept w W8) := Lib.hid (HW7.out.then hk8)
            have HR28 := Lib.hid (hk8.row HR27.out)
            clear hb8 hk8 d0 d1 d2 d3 d4 d5 CP HR27 HR57 HW7 HAT7
            have g0 : W8.cell? ⟨w.heap.size, 0, none⟩ = some (.int .u64 0) := by rw [cell_of_row _ _ _ _ _ _ HR28.out]; rfl
            have g1 : W8.cell? ⟨w.heap.size, 1, none⟩ = some (.int .i64 0) := by rw [cell_of_row _ _ _ _ _ _ HR28.out]; rfl
            have g2 : W8.cell? ⟨w.heap.size, 2, none⟩ = some (.int .i64 0) := by rw [cell_of_row _ _ _ _ _ _ HR28.out]; rfl
            have g3 : W8.cell? ⟨w.heap.size, 3, none⟩ = some (.int .i64 0) := by rw [cell_of_row _ _ _ _ _ _ HR28.out]; rfl
            have g4 : W8.cell? ⟨w.heap.size, 4, none⟩ = some (.int .i64 0) := by rw [cell_of_row _ _ _ _ _ _ HR28.out]; rfl
            have g5 : W8.cell? ⟨w.heap.size, 5, none⟩ = some (.slice none 0 0) := by rw [cell_of_row _ _ _ _ _ _ HR28.out]; rfl
            have f0 := frozen_of_row W8 w.heap.size 0 _ _ HR28.out
            have f1 := frozen_of_row W8 w.heap.size 1 _ _ HR28.out
            have f2 := frozen_of_row W8 w.heap.size 2 _ _ HR28.out
            have f3 := frozen_of_row W8 w.heap.size 3 _ _ HR28.out
            have f4 := frozen_of_row W8 w.heap.size 4 _ _ HR28.out
            have f5 := frozen_of_row W8 w.heap.size 5 _ _ HR28.out
            go_wp2
            refine bodyPost_ret (results_cell_tmp_rowS Tryd.results17 _ _ w.heap.size 25 #[.int .u64 0, .int .i64 0, .int .i64 0, .int .i64 0, .int .i64 0, .slice none 0 0] (0, 0) _ rfl (set6_row HR28.out _ _ _ _ _ _) Tryd.underlying25 rfl infoSb) rfl ⟨⟨.agg zeroC, by rw [HF.out.1]; rfl, by rw [HF.out.2]; exact zero_at _ _⟩, below_set6 HW8.out (Nat.le_refl _) _ _ _ _ _ _⟩

theorem rget11_any (t : ByteArray) (w : World) :
    Calls Tryd.prog 17 #[.string t] w fun e w' => (∃ v, e = .returned (.tuple #[v, .bool (getS t.data.toList).isSome]) ∧ SbNew (getD t.data.toList) v w w') ∧ Below w.heap.size w w' := by
  by_cases h : t.size = 128
  · exact rget11_full t h w
  · have hn : getS t.data.toList = none := by
      unfold getS
      rw [if_neg (fun y => h (by rw [← data_len]; exact y.1))]
    refine (rget11_short t h w).mono ?_
    rintro e w' ⟨rfl, hb⟩
    refine ⟨⟨_, by rw [hn]; rfl, ?_⟩, hb⟩
    unfold getD
    rw [hn]
    exact zero_at _ _

end Go.Proofs.YtlfmmhalheohdaaDoor
namespace Go.Proofs.YtlfmmhalheohdaaDoor
open Go.RowKit

theorem pick_y {A B : List UInt8} (h1 : (getS B).isSome = true) (h2 : (getD B).seq % 2 = 1) (h3 : ¬ (((getS A).isSome = true ∧ (getD A).seq % 2 = 0) ∧ (getD B).seq < (getD A).seq)) : (pickS A B).isSome = true ∧ pickD A B = getD B := by
  have e : pickS A B = getS B := by unfold pickS; rw [if_pos ⟨h1, h2, h3⟩]
  unfold pickD
  rw [e]
  exact ⟨h1, rfl⟩
theorem pick_x {A B : List UInt8} (h1 : (getS A).isSome = true) (h2 : (getD A).seq % 2 = 0) (h3 : ¬ ((getS B).isSome = true ∧ (getD B).seq % 2 = 1) ∨ (getD B).seq < (getD A).seq) : (pickS A B).isSome = true ∧ pickD A B = getD A := by
  have e : pickS A B = getS A := by
    unfold pickS
    rw [if_neg (fun y => h3.elim (fun z => z ⟨y.1, y.2.1⟩) (fun z => y.2.2 ⟨⟨h1, h2⟩, z⟩)), if_pos ⟨h1, h2⟩]
  unfold pickD
  rw [e]
  exact ⟨h1, rfl⟩
theorem pick_n {A B : List UInt8} (h1 : ¬ ((getS A).isSome = true ∧ (getD A).seq % 2 = 0)) (h2 : ¬ ((getS B).isSome = true ∧ (getD B).seq % 2 = 1)) : (pickS A B).isSome = false ∧ pickD A B = Sb.zero := by
  have e : pickS A B = none := by
    unfold pickS
    rw [if_neg (fun y => h2 ⟨y.1, y.2.1⟩), if_neg h1]
  unfold pickD
  rw [e]
  exact ⟨rfl, rfl⟩
theorem but_set6 (w : World) (g : Nat) (y0 y1 y2 y3 y4 y5 : Value) : ButBy (fun k => k = g) w ((((((w.setCell ⟨g, 0, none⟩ y0).setCell ⟨g, 1, none⟩ y1).setCell ⟨g, 2, none⟩ y2).setCell ⟨g, 3, none⟩ y3).setCell ⟨g, 4, none⟩ y4).setCell ⟨g, 5, none⟩ y5) :=
  ((((((but_refl (fun k => k = g) w).setCell g 0 y0 rfl).setCell g 1 y1 rfl).setCell g 2 y2 rfl).setCell g 3 y3 rfl).setCell g 4 y4 rfl).setCell g 5 y5 rfl

set_option maxRecDepth 100000 in
set_option maxHeartbeats 16000000 in
theorem rpick11_any (a b : ByteArray) (w : World) :
    Calls Tryd.prog 19 #[.string a, .string b] w fun e w' => (∃ v, e = .returned (.tuple #[v, .bool (pickS a.data.toList b.data.toList).isSome]) ∧ SbNew (pickD a.data.toList b.data.toList) v w w') ∧ Below w.heap.size w w' := by
  obtain ⟨A, hA⟩ : ∃ A, A = a.data.toList := ⟨_, rfl⟩
  obtain ⟨B, hB⟩ : ∃ B, B = b.data.toList := ⟨_, rfl⟩
  have GA := fun W => rget11_any a W
  have GB := fun W => rget11_any b W
  rw [← hA] at GA
  rw [← hB] at GB
  rw [← hA, ← hB]
  obtain ⟨ok, hok⟩ : ∃ ok, ok = (pickS A B).isSome := ⟨_, rfl⟩
  obtain ⟨D, hD⟩ : ∃ D, D = pickD A B := ⟨_, rfl⟩
  rw [← hok, ← hD]
  have HOK := Lib.hid hok
  have HD := Lib.hid hD
  obtain ⟨ok0, h0⟩ : ∃ x, x = (getS A).isSome := ⟨_, rfl⟩
  obtain ⟨is0, h1⟩ : ∃ x, x = (getS B).isSome := ⟨_, rfl⟩
  obtain ⟨X, hX⟩ : ∃ x, x = getD A := ⟨_, rfl⟩
  obtain ⟨Y, hY⟩ : ∃ x, x = getD B := ⟨_, rfl⟩
  rw [← h0, ← hX] at GA
  rw [← h1, ← hY] at GB
  have H0 := Lib.hid h0
  have H1 := Lib.hid h1
  have HX := Lib.hid hX
  have HY := Lib.hid hY
  clear hA hB hok hD h0 h1 hX hY
  obtain ⟨xq, x1, x2, x3, x4, xr⟩ := X
  obtain ⟨yq, y1, y2, y3, y4, yr⟩ := Y
  have HXQ : Hid ((getD A).seq = xq) := Lib.hid (by rw [← HX.out])
  have HYQ : Hid ((getD B).seq = yq) := Lib.hid (by rw [← HY.out])
  have hk1 : Kept w (w.alloc (.cells #[.int .u64 0, .int .i64 0, .int .i64 0, .int .i64 0, .int .i64 0, .slice none 0 0] 25)) := box_below _ _
  obtain ⟨W1, hW1⟩ : ∃ W1, W1 = w.alloc (.cells #[.int .u64 0, .int .i64 0, .int .i64 0, .int .i64 0, .int .i64 0, .slice none 0 0] 25) := ⟨_, rfl⟩
  have hr1 : W1.heap[w.heap.size]? = some (.cells zeroC 25 (0, 0)) := by rw [hW1]; exact heap_alloc_last w _
  have hs1 : W1.heap.size = w.heap.size + 1 := by rw [hW1]; simp
  rw [← hW1] at hk1
  have HW1 := Lib.hid hW1
  have HK1 := Lib.hid hk1
  have HR1 := Lib.hid hr1
  have HS1 := Lib.hid hs1
  clear hW1 hk1 hr1 hs1
  go_enter Tryd.func19, Tryd.ntmps19
  go_wp2_with fail
  rw [← HW1.out]
  refine (GA W1).mono ?_
  rintro e W2 ⟨⟨v, rfl, tx, rfl, hrx, hwx, hnx⟩, hb⟩
  have hk2 : Kept W1 W2 := hb
  have hb3 : Kept W2 (W2.alloc (.cells #[.int .u64 xq, .int .i64 x1, .int .i64 x2, .int .i64 x3, .int .i64 x4, tx] 25)) := box_below _ _
  obtain ⟨W3, hW3⟩ : ∃ W3, W3 = W2.alloc (.cells #[.int .u64 xq, .int .i64 x1, .int .i64 x2, .int .i64 x3, .int .i64 x4, tx] 25) := ⟨_, rfl⟩
  obtain ⟨b6, h6⟩ : ∃ b6, b6 = W2.heap.size := ⟨_, rfl⟩
  have HR6 : Hid (W3.heap[b6]? = some (.cells #[.int .u64 xq, .int .i64 x1, .int .i64 x2, .int .i64 x3, .int .i64 x4, tx] 25 (0, 0))) := Lib.hid (by rw [hW3, h6]; exact heap_alloc_last W2 _)
  rw [← hW3] at hb3
  have HK3 : Hid (Kept w W3) := Lib.hid (((show Kept w W1 from HK1.out).then hk2).then hb3)
  have HR3 : Hid (W3.heap[w.heap.size]? = some (.cells zeroC 25 (0, 0))) := Lib.hid (hb3.row (hk2.row HR1.out))
  have HRX : Hid (RunsAt xr tx W3) := Lib.hid (hrx.later hb3)
  have HNX : Hid (NewAt tx W1) := Lib.hid hnx
  have HWX := Lib.hid hwx
  have HW3 := Lib.hid hW3
  have H6 := Lib.hid h6
  have hb6 : w.heap.size < b6 := by rw [h6]; have := hk2.size; have := HS1.out; omega
  have HB6 := Lib.hid hb6
  clear hb hk2 hb3 hW3 h6 hrx hnx hwx HK1 HR1 GA hb6
  obtain ⟨px, nx, cx, htx⟩ : ∃ p n c, tx = .slice p n c := by
    obtain ⟨p, c, e, -, -⟩ := HRX.out.out
    exact ⟨p, _, c, e⟩
  subst htx
  unfold sbV sbC
  go_wp2_with fail
  rw [← H6.out]
  rw [← HW3.out]
  refine (GB W3).mono ?_
  rintro e W4 ⟨⟨v, rfl, ty, rfl, hry, hwy, hny⟩, hb⟩
  have hk4 : Kept W3 W4 := hb
  have hb5 : Kept W4 (W4.alloc (.cells #[.int .u64 yq, .int .i64 y1, .int .i64 y2, .int .i64 y3, .int .i64 y4, ty] 25)) := box_below _ _
  obtain ⟨W5, hW5⟩ : ∃ W5, W5 = W4.alloc (.cells #[.int .u64 yq, .int .i64 y1, .int .i64 y2, .int .i64 y3, .int .i64 y4, ty] 25) := ⟨_, rfl⟩
  obtain ⟨b8, h8⟩ : ∃ b8, b8 = W4.heap.size := ⟨_, rfl⟩
  have hr8 : W5.heap[b8]? = some (.cells #[.int .u64 yq, .int .i64 y1, .int .i64 y2, .int .i64 y3, .int .i64 y4, ty] 25 (0, 0)) := by rw [hW5, h8]; exact heap_alloc_last W4 _
  rw [← hW5] at hb5
  have HK5 : Hid (Kept w W5) := Lib.hid ((HK3.out.then hk4).then hb5)
  have hr4 : W5.heap[w.heap.size]? = some (.cells zeroC 25 (0, 0)) := hb5.row (hk4.row HR3.out)
  have hr6 := hb5.row (hk4.row HR6.out)
  have HRX5 : Hid (RunsAt xr (.slice px nx cx) W5) := Lib.hid ((HRX.out.later hk4).later hb5)
  have HRY5 : Hid (RunsAt yr ty W5) := Lib.hid (hry.later hb5)
  have HNY : Hid (NewAt ty W3) := Lib.hid hny
  have HWY := Lib.hid hwy
  have HW5 := Lib.hid hW5
  have H8 := Lib.hid h8
  have HR5 := Lib.hid hr4
  obtain ⟨py, ny, cy, hty⟩ : ∃ p n c, ty = .slice p n c := by
    obtain ⟨p, c, e, -, -⟩ := HRY5.out.out
    exact ⟨p, _, c, e⟩
  subst hty
  have HKS : Hid (w.heap.size < W3.heap.size) := Lib.hid (by have := HB6.out; have := (Array.getElem?_eq_some_iff.1 HR6.out).1; omega)
  have c0 : W5.cell? ⟨b6, 0, none⟩ = some (.int .u64 xq) := by rw [cell_of_row _ _ _ _ _ _ hr6]; rfl
  have d0 : W5.cell? ⟨b8, 0, none⟩ = some (.int .u64 yq) := by rw [cell_of_row _ _ _ _ _ _ hr8]; rfl
  have g0 : W5.cell? ⟨w.heap.size, 0, none⟩ = some (.int .u64 0) := by rw [cell_of_row _ _ _ _ _ _ hr4]; rfl
  have f0 := frozen_of_row W5 w.heap.size 0 _ _ hr4
  have c1 : W5.cell? ⟨b6, 1, none⟩ = some (.int .i64 x1) := by rw [cell_of_row _ _ _ _ _ _ hr6]; rfl
  have d1 : W5.cell? ⟨b8, 1, none⟩ = some (.int .i64 y1) := by rw [cell_of_row _ _ _ _ _ _ hr8]; rfl
  have g1 : W5.cell? ⟨w.heap.size, 1, none⟩ = some (.int .i64 0) := by rw [cell_of_row _ _ _ _ _ _ hr4]; rfl
  have f1 := frozen_of_row W5 w.heap.size 1 _ _ hr4
  have c2 : W5.cell? ⟨b6, 2, none⟩ = some (.int .i64 x2) := by rw [cell_of_row _ _ _ _ _ _ hr6]; rfl
  have d2 : W5.cell? ⟨b8, 2, none⟩ = some (.int .i64 y2) := by rw [cell_of_row _ _ _ _ _ _ hr8]; rfl
  have g2 : W5.cell? ⟨w.heap.size, 2, none⟩ = some (.int .i64 0) := by rw [cell_of_row _ _ _ _ _ _ hr4]; rfl
  have f2 := frozen_of_row W5 w.heap.size 2 _ _ hr4
  have c3 : W5.cell? ⟨b6, 3, none⟩ = some (.int .i64 x3) := by rw [cell_of_row _ _ _ _ _ _ hr6]; rfl
  have d3 : W5.cell? ⟨b8, 3, none⟩ = some (.int .i64 y3) := by rw [cell_of_row _ _ _ _ _ _ hr8]; rfl
  have g3 : W5.cell? ⟨w.heap.size, 3, none⟩ = some (.int .i64 0) := by rw [cell_of_row _ _ _ _ _ _ hr4]; rfl
  have f3 := frozen_of_row W5 w.heap.size 3 _ _ hr4
  have c4 : W5.cell? ⟨b6, 4, none⟩ = some (.int .i64 x4) := by rw [cell_of_row _ _ _ _ _ _ hr6]; rfl
  have d4 : W5.cell? ⟨b8, 4, none⟩ = some (.int .i64 y4) := by rw [cell_of_row _ _ _ _ _ _ hr8]; rfl
  have g4 : W5.cell? ⟨w.heap.size, 4, none⟩ = some (.int .i64 0) := by rw [cell_of_row _ _ _ _ _ _ hr4]; rfl
  have f4 := frozen_of_row W5 w.heap.size 4 _ _ hr4
  have c5 : W5.cell? ⟨b6, 5, none⟩ = some (.slice px nx cx) := by rw [cell_of_row _ _ _ _ _ _ hr6]; rfl
  have d5 : W5.cell? ⟨b8, 5, none⟩ = some (.slice py ny cy) := by rw [cell_of_row _ _ _ _ _ _ hr8]; rfl
  have g5 : W5.cell? ⟨w.heap.size, 5, none⟩ = some (.slice none 0 0) := by rw [cell_of_row _ _ _ _ _ _ hr4]; rfl
  have f5 := frozen_of_row W5 w.heap.size 5 _ _ hr4
  rw [HW5.out] at c0 c1 c2 c3 c4 c5 d0 d1 d2 d3 d4 d5 g0 g1 g2 g3 g4 g5 f0 f1 f2 f3 f4 f5
  rw [H8.out] at d0 d1 d2 d3 d4 d5
  unfold sbV sbC
  clear hb hk4 hb5 hW5 h8 hry hny hwy hr4 hr6 hr8 HK3 HR3 HR6 HRX GB HW3 HW1 H6
  have hpx : xq % 2 = 0 ∨ xq % 2 = 1 := by omega
  have hpy : yq % 2 = 0 ∨ yq % 2 = 1 := by omega
  cases ok0 with
  | false =>
    have HA0 : Hid ((getS A).isSome = false) := Lib.hid H0.out.symm
    cases is0 with
    | false =>
      have HB0 : Hid ((getS B).isSome = false) := Lib.hid H1.out.symm
      have HF := Lib.hid (pick_n (A := A) (B := B) (fun y => by have e1 := y.1; have e2 := y.2; rw [HXQ.out] at e2; rw [HA0.out] at e1; first | exact absurd e1 (by decide) | omega) (fun y => by have e1 := y.1; have e2 := y.2; rw [HYQ.out] at e2; rw [HB0.out] at e1; first | exact absurd e1 (by decide) | omega))
      go_wp2
      rw [← HW5.out]
      refine bodyPost_ret (results_cell_tmp_rowS Tryd.results19 _ _ w.heap.size 25 #[.int .u64 0, .int .i64 0, .int .i64 0, .int .i64 0, .int .i64 0, .slice none 0 0] (0, 0) _ rfl (set6_row HR5.out _ _ _ _ _ _) Tryd.underlying25 rfl infoSb) rfl ⟨⟨_, by rw [HOK.out, HF.out.1]; rfl, ?_⟩, below_set6 HK5.out (Nat.le_refl _) _ _ _ _ _ _⟩
      rw [HD.out, HF.out.2]
      exact zero_at _ _
    | true =>
      have HB0 : Hid ((getS B).isSome = true) := Lib.hid H1.out.symm
      rcases hpy with hp2 | hp2
      · have tyq : (yq : Int).tmod 2 = 0 := by rw [Int.tmod_eq_emod_of_nonneg (by omega)]; omega
        have uyq : (yq : Int) % 2 = 0 := by omega
        have HF := Lib.hid (pick_n (A := A) (B := B) (fun y => by have e1 := y.1; have e2 := y.2; rw [HXQ.out] at e2; rw [HA0.out] at e1; first | exact absurd e1 (by decide) | omega) (fun y => by have e1 := y.1; have e2 := y.2; rw [HYQ.out] at e2; rw [HB0.out] at e1; first | exact absurd e1 (by decide) | omega))
        go_wp2
        rw [← HW5.out]
        refine bodyPost_ret (results_cell_tmp_rowS Tryd.results19 _ _ w.heap.size 25 #[.int .u64 0, .int .i64 0, .int .i64 0, .int .i64 0, .int .i64 0, .slice none 0 0] (0, 0) _ rfl (set6_row HR5.out _ _ _ _ _ _) Tryd.underlying25 rfl infoSb) rfl ⟨⟨_, by rw [HOK.out, HF.out.1]; rfl, ?_⟩, below_set6 HK5.out (Nat.le_refl _) _ _ _ _ _ _⟩
        rw [HD.out, HF.out.2]
        exact zero_at _ _
      · have tyq : (yq : Int).tmod 2 = 1 := by rw [Int.tmod_eq_emod_of_nonneg (by omega)]; omega
        have uyq : (yq : Int) % 2 = 1 := by omega
        have HF := Lib.hid (pick_y (A := A) (B := B) HB0.out (by rw [HYQ.out]; omega) (fun y => by have e1 := y.1.1; have e2 := y.1.2; rw [HXQ.out] at e2; rw [HA0.out] at e1; first | exact absurd e1 (by decide) | omega))
        go_wp2
        rw [← HW5.out]
        refine bodyPost_ret (results_cell_tmp_rowS Tryd.results19 _ _ w.heap.size 25 #[.int .u64 yq, .int .i64 y1, .int .i64 y2, .int .i64 y3, .int .i64 y4, .slice py ny cy] (0, 0) _ rfl (set6_row HR5.out _ _ _ _ _ _) Tryd.underlying25 rfl infoSb) rfl ⟨⟨_, by rw [HOK.out, HF.out.1]; rfl, ?_⟩, below_set6 HK5.out (Nat.le_refl _) _ _ _ _ _ _⟩
        rw [HD.out, HF.out.2]
        exact ⟨_, by rw [← HY.out]; rfl, by rw [← HY.out]; exact HRY5.out.but (Bs := fun k => k = w.heap.size) (fun a n c e hn hk => by have := HNY.out a n c e hn; have := HKS.out; omega) (but_set6 _ _ _ _ _ _ _ _), by rw [← HY.out]; exact HWY.out, fun a n c e hn => by have := HNY.out a n c e hn; have := HKS.out; omega⟩
  | true =>
    have HA0 : Hid ((getS A).isSome = true) := Lib.hid H0.out.symm
    cases is0 with
    | false =>
      have HB0 : Hid ((getS B).isSome = false) := Lib.hid H1.out.symm
      rcases hpx with hp1 | hp1
      · have txq : (xq : Int).tmod 2 = 0 := by rw [Int.tmod_eq_emod_of_nonneg (by omega)]; omega
        have uxq : (xq : Int) % 2 = 0 := by omega
        have HF := Lib.hid (pick_x (A := A) (B := B) HA0.out (by rw [HXQ.out]; omega) (Or.inl (fun y => by have e1 := y.1; have e2 := y.2; rw [HYQ.out] at e2; rw [HB0.out] at e1; first | exact absurd e1 (by decide) | omega)))
        go_wp2
        rw [← HW5.out]
        refine bodyPost_ret (results_cell_tmp_rowS Tryd.results19 _ _ w.heap.size 25 #[.int .u64 xq, .int .i64 x1, .int .i64 x2, .int .i64 x3, .int .i64 x4, .slice px nx cx] (0, 0) _ rfl (set6_row HR5.out _ _ _ _ _ _) Tryd.underlying25 rfl infoSb) rfl ⟨⟨_, by rw [HOK.out, HF.out.1]; rfl, ?_⟩, below_set6 HK5.out (Nat.le_refl _) _ _ _ _ _ _⟩
        rw [HD.out, HF.out.2]
        exact ⟨_, by rw [← HX.out]; rfl, by rw [← HX.out]; exact HRX5.out.but (Bs := fun k => k = w.heap.size) (fun a n c e hn hk => by have := HNX.out a n c e hn; have := HS1.out; omega) (but_set6 _ _ _ _ _ _ _ _), by rw [← HX.out]; exact HWX.out, fun a n c e hn => by have := HNX.out a n c e hn; have := HS1.out; omega⟩
      · have txq : (xq : Int).tmod 2 = 1 := by rw [Int.tmod_eq_emod_of_nonneg (by omega)]; omega
        have uxq : (xq : Int) % 2 = 1 := by omega
        have HF := Lib.hid (pick_n (A := A) (B := B) (fun y => by have e1 := y.1; have e2 := y.2; rw [HXQ.out] at e2; rw [HA0.out] at e1; first | exact absurd e1 (by decide) | omega) (fun y => by have e1 := y.1; have e2 := y.2; rw [HYQ.out] at e2; rw [HB0.out] at e1; first | exact absurd e1 (by decide) | omega))
        go_wp2
        rw [← HW5.out]
        refine bodyPost_ret (results_cell_tmp_rowS Tryd.results19 _ _ w.heap.size 25 #[.int .u64 0, .int .i64 0, .int .i64 0, .int .i64 0, .int .i64 0, .slice none 0 0] (0, 0) _ rfl (set6_row HR5.out _ _ _ _ _ _) Tryd.underlying25 rfl infoSb) rfl ⟨⟨_, by rw [HOK.out, HF.out.1]; rfl, ?_⟩, below_set6 HK5.out (Nat.le_refl _) _ _ _ _ _ _⟩
        rw [HD.out, HF.out.2]
        exact zero_at _ _
    | true =>
      have HB0 : Hid ((getS B).isSome = true) := Lib.hid H1.out.symm
      rcases hpx with hp1 | hp1
      · rcases hpy with hp2 | hp2
        · have txq : (xq : Int).tmod 2 = 0 := by rw [Int.tmod_eq_emod_of_nonneg (by omega)]; omega
          have uxq : (xq : Int) % 2 = 0 := by omega
          have tyq : (yq : Int).tmod 2 = 0 := by rw [Int.tmod_eq_emod_of_nonneg (by omega)]; omega
          have uyq : (yq : Int) % 2 = 0 := by omega
          have HF := Lib.hid (pick_x (A := A) (B := B) HA0.out (by rw [HXQ.out]; omega) (Or.inl (fun y => by have e1 := y.1; have e2 := y.2; rw [HYQ.out] at e2; rw [HB0.out] at e1; first | exact absurd e1 (by decide) | omega)))
          go_wp2
          rw [← HW5.out]
          refine bodyPost_ret (results_cell_tmp_rowS Tryd.results19 _ _ w.heap.size 25 #[.int .u64 xq, .int .i64 x1, .int .i64 x2, .int .i64 x3, .int .i64 x4, .slice px nx cx] (0, 0) _ rfl (set6_row HR5.out _ _ _ _ _ _) Tryd.underlying25 rfl infoSb) rfl ⟨⟨_, by rw [HOK.out, HF.out.1]; rfl, ?_⟩, below_set6 HK5.out (Nat.le_refl _) _ _ _ _ _ _⟩
          rw [HD.out, HF.out.2]
          exact ⟨_, by rw [← HX.out]; rfl, by rw [← HX.out]; exact HRX5.out.but (Bs := fun k => k = w.heap.size) (fun a n c e hn hk => by have := HNX.out a n c e hn; have := HS1.out; omega) (but_set6 _ _ _ _ _ _ _ _), by rw [← HX.out]; exact HWX.out, fun a n c e hn => by have := HNX.out a n c e hn; have := HS1.out; omega⟩
        · have txq : (xq : Int).tmod 2 = 0 := by rw [Int.tmod_eq_emod_of_nonneg (by omega)]; omega
          have uxq : (xq : Int) % 2 = 0 := by omega
          have tyq : (yq : Int).tmod 2 = 1 := by rw [Int.tmod_eq_emod_of_nonneg (by omega)]; omega
          have uyq : (yq : Int) % 2 = 1 := by omega
          by_cases hgt : (xq : Int) > yq
          · have HF := Lib.hid (pick_x (A := A) (B := B) HA0.out (by rw [HXQ.out]; omega) (Or.inr (by rw [HXQ.out, HYQ.out]; omega)))
            go_wp2
            rw [← HW5.out]
            refine bodyPost_ret (results_cell_tmp_rowS Tryd.results19 _ _ w.heap.size 25 #[.int .u64 xq, .int .i64 x1, .int .i64 x2, .int .i64 x3, .int .i64 x4, .slice px nx cx] (0, 0) _ rfl (set6_row HR5.out _ _ _ _ _ _) Tryd.underlying25 rfl infoSb) rfl ⟨⟨_, by rw [HOK.out, HF.out.1]; rfl, ?_⟩, below_set6 HK5.out (Nat.le_refl _) _ _ _ _ _ _⟩
            rw [HD.out, HF.out.2]
            exact ⟨_, by rw [← HX.out]; rfl, by rw [← HX.out]; exact HRX5.out.but (Bs := fun k => k = w.heap.size) (fun a n c e hn hk => by have := HNX.out a n c e hn; have := HS1.out; omega) (but_set6 _ _ _ _ _ _ _ _), by rw [← HX.out]; exact HWX.out, fun a n c e hn => by have := HNX.out a n c e hn; have := HS1.out; omega⟩
          · have HF := Lib.hid (pick_y (A := A) (B := B) HB0.out (by rw [HYQ.out]; omega) (fun y => by have e2 := y.2; rw [HXQ.out, HYQ.out] at e2; omega))
            go_wp2
            rw [← HW5.out]
            refine bodyPost_ret (results_cell_tmp_rowS Tryd.results19 _ _ w.heap.size 25 #[.int .u64 yq, .int .i64 y1, .int .i64 y2, .int .i64 y3, .int .i64 y4, .slice py ny cy] (0, 0) _ rfl (set6_row HR5.out _ _ _ _ _ _) Tryd.underlying25 rfl infoSb) rfl ⟨⟨_, by rw [HOK.out, HF.out.1]; rfl, ?_⟩, below_set6 HK5.out (Nat.le_refl _) _ _ _ _ _ _⟩
            rw [HD.out, HF.out.2]
            exact ⟨_, by rw [← HY.out]; rfl, by rw [← HY.out]; exact HRY5.out.but (Bs := fun k => k = w.heap.size) (fun a n c e hn hk => by have := HNY.out a n c e hn; have := HKS.out; omega) (but_set6 _ _ _ _ _ _ _ _), by rw [← HY.out]; exact HWY.out, fun a n c e hn => by have := HNY.out a n c e hn; have := HKS.out; omega⟩
      · rcases hpy with hp2 | hp2
        · have txq : (xq : Int).tmod 2 = 1 := by rw [Int.tmod_eq_emod_of_nonneg (by omega)]; omega
          have uxq : (xq : Int) % 2 = 1 := by omega
          have tyq : (yq : Int).tmod 2 = 0 := by rw [Int.tmod_eq_emod_of_nonneg (by omega)]; omega
          have uyq : (yq : Int) % 2 = 0 := by omega
          have HF := Lib.hid (pick_n (A := A) (B := B) (fun y => by have e1 := y.1; have e2 := y.2; rw [HXQ.out] at e2; rw [HA0.out] at e1; first | exact absurd e1 (by decide) | omega) (fun y => by have e1 := y.1; have e2 := y.2; rw [HYQ.out] at e2; rw [HB0.out] at e1; first | exact absurd e1 (by decide) | omega))
          go_wp2
          rw [← HW5.out]
          refine bodyPost_ret (results_cell_tmp_rowS Tryd.results19 _ _ w.heap.size 25 #[.int .u64 0, .int .i64 0, .int .i64 0, .int .i64 0, .int .i64 0, .slice none 0 0] (0, 0) _ rfl (set6_row HR5.out _ _ _ _ _ _) Tryd.underlying25 rfl infoSb) rfl ⟨⟨_, by rw [HOK.out, HF.out.1]; rfl, ?_⟩, below_set6 HK5.out (Nat.le_refl _) _ _ _ _ _ _⟩
          rw [HD.out, HF.out.2]
          exact zero_at _ _
        · have txq : (xq : Int).tmod 2 = 1 := by rw [Int.tmod_eq_emod_of_nonneg (by omega)]; omega
          have uxq : (xq : Int) % 2 = 1 := by omega
          have tyq : (yq : Int).tmod 2 = 1 := by rw [Int.tmod_eq_emod_of_nonneg (by omega)]; omega
          have uyq : (yq : Int) % 2 = 1 := by omega
          have HF := Lib.hid (pick_y (A := A) (B := B) HB0.out (by rw [HYQ.out]; omega) (fun y => by have e1 := y.1.1; have e2 := y.1.2; rw [HXQ.out] at e2; rw [HA0.out] at e1; first | exact absurd e1 (by decide) | omega))
          go_wp2
          rw [← HW5.out]
          refine bodyPost_ret (results_cell_tmp_rowS Tryd.results19 _ _ w.heap.size 25 #[.int .u64 yq, .int .i64 y1, .int .i64 y2, .int .i64 y3, .int .i64 y4, .slice py ny cy] (0, 0) _ rfl (set6_row HR5.out _ _ _ _ _ _) Tryd.underlying25 rfl infoSb) rfl ⟨⟨_, by rw [HOK.out, HF.out.1]; rfl, ?_⟩, below_set6 HK5.out (Nat.le_refl _) _ _ _ _ _ _⟩
          rw [HD.out, HF.out.2]
          exact ⟨_, by rw [← HY.out]; rfl, by rw [← HY.out]; exact HRY5.out.but (Bs := fun k => k = w.heap.size) (fun a n c e hn hk => by have := HNY.out a n c e hn; have := HKS.out; omega) (but_set6 _ _ _ _ _ _ _ _), by rw [← HY.out]; exact HWY.out, fun a n c e hn => by have := HNY.out a n c e hn; have := HKS.out; omega⟩


end Go.Proofs.YtlfmmhalheohdaaDoor
