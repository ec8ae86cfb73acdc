/- The walks of pack's reader. The walk of pack's reader's List. The walks of the document's reader. -/
import Derived.Test.YtijdbmapdmhknaaDoorRows
import Derived.Test.YtijdbmapdmhknaaDoorGA
import Derived.WalkKit
import Derived.WalkSpells
import Derived.WalkLawsBesides
import Derived.Deep.OwnRows
import Derived.Lib.Hide
import Derived.Lib.Builder
import Derived.Deep.LoopGhost
import Derived.Deep.QuietTactic
import Derived.BigQuiet
namespace Go.Proofs.YtijdbmapdmhknaaDoor
open Go.RowKit

/-- A reader in the block b: what is left, and its error. -/
def RdAt (b : Nat) (s : RdSt) (w : World) : Prop := w.heap[b]? = some (.cells #[.string (str s.1), .int .i64 s.2] 97 (0, 0))

theorem RdAt.c0 {b : Nat} {s : RdSt} {w : World} (h : RdAt b s w) : w.cell? ⟨b, 0, none⟩ = some (.string (str s.1)) := by rw [Lib.cell_of_heap h]; rfl
theorem RdAt.c1 {b : Nat} {s : RdSt} {w : World} (h : RdAt b s w) : w.cell? ⟨b, 1, none⟩ = some (.int .i64 s.2) := by rw [Lib.cell_of_heap h]; rfl
theorem RdAt.f {b : Nat} {s : RdSt} {w : World} (h : RdAt b s w) (j : Nat) : w.frozen? ⟨b, j, none⟩ = false := Lib.frozen_of_heap h j
theorem RdAt.lt {b : Nat} {s : RdSt} {w : World} (h : RdAt b s w) : b < w.heap.size := (Array.getElem?_eq_some_iff.1 h).1
theorem RdAt.set0 {b : Nat} {s : RdSt} {w : World} (h : RdAt b s w) (l : List UInt8) : RdAt b (l, s.2) (w.setCell ⟨b, 0, none⟩ (.string (str l))) := by
  unfold RdAt at *
  simp [World.setCell, Array.getElem?_modify, h]
theorem RdAt.set1 {b : Nat} {s : RdSt} {w : World} (h : RdAt b s w) (e : Int) : RdAt b (s.1, e) (w.setCell ⟨b, 1, none⟩ (.int .i64 e)) := by
  unfold RdAt at *
  simp [World.setCell, Array.getElem?_modify, h]
theorem RdAt.later {b : Nat} {s : RdSt} {w w' : World} (h : RdAt b s w) {r : Option Nat} (hb : w.grownBy w' r) (hr : some b ≠ r) : RdAt b s w' := by
  unfold RdAt at *
  rw [hb.block b (Array.getElem?_eq_some_iff.1 h).1 hr]; exact h

def RdPost (b : Nat) (v : Value) (s : RdSt) (w : World) (e : Ending) (w' : World) : Prop := e = .returned v ∧ RdAt b s w' ∧ w.grownBy w' (some b)

theorem read_any (s : ByteArray) (w : World) :
    Calls Tryd.prog 38 #[.string s] w fun e w' => e = .returned (.pointer (some ⟨w.heap.size, 0, none⟩)) ∧ RdAt w.heap.size (s.data.toList, 0) w' ∧ Below w.heap.size w w' := by
  go_enter Tryd.func38, Tryd.ntmps38
  go_wp2
  go_ret
  refine ⟨rfl, ?_, (Below.refl _ _).alloc (Nat.le_refl _) _⟩
  unfold RdAt
  rw [str_data]
  exact Go.Deep.blk_alloc_new _ _

theorem fail_any (b : Nat) (s : RdSt) (er : Int) (w : World) (h : RdAt b s w) :
    Calls Tryd.prog 73 #[.pointer (some ⟨b, 0, none⟩), .int .i64 er] w (RdPost b (.tuple #[]) ([], er) w) := by
  have f0 := h.f 0
  have f1 := h.f 1
  have c0 := h.c0
  have c1 := h.c1
  go_enter Tryd.func73, Tryd.ntmps73
  go_wp2
  go_end0
  refine ⟨rfl, ?_, ?_⟩
  · exact RdAt.set1 (h.set0 []) er
  · exact grown_trans (grown_set _ _ _ _) (grown_set _ _ _ _)

set_option maxHeartbeats 400000 in
theorem take_any (b : Nat) (s : RdSt) (n : Int) (w : World) (h : RdAt b s w) (hl : s.1.length ≤ 1000000) :
    Calls Tryd.prog 57 #[.pointer (some ⟨b, 0, none⟩), .int .i64 n] w (RdPost b (.string (str (takeR s n).1)) (takeR s n).2 w) := by
  obtain ⟨l, e⟩ := s
  have f0 := h.f 0
  have f1 := h.f 1
  have c0 := h.c0
  have c1 := h.c1
  have hz : (str l).size = l.length := str_size l
  simp only at c0 c1 hl
  unfold takeR
  by_cases he : e = 0
  · subst he
    rw [if_neg (by simp)]
    by_cases hn : n < 0
    · rw [if_pos hn]
      go_enter Tryd.func57, Tryd.ntmps57
      go_wp2_with (go_at_call 73; refine (fail_any b _ 1 _ h).mono ?_; rintro e w' ⟨rfl, h1, h2⟩)
      go_ret
      exact ⟨rfl, h1, h2⟩
    · rw [if_neg hn]
      by_cases hb : (l.length : Int) < n
      · rw [if_pos hb]
        go_enter Tryd.func57, Tryd.ntmps57
        go_wp2_with (go_at_call 73; refine (fail_any b _ 10 _ h).mono ?_; rintro e w' ⟨rfl, h1, h2⟩)
        go_ret
        exact ⟨rfl, h1, h2⟩
      · rw [if_neg hb]
        obtain ⟨k, rfl⟩ := Int.eq_ofNat_of_zero_le (show 0 ≤ n by omega)
        have ht := str_take l k
        have hd := str_drop l k
        go_enter Tryd.func57, Tryd.ntmps57
        go_wp2
        go_ret
        refine ⟨rfl, ?_, grown_set _ _ _ _⟩
        exact h.set0 (l.drop k)
  · rw [if_pos he]
    have he' : (e == 0) = false := by simpa using he
    have he'' : (e != 0) = true := by simpa using he
    have HE := Lib.hid he
    clear he
    go_enter Tryd.func57, Tryd.ntmps57
    go_wp2
    go_ret
    exact ⟨rfl, h, grown_refl _ _⟩

theorem takeR_len (s : RdSt) (n : Int) : (takeR s n).2.1.length ≤ s.1.length := by
  unfold takeR
  split
  · simp
  · split
    · simp
    · split <;> simp

theorem takeR_le (s : RdSt) (k : Nat) : (takeR s k).1.length ≤ k := by
  unfold takeR
  split
  · simp
  · split
    · simp
    · split
      · simp
      · simp [List.length_take]; omega

set_option maxHeartbeats 400000 in
theorem number_any (b : Nat) (s : RdSt) (k : Nat) (hk : k ≤ 8) (w : World) (h : RdAt b s w) (hl : s.1.length ≤ 1000000) :
    Calls Tryd.prog 74 #[.pointer (some ⟨b, 0, none⟩), .int .i64 k] w (RdPost b (.int .u64 (numR s k).1) (numR s k).2 w) := by
  unfold numR
  have hx := takeR_le s k
  go_enter Tryd.func74, Tryd.ntmps74
  go_wp2_with (go_at_call 57; refine (take_any b s k _ h hl).mono ?_; rintro e w' ⟨rfl, h1, h2⟩)
  obtain ⟨x, hX⟩ : ∃ x, (takeR s k).1 = x := ⟨_, rfl⟩
  rw [hX] at hx ⊢
  have HX := Lib.hid hX
  clear hX h hl
  have hz : (str x).size = x.length := str_size x
  go_wp2
  go_loop [6, 13] (fun n y => ∃ i : Nat, i ≤ x.length ∧ y = .int .i64 i ∧ n = .int .u64 (ofLE (x.take i))) (fun _ y => x.length - (intOf y).toNat)
  case atStart => exact ⟨0, Nat.zero_le _, rfl, rfl⟩
  case round =>
    obtain ⟨i, hi, rfl, rfl⟩ := hrel
    by_cases hlt : i < x.length
    · have hlt' := ofLE_lt (x.take i)
      rw [List.length_take, Nat.min_eq_left (by omega)] at hlt'
      have hB := x[i].toNat_lt
      have HO := Lib.hid (or_step (ofLE (x.take i)) (x[i]).toNat i hlt' (by omega) (by omega))
      have HT := Lib.hid (ofLE_take x i hlt)
      clear hlt' hB
      go_wp2
      go_round
      case rel => exact ⟨i + 1, by omega, by go_num, by rw [HT.out, ← HO.out]; rfl⟩
      case measure => simp [intOf]; omega
    · obtain rfl : i = x.length := by omega
      rw [List.take_length]
      go_wp2
      go_ret
      exact ⟨by rw [HX.out]; rfl, h1, h2⟩

theorem numR_lt (s : RdSt) (k : Nat) : (numR s k).1 < 256 ^ k :=
  Nat.lt_of_lt_of_le (ofLE_lt _) (Nat.pow_le_pow_right (by omega) (takeR_le s k))

theorem numR_len (s : RdSt) (k : Nat) : (numR s k).2.1.length ≤ s.1.length := takeR_len s k

theorem u16r_any (b : Nat) (s : RdSt) (w : World) (h : RdAt b s w) (hl : s.1.length ≤ 1000000) :
    Calls Tryd.prog 61 #[.pointer (some ⟨b, 0, none⟩)] w (RdPost b (.int .u16 (numR s 2).1) (numR s 2).2 w) := by
  have hb : (numR s 2).1 < 65536 := numR_lt s 2
  go_enter Tryd.func61, Tryd.ntmps61
  go_wp2_with (go_at_call 74; refine (number_any b s 2 (by omega) _ h hl).mono ?_; rintro e w' ⟨rfl, h1, h2⟩)
  go_ret
  exact ⟨rfl, h1, h2⟩

theorem u32r_any (b : Nat) (s : RdSt) (w : World) (h : RdAt b s w) (hl : s.1.length ≤ 1000000) :
    Calls Tryd.prog 58 #[.pointer (some ⟨b, 0, none⟩)] w (RdPost b (.int .u32 (numR s 4).1) (numR s 4).2 w) := by
  have hb : (numR s 4).1 < 4294967296 := numR_lt s 4
  go_enter Tryd.func58, Tryd.ntmps58
  go_wp2_with (go_at_call 74; refine (number_any b s 4 (by omega) _ h hl).mono ?_; rintro e w' ⟨rfl, h1, h2⟩)
  go_ret
  exact ⟨rfl, h1, h2⟩

theorem length_any (b : Nat) (s : RdSt) (w : World) (h : RdAt b s w) (hl : s.1.length ≤ 1000000) :
    Calls Tryd.prog 75 #[.pointer (some ⟨b, 0, none⟩), .int .u32 65536] w (RdPost b (.int .i64 (lenR s 65536).1) (lenR s 65536).2 w) := by
  have hb : (numR s 4).1 < 4294967296 := numR_lt s 4
  unfold lenR
  by_cases hm : 65536 < (numR s 4).1
  · rw [if_pos hm]
    go_enter Tryd.func75, Tryd.ntmps75
    go_wp2_with (go_at_call 58; refine (u32r_any b s _ h hl).mono ?_; rintro e w' ⟨rfl, h1, h2⟩)
    go_wp2_with (go_at_call 73; refine (fail_any b _ 2 _ h1).mono ?_; rintro e w'' ⟨rfl, h3, h4⟩)
    go_ret
    exact ⟨rfl, h3, grown_trans h2 h4⟩
  · rw [if_neg hm]
    go_enter Tryd.func75, Tryd.ntmps75
    go_wp2_with (go_at_call 58; refine (u32r_any b s _ h hl).mono ?_; rintro e w' ⟨rfl, h1, h2⟩)
    go_ret
    exact ⟨rfl, h1, h2⟩

theorem lenR_len (s : RdSt) (m : Nat) : (lenR s m).2.1.length ≤ s.1.length := by
  unfold lenR
  split
  · simp
  · exact numR_len s 4

theorem textR_len (s : RdSt) : (textR s).2.1.length ≤ s.1.length := Nat.le_trans (takeR_len _ _) (lenR_len s _)

theorem textr_any (b : Nat) (s : RdSt) (w : World) (h : RdAt b s w) (hl : s.1.length ≤ 1000000) :
    Calls Tryd.prog 60 #[.pointer (some ⟨b, 0, none⟩)] w (RdPost b (.string (str (textR s).1)) (textR s).2 w) := by
  have hl2 := lenR_len s 65536
  unfold textR
  go_enter Tryd.func60, Tryd.ntmps60
  go_wp2_with (go_at_call 75; refine (length_any b s _ h hl).mono ?_; rintro e w' ⟨rfl, h1, h2⟩)
  go_wp2_with (go_at_call 57; refine (take_any b _ _ _ h1 (by omega)).mono ?_; rintro e w'' ⟨rfl, h3, h4⟩)
  go_ret
  exact ⟨rfl, h3, grown_trans h2 h4⟩

/-- What End answers. -/
def endR (s : RdSt) : Int := if s.2 = 0 ∧ s.1 ≠ [] then 7 else s.2

end Go.Proofs.YtijdbmapdmhknaaDoor
namespace Go.Proofs.YtijdbmapdmhknaaDoor
open Go.RowKit

theorem infoStr : (Tryd.prog.info? 9).map (fun i => (i.zero, i.size, i.bytes)) = some (some (.string ⟨#[]⟩), 1, 16) := by kernel_rfl

theorem lenR_le (s : RdSt) : (lenR s 65536).1 ≤ 65536 := by
  unfold lenR
  split
  · simp
  · omega

def ListPost (b : Nat) (s : RdSt) (w : World) (e : Ending) (w' : World) : Prop :=
  ∃ v, e = .returned v ∧ StrAt ((listR s).1.map str) v w' ∧ RdAt b (listR s).2 w' ∧ w.grownBy w' (some b)

/-- A row of the call's own that holds texts is a slice of them. -/
theorem strAt_own {w : World} {B : Nat} {v : Value} {acc : List (List UInt8)} (h : w.ownsRow B 9 1 v acc.length (acc.map fun l => Value.string (str l))) : StrAt (acc.map str) v w := by
  rcases h.2 with ⟨rfl, h0⟩ | ⟨g, cap, cur, rfl, _, hg, _, _, hcs, htake⟩
  · have : acc = [] := List.length_eq_zero_iff.1 h0
    subst this
    exact ⟨none, 0, rfl, Or.inl rfl⟩
  · refine ⟨some ⟨g, 0, none⟩, cap, by simp, Or.inr ⟨g, 0, rfl, fun i hi => ?_⟩⟩
    have hi' : i < acc.length := by simpa using hi
    have := h.cells (g := g) rfl i (.string (str acc[i])) (by simp [hi'])
    have e : (⟨g, 0, none⟩ : Addr).add i = ⟨g, 0 + i, none⟩ := by unfold Addr.add; split <;> simp_all
    rw [e] at this
    rw [this]; simp

/-- .. the list in new memory. -/
def ListOwn (b : Nat) (s : RdSt) (w : World) (e : Ending) (w' : World) : Prop :=
  ∃ v, e = .returned v ∧ w'.ownsRow w.heap.size 9 1 v (listR s).1.length ((listR s).1.map fun l => Value.string (str l)) ∧ RdAt b (listR s).2 w' ∧ w.grownBy w' (some b)

end Go.Proofs.YtijdbmapdmhknaaDoor
namespace Go.Proofs.YtijdbmapdmhknaaDoor
open Go.RowKit

/-- The document's reader in the block b: its bytes, a place, an error. -/
def RfIn (b : Nat) (S : List UInt8) (i : Nat) (e : Int) (w : World) : Prop := w.heap[b]? = some (.cells #[.string (str S), .int .i64 i, .int .i64 e] 78 (0, 0))

/-- .. with what is left of its bytes. -/
def RfAt (b : Nat) (s : RdSt) (w : World) : Prop := ∃ S i, RfIn b S i s.2 w ∧ S.drop i = s.1 ∧ i ≤ S.length ∧ S.length ≤ 1000000

theorem RfIn.c0 {b : Nat} {S : List UInt8} {i : Nat} {e : Int} {w : World} (h : RfIn b S i e w) : w.cell? ⟨b, 0, none⟩ = some (.string (str S)) := by rw [Lib.cell_of_heap h]; rfl
theorem RfIn.c1 {b : Nat} {S : List UInt8} {i : Nat} {e : Int} {w : World} (h : RfIn b S i e w) : w.cell? ⟨b, 1, none⟩ = some (.int .i64 i) := by rw [Lib.cell_of_heap h]; rfl
theorem RfIn.c2 {b : Nat} {S : List UInt8} {i : Nat} {e : Int} {w : World} (h : RfIn b S i e w) : w.cell? ⟨b, 2, none⟩ = some (.int .i64 e) := by rw [Lib.cell_of_heap h]; rfl
theorem RfIn.f {b : Nat} {S : List UInt8} {i : Nat} {e : Int} {w : World} (h : RfIn b S i e w) (j : Nat) : w.frozen? ⟨b, j, none⟩ = false := Lib.frozen_of_heap h j
theorem RfIn.lt {b : Nat} {S : List UInt8} {i : Nat} {e : Int} {w : World} (h : RfIn b S i e w) : b < w.heap.size := (Array.getElem?_eq_some_iff.1 h).1
theorem RfIn.set1 {b : Nat} {S : List UInt8} {i : Nat} {e : Int} {w : World} (h : RfIn b S i e w) (j : Nat) : RfIn b S j e (w.setCell ⟨b, 1, none⟩ (.int .i64 j)) := by
  unfold RfIn at *
  simp [World.setCell, Array.getElem?_modify, h]
theorem RfIn.set2 {b : Nat} {S : List UInt8} {i : Nat} {e : Int} {w : World} (h : RfIn b S i e w) (e' : Int) : RfIn b S i e' (w.setCell ⟨b, 2, none⟩ (.int .i64 e')) := by
  unfold RfIn at *
  simp [World.setCell, Array.getElem?_modify, h]
theorem RfIn.drew {b : Nat} {S : List UInt8} {i : Nat} {e : Int} {w : World} (h : RfIn b S i e w) (n : Nat) : RfIn b S i e (w.drewN n) := h
theorem RfAt.later {b : Nat} {s : RdSt} {w w' : World} (h : RfAt b s w) {r : Option Nat} (hb : w.grownBy w' r) (hr : some b ≠ r) : RfAt b s w' := by
  obtain ⟨S, i, h1, h2⟩ := h
  refine ⟨S, i, ?_, h2⟩
  unfold RfIn at *
  rw [hb.block b (Array.getElem?_eq_some_iff.1 h1).1 hr]; exact h1
theorem RfAt.lt {b : Nat} {s : RdSt} {w : World} (h : RfAt b s w) : b < w.heap.size := by obtain ⟨_, _, h, _⟩ := h; exact h.lt
theorem RfAt.len {b : Nat} {s : RdSt} {w : World} (h : RfAt b s w) : s.1.length ≤ 1000000 := by
  obtain ⟨S, i, _, h2, _, h4⟩ := h
  rw [← h2, List.length_drop]
  omega
theorem grown_drew (w : World) (n : Nat) (r : Option Nat) : w.grownBy (w.drewN n) r := ⟨rfl, rfl, rfl, Nat.le_refl _, fun _ _ _ => rfl⟩

def RfPost (b : Nat) (v : Value) (s : RdSt) (w : World) (e : Ending) (w' : World) : Prop := e = .returned v ∧ RfAt b s w' ∧ w.grownBy w' (some b)

theorem rfail_any (b : Nat) (S : List UInt8) (i : Nat) (er : Int) (w : World) (h : RfIn b S i 0 w) (hS : S.length ≤ 1000000) :
    Calls Tryd.prog 63 #[.pointer (some ⟨b, 0, none⟩), .int .i64 er] w (RfPost b (.tuple #[]) ([], er) w) := by
  have f1 := h.f 1
  have f2 := h.f 2
  have c0 := h.c0
  have c1 := h.c1
  have c2 := h.c2
  have hz : (str S).size = S.length := str_size S
  go_enter Tryd.func63, Tryd.ntmps63
  go_wp2
  go_end0
  refine ⟨rfl, ⟨S, S.length, ?_, by simp, Nat.le_refl _, hS⟩, ?_⟩
  · exact RfIn.set1 (h.set2 er) S.length
  · exact grown_trans (grown_set _ _ _ _) (grown_set _ _ _ _)

/-- An error that is there stays. -/
theorem rfail_no (b : Nat) (s : RdSt) (er : Int) (w : World) (h : RfAt b s w) (he : (s.2 == 0) = false) :
    Calls Tryd.prog 63 #[.pointer (some ⟨b, 0, none⟩), .int .i64 er] w (RfPost b (.tuple #[]) s w) := by
  obtain ⟨S, i, h1, h2⟩ := h
  have c2 := h1.c2
  go_enter Tryd.func63, Tryd.ntmps63
  go_wp2
  go_end0
  exact ⟨rfl, ⟨S, i, h1, h2⟩, grown_refl _ _⟩

theorem str_mid (S : List UInt8) (i k : Nat) : (str S).extract i (i + k) = str ((S.drop i).take k) := by
  have h := Lib.extract_eq (str S) i (i + k)
  rw [h, str_list]
  unfold str
  congr 3
  omega

set_option maxHeartbeats 1000000 in
theorem rtake_any (b : Nat) (s : RdSt) (n : Int) (hn : (Lit.int .i64 n).wf = true) (w : World) (h : RfAt b s w) :
    Calls Tryd.prog 42 #[.pointer (some ⟨b, 0, none⟩), .int .i64 n] w (RfPost b (.string (str (takeR s n).1)) (takeR s n).2 w) := by
  obtain ⟨l, e⟩ := s
  obtain ⟨S, i, h, hd, hi, hS⟩ := h
  simp only at h hd
  have f1 := h.f 1
  have c0 := h.c0
  have c1 := h.c1
  have c2 := h.c2
  have hz : (str S).size = S.length := str_size S
  have hl : l.length = S.length - i := by rw [← hd, List.length_drop]
  unfold takeR
  by_cases he : e = 0
  · subst he
    rw [if_neg (by simp)]
    by_cases hn0 : n < 0
    · rw [if_pos hn0]
      go_enter Tryd.func42, Tryd.ntmps42
      go_wp2_with (go_at_call 63; refine (rfail_any b S i 1 _ h hS).mono ?_; rintro e w' ⟨rfl, h1, h2⟩)
      go_ret
      exact ⟨rfl, h1, h2⟩
    · rw [if_neg hn0]
      by_cases hb : (l.length : Int) < n
      · rw [if_pos hb]
        have hb' : (S.length : Int) - (i : Int) < n := by omega
        go_enter Tryd.func42, Tryd.ntmps42
        go_wp2
        go_quiet (fail)
        go_wp2_with (go_at_call 63; refine (rfail_any b S i 10 _ (h.drew _) hS).mono ?_; rintro e w' ⟨rfl, h1, h2⟩)
        go_ret
        exact ⟨rfl, h1, grown_trans (grown_drew _ _ _) h2⟩
      · rw [if_neg hb]
        obtain ⟨k, rfl⟩ := Int.eq_ofNat_of_zero_le (show 0 ≤ n by omega)
        have hb' : ¬ (S.length : Int) - (i : Int) < k := by omega
        have hm := str_mid S i k
        have hik : i + k ≤ S.length := by omega
        go_enter Tryd.func42, Tryd.ntmps42
        go_wp2
        go_quiet (fail)
        go_wp2
        go_quiet (fail)
        go_wp2
        go_ret
        refine ⟨?_, ⟨S, i + k, ?_, ?_, hik, hS⟩, ?_⟩
        · show Ending.returned (.string ((str S).extract i (i + k))) = _
          rw [hm, hd]; rfl
        · have e : (i : Int) + (k : Int) = ((i + k : Nat) : Int) := by omega
          rw [e]
          exact RfIn.set1 (h.drew _) (i + k)
        · show S.drop (i + k) = l.drop k
          rw [← hd, List.drop_drop]
        · exact grown_trans (grown_drew _ _ _) (grown_set _ _ _ _)
  · rw [if_pos he]
    have he' : (e == 0) = false := by simpa using he
    have he'' : (e != 0) = true := by simpa using he
    have HE := Lib.hid he
    clear he
    go_enter Tryd.func42, Tryd.ntmps42
    go_wp2
    go_ret
    exact ⟨rfl, ⟨S, i, h, hd, hi, hS⟩, grown_refl _ _⟩

theorem ofLE_drop (x : List UInt8) (j : Nat) (h : j < x.length) : ofLE (x.drop j) = x[j].toNat + 256 * ofLE (x.drop (j + 1)) := by
  rw [List.drop_eq_getElem_cons h]
  rfl

theorem wrap_step (q c : Nat) (hq : q ≤ 72057594037927935) (hc : c < 256) : IntKind.u64.wrap ((q : Int) * 256 + IntKind.u64.wrap (c : Int)) = ((c + 256 * q : Nat) : Int) := by
  rw [IntWalk.u64_in (c : Int) (by omega), IntWalk.u64_in _ (by omega)]
  omega

set_option maxHeartbeats 1000000 in
theorem rnum_any (b : Nat) (s : RdSt) (k : Nat) (hk : k ≤ 8) (w : World) (h : RfAt b s w) :
    Calls Tryd.prog 43 #[.pointer (some ⟨b, 0, none⟩), .int .i64 k] w (RfPost b (.int .u64 (numR s k).1) (numR s k).2 w) := by
  unfold numR
  have hx := takeR_le s k
  have hkw : (Lit.int .i64 (k : Int)).wf = true := by
    simp [Lit.wf, IntKind.min, IntKind.max, IntKind.signed, IntKind.bits]; omega
  have CT := rtake_any b s k hkw w h
  clear hkw h
  obtain ⟨x, hX⟩ : ∃ x, (takeR s k).1 = x := ⟨_, rfl⟩
  rw [hX] at hx CT ⊢
  clear hX
  have hz : (str x).size = x.length := str_size x
  go_enter Tryd.func43, Tryd.ntmps43
  go_wp2_with (go_at_call 42; refine CT.mono ?_; rintro e w' ⟨rfl, h1, h2⟩)
  clear CT
  go_loop [6, 7] (fun n y => ∃ j : Nat, j ≤ x.length ∧ y = .int .i64 ((j : Int) - 1) ∧ n = .int .u64 (ofLE (x.drop j))) (fun _ y => (intOf y + 1).toNat)
  case atStart => exact ⟨x.length, Nat.le_refl _, rfl, by simp [ofLE]⟩
  case round =>
    obtain ⟨j, hj, rfl, rfl⟩ := hrel
    cases j with
    | zero =>
      go_wp2
      go_ret
      exact ⟨rfl, h1, h2⟩
    | succ j =>
      have hj' : j < x.length := by omega
      have ho := ofLE_drop x j hj'
      have hlt := ofLE_lt (x.drop (j + 1))
      rw [List.length_drop] at hlt
      have hp : 256 ^ (x.length - (j + 1)) ≤ 256 ^ 7 := Nat.pow_le_pow_right (by omega) (by omega)
      have hB := x[j].toNat_lt
      have e1 : ((j + 1 : Nat) : Int) - 1 = (j : Int) := by omega
      have hbd : ofLE (x.drop (j + 1)) ≤ 72057594037927935 := by omega
      obtain ⟨q, hq⟩ : ∃ q, ofLE (x.drop (j + 1)) = q := ⟨_, rfl⟩
      rw [hq] at ho hbd ⊢
      have HO := Lib.hid ho
      clear ho hlt hp hq
      rw [e1]
      have HW := Lib.hid (wrap_step q (x[j]).toNat hbd hB)
      clear hB
      go_wp2
      go_round
      case rel => exact ⟨j, by omega, rfl, by rw [HO.out, ← HW.out]; rfl⟩
      case measure => simp [intOf]

theorem rnum4 (b : Nat) (s : RdSt) (w : World) (h : RfAt b s w) : Calls Tryd.prog 43 #[.pointer (some ⟨b, 0, none⟩), .int .i64 4] w (RfPost b (.int .u64 (numR s 4).1) (numR s 4).2 w) := rnum_any b s 4 (by omega) w h

/-- A reading that gave more than nothing had no error. -/
theorem numR_pos {s : RdSt} {k : Nat} (h : 0 < (numR s k).1) : (numR s k).2.2 = 0 := by
  unfold numR at *
  simp only at *
  unfold takeR at *
  by_cases h0 : s.2 = 0
  · rw [if_neg (by simpa using h0)] at h ⊢
    by_cases h1 : (k : Int) < 0
    · rw [if_pos h1] at h; simp [ofLE] at h
    · rw [if_neg h1] at h ⊢
      by_cases h2 : (s.1.length : Int) < k
      · rw [if_pos h2] at h; simp [ofLE] at h
      · rw [if_neg h2]
  · rw [if_pos h0] at h; simp [ofLE] at h

theorem rfail_at (b : Nat) (s : RdSt) (er : Int) (w : World) (h : RfAt b s w) (he : s.2 = 0) :
    Calls Tryd.prog 63 #[.pointer (some ⟨b, 0, none⟩), .int .i64 er] w (RfPost b (.tuple #[]) ([], er) w) := by
  obtain ⟨l, e⟩ := s
  simp only at he
  subst he
  obtain ⟨S, i, h1, _, _, hS⟩ := h
  exact rfail_any b S i er w h1 hS

theorem takeR_none (l : List UInt8) (e n : Int) (he : e ≠ 0) : takeR (l, e) n = ([], (l, e)) := by
  unfold takeR
  rw [if_pos he]

theorem wf_of_le (n : Int) (h0 : 0 ≤ n) (h : n ≤ 4294967295) : (Lit.int .i64 n).wf = true := by
  simp [Lit.wf, IntKind.min, IntKind.max, IntKind.signed, IntKind.bits]; omega

theorem rtext_any (b : Nat) (s : RdSt) (w : World) (h : RfAt b s w) :
    Calls Tryd.prog 45 #[.pointer (some ⟨b, 0, none⟩)] w (RfPost b (.string (str (textR s).1)) (textR s).2 w) := by
  have hb : (numR s 4).1 < 4294967296 := numR_lt s 4
  have CN := rnum4 b s w h
  unfold textR lenR
  by_cases hm : 65536 < (numR s 4).1
  · have h0 := numR_pos (s := s) (k := 4) (by omega)
    rw [if_pos hm, takeR_none _ _ _ (by omega)]
    have hw := wf_of_le (numR s 4).1 (by omega) (by omega)
    obtain ⟨n, hn⟩ : ∃ n, (numR s 4).1 = n := ⟨_, rfl⟩
    obtain ⟨t, ht⟩ : ∃ t, (numR s 4).2 = t := ⟨_, rfl⟩
    rw [hn, ht] at CN
    rw [hn] at hb hm hw
    rw [ht] at h0
    clear hn ht
    have H0 := Lib.hid h0
    clear h0 h
    have hm' : (65536 : Int) < (n : Int) := by omega
    go_enter Tryd.func45, Tryd.ntmps45
    go_wp2_with (go_at_call 43; refine CN.mono ?_; rintro e w1 ⟨rfl, h1, h2⟩)
    go_wp2_with (go_at_call 63; refine (rfail_at b _ 2 _ h1 H0.out).mono ?_; rintro e w2 ⟨rfl, h3, h4⟩)
    go_wp2_with (go_at_call 42; refine (rtake_any b _ n hw _ h3).mono ?_; rintro e w3 ⟨rfl, h5, h6⟩)
    rw [takeR_none _ _ _ (by omega)] at h5 ⊢
    go_ret
    exact ⟨rfl, h5, grown_trans (grown_trans h2 h4) h6⟩
  · rw [if_neg hm]
    have hw := wf_of_le (numR s 4).1 (by omega) (by omega)
    obtain ⟨n, hn⟩ : ∃ n, (numR s 4).1 = n := ⟨_, rfl⟩
    obtain ⟨t, ht⟩ : ∃ t, (numR s 4).2 = t := ⟨_, rfl⟩
    rw [hn, ht] at CN
    rw [hn] at hb hm hw
    have HN := Lib.hid hn
    have HT := Lib.hid ht
    clear hn ht h
    have hm' : ¬ (65536 : Int) < (n : Int) := by omega
    go_enter Tryd.func45, Tryd.ntmps45
    go_wp2_with (go_at_call 43; refine CN.mono ?_; rintro e w1 ⟨rfl, h1, h2⟩)
    go_wp2_with (go_at_call 42; refine (rtake_any b _ n hw _ h1).mono ?_; rintro e w3 ⟨rfl, h5, h6⟩)
    go_ret
    exact ⟨by rw [HN.out, HT.out]; rfl, by rw [HN.out, HT.out]; exact h5, grown_trans h2 h6⟩

end Go.Proofs.YtijdbmapdmhknaaDoor
