/- The walk of WeighPlaces. -/
import Derived.Test.YtmobkjdncfdokaaTexts
import Derived.Laws.BytesString
namespace Go.Proofs.Ytmobkjdncfdokaa
open Go.RowKit

theorem cell_frozen_row (w : World) (g i : Nat) (cs : Array Value) (t : TypeId) (m : Nat) (h : w.heap[g]? = some (.cells cs t (m, m + 1))) (hi : i < m) : w.frozen? ⟨g, i, none⟩ = false := by
  simp [World.frozen?, h]
  omega

theorem setCell_row (w : World) (g i : Nat) (cs : Array Value) (t : TypeId) (fr : Nat × Nat) (v : Value) (h : w.heap[g]? = some (.cells cs t fr)) : (w.setCell ⟨g, i, none⟩ v).heap[g]? = some (.cells (cs.setIfInBounds i v) t fr) := by
  simp [World.setCell, Array.getElem?_modify, h]

/-- A row of bytes of the call's own, as '[]byte(s)' lays it. -/
def ByteRow (w wr : World) (g n : Nat) (bs : List UInt8) : Prop :=
  w.heap.size ≤ g ∧ ∃ (cs : Array Value) (m : Nat), wr.heap[g]? = some (.cells cs 5 (m, m + 1)) ∧ n ≤ m ∧ bs.length = n ∧ (∀ i, i < n → cs[i]? = some (.int .u8 ((bs.getD i 0).toNat : Int))) ∧ Below w.heap.size w wr

theorem ByteRow.cell {w wr : World} {g n : Nat} {bs : List UInt8} (h : ByteRow w wr g n bs) (i : Nat) (hi : i < n) : wr.cell? ⟨g, i, none⟩ = some (.int .u8 ((bs.getD i 0).toNat : Int)) := by
  obtain ⟨_, cs, m, h1, _, _, h4, _⟩ := h
  rw [cell_of_row _ _ i _ _ _ h1]
  exact h4 i hi

theorem ByteRow.froz {w wr : World} {g n : Nat} {bs : List UInt8} (h : ByteRow w wr g n bs) (i : Nat) (hi : i < n) : wr.frozen? ⟨g, i, none⟩ = false := by
  obtain ⟨_, cs, m, h1, h2, _, _, _⟩ := h
  exact cell_frozen_row _ _ _ _ _ _ h1 (by omega)

theorem ByteRow.set {w wr : World} {g n : Nat} {bs : List UInt8} (h : ByteRow w wr g n bs) (i : Nat) (hi : i < n) (c : UInt8) : ByteRow w (wr.setCell ⟨g, i, none⟩ (.int .u8 (c.toNat : Int))) g n (bs.set i c) := by
  obtain ⟨hg, cs, m, h1, h2, h3, h4, h5⟩ := h
  refine ⟨hg, _, m, setCell_row _ _ _ _ _ _ _ h1, h2, by rw [List.length_set]; exact h3, ?_, h5.setCell hg _⟩
  intro j hj
  rw [Array.getElem?_setIfInBounds, List.getD_eq_getElem?_getD, List.getElem?_set]
  have hcs : i < cs.size := (Array.getElem?_eq_some_iff.1 (h4 i hi)).1
  by_cases e : i = j
  · subst e
    rw [if_pos rfl, if_pos hcs, if_pos rfl, if_pos (by omega)]
    rfl
  · rw [if_neg e, if_neg e, h4 j hj, List.getD_eq_getElem?_getD]

theorem ByteRow.below {w wr : World} {g n : Nat} {bs : List UInt8} (h : ByteRow w wr g n bs) : Below w.heap.size w wr := by
  obtain ⟨_, cs, m, _, _, _, _, h5⟩ := h
  exact h5

theorem bytes_row (s : ByteArray) (w0 w : World) (K : Below w0.heap.size w0 w) : ∃ c w', (convert 9 57 (.string s)).run Try.prog w = .ok (.slice (some ⟨w.heap.size, 0, none⟩) s.size c) w' ∧ ByteRow w0 w' w.heap.size s.size s.data.toList := by
  refine ⟨_, _, run_bytes_of_string w 9 57 5 s Try.underlying9 Try.underlying57 Try.underlying5, K.size, ?_⟩
  refine ⟨_, _, heap_alloc_last w.drew _, ?_, data_len s, ?_, ?_⟩
  · simp [bytesRow]
  · intro i hi
    rw [bytesRow_at s _ i hi]
    have hl : i < s.data.toList.length := by rw [data_len]; exact hi
    rw [List.getD_eq_getElem?_getD, List.getElem?_eq_getElem hl]
    rfl
  · exact K.drew.alloc K.size _

theorem ByteRow.written {w wr : World} {g n : Nat} {bs : List UInt8} (h : ByteRow w wr g n bs) (cap : Nat) :
    (convert 57 9 (.slice (some ⟨g, 0, none⟩) n cap)).run Try.prog wr = .ok (.string (str bs)) wr := by
  have hl : bs.length = n := by obtain ⟨_, _, _, _, _, h3, _⟩ := h; exact h3
  refine conv_bytes wr 57 9 5 g n cap bs hl Try.underlying57 Try.underlying5 Try.underlying9 (fun j hj => ?_)
  rw [h.cell j (by omega)]
  simp [List.getD, hj]

set_option maxHeartbeats 2000000 in
theorem walk_weighPlaces (s0 : ByteArray) (hs0 : s0.size ≤ maxLen) (i : Int) (wi : (Lit.int .u16 i).wf = true) (k : Int) (wk : (Lit.int .u16 k).wf = true) (w : World) :
    Calls Try.prog 7 #[.string s0, .int .u16 i, .int .u16 k] w (LawPost w) := by
  have hi := wf_u16 wi
  have hk := wf_u16 wk
  obtain ⟨I, rfl⟩ := Int.eq_ofNat_of_zero_le hi.1
  obtain ⟨J, rfl⟩ := Int.eq_ofNat_of_zero_le hk.1
  have C0 := cut_any s0 hs0
  have hc := cutB_size s0
  obtain ⟨s, hs⟩ : ∃ s, s = cutB s0 := ⟨_, rfl⟩
  rw [← hs] at hc C0
  have hl := data_len s
  have O1 := of_any s (by omega)
  have hsm := w_small s.data.toList (by omega)
  have o1 := order_self _ hsm.1
  have o2 := order_self _ hsm.2
  clear hs wi wk hs0
  by_cases h0 : s.size = 0
  · have hnil : s.data.toList = [] := List.length_eq_zero_iff.1 (by omega)
    rw [hnil] at O1
    have e1 : wOf [] = .complex .f64 0 0 := rfl
    rw [e1] at O1
    have oz := order_zero_zero
    have h0' : (s.size : Int) = 0 := by omega
    clear o1 o2 hsm hl hnil e1 h0
    go_enter Try.func7, Try.ntmps7
    go_wp2_with fail
    refine (C0 _).mono ?_
    rintro e w' ⟨rfl, rfl⟩
    go_wp2_with fail
    refine (O1 _).mono ?_
    rintro e w1 ⟨rfl, K1⟩
    go_wp2_with fail
    refine (awake_any _).mono ?_
    rintro e w2 ⟨rfl, hb2⟩
    go_wp2
    go_ret
    exact ⟨rfl, Below.then' K1 hb2 K1.size⟩
  · unfold wOf at O1
    obtain ⟨a, ha⟩ : ∃ a, a = I % s.size := ⟨_, rfl⟩
    have hal : a < s.size := by rw [ha]; exact Nat.mod_lt _ (by omega)
    obtain ⟨q, hq⟩ : ∃ q, q = (s.size - a % 4 + 3) / 4 := ⟨_, rfl⟩
    have hq0 : 0 < q := by omega
    obtain ⟨r, hr⟩ : ∃ r, r = J % q := ⟨_, rfl⟩
    have hrq : r < q := by rw [hr]; exact Nat.mod_lt _ hq0
    obtain ⟨b, hb⟩ : ∃ b, b = a % 4 + 4 * r := ⟨_, rfl⟩
    have hbl : b < s.size := by omega
    have hmod : a % 4 = b % 4 := by omega
    have hsw := w_swap s.data.toList a b (by omega) (by omega) hmod
    obtain ⟨ca, hca⟩ : ∃ c, c = s.data.toList[a]'(by omega) := ⟨_, rfl⟩
    obtain ⟨cb, hcb⟩ : ∃ c, c = s.data.toList[b]'(by omega) := ⟨_, rfl⟩
    rw [← hca, ← hcb] at hsw
    have hsa : s[a].toNat = ca.toNat := by rw [hca]; rfl
    have hsb : s[b].toNat = cb.toNat := by rw [hcb]; rfl
    obtain ⟨L, hL⟩ : ∃ L, L = (s.data.toList.set a cb).set b ca := ⟨_, rfl⟩
    have hLl : L.length = s.size := by rw [hL, List.length_set, List.length_set]; exact hl
    rw [← hL] at hsw
    have O2 := of_any (str L) (by rw [str_size]; omega)
    rw [str_list] at O2
    unfold wOf at O2
    rw [hsw.1, hsw.2] at O2
    have HL := Lib.hid hL
    generalize flt (wRe 0 s.data.toList) = x at *
    generalize flt (wIm 0 s.data.toList) = y at *
    have ei : (I : Int) % (s.size : Int) = (a : Int) := by rw [ha]; simp
    have hn0 : ¬ ((s.size : Int) = 0) := by omega
    have hI : (I : Int) ≤ 65535 := by omega
    have hJ : (J : Int) ≤ 65535 := by omega
    have er : (J : Int) % (((s.size : Int) - (a : Int) % 4 + 3) / 4) = (r : Int) := by
      have e1 : ((s.size : Int) - (a : Int) % 4 + 3) / 4 = (q : Int) := by rw [hq]; omega
      rw [e1, hr]; simp
    have eb : (a : Int) % 4 + 4 * (r : Int) = (b : Int) := by rw [hb]; omega
    have hr5 : (r : Int) ≤ 600 := by omega
    have ia : (a : Int) < s.size := by omega
    have ib : (b : Int) < s.size := by omega
    obtain ⟨cap, w1, hconv, hrow⟩ := bytes_row s w w (Below.refl _ _)
    have row2 := hrow.set a hal cb
    have row3 := row2.set b hbl ca
    rw [← hL] at row3
    have f1 := hrow.froz a hal
    have f2 := row2.froz b hbl
    have k1 := hrow.cell a hal
    have k2 := row2.cell b hbl
    have hwr := row3.written cap
    have K3 := row3.below
    have hsa' : (s.data[a]'hal).toNat = ca.toNat := hsa
    have hsb' : (s.data[b]'hbl).toNat = cb.toNat := hsb
    obtain ⟨va, hva⟩ : ∃ v, v = Value.int .u8 ((s.data.toList.getD a 0).toNat : Int) := ⟨_, rfl⟩
    obtain ⟨vb, hvb⟩ : ∃ v, v = Value.int .u8 (((s.data.toList.set a cb).getD b 0).toNat : Int) := ⟨_, rfl⟩
    rw [← hva] at k1
    rw [← hvb] at k2
    obtain ⟨na, hna⟩ : ∃ n : Nat, n = ca.toNat := ⟨_, rfl⟩
    obtain ⟨nb, hnb⟩ : ∃ n : Nat, n = cb.toNat := ⟨_, rfl⟩
    rw [← hna] at hsa hsa' row3 K3 hwr
    rw [← hnb] at hsb hsb' k2 f2 row3 K3 hwr
    clear hsw hsm hl hcb hca hi hk ha hq hr hb h0 hmod hrow row2 row3 HL hL hva hvb hna hnb hLl hrq hq0
    go_enter Try.func7, Try.ntmps7
    go_wp2_with fail
    refine (C0 _).mono ?_
    rintro e w' ⟨rfl, rfl⟩
    go_wp2_with fail
    refine (O2 _).mono ?_
    rintro e w2 ⟨rfl, hb2⟩
    have K4 := Below.then' K3 hb2 K3.size
    clear K3 hb2 hwr hconv f1 f2 k1 k2
    go_wp2_with fail
    refine (O1 _).mono ?_
    rintro e w3 ⟨rfl, hb3⟩
    have K5 := Below.then' K4 hb3 K4.size
    clear K4 hb3
    go_wp2_with fail
    refine (awake_any _).mono ?_
    rintro e w4 ⟨rfl, hb4⟩
    go_wp2
    go_ret
    exact ⟨rfl, Below.then' K5 hb4 K5.size⟩

end Go.Proofs.Ytmobkjdncfdokaa
