/- The document's Entry, May, Same. The document's Same. The document's Bytes. -/
import Derived.Test.YteompckehokdoaaGreatDoorMnE
namespace Go.Proofs.YteompckehokdoaaGreatDoor
open Go.RowKit

end Go.Proofs.YteompckehokdoaaGreatDoor
namespace Go.Proofs.YteompckehokdoaaGreatDoor
open Go.RowKit

end Go.Proofs.YteompckehokdoaaGreatDoor
namespace Go.Proofs.YteompckehokdoaaGreatDoor
open Go.RowKit

/-- A sum as the machine has it. -/
def wrapI (z : Int) : Int := IntKind.i64.wrap z
theorem wrapI_mod (a : Int) : wrapI a % 18446744073709551616 = a % 18446744073709551616 := by
  simp [wrapI, IntKind.wrap, IntKind.bits, IntKind.signed]
  split <;> omega
theorem wrapI_of {a b : Int} (h : a % 18446744073709551616 = b % 18446744073709551616) : wrapI a = wrapI b := by
  unfold wrapI IntKind.wrap
  have h2 : a % 2 ^ IntKind.i64.bits = b % 2 ^ IntKind.i64.bits := h
  simp only [h2]
theorem wrapI_add (a b : Int) : IntKind.i64.wrap (wrapI a + b) = wrapI (a + b) := by
  refine wrapI_of (a := wrapI a + b) (b := a + b) ?_
  have := wrapI_mod a
  omega

set_option maxRecDepth 100000 in
set_option maxHeartbeats 4000000 in
theorem rbytes15_any (m : Mf) (v : Value) (w : World) (H : ManIs m v w) (hl : m.es.length ≤ 1000000) :
    Calls Tryz.prog 9 #[v] w fun e w' => e = .returned (.int .i64 (wrapI (sumM m))) ∧ Kept w w' := by
  obtain ⟨hid, sv, rfl, he⟩ := H
  obtain ⟨p, c, rfl, hcap, hc⟩ := he.out encE
  have HE := Lib.hid he
  have HC := Lib.hid hc
  obtain ⟨n, hn⟩ : ∃ n, n = m.es.length := ⟨_, rfl⟩
  have HN := Lib.hid hn
  obtain ⟨id, hidd⟩ : ∃ i, i = m.id := ⟨_, rfl⟩
  rw [← hn] at hl hcap
  rw [← hn, ← hidd]
  have HL := Lib.hid hl
  obtain ⟨res, hres⟩ : ∃ r, r = wrapI (sumM m) := ⟨_, rfl⟩
  rw [← hres]
  have HRES : Hid (res = wrapI ((m.es.map En.len).sum)) := Lib.hid hres
  obtain ⟨W1, hW1⟩ : ∃ W1, W1 = w.alloc (.cells #[.int .u32 (id : Nat), .slice p n c] 25) := ⟨_, rfl⟩
  have HW1 := Lib.hid hW1
  have hrow := heap_alloc_last w (.cells #[.int .u32 (id : Nat), .slice p n c] 25)
  rw [← hW1] at hrow
  have HROW := Lib.hid hrow
  have HK1 : Hid (Kept w W1) := Lib.hid (by rw [hW1]; exact box_below _ _)
  clear he hc hn hidd hW1 hrow hl hid hcap hres
  go_enter Tryz.func9, Tryz.ntmps9
  go_wp2
  rw [← HW1.out]
  go_loopg [3, 4] n (fun gh s y wr => ∃ (k : Nat) (x : Int), k + gh = n ∧ s = .int .i64 x ∧ y = .int .i64 k ∧ Hid (x = wrapI (((m.es.take k).map En.len).sum)) ∧ Hid (Kept W1 wr))
  case atStart => exact ⟨0, 0, by omega, rfl, rfl, Lib.hid rfl, Lib.hid (Kept.refl W1)⟩
  case round =>
    obtain ⟨k, x, hk, rfl, rfl, HX, HK⟩ := hrel
    have hr1 := Kept.row HK.out HROW.out
    have e1 : wr.cell? ⟨w.heap.size, 1, none⟩ = some (.slice p n c) := by rw [cell_of_row _ _ _ _ _ _ hr1]; rfl
    have HKW : Hid (Kept w wr) := Lib.hid ((show Kept w W1 from HK1.out).then HK.out)
    by_cases hlt : k < n
    · have hki : (k : Int) < n := by omega
      have bk : decide ((k : Int) < (n : Int)) = true := by simpa using hki
      have hki0 : (0 : Int) ≤ k := by omega
      have hkl : k < m.es.length := by have := HN.out; omega
      rcases HC.out with h0 | ⟨b, off, rfl, hcell⟩
      · have := HN.out; omega
      have hwf := HE.out.good _ (List.getElem_mem hkl)
      have d1 := Kept.cell HKW.out (hcell k hkl 32 _ (enL_n hwf.1))
      have htk : m.es.take (k + 1) = m.es.take k ++ [m.es[k]] := List.take_succ_eq_append_getElem hkl
      obtain ⟨z, hz⟩ : ∃ z, z = (m.es[k]).len := ⟨_, rfl⟩
      rw [← hz] at d1
      obtain ⟨k1, hk1⟩ : ∃ k1, k1 = k + 1 := ⟨_, rfl⟩
      have v1 : IntKind.i64.wrap ((k : Int) + 1) = (k1 : Int) := by rw [show (k : Int) + 1 = (k1 : Int) by omega]; exact IntWalk.i64_in _ (by have := HL.out; omega)
      obtain ⟨x1, hx1⟩ : ∃ x1, x1 = IntKind.i64.wrap (x + z) := ⟨_, rfl⟩
      have v2 : IntKind.i64.wrap (x + z) = x1 := hx1.symm
      have HX1 : Hid (x1 = wrapI (((m.es.take k1).map En.len).sum)) := Lib.hid (by
        rw [hx1, HX.out, wrapI_add, hk1, htk, List.map_append, List.sum_append, hz]
        simp)
      have HKK : Hid (k1 = k + 1 ∧ k + gk = n ∧ k < n) := Lib.hid ⟨hk1, hk, hlt⟩
      clear hcell hwf htk hz hk1 hx1 hk hlt hkl HX hr1
      go_wp2
      go_roundg (n - k1)
      · exact ⟨k1, x1, by have := HKK.out; omega, rfl, by first | rfl | (have := HKK.out; congr 1; omega), HX1, HK⟩
      · have := HKK.out; omega
    · have hki : ¬ (k : Int) < n := by omega
      have bk : decide ((k : Int) < (n : Int)) = false := by simpa using hki
      obtain rfl : res = x := by rw [HRES.out, HX.out, List.take_of_length_le (by have := HN.out; omega)]
      go_wp2
      go_ret
      exact ⟨rfl, HKW.out⟩

end Go.Proofs.YteompckehokdoaaGreatDoor
