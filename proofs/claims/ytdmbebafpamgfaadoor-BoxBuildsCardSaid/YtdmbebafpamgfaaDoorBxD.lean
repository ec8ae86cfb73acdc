/- The document's May, Good, front, Size, Where. -/
import Derived.Test.YtdmbebafpamgfaaDoorBxR
namespace Go.Proofs.YtdmbebafpamgfaaDoor
open Go.RowKit

theorem take_eq_of {α : Type} (l : List α) (n : Nat) (h : l.length = n) : l.take n = l := List.take_of_length_le (by omega)

set_option maxRecDepth 100000 in
set_option maxHeartbeats 4000000 in
theorem rmay14_any (id : Nat) (hid : id < 4294967296) (L : List ByteArray) (v : Value) (w : World) (h : StrAt L v w) (hl : L.length ≤ 1000000) :
    Calls Tryd.prog 13 #[.int .u32 (id : Nat), v] w fun e w' => e = .returned (.bool (decide (mayC id L))) ∧ Kept w w' := by
  obtain ⟨ir, hir, hx⟩ := Option.map_eq_some_iff.1 infoIntX
  simp only [Prod.mk.injEq] at hx
  obtain ⟨hz0, hz1, hz2⟩ := hx
  have HIR := Lib.hid hir
  have HZ0 := Lib.hid hz0
  have HZ1 := Lib.hid hz1
  have HZ2 := Lib.hid hz2
  obtain ⟨p, c, rfl, hc⟩ := h
  have HC := Lib.hid hc
  obtain ⟨n, hn⟩ : ∃ n, n = L.length := ⟨_, rfl⟩
  have HN := Lib.hid hn
  obtain ⟨TK, hTK⟩ : ∃ TK, TK = lensC L := ⟨_, rfl⟩
  have htl : TK.length = n := by rw [hTK, hn]; unfold lensC; rw [List.length_map]
  have HTL := Lib.hid htl
  have HTG : Hid (∀ k (hk : k < L.length), TK.take (k + 1) = TK.take k ++ [(L[k]).size]) := Lib.hid (fun k hk => by
    have hk' : k < TK.length := by omega
    rw [List.take_succ_eq_append_getElem hk']
    congr 2
    simp only [hTK]
    unfold lensC
    rw [List.getElem_map])
  obtain ⟨ib, hib⟩ : ∃ ib, ib = decide (idOk id) := ⟨_, rfl⟩
  have CI := fun W => rid14_any id hid W
  rw [← hib] at CI
  obtain ⟨r, hr⟩ : ∃ r, r = decide (mayC id L) := ⟨_, rfl⟩
  have HR : Hid (r = (ib && decide (lensOk TK))) := Lib.hid (by
    rw [hr, hib, hTK]
    unfold mayC
    exact Bool.decide_and _ _)
  rw [← hn, ← hr]
  rw [← hn] at hl
  have HL := Lib.hid hl
  clear hir hz0 hz1 hz2 hc hn hTK htl hib hr hl
  go_enter Tryd.func13, Tryd.ntmps13
  go_wp2
  go_loopg [5, 6] n (fun gh a y wr => ∃ (k : Nat), k + gh = n ∧ Hid (wr.ownsRow w.heap.size 3 1 a k (nV (TK.take k))) ∧ y = .int .i64 k ∧ Hid (Kept w wr))
  case atStart => exact ⟨0, by omega, Lib.hid (World.ownsRow_nil _ _ _ _), rfl, Lib.hid (Below.refl _ _)⟩
  case round =>
    obtain ⟨k, hk, HO, rfl, HKW⟩ := hrel
    obtain ⟨pv, cv, hv, -, -⟩ := own_slice HO.out
    subst hv
    by_cases hlt : k < n
    · have hki : (k : Int) < n := by omega
      have bk : decide ((k : Int) < (n : Int)) = true := by simpa using hki
      rcases HC.out with h0 | ⟨b, off, rfl, hcell⟩
      · have := HN.out; rw [h0] at this; simp at this; omega
      · have hkl : k < L.length := by have := HN.out; omega
        have e1 := Kept.cell HKW.out (hcell k hkl)
        have htk := HTG.out k hkl
        obtain ⟨S, hS⟩ : ∃ S, S = L[k] := ⟨_, rfl⟩
        rw [← hS] at e1 htk
        obtain ⟨x, hx⟩ : ∃ x, x = S.size := ⟨_, rfl⟩
        rw [← hx] at htk
        have hx2 : S.size = x := hx.symm
        have HX : Hid (TK.take k ++ [x] = TK.take (k + 1)) := Lib.hid htk.symm
        have hki0 : (0 : Int) ≤ k := by omega
        obtain ⟨k1, hk1⟩ : ∃ k1, k1 = k + 1 := ⟨_, rfl⟩
        have v1 : IntKind.i64.wrap ((k : Int) + 1) = (k1 : Int) := by rw [show (k : Int) + 1 = (k1 : Int) by omega]; exact IntWalk.i64_in _ (by have := HL.out; omega)
        have HK1 := Lib.hid hk1
        have HLL : Hid (k < 1000000) := Lib.hid (by have := HL.out; omega)
        have HFL := Lib.hid (flat_intX wr x)
        clear hcell hS htk hk1 hx
        go_wp2_with (at_builtin; refine wpList_append_flat rfl _ _ 79 rfl w.heap.size 3 ir (.int .i64 0) 1 8 Tryd.underlying79 HIR.out HZ0.out HZ1.out HZ2.out rfl (by decide) _ _ _ rfl (HO.out.alloc _) _ 1 [Value.int .i64 (x : Nat)] rfl HFL.out ?wa1 ?wa2 ?wa3 ?_)
        case wa1 => have := HLL.out; unfold maxLen; omega
        case wa2 => have := HLL.out; omega
        case wa3 => have := HKW.out.size; simp; omega
        intro v' w4 hown4 hg4 _
        have H6 : Hid (w4.ownsRow w.heap.size 3 1 v' k1 (nV (TK.take k1))) := Lib.hid (by
          have h := hown4
          rw [nV_snoc, HX.out] at h
          rw [HK1.out]
          exact h)
        have H7 : Hid (Kept w w4) := Lib.hid (append_keptX (show Kept w wr from HKW.out) (Nat.le_refl _) HO.out hg4)
        clear hown4 hg4 HO HFL HKW
        go_wp2
        go_roundg (n - k1)
        · exact ⟨k1, by have := HK1.out; omega, H6, by first | rfl | (have := HK1.out; simp; omega), H7⟩
        · have := HK1.out; omega
    · have hki : ¬ (k : Int) < n := by omega
      have bk : decide ((k : Int) < (n : Int)) = false := by simpa using hki
      have hkn : k = n := by omega
      have HA : Hid (NatsAt TK (.slice pv k cv) wr) := Lib.hid (by
        have h := HO.out
        rw [hkn, List.take_of_length_le (by have := HTL.out; omega)] at h
        rw [hkn]
        exact NatsAt.own (l := TK) (by rw [HTL.out]; exact h))
      have CL := fun W (kk : Kept wr W) => rlens14_any TK (.slice pv k cv) W (FlatAt.later HA.out kk) (by have := HTL.out; have := HL.out; omega)
      obtain ⟨lb, hlb⟩ : ∃ lb, lb = decide (lensOk TK) := ⟨_, rfl⟩
      rw [← hlb] at CL HR
      have CI2 := CI wr
      clear hlb HO HC CI hkn
      go_wp2_with fail
      refine CI2.mono ?_
      rintro e w2 ⟨rfl, hb2⟩
      have HK2 := Lib.hid ((show Kept w wr from HKW.out).then hb2)
      have CL2 := CL w2 hb2
      clear hb2 CI2 CL
      cases ib with
      | true =>
        go_wp2_with fail
        refine CL2.mono ?_
        rintro e w3 ⟨rfl, hb3⟩
        have HK3 := Lib.hid ((show Kept w w2 from HK2.out).then hb3)
        clear hb3 CL2
        go_wp2
        go_ret
        exact ⟨by rw [HR.out]; first | rfl | simp, HK3.out⟩
      | false =>
        clear CL2
        go_wp2
        go_ret
        exact ⟨by rw [HR.out]; first | rfl | simp, HK2.out⟩

set_option maxRecDepth 100000 in
set_option maxHeartbeats 4000000 in
theorem rgood14_any (h : Hd) (hid : h.id < 4294967296) (v : Value) (w : World) (H : HeadIs h v w) (hl : h.slots.length ≤ 1000000) :
    Calls Tryd.prog 71 #[v] w fun e w' => e = .returned (.bool (decide (goodH h))) ∧ Kept w w' := by
  obtain ⟨ir, hir, hx⟩ := Option.map_eq_some_iff.1 infoIntX
  simp only [Prod.mk.injEq] at hx
  obtain ⟨hz0, hz1, hz2⟩ := hx
  have HIR := Lib.hid hir
  have HZ0 := Lib.hid hz0
  have HZ1 := Lib.hid hz1
  have HZ2 := Lib.hid hz2
  obtain ⟨sv, rfl, hsl⟩ := H
  obtain ⟨p, c, rfl, -, hc⟩ := hsl.out
  have HC := Lib.hid hc
  obtain ⟨n, hn⟩ : ∃ n, n = h.slots.length := ⟨_, rfl⟩
  have HN := Lib.hid hn
  obtain ⟨TK, hTK⟩ : ∃ TK, TK = lensH h := ⟨_, rfl⟩
  have htl : TK.length = n := by rw [hTK, hn, lensH_len]
  have HTL := Lib.hid htl
  have HTG : Hid (∀ k (hk : k < h.slots.length), TK.take (k + 1) = TK.take k ++ [(h.slots[k]).1]) := Lib.hid (fun k hk => by
    have hk' : k < TK.length := by omega
    rw [List.take_succ_eq_append_getElem hk']
    congr 2
    simp only [hTK]
    unfold lensH
    rw [List.getElem_map])
  obtain ⟨id, hidd⟩ : ∃ id, id = h.id := ⟨_, rfl⟩
  rw [← hidd] at hid ⊢
  obtain ⟨ib, hib⟩ : ∃ ib, ib = decide (idOk id) := ⟨_, rfl⟩
  have CI := fun W => rid14_any id hid W
  rw [← hib] at CI
  obtain ⟨r, hr⟩ : ∃ r, r = decide (goodH h) := ⟨_, rfl⟩
  have HR : Hid (r = (ib && decide (lensOk TK))) := Lib.hid (by
    rw [hr, hib, hTK, hidd]
    unfold goodH
    exact Bool.decide_and _ _)
  rw [← hn, ← hr]
  rw [← hn] at hl
  have HL := Lib.hid hl
  have HKA : Hid (Kept w (w.alloc (.cells #[.int .u32 (id : Nat), .slice p n c] 33))) := Lib.hid (box_below _ _)
  have hrow := heap_alloc_last w (.cells #[.int .u32 (id : Nat), .slice p n c] 33)
  have HF0 : Hid ((w.alloc (.cells #[.int .u32 (id : Nat), .slice p n c] 33)).cell? ⟨w.heap.size, 0, none⟩ = some (.int .u32 (id : Nat))) := Lib.hid (by rw [cell_of_row _ _ _ _ _ _ hrow]; rfl)
  have HF1 : Hid ((w.alloc (.cells #[.int .u32 (id : Nat), .slice p n c] 33)).cell? ⟨w.heap.size, 1, none⟩ = some (.slice p n c)) := Lib.hid (by rw [cell_of_row _ _ _ _ _ _ hrow]; rfl)
  obtain ⟨W1, hW1⟩ : ∃ W1, W1 = w.alloc (.cells #[.int .u32 (id : Nat), .slice p n c] 33) := ⟨_, rfl⟩
  have HW1 := Lib.hid hW1
  have HWS : Hid (W1.heap.size = w.heap.size + 1) := Lib.hid (by rw [hW1]; simp)
  rw [← hW1] at HKA HF0 HF1
  clear hir hz0 hz1 hz2 hc hn hTK htl hib hr hl hrow hsl hidd hW1
  go_enter Tryd.func71, Tryd.ntmps71
  go_wp2
  rw [← HW1.out]
  go_loopg [3, 4] n (fun gh a y wr => ∃ (k : Nat), k + gh = n ∧ Hid (wr.ownsRow W1.heap.size 3 1 a k (nV (TK.take k))) ∧ y = .int .i64 k ∧ Hid (Kept W1 wr))
  case atStart => exact ⟨0, by omega, Lib.hid (World.ownsRow_nil _ _ _ _), rfl, Lib.hid (Below.refl _ _)⟩
  case round =>
    obtain ⟨k, hk, HO, rfl, HKW⟩ := hrel
    obtain ⟨pv, cv, hv, -, -⟩ := own_slice HO.out
    subst hv
    have f1 := Kept.cell HKW.out HF1.out
    by_cases hlt : k < n
    · have hki : (k : Int) < n := by omega
      have bk : decide ((k : Int) < (n : Int)) = true := by simpa using hki
      rcases HC.out with h0 | ⟨b, off, rfl, hcell⟩
      · have := HN.out; omega
      · have hkl : k < h.slots.length := by have := HN.out; omega
        have e1 := Kept.cell HKW.out (Kept.cell HKA.out (hcell k hkl).1)
        have htk := HTG.out k hkl
        obtain ⟨x, hx⟩ : ∃ x, x = (h.slots[k]).1 := ⟨_, rfl⟩
        rw [← hx] at e1 htk
        have HX : Hid (TK.take k ++ [x] = TK.take (k + 1)) := Lib.hid htk.symm
        have hki0 : (0 : Int) ≤ k := by omega
        obtain ⟨k1, hk1⟩ : ∃ k1, k1 = k + 1 := ⟨_, rfl⟩
        have v1 : IntKind.i64.wrap ((k : Int) + 1) = (k1 : Int) := by rw [show (k : Int) + 1 = (k1 : Int) by omega]; exact IntWalk.i64_in _ (by have := HL.out; omega)
        have HK1 := Lib.hid hk1
        have HLL : Hid (k < 1000000) := Lib.hid (by have := HL.out; omega)
        have HFL := Lib.hid (flat_intX wr x)
        clear hcell htk hk1 hx
        go_wp2_with (at_builtin; refine wpList_append_flat rfl _ _ 79 rfl W1.heap.size 3 ir (.int .i64 0) 1 8 Tryd.underlying79 HIR.out HZ0.out HZ1.out HZ2.out rfl (by decide) _ _ _ rfl (HO.out.alloc _) _ 1 [Value.int .i64 (x : Nat)] rfl HFL.out ?wa1 ?wa2 ?wa3 ?_)
        case wa1 => have := HLL.out; unfold maxLen; omega
        case wa2 => have := HLL.out; omega
        case wa3 => have := HKW.out.size; simp; omega
        intro v' w4 hown4 hg4 _
        have H6 : Hid (w4.ownsRow W1.heap.size 3 1 v' k1 (nV (TK.take k1))) := Lib.hid (by
          have h := hown4
          rw [nV_snoc, HX.out] at h
          rw [HK1.out]
          exact h)
        have H7 : Hid (Kept W1 w4) := Lib.hid (append_keptX (show Kept W1 wr from HKW.out) (Nat.le_refl _) HO.out hg4)
        clear hown4 hg4 HO HFL HKW
        go_wp2
        go_roundg (n - k1)
        · exact ⟨k1, by have := HK1.out; omega, H6, by first | rfl | (have := HK1.out; simp; omega), H7⟩
        · have := HK1.out; omega
    · have hki : ¬ (k : Int) < n := by omega
      have bk : decide ((k : Int) < (n : Int)) = false := by simpa using hki
      have hkn : k = n := by omega
      have HA : Hid (NatsAt TK (.slice pv k cv) wr) := Lib.hid (by
        have h := HO.out
        rw [hkn, List.take_of_length_le (by have := HTL.out; omega)] at h
        rw [hkn]
        exact NatsAt.own (l := TK) (by rw [HTL.out]; exact h))
      have CL := fun W (kk : Kept wr W) => rlens14_any TK (.slice pv k cv) W (FlatAt.later HA.out kk) (by have := HTL.out; have := HL.out; omega)
      obtain ⟨lb, hlb⟩ : ∃ lb, lb = decide (lensOk TK) := ⟨_, rfl⟩
      rw [← hlb] at CL HR
      have CI2 := CI wr
      have f0 := Kept.cell HKW.out HF0.out
      have HKX : Hid (Kept w wr) := Lib.hid ((show Kept w W1 from HKA.out).then HKW.out)
      clear hlb HO HC CI hkn
      go_wp2_with fail
      refine CI2.mono ?_
      rintro e w2 ⟨rfl, hb2⟩
      have HK2 := Lib.hid ((show Kept w wr from HKX.out).then hb2)
      have CL2 := CL w2 hb2
      clear hb2 CI2 CL
      cases ib with
      | true =>
        go_wp2_with fail
        refine CL2.mono ?_
        rintro e w3 ⟨rfl, hb3⟩
        have HK3 := Lib.hid ((show Kept w w2 from HK2.out).then hb3)
        clear hb3 CL2
        go_wp2
        go_ret
        exact ⟨by rw [HR.out]; first | rfl | simp, HK3.out⟩
      | false =>
        clear CL2
        go_wp2
        go_ret
        exact ⟨by rw [HR.out]; first | rfl | simp, HK2.out⟩

end Go.Proofs.YtdmbebafpamgfaaDoor
