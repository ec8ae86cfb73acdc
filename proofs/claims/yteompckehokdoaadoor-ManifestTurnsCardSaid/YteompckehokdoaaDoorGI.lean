/- The document's Entry, May, Same. The document's Same. The document's Bytes. -/
import Derived.Test.YteompckehokdoaaDoorMnE
namespace Go.Proofs.YteompckehokdoaaDoor
open Go.RowKit

set_option maxRecDepth 100000 in
set_option maxHeartbeats 4000000 in
theorem rentry_any (e : En) (he : wfE e) (X : Array Value) (hX : X = enC e) (w : World) :
    Calls Tryd.prog 29 #[.agg X] w fun e' w' => e' = .returned (.bool (decide (mayE e))) ∧ Kept w w' := by
  have hrow := heap_alloc_last w (.cells X 55)
  have c0 : (w.alloc (.cells X 55)).cell? ⟨w.heap.size, 32, none⟩ = some (.int .i64 e.len) := by rw [cell_of_row _ _ _ _ _ _ hrow, hX]; exact enC_n he.1
  have c1 : (w.alloc (.cells X 55)).cell? ⟨w.heap.size, 33, none⟩ = some (.int .u32 (e.box : Nat)) := by rw [cell_of_row _ _ _ _ _ _ hrow, hX]; exact enC_b he.1
  have c2 : (w.alloc (.cells X 55)).cell? ⟨w.heap.size, 34, none⟩ = some (.int .i64 e.slot) := by rw [cell_of_row _ _ _ _ _ _ hrow, hX]; exact enC_s he.1
  obtain ⟨r, hr⟩ : ∃ r, r = decide (mayE e) := ⟨_, rfl⟩
  obtain ⟨z, hz⟩ : ∃ z, z = e.len := ⟨_, rfl⟩
  obtain ⟨b, hb⟩ : ∃ b, b = e.box := ⟨_, rfl⟩
  obtain ⟨s, hs⟩ : ∃ s, s = e.slot := ⟨_, rfl⟩
  have HR : Hid (r = decide ((1 ≤ z ∧ z ≤ 4096) ∧ (1 ≤ b ∧ b ≤ 4294967294) ∧ 0 ≤ s ∧ s ≤ 255)) := Lib.hid (by rw [hr, hz, hb, hs]; rfl)
  rw [← hz] at c0
  rw [← hb] at c1
  rw [← hs] at c2
  rw [← hr]
  clear hr hz hb hs hrow hX he
  by_cases h0 : 1 ≤ z
  · have b0 : decide (z ≥ 1) = true := decide_eq_true h0
    by_cases h1 : z ≤ 4096
    · have b1 : decide (z ≤ 4096) = true := decide_eq_true h1
      by_cases h2 : 1 ≤ b
      · have b2 : decide ((b : Int) ≥ 1) = true := decide_eq_true (by omega)
        by_cases h3 : b ≤ 4294967294
        · have b3 : decide ((b : Int) ≤ 4294967294) = true := decide_eq_true (by omega)
          by_cases h4 : 0 ≤ s
          · have b4 : decide (s ≥ 0) = true := decide_eq_true h4
            by_cases h5 : s ≤ 255
            · have b5 : decide (s < 256) = true := decide_eq_true (by omega)
              obtain rfl : r = true := by rw [HR.out]; exact decide_eq_true ⟨⟨h0, h1⟩, ⟨h2, h3⟩, h4, h5⟩
              clear HR h0 h1 h2 h3 h4 h5
              go_enter Tryd.func29, Tryd.ntmps29
              go_wp2
              go_ret
              exact ⟨rfl, box_below _ _⟩
            · have b5 : decide (s < 256) = false := decide_eq_false (by omega)
              obtain rfl : r = false := by rw [HR.out]; exact decide_eq_false (fun x => h5 x.2.2.2)
              clear HR h0 h1 h2 h3 h4 h5
              go_enter Tryd.func29, Tryd.ntmps29
              go_wp2
              go_ret
              exact ⟨rfl, box_below _ _⟩
          · have b4 : decide (s ≥ 0) = false := decide_eq_false h4
            obtain rfl : r = false := by rw [HR.out]; exact decide_eq_false (fun x => h4 x.2.2.1)
            clear HR h0 h1 h2 h3 h4
            go_enter Tryd.func29, Tryd.ntmps29
            go_wp2
            go_ret
            exact ⟨rfl, box_below _ _⟩
        · have b3 : decide ((b : Int) ≤ 4294967294) = false := decide_eq_false (by omega)
          obtain rfl : r = false := by rw [HR.out]; exact decide_eq_false (fun x => h3 x.2.1.2)
          clear HR h0 h1 h2 h3
          go_enter Tryd.func29, Tryd.ntmps29
          go_wp2
          go_ret
          exact ⟨rfl, box_below _ _⟩
      · have b2 : decide ((b : Int) ≥ 1) = false := decide_eq_false (by omega)
        obtain rfl : r = false := by rw [HR.out]; exact decide_eq_false (fun x => h2 x.2.1.1)
        clear HR h0 h1 h2
        go_enter Tryd.func29, Tryd.ntmps29
        go_wp2
        go_ret
        exact ⟨rfl, box_below _ _⟩
    · have b1 : decide (z ≤ 4096) = false := decide_eq_false h1
      obtain rfl : r = false := by rw [HR.out]; exact decide_eq_false (fun x => h1 x.1.2)
      clear HR h0 h1
      go_enter Tryd.func29, Tryd.ntmps29
      go_wp2
      go_ret
      exact ⟨rfl, box_below _ _⟩
  · have b0 : decide (z ≥ 1) = false := decide_eq_false h0
    obtain rfl : r = false := by rw [HR.out]; exact decide_eq_false (fun x => h0 x.1.1)
    clear HR h0
    go_enter Tryd.func29, Tryd.ntmps29
    go_wp2
    go_ret
    exact ⟨rfl, box_below _ _⟩

set_option maxRecDepth 100000 in
set_option maxHeartbeats 16000000 in
theorem rmay15_any (m : Mf) (v : Value) (w : World) (H : ManIs m v w) (hl : m.es.length ≤ 1000000) :
    Calls Tryd.prog 10 #[v] w fun e w' => e = .returned (.bool (decide (mayM m))) ∧ Kept w w' := by
  obtain ⟨hid, sv, rfl, he⟩ := H
  obtain ⟨p, c, rfl, hcap, -⟩ := he.out encE
  have HE := Lib.hid he
  obtain ⟨n, hn⟩ : ∃ n, n = m.es.length := ⟨_, rfl⟩
  have HN := Lib.hid hn
  obtain ⟨id, hidd⟩ : ∃ i, i = m.id := ⟨_, rfl⟩
  obtain ⟨r, hr⟩ : ∃ r, r = decide (mayM m) := ⟨_, rfl⟩
  have HR : Hid (r = decide ((1 ≤ id ∧ id ≤ 4294967294) ∧ (1 ≤ n ∧ n ≤ 256) ∧ ∀ e ∈ m.es, mayE e)) := Lib.hid (by rw [hr, hidd, hn]; rfl)
  rw [← hn] at hl hcap
  rw [← hidd] at hid
  rw [← hn, ← hidd, ← hr]
  have HID := Lib.hid hid
  have HL := Lib.hid hl
  obtain ⟨W1, hW1⟩ : ∃ W1, W1 = w.alloc (.cells #[.int .u32 (id : Nat), .slice p n c] 25) := ⟨_, rfl⟩
  have HW1 := Lib.hid hW1
  have hrow := heap_alloc_last w (.cells #[.int .u32 (id : Nat), .slice p n c] 25)
  rw [← hW1] at hrow
  have HROW := Lib.hid hrow
  have HK1 : Hid (Kept w W1) := Lib.hid (by rw [hW1]; exact box_below _ _)
  clear he hn hidd hr hW1 hrow hl hid hcap
  go_enter Tryd.func10, Tryd.ntmps10
  go_wp2
  rw [← HW1.out]
  go_loopg [3] n (fun gh y wr => ∃ (k : Nat), k + gh = n ∧ k ≤ 257 ∧ y = .int .i64 k ∧ Hid (∀ e ∈ m.es.take k, mayE e) ∧ Hid (Kept W1 wr))
  case atStart => exact ⟨0, by omega, by omega, rfl, Lib.hid (fun e he => by simp at he), Lib.hid (Kept.refl W1)⟩
  case round =>
    obtain ⟨k, hk, hk2, rfl, HA, HK⟩ := hrel
    have hr1 := Kept.row HK.out HROW.out
    have e0 : wr.cell? ⟨w.heap.size, 0, none⟩ = some (.int .u32 (id : Nat)) := by rw [cell_of_row _ _ _ _ _ _ hr1]; rfl
    have e1 : wr.cell? ⟨w.heap.size, 1, none⟩ = some (.slice p n c) := by rw [cell_of_row _ _ _ _ _ _ hr1]; rfl
    have HKW : Hid (Kept w wr) := Lib.hid ((show Kept w W1 from HK1.out).then HK.out)
    by_cases hlt : k < n
    · have hki : (k : Int) < n := by omega
      have bk : decide ((k : Int) < (n : Int)) = true := by simpa using hki
      by_cases h256 : k ≤ 256
      · have b2 : decide ((k : Int) ≤ 256) = true := decide_eq_true (by omega)
        have hki0 : (0 : Int) ≤ k := by omega
        have hkl : k < m.es.length := by have := HN.out; omega
        obtain ⟨b, off, cs, t, fr, rfl, hg, hsz, hex, -⟩ := HE.out.elem encE hkl
        have g2 := Kept.row HKW.out hg
        obtain ⟨X, hX⟩ : ∃ X, X = (enL m.es[k]).toArray := ⟨_, rfl⟩
        rw [← hX] at hex
        have hwf := HE.out.good _ (List.getElem_mem hkl)
        have CE := fun W => rentry_any m.es[k] hwf X hX W
        have htk : m.es.take (k + 1) = m.es.take k ++ [m.es[k]] := List.take_succ_eq_append_getElem hkl
        have hmem : m.es[k] ∈ m.es := List.getElem_mem hkl
        obtain ⟨E, hE⟩ : ∃ E, E = m.es[k] := ⟨_, rfl⟩
        rw [← hE] at CE htk hmem
        obtain ⟨k1, hk1⟩ : ∃ k1, k1 = k + 1 := ⟨_, rfl⟩
        have v1 : IntKind.i64.wrap ((k : Int) + 1) = (k1 : Int) := by rw [show (k : Int) + 1 = (k1 : Int) by omega]; exact IntWalk.i64_in _ (by omega)
        have HKK : Hid (k1 = k + 1 ∧ k + gk = n ∧ k < n ∧ k ≤ 256) := Lib.hid ⟨hk1, hk, hlt, h256⟩
        have HES : Hid (off + k * 35 + 35 ≤ cs.size ∧ cs.extract (off + k * 35) (off + k * 35 + 35) = X) := Lib.hid ⟨hsz, hex⟩
        by_cases hm : mayE E
        · rw [decide_eq_true hm] at CE
          have HA1 : Hid (∀ e ∈ m.es.take k1, mayE e) := Lib.hid (fun e he => by
            rw [hk1, htk] at he
            rcases List.mem_append.1 he with x | x
            · exact HA.out e x
            · rw [List.mem_singleton.1 x]; exact hm)
          clear hg hX hsz hex hwf htk hmem hE hk1 hm HA hk hk2 hlt h256 hkl hr1 e0
          go_wp2_with (with_reducible refine wpList_load_sub rfl _ _ rfl b (off + k * 35) 35 rfl t cs fr _ g2 Tryd.underlying55 rfl infoEn HES.out.1 X HES.out.2 ?_)
          refine (CE _).mono ?_
          rintro e w2 ⟨rfl, hb2⟩
          have HK2 : Hid (Kept W1 w2) := Lib.hid ((show Kept W1 wr from HK.out).then hb2)
          clear hb2 CE e1 g2
          go_wp2
          go_roundg (n - k1)
          · exact ⟨k1, by have := HKK.out; omega, by have := HKK.out; omega, by first | rfl | (have := HKK.out; congr 1; omega), HA1, HK2⟩
          · have := HKK.out; omega
        · rw [decide_eq_false hm] at CE
          obtain rfl : r = false := by rw [HR.out]; exact decide_eq_false (fun x => hm (x.2.2 E hmem))
          clear hg hX hsz hex hwf htk hmem hE hk1 hm HA hk hk2 hlt h256 hkl hr1 e0 HR
          go_wp2_with (with_reducible refine wpList_load_sub rfl _ _ rfl b (off + k * 35) 35 rfl t cs fr _ g2 Tryd.underlying55 rfl infoEn HES.out.1 X HES.out.2 ?_)
          refine (CE _).mono ?_
          rintro e w2 ⟨rfl, hb2⟩
          have HK2 : Hid (Kept w w2) := Lib.hid ((show Kept w wr from HKW.out).then hb2)
          clear hb2 CE e1 g2
          go_wp2
          go_ret
          exact ⟨rfl, HK2.out⟩
      · have b2 : decide ((k : Int) ≤ 256) = false := decide_eq_false (by omega)
        obtain rfl : r = false := by rw [HR.out]; exact decide_eq_false (fun x => by have := x.2.1.2; omega)
        have b3 : decide ((n : Int) ≥ 1) = true := decide_eq_true (by omega)
        have b4 : decide ((n : Int) ≤ 256) = false := decide_eq_false (by omega)
        clear HA hk hk2 hlt h256 hr1 HR
        by_cases i1 : 1 ≤ id
        · have d1 : decide ((id : Int) ≥ 1) = true := decide_eq_true (by omega)
          by_cases i2 : id ≤ 4294967294
          · have d2 : decide ((id : Int) ≤ 4294967294) = true := decide_eq_true (by omega)
            clear i1 i2
            go_wp2
            go_ret
            exact ⟨rfl, HKW.out⟩
          · have d2 : decide ((id : Int) ≤ 4294967294) = false := decide_eq_false (by omega)
            clear i1 i2
            go_wp2
            go_ret
            exact ⟨rfl, HKW.out⟩
        · have d1 : decide ((id : Int) ≥ 1) = false := decide_eq_false (by omega)
          clear i1
          go_wp2
          go_ret
          exact ⟨rfl, HKW.out⟩
    · have hki : ¬ (k : Int) < n := by omega
      have bk : decide ((k : Int) < (n : Int)) = false := by simpa using hki
      have hke : k = n := by omega
      have HAL : Hid (∀ e ∈ m.es, mayE e) := Lib.hid (fun e he => HA.out e (by rw [List.take_of_length_le (by have := HN.out; omega)]; exact he))
      clear HA hk hk2 hlt hke hr1
      by_cases i1 : 1 ≤ id
      · have d1 : decide ((id : Int) ≥ 1) = true := decide_eq_true (by omega)
        by_cases i2 : id ≤ 4294967294
        · have d2 : decide ((id : Int) ≤ 4294967294) = true := decide_eq_true (by omega)
          by_cases i3 : 1 ≤ n
          · have d3 : decide ((n : Int) ≥ 1) = true := decide_eq_true (by omega)
            by_cases i4 : n ≤ 256
            · have d4 : decide ((n : Int) ≤ 256) = true := decide_eq_true (by omega)
              obtain rfl : r = true := by rw [HR.out]; exact decide_eq_true ⟨⟨i1, i2⟩, ⟨i3, i4⟩, HAL.out⟩
              clear i1 i2 i3 i4 HR
              go_wp2
              go_ret
              exact ⟨rfl, HKW.out⟩
            · have d4 : decide ((n : Int) ≤ 256) = false := decide_eq_false (by omega)
              obtain rfl : r = false := by rw [HR.out]; exact decide_eq_false (fun x => i4 x.2.1.2)
              clear i1 i2 i3 i4 HR
              go_wp2
              go_ret
              exact ⟨rfl, HKW.out⟩
          · have d3 : decide ((n : Int) ≥ 1) = false := decide_eq_false (by omega)
            obtain rfl : r = false := by rw [HR.out]; exact decide_eq_false (fun x => i3 x.2.1.1)
            clear i1 i2 i3 HR
            go_wp2
            go_ret
            exact ⟨rfl, HKW.out⟩
        · have d2 : decide ((id : Int) ≤ 4294967294) = false := decide_eq_false (by omega)
          obtain rfl : r = false := by rw [HR.out]; exact decide_eq_false (fun x => i2 x.1.2)
          clear i1 i2 HR
          go_wp2
          go_ret
          exact ⟨rfl, HKW.out⟩
      · have d1 : decide ((id : Int) ≥ 1) = false := decide_eq_false (by omega)
        obtain rfl : r = false := by rw [HR.out]; exact decide_eq_false (fun x => i1 x.1.1)
        clear i1 HR
        go_wp2
        go_ret
        exact ⟨rfl, HKW.out⟩

end Go.Proofs.YteompckehokdoaaDoor
namespace Go.Proofs.YteompckehokdoaaDoor
open Go.RowKit

set_option maxRecDepth 100000 in
set_option maxHeartbeats 16000000 in
theorem rsame15_any (a b : Mf) (u v : Value) (w : World) (HU : ManIs a u w) (HV : ManIs b v w) (hla : a.es.length ≤ 1000000) (hlb : b.es.length ≤ 1000000) :
    Calls Tryd.prog 13 #[u, v] w fun e w' => e = .returned (.bool (decide (a = b))) ∧ Kept w w' := by
  obtain ⟨hida, su, rfl, hea⟩ := HU
  obtain ⟨hidb, sv, rfl, heb⟩ := HV
  obtain ⟨p, c, rfl, -, -⟩ := hea.out encE
  obtain ⟨p2, c2, rfl, -, -⟩ := heb.out encE
  have HA := Lib.hid hea
  have HB := Lib.hid heb
  obtain ⟨n, hn⟩ : ∃ n, n = a.es.length := ⟨_, rfl⟩
  have HN := Lib.hid hn
  obtain ⟨m, hm⟩ : ∃ n, n = b.es.length := ⟨_, rfl⟩
  have HM := Lib.hid hm
  obtain ⟨id, hid⟩ : ∃ i, i = a.id := ⟨_, rfl⟩
  obtain ⟨jd, hjd⟩ : ∃ i, i = b.id := ⟨_, rfl⟩
  obtain ⟨r, hr⟩ : ∃ r, r = decide (a = b) := ⟨_, rfl⟩
  have HR : Hid (r = decide (id = jd ∧ a.es = b.es)) := Lib.hid (by rw [hr, hid, hjd, decide_eq_decide]; exact Mf.ext_iff' a b)
  rw [← hn] at hla
  rw [← hm] at hlb
  rw [← hid] at hida
  rw [← hjd] at hidb
  rw [← hn, ← hm, ← hid, ← hjd, ← hr]
  have HL := Lib.hid (show n ≤ 1000000 ∧ m ≤ 1000000 from ⟨hla, hlb⟩)
  have hs1 : (w.alloc (.cells #[.int .u32 (id : Nat), .slice p n c] 25)).heap.size = w.heap.size + 1 := by simp
  obtain ⟨W1, hW1⟩ : ∃ W, W = (w.alloc (.cells #[.int .u32 (id : Nat), .slice p n c] 25)).alloc (.cells #[.int .u32 (jd : Nat), .slice p2 m c2] 25) := ⟨_, rfl⟩
  have HK1 : Hid (Kept w W1) := Lib.hid (by rw [hW1]; exact (show Kept w _ from box_below _ _).then (box_below _ _))
  have hrowa : W1.heap[w.heap.size]? = some (.cells #[.int .u32 (id : Nat), .slice p n c] 25 (0, 0)) := by rw [hW1]; exact Kept.row (box_below _ _) (heap_alloc_last w _)
  have hrowb : W1.heap[w.heap.size + 1]? = some (.cells #[.int .u32 (jd : Nat), .slice p2 m c2] 25 (0, 0)) := by
    have := heap_alloc_last (w.alloc (.cells #[.int .u32 (id : Nat), .slice p n c] 25)) (.cells #[.int .u32 (jd : Nat), .slice p2 m c2] 25)
    rw [hs1] at this
    rw [hW1]; exact this
  have HA1 : Hid (W1.cell? ⟨w.heap.size, 1, none⟩ = some (.slice p n c)) := Lib.hid (by rw [cell_of_row _ _ _ _ _ _ hrowa]; rfl)
  have HB1 : Hid (W1.cell? ⟨w.heap.size + 1, 1, none⟩ = some (.slice p2 m c2)) := Lib.hid (by rw [cell_of_row _ _ _ _ _ _ hrowb]; rfl)
  have a0 : W1.cell? ⟨w.heap.size, 0, none⟩ = some (.int .u32 (id : Nat)) := by rw [cell_of_row _ _ _ _ _ _ hrowa]; rfl
  have a1 := HA1.out
  have d0 : W1.cell? ⟨w.heap.size + 1, 0, none⟩ = some (.int .u32 (jd : Nat)) := by rw [cell_of_row _ _ _ _ _ _ hrowb]; rfl
  have d1 := HB1.out
  rw [hW1] at a0 a1 d0 d1
  have HW1 := Lib.hid hW1
  clear hea heb hn hm hid hjd hr hla hlb hs1 hrowa hrowb hW1 hida hidb
  by_cases hids : id = jd
  · subst hids
    have b1 : ((id : Int) != (id : Int)) = false := by simp
    by_cases hnm : n = m
    · subst hnm
      have b2 : ((n : Int) != (n : Int)) = false := by simp
      go_enter Tryd.func13, Tryd.ntmps13
      go_wp2
      rw [← HW1.out]
      clear a0 a1 d0 d1
      go_loopg [5] n (fun gh s5 wx => ∃ k : Nat, k + gh = n ∧ s5 = .int .i64 k ∧ Hid (a.es.take k = b.es.take k) ∧ Hid (Kept W1 wx))
      case atStart => exact ⟨0, by omega, rfl, Lib.hid rfl, Lib.hid (Kept.refl W1)⟩
      case round =>
        obtain ⟨k, hk, rfl, HE, HK⟩ := hrel
        have a1 := Kept.cell HK.out HA1.out
        have d1 := Kept.cell HK.out HB1.out
        by_cases hkn : k < n
        · have hki : (k : Int) < n := by omega
          have bk : decide ((k : Int) < (n : Int)) = true := by simpa using hki
          have hki0 : (0 : Int) ≤ k := by omega
          have hka : k < a.es.length := by rw [← HN.out]; exact hkn
          have hkb : k < b.es.length := by rw [← HM.out]; exact hkn
          obtain ⟨ba, off, cs, t, fr, rfl, hg, hsz, hex, -⟩ := HA.out.elem encE hka
          obtain ⟨b2, off2, cs2, t2, fr2, rfl, hg2, hsz2, hex2, -⟩ := HB.out.elem encE hkb
          have g1 := HK.out.row (HK1.out.row hg)
          have g2 := HK.out.row (HK1.out.row hg2)
          have IX1 := fun W => idx_en ba off n c k hkn W
          have IX2 := fun W => idx_en b2 off2 n c2 k hkn W
          have hwa := HA.out.good _ (List.getElem_mem hka)
          have hwb := HB.out.good _ (List.getElem_mem hkb)
          have hq := fun W => neq_en a.es[k] b.es[k] hwa.1 hwb.1 W
          have hta : a.es.take (k + 1) = a.es.take k ++ [a.es[k]] := List.take_succ_eq_append_getElem hka
          have htb : b.es.take (k + 1) = b.es.take k ++ [b.es[k]] := List.take_succ_eq_append_getElem hkb
          have hne0 : a.es[k] ≠ b.es[k] → a.es ≠ b.es := fun h e => h (by simp [e])
          obtain ⟨X, hX⟩ : ∃ X, X = (enL a.es[k]).toArray := ⟨_, rfl⟩
          obtain ⟨Y, hY⟩ : ∃ Y, Y = (enL b.es[k]).toArray := ⟨_, rfl⟩
          rw [← hX] at hex
          rw [← hY] at hex2
          have hq2 : ∀ W, (binOp .neq 55 (.agg X) (.agg Y)).run Tryd.prog W = .ok (.bool (!decide (a.es[k] = b.es[k]))) W := by rw [hX, hY]; exact hq
          obtain ⟨q, hqq⟩ : ∃ q, q = !decide (a.es[k] = b.es[k]) := ⟨_, rfl⟩
          rw [← hqq] at hq2
          have HQ := Lib.hid hq2
          have HES := Lib.hid (show off + k * 35 + 35 ≤ cs.size ∧ cs.extract (off + k * 35) (off + k * 35 + 35) = X from ⟨hsz, hex⟩)
          have HES2 := Lib.hid (show off2 + k * 35 + 35 ≤ cs2.size ∧ cs2.extract (off2 + k * 35) (off2 + k * 35 + 35) = Y from ⟨hsz2, hex2⟩)
          obtain ⟨k1, hk1⟩ : ∃ k1, k1 = k + 1 := ⟨_, rfl⟩
          have v1 : IntKind.i64.wrap ((k : Int) + 1) = (k1 : Int) := by rw [show (k : Int) + 1 = (k1 : Int) by omega]; exact IntWalk.i64_in _ (by have := HL.out; omega)
          have HKK : Hid (k1 = k + 1 ∧ k + gk = n ∧ k < n) := Lib.hid ⟨hk1, hk, hkn⟩
          have HTT : Hid (q = false → a.es.take k1 = b.es.take k1) := Lib.hid (fun e => by
            rw [hqq] at e
            have e2 : a.es[k] = b.es[k] := by simpa using e
            rw [hk1, hta, htb, HE.out, e2])
          have HNO : Hid (q = true → r = false) := Lib.hid (fun e => by
            rw [hqq] at e
            have e2 : a.es[k] ≠ b.es[k] := by simpa using e
            rw [HR.out]
            exact decide_eq_false (fun x => hne0 e2 x.2))
          clear hg hg2 hsz hsz2 hex hex2 hwa hwb hq hta htb hne0 hX hY hq2 hqq hk1 hk hkn hka hkb HE
          go_wp2_with fail
          refine wp_region_kept (by kernel_rfl) (by kernel_rfl) ?_
          refine wpQuiet_pure (v := ?_) (by kernel_rfl) ?_ (fun K hK => ?_)
          case refine_2 => intro W _; go_simp; try with_reducible rfl
          go_simp
          refine hK _ ?_; clear hK K
          refine wpQuiet_pure (v := ?_) (by kernel_rfl) ?_ (fun K hK => ?_)
          case refine_2 => intro W hW; have e0 := hW.cell a1; go_simp; try with_reducible rfl
          go_simp
          refine hK _ ?_; clear hK K
          refine wpQuiet_pure (v := ?_) (by kernel_rfl) ?_ (fun K hK => ?_)
          case refine_2 => intro W _; go_simp; try with_reducible rfl
          go_simp
          refine hK _ ?_; clear hK K
          refine wpQuiet_pure (v := ?_) (by kernel_rfl) ?_ (fun K hK => ?_)
          case refine_2 => intro W _; go_simp; try with_reducible rfl
          go_simp
          refine hK _ ?_; clear hK K
          refine wpQuiet_load_part (by kernel_rfl) _ _ rfl ba (off + k * 35) 35 rfl t cs fr _ (fun _ h => h.row g1) Tryd.underlying55 rfl infoEn _ HES.out (fun K hK => ?_)
          go_simp
          refine hK _ ?_; clear hK K
          refine wpQuiet_pure (v := ?_) (by kernel_rfl) ?_ (fun K hK => ?_)
          case refine_2 => intro W _; go_simp; try with_reducible rfl
          go_simp
          refine hK _ ?_; clear hK K
          refine wpQuiet_pure (v := ?_) (by kernel_rfl) ?_ (fun K hK => ?_)
          case refine_2 => intro W hW; have e0 := hW.cell d1; go_simp; try with_reducible rfl
          go_simp
          refine hK _ ?_; clear hK K
          refine wpQuiet_pure (v := ?_) (by kernel_rfl) ?_ (fun K hK => ?_)
          case refine_2 => intro W _; go_simp; try with_reducible rfl
          go_simp
          refine hK _ ?_; clear hK K
          refine wpQuiet_pure (v := ?_) (by kernel_rfl) ?_ (fun K hK => ?_)
          case refine_2 => intro W _; go_simp; try with_reducible rfl
          go_simp
          refine hK _ ?_; clear hK K
          refine wpQuiet_load_part (by kernel_rfl) _ _ rfl b2 (off2 + k * 35) 35 rfl t2 cs2 fr2 _ (fun _ h => h.row g2) Tryd.underlying55 rfl infoEn _ HES2.out (fun K hK => ?_)
          go_simp
          refine hK _ ?_; clear hK K
          refine wpQuiet_neq (by kernel_rfl) _ _ _ _ rfl X Y rfl rfl (by kernel_rfl) q HQ.out (fun K hK => ?_)
          go_simp
          refine hK _ ?_; clear hK K
          refine wpQuiet_nil ?_
          intro w6 hk6
          have HK6 : Hid (Kept W1 w6) := Lib.hid ((show Kept W1 wr from HK.out).then hk6)
          clear hk6 a1 d1 g1 g2 IX1 IX2
          cases q with
          | false =>
            have HT := Lib.hid (HTT.out rfl)
            go_wp2
            go_roundg (n - k1)
            · exact ⟨k1, by have := HKK.out; omega, by first | rfl | (have := HKK.out; congr 1; omega), HT, HK6⟩
            · have := HKK.out; omega
          | true =>
            obtain rfl : r = false := HNO.out rfl
            go_wp2
            go_ret
            exact ⟨rfl, (show Kept w W1 from HK1.out).then HK6.out⟩
        · have hki : ¬ (k : Int) < n := by omega
          have bk : decide ((k : Int) < (n : Int)) = false := by simpa using hki
          obtain rfl : r = true := by
            rw [HR.out]
            refine decide_eq_true ⟨(by first | rfl | trivial), ?_⟩
            have := HE.out
            rw [List.take_of_length_le (by have := HN.out; omega), List.take_of_length_le (by have := HM.out; omega)] at this
            exact this
          go_wp2
          go_ret
          exact ⟨rfl, (show Kept w W1 from HK1.out).then HK.out⟩
    · have b2 : ((n : Int) != (m : Int)) = true := bne_iff_ne.2 (by omega)
      have b3 : ((n : Int) == (m : Int)) = false := beq_eq_false_iff_ne.2 (by omega)
      obtain rfl : r = false := by rw [HR.out]; exact decide_eq_false (fun x => hnm (by rw [HN.out, HM.out, x.2]))
      clear hnm
      go_enter Tryd.func13, Tryd.ntmps13
      go_wp2
      go_ret
      exact ⟨rfl, by rw [← HW1.out]; exact HK1.out⟩
  · have b1 : ((id : Int) != (jd : Int)) = true := bne_iff_ne.2 (by omega)
    have b3 : ((id : Int) == (jd : Int)) = false := beq_eq_false_iff_ne.2 (by omega)
    obtain rfl : r = false := by rw [HR.out]; exact decide_eq_false (fun x => hids x.1)
    clear hids
    go_enter Tryd.func13, Tryd.ntmps13
    go_wp2
    go_ret
    exact ⟨rfl, by rw [← HW1.out]; exact HK1.out⟩

end Go.Proofs.YteompckehokdoaaDoor
namespace Go.Proofs.YteompckehokdoaaDoor
open Go.RowKit

/-- A sum as the machine has it. -/
def wrapI (z : Int) : Int := IntKind.i64.wrap z
theorem wrapI_mod (a : Int) : wrapI a % 18446744073709551616 = a % 18446744073709551616 := by
  simp [wrapI, IntKind.wrap, IntKind.bits, IntKind.signed]
  split <;> omega
theorem wrapI_of {a b : Int} (h : a % 18446744073709551616 = b % 18446744073709551616) : wrapI a = wrapI b := by
  unfold wrapI IntKind.wrap
  have h2 : a % 2 ^ IntKind.i64.bits = b % 2 ^ IntKind.i64.bits := h
  simp only [h2]
theorem wrapI_add (a b : Int) : IntKind.i64.wrap (wrapI a + b) = wrapI (a + b) := by
  refine wrapI_of (a := wrapI a + b) (b := a + b) ?_
  have := wrapI_mod a
  omega

end Go.Proofs.YteompckehokdoaaDoor
