/- The landed manifests' Size, validEntry, Check. The landed manifests' Bytes, Same. -/
import Derived.Test.YteompckehokdoaaGreatDoorMnA
namespace Go.Proofs.YteompckehokdoaaGreatDoor
open Go.RowKit

theorem wf_natM {n : Nat} (h : n ≤ 4294967296) : (Lit.int .i64 (n : Int)).wf = true := by
  simp [Lit.wf, IntKind.min, IntKind.max, IntKind.signed, IntKind.bits]; omega

set_option maxRecDepth 100000 in
set_option maxHeartbeats 4000000 in
theorem sizeOkM : MSizeOk := by
  intro n w hn
  obtain ⟨r, hr⟩ : ∃ r, r = sizeV n := ⟨_, rfl⟩
  rw [← hr]
  unfold sizeV at hr
  clear hn
  by_cases h1 : n < 1
  · have b1 : decide (n < 1) = true := decide_eq_true h1
    rw [if_neg (by omega)] at hr
    subst hr
    clear h1
    go_enter Tryz.func13, Tryz.ntmps13
    go_wp2
    go_ret
    exact ⟨rfl, Kept.refl _⟩
  · have b1 : decide (n < 1) = false := decide_eq_false h1
    by_cases h2 : (256 : Int) < n
    · have b2 : decide ((256 : Int) < n) = true := decide_eq_true h2
      have b3 : decide (n > (256 : Int)) = true := decide_eq_true h2
      rw [if_neg (by omega)] at hr
      subst hr
      clear h1 h2
      go_enter Tryz.func13, Tryz.ntmps13
      go_wp2
      go_ret
      exact ⟨rfl, Kept.refl _⟩
    · have b2 : decide ((256 : Int) < n) = false := decide_eq_false h2
      have b3 : decide (n > (256 : Int)) = false := decide_eq_false h2
      rw [if_pos (by omega)] at hr
      obtain ⟨m, hm⟩ : ∃ m, m = n * 40 := ⟨_, rfl⟩
      obtain ⟨m2, hm2⟩ : ∃ m2, m2 = 10 + m := ⟨_, rfl⟩
      have u1 : IntKind.i64.wrap (n * 40) = m := by rw [← hm]; exact IntWalk.i64_in _ (by omega)
      have u2 : IntKind.i64.wrap (10 + m) = m2 := by rw [← hm2]; exact IntWalk.i64_in _ (by omega)
      have u3 : IntKind.i64.wrap (m2 + 4) = r := by rw [show m2 + 4 = r by omega]; exact IntWalk.i64_in _ (by omega)
      clear h1 h2 hr hm hm2
      go_enter Tryz.func13, Tryz.ntmps13
      go_wp2
      go_ret
      exact ⟨rfl, Kept.refl _⟩

set_option maxRecDepth 100000 in
set_option maxHeartbeats 4000000 in
theorem ventry_any (e : En) (he : wfE e) (X : Array Value) (hX : X = enC e) (w : World) :
    Calls Tryz.prog 39 #[.agg X] w fun e' w' => e' = .returned (.bool (decide (mayE e))) ∧ Kept w w' := by
  have hrow := heap_alloc_last w (.cells X 41)
  have c0 : (w.alloc (.cells X 41)).cell? ⟨w.heap.size, 32, none⟩ = some (.int .i64 e.len) := by rw [cell_of_row _ _ _ _ _ _ hrow, hX]; exact enC_n he.1
  have c1 : (w.alloc (.cells X 41)).cell? ⟨w.heap.size, 33, none⟩ = some (.int .u32 (e.box : Nat)) := by rw [cell_of_row _ _ _ _ _ _ hrow, hX]; exact enC_b he.1
  have c2 : (w.alloc (.cells X 41)).cell? ⟨w.heap.size, 34, none⟩ = some (.int .i64 e.slot) := by rw [cell_of_row _ _ _ _ _ _ hrow, hX]; exact enC_s he.1
  obtain ⟨r, hr⟩ : ∃ r, r = decide (mayE e) := ⟨_, rfl⟩
  obtain ⟨z, hz⟩ : ∃ z, z = e.len := ⟨_, rfl⟩
  obtain ⟨b, hb⟩ : ∃ b, b = e.box := ⟨_, rfl⟩
  obtain ⟨s, hs⟩ : ∃ s, s = e.slot := ⟨_, rfl⟩
  have HR : Hid (r = decide ((1 ≤ z ∧ z ≤ 4096) ∧ (1 ≤ b ∧ b ≤ 4294967294) ∧ 0 ≤ s ∧ s ≤ 255)) := Lib.hid (by rw [hr, hz, hb, hs]; rfl)
  rw [← hz] at c0
  rw [← hb] at c1
  rw [← hs] at c2
  rw [← hr]
  obtain ⟨p, hp⟩ : ∃ p : Int, p = (b : Int) := ⟨_, rfl⟩
  rw [← hp] at c1
  clear hr hz hb hs hrow hX he
  by_cases h0 : (1 : Int) ≤ z
  · have b0 : decide ((1 : Int) ≤ z) = true := decide_eq_true h0
    by_cases h1 : z ≤ 4096
    · have b1 : decide (z ≤ 4096) = true := decide_eq_true h1
      by_cases h2 : (1 : Int) ≤ p
      · have b2 : decide ((1 : Int) ≤ p) = true := decide_eq_true (by omega)
        by_cases h3 : p ≤ 4294967294
        · have b3 : decide (p ≤ 4294967294) = true := decide_eq_true (by omega)
          by_cases h4 : 0 ≤ s
          · have b4 : decide ((0 : Int) ≤ s) = true := decide_eq_true h4
            by_cases h5 : s < 256
            · have b5 : decide (s < 256) = true := decide_eq_true (by omega)
              obtain rfl : r = true := by rw [HR.out]; exact decide_eq_true ⟨⟨h0, h1⟩, ⟨by omega, by omega⟩, h4, by omega⟩
              clear HR h0 h1 h2 h3 h4 h5 hp
              go_enter Tryz.func39, Tryz.ntmps39
              go_wp2
              go_ret
              exact ⟨rfl, box_below _ _⟩
            · have b5 : decide (s < 256) = false := decide_eq_false (by omega)
              obtain rfl : r = false := by rw [HR.out]; exact decide_eq_false (fun x => by have := x.2.2.2; omega)
              clear HR h0 h1 h2 h3 h4 h5 hp
              go_enter Tryz.func39, Tryz.ntmps39
              go_wp2
              go_ret
              exact ⟨rfl, box_below _ _⟩
          · have b4 : decide ((0 : Int) ≤ s) = false := decide_eq_false h4
            obtain rfl : r = false := by rw [HR.out]; exact decide_eq_false (fun x => h4 x.2.2.1)
            clear HR h0 h1 h2 h3 h4 hp
            go_enter Tryz.func39, Tryz.ntmps39
            go_wp2
            go_ret
            exact ⟨rfl, box_below _ _⟩
        · have b3 : decide (p ≤ 4294967294) = false := decide_eq_false (by omega)
          obtain rfl : r = false := by rw [HR.out]; exact decide_eq_false (fun x => by have := x.2.1.2; omega)
          clear HR h0 h1 h2 h3 hp
          go_enter Tryz.func39, Tryz.ntmps39
          go_wp2
          go_ret
          exact ⟨rfl, box_below _ _⟩
      · have b2 : decide ((1 : Int) ≤ p) = false := decide_eq_false (by omega)
        obtain rfl : r = false := by rw [HR.out]; exact decide_eq_false (fun x => by have := x.2.1.1; omega)
        clear HR h0 h1 h2 hp
        go_enter Tryz.func39, Tryz.ntmps39
        go_wp2
        go_ret
        exact ⟨rfl, box_below _ _⟩
    · have b1 : decide (z ≤ 4096) = false := decide_eq_false h1
      obtain rfl : r = false := by rw [HR.out]; exact decide_eq_false (fun x => h1 x.1.2)
      clear HR h0 h1 hp
      go_enter Tryz.func39, Tryz.ntmps39
      go_wp2
      go_ret
      exact ⟨rfl, box_below _ _⟩
  · have b0 : decide ((1 : Int) ≤ z) = false := decide_eq_false h0
    obtain rfl : r = false := by rw [HR.out]; exact decide_eq_false (fun x => h0 x.1.1)
    clear HR h0 hp
    go_enter Tryz.func39, Tryz.ntmps39
    go_wp2
    go_ret
    exact ⟨rfl, box_below _ _⟩

set_option maxRecDepth 100000 in
set_option maxHeartbeats 16000000 in
theorem checkOkM : MCheckOk := by
  intro m v w H hl
  obtain ⟨hid, sv, rfl, he⟩ := H
  obtain ⟨p, c, rfl, hcap, -⟩ := he.out encE
  have HE := Lib.hid he
  obtain ⟨n, hn⟩ : ∃ n, n = m.es.length := ⟨_, rfl⟩
  have HN := Lib.hid hn
  obtain ⟨id, hidd⟩ : ∃ i, i = m.id := ⟨_, rfl⟩
  obtain ⟨r, hr⟩ : ∃ r : Int, r = if mayM m then 0 else 1 := ⟨_, rfl⟩
  have HR : Hid (r = if ((1 ≤ id ∧ id ≤ 4294967294) ∧ (1 ≤ n ∧ n ≤ 256) ∧ ∀ e ∈ m.es, mayE e) then 0 else 1) := Lib.hid (by rw [hr, hidd, hn]; rfl)
  rw [← hn] at hl hcap
  rw [← hidd] at hid
  rw [← hn, ← hidd, ← hr]
  have CS := fun W => sizeOkM (n : Int) W (wf_natM (by omega))
  obtain ⟨q, hq⟩ : ∃ q, q = sizeV (n : Int) := ⟨_, rfl⟩
  rw [← hq] at CS
  obtain ⟨W1, hW1⟩ : ∃ W1, W1 = w.alloc (.cells #[.int .u32 (id : Nat), .slice p n c] 25) := ⟨_, rfl⟩
  have HW1 := Lib.hid hW1
  have hrow := heap_alloc_last w (.cells #[.int .u32 (id : Nat), .slice p n c] 25)
  rw [← hW1] at hrow
  have HROW := Lib.hid hrow
  have HK1 : Hid (Kept w W1) := Lib.hid (by rw [hW1]; exact box_below _ _)
  have HL := Lib.hid hl
  have e0 : W1.cell? ⟨w.heap.size, 0, none⟩ = some (.int .u32 (id : Nat)) := by rw [cell_of_row _ _ _ _ _ _ hrow]; rfl
  have e1 : W1.cell? ⟨w.heap.size, 1, none⟩ = some (.slice p n c) := by rw [cell_of_row _ _ _ _ _ _ hrow]; rfl
  have HE1 := Lib.hid e1
  rw [hW1] at e0 e1
  clear he hn hidd hr hW1 hrow hl hid hcap
  by_cases i1 : id < 1
  · have d1 : decide ((id : Int) < 1) = true := decide_eq_true (by omega)
    obtain rfl : r = 1 := by rw [HR.out]; exact if_neg (fun x => by have := x.1.1; omega)
    clear HR hq CS i1
    go_enter Tryz.func18, Tryz.ntmps18
    go_wp2
    go_ret
    exact ⟨rfl, by rw [← HW1.out]; exact HK1.out⟩
  have d1 : decide ((id : Int) < 1) = false := decide_eq_false (by omega)
  by_cases i2 : 4294967294 < id
  · have d2 : decide ((id : Int) > 4294967294) = true := decide_eq_true (by omega)
    have d3 : (4294967294 : Int) < (id : Int) := by omega
    obtain rfl : r = 1 := by rw [HR.out]; exact if_neg (fun x => by have := x.1.2; omega)
    clear HR hq CS i1
    go_enter Tryz.func18, Tryz.ntmps18
    go_wp2
    go_ret
    exact ⟨rfl, by rw [← HW1.out]; exact HK1.out⟩
  have d2 : decide ((id : Int) > 4294967294) = false := decide_eq_false (by omega)
  have d3 : ¬ (4294967294 : Int) < (id : Int) := by omega
  by_cases i3 : 1 ≤ n ∧ n ≤ 256
  · have hq0 : (q == 0) = false := by
      rw [hq]; unfold sizeV; rw [if_pos (by omega)]; simp; omega
    have HID : Hid (1 ≤ id ∧ id ≤ 4294967294) := Lib.hid (by omega)
    have HN2 := Lib.hid i3
    clear hq i1 i2 i3
    go_enter Tryz.func18, Tryz.ntmps18
    go_wp2_with fail
    rw [← HW1.out]
    refine (CS _).mono ?_
    rintro e w2 ⟨rfl, hb2⟩
    have HK2 : Hid (Kept W1 w2) := Lib.hid hb2
    have e3 := Kept.cell hb2 HE1.out
    clear hb2 CS e0 e1
    go_wp2
    go_loopg [23] n (fun gh y wr => ∃ (k : Nat), k + gh = n ∧ y = .int .i64 k ∧ Hid (∀ e ∈ m.es.take k, mayE e) ∧ Hid (Kept W1 wr))
    case atStart => exact ⟨0, by omega, rfl, Lib.hid (fun e he => by simp at he), HK2⟩
    case round =>
      clear HK2 e3
      obtain ⟨k, hk, rfl, HA, HK⟩ := hrel
      have HKW : Hid (Kept w wr) := Lib.hid ((show Kept w W1 from HK1.out).then HK.out)
      by_cases hlt : k < n
      · have hki : (k : Int) < n := by omega
        have bk : decide ((k : Int) < (n : Int)) = true := by simpa using hki
        have hki0 : (0 : Int) ≤ k := by omega
        have hkl : k < m.es.length := by have := HN.out; omega
        obtain ⟨b, off, cs, t, fr, rfl, hg, hsz, hex, -⟩ := HE.out.elem encE hkl
        have g2 := Kept.row HKW.out hg
        obtain ⟨X, hX⟩ : ∃ X, X = (enL m.es[k]).toArray := ⟨_, rfl⟩
        rw [← hX] at hex
        have hwf := HE.out.good _ (List.getElem_mem hkl)
        have CE := fun W => ventry_any m.es[k] hwf X hX W
        have htk : m.es.take (k + 1) = m.es.take k ++ [m.es[k]] := List.take_succ_eq_append_getElem hkl
        have hmem : m.es[k] ∈ m.es := List.getElem_mem hkl
        have hXs : X.size = 35 := by rw [hX]; simpa using enL_len hwf.1
        have HXS := Lib.hid hXs
        obtain ⟨E, hE⟩ : ∃ E, E = m.es[k] := ⟨_, rfl⟩
        rw [← hE] at CE htk hmem
        obtain ⟨k1, hk1⟩ : ∃ k1, k1 = k + 1 := ⟨_, rfl⟩
        have v1 : IntKind.i64.wrap ((k : Int) + 1) = (k1 : Int) := by rw [show (k : Int) + 1 = (k1 : Int) by omega]; exact IntWalk.i64_in _ (by have := HL.out; omega)
        have HKK : Hid (k1 = k + 1 ∧ k + gk = n ∧ k < n) := Lib.hid ⟨hk1, hk, hlt⟩
        have HES : Hid (off + k * 35 + 35 ≤ cs.size ∧ cs.extract (off + k * 35) (off + k * 35 + 35) = X) := Lib.hid ⟨hsz, hex⟩
        have HXI : Hid ((Tryz.prog.info? 41).map (·.size) = some X.size) := Lib.hid (by rw [hXs]; exact infoEn)
        have HXO : Hid (X.all (·.oneCell') = true) := Lib.hid (by rw [hX, Array.all_eq_true_iff_forall_mem]; intro x hx; exact encE.one _ hwf x (by simpa using hx))
        have HSX : Hid (0 + 35 ≤ X.size ∧ X.extract 0 (0 + 35) = X) := Lib.hid ⟨by omega, by rw [show 0 + 35 = X.size by omega]; exact Array.extract_size⟩
        obtain ⟨W4, hW4⟩ : ∃ W, W = wr.alloc (.cells X 41) := ⟨_, rfl⟩
        have HW4 := Lib.hid hW4
        have HK4 : Hid (Kept wr W4) := Lib.hid (by rw [hW4]; exact box_below _ _)
        have HR4 : Hid (W4.heap[wr.heap.size]? = some (.cells X 41 (0, 0))) := Lib.hid (by rw [hW4]; exact heap_alloc_last wr _)
        by_cases hm : mayE E
        · rw [decide_eq_true hm] at CE
          have HA1 : Hid (∀ e ∈ m.es.take k1, mayE e) := Lib.hid (fun e he => by
            rw [hk1, htk] at he
            rcases List.mem_append.1 he with x | x
            · exact HA.out e x
            · rw [List.mem_singleton.1 x]; exact hm)
          clear hg hX hsz hex hwf htk hmem hE hk1 hm HA hk hlt hkl hXs hW4
          go_wp2_with (first
            | (with_reducible refine wpList_load_sub rfl _ _ rfl b (off + k * 35) 35 rfl t cs fr _ g2 Tryz.underlying41 rfl infoEn HES.out.1 X HES.out.2 ?_)
            | ((with_reducible refine wpList_store_row rfl _ _ _ rfl wr.heap.size X rfl rfl 41 _ (heap_alloc_last wr _) HXI.out ?hold HXO.out ?_); rotate_left; rw [World.setRow_alloc_new, ← HW4.out])
            | (with_reducible refine wpList_load_sub rfl _ _ rfl wr.heap.size 0 35 rfl 41 X (0, 0) _ HR4.out Tryz.underlying41 rfl infoEn HSX.out.1 X HSX.out.2 ?_))
          case hold => rw [HXS.out]; rfl
          refine (CE _).mono ?_
          rintro e w3 ⟨rfl, hb3⟩
          have HK3 : Hid (Kept W1 w3) := Lib.hid (((show Kept W1 wr from HK.out).then HK4.out).then hb3)
          clear hb3 CE g2
          go_wp2
          go_roundg (n - k1)
          · exact ⟨k1, by have := HKK.out; omega, by first | rfl | (have := HKK.out; congr 1; omega), HA1, HK3⟩
          · have := HKK.out; omega
        · rw [decide_eq_false hm] at CE
          obtain rfl : r = 1 := by rw [HR.out]; exact if_neg (fun x => hm (x.2.2 E hmem))
          clear hg hX hsz hex hwf htk hmem hE hk1 hm HA hk hlt hkl hXs hW4 HR
          go_wp2_with (first
            | (with_reducible refine wpList_load_sub rfl _ _ rfl b (off + k * 35) 35 rfl t cs fr _ g2 Tryz.underlying41 rfl infoEn HES.out.1 X HES.out.2 ?_)
            | ((with_reducible refine wpList_store_row rfl _ _ _ rfl wr.heap.size X rfl rfl 41 _ (heap_alloc_last wr _) HXI.out ?hold HXO.out ?_); rotate_left; rw [World.setRow_alloc_new, ← HW4.out])
            | (with_reducible refine wpList_load_sub rfl _ _ rfl wr.heap.size 0 35 rfl 41 X (0, 0) _ HR4.out Tryz.underlying41 rfl infoEn HSX.out.1 X HSX.out.2 ?_))
          case hold => rw [HXS.out]; rfl
          refine (CE _).mono ?_
          rintro e w3 ⟨rfl, hb3⟩
          have HK3 : Hid (Kept w w3) := Lib.hid (((show Kept w wr from HKW.out).then HK4.out).then hb3)
          clear hb3 CE g2
          go_wp2
          go_ret
          exact ⟨rfl, HK3.out⟩
      · have hki : ¬ (k : Int) < n := by omega
        have bk : decide ((k : Int) < (n : Int)) = false := by simpa using hki
        obtain rfl : r = 0 := by
          rw [HR.out]
          exact if_pos ⟨HID.out, HN2.out, fun e he => HA.out e (by rw [List.take_of_length_le (by have := HN.out; omega)]; exact he)⟩
        clear HA hk hlt HR
        go_wp2
        go_ret
        exact ⟨rfl, HKW.out⟩
  · have hq0 : q = 0 := by
      rw [hq]; unfold sizeV; rw [if_neg (by omega)]
    obtain rfl : r = 1 := by rw [HR.out]; exact if_neg (fun x => i3 x.2.1)
    subst hq0
    clear hq i1 i2 i3 HR
    go_enter Tryz.func18, Tryz.ntmps18
    go_wp2_with fail
    rw [← HW1.out]
    refine (CS _).mono ?_
    rintro e w2 ⟨rfl, hb2⟩
    have HK2 : Hid (Kept W1 w2) := Lib.hid hb2
    clear hb2 CS e0 e1
    go_wp2
    go_ret
    exact ⟨rfl, (show Kept w W1 from HK1.out).then HK2.out⟩

end Go.Proofs.YteompckehokdoaaGreatDoor
namespace Go.Proofs.YteompckehokdoaaGreatDoor
open Go.RowKit

set_option maxRecDepth 100000 in
set_option maxHeartbeats 16000000 in
theorem bytesOkM : MBytesOk := by
  intro m v w H hl
  obtain ⟨hid, sv, rfl, he⟩ := H
  obtain ⟨p, c, rfl, hcap, -⟩ := he.out encE
  have HE := Lib.hid he
  obtain ⟨n, hn⟩ : ∃ n, n = m.es.length := ⟨_, rfl⟩
  have HN := Lib.hid hn
  obtain ⟨id, hidd⟩ : ∃ i, i = m.id := ⟨_, rfl⟩
  rw [← hn] at hl hcap
  rw [← hn, ← hidd]
  have HL := Lib.hid hl
  obtain ⟨res, hres⟩ : ∃ r, r = wrapI (sumM m) := ⟨_, rfl⟩
  rw [← hres]
  have HRES : Hid (res = wrapI ((m.es.map En.len).sum)) := Lib.hid hres
  obtain ⟨W1, hW1⟩ : ∃ W1, W1 = w.alloc (.cells #[.int .u32 (id : Nat), .slice p n c] 25) := ⟨_, rfl⟩
  have HW1 := Lib.hid hW1
  have hrow := heap_alloc_last w (.cells #[.int .u32 (id : Nat), .slice p n c] 25)
  have e1 : (w.alloc (.cells #[.int .u32 (id : Nat), .slice p n c] 25)).cell? ⟨w.heap.size, 1, none⟩ = some (.slice p n c) := by rw [cell_of_row _ _ _ _ _ _ hrow]; rfl
  have HK1 : Hid (Kept w W1) := Lib.hid (by rw [hW1]; exact box_below _ _)
  clear he hn hidd hW1 hrow hl hid hcap hres
  go_enter Tryz.func8, Tryz.ntmps8
  go_wp2
  rw [← HW1.out]
  clear e1
  go_loopg [3, 9] n (fun gh s y wr => ∃ (k : Nat) (x : Int), k + gh = n ∧ s = .int .i64 x ∧ y = .int .i64 k ∧ Hid (x = wrapI (((m.es.take k).map En.len).sum)) ∧ Hid (Kept W1 wr))
  case atStart => exact ⟨0, 0, by omega, rfl, rfl, Lib.hid rfl, Lib.hid (Kept.refl W1)⟩
  case round =>
    obtain ⟨k, x, hk, rfl, rfl, HX, HK⟩ := hrel
    have HKW : Hid (Kept w wr) := Lib.hid ((show Kept w W1 from HK1.out).then HK.out)
    by_cases hlt : k < n
    · have hki : (k : Int) < n := by omega
      have bk : decide ((k : Int) < (n : Int)) = true := by simpa using hki
      have hki0 : (0 : Int) ≤ k := by omega
      have hkl : k < m.es.length := by have := HN.out; omega
      obtain ⟨b, off, cs, t, fr, rfl, hg, hsz, hex, -⟩ := HE.out.elem encE hkl
      have g2 := Kept.row HKW.out hg
      have hwf := HE.out.good _ (List.getElem_mem hkl)
      have htk : m.es.take (k + 1) = m.es.take k ++ [m.es[k]] := List.take_succ_eq_append_getElem hkl
      obtain ⟨E, hE⟩ : ∃ E, E = m.es[k] := ⟨_, rfl⟩
      rw [← hE] at hex hwf htk
      obtain ⟨X, hX⟩ : ∃ X, X = (enL E).toArray := ⟨_, rfl⟩
      rw [← hX] at hex
      have hXs : X.size = 35 := by rw [hX]; simpa using enL_len hwf.1
      have HXS := Lib.hid hXs
      have HXI : Hid ((Tryz.prog.info? 41).map (·.size) = some X.size) := Lib.hid (by rw [hXs]; exact infoEn)
      have HXO : Hid (X.all (·.oneCell') = true) := Lib.hid (by rw [hX, Array.all_eq_true_iff_forall_mem]; intro x hx; exact encE.one _ hwf x (by simpa using hx))
      have HES : Hid (off + k * 35 + 35 ≤ cs.size ∧ cs.extract (off + k * 35) (off + k * 35 + 35) = X) := Lib.hid ⟨hsz, hex⟩
      obtain ⟨W4, hW4⟩ : ∃ W, W = wr.alloc (.cells X 41) := ⟨_, rfl⟩
      have HW4 := Lib.hid hW4
      have HK4 : Hid (Kept wr W4) := Lib.hid (by rw [hW4]; exact box_below _ _)
      have hr4 : W4.heap[wr.heap.size]? = some (.cells X 41 (0, 0)) := by rw [hW4]; exact heap_alloc_last wr _
      obtain ⟨z, hz⟩ : ∃ z, z = E.len := ⟨_, rfl⟩
      have d1 : W4.cell? ⟨wr.heap.size, 32, none⟩ = some (.int .i64 z) := by rw [cell_of_row _ _ _ _ _ _ hr4, hX, hz]; exact enC_n hwf.1
      obtain ⟨k1, hk1⟩ : ∃ k1, k1 = k + 1 := ⟨_, rfl⟩
      have v1 : IntKind.i64.wrap ((k : Int) + 1) = (k1 : Int) := by rw [show (k : Int) + 1 = (k1 : Int) by omega]; exact IntWalk.i64_in _ (by have := HL.out; omega)
      obtain ⟨x1, hx1⟩ : ∃ x1, x1 = IntKind.i64.wrap (x + z) := ⟨_, rfl⟩
      have v2 : IntKind.i64.wrap (x + z) = x1 := hx1.symm
      have HX1 : Hid (x1 = wrapI (((m.es.take k1).map En.len).sum)) := Lib.hid (by
        rw [hx1, HX.out, wrapI_add, hk1, htk, List.map_append, List.sum_append, hz]
        simp)
      have HKK : Hid (k1 = k + 1 ∧ k + gk = n ∧ k < n) := Lib.hid ⟨hk1, hk, hlt⟩
      have HK5 : Hid (Kept W1 W4) := Lib.hid ((show Kept W1 wr from HK.out).then HK4.out)
      clear hg hsz hex hwf htk hE hX hXs hz hk1 hx1 hk hlt hkl HX hW4 hr4
      go_wp2_with (first
        | (with_reducible refine wpList_load_sub rfl _ _ rfl b (off + k * 35) 35 rfl t cs fr _ g2 Tryz.underlying41 rfl infoEn HES.out.1 X HES.out.2 ?_)
        | ((with_reducible refine wpList_store_row rfl _ _ _ rfl wr.heap.size X rfl rfl 41 _ (heap_alloc_last wr _) HXI.out ?hold HXO.out ?_); rotate_left; rw [World.setRow_alloc_new, ← HW4.out]))
      case hold => rw [HXS.out]; rfl
      clear g2
      go_roundg (n - k1)
      · exact ⟨k1, x1, by have := HKK.out; omega, rfl, by first | rfl | (have := HKK.out; congr 1; omega), HX1, HK5⟩
      · have := HKK.out; omega
    · have hki : ¬ (k : Int) < n := by omega
      have bk : decide ((k : Int) < (n : Int)) = false := by simpa using hki
      obtain rfl : res = x := by rw [HRES.out, HX.out, List.take_of_length_le (by have := HN.out; omega)]
      go_wp2
      go_ret
      exact ⟨rfl, HKW.out⟩

set_option maxRecDepth 100000 in
set_option maxHeartbeats 16000000 in
theorem sequalM (p p2 : Option Addr) (n m c c2 : Nat) (a b : List En) (w : World) (hea : EntsAt a (.slice p n c) w) (heb : EntsAt b (.slice p2 m c2) w) (hla : a.length = n) (hlb : b.length = m) (hl : n ≤ 1000000 ∧ m ≤ 1000000) (r : Bool) (hr : r = decide (a = b)) :
    Calls Tryz.prog 38 #[.slice p n c, .slice p2 m c2] w fun e w' => e = .returned (.bool r) ∧ Kept w w' := by
  have HA : Hid (EntsAt a (.slice p a.length c) w) := Lib.hid (by rw [hla]; exact hea)
  have HB : Hid (EntsAt b (.slice p2 b.length c2) w) := Lib.hid (by rw [hlb]; exact heb)
  have HN := Lib.hid hla.symm
  have HM := Lib.hid hlb.symm
  have HL := Lib.hid hl
  have HR := Lib.hid hr
  clear hea heb hla hlb hl hr
  by_cases hnm : n = m
  · subst hnm
    have b2 : ((n : Int) != (n : Int)) = false := by simp
    go_enter Tryz.func38, Tryz.ntmps38
    go_wp2
    go_loopg [5, 13] n (fun gh x5 s5 wx => ∃ k : Nat, k + gh = n ∧ s5 = .int .i64 k ∧ Hid (a.take k = b.take k) ∧ Hid (Kept w wx))
    case atStart => exact ⟨0, by omega, rfl, Lib.hid rfl, Lib.hid (Kept.refl w)⟩
    case round =>
      obtain ⟨k, hk, rfl, HE, HK⟩ := hrel
      by_cases hkn : k < n
      · have hki : (k : Int) < n := by omega
        have bk : decide ((k : Int) < (n : Int)) = true := by simpa using hki
        have hki0 : (0 : Int) ≤ k := by omega
        have hka : k < a.length := by rw [← HN.out]; exact hkn
        have hkb : k < b.length := by rw [← HM.out]; exact hkn
        obtain ⟨ba, off, cs, t, fr, rfl, hg, hsz, hex, -⟩ := HA.out.elem encE hka
        obtain ⟨b2', off2, cs2, t2, fr2, rfl, hg2, hsz2, hex2, -⟩ := HB.out.elem encE hkb
        have g1 := HK.out.row hg
        have g2 := HK.out.row hg2
        have IX1 := fun W => idx_en ba off n c k hkn W
        have IX2 := fun W => idx_en b2' off2 n c2 k hkn W
        have hwa := HA.out.good _ (List.getElem_mem hka)
        have hwb := HB.out.good _ (List.getElem_mem hkb)
        have hq := fun W => neq_en a[k] b[k] hwa.1 hwb.1 W
        have hta : a.take (k + 1) = a.take k ++ [a[k]] := List.take_succ_eq_append_getElem hka
        have htb : b.take (k + 1) = b.take k ++ [b[k]] := List.take_succ_eq_append_getElem hkb
        have hne0 : a[k] ≠ b[k] → a ≠ b := fun h e => h (by simp [e])
        obtain ⟨X, hX⟩ : ∃ X, X = (enL a[k]).toArray := ⟨_, rfl⟩
        obtain ⟨Y, hY⟩ : ∃ Y, Y = (enL b[k]).toArray := ⟨_, rfl⟩
        rw [← hX] at hex
        rw [← hY] at hex2
        have hq2 : ∀ W, (binOp .neq 41 (.agg X) (.agg Y)).run Tryz.prog W = .ok (.bool (!decide (a[k] = b[k]))) W := by rw [hX, hY]; exact hq
        obtain ⟨q, hqq⟩ : ∃ q, q = !decide (a[k] = b[k]) := ⟨_, rfl⟩
        rw [← hqq] at hq2
        have HQ := Lib.hid hq2
        have HES := Lib.hid (show off + k * 35 + 35 ≤ cs.size ∧ cs.extract (off + k * 35) (off + k * 35 + 35) = X from ⟨hsz, hex⟩)
        have HES2 := Lib.hid (show off2 + k * 35 + 35 ≤ cs2.size ∧ cs2.extract (off2 + k * 35) (off2 + k * 35 + 35) = Y from ⟨hsz2, hex2⟩)
        obtain ⟨k1, hk1⟩ : ∃ k1, k1 = k + 1 := ⟨_, rfl⟩
        have v1 : IntKind.i64.wrap ((k : Int) + 1) = (k1 : Int) := by rw [show (k : Int) + 1 = (k1 : Int) by omega]; exact IntWalk.i64_in _ (by have := HL.out; omega)
        have HKK : Hid (k1 = k + 1 ∧ k + gk = n ∧ k < n) := Lib.hid ⟨hk1, hk, hkn⟩
        have HTT : Hid (q = false → a.take k1 = b.take k1) := Lib.hid (fun e => by
          rw [hqq] at e
          have e2 : a[k] = b[k] := by simpa using e
          rw [hk1, hta, htb, HE.out, e2])
        have HNO : Hid (q = true → r = false) := Lib.hid (fun e => by
          rw [hqq] at e
          have e2 : a[k] ≠ b[k] := by simpa using e
          rw [HR.out]
          exact decide_eq_false (fun x => hne0 e2 x))
        clear hg hg2 hsz hsz2 hex hex2 hwa hwb hq hta htb hne0 hX hY hq2 hqq hk1 hk hkn hka hkb HE
        go_wp2_with fail
        refine wp_region_kept (by kernel_rfl) (by kernel_rfl) ?_
        refine wpQuiet_pure (v := ?_) (by kernel_rfl) ?_ (fun K hK => ?_)
        case refine_2 => intro W _; go_simp; try with_reducible rfl
        go_simp
        refine hK _ ?_; clear hK K
        refine wpQuiet_pure (v := ?_) (by kernel_rfl) ?_ (fun K hK => ?_)
        case refine_2 => intro W _; go_simp; try with_reducible rfl
        go_simp
        refine hK _ ?_; clear hK K
        refine wpQuiet_pure (v := ?_) (by kernel_rfl) ?_ (fun K hK => ?_)
        case refine_2 => intro W _; go_simp; try with_reducible rfl
        go_simp
        refine hK _ ?_; clear hK K
        refine wpQuiet_load_part (by kernel_rfl) _ _ rfl ba (off + k * 35) 35 rfl t cs fr _ (fun _ h => h.row g1) Tryz.underlying41 rfl infoEn _ HES.out (fun K hK => ?_)
        go_simp
        refine hK _ ?_; clear hK K
        refine wpQuiet_pure (v := ?_) (by kernel_rfl) ?_ (fun K hK => ?_)
        case refine_2 => intro W _; go_simp; try with_reducible rfl
        go_simp
        refine hK _ ?_; clear hK K
        refine wpQuiet_pure (v := ?_) (by kernel_rfl) ?_ (fun K hK => ?_)
        case refine_2 => intro W _; go_simp; try with_reducible rfl
        go_simp
        refine hK _ ?_; clear hK K
        refine wpQuiet_pure (v := ?_) (by kernel_rfl) ?_ (fun K hK => ?_)
        case refine_2 => intro W _; go_simp; try with_reducible rfl
        go_simp
        refine hK _ ?_; clear hK K
        refine wpQuiet_load_part (by kernel_rfl) _ _ rfl b2' (off2 + k * 35) 35 rfl t2 cs2 fr2 _ (fun _ h => h.row g2) Tryz.underlying41 rfl infoEn _ HES2.out (fun K hK => ?_)
        go_simp
        refine hK _ ?_; clear hK K
        refine wpQuiet_neq (by kernel_rfl) _ _ _ _ rfl X Y rfl rfl (by kernel_rfl) q HQ.out (fun K hK => ?_)
        go_simp
        refine hK _ ?_; clear hK K
        refine wpQuiet_nil ?_
        intro w6 hk6
        have HK6 : Hid (Kept w w6) := Lib.hid ((show Kept w wr from HK.out).then hk6)
        clear hk6 g1 g2 IX1 IX2
        cases q with
        | false =>
          have HT := Lib.hid (HTT.out rfl)
          go_wp2
          go_roundg (n - k1)
          · exact ⟨k1, by have := HKK.out; omega, by first | rfl | (have := HKK.out; congr 1; omega), HT, HK6⟩
          · have := HKK.out; omega
        | true =>
          obtain rfl : r = false := HNO.out rfl
          go_wp2
          go_ret
          exact ⟨rfl, HK6.out⟩
      · have hki : ¬ (k : Int) < n := by omega
        have bk : decide ((k : Int) < (n : Int)) = false := by simpa using hki
        obtain rfl : r = true := by
          rw [HR.out]
          refine decide_eq_true ?_
          have := HE.out
          rw [List.take_of_length_le (by have := HN.out; omega), List.take_of_length_le (by have := HM.out; omega)] at this
          exact this
        go_wp2
        go_ret
        exact ⟨rfl, HK.out⟩
  · have b2 : ((n : Int) != (m : Int)) = true := bne_iff_ne.2 (by omega)
    have b3 : ((n : Int) == (m : Int)) = false := beq_eq_false_iff_ne.2 (by omega)
    obtain rfl : r = false := by rw [HR.out]; exact decide_eq_false (fun x => hnm (by rw [HN.out, HM.out, x]))
    clear hnm
    go_enter Tryz.func38, Tryz.ntmps38
    go_wp2
    go_ret
    exact ⟨rfl, Kept.refl w⟩

set_option maxRecDepth 100000 in
set_option maxHeartbeats 16000000 in
theorem sameOkM : MSameOk := by
  intro a b u v w HU HV hla hlb
  obtain ⟨hida, su, rfl, hea⟩ := HU
  obtain ⟨hidb, sv, rfl, heb⟩ := HV
  obtain ⟨p, c, rfl, -, -⟩ := hea.out encE
  obtain ⟨p2, c2, rfl, -, -⟩ := heb.out encE
  obtain ⟨n, hn⟩ : ∃ n, n = a.es.length := ⟨_, rfl⟩
  obtain ⟨m, hm⟩ : ∃ n, n = b.es.length := ⟨_, rfl⟩
  obtain ⟨id, hid⟩ : ∃ i, i = a.id := ⟨_, rfl⟩
  obtain ⟨jd, hjd⟩ : ∃ i, i = b.id := ⟨_, rfl⟩
  obtain ⟨r, hr⟩ : ∃ r, r = decide (a = b) := ⟨_, rfl⟩
  have HR : Hid (r = decide (id = jd ∧ a.es = b.es)) := Lib.hid (by rw [hr, hid, hjd, decide_eq_decide]; exact Mf.ext_iff' a b)
  rw [← hn] at hla hea
  rw [← hm] at hlb heb
  rw [← hn, ← hm, ← hid, ← hjd, ← hr]
  have hs1 : (w.alloc (.cells #[.int .u32 (id : Nat), .slice p n c] 25)).heap.size = w.heap.size + 1 := by simp
  obtain ⟨W1, hW1⟩ : ∃ W, W = (w.alloc (.cells #[.int .u32 (id : Nat), .slice p n c] 25)).alloc (.cells #[.int .u32 (jd : Nat), .slice p2 m c2] 25) := ⟨_, rfl⟩
  have hk1 : Kept w W1 := by rw [hW1]; exact (show Kept w _ from box_below _ _).then (box_below _ _)
  have hrowa : W1.heap[w.heap.size]? = some (.cells #[.int .u32 (id : Nat), .slice p n c] 25 (0, 0)) := by rw [hW1]; exact Kept.row (box_below _ _) (heap_alloc_last w _)
  have hrowb : W1.heap[w.heap.size + 1]? = some (.cells #[.int .u32 (jd : Nat), .slice p2 m c2] 25 (0, 0)) := by
    have := heap_alloc_last (w.alloc (.cells #[.int .u32 (id : Nat), .slice p n c] 25)) (.cells #[.int .u32 (jd : Nat), .slice p2 m c2] 25)
    rw [hs1] at this
    rw [hW1]; exact this
  have a0 : W1.cell? ⟨w.heap.size, 0, none⟩ = some (.int .u32 (id : Nat)) := by rw [cell_of_row _ _ _ _ _ _ hrowa]; rfl
  have a1 : W1.cell? ⟨w.heap.size, 1, none⟩ = some (.slice p n c) := by rw [cell_of_row _ _ _ _ _ _ hrowa]; rfl
  have d0 : W1.cell? ⟨w.heap.size + 1, 0, none⟩ = some (.int .u32 (jd : Nat)) := by rw [cell_of_row _ _ _ _ _ _ hrowb]; rfl
  have d1 : W1.cell? ⟨w.heap.size + 1, 1, none⟩ = some (.slice p2 m c2) := by rw [cell_of_row _ _ _ _ _ _ hrowb]; rfl
  obtain ⟨q, hq⟩ : ∃ q, q = decide (a.es = b.es) := ⟨_, rfl⟩
  have CE := sequalM p p2 n m c c2 a.es b.es W1 (hea.later hk1) (heb.later hk1) hn.symm hm.symm (by omega) q hq
  have HK1 := Lib.hid hk1
  rw [hW1] at a0 a1 d0 d1
  have HW1 := Lib.hid hW1
  have HQ := Lib.hid hq
  clear hea heb hn hm hid hjd hr hla hlb hs1 hrowa hrowb hW1 hida hidb hk1 hq
  by_cases hids : id = jd
  · subst hids
    have b1 : ((id : Int) == (id : Int)) = true := by simp
    obtain rfl : r = q := by
      rw [HR.out, HQ.out, decide_eq_decide]
      exact ⟨fun x => x.2, fun x => ⟨rfl, x⟩⟩
    go_enter Tryz.func17, Tryz.ntmps17
    go_wp2_with fail
    rw [← HW1.out]
    refine CE.mono ?_
    rintro e w2 ⟨rfl, hb2⟩
    have HK2 : Hid (Kept w w2) := Lib.hid ((show Kept w W1 from HK1.out).then hb2)
    clear hb2 CE a0 a1 d0 d1
    go_wp2
    go_ret
    exact ⟨rfl, HK2.out⟩
  · have b3 : ((id : Int) == (jd : Int)) = false := beq_eq_false_iff_ne.2 (by omega)
    obtain rfl : r = false := by rw [HR.out]; exact decide_eq_false (fun x => hids x.1)
    clear hids CE
    go_enter Tryz.func17, Tryz.ntmps17
    go_wp2
    go_ret
    exact ⟨rfl, by rw [← HW1.out]; exact HK1.out⟩

end Go.Proofs.YteompckehokdoaaGreatDoor
