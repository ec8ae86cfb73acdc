/- The document's Seal, Front, Build. -/
import Derived.Test.YtdmbebafpamgfaaDoorBxF
namespace Go.Proofs.YtdmbebafpamgfaaDoor
open Go.RowKit

theorem rpnumX (k n : Nat) (i : Int) (hi : i = k) (hk : k ≤ 8) (hn : n < 2 ^ 64) (S : ByteArray) (hS : S = str (leB k n)) (w : World) :
    Calls Tryd.prog 67 #[.int .u64 (n : Nat), .int .i64 i] w fun e w' => e = .returned (.string S) ∧ Below w.heap.size w w' := by
  subst hi hS
  exact rpnum_any k n hk hn w
set_option maxHeartbeats 1000000 in
theorem rsealX (s : ByteArray) (hs : s.size ≤ 100000) (w : World) :
    Calls Tryd.prog 68 #[.string s] w fun e w' => e = .returned (.string (s ++ str (leB 4 (moreN 0 s.data.toList)))) ∧ Below w.heap.size w w' := by
  have C1 := fun W => rsum_any s hs W
  have hl := sumN_lt s.data.toList
  obtain ⟨m, hm⟩ : ∃ m, m = moreN 0 s.data.toList := ⟨_, rfl⟩
  rw [← hm] at C1 hl ⊢
  have u1 : IntKind.u64.wrap (m : Int) = (m : Int) := IntWalk.u64_in _ (by omega)
  obtain ⟨S, hS⟩ : ∃ S, S = str (leB 4 m) := ⟨_, rfl⟩
  have C2 := fun W => rpnumX 4 m 4 rfl (by omega) (by omega) S hS W
  have x4 : S.size = 4 := by rw [hS, str_size, leB_len]
  rw [← hS]
  obtain ⟨Y, hY⟩ : ∃ Y, Y = s ++ S := ⟨_, rfl⟩
  have c1 : s ++ S = Y := hY.symm
  rw [← hY]
  have s1 : ¬ 9223372036854775807 < s.size + 4 := by omega
  clear hm hl hS hY
  go_enter Tryd.func68, Tryd.ntmps68
  go_wp2_with fail
  refine (C1 _).mono ?_
  rintro e w2 ⟨rfl, hb2⟩
  have HB2 : Hid (Kept w w2) := Lib.hid hb2
  clear hb2 C1
  go_wp2_with fail
  refine (C2 _).mono ?_
  rintro e w3 ⟨rfl, hb3⟩
  have HB3 : Hid (Kept w w3) := Lib.hid ((show Kept w w2 from HB2.out).then hb3)
  clear hb3 C2
  go_wp2
  go_ret
  exact ⟨rfl, HB3.out⟩

set_option maxRecDepth 100000 in
set_option maxHeartbeats 16000000 in
theorem rfrontB14_any (h : Hd) (g : goodH h) (hwf : wfH h) (v : Value) (w : World) (H : HeadIs h v w) :
    Calls Tryd.prog 45 #[v] w fun e w' => e = .returned (.string (str (frontH h))) ∧ Kept w w' := by
  have hl := g.len
  obtain ⟨sv, rfl, hsl⟩ := H
  obtain ⟨p, c, rfl, -, hc⟩ := hsl.out
  have HC := Lib.hid hc
  obtain ⟨n, hn⟩ : ∃ n, n = h.slots.length := ⟨_, rfl⟩
  have HN := Lib.hid hn
  obtain ⟨id, hidd⟩ : ∃ id, id = h.id := ⟨_, rfl⟩
  have HW : Hid (∀ s ∈ h.slots, s.1 < 256 ^ 2 ∧ s.2 < 256 ^ 4) := Lib.hid hwf.2
  have hidl := hwf.1
  have HTK : Hid (∀ k (hk : k < h.slots.length), h.slots.take (k + 1) = h.slots.take k ++ [h.slots[k]]) := Lib.hid (fun k hk => List.take_succ_eq_append_getElem hk)
  have HFR : Hid (frontH h = frontP h ++ leB 4 (moreN 0 (frontP h))) := Lib.hid rfl
  have HFP : Hid (frontP h = (magicX ++ (leB 4 id ++ leB 2 n)) ++ h.slots.flatMap slotB) := Lib.hid (by unfold frontP; rw [hidd, hn]; simp only [List.append_assoc])
  obtain ⟨res, hres⟩ : ∃ r, r = frontH h := ⟨_, rfl⟩
  rw [← hres] at HFR
  rw [← hidd] at hidl
  rw [← hres, ← hn, ← hidd]
  have hn256 : n ≤ 256 := by omega
  have HN256 := Lib.hid hn256
  have u1 : IntKind.u64.wrap (id : Int) = (id : Int) := IntWalk.u64_in _ (by omega)
  have u2 : IntKind.u64.wrap (n : Int) = (n : Int) := IntWalk.u64_in _ (by omega)
  obtain ⟨S1, h1⟩ : ∃ S, S = str (leB 4 id) := ⟨_, rfl⟩
  have C1 := fun W => rpnumX 4 id 4 rfl (by omega) (by omega) S1 h1 W
  obtain ⟨S2, h2⟩ : ∃ S, S = str (leB 2 n) := ⟨_, rfl⟩
  have C2 := fun W => rpnumX 2 n 2 rfl (by omega) (by omega) S2 h2 W
  have z1 : S1.size = 4 := by rw [h1, str_size, leB_len]
  have z2 : S2.size = 2 := by rw [h2, str_size, leB_len]
  obtain ⟨Y1, hy1⟩ : ∃ Y, Y = (⟨#[83, 66, 79, 88]⟩ : ByteArray) ++ S1 := ⟨_, rfl⟩
  have c1 : (⟨#[83, 66, 79, 88]⟩ : ByteArray) ++ S1 = Y1 := hy1.symm
  have y1 : Y1.size = 8 := by rw [hy1, ByteArray.size_append, z1]; rfl
  obtain ⟨Y2, hy2⟩ : ∃ Y, Y = Y1 ++ S2 := ⟨_, rfl⟩
  have c2 : Y1 ++ S2 = Y2 := hy2.symm
  have hY2 : Y2 = str (magicX ++ (leB 4 id ++ leB 2 n)) := by
    rw [hy2, hy1, h1, h2, ← List.append_assoc, ← str_append, ← str_append]
    rfl
  have HS0 : Hid (Y2 = str ((magicX ++ (leB 4 id ++ leB 2 n)) ++ (h.slots.take 0).flatMap slotB)) := Lib.hid (by rw [hY2]; simp)
  have HZ0 : Hid (Y2.size = 10 + 6 * 0) := Lib.hid (by rw [hy2, ByteArray.size_append, y1, z2])
  obtain ⟨PRE, hPRE⟩ : ∃ P, P = magicX ++ (leB 4 id ++ leB 2 n) := ⟨_, rfl⟩
  rw [← hPRE] at HS0 HFP
  have HKA : Hid (Kept w (w.alloc (.cells #[.int .u32 (id : Nat), .slice p n c] 33))) := Lib.hid (box_below _ _)
  have hrow := heap_alloc_last w (.cells #[.int .u32 (id : Nat), .slice p n c] 33)
  have HF0 : Hid ((w.alloc (.cells #[.int .u32 (id : Nat), .slice p n c] 33)).cell? ⟨w.heap.size, 0, none⟩ = some (.int .u32 (id : Nat))) := Lib.hid (by rw [cell_of_row _ _ _ _ _ _ hrow]; rfl)
  have HF1 : Hid ((w.alloc (.cells #[.int .u32 (id : Nat), .slice p n c] 33)).cell? ⟨w.heap.size, 1, none⟩ = some (.slice p n c)) := Lib.hid (by rw [cell_of_row _ _ _ _ _ _ hrow]; rfl)
  obtain ⟨W1, hW1⟩ : ∃ W1, W1 = w.alloc (.cells #[.int .u32 (id : Nat), .slice p n c] 33) := ⟨_, rfl⟩
  have HW1 := Lib.hid hW1
  rw [← hW1] at HKA HF0 HF1
  clear hc hsl hn hidd hW1 hrow hres hl h1 h2 hy1 hy2 hY2 hidl hPRE hwf g hn256
  have f0 := HF0.out
  have f1 := HF1.out
  rw [HW1.out] at f0 f1
  have HW1' : Hid (w.alloc (.cells #[.int .u32 (id : Nat), .slice p n c] 33) = W1) := Lib.hid HW1.out.symm
  go_enter Tryd.func45, Tryd.ntmps45
  go_wp2_with fail
  rw [HW1'.out] at f0 f1
  try rw [HW1'.out]
  refine wp_region_kept (by kernel_rfl) (by kernel_rfl) ?_
  refine wpQuiet_pure (v := ?_) (by kernel_rfl) ?_ (fun K hK => ?_)
  case refine_2 => intro W _; go_simp; try with_reducible rfl
  go_simp
  refine hK _ ?_; clear hK K
  refine wpQuiet_pure (v := ?_) (by kernel_rfl) ?_ (fun K hK => ?_)
  case refine_2 => intro W hW; have e0 := hW.cell f0; go_simp; try with_reducible rfl
  go_simp
  refine hK _ ?_; clear hK K
  refine wpQuiet_pure (v := ?_) (by kernel_rfl) ?_ (fun K hK => ?_)
  case refine_2 => intro W _; go_simp; try with_reducible rfl
  go_simp
  refine hK _ ?_; clear hK K
  refine wpQuiet_call (by kernel_rfl) _ _ _ (fun W => by go_simp) (fun W h => Calls.kept_of h (C1 W)) (fun K hK => ?_)
  go_simp
  refine hK _ ?_; clear hK K
  refine wpQuiet_pure (v := ?_) (by kernel_rfl) ?_ (fun K hK => ?_)
  case refine_2 => intro W _; go_simp; try with_reducible rfl
  go_simp
  refine hK _ ?_; clear hK K
  refine wpQuiet_pure (v := ?_) (by kernel_rfl) ?_ (fun K hK => ?_)
  case refine_2 => intro W _; go_simp; try with_reducible rfl
  go_simp
  refine hK _ ?_; clear hK K
  refine wpQuiet_pure (v := ?_) (by kernel_rfl) ?_ (fun K hK => ?_)
  case refine_2 => intro W hW; have e0 := hW.cell f1; go_simp; try with_reducible rfl
  go_simp
  refine hK _ ?_; clear hK K
  refine wpQuiet_pure (v := ?_) (by kernel_rfl) ?_ (fun K hK => ?_)
  case refine_2 => intro W _; go_simp; try with_reducible rfl
  go_simp
  refine hK _ ?_; clear hK K
  refine wpQuiet_pure (v := ?_) (by kernel_rfl) ?_ (fun K hK => ?_)
  case refine_2 => intro W _; go_simp; try with_reducible rfl
  go_simp
  refine hK _ ?_; clear hK K
  refine wpQuiet_call (by kernel_rfl) _ _ _ (fun W => by go_simp) (fun W h => Calls.kept_of h (C2 W)) (fun K hK => ?_)
  go_simp
  refine hK _ ?_; clear hK K
  refine wpQuiet_pure (v := ?_) (by kernel_rfl) ?_ (fun K hK => ?_)
  case refine_2 => intro W _; go_simp; try with_reducible rfl
  go_simp
  refine hK _ ?_; clear hK K
  refine wpQuiet_pure (v := ?_) (by kernel_rfl) ?_ (fun K hK => ?_)
  case refine_2 => intro W _; go_simp; try with_reducible rfl
  go_simp
  refine hK _ ?_; clear hK K
  refine wpQuiet_nil ?_
  intro w2 hk2
  have HB2 : Hid (Kept W1 w2) := Lib.hid hk2
  clear f0 f1 hk2 C1 C2 c1 c2 z1 z2 y1 u1
  go_wp2
  go_loopg [3, 4] n (fun gh a y wr => ∃ (k : Nat) (X : ByteArray), k + gh = n ∧ a = .string X ∧ y = .int .i64 k ∧ Hid (X = str (PRE ++ (h.slots.take k).flatMap slotB)) ∧ Hid (X.size = 10 + 6 * k) ∧ Hid (Kept W1 wr))
  case atStart => exact ⟨0, Y2, by omega, rfl, rfl, HS0, HZ0, HB2⟩
  case round =>
    clear HS0 HZ0 HB2
    obtain ⟨k, X, hk, rfl, rfl, HX, HXZ, HKW⟩ := hrel
    have xz := HXZ.out
    have f1 := Kept.cell HKW.out HF1.out
    by_cases hlt : k < n
    · have hki : (k : Int) < n := by omega
      have bk : decide ((k : Int) < (n : Int)) = true := by simpa using hki
      have hki0 : (0 : Int) ≤ k := by omega
      rcases HC.out with h0 | ⟨b, off, rfl, hcell⟩
      · have := HN.out; omega
      have hkl : k < h.slots.length := by have := HN.out; omega
      have e1 := Kept.cell HKW.out (Kept.cell HKA.out (hcell k hkl).1)
      have e2 := Kept.cell HKW.out (Kept.cell HKA.out (hcell k hkl).2)
      have htk := HTK.out k hkl
      have hsm := HW.out (h.slots[k]) (List.getElem_mem hkl)
      obtain ⟨S, hS⟩ : ∃ S, S = h.slots[k] := ⟨_, rfl⟩
      rw [← hS] at e1 e2 htk hsm
      obtain ⟨x, q⟩ := S
      simp only at e1 e2 hsm
      have u3 : IntKind.u64.wrap (x : Int) = (x : Int) := IntWalk.u64_in _ (by omega)
      have u4 : IntKind.u64.wrap (q : Int) = (q : Int) := IntWalk.u64_in _ (by omega)
      obtain ⟨S1, h1⟩ : ∃ S, S = str (leB 2 x) := ⟨_, rfl⟩
      have C1 := fun W => rpnumX 2 x 2 rfl (by omega) (by omega) S1 h1 W
      obtain ⟨S2, h2⟩ : ∃ S, S = str (leB 4 q) := ⟨_, rfl⟩
      have C2 := fun W => rpnumX 4 q 4 rfl (by omega) (by omega) S2 h2 W
      have z1 : S1.size = 2 := by rw [h1, str_size, leB_len]
      have z2 : S2.size = 4 := by rw [h2, str_size, leB_len]
      obtain ⟨k1, hk1⟩ : ∃ k1, k1 = k + 1 := ⟨_, rfl⟩
      have hn256 := HN256.out
      have v1 : IntKind.i64.wrap ((k : Int) + 1) = (k1 : Int) := by rw [show (k : Int) + 1 = (k1 : Int) by omega]; exact IntWalk.i64_in _ (by omega)
      obtain ⟨Y1, hy1⟩ : ∃ Y, Y = X ++ S1 := ⟨_, rfl⟩
      have c1 : X ++ S1 = Y1 := hy1.symm
      obtain ⟨xs, hxs⟩ : ∃ xs, xs = 10 + 6 * k := ⟨_, rfl⟩
      rw [← hxs] at xz
      have y1 : Y1.size = xs + 2 := by rw [hy1, ByteArray.size_append, z1, xz]
      obtain ⟨Y2, hy2⟩ : ∃ Y, Y = Y1 ++ S2 := ⟨_, rfl⟩
      have c2 : Y1 ++ S2 = Y2 := hy2.symm
      have s1 : ¬ 9223372036854775807 < xs + 2 := by omega
      have s2 : ¬ 9223372036854775807 < xs + 2 + 4 := by omega
      have HY : Hid (Y2 = str (PRE ++ (h.slots.take k1).flatMap slotB)) := Lib.hid (by
        rw [hk1, htk, List.flatMap_append, ← List.append_assoc, ← str_append, ← HX.out, hy2, hy1, h1, h2, ByteArray.append_assoc, str_append]
        congr 2
        all_goals (show _ = slotB (x, q) ++ []; rw [List.append_nil]; first | rfl | skip))
      have HYZ : Hid (Y2.size = 10 + 6 * k1) := Lib.hid (by rw [hy2, ByteArray.size_append, y1, z2]; omega)
      have HK1 := Lib.hid hk1
      have HLT2 := Lib.hid hlt
      clear hcell htk hsm hS h1 h2 hk1 hn256 hy1 hy2 hxs HX HXZ HC
      go_wp2_with fail
      refine wp_region_kept (by kernel_rfl) (by kernel_rfl) ?_
      refine wpQuiet_pure (v := ?_) (by kernel_rfl) ?_ (fun K hK => ?_)
      case refine_2 => intro W _; go_simp; try with_reducible rfl
      go_simp
      refine hK _ ?_; clear hK K
      refine wpQuiet_pure (v := ?_) (by kernel_rfl) ?_ (fun K hK => ?_)
      case refine_2 => intro W _; go_simp; try with_reducible rfl
      go_simp
      refine hK _ ?_; clear hK K
      refine wpQuiet_pure (v := ?_) (by kernel_rfl) ?_ (fun K hK => ?_)
      case refine_2 => intro W hW; have e0 := hW.cell f1; go_simp; try with_reducible rfl
      go_simp
      refine hK _ ?_; clear hK K
      refine wpQuiet_pure (v := ?_) (by kernel_rfl) ?_ (fun K hK => ?_)
      case refine_2 => intro W _; go_simp; try with_reducible rfl
      go_simp
      refine hK _ ?_; clear hK K
      refine wpQuiet_pure (v := ?_) (by kernel_rfl) ?_ (fun K hK => ?_)
      case refine_2 => intro W _; go_simp; try with_reducible rfl
      go_simp
      refine hK _ ?_; clear hK K
      refine wpQuiet_pure (v := ?_) (by kernel_rfl) ?_ (fun K hK => ?_)
      case refine_2 => intro W _; go_simp; try with_reducible rfl
      go_simp
      refine hK _ ?_; clear hK K
      refine wpQuiet_pure (v := ?_) (by kernel_rfl) ?_ (fun K hK => ?_)
      case refine_2 => intro W hW; have e0 := hW.cell e1; go_simp; try with_reducible rfl
      go_simp
      refine hK _ ?_; clear hK K
      refine wpQuiet_pure (v := ?_) (by kernel_rfl) ?_ (fun K hK => ?_)
      case refine_2 => intro W _; go_simp; try with_reducible rfl
      go_simp
      refine hK _ ?_; clear hK K
      refine wpQuiet_call (by kernel_rfl) _ _ _ (fun W => by go_simp) (fun W h => Calls.kept_of h (C1 W)) (fun K hK => ?_)
      go_simp
      refine hK _ ?_; clear hK K
      refine wpQuiet_pure (v := ?_) (by kernel_rfl) ?_ (fun K hK => ?_)
      case refine_2 => intro W _; go_simp; try with_reducible rfl
      go_simp
      refine hK _ ?_; clear hK K
      refine wpQuiet_pure (v := ?_) (by kernel_rfl) ?_ (fun K hK => ?_)
      case refine_2 => intro W _; go_simp; try with_reducible rfl
      go_simp
      refine hK _ ?_; clear hK K
      refine wpQuiet_pure (v := ?_) (by kernel_rfl) ?_ (fun K hK => ?_)
      case refine_2 => intro W hW; have e0 := hW.cell f1; go_simp; try with_reducible rfl
      go_simp
      refine hK _ ?_; clear hK K
      refine wpQuiet_pure (v := ?_) (by kernel_rfl) ?_ (fun K hK => ?_)
      case refine_2 => intro W _; go_simp; try with_reducible rfl
      go_simp
      refine hK _ ?_; clear hK K
      refine wpQuiet_pure (v := ?_) (by kernel_rfl) ?_ (fun K hK => ?_)
      case refine_2 => intro W _; go_simp; try with_reducible rfl
      go_simp
      refine hK _ ?_; clear hK K
      refine wpQuiet_pure (v := ?_) (by kernel_rfl) ?_ (fun K hK => ?_)
      case refine_2 => intro W _; go_simp; try with_reducible rfl
      go_simp
      refine hK _ ?_; clear hK K
      refine wpQuiet_pure (v := ?_) (by kernel_rfl) ?_ (fun K hK => ?_)
      case refine_2 => intro W hW; have e0 := hW.cell e2; go_simp; try with_reducible rfl
      go_simp
      refine hK _ ?_; clear hK K
      refine wpQuiet_pure (v := ?_) (by kernel_rfl) ?_ (fun K hK => ?_)
      case refine_2 => intro W _; go_simp; try with_reducible rfl
      go_simp
      refine hK _ ?_; clear hK K
      refine wpQuiet_call (by kernel_rfl) _ _ _ (fun W => by go_simp) (fun W h => Calls.kept_of h (C2 W)) (fun K hK => ?_)
      go_simp
      refine hK _ ?_; clear hK K
      refine wpQuiet_pure (v := ?_) (by kernel_rfl) ?_ (fun K hK => ?_)
      case refine_2 => intro W _; go_simp; try with_reducible rfl
      go_simp
      refine hK _ ?_; clear hK K
      refine wpQuiet_pure (v := ?_) (by kernel_rfl) ?_ (fun K hK => ?_)
      case refine_2 => intro W _; go_simp; try with_reducible rfl
      go_simp
      refine hK _ ?_; clear hK K
      refine wpQuiet_nil ?_
      intro w3 hk3
      have HB3 : Hid (Kept W1 w3) := Lib.hid ((show Kept W1 wr from HKW.out).then hk3)
      clear hk3 C1 C2 f1 e1 e2
      go_wp2
      go_roundg (n - k1)
      · exact ⟨k1, Y2, by have := HK1.out; have := HLT2.out; omega, rfl, by first | rfl | (have := HK1.out; simp; omega), HY, HYZ, HB3⟩
      · have := HK1.out; omega
    · have hki : ¬ (k : Int) < n := by omega
      have bk : decide ((k : Int) < (n : Int)) = false := by simpa using hki
      have hXP : X = str (frontP h) := by
        rw [HX.out, List.take_of_length_le (by have := HN.out; omega), ← HFP.out]
      have hX3 : X.data.toList = frontP h := by rw [hXP, str_list]
      have hn256 := HN256.out
      have CS := fun W => rsealX X (by omega) W
      rw [hX3] at CS
      have HR : Hid (X ++ str (leB 4 (moreN 0 (frontP h))) = str res) := Lib.hid (by rw [hXP, str_append, ← HFR.out])
      obtain ⟨Z, hZ⟩ : ∃ Z, Z = X ++ str (leB 4 (moreN 0 (frontP h))) := ⟨_, rfl⟩
      rw [← hZ] at CS HR
      have HKX : Hid (Kept w wr) := Lib.hid ((show Kept w W1 from HKA.out).then HKW.out)
      clear hXP hX3 hZ HX HXZ HC hn256
      go_wp2_with fail
      refine (CS _).mono ?_
      rintro e w4 ⟨rfl, hb4⟩
      have HB4 : Hid (Kept w w4) := Lib.hid ((show Kept w wr from HKX.out).then hb4)
      clear hb4 CS
      go_wp2
      go_ret
      exact ⟨by rw [← HR.out]; rfl, HB4.out⟩

set_option maxRecDepth 100000 in
set_option maxHeartbeats 8000000 in
theorem rbuild14_any (id : Nat) (L : List ByteArray) (hm : mayC id L) (v : Value) (w : World) (h : StrAt L v w) :
    Calls Tryd.prog 16 #[.int .u32 (id : Nat), v] w fun e w' => e = .returned (.string (str (boxB id L))) ∧ Kept w w' := by
  have hll := hm.2.1.2
  have hlen : (lensC L).length = L.length := by unfold lensC; rw [List.length_map]
  rw [hlen] at hll
  have hsz : ∀ s ∈ L, s.size ≤ 4096 := fun s hs => (hm.2.2.1 s.size (List.mem_map.2 ⟨s, hs, rfl⟩)).2
  have CO := rof14_any id L v w h (by omega) (fun s hs => by have := hsz s hs; omega)
  have CF := fun (u : Value) W (H : HeadIs (headC id L) u W) => rfrontB14_any (headC id L) ((goodH_headC id L).2 hm) (wfH_headC hm) u W H
  have HD : Hid (boxB id L = frontH (headC id L) ++ dataC L) := Lib.hid rfl
  have HFL : Hid ((frontH (headC id L)).length = 14 + 6 * L.length) := Lib.hid (by rw [frontH_len]; unfold lenH; rw [headC_len])
  obtain ⟨F, hF⟩ : ∃ F, F = frontH (headC id L) := ⟨_, rfl⟩
  rw [← hF] at CF HD HFL
  obtain ⟨res, hres⟩ : ∃ r, r = boxB id L := ⟨_, rfl⟩
  rw [← hres] at HD ⊢
  obtain ⟨p, c, rfl, hc⟩ := h
  have HC := Lib.hid hc
  obtain ⟨n, hn⟩ : ∃ n, n = L.length := ⟨_, rfl⟩
  have HN := Lib.hid hn
  have HTK : Hid (∀ k (hk : k < L.length), dataC (L.take (k + 1)) = dataC (L.take k) ++ L[k].data.toList) := Lib.hid (fun k hk => by
    rw [List.take_succ_eq_append_getElem hk]
    unfold dataC
    rw [List.flatMap_append]
    simp)
  have HSZ := Lib.hid hsz
  rw [← hn] at hll HFL CO ⊢
  have HL := Lib.hid hll
  clear hm hlen hsz hF hres hc hn hll
  go_enter Tryd.func16, Tryd.ntmps16
  go_wp2_with fail
  refine CO.mono ?_
  rintro e w2 ⟨⟨u, rfl, hu⟩, hb2⟩
  have HB2 := Lib.hid hb2
  have CF2 := CF u w2 hu
  obtain ⟨sv, hsv, -⟩ := hu
  subst hsv
  clear hb2 CO CF
  go_wp2_with fail
  refine CF2.mono ?_
  rintro e w3 ⟨rfl, hb3⟩
  have HB3 : Hid (Kept w w3) := Lib.hid ((show Kept w w2 from HB2.out).then hb3)
  clear hb3 CF2 HB2
  go_wp2
  go_loopg [5, 6] n (fun gh a y wr => ∃ (k : Nat) (X : ByteArray), k + gh = n ∧ a = .string X ∧ y = .int .i64 k ∧ Hid (X = str (F ++ dataC (L.take k))) ∧ Hid (X.size ≤ 2000 + 4096 * k) ∧ Hid (Kept w wr))
  case atStart => exact ⟨0, str F, by omega, rfl, rfl, Lib.hid (by show str F = str (F ++ []); rw [List.append_nil]), Lib.hid (by have := HFL.out; have := HL.out; rw [str_size]; omega), HB3⟩
  case round =>
    clear HB3
    obtain ⟨k, X, hk, rfl, rfl, HX, HXZ, HKW⟩ := hrel
    by_cases hlt : k < n
    · have hki : (k : Int) < n := by omega
      have bk : decide ((k : Int) < (n : Int)) = true := by simpa using hki
      have hki0 : (0 : Int) ≤ k := by omega
      rcases HC.out with h0 | ⟨b, off, rfl, hcell⟩
      · have := HN.out; rw [h0] at this; simp at this; omega
      have hkl : k < L.length := by have := HN.out; omega
      have e1 := Kept.cell HKW.out (hcell k hkl)
      have htk := HTK.out k hkl
      have hsz := HSZ.out (L[k]) (List.getElem_mem hkl)
      obtain ⟨S, hS⟩ : ∃ S, S = L[k] := ⟨_, rfl⟩
      rw [← hS] at e1 htk hsz
      obtain ⟨k1, hk1⟩ : ∃ k1, k1 = k + 1 := ⟨_, rfl⟩
      have v1 : IntKind.i64.wrap ((k : Int) + 1) = (k1 : Int) := by rw [show (k : Int) + 1 = (k1 : Int) by omega]; exact IntWalk.i64_in _ (by have := HL.out; omega)
      obtain ⟨Y, hY⟩ : ∃ Y, Y = X ++ S := ⟨_, rfl⟩
      have c1 : X ++ S = Y := hY.symm
      have s1 : ¬ 9223372036854775807 < X.size + S.size := by have := HXZ.out; have := HL.out; omega
      have HY : Hid (Y = str (F ++ dataC (L.take k1))) := Lib.hid (by
        rw [hk1, htk, ← List.append_assoc, ← str_append, ← HX.out, hY, str_data])
      have HYZ : Hid (Y.size ≤ 2000 + 4096 * k1) := Lib.hid (by rw [hY, ByteArray.size_append]; have := HXZ.out; omega)
      have HK1 := Lib.hid hk1
      clear hcell htk hsz hS hk1 hY HX HXZ
      go_wp2
      go_roundg (n - k1)
      · exact ⟨k1, Y, by have := HK1.out; omega, rfl, by first | rfl | (have := HK1.out; simp; omega), HY, HYZ, HKW⟩
      · have := HK1.out; omega
    · have hki : ¬ (k : Int) < n := by omega
      have bk : decide ((k : Int) < (n : Int)) = false := by simpa using hki
      have HR : Hid (X = str res) := Lib.hid (by
        rw [HX.out, HD.out, List.take_of_length_le (by have := HN.out; omega)])
      clear HX HXZ HC
      go_wp2
      go_ret
      exact ⟨by rw [← HR.out]; rfl, HKW.out⟩

end Go.Proofs.YtdmbebafpamgfaaDoor
