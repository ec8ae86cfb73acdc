/- The document's Num, Text, Seal, and its Put of recipes. -/
import Derived.Test.YtijdbmapdmhknaaDoorGG
import Derived.Test.YtijdbmapdmhknaaDoorRfP
import Derived.Test.YtijdbmapdmhknaaDoorRefSum
namespace Go.Proofs.YtijdbmapdmhknaaDoor
open Go.RowKit

theorem rpnumQ (k n : Nat) (i : Int) (hi : i = k) (hk : k ≤ 8) (hn : n < 2 ^ 64) (S : ByteArray) (hS : S = str (leB k n)) (w : World) :
    Calls Tryd.prog 39 #[.int .u64 (n : Nat), .int .i64 i] w fun e w' => e = .returned (.string S) ∧ Below w.heap.size w w' := by
  subst hi hS
  exact rpnum_any k n hk hn w
set_option maxRecDepth 100000 in
theorem rptextQ (t : ByteArray) (ht : t.size ≤ 4294967295) (w : World) :
    Calls Tryd.prog 40 #[.string t] w fun e w' => e = .returned (.string (str (textB t))) ∧ Below w.heap.size w w' := by
  have u1 : IntKind.u64.wrap (t.size : Int) = (t.size : Int) := IntWalk.u64_in _ (by omega)
  obtain ⟨n, hn⟩ : ∃ n, n = t.size := ⟨_, rfl⟩
  obtain ⟨N, hN⟩ : ∃ N, N = str (leB 4 n) := ⟨_, rfl⟩
  have CN := fun W => rpnumQ 4 n 4 rfl (by omega) (by omega) N hN W
  obtain ⟨R, hR⟩ : ∃ R, R = N ++ t := ⟨_, rfl⟩
  have c0 : N ++ t = R := hR.symm
  have HR : Hid (R = str (textB t)) := Lib.hid (by
    rw [hR, hN, hn]
    unfold textB
    rw [← str_append, str_data])
  have s0 : ¬ 9223372036854775807 < N.size + t.size := by rw [hN, str_size, leB_len]; omega
  rw [hn] at CN
  clear hR hN hn
  go_enter Tryd.func40, Tryd.ntmps40
  go_wp2_with fail
  refine (CN _).mono ?_
  rintro e w1 ⟨rfl, hb1⟩
  have K1 := Lib.hid hb1
  clear hb1 CN
  go_wp2
  go_ret
  exact ⟨by rw [HR.out]; rfl, K1.out⟩
set_option maxHeartbeats 1000000 in
theorem rsealQ (s : ByteArray) (hs : s.size ≤ 100000) (w : World) :
    Calls Tryd.prog 41 #[.string s] w fun e w' => e = .returned (.string (s ++ str (leB 4 (moreN 0 s.data.toList)))) ∧ Below w.heap.size w w' := by
  have C1 := fun W => rsum_any s hs W
  have hl : moreN 0 s.data.toList < 4294967296 := Nat.lt_of_le_of_lt (Nat.sub_le _ _) (by decide)
  obtain ⟨m, hm⟩ : ∃ m, m = moreN 0 s.data.toList := ⟨_, rfl⟩
  rw [← hm] at C1 hl ⊢
  have u1 : IntKind.u64.wrap (m : Int) = (m : Int) := IntWalk.u64_in _ (by omega)
  obtain ⟨S, hS⟩ : ∃ S, S = str (leB 4 m) := ⟨_, rfl⟩
  have C2 := fun W => rpnumQ 4 m 4 rfl (by omega) (by omega) S hS W
  have x4 : S.size = 4 := by rw [hS, str_size, leB_len]
  rw [← hS]
  obtain ⟨Y, hY⟩ : ∃ Y, Y = s ++ S := ⟨_, rfl⟩
  have c1 : s ++ S = Y := hY.symm
  rw [← hY]
  have s1 : ¬ 9223372036854775807 < s.size + 4 := by omega
  clear hm hl hS hY
  go_enter Tryd.func41, Tryd.ntmps41
  go_wp2_with fail
  refine (C1 _).mono ?_
  rintro e w2 ⟨rfl, hb2⟩
  have HB2 : Hid (Kept w w2) := Lib.hid hb2
  clear hb2 C1
  go_wp2_with fail
  refine (C2 _).mono ?_
  rintro e w3 ⟨rfl, hb3⟩
  have HB3 : Hid (Kept w w3) := Lib.hid ((show Kept w w2 from HB2.out).then hb3)
  clear hb3 C2
  go_wp2
  go_ret
  exact ⟨rfl, HB3.out⟩

theorem u32_mod (z : Int) : IntKind.u32.wrap z = (modQ z : Int) := by
  unfold modQ
  simp [IntKind.wrap, IntKind.bits, IntKind.signed]
  omega
theorem mansB_snoc (l : List Nat) (m : Nat) : mansB (l ++ [m]) = mansB l ++ leB 4 m := by
  unfold mansB
  rw [List.flatMap_append]
  simp

set_option maxRecDepth 100000 in
set_option maxHeartbeats 32000000 in
theorem rput16_any (r : Rp) (hm : mayQ r) (v : Value) (w : World) (H : RpIs r v w) :
    Calls Tryd.prog 17 #[v] w fun e w' => e = .returned (.string (str (recpB r))) ∧ Kept w w' := by
  obtain ⟨tv, rfl, hms, -⟩ := H
  obtain ⟨p, c, rfl, -, hc⟩ := hms.out encU
  have HG : Hid (∀ x ∈ r.mans, x < 4294967296) := Lib.hid hms.good
  have HC := Lib.hid hc
  obtain ⟨⟨m1, m2⟩, ⟨m3, m4⟩, -, m5, -⟩ := hm
  unfold rpC
  obtain ⟨RES, hRES⟩ : ∃ x, x = str (recpB r) := ⟨_, rfl⟩
  have HRES : Hid (RES = str (recpP r ++ leB 4 (moreN 0 (recpP r)))) := Lib.hid hRES
  obtain ⟨s, hs⟩ : ∃ s, s = str r.name := ⟨_, rfl⟩
  obtain ⟨z, hz⟩ : ∃ z : Nat, r.size = z := ⟨r.size.toNat, by omega⟩
  obtain ⟨x, hx⟩ : ∃ x, x = r.re := ⟨_, rfl⟩
  obtain ⟨y, hy⟩ : ∃ y, y = r.im := ⟨_, rfl⟩
  obtain ⟨n, hn⟩ : ∃ n, n = r.mans.length := ⟨_, rfl⟩
  have hss : s.size = r.name.length := by rw [hs]; exact str_size _
  have HFP : Hid (recpP r = (magicQ ++ (leB 4 z ++ (leB 4 (modQ x) ++ (leB 4 (modQ y) ++ (textB s ++ leB 2 n))))) ++ mansB r.mans) := Lib.hid (by
    unfold recpP
    rw [hz, hs, hx, hy, hn]
    simp only [List.append_assoc, Int.toNat_natCast])
  rw [← hs, hz, ← hx, ← hy, ← hn, ← hRES]
  rw [← hss] at m1 m2
  rw [hz] at m4
  rw [← hn] at m5
  have hxl := modQ_lt x
  have hyl := modQ_lt y
  have ux := u32_mod x
  have uy := u32_mod y
  obtain ⟨mx, hmx⟩ : ∃ m, m = modQ x := ⟨_, rfl⟩
  obtain ⟨my, hmy⟩ : ∃ m, m = modQ y := ⟨_, rfl⟩
  rw [← hmx] at hxl ux HFP
  rw [← hmy] at hyl uy HFP
  have HN := Lib.hid hn
  have HL := Lib.hid m5
  have u1 : IntKind.u64.wrap (z : Int) = (z : Int) := IntWalk.u64_in _ (by omega)
  have u2 : IntKind.u64.wrap (mx : Int) = (mx : Int) := IntWalk.u64_in _ (by omega)
  have u3 : IntKind.u64.wrap (my : Int) = (my : Int) := IntWalk.u64_in _ (by omega)
  have u4 : IntKind.u64.wrap (n : Int) = (n : Int) := IntWalk.u64_in _ (by omega)
  obtain ⟨S1, h1⟩ : ∃ S, S = str (leB 4 z) := ⟨_, rfl⟩
  have C1 := fun W => rpnumQ 4 z 4 rfl (by omega) (by omega) S1 h1 W
  obtain ⟨S2, h2⟩ : ∃ S, S = str (leB 4 mx) := ⟨_, rfl⟩
  have C2 := fun W => rpnumQ 4 mx 4 rfl (by omega) (by omega) S2 h2 W
  obtain ⟨S3, h3⟩ : ∃ S, S = str (leB 4 my) := ⟨_, rfl⟩
  have C3 := fun W => rpnumQ 4 my 4 rfl (by omega) (by omega) S3 h3 W
  obtain ⟨S4, h4⟩ : ∃ S, S = str (textB s) := ⟨_, rfl⟩
  have C4 := fun W => rptextQ s (by omega) W
  rw [← h4] at C4
  obtain ⟨S5, h5⟩ : ∃ S, S = str (leB 2 n) := ⟨_, rfl⟩
  have C5 := fun W => rpnumQ 2 n 2 rfl (by omega) (by omega) S5 h5 W
  have z1 : S1.size = 4 := by rw [h1, str_size, leB_len]
  have z2 : S2.size = 4 := by rw [h2, str_size, leB_len]
  have z3 : S3.size = 4 := by rw [h3, str_size, leB_len]
  obtain ⟨q, hq⟩ : ∃ q, q = 4 + s.size := ⟨_, rfl⟩
  have z4 : S4.size = q := by rw [h4, str_size, textB_len, hq]
  have z5 : S5.size = 2 := by rw [h5, str_size, leB_len]
  obtain ⟨Y1, hy1⟩ : ∃ Y, Y = (⟨#[82, 69, 67, 80]⟩ : ByteArray) ++ S1 := ⟨_, rfl⟩
  have c1 : (⟨#[82, 69, 67, 80]⟩ : ByteArray) ++ S1 = Y1 := hy1.symm
  have y1' : Y1.size = 8 := by rw [hy1, ByteArray.size_append, z1]; rfl
  obtain ⟨Y2, hy2⟩ : ∃ Y, Y = Y1 ++ S2 := ⟨_, rfl⟩
  have c2 : Y1 ++ S2 = Y2 := hy2.symm
  have y2' : Y2.size = 12 := by rw [hy2, ByteArray.size_append, z2, y1']
  obtain ⟨Y3, hy3⟩ : ∃ Y, Y = Y2 ++ S3 := ⟨_, rfl⟩
  have c3 : Y2 ++ S3 = Y3 := hy3.symm
  have y3' : Y3.size = 16 := by rw [hy3, ByteArray.size_append, z3, y2']
  obtain ⟨Y4, hy4⟩ : ∃ Y, Y = Y3 ++ S4 := ⟨_, rfl⟩
  have c4 : Y3 ++ S4 = Y4 := hy4.symm
  obtain ⟨q4, hq4⟩ : ∃ k, k = 16 + q := ⟨_, rfl⟩
  have y4' : Y4.size = q4 := by rw [hy4, ByteArray.size_append, z4, y3', hq4]
  obtain ⟨Y5, hy5⟩ : ∃ Y, Y = Y4 ++ S5 := ⟨_, rfl⟩
  have c5 : Y4 ++ S5 = Y5 := hy5.symm
  have l4 : ¬ 9223372036854775807 < 16 + q := by omega
  have l5 : ¬ 9223372036854775807 < q4 + 2 := by omega
  obtain ⟨PRE, hPRE⟩ : ∃ P, P = magicQ ++ (leB 4 z ++ (leB 4 mx ++ (leB 4 my ++ (textB s ++ leB 2 n)))) := ⟨_, rfl⟩
  have hY5 : Y5 = str PRE := by
    rw [hPRE, hy5, hy4, hy3, hy2, hy1, h1, h2, h3, h4, h5]
    have e : (⟨#[82, 69, 67, 80]⟩ : ByteArray) = str magicQ := rfl
    rw [e]
    simp only [str_append, List.append_assoc]
  rw [← hPRE] at HFP
  obtain ⟨B0, hB0⟩ : ∃ B, B = q4 + 2 := ⟨_, rfl⟩
  have HB0 : Hid (B0 ≤ 80) := Lib.hid (by omega)
  have HS0 : Hid (Y5 = str (PRE ++ mansB (r.mans.take 0))) := Lib.hid (by rw [hY5]; simp [mansB])
  have HZ00 : Hid (Y5.size = B0 + 4 * 0) := Lib.hid (by rw [hy5, ByteArray.size_append, y4', z5, hB0])
  obtain ⟨X, hX⟩ : ∃ X : Array Value, X = #[.string s, .int .i64 (z : Nat), .int .i64 x, .int .i64 y, .slice p n c] := ⟨_, rfl⟩
  obtain ⟨W1, hW1⟩ : ∃ W1, W1 = w.alloc (.cells #[.string s, .int .i64 (z : Nat), .int .i64 x, .int .i64 y, .slice p n c] 24) := ⟨_, rfl⟩
  have hrow := rp_row X w
  rw [hX, ← hW1] at hrow
  have HW1 := Lib.hid hW1
  have HROW := Lib.hid hrow
  have HK1 : Hid (Kept w W1) := Lib.hid (by rw [hW1]; exact box_below _ _)
  have a0 : W1.cell? ⟨w.heap.size, 0, none⟩ = some (.string s) := by rw [cell_of_row _ _ _ _ _ _ hrow]; rfl
  have a1 : W1.cell? ⟨w.heap.size, 1, none⟩ = some (.int .i64 (z : Nat)) := by rw [cell_of_row _ _ _ _ _ _ hrow]; rfl
  have a2 : W1.cell? ⟨w.heap.size, 2, none⟩ = some (.int .i64 x) := by rw [cell_of_row _ _ _ _ _ _ hrow]; rfl
  have a3 : W1.cell? ⟨w.heap.size, 3, none⟩ = some (.int .i64 y) := by rw [cell_of_row _ _ _ _ _ _ hrow]; rfl
  have a4 : W1.cell? ⟨w.heap.size, 4, none⟩ = some (.slice p n c) := by rw [cell_of_row _ _ _ _ _ _ hrow]; rfl
  have HC4 := Lib.hid a4
  clear hms hc m1 m2 m3 m4 m5 hRES hs hz hx hy hn hss hxl hyl hmx hmy h1 h2 h3 h4 h5 hq hy1 hy2 hy3 hy4 hy5 hq4 hY5 hPRE hB0 hrow hW1 hX X
  go_enter Tryd.func17, Tryd.ntmps17
  go_wp2_with fail
  rw [← HW1.out]
  refine wp_region_kept (by kernel_rfl) (by kernel_rfl) ?_
  refine wpQuiet_pure (v := ?_) (by kernel_rfl) ?_ (fun K hK => ?_)
  case refine_2 => intro W hW; go_simp; try with_reducible rfl
  go_simp
  refine hK _ ?_; clear hK K
  refine wpQuiet_pure (v := ?_) (by kernel_rfl) ?_ (fun K hK => ?_)
  case refine_2 => intro W hW; have e0 := hW.cell a1; go_simp; try with_reducible rfl
  go_simp
  refine hK _ ?_; clear hK K
  refine wpQuiet_pure (v := ?_) (by kernel_rfl) ?_ (fun K hK => ?_)
  case refine_2 => intro W hW; go_simp; try with_reducible rfl
  go_simp
  refine hK _ ?_; clear hK K
  refine wpQuiet_call (by kernel_rfl) _ _ _ (fun W => by go_simp) (fun W h => Calls.kept_of h (C1 W)) (fun K hK => ?_)
  go_simp
  refine hK _ ?_; clear hK K
  refine wpQuiet_pure (v := ?_) (by kernel_rfl) ?_ (fun K hK => ?_)
  case refine_2 => intro W hW; go_simp; try with_reducible rfl
  go_simp
  refine hK _ ?_; clear hK K
  refine wpQuiet_pure (v := ?_) (by kernel_rfl) ?_ (fun K hK => ?_)
  case refine_2 => intro W hW; go_simp; try with_reducible rfl
  go_simp
  refine hK _ ?_; clear hK K
  refine wpQuiet_pure (v := ?_) (by kernel_rfl) ?_ (fun K hK => ?_)
  case refine_2 => intro W hW; have e0 := hW.cell a2; go_simp; try with_reducible rfl
  go_simp
  refine hK _ ?_; clear hK K
  refine wpQuiet_pure (v := ?_) (by kernel_rfl) ?_ (fun K hK => ?_)
  case refine_2 => intro W hW; go_simp; try with_reducible rfl
  go_simp
  refine hK _ ?_; clear hK K
  refine wpQuiet_pure (v := ?_) (by kernel_rfl) ?_ (fun K hK => ?_)
  case refine_2 => intro W hW; go_simp; try with_reducible rfl
  go_simp
  refine hK _ ?_; clear hK K
  refine wpQuiet_call (by kernel_rfl) _ _ _ (fun W => by go_simp) (fun W h => Calls.kept_of h (C2 W)) (fun K hK => ?_)
  go_simp
  refine hK _ ?_; clear hK K
  refine wpQuiet_pure (v := ?_) (by kernel_rfl) ?_ (fun K hK => ?_)
  case refine_2 => intro W hW; go_simp; try with_reducible rfl
  go_simp
  refine hK _ ?_; clear hK K
  refine wpQuiet_pure (v := ?_) (by kernel_rfl) ?_ (fun K hK => ?_)
  case refine_2 => intro W hW; go_simp; try with_reducible rfl
  go_simp
  refine hK _ ?_; clear hK K
  refine wpQuiet_pure (v := ?_) (by kernel_rfl) ?_ (fun K hK => ?_)
  case refine_2 => intro W hW; have e0 := hW.cell a3; go_simp; try with_reducible rfl
  go_simp
  refine hK _ ?_; clear hK K
  refine wpQuiet_pure (v := ?_) (by kernel_rfl) ?_ (fun K hK => ?_)
  case refine_2 => intro W hW; go_simp; try with_reducible rfl
  go_simp
  refine hK _ ?_; clear hK K
  refine wpQuiet_pure (v := ?_) (by kernel_rfl) ?_ (fun K hK => ?_)
  case refine_2 => intro W hW; go_simp; try with_reducible rfl
  go_simp
  refine hK _ ?_; clear hK K
  refine wpQuiet_call (by kernel_rfl) _ _ _ (fun W => by go_simp) (fun W h => Calls.kept_of h (C3 W)) (fun K hK => ?_)
  go_simp
  refine hK _ ?_; clear hK K
  refine wpQuiet_pure (v := ?_) (by kernel_rfl) ?_ (fun K hK => ?_)
  case refine_2 => intro W hW; go_simp; try with_reducible rfl
  go_simp
  refine hK _ ?_; clear hK K
  refine wpQuiet_pure (v := ?_) (by kernel_rfl) ?_ (fun K hK => ?_)
  case refine_2 => intro W hW; go_simp; try with_reducible rfl
  go_simp
  refine hK _ ?_; clear hK K
  refine wpQuiet_pure (v := ?_) (by kernel_rfl) ?_ (fun K hK => ?_)
  case refine_2 => intro W hW; have e0 := hW.cell a0; go_simp; try with_reducible rfl
  go_simp
  refine hK _ ?_; clear hK K
  refine wpQuiet_call (by kernel_rfl) _ _ _ (fun W => by go_simp) (fun W h => Calls.kept_of h (C4 W)) (fun K hK => ?_)
  go_simp
  refine hK _ ?_; clear hK K
  refine wpQuiet_pure (v := ?_) (by kernel_rfl) ?_ (fun K hK => ?_)
  case refine_2 => intro W hW; go_simp; try with_reducible rfl
  go_simp
  refine hK _ ?_; clear hK K
  refine wpQuiet_pure (v := ?_) (by kernel_rfl) ?_ (fun K hK => ?_)
  case refine_2 => intro W hW; go_simp; try with_reducible rfl
  go_simp
  refine hK _ ?_; clear hK K
  refine wpQuiet_pure (v := ?_) (by kernel_rfl) ?_ (fun K hK => ?_)
  case refine_2 => intro W hW; have e0 := hW.cell a4; go_simp; try with_reducible rfl
  go_simp
  refine hK _ ?_; clear hK K
  refine wpQuiet_pure (v := ?_) (by kernel_rfl) ?_ (fun K hK => ?_)
  case refine_2 => intro W hW; go_simp; try with_reducible rfl
  go_simp
  refine hK _ ?_; clear hK K
  refine wpQuiet_pure (v := ?_) (by kernel_rfl) ?_ (fun K hK => ?_)
  case refine_2 => intro W hW; go_simp; try with_reducible rfl
  go_simp
  refine hK _ ?_; clear hK K
  refine wpQuiet_call (by kernel_rfl) _ _ _ (fun W => by go_simp) (fun W h => Calls.kept_of h (C5 W)) (fun K hK => ?_)
  go_simp
  refine hK _ ?_; clear hK K
  refine wpQuiet_pure (v := ?_) (by kernel_rfl) ?_ (fun K hK => ?_)
  case refine_2 => intro W hW; go_simp; try with_reducible rfl
  go_simp
  refine hK _ ?_; clear hK K
  refine wpQuiet_pure (v := ?_) (by kernel_rfl) ?_ (fun K hK => ?_)
  case refine_2 => intro W hW; go_simp; try with_reducible rfl
  go_simp
  refine hK _ ?_; clear hK K
  refine wpQuiet_nil ?_
  intro w2 hk2
  have HK2 : Hid (Kept W1 w2) := Lib.hid hk2
  clear hk2 a0 a1 a2 a3 a4 C1 C2 C3 C4 C5 c1 c2 c3 c4 c5 z1 z2 z3 z4 z5 y1' y2' y3' y4' u1 u2 u3 u4 ux uy l4 l5
  go_wp2
  go_loopg [3, 4] n (fun gh a y wr => ∃ (k : Nat) (X : ByteArray), k + gh = n ∧ a = .string X ∧ y = .int .i64 k ∧ Hid (X = str (PRE ++ mansB (r.mans.take k))) ∧ Hid (X.size = B0 + 4 * k) ∧ Hid (Kept W1 wr))
  case atStart => exact ⟨0, Y5, by omega, rfl, rfl, HS0, HZ00, HK2⟩
  case round =>
    clear HS0 HZ00 HK2
    obtain ⟨k, X, hk, rfl, rfl, HX, HXZ, HK⟩ := hrel
    have e1 := Kept.cell HK.out HC4.out
    have HKW : Hid (Kept w wr) := Lib.hid ((show Kept w W1 from HK1.out).then HK.out)
    by_cases hlt : k < n
    · have hki : (k : Int) < n := by omega
      have bk : decide ((k : Int) < (n : Int)) = true := by simpa using hki
      have hki0 : (0 : Int) ≤ k := by omega
      have hkl : k < r.mans.length := by have := HN.out; omega
      rcases HC.out with h0 | ⟨b, off, rfl, hcell⟩
      · have := HN.out; omega
      have d0 := Kept.cell HKW.out (hcell k hkl 0 _ rfl)
      rw [Nat.mul_one, Nat.add_zero] at d0
      have hlt32 := HG.out _ (List.getElem_mem hkl)
      have htk : r.mans.take (k + 1) = r.mans.take k ++ [r.mans[k]] := List.take_succ_eq_append_getElem hkl
      obtain ⟨m, hm⟩ : ∃ m, m = r.mans[k] := ⟨_, rfl⟩
      rw [← hm] at d0 hlt32 htk
      have u5 : IntKind.u64.wrap (m : Int) = (m : Int) := IntWalk.u64_in _ (by omega)
      obtain ⟨T1, t1⟩ : ∃ S, S = str (leB 4 m) := ⟨_, rfl⟩
      have D1 := fun W => rpnumQ 4 m 4 rfl (by omega) (by omega) T1 t1 W
      have s1 : T1.size = 4 := by rw [t1, str_size, leB_len]
      obtain ⟨xs, hxs⟩ : ∃ xs, xs = B0 + 4 * k := ⟨_, rfl⟩
      have xz : X.size = xs := by rw [hxs]; exact HXZ.out
      obtain ⟨G0, g0⟩ : ∃ G, G = X ++ T1 := ⟨_, rfl⟩
      have i0 : X ++ T1 = G0 := g0.symm
      have l0 : ¬ 9223372036854775807 < xs + 4 := by have := HL.out; have := HB0.out; omega
      obtain ⟨k1, hk1⟩ : ∃ k1, k1 = k + 1 := ⟨_, rfl⟩
      have v1 : IntKind.i64.wrap ((k : Int) + 1) = (k1 : Int) := by rw [show (k : Int) + 1 = (k1 : Int) by omega]; exact IntWalk.i64_in _ (by have := HL.out; omega)
      have HGG : Hid (G0 = str (PRE ++ mansB (r.mans.take k1))) := Lib.hid (by
        rw [hk1, htk, mansB_snoc, ← List.append_assoc, ← str_append, ← HX.out, g0, t1])
      have HGZ : Hid (G0.size = B0 + 4 * k1) := Lib.hid (by rw [g0, ByteArray.size_append, s1, xz, hxs, hk1]; omega)
      have HKK : Hid (k1 = k + 1 ∧ k + gk = n ∧ k < n) := Lib.hid ⟨hk1, hk, hlt⟩
      clear hcell hlt32 htk hm t1 hxs g0 hk1 hk hlt hkl HX HXZ
      go_wp2_with fail
      refine (D1 _).mono ?_
      rintro e w3 ⟨rfl, hb3⟩
      have HK3 : Hid (Kept W1 w3) := Lib.hid ((show Kept W1 wr from HK.out).then hb3)
      clear hb3 D1 d0 e1
      go_wp2
      go_roundg (n - k1)
      · exact ⟨k1, G0, by have := HKK.out; omega, rfl, by first | rfl | (have := HKK.out; congr 1; omega), HGG, HGZ, HK3⟩
      · have := HKK.out; omega
    · have hki : ¬ (k : Int) < n := by omega
      have bk : decide ((k : Int) < (n : Int)) = false := by simpa using hki
      have hXP : X = str (recpP r) := by
        rw [HX.out, List.take_of_length_le (by have := HN.out; omega), ← HFP.out]
      have hX3 : X.data.toList = recpP r := by rw [hXP, str_list]
      have CS := fun W => rsealQ X (by rw [HXZ.out]; have := HL.out; have := HB0.out; omega) W
      rw [hX3, hXP, str_append, ← HRES.out] at CS
      rw [← hXP] at CS
      clear hXP hX3 hk hlt HX HXZ
      go_wp2_with fail
      refine (CS _).mono ?_
      rintro e w3 ⟨rfl, hb3⟩
      have HK3 : Hid (Kept w w3) := Lib.hid ((show Kept w wr from HKW.out).then hb3)
      clear hb3 CS e1
      go_wp2
      go_ret
      exact ⟨rfl, HK3.out⟩

end Go.Proofs.YtijdbmapdmhknaaDoor
