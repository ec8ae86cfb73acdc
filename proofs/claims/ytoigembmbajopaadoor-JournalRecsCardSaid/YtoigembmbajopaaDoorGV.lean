/- The walks of pack's numbers. The landed journal's bytes of runs, of a record. -/
import Derived.Test.YtoigembmbajopaaDoorRows
import Derived.Test.YtoigembmbajopaaDoorGA
import Derived.WalkKit
import Derived.WalkSpells
import Derived.WalkLawsBesides
import Derived.Deep.OwnRows
import Derived.Test.YtoigembmbajopaaDoorGU
namespace Go.Proofs.YtoigembmbajopaaDoor
open Go.RowKit

theorem info5 : (Tryd.prog.info? 5).map (fun i => (i.zero, i.size, i.bytes)) = some (some (.int .u8 0), 1, 1) := by kernel_rfl

set_option maxHeartbeats 400000 in
theorem numberBytes_any (n : Nat) (k : Nat) (hk : k ≤ 8) (w : World) :
    Calls Tryd.prog 83 #[.int .u64 n, .int .i64 k] w fun e w' => e = .returned (.string (str (leB k n))) ∧ Below w.heap.size w w' := by
  have hmk := fun w' => run_make_row' (P := Tryd.prog) 46 5 (.int .u8 0) 1 Tryd.underlying46 info5 rfl .i64 .i64 k (by omega) (by omega) w'
  go_enter Tryd.func83, Tryd.ntmps83
  go_wp2
  go_loopw [11] (fun x wr => ∃ (i : Nat) (C : Array Value), i ≤ k ∧ x = .int .i64 i ∧ C.size = k ∧ (∀ j (h : j < i), C[j]? = some (.int .u8 ((UInt8.ofNat (n / 256 ^ j)).toNat))) ∧ wr = w.alloc (.cells C 5)) (fun x _ => k - (intOf x).toNat)
  case atStart => exact ⟨0, _, Nat.zero_le _, rfl, size_madeCells _ _, fun j h => by omega, rfl⟩
  case round =>
    obtain ⟨i, C, hi, rfl, hC, hcs, rfl⟩ := hrel
    by_cases hlt : i < k
    · have hb := byte_div n i
      go_wp2
      go_roundw
      case rel =>
        refine ⟨i + 1, _, by omega, by go_num, ?_, ?_, rfl⟩
        · simpa using hC
        · intro j hj
          rw [Array.getElem?_setIfInBounds]
          by_cases e : i = j
          · subst e
            simp [hC, hlt]
          · simp [e, hcs j (by omega)]
      case measure => simp [intOf]; omega
    · obtain rfl : i = k := by omega
      have hcv := conv_bytes (P := Tryd.prog) (w.alloc (.cells C 5)) 46 9 5 w.heap.size i i (leB i n) (leB_len _ _) Tryd.underlying46 Tryd.underlying5 Tryd.underlying9 (fun j hj => by
        rw [leB_get, World.cell?_alloc_mark]
        exact hcs j (by simpa [leB_len] using hj))
      go_wp2
      go_ret
      exact ⟨rfl, (Below.refl _ _).alloc (Nat.le_refl _) _⟩

theorem numberBytes_int (x : Int) (hx : 0 ≤ x) (k : Nat) (hk : k ≤ 8) (w : World) :
    Calls Tryd.prog 83 #[.int .u64 x, .int .i64 k] w fun e w' => e = .returned (.string (str (leB k x.toNat))) ∧ Below w.heap.size w w' := by
  obtain ⟨n, rfl⟩ := Int.eq_ofNat_of_zero_le hx
  exact numberBytes_any n k hk w

theorem u8_any (x : Int) (hx : 0 ≤ x) (hx' : x ≤ 255) (w : World) :
    Calls Tryd.prog 84 #[.int .u8 x] w fun e w' => e = .returned (.string (str (leB 1 x.toNat))) ∧ Below w.heap.size w w' := by
  go_enter Tryd.func84, Tryd.ntmps84
  go_wp2_with (go_at_call 83; refine (numberBytes_int _ (by omega) 1 (by omega) _).mono ?_; rintro e w' ⟨rfl, hb⟩)
  go_ret
  exact ⟨rfl, hb⟩

theorem u16_any (x : Int) (hx : 0 ≤ x) (hx' : x ≤ 65535) (w : World) :
    Calls Tryd.prog 48 #[.int .u16 x] w fun e w' => e = .returned (.string (str (leB 2 x.toNat))) ∧ Below w.heap.size w w' := by
  go_enter Tryd.func48, Tryd.ntmps48
  go_wp2_with (go_at_call 83; refine (numberBytes_int _ (by omega) 2 (by omega) _).mono ?_; rintro e w' ⟨rfl, hb⟩)
  go_ret
  exact ⟨rfl, hb⟩

theorem u32_any (x : Int) (hx : 0 ≤ x) (hx' : x ≤ 4294967295) (w : World) :
    Calls Tryd.prog 51 #[.int .u32 x] w fun e w' => e = .returned (.string (str (leB 4 x.toNat))) ∧ Below w.heap.size w w' := by
  go_enter Tryd.func51, Tryd.ntmps51
  go_wp2_with (go_at_call 83; refine (numberBytes_int _ (by omega) 4 (by omega) _).mono ?_; rintro e w' ⟨rfl, hb⟩)
  go_ret
  exact ⟨rfl, hb⟩

/-- A length's bytes (a length below 2^32). -/
theorem lengthBytes_any (n : Nat) (hn : n ≤ 4294967295) (w : World) :
    Calls Tryd.prog 110 #[.int .i64 n] w fun e w' => e = .returned (.string (str (leB 4 n))) ∧ Below w.heap.size w w' := by
  go_enter Tryd.func110, Tryd.ntmps110
  go_wp2_with (go_at_call 51; refine (u32_any _ (by omega) (by omega) _).mono ?_; rintro e w' ⟨rfl, hb⟩)
  go_ret
  exact ⟨rfl, hb⟩

/-- A text's bytes (shorter than 2^32). -/
theorem text_any (s : ByteArray) (hs : s.size ≤ 4294967295) (w : World) :
    Calls Tryd.prog 85 #[.string s] w fun e w' => e = .returned (.string (str (leB 4 s.size) ++ s)) ∧ Below w.heap.size w w' := by
  have hz : (str (leB 4 s.size)).size = 4 := by rw [str_size, leB_len]
  go_enter Tryd.func85, Tryd.ntmps85
  go_wp2_with (go_at_call 110; refine (lengthBytes_any _ (by omega) _).mono ?_; rintro e w' ⟨rfl, hb⟩)
  go_ret
  exact ⟨rfl, hb⟩

end Go.Proofs.YtoigembmbajopaaDoor
namespace Go.Proofs.YtoigembmbajopaaDoor
open Go.RowKit

theorem pu8 (n : Nat) (hn : n < 256) (S : ByteArray) (hS : S = str (leB 1 n)) (w : World) : Calls Tryd.prog 84 #[.int .u8 n] w fun e w' => e = .returned (.string S) ∧ Below w.heap.size w w' := by
  subst hS; exact u8_any n (by omega) (by omega) w
theorem pu16 (n : Nat) (hn : n < 65536) (S : ByteArray) (hS : S = str (leB 2 n)) (w : World) : Calls Tryd.prog 48 #[.int .u16 n] w fun e w' => e = .returned (.string S) ∧ Below w.heap.size w w' := by
  subst hS; exact u16_any n (by omega) (by omega) w
theorem pu32 (n : Nat) (hn : n < 4294967296) (S : ByteArray) (hS : S = str (leB 4 n)) (w : World) : Calls Tryd.prog 51 #[.int .u32 n] w fun e w' => e = .returned (.string S) ∧ Below w.heap.size w w' := by
  subst hS; exact u32_any n (by omega) (by omega) w
theorem ptext (t : ByteArray) (ht : t.size ≤ 4294967295) (S : ByteArray) (hS : S = str (textB t)) (w : World) : Calls Tryd.prog 85 #[.string t] w fun e w' => e = .returned (.string S) ∧ Below w.heap.size w w' := by
  have e : S = str (leB 4 t.size) ++ t := by rw [hS]; unfold textB; rw [← str_append, str_data]
  subst e; exact text_any t ht w
theorem wrap_u16 {n : Nat} (h : n < 65536) : IntKind.u16.wrap (n : Int) = (n : Int) := by simp [IntKind.wrap, IntKind.bits, IntKind.signed]; omega
theorem wrap_u8 {n : Nat} (h : n < 256) : IntKind.u8.wrap (n : Int) = (n : Int) := by simp [IntKind.wrap, IntKind.bits, IntKind.signed]; omega

set_option maxRecDepth 100000 in
set_option maxHeartbeats 8000000 in
theorem jruns_any (l : List (Int × Int)) (v : Value) (w : World) (h : RunsAt l v w) (hv : ∀ r ∈ l, (0 ≤ r.1 ∧ r.1 < 65536) ∧ 0 ≤ r.2 ∧ r.2 < 65536) (hl : l.length ≤ 1000) :
    Calls Tryd.prog 86 #[v] w fun e w' => e = .returned (.string (str (leB 2 l.length ++ runsB l))) ∧ Below w.heap.size w w' := by
  obtain ⟨p, c, rfl, -, hcell⟩ := h.out
  have HC := Lib.hid hcell
  obtain ⟨n, hn⟩ : ∃ n, n = l.length := ⟨_, rfl⟩
  have HN := Lib.hid hn
  have HV := Lib.hid hv
  rw [← hn] at hl ⊢
  have u1 : IntKind.u16.wrap (n : Int) = (n : Int) := wrap_u16 (by omega)
  obtain ⟨N, hNN⟩ : ∃ N, N = str (leB 2 n) := ⟨_, rfl⟩
  have CN := fun W => pu16 n (by omega) N hNN W
  have HS0 : Hid (N = str (leB 2 n ++ runsB (l.take 0))) := Lib.hid (by rw [hNN]; show _ = str (leB 2 n ++ []); rw [List.append_nil])
  have HZ0 : Hid (N.size = 2 + 4 * 0) := Lib.hid (by rw [hNN, str_size, leB_len])
  clear hcell hn h hv hNN
  go_enter Tryd.func86, Tryd.ntmps86
  go_wp2_with fail
  refine (CN _).mono ?_
  rintro e w1 ⟨rfl, hb1⟩
  have K1 : Hid (Kept w w1) := Lib.hid hb1
  clear hb1 CN
  go_wp2
  go_loopg [3, 12] n (fun gh s3 s4 wx => ∃ (k : Nat) (X : ByteArray), k + gh = n ∧ s3 = .string X ∧ s4 = .int .i64 k ∧ Hid (X = str (leB 2 n ++ runsB (l.take k))) ∧ Hid (X.size = 2 + 4 * k) ∧ Hid (Kept w wx))
  case atStart => exact ⟨0, N, by omega, rfl, rfl, HS0, HZ0, K1⟩
  case round =>
    obtain ⟨k, X, hk, rfl, rfl, HX, HXZ, HKX⟩ := hrel
    have xz := HXZ.out
    by_cases hkn : k < n
    · have hki : (k : Int) < n := by omega
      have bk : decide ((k : Int) < (n : Int)) = true := by simpa using hki
      have hki0 : (0 : Int) ≤ k := by omega
      have hka : k < l.length := by rw [← HN.out]; exact hkn
      rcases HC.out with h0 | ⟨ba, oa, rfl, hcell⟩
      · omega
      have hkw : Kept w wr := HKX.out
      have d1 := hkw.cell (hcell k hka).1
      have d2 := hkw.cell (hcell k hka).2
      have hvr := HV.out _ (List.getElem_mem hka)
      have htk := runsB_take l k hka
      obtain ⟨⟨a, b⟩, hab⟩ : ∃ r, r = l[k] := ⟨_, rfl⟩
      rw [← hab] at d1 d2 htk hvr
      simp only at d1 d2 htk hvr
      obtain ⟨a, rfl⟩ : ∃ z : Nat, a = z := ⟨a.toNat, by omega⟩
      obtain ⟨b, rfl⟩ : ∃ z : Nat, b = z := ⟨b.toNat, by omega⟩
      simp only [Int.toNat_natCast] at htk
      obtain ⟨k1, hk1⟩ : ∃ k1, k1 = k + 1 := ⟨_, rfl⟩
      have v1 : IntKind.i64.wrap ((k : Int) + 1) = (k1 : Int) := by rw [show (k : Int) + 1 = (k1 : Int) by omega]; exact IntWalk.i64_in _ (by omega)
      have u6 : IntKind.u16.wrap (a : Int) = a := wrap_u16 (by omega)
      have u7 : IntKind.u16.wrap (b : Int) = b := wrap_u16 (by omega)
      obtain ⟨N0, h0⟩ : ∃ N, N = str (leB 2 a) := ⟨_, rfl⟩
      obtain ⟨N1, h1⟩ : ∃ N, N = str (leB 2 b) := ⟨_, rfl⟩
      have C0 := fun W => pu16 a (by omega) N0 h0 W
      have C1 := fun W => pu16 b (by omega) N1 h1 W
      have z0 : N0.size = 2 := by rw [h0, str_size, leB_len]
      have z1 : N1.size = 2 := by rw [h1, str_size, leB_len]
      obtain ⟨P, k0⟩ : ∃ B, B = N0 ++ N1 := ⟨_, rfl⟩
      obtain ⟨B1, k1'⟩ : ∃ B, B = X ++ P := ⟨_, rfl⟩
      have y0 : P.size = 4 := by rw [k0, ByteArray.size_append]; omega
      have y1 : B1.size = 2 + 4 * k1 := by rw [k1', ByteArray.size_append]; omega
      have HX1 : Hid (B1 = str (leB 2 n ++ runsB (l.take k1))) := Lib.hid (by
        rw [k1', k0, h0, h1, HX.out, hk1, htk]
        simp only [str_append, List.append_assoc])
      have HY1 := Lib.hid y1
      have c0 : N0 ++ N1 = P := k0.symm
      have c1 : X ++ P = B1 := k1'.symm
      have s0 : ¬ 9223372036854775807 < 2 + 2 := by omega
      have s1 : ¬ 9223372036854775807 < 2 + 4 * k + 4 := by omega
      obtain ⟨W1, hW1⟩ : ∃ W1, W1 = wr.alloc (.cells #[.int .i64 a, .int .i64 b] 83) := ⟨_, rfl⟩
      have hr1 : W1.heap[wr.heap.size]? = some (.cells #[.int .i64 a, .int .i64 b] 83 (0, 0)) := by rw [hW1]; exact heap_alloc_last wr _
      have KW1 : Hid (Kept w W1) := Lib.hid (hkw.then (by rw [hW1]; exact box_below _ _))
      have E1 : Hid (W1.cell? ⟨wr.heap.size, 0, none⟩ = some (.int .i64 a)) := Lib.hid (by rw [cell_of_row _ _ _ _ _ _ hr1]; rfl)
      have E2 : Hid (W1.cell? ⟨wr.heap.size, 1, none⟩ = some (.int .i64 b)) := Lib.hid (by rw [cell_of_row _ _ _ _ _ _ hr1]; rfl)
      have HW1 := Lib.hid hW1
      clear hkw hab hvr htk h0 h1 k0 k1' hcell HX HXZ HS0 HZ0 hW1 hr1
      go_wp2_with fail
      rw [← HW1.out]
      refine wp_region_kept (by kernel_rfl) (by kernel_rfl) ?_
      refine wpQuiet_pure (v := ?_) (by kernel_rfl) ?_ (fun K hK => ?_)
      case refine_2 => intro W _; go_simp; try with_reducible rfl
      go_simp
      refine hK _ ?_; clear hK K
      refine wpQuiet_pure (v := ?_) (by kernel_rfl) ?_ (fun K hK => ?_)
      case refine_2 => intro W _; go_simp; try with_reducible rfl
      go_simp
      refine hK _ ?_; clear hK K
      refine wpQuiet_load_cell (by kernel_rfl) _ _ rfl ⟨wr.heap.size, 0, none⟩ rfl _ Tryd.underlying3 rfl _ (fun _ h => h.cell E1.out) (fun K hK => ?_)
      go_simp
      refine hK _ ?_; clear hK K
      refine wpQuiet_pure (v := ?_) (by kernel_rfl) ?_ (fun K hK => ?_)
      case refine_2 => intro W _; go_simp; try with_reducible rfl
      go_simp
      refine hK _ ?_; clear hK K
      refine wpQuiet_call (by kernel_rfl) _ _ _ (fun W => by go_simp) (fun W h => Calls.kept_of h (C0 W)) (fun K hK => ?_)
      go_simp
      refine hK _ ?_; clear hK K
      refine wpQuiet_pure (v := ?_) (by kernel_rfl) ?_ (fun K hK => ?_)
      case refine_2 => intro W _; go_simp; try with_reducible rfl
      go_simp
      refine hK _ ?_; clear hK K
      refine wpQuiet_load_cell (by kernel_rfl) _ _ rfl ⟨wr.heap.size, 1, none⟩ rfl _ Tryd.underlying3 rfl _ (fun _ h => h.cell E2.out) (fun K hK => ?_)
      go_simp
      refine hK _ ?_; clear hK K
      refine wpQuiet_pure (v := ?_) (by kernel_rfl) ?_ (fun K hK => ?_)
      case refine_2 => intro W _; go_simp; try with_reducible rfl
      go_simp
      refine hK _ ?_; clear hK K
      refine wpQuiet_call (by kernel_rfl) _ _ _ (fun W => by go_simp) (fun W h => Calls.kept_of h (C1 W)) (fun K hK => ?_)
      go_simp
      refine hK _ ?_; clear hK K
      refine wpQuiet_pure (v := ?_) (by kernel_rfl) ?_ (fun K hK => ?_)
      case refine_2 => intro W _; go_simp; try with_reducible rfl
      go_simp
      refine hK _ ?_; clear hK K
      refine wpQuiet_pure (v := ?_) (by kernel_rfl) ?_ (fun K hK => ?_)
      case refine_2 => intro W _; go_simp; try with_reducible rfl
      go_simp
      refine hK _ ?_; clear hK K
      refine wpQuiet_pure (v := ?_) (by kernel_rfl) ?_ (fun K hK => ?_)
      case refine_2 => intro W _; go_simp; try with_reducible rfl
      go_simp
      refine hK _ ?_; clear hK K
      refine wpQuiet_nil ?_
      intro w2 hk2
      have K2 := Lib.hid ((show Kept w W1 from KW1.out).then hk2)
      have HK1 := Lib.hid hk1
      clear HKX C0 C1 d1 d2 hk2 hk1
      go_wp2
      go_roundg (n - k1)
      · exact ⟨k1, B1, by have := HK1.out; omega, rfl, by first | rfl | (have := HK1.out; simp; omega), HX1, HY1, K2⟩
      · have := HK1.out; omega
    · have hki : ¬ (k : Int) < n := by omega
      have bk : decide ((k : Int) < (n : Int)) = false := by simpa using hki
      have HR : Hid (X = str (leB 2 n ++ runsB l)) := Lib.hid (by
        have h := HX.out
        rw [List.take_of_length_le (by rw [← HN.out]; omega)] at h
        exact h)
      clear HX
      go_wp2
      go_ret
      exact ⟨by rw [← HR.out]; rfl, HKX.out⟩

set_option maxRecDepth 100000 in
set_option maxHeartbeats 16000000 in
theorem jrec_any (r : Rc) (tv : Value) (w : World) (h : RecAt r tv w) (hm : mayR r) :
    Calls Tryd.prog 49 #[recV r tv] w fun e w' => e = .returned (.string (str (recB r))) ∧ Kept w w' := by
  obtain ⟨p, c, htv, -, -⟩ := h.runs.out
  subst htv
  have hk := mayR_kind hm
  have hidm := hm.2.2.1
  have hnm := hm.2.2.2.2.1
  have hbl := hm.2.2.2.2.2
  have hio := hm.1
  have hex : idK r.kind = true → nameK r.kind = false := id_or_name
  obtain ⟨res, hres⟩ : ∃ res, res = recB r := ⟨_, rfl⟩
  have HRE : Hid (res = recB r) := Lib.hid hres
  rw [← hres]
  have hruns := h.runs
  obtain ⟨k, n, N, z, rn⟩ := r
  simp only at hk hidm hnm hbl hruns hio hex
  unfold recB at HRE
  simp only at HRE
  obtain ⟨k, rfl⟩ : ∃ q : Nat, k = q := ⟨k.toNat, by omega⟩
  unfold recV recC
  simp only
  obtain ⟨B, hB⟩ : ∃ B, B = str N := ⟨_, rfl⟩
  have hBs : B.size ≤ 48 := by rw [hB, str_size]; exact hnm
  rw [← hB]
  obtain ⟨rl, hrl⟩ : ∃ rl, rl = rn.length := ⟨_, rfl⟩
  rw [← hrl]
  have HRV : Hid (RunsAt rn (.slice p rl c) w) := Lib.hid (by rw [hrl]; exact hruns)
  obtain ⟨ib, hib⟩ : ∃ ib, ib = idK (k : Int) := ⟨_, rfl⟩
  obtain ⟨nb, hnb⟩ : ∃ nb, nb = nameK (k : Int) := ⟨_, rfl⟩
  obtain ⟨bb, hbb⟩ : ∃ bb, bb = blobK (k : Int) := ⟨_, rfl⟩
  have H := fun W => fieldsOf_any (k : Int) W
  unfold fldV fldC at H
  rw [← hib, ← hnb, ← hbb] at H
  rw [← hib, ← hnb] at hio hex
  rw [← hib, ← hbb, ← hB, ← hrl] at HRE
  rw [← hbb] at hbl
  rw [Int.toNat_natCast] at HRE
  have u0 : IntKind.u8.wrap (k : Int) = (k : Int) := wrap_u8 (by omega)
  obtain ⟨X0, h0⟩ : ∃ N, N = str (leB 1 k) := ⟨_, rfl⟩
  have C0 := fun W => pu8 k (by omega) X0 h0 W
  have x0 : X0.size = 1 := by rw [h0, str_size, leB_len]
  obtain ⟨A, hA⟩ : ∃ A, A = (if ib = true then leB 4 n else textB B) := ⟨_, rfl⟩
  rw [← hA] at HRE
  have ha : A.length ≤ 52 := by
    rw [hA]
    split
    · rw [leB_len]; omega
    · rw [textB_len]; omega
  obtain ⟨SA, hSA⟩ : ∃ SA, SA = str A := ⟨_, rfl⟩
  obtain ⟨sa, hsa⟩ : ∃ sa, sa = A.length := ⟨_, rfl⟩
  have xa : SA.size = sa := by rw [hSA, str_size, hsa]
  rw [← hsa] at ha
  obtain ⟨X1, h1⟩ : ∃ X, X = X0 ++ SA := ⟨_, rfl⟩
  have x1 : X1.size = 1 + sa := by rw [h1, ByteArray.size_append, x0, xa]
  have c1 : X0 ++ SA = X1 := h1.symm
  have s1 : ¬ 9223372036854775807 < 1 + sa := by omega
  have HX1 : Hid (X1 = str (leB 1 k ++ A)) := Lib.hid (by rw [h1, h0, hSA, str_append])
  have CI : ib = true → ∀ W, Calls Tryd.prog 51 #[.int .u32 (n : Nat)] W fun e w' => e = .returned (.string SA) ∧ Below W.heap.size W w' := fun e W => pu32 n (by omega) SA (by rw [hSA, hA, if_pos e]) W
  have CT : ib = false → ∀ W, Calls Tryd.prog 85 #[.string B] W fun e w' => e = .returned (.string SA) ∧ Below W.heap.size W w' := fun e W => ptext B (by omega) SA (by rw [hSA, hA, if_neg (by rw [e]; decide)]) W
  obtain ⟨W0, hW0⟩ : ∃ W0, W0 = w.alloc (.cells #[.int .i64 k, .int .u32 (n : Nat), .string B, .int .i64 z, .slice p rl c] 30) := ⟨_, rfl⟩
  have HW0 := Lib.hid hW0
  have HK0 : Hid (Kept w W0) := Lib.hid (by rw [hW0]; exact box_below _ _)
  have hrow : W0.heap[w.heap.size]? = some (.cells #[.int .i64 k, .int .u32 (n : Nat), .string B, .int .i64 z, .slice p rl c] 30 (0, 0)) := by rw [hW0]; exact heap_alloc_last w _
  have HROW := Lib.hid hrow
  clear hW0 hres hruns h hm hk hidm hnm hB hib hnb h0 hsa h1 hBs hrow
  cases bb with
  | true =>
    obtain ⟨-, hz, hrl16, hval, -⟩ : true = true ∧ (0 ≤ z ∧ z ≤ 1048576) ∧ rn.length ≤ 16 ∧ validL 0 8192 rn ∧ sumR rn = needN z := hbl.resolve_right (fun x => by cases x.1)
    obtain ⟨z, rfl⟩ : ∃ q : Nat, z = q := ⟨z.toNat, by omega⟩
    have u3 : IntKind.u32.wrap (z : Int) = (z : Int) := IntWalk.u32_in _ (by omega)
    obtain ⟨SZ, hSZ⟩ : ∃ N, N = str (leB 4 z) := ⟨_, rfl⟩
    have CZ := fun W => pu32 z (by omega) SZ hSZ W
    have xz : SZ.size = 4 := by rw [hSZ, str_size, leB_len]
    have CRR := fun W (kk : Kept w W) => jruns_any rn (.slice p rl c) W (HRV.out.later kk) (valid_small hval) (by omega)
    rw [← hrl] at CRR
    obtain ⟨SR, hSR⟩ : ∃ S, S = str (leB 2 rl ++ runsB rn) := ⟨_, rfl⟩
    rw [← hSR] at CRR
    obtain ⟨sr, hsr⟩ : ∃ sr, sr = (leB 2 rl ++ runsB rn).length := ⟨_, rfl⟩
    have xr : SR.size = sr := by rw [hSR, str_size, hsr]
    have hsr2 : sr ≤ 100 := by rw [hsr, List.length_append, leB_len, runsB_len]; omega
    obtain ⟨X2, h2⟩ : ∃ X, X = SZ ++ SR := ⟨_, rfl⟩
    have x2 : X2.size = 4 + sr := by rw [h2, ByteArray.size_append, xz, xr]
    have c2 : SZ ++ SR = X2 := h2.symm
    have s2 : ¬ 9223372036854775807 < 4 + sr := by omega
    obtain ⟨X3, h3⟩ : ∃ X, X = X1 ++ X2 := ⟨_, rfl⟩
    have c3 : X1 ++ X2 = X3 := h3.symm
    have s3 : ¬ 9223372036854775807 < 1 + sa + (4 + sr) := by omega
    have HRES : Hid (str res = X3) := Lib.hid (by
      rw [HRE.out, if_pos rfl, h3, h2, HX1.out, hSZ, hSR, Int.toNat_natCast]
      simp only [str_append, List.append_assoc])
    clear hz hval hSZ h2 hSR hsr h3 hrl hrl16 hbb
    cases ib with
    | true =>
      obtain rfl : nb = false := hex rfl
      replace CI := CI rfl
      clear CT hA hSA hio hex hbl
      go_enter Tryd.func49, Tryd.ntmps49
      go_wp2_with fail
      rw [← HW0.out]
      refine (H W0).mono ?_
      rintro e w1 ⟨rfl, hb1⟩
      obtain ⟨W1, hW1⟩ : ∃ W1, W1 = w1.alloc (.cells #[.bool true, .bool false, .bool true] 78) := ⟨_, rfl⟩
      have HW1 := Lib.hid hW1
      have kk1 : Kept W0 W1 := (show Kept W0 w1 from hb1).then (by rw [hW1]; exact box_below _ _)
      have KX := Lib.hid ((show Kept w W0 from HK0.out).then kk1)
      have HF : Hid (W1.heap[w1.heap.size]? = some (.cells #[.bool true, .bool false, .bool true] 78 (0, 0))) := Lib.hid (by rw [hW1]; exact heap_alloc_last w1 _)
      have HR := Lib.hid (kk1.row HROW.out)
      have C01 := C0 W1
      have q0 : (w1.alloc (.cells #[.bool true, .bool false, .bool true] 78)).cell? ⟨w.heap.size, 0, none⟩ = some (.int .i64 k) := by rw [← hW1, cell_of_row _ _ _ _ _ _ HR.out]; rfl
      clear H hb1 hW1 kk1 C0
      go_wp2_with fail
      rw [← HW1.out]
      refine C01.mono ?_
      rintro e w2 ⟨rfl, hb2⟩
      replace KX := Lib.hid ((show Kept w W1 from KX.out).then hb2)
      replace HF := Lib.hid ((show Kept W1 w2 from hb2).row HF.out)
      replace HR := Lib.hid ((show Kept W1 w2 from hb2).row HR.out)
      clear hb2 C01 q0
      have f0 : w2.cell? ⟨w1.heap.size, 0, none⟩ = some (.bool true) := by rw [cell_of_row _ _ _ _ _ _ HF.out]; rfl
      have f1 : w2.cell? ⟨w1.heap.size, 1, none⟩ = some (.bool false) := by rw [cell_of_row _ _ _ _ _ _ HF.out]; rfl
      have q1 : w2.cell? ⟨w.heap.size, 1, none⟩ = some (.int .u32 (n : Nat)) := by rw [cell_of_row _ _ _ _ _ _ HR.out]; rfl
      have C02 := CI w2
      go_wp2_with fail
      refine C02.mono ?_
      rintro e w3 ⟨rfl, hb3⟩
      replace KX := Lib.hid ((show Kept w w2 from KX.out).then hb3)
      replace HF := Lib.hid ((show Kept w2 w3 from hb3).row HF.out)
      replace HR := Lib.hid ((show Kept w2 w3 from hb3).row HR.out)
      clear hb3 C02 f0 f1 q1
      have f1 : w3.cell? ⟨w1.heap.size, 1, none⟩ = some (.bool false) := by rw [cell_of_row _ _ _ _ _ _ HF.out]; rfl
      have f2 : w3.cell? ⟨w1.heap.size, 2, none⟩ = some (.bool true) := by rw [cell_of_row _ _ _ _ _ _ HF.out]; rfl
      have g3 : w3.cell? ⟨w.heap.size, 3, none⟩ = some (.int .i64 z) := by rw [cell_of_row _ _ _ _ _ _ HR.out]; rfl
      have g4 : w3.cell? ⟨w.heap.size, 4, none⟩ = some (.slice p rl c) := by rw [cell_of_row _ _ _ _ _ _ HR.out]; rfl
      have G3 := Lib.hid g3
      have G4 := Lib.hid g4
      clear g3 g4
      go_wp2_with fail
      refine wp_region_kept (by kernel_rfl) (by kernel_rfl) ?_
      refine wpQuiet_pure (v := ?_) (by kernel_rfl) ?_ (fun K hK => ?_)
      case refine_2 => intro W _; go_simp; try with_reducible rfl
      go_simp
      refine hK _ ?_; clear hK K
      refine wpQuiet_pure (v := ?_) (by kernel_rfl) ?_ (fun K hK => ?_)
      case refine_2 => intro W _; go_simp; try with_reducible rfl
      go_simp
      refine hK _ ?_; clear hK K
      refine wpQuiet_load_cell (by kernel_rfl) _ _ rfl ⟨w.heap.size, 3, none⟩ rfl _ Tryd.underlying3 rfl _ (fun _ h => h.cell G3.out) (fun K hK => ?_)
      go_simp
      refine hK _ ?_; clear hK K
      refine wpQuiet_pure (v := ?_) (by kernel_rfl) ?_ (fun K hK => ?_)
      case refine_2 => intro W _; go_simp; try with_reducible rfl
      go_simp
      refine hK _ ?_; clear hK K
      refine wpQuiet_call (by kernel_rfl) _ _ _ (fun W => by go_simp) (fun W h => Calls.kept_of h (CZ W)) (fun K hK => ?_)
      go_simp
      refine hK _ ?_; clear hK K
      refine wpQuiet_pure (v := ?_) (by kernel_rfl) ?_ (fun K hK => ?_)
      case refine_2 => intro W _; go_simp; try with_reducible rfl
      go_simp
      refine hK _ ?_; clear hK K
      refine wpQuiet_load_cell (by kernel_rfl) _ _ rfl ⟨w.heap.size, 4, none⟩ rfl _ Tryd.underlying28 rfl _ (fun _ h => h.cell G4.out) (fun K hK => ?_)
      go_simp
      refine hK _ ?_; clear hK K
      refine wpQuiet_call (by kernel_rfl) _ _ _ (fun W => by go_simp) (fun W h => Calls.kept_of h (CRR W ((show Kept w w3 from KX.out).then h))) (fun K hK => ?_)
      go_simp
      refine hK _ ?_; clear hK K
      refine wpQuiet_pure (v := ?_) (by kernel_rfl) ?_ (fun K hK => ?_)
      case refine_2 => intro W _; go_simp; try with_reducible rfl
      go_simp
      refine hK _ ?_; clear hK K
      refine wpQuiet_pure (v := ?_) (by kernel_rfl) ?_ (fun K hK => ?_)
      case refine_2 => intro W _; go_simp; try with_reducible rfl
      go_simp
      refine hK _ ?_; clear hK K
      refine wpQuiet_pure (v := ?_) (by kernel_rfl) ?_ (fun K hK => ?_)
      case refine_2 => intro W _; go_simp; try with_reducible rfl
      go_simp
      refine hK _ ?_; clear hK K
      refine wpQuiet_nil ?_
      intro w4 hk4
      have K4 := Lib.hid ((show Kept w w3 from KX.out).then hk4)
      clear hk4
      go_wp2
      go_ret
      exact ⟨by rw [HRES.out]; rfl, K4.out⟩
    | false =>
      obtain rfl : nb = true := hio.resolve_left (by decide)
      replace CT := CT rfl
      clear CI hA hSA hio hex hbl
      go_enter Tryd.func49, Tryd.ntmps49
      go_wp2_with fail
      rw [← HW0.out]
      refine (H W0).mono ?_
      rintro e w1 ⟨rfl, hb1⟩
      obtain ⟨W1, hW1⟩ : ∃ W1, W1 = w1.alloc (.cells #[.bool false, .bool true, .bool true] 78) := ⟨_, rfl⟩
      have HW1 := Lib.hid hW1
      have kk1 : Kept W0 W1 := (show Kept W0 w1 from hb1).then (by rw [hW1]; exact box_below _ _)
      have KX := Lib.hid ((show Kept w W0 from HK0.out).then kk1)
      have HF : Hid (W1.heap[w1.heap.size]? = some (.cells #[.bool false, .bool true, .bool true] 78 (0, 0))) := Lib.hid (by rw [hW1]; exact heap_alloc_last w1 _)
      have HR := Lib.hid (kk1.row HROW.out)
      have C01 := C0 W1
      have q0 : (w1.alloc (.cells #[.bool false, .bool true, .bool true] 78)).cell? ⟨w.heap.size, 0, none⟩ = some (.int .i64 k) := by rw [← hW1, cell_of_row _ _ _ _ _ _ HR.out]; rfl
      clear H hb1 hW1 kk1 C0
      go_wp2_with fail
      rw [← HW1.out]
      refine C01.mono ?_
      rintro e w2 ⟨rfl, hb2⟩
      replace KX := Lib.hid ((show Kept w W1 from KX.out).then hb2)
      replace HF := Lib.hid ((show Kept W1 w2 from hb2).row HF.out)
      replace HR := Lib.hid ((show Kept W1 w2 from hb2).row HR.out)
      clear hb2 C01 q0
      have f0 : w2.cell? ⟨w1.heap.size, 0, none⟩ = some (.bool false) := by rw [cell_of_row _ _ _ _ _ _ HF.out]; rfl
      have f1 : w2.cell? ⟨w1.heap.size, 1, none⟩ = some (.bool true) := by rw [cell_of_row _ _ _ _ _ _ HF.out]; rfl
      have q2 : w2.cell? ⟨w.heap.size, 2, none⟩ = some (.string B) := by rw [cell_of_row _ _ _ _ _ _ HR.out]; rfl
      have C02 := CT w2
      go_wp2_with fail
      refine C02.mono ?_
      rintro e w3 ⟨rfl, hb3⟩
      replace KX := Lib.hid ((show Kept w w2 from KX.out).then hb3)
      replace HF := Lib.hid ((show Kept w2 w3 from hb3).row HF.out)
      replace HR := Lib.hid ((show Kept w2 w3 from hb3).row HR.out)
      clear hb3 C02 f0 f1 q2
      have f1 : w3.cell? ⟨w1.heap.size, 1, none⟩ = some (.bool true) := by rw [cell_of_row _ _ _ _ _ _ HF.out]; rfl
      have f2 : w3.cell? ⟨w1.heap.size, 2, none⟩ = some (.bool true) := by rw [cell_of_row _ _ _ _ _ _ HF.out]; rfl
      have g3 : w3.cell? ⟨w.heap.size, 3, none⟩ = some (.int .i64 z) := by rw [cell_of_row _ _ _ _ _ _ HR.out]; rfl
      have g4 : w3.cell? ⟨w.heap.size, 4, none⟩ = some (.slice p rl c) := by rw [cell_of_row _ _ _ _ _ _ HR.out]; rfl
      have G3 := Lib.hid g3
      have G4 := Lib.hid g4
      clear g3 g4
      go_wp2_with fail
      refine wp_region_kept (by kernel_rfl) (by kernel_rfl) ?_
      refine wpQuiet_pure (v := ?_) (by kernel_rfl) ?_ (fun K hK => ?_)
      case refine_2 => intro W _; go_simp; try with_reducible rfl
      go_simp
      refine hK _ ?_; clear hK K
      refine wpQuiet_pure (v := ?_) (by kernel_rfl) ?_ (fun K hK => ?_)
      case refine_2 => intro W _; go_simp; try with_reducible rfl
      go_simp
      refine hK _ ?_; clear hK K
      refine wpQuiet_load_cell (by kernel_rfl) _ _ rfl ⟨w.heap.size, 3, none⟩ rfl _ Tryd.underlying3 rfl _ (fun _ h => h.cell G3.out) (fun K hK => ?_)
      go_simp
      refine hK _ ?_; clear hK K
      refine wpQuiet_pure (v := ?_) (by kernel_rfl) ?_ (fun K hK => ?_)
      case refine_2 => intro W _; go_simp; try with_reducible rfl
      go_simp
      refine hK _ ?_; clear hK K
      refine wpQuiet_call (by kernel_rfl) _ _ _ (fun W => by go_simp) (fun W h => Calls.kept_of h (CZ W)) (fun K hK => ?_)
      go_simp
      refine hK _ ?_; clear hK K
      refine wpQuiet_pure (v := ?_) (by kernel_rfl) ?_ (fun K hK => ?_)
      case refine_2 => intro W _; go_simp; try with_reducible rfl
      go_simp
      refine hK _ ?_; clear hK K
      refine wpQuiet_load_cell (by kernel_rfl) _ _ rfl ⟨w.heap.size, 4, none⟩ rfl _ Tryd.underlying28 rfl _ (fun _ h => h.cell G4.out) (fun K hK => ?_)
      go_simp
      refine hK _ ?_; clear hK K
      refine wpQuiet_call (by kernel_rfl) _ _ _ (fun W => by go_simp) (fun W h => Calls.kept_of h (CRR W ((show Kept w w3 from KX.out).then h))) (fun K hK => ?_)
      go_simp
      refine hK _ ?_; clear hK K
      refine wpQuiet_pure (v := ?_) (by kernel_rfl) ?_ (fun K hK => ?_)
      case refine_2 => intro W _; go_simp; try with_reducible rfl
      go_simp
      refine hK _ ?_; clear hK K
      refine wpQuiet_pure (v := ?_) (by kernel_rfl) ?_ (fun K hK => ?_)
      case refine_2 => intro W _; go_simp; try with_reducible rfl
      go_simp
      refine hK _ ?_; clear hK K
      refine wpQuiet_pure (v := ?_) (by kernel_rfl) ?_ (fun K hK => ?_)
      case refine_2 => intro W _; go_simp; try with_reducible rfl
      go_simp
      refine hK _ ?_; clear hK K
      refine wpQuiet_nil ?_
      intro w4 hk4
      have K4 := Lib.hid ((show Kept w w3 from KX.out).then hk4)
      clear hk4
      go_wp2
      go_ret
      exact ⟨by rw [HRES.out]; rfl, K4.out⟩
  | false =>
    have HRES : Hid (str res = X1) := Lib.hid (by rw [HRE.out, if_neg (by decide), HX1.out, List.append_nil])
    clear hrl hbb hbl
    cases ib with
    | true =>
      obtain rfl : nb = false := hex rfl
      replace CI := CI rfl
      clear CT hA hSA hio hex
      go_enter Tryd.func49, Tryd.ntmps49
      go_wp2_with fail
      rw [← HW0.out]
      refine (H W0).mono ?_
      rintro e w1 ⟨rfl, hb1⟩
      obtain ⟨W1, hW1⟩ : ∃ W1, W1 = w1.alloc (.cells #[.bool true, .bool false, .bool false] 78) := ⟨_, rfl⟩
      have HW1 := Lib.hid hW1
      have kk1 : Kept W0 W1 := (show Kept W0 w1 from hb1).then (by rw [hW1]; exact box_below _ _)
      have KX := Lib.hid ((show Kept w W0 from HK0.out).then kk1)
      have HF : Hid (W1.heap[w1.heap.size]? = some (.cells #[.bool true, .bool false, .bool false] 78 (0, 0))) := Lib.hid (by rw [hW1]; exact heap_alloc_last w1 _)
      have HR := Lib.hid (kk1.row HROW.out)
      have C01 := C0 W1
      have q0 : (w1.alloc (.cells #[.bool true, .bool false, .bool false] 78)).cell? ⟨w.heap.size, 0, none⟩ = some (.int .i64 k) := by rw [← hW1, cell_of_row _ _ _ _ _ _ HR.out]; rfl
      clear H hb1 hW1 kk1 C0
      go_wp2_with fail
      rw [← HW1.out]
      refine C01.mono ?_
      rintro e w2 ⟨rfl, hb2⟩
      replace KX := Lib.hid ((show Kept w W1 from KX.out).then hb2)
      replace HF := Lib.hid ((show Kept W1 w2 from hb2).row HF.out)
      replace HR := Lib.hid ((show Kept W1 w2 from hb2).row HR.out)
      clear hb2 C01 q0
      have f0 : w2.cell? ⟨w1.heap.size, 0, none⟩ = some (.bool true) := by rw [cell_of_row _ _ _ _ _ _ HF.out]; rfl
      have f1 : w2.cell? ⟨w1.heap.size, 1, none⟩ = some (.bool false) := by rw [cell_of_row _ _ _ _ _ _ HF.out]; rfl
      have q1 : w2.cell? ⟨w.heap.size, 1, none⟩ = some (.int .u32 (n : Nat)) := by rw [cell_of_row _ _ _ _ _ _ HR.out]; rfl
      have C02 := CI w2
      go_wp2_with fail
      refine C02.mono ?_
      rintro e w3 ⟨rfl, hb3⟩
      replace KX := Lib.hid ((show Kept w w2 from KX.out).then hb3)
      replace HF := Lib.hid ((show Kept w2 w3 from hb3).row HF.out)
      replace HR := Lib.hid ((show Kept w2 w3 from hb3).row HR.out)
      clear hb3 C02 f0 f1 q1
      have f1 : w3.cell? ⟨w1.heap.size, 1, none⟩ = some (.bool false) := by rw [cell_of_row _ _ _ _ _ _ HF.out]; rfl
      have f2 : w3.cell? ⟨w1.heap.size, 2, none⟩ = some (.bool false) := by rw [cell_of_row _ _ _ _ _ _ HF.out]; rfl
      go_wp2
      go_ret
      exact ⟨by rw [HRES.out]; rfl, KX.out⟩
    | false =>
      obtain rfl : nb = true := hio.resolve_left (by decide)
      replace CT := CT rfl
      clear CI hA hSA hio hex
      go_enter Tryd.func49, Tryd.ntmps49
      go_wp2_with fail
      rw [← HW0.out]
      refine (H W0).mono ?_
      rintro e w1 ⟨rfl, hb1⟩
      obtain ⟨W1, hW1⟩ : ∃ W1, W1 = w1.alloc (.cells #[.bool false, .bool true, .bool false] 78) := ⟨_, rfl⟩
      have HW1 := Lib.hid hW1
      have kk1 : Kept W0 W1 := (show Kept W0 w1 from hb1).then (by rw [hW1]; exact box_below _ _)
      have KX := Lib.hid ((show Kept w W0 from HK0.out).then kk1)
      have HF : Hid (W1.heap[w1.heap.size]? = some (.cells #[.bool false, .bool true, .bool false] 78 (0, 0))) := Lib.hid (by rw [hW1]; exact heap_alloc_last w1 _)
      have HR := Lib.hid (kk1.row HROW.out)
      have C01 := C0 W1
      have q0 : (w1.alloc (.cells #[.bool false, .bool true, .bool false] 78)).cell? ⟨w.heap.size, 0, none⟩ = some (.int .i64 k) := by rw [← hW1, cell_of_row _ _ _ _ _ _ HR.out]; rfl
      clear H hb1 hW1 kk1 C0
      go_wp2_with fail
      rw [← HW1.out]
      refine C01.mono ?_
      rintro e w2 ⟨rfl, hb2⟩
      replace KX := Lib.hid ((show Kept w W1 from KX.out).then hb2)
      replace HF := Lib.hid ((show Kept W1 w2 from hb2).row HF.out)
      replace HR := Lib.hid ((show Kept W1 w2 from hb2).row HR.out)
      clear hb2 C01 q0
      have f0 : w2.cell? ⟨w1.heap.size, 0, none⟩ = some (.bool false) := by rw [cell_of_row _ _ _ _ _ _ HF.out]; rfl
      have f1 : w2.cell? ⟨w1.heap.size, 1, none⟩ = some (.bool true) := by rw [cell_of_row _ _ _ _ _ _ HF.out]; rfl
      have q2 : w2.cell? ⟨w.heap.size, 2, none⟩ = some (.string B) := by rw [cell_of_row _ _ _ _ _ _ HR.out]; rfl
      have C02 := CT w2
      go_wp2_with fail
      refine C02.mono ?_
      rintro e w3 ⟨rfl, hb3⟩
      replace KX := Lib.hid ((show Kept w w2 from KX.out).then hb3)
      replace HF := Lib.hid ((show Kept w2 w3 from hb3).row HF.out)
      replace HR := Lib.hid ((show Kept w2 w3 from hb3).row HR.out)
      clear hb3 C02 f0 f1 q2
      have f1 : w3.cell? ⟨w1.heap.size, 1, none⟩ = some (.bool true) := by rw [cell_of_row _ _ _ _ _ _ HF.out]; rfl
      have f2 : w3.cell? ⟨w1.heap.size, 2, none⟩ = some (.bool false) := by rw [cell_of_row _ _ _ _ _ _ HF.out]; rfl
      go_wp2
      go_ret
      exact ⟨by rw [HRES.out]; rfl, KX.out⟩

end Go.Proofs.YtoigembmbajopaaDoor
