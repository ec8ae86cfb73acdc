/- The walk of processed: a block done to a state. -/
import Derived.Test.YtepcnedagmfpeaaDoorExp
import Derived.Deep.QuietTactic
import Derived.BigQuiet
import Derived.Deep.WholeRow
namespace Go.Proofs.YtepcnedagmfpeaaDoor
open Go.RowKit

/-- The table lies where the program lays it. -/
def TabAt (w : World) : Prop := ∀ i, i < 64 → w.cell? ⟨0, i, none⟩ = some (.int .u32 (K64.getD i 0 : Nat))

theorem TabAt.later {w w' : World} (h : TabAt w) (hb : Below w.heap.size w w') : TabAt w' := fun i hi => (hb.cell (World.block_lt_of_cell? _ _ (h i hi))).trans (h i hi)

theorem infoS8 : (Tryd.prog.info? 39).map (·.size) = some 8 := by kernel_rfl
theorem list_len (s : St) : s.list.length = 8 := rfl
theorem infoSt (s : St) : (Tryd.prog.info? 39).map (·.size) = some (nuA s.list).size := by rw [nuA_size]; exact infoS8
theorem infoWd (l : List Nat) (h : l.length = 64) : (Tryd.prog.info? 68).map (·.size) = some (nuA l).size := by rw [nuA_size, h]; exact infoW64
theorem infoBk (l : List UInt8) (h : l.length = 64) : (Tryd.prog.info? 51).map (·.size) = some (byA l).size := by rw [byA_size, h]; exact infoB64

theorem not32 {a : Nat} (ha : a ≤ 4294967295) : bits .xor .u32 IntKind.u32.max (a : Int) = ((4294967295 - a : Nat) : Int) := by
  rw [show IntKind.u32.max = ((4294967295 : Nat) : Int) by decide, x32 (by omega) ha]
  congr 1
  apply Nat.eq_of_testBit_eq
  intro i
  have e : 4294967295 - a = 2 ^ 32 - (a + 1) := by omega
  rw [e, Nat.testBit_two_pow_sub_succ (by omega), Nat.testBit_xor, show (4294967295 : Nat) = 2 ^ 32 - 1 from rfl, Nat.testBit_two_pow_sub_one]
  by_cases h : i < 32
  · simp [h]
  · have : a.testBit i = false := Nat.testBit_lt_two_pow (Nat.lt_of_lt_of_le (show a < 2 ^ 32 by omega) (Nat.pow_le_pow_right (by omega) (by omega)))
    simp [h, this]

theorem below_drewN' {B : Nat} {a w : World} (h : Below B a w) (n : Nat) : Below B a (w.drewN n) := ⟨h.os, h.tape, h.output, h.size, h.block⟩

def zeros8 : Array Value := #[Value.int .u32 0, Value.int .u32 0, Value.int .u32 0, Value.int .u32 0, Value.int .u32 0, Value.int .u32 0, Value.int .u32 0, Value.int .u32 0]

/-- What the loop of the rounds holds. -/
def RoundsAt (s : St) (l : List UInt8) (k : Nat) (a b c d e f g h : Value) : Prop :=
  ∃ r : St, r = rnds s l k ∧ a = .int .u32 r.a ∧ b = .int .u32 r.b ∧ c = .int .u32 r.c ∧ d = .int .u32 r.d ∧ e = .int .u32 r.e ∧ f = .int .u32 r.f ∧ g = .int .u32 r.g ∧ h = .int .u32 r.h

set_option maxRecDepth 100000 in
set_option maxHeartbeats 2000000 in
theorem processed_any (s : St) (hs : s.lo) (l : List UInt8) (hl : l.length = 64) (w : World) (hT : TabAt w) :
    Calls Tryd.prog 26 #[.agg (nuA s.list), .agg (byA l)] w fun e w' => e = .returned (.agg (nuA (proc s l).list)) ∧ Below w.heap.size w w' := by
  have EX := expanded_any l hl
  have hBi := infoBk l hl
  obtain ⟨B, hB⟩ : ∃ B, B = byA l := ⟨_, rfl⟩
  obtain ⟨A, hA⟩ : ∃ A, A = nuA s.list := ⟨_, rfl⟩
  have hWi := infoWd (wordsTo l 64) (wordsTo_len l 64)
  obtain ⟨V, hV⟩ : ∃ V, V = nuA (wordsTo l 64) := ⟨_, rfl⟩
  have hV1 : V.all (·.oneCell') = true := by rw [hV]; exact nuA_one _
  have hVs : V.size = 64 := by rw [hV, nuA_size, wordsTo_len]
  have hVg : ∀ j, j < 64 → V[j]? = some (.int .u32 (wv l j : Nat)) := fun j hj => by
    rw [hV, nuA_get _ _ (by rw [wordsTo_len]; exact hj), wordsTo_get l 64 j hj]
  have hA1 : A.all (·.oneCell') = true := by rw [hA]; exact nuA_one _
  have hAs : A.size = 8 := by rw [hA, nuA_size]; rfl
  have hAi := infoSt s
  have q0 : A[0]? = some (.int .u32 s.a) := by rw [hA]; rfl
  have q1 : A[1]? = some (.int .u32 s.b) := by rw [hA]; rfl
  have q2 : A[2]? = some (.int .u32 s.c) := by rw [hA]; rfl
  have q3 : A[3]? = some (.int .u32 s.d) := by rw [hA]; rfl
  have q4 : A[4]? = some (.int .u32 s.e) := by rw [hA]; rfl
  have q5 : A[5]? = some (.int .u32 s.f) := by rw [hA]; rfl
  have q6 : A[6]? = some (.int .u32 s.g) := by rw [hA]; rfl
  have q7 : A[7]? = some (.int .u32 s.h) := by rw [hA]; rfl
  rw [← hB] at EX hBi ⊢
  rw [← hA] at hAi ⊢
  rw [← hV] at EX hWi
  have HB := Lib.hid hB
  have HA := Lib.hid hA
  have HV := Lib.hid hV
  have HBI := Lib.hid hBi
  have HWI := Lib.hid hWi
  have HV1 := Lib.hid hV1
  have HVS := Lib.hid hVs
  have HVG := Lib.hid hVg
  have HA1 := Lib.hid hA1
  have HAS := Lib.hid hAs
  have HAI := Lib.hid hAi
  have Q0 := Lib.hid q0
  have Q1 := Lib.hid q1
  have Q2 := Lib.hid q2
  have Q3 := Lib.hid q3
  have Q4 := Lib.hid q4
  have Q5 := Lib.hid q5
  have Q6 := Lib.hid q6
  have Q7 := Lib.hid q7
  clear hB hA hV hBi hWi hl hV1 hVs hVg hA1 hAs hAi q0 q1 q2 q3 q4 q5 q6 q7
  go_enter Tryd.func26, Tryd.ntmps26
  go_wp2_with (with_reducible refine wpList_load_row rfl _ _ rfl (w.heap.size + 1) rfl 51 B (0, 0) _ ?g1 Tryd.underlying51 rfl HBI.out ?_)
  case g1 =>
    rw [Below.heap_alloc _ _ _ (by simp)]; exact heap_alloc2_new w _ _
  obtain ⟨Z, hZ⟩ : ∃ Z : Array Value, Z = zeros8 := ⟨_, rfl⟩
  have hZ' := hZ
  unfold zeros8 at hZ'
  rw [← hZ']
  have hZs : Z.size = 8 := by rw [hZ]; rfl
  have HZS := Lib.hid hZs
  clear hZ hZ' hZs
  refine (EX _).mono ?_
  rintro e w1 ⟨rfl, hb1⟩
  have K0 : Below w.heap.size w (((w.alloc (.cells A 39)).alloc (.cells B 51)).alloc (.cells Z 39)) := (((Below.refl _ _).alloc (Nat.le_refl _) _).alloc (by simp) _).alloc (by simp; omega) _
  have K1 := Below.then' K0 hb1 K0.size
  have a1 : w1.heap[w.heap.size]? = some (.cells A 39 (0, 0)) := by
    rw [hb1.block _ (by simp; omega), Below.heap_alloc _ _ _ (by simp; omega)]; exact heap_alloc2_old w _ _
  have z1 : w1.heap[w.heap.size + 1 + 1]? = some (.cells Z 39 (0, 0)) := by
    rw [hb1.block _ (by simp)]
    have := heap_alloc2_new (w.alloc (.cells A 39)) (.cells B 51) (.cells Z 39)
    simpa using this
  have hsz1 : w.heap.size + 1 + 1 < w1.heap.size := (Array.getElem?_eq_some_iff.1 z1).1
  clear hb1 K0
  go_wp2_with (((with_reducible refine wpList_store_row rfl _ _ _ rfl w1.heap.size V rfl rfl 68 _ (heap_alloc_last w1 _) HWI.out ?_ HV1.out ?_); rotate_left))
  rotate_left
  · rw [HVS.out]; rfl
  rw [World.setRow_alloc_new]
  simp only [Act.put]
  have K2 := K1.alloc K1.size (.cells V 68)
  have a2 := (Below.heap_alloc w1 (.cells V 68) w.heap.size (by omega)).trans a1
  have z2 := (Below.heap_alloc w1 (.cells V 68) (w.heap.size + 1 + 1) (by omega)).trans z1
  have v2 := heap_alloc_last w1 (.cells V 68)
  have ne1 : w.heap.size ≠ w1.heap.size := by omega
  clear a1 z1 K1
  obtain ⟨W2, hW2⟩ : ∃ W2, W2 = w1.alloc (.cells V 68) := ⟨_, rfl⟩
  rw [← hW2] at K2 a2 z2 v2 ⊢
  obtain ⟨vb, hvb⟩ : ∃ vb, vb = w1.heap.size := ⟨_, rfl⟩
  rw [← hvb] at v2 hsz1 ne1 ⊢
  clear hW2 hvb w1
  have hT2 := hT.later K2
  have c0 : W2.cell? ⟨w.heap.size, 0, none⟩ = _ := (cell_of_row _ _ 0 A _ _ a2).trans Q0.out
  have c1 : W2.cell? ⟨w.heap.size, 1, none⟩ = _ := (cell_of_row _ _ 1 A _ _ a2).trans Q1.out
  have c2 : W2.cell? ⟨w.heap.size, 2, none⟩ = _ := (cell_of_row _ _ 2 A _ _ a2).trans Q2.out
  have c3 : W2.cell? ⟨w.heap.size, 3, none⟩ = _ := (cell_of_row _ _ 3 A _ _ a2).trans Q3.out
  have c4 : W2.cell? ⟨w.heap.size, 4, none⟩ = _ := (cell_of_row _ _ 4 A _ _ a2).trans Q4.out
  have c5 : W2.cell? ⟨w.heap.size, 5, none⟩ = _ := (cell_of_row _ _ 5 A _ _ a2).trans Q5.out
  have c6 : W2.cell? ⟨w.heap.size, 6, none⟩ = _ := (cell_of_row _ _ 6 A _ _ a2).trans Q6.out
  have c7 : W2.cell? ⟨w.heap.size, 7, none⟩ = _ := (cell_of_row _ _ 7 A _ _ a2).trans Q7.out
  go_wp2
  go_quiet (fail)
  obtain ⟨W3, hW3⟩ : ∃ W3, W3 = W2.drewN nq := ⟨_, rfl⟩
  have c4' : W3.cell? ⟨w.heap.size, 4, none⟩ = some (.int .u32 s.e) := by rw [hW3]; exact c4
  have c5' : W3.cell? ⟨w.heap.size, 5, none⟩ = some (.int .u32 s.f) := by rw [hW3]; exact c5
  have c6' : W3.cell? ⟨w.heap.size, 6, none⟩ = some (.int .u32 s.g) := by rw [hW3]; exact c6
  have c7' : W3.cell? ⟨w.heap.size, 7, none⟩ = some (.int .u32 s.h) := by rw [hW3]; exact c7
  have a3 : W3.heap[w.heap.size]? = some (.cells A 39 (0, 0)) := by rw [hW3]; exact a2
  have z3 : W3.heap[w.heap.size + 1 + 1]? = some (.cells Z 39 (0, 0)) := by rw [hW3]; exact z2
  have v3 : W3.heap[vb]? = some (.cells V 68 (0, 0)) := by rw [hW3]; exact v2
  have K3 : Below w.heap.size w W3 := by rw [hW3]; exact below_drewN' K2 _
  rw [← hW3]
  clear hW3 c0 c1 c2 c3 c4 c5 c6 c7 a2 z2 v2 K2 hT2 W2
  go_wp2
  go_quiet (fail)
  have a4 : (W3.drewN nq).heap[w.heap.size]? = some (.cells A 39 (0, 0)) := a3
  have z4 : (W3.drewN nq).heap[w.heap.size + 1 + 1]? = some (.cells Z 39 (0, 0)) := z3
  have v4 : (W3.drewN nq).heap[vb]? = some (.cells V 68 (0, 0)) := v3
  have K4 := below_drewN' K3 nq
  obtain ⟨W4, hW4⟩ : ∃ W4, W4 = W3.drewN nq := ⟨_, rfl⟩
  rw [← hW4] at a4 z4 v4 K4 ⊢
  clear hW4 c4' c5' c6' c7' a3 z3 v3 K3 W3
  go_wp2
  go_loopw [6, 7, 8, 9, 10, 11, 12, 13, 37] (fun a b c d e f g h t wr => ∃ (k : Nat), k ≤ 64 ∧ t = .int .i64 k ∧ RoundsAt s l k a b c d e f g h ∧
      wr.heap[w.heap.size]? = some (.cells A 39 (0, 0)) ∧ wr.heap[w.heap.size + 1 + 1]? = some (.cells Z 39 (0, 0)) ∧ wr.heap[vb]? = some (.cells V 68 (0, 0)) ∧ Below w.heap.size w wr) (fun _ _ _ _ _ _ _ _ t _ => 64 - (intOf t).toNat)
  case atStart => exact ⟨0, Nat.zero_le _, rfl, ⟨s, rfl, rfl, rfl, rfl, rfl, rfl, rfl, rfl, rfl⟩, a4, z4, v4, K4⟩
  case round =>
    clear a4 z4 v4 K4
    obtain ⟨k, hk, rfl, ⟨r, hr, rfl, rfl, rfl, rfl, rfl, rfl, rfl, rfl⟩, a5, z5, v5, K5⟩ := hrel
    have hlo : r.lo := by rw [hr]; exact rnds_lo hs l k
    have hnx : rnd r (K64.getD k 0) (wv l k) = rnds s l (k + 1) := by rw [hr]; rfl
    have HR := Lib.hid hr
    clear hr
    by_cases hlt : k < 64
    · have hkk := K64_lo ⟨k, hlt⟩
      have hww := wv_lo l k
      have ck := (hT.later K5) k hlt
      have cw : wr.cell? ⟨vb, k, none⟩ = some (.int .u32 (wv l k : Nat)) := (cell_of_row _ _ k V _ _ v5).trans (HVG.out k hlt)
      simp only at hkk
      obtain ⟨kk, hkk'⟩ : ∃ kk, kk = K64.getD k 0 := ⟨_, rfl⟩
      obtain ⟨ww, hww'⟩ : ∃ ww, ww = wv l k := ⟨_, rfl⟩
      rw [← hkk'] at hkk ck hnx
      rw [← hww'] at hww cw hnx
      clear hkk' hww'
      obtain ⟨ra, rb, rc, rd, re, rf, rg, rh⟩ := r
      obtain ⟨la, lb, lc, ld, le, lf, lg, lh⟩ := hlo
      simp only at la lb lc ld le lf lg lh ⊢
      have UA := upp0_any ra la
      have UE := upp1_any re le
      have l0 := upp0_lo la
      have l1 := upp1_lo le
      have e1 := a32 le lf
      have e2 : bits .xor .u32 (if IntKind.u32.signed = true then -1 else IntKind.u32.max) (re : Int) = ((4294967295 - re : Nat) : Int) := not32 le
      have e3 := a32 (a := 4294967295 - re) (b := rg) (by omega) lg
      have e4 := x32 (a := re &&& rf) (b := (4294967295 - re) &&& rg) (and_lo le) (and_lo (by omega))
      have e5 := a32 la lb
      have e6 := a32 la lc
      have e7 := x32 (a := ra &&& rb) (b := ra &&& rc) (and_lo la) (and_lo la)
      have e8 := a32 lb lc
      have e9 := x32 (a := (ra &&& rb) ^^^ (ra &&& rc)) (b := rb &&& rc) (xor_lo (and_lo la) (and_lo la)) (and_lo lb)
      have hc1 : cho re rf rg = (re &&& rf) ^^^ ((4294967295 - re) &&& rg) := rfl
      have hm1 : maj ra rb rc = (ra &&& rb) ^^^ (ra &&& rc) ^^^ (rb &&& rc) := rfl
      have lch := cho_lo (f := rf) (g := rg) le
      have lmj := maj_lo (c := rc) la lb
      rw [← hc1] at e4
      rw [← hm1] at e9
      unfold rnd rt1 rt2 at hnx
      simp only at hnx
      clear hc1 hm1
      obtain ⟨u1, hu1⟩ : ∃ u, u = upp1 re := ⟨_, rfl⟩
      obtain ⟨u0, hu0⟩ : ∃ u, u = upp0 ra := ⟨_, rfl⟩
      rw [← hu1] at UE l1 hnx
      rw [← hu0] at UA l0 hnx
      obtain ⟨ch, hch⟩ : ∃ u, u = cho re rf rg := ⟨_, rfl⟩
      obtain ⟨mj, hmj⟩ : ∃ u, u = maj ra rb rc := ⟨_, rfl⟩
      rw [← hch] at e4 hnx lch
      rw [← hmj] at e9 hnx lmj
      obtain ⟨ef, hef⟩ : ∃ u, u = re &&& rf := ⟨_, rfl⟩
      obtain ⟨ne, hne⟩ : ∃ u, u = 4294967295 - re := ⟨_, rfl⟩
      rw [← hef] at e1 e4
      rw [← hne] at e2 e3 e4
      obtain ⟨ng, hng⟩ : ∃ u, u = ne &&& rg := ⟨_, rfl⟩
      rw [← hng] at e3 e4
      obtain ⟨ab, hab⟩ : ∃ u, u = ra &&& rb := ⟨_, rfl⟩
      obtain ⟨ac, hac⟩ : ∃ u, u = ra &&& rc := ⟨_, rfl⟩
      rw [← hab] at e5 e7 e9
      rw [← hac] at e6 e7 e9
      obtain ⟨xx, hxx⟩ : ∃ u, u = ab ^^^ ac := ⟨_, rfl⟩
      obtain ⟨bc, hbc⟩ : ∃ u, u = rb &&& rc := ⟨_, rfl⟩
      rw [← hxx] at e7 e9
      rw [← hbc] at e8 e9
      clear hu1 hu0 hch hmj hef hne hng hab hac hxx hbc
      obtain ⟨t1, ht1⟩ : ∃ t, t = (rh + u1 + ch + kk + ww) % 4294967296 := ⟨_, rfl⟩
      obtain ⟨t2, ht2⟩ : ∃ t, t = (u0 + mj) % 4294967296 := ⟨_, rfl⟩
      rw [← ht1, ← ht2] at hnx
      have w1 : IntKind.u32.wrap (IntKind.u32.wrap (IntKind.u32.wrap (IntKind.u32.wrap ((rh : Int) + u1) + ch) + kk) + ww) = (t1 : Int) := by
        rw [ht1, IntKind.wrap_u32', IntKind.wrap_u32', IntKind.wrap_u32', IntKind.wrap_u32']; omega
      have w1' : ((rh : Int) + u1 + ch + kk + ww) % 4294967296 = (t1 : Int) := by omega
      have w2 : ((u0 : Int) + mj) % 4294967296 = (t2 : Int) := by omega
      have lt1 : t1 ≤ 4294967295 := by omega
      have lt2 : t2 ≤ 4294967295 := by omega
      clear ht1 ht2
      have HN := Lib.hid hnx
      clear hnx
      go_wp2
      go_quiet ((go_at_call 34; exact Calls.quiet_of_same ((UE _).mono fun _ _ h => ⟨h.1, h.2.symm⟩)))
      go_wp2_with ((with_reducible refine (UA _).mono ?_); rintro e w' ⟨rfl, rfl⟩)
      go_roundw
      case rel =>
        refine ⟨k + 1, by omega, by go_num, ⟨_, HN.out, ?_, rfl, rfl, rfl, ?_, rfl, rfl, rfl⟩, a5, z5, v5, below_drewN' K5 _⟩
        · exact congrArg (Value.int .u32) (by simp only; omega)
        · exact congrArg (Value.int .u32) (by simp only; omega)
      case measure => simp [intOf]; omega
    · obtain rfl : k = 64 := by omega
      have gS : ∀ j, j < 8 → A[j]? = some (.int .u32 (s.list.getD j 0 : Nat)) := fun j hj => by rw [HA.out]; exact nuA_get _ _ hj
      have gR : ∀ j, j < 8 → (nuA r.list)[j]? = some (.int .u32 (r.list.getD j 0 : Nat)) := fun j hj => nuA_get _ _ hj
      have GS := Lib.hid gS
      have GR := Lib.hid gR
      obtain ⟨R, hR⟩ : ∃ R, R = nuA r.list := ⟨_, rfl⟩
      have hR' : R = #[Value.int .u32 (r.a : Int), Value.int .u32 (r.b : Int), Value.int .u32 (r.c : Int), Value.int .u32 (r.d : Int), Value.int .u32 (r.e : Int), Value.int .u32 (r.f : Int), Value.int .u32 (r.g : Int), Value.int .u32 (r.h : Int)] := by rw [hR]; rfl
      have HRR := Lib.hid hR
      have HRR' := Lib.hid hR'
      clear gS gR hR hR' Q0 Q1 Q2 Q3 Q4 Q5 Q6 Q7 hlo hnx
      go_wp2
      rw [← HRR'.out]
      simp only [show ((64 : Nat) : Int) = 64 from rfl]
      go_loopw [97] (fun x wr => ∃ (i : Nat) (C : Array Value), i ≤ 8 ∧ x = .int .i64 i ∧ C.size = 8 ∧ (∀ j, j < 8 → C[j]? = some (.int .u32 ((if j < i then (s.list.getD j 0 + r.list.getD j 0) % 4294967296 else s.list.getD j 0 : Nat) : Int))) ∧
          wr.heap[w.heap.size]? = some (.cells C 39 (0, 0)) ∧ wr.heap[w.heap.size + 1 + 1]? = some (.cells Z 39 (0, 0)) ∧ Below w.heap.size w wr) (fun x _ => 8 - (intOf x).toNat)
      case atStart => exact ⟨0, A, Nat.zero_le _, rfl, HAS.out, fun j hj => by rw [if_neg (by omega)]; exact GS.out j hj, a5, z5, K5⟩
      case round =>
        clear a5 z5 v5 K5
        obtain ⟨i, C, hi, rfl, hC, hcs, a6, z6, K6⟩ := hrel
        have HC := Lib.hid hcs
        have HCS := Lib.hid hC
        clear hcs hC
        by_cases hlt : i < 8
        · have k1 := HC.out i hlt
          rw [if_neg (by omega)] at k1
          have k2 := GR.out i hlt
          rw [← HRR.out] at k2
          obtain ⟨sv, hsv⟩ : ∃ v, v = s.list.getD i 0 := ⟨_, rfl⟩
          obtain ⟨rv, hrv⟩ : ∃ v, v = r.list.getD i 0 := ⟨_, rfl⟩
          rw [← hsv] at k1
          rw [← hrv] at k2
          have hix := fun w' => run_index_arr (P := Tryd.prog) w' 39 36 8 R .i64 .u32 i (.int .u32 rv) Tryd.underlying39 Tryd.underlying36 infoU32 hlt k2
          have c6 : wr.cell? ⟨w.heap.size, i, none⟩ = some (.int .u32 (sv : Nat)) := (cell_of_row _ _ _ C _ _ a6).trans k1
          have f6 : wr.frozen? ⟨w.heap.size, i, none⟩ = false := frozen_of_row _ _ _ _ _ a6
          obtain ⟨y, hy⟩ : ∃ y, y = (sv + rv) % 4294967296 := ⟨_, rfl⟩
          have y1 : ((sv : Int) + rv) % 4294967296 = (y : Int) := by omega
          have y2 : IntKind.u32.wrap ((sv : Int) + rv) = (y : Int) := by rw [IntKind.wrap_u32']; omega
          have HS := Lib.hid hsv
          have HV := Lib.hid hrv
          have HY := Lib.hid hy
          clear k1 k2 hsv hrv hy
          go_wp2
          go_roundw
          case rel =>
            refine ⟨i + 1, C.setIfInBounds i (.int .u32 (y : Nat)), by omega, by go_num, by simpa using HCS.out, ?_, heap_setCell_same _ _ _ _ _ _ a6, ?_, K6.setCell (Nat.le_refl _) _⟩
            · intro j hj
              have hC' := HCS.out
              rw [Array.getElem?_setIfInBounds]
              by_cases e : i = j
              · subst e
                rw [if_pos rfl, if_pos (by omega), if_pos (by omega), HY.out, HS.out, HV.out]
              · rw [if_neg e, HC.out j hj]
                by_cases h2 : j < i
                · rw [if_pos h2, if_pos (by omega)]
                · rw [if_neg h2, if_neg (by omega)]
            · rw [heap_setCell_other _ _ _ _ (by show ¬ w.heap.size + 1 + 1 = w.heap.size; omega)]; exact z6
          case measure => simp [intOf]; omega
        · obtain rfl : i = 8 := by omega
          have hfin : C = nuA (proc s l).list := nuA_of _ _ HCS.out (fun j hj => by
            have hj8 : j < 8 := hj
            rw [HC.out j hj8, if_pos hj8]
            unfold proc
            rw [← HR.out]
            have : j = 0 ∨ j = 1 ∨ j = 2 ∨ j = 3 ∨ j = 4 ∨ j = 5 ∨ j = 6 ∨ j = 7 := by omega
            rcases this with rfl | rfl | rfl | rfl | rfl | rfl | rfl | rfl <;> rfl)
          subst hfin
          clear HC
          have hPi := infoSt (proc s l)
          have HPI := Lib.hid hPi
          have hP1 := nuA_one (proc s l).list
          have HP1 := Lib.hid hP1
          clear hPi hP1
          go_wp2_with (first
            | (with_reducible refine wpList_load_row rfl _ _ rfl w.heap.size rfl 39 (nuA (proc s l).list) (0, 0) _ a6 Tryd.underlying39 rfl HPI.out ?_)
            | (with_reducible refine wpList_store_row rfl _ _ _ rfl (w.heap.size + 1 + 1) (nuA (proc s l).list) rfl rfl 39 Z z6 HPI.out (by rw [HZS.out, HCS.out]) HP1.out ?_))
          refine bodyPost_ret (results_cell_row Tryd.results26 _ _ (w.heap.size + 1 + 1) 39 (nuA (proc s l).list) (0, 0) _ rfl (setRow_heap _ _ _ _ _ _ z6) Tryd.underlying39 rfl HPI.out) rfl ⟨rfl, ?_⟩
          exact below_setRow K6 (by omega) _

end Go.Proofs.YtepcnedagmfpeaaDoor
