/- The walk of the document's Block. -/
import Derived.Test.YtepcnedagmfpeaaDoorRWord
import Derived.Test.YtepcnedagmfpeaaDoorProc
import Derived.Deep.RegionHeld3
import Derived.Deep.RegionLawGrows
import Derived.StillTailTactics
namespace Go.Proofs.YtepcnedagmfpeaaDoor
open Go.RowKit

/-- A slice of eight words, new. -/
def SlPost (w : World) (s : St) (e : Ending) (w' : World) : Prop :=
  ∃ g cap, e = .returned (.slice (some ⟨g, 0, none⟩) 8 cap) ∧ w.heap.size ≤ g ∧ (∀ j, j < 8 → w'.cell? ⟨g, j, none⟩ = some (.int .u32 (s.list.getD j 0 : Nat))) ∧ Below w.heap.size w w'

theorem list_lo {s : St} (hs : s.lo) (j : Nat) (hj : j < 8) : s.list.getD j 0 ≤ 4294967295 := by
  obtain ⟨ha, hb, hc, hd, he, hf, hg, hh⟩ := hs
  have : j = 0 ∨ j = 1 ∨ j = 2 ∨ j = 3 ∨ j = 4 ∨ j = 5 ∨ j = 6 ∨ j = 7 := by omega
  rcases this with rfl | rfl | rfl | rfl | rfl | rfl | rfl | rfl <;> assumption

theorem own_row {w : World} {base : Nat} {e : TypeId} {v : Value} {n : Nat} {xs : List Value} (h : w.ownsRow base e 1 v n xs) (hn : 0 < n) (hl : xs.length = n) :
    ∃ (g cap : Nat) (C : Array Value), v = .slice (some ⟨g, 0, none⟩) n cap ∧ base ≤ g ∧ w.heap[g]? = some (.cells C e (0, 0)) ∧ ∀ (j : Nat) (u : Value), xs[j]? = some u → C[j]? = some u := by
  rcases h with ⟨_, ⟨rfl, h0⟩ | ⟨g', cap', cur, rfl, hbg, hrow, hn', hcap, hcs, htake⟩⟩
  · omega
  · refine ⟨g', cap', cur, rfl, hbg, hrow, fun j u hu => ?_⟩
    have hj : j < n := by
      have := (List.getElem?_eq_some_iff.1 hu).1
      omega
    have := congrArg (fun l => l[j]?) htake
    simp only [Nat.mul_one] at this
    rw [← hu, ← this, List.getElem?_take, if_pos hj, Array.getElem?_toList]

/-- What the loop of the rounds holds: the eight words, the words, the roots. -/
def RndAt (w : World) (s : St) (l : List UInt8) (g1 g2 k : Nat) (v : Value) (wr : World) : Prop :=
  ∃ (r : St) (g cap : Nat) (C : Array Value), r = rnds s l k ∧ v = .slice (some ⟨g, 0, none⟩) 8 cap ∧ w.heap.size ≤ g ∧ wr.heap[g]? = some (.cells C 36 (0, 0)) ∧ (∀ j, j < 8 → C[j]? = some (.int .u32 (r.list.getD j 0 : Nat))) ∧
    (∀ j, j < 64 → wr.cell? ⟨g1, j, none⟩ = some (.int .u32 (wv l j : Nat))) ∧ (∀ j, j < 64 → wr.cell? ⟨g2, j, none⟩ = some (.int .u32 (K64.getD j 0 : Nat))) ∧ Below w.heap.size w wr

theorem eight_get (xs : List Value) (Y : Array Value) (r : List Nat) (hr : r.length = 8) (hx : xs = nuL r) (j : Nat) (hj : j < 8) : (xs.toArray ++ Y)[j]? = some (.int .u32 (r.getD j 0 : Nat)) := by
  subst hx
  have hl : (nuL r).length = 8 := by rw [nuL_len, hr]
  rw [Array.getElem?_append_left (by simp [hl]; exact hj), List.getElem?_toArray, nuL_get _ _ (by omega)]

/-- Behind a round: the eight words in a new row. -/
theorem rnd_next {w W4 : World} {s : St} {l : List UInt8} {g1 g2 k : Nat} (K4 : Below w.heap.size w W4) (hd : ∀ j, j < 64 → W4.cell? ⟨g1, j, none⟩ = some (.int .u32 (wv l j : Nat))) (hr : ∀ j, j < 64 → W4.cell? ⟨g2, j, none⟩ = some (.int .u32 (K64.getD j 0 : Nat)))
    (A B : Obj) (cap : Nat) (Y : Array Value) (a b c d e f g h : Nat) (hn : (⟨a, b, c, d, e, f, g, h⟩ : St) = rnds s l k) :
    RndAt w s l g1 g2 k (.slice (some ⟨W4.heap.size + 1 + 1, 0, none⟩) 8 cap) (((W4.alloc A).alloc B).alloc (.cells (#[Value.int .u32 (a : Int), Value.int .u32 (b : Int), Value.int .u32 (c : Int), Value.int .u32 (d : Int), Value.int .u32 (e : Int), Value.int .u32 (f : Int), Value.int .u32 (g : Int), Value.int .u32 (h : Int)] ++ Y) 36)).drew.drew := by
  have hz : ((W4.alloc A).alloc B).heap.size = W4.heap.size + 1 + 1 := by simp
  have hsz := K4.size
  have keep : ∀ i, i < W4.heap.size → (((W4.alloc A).alloc B).alloc (.cells (#[Value.int .u32 (a : Int), Value.int .u32 (b : Int), Value.int .u32 (c : Int), Value.int .u32 (d : Int), Value.int .u32 (e : Int), Value.int .u32 (f : Int), Value.int .u32 (g : Int), Value.int .u32 (h : Int)] ++ Y) 36)).heap[i]? = W4.heap[i]? := fun i hi =>
    (Below.heap_alloc _ _ i (by rw [hz]; omega)).trans ((Below.heap_alloc _ B i (by simp; omega)).trans (Below.heap_alloc _ A i hi))
  refine ⟨_, _, _, #[Value.int .u32 (a : Int), Value.int .u32 (b : Int), Value.int .u32 (c : Int), Value.int .u32 (d : Int), Value.int .u32 (e : Int), Value.int .u32 (f : Int), Value.int .u32 (g : Int), Value.int .u32 (h : Int)] ++ Y, hn, rfl, by omega, ?_, fun j hj => ?_, fun j hj => ?_, fun j hj => ?_, ?_⟩
  · have := heap_alloc_last ((W4.alloc A).alloc B) (.cells (#[Value.int .u32 (a : Int), Value.int .u32 (b : Int), Value.int .u32 (c : Int), Value.int .u32 (d : Int), Value.int .u32 (e : Int), Value.int .u32 (f : Int), Value.int .u32 (g : Int), Value.int .u32 (h : Int)] ++ Y) 36)
    rw [hz] at this
    exact this
  · exact eight_get _ Y [a, b, c, d, e, f, g, h] rfl rfl j hj
  · exact (World.cell?_of_block (a := ⟨g1, j, none⟩) (w := W4) (keep g1 (World.block_lt_of_cell? _ _ (hd j hj)))).trans (hd j hj)
  · exact (World.cell?_of_block (a := ⟨g2, j, none⟩) (w := W4) (keep g2 (World.block_lt_of_cell? _ _ (hr j hj)))).trans (hr j hj)
  · exact (((K4.alloc hsz A).alloc (by simp; omega) B).alloc (by rw [hz]; omega) _).drew.drew

/-- A turned word, where the world has drawn. -/
theorem turned_q (n : Nat) (k : Int) (x y : Nat) (hk : k = n) (h1 : n ≤ 31) (hx : x ≤ 4294967295) (hy : y = rotr n x) (w : World) (m : Nat) :
    Calls Tryd.prog 29 #[.int .u32 x, .int .i64 k] (w.drewN m) fun e w'' => e = .returned (.int .u32 y) ∧ ∃ m', w'' = w.drewN m' := by
  subst hy
  exact Calls.quiet_of_same ((turned_at n k x hk h1 hx _).mono fun _ _ h => ⟨h.1, h.2.symm⟩)

set_option maxRecDepth 100000 in
set_option maxHeartbeats 16000000 in
theorem rblock_any (s : St) (hs : s.lo) (b cp : Nat) (x : ByteArray) (hx : x.size = 64) (w : World) (hv : ∀ j, j < 8 → w.cell? ⟨b, j, none⟩ = some (.int .u32 (s.list.getD j 0 : Nat))) :
    Calls Tryd.prog 16 #[.slice (some ⟨b, 0, none⟩) 8 cp, .string x] w (SlPost w (proc s x.data.toList)) := by
  obtain ⟨i0, hi, hz0, hz1, hz2⟩ : ∃ i : TypeInfo, Tryd.prog.info? 36 = some i ∧ i.zero = some (.int .u32 0) ∧ i.size = 1 ∧ i.bytes = 4 := by
    have h := info36
    cases hq : Tryd.prog.info? 36 with
    | none => rw [hq] at h; cases h
    | some i =>
      rw [hq] at h
      simp only [Option.map_some, Option.some.injEq, Prod.mk.injEq] at h
      exact ⟨i, rfl, h.1, h.2.1, h.2.2⟩
  have HI := Lib.hid hi
  have HZ0 := Lib.hid hz0
  have HZ1 := Lib.hid hz1
  have HZ2 := Lib.hid hz2
  have WD := words_any x hx
  have hbl : b < w.heap.size := World.block_lt_of_cell? _ _ (hv 0 (by omega))
  have HVV := Lib.hid hv
  obtain ⟨l, hl⟩ : ∃ l, l = x.data.toList := ⟨_, rfl⟩
  rw [← hl] at WD ⊢
  have RT := roots_any
  obtain ⟨KA, hKA⟩ : ∃ KA, KA = nuA K64 := ⟨_, rfl⟩
  have hKg : ∀ j, j < 64 → KA[j]? = some (.int .u32 (K64.getD j 0 : Nat)) := fun j hj => by rw [hKA]; exact nuA_get _ _ (by rw [K64_len]; exact hj)
  rw [← hKA] at RT
  have HKG := Lib.hid hKg
  clear hi hz0 hz1 hz2 hl hv hKA hKg hx
  go_enter Tryd.func16, Tryd.ntmps16
  go_wp2_with fail
  refine (WD _).mono ?_
  rintro e w1 ⟨g1, cap1, rfl, hg1, hw1, K1⟩
  go_wp2_with fail
  refine (RT _).mono ?_
  rintro e w2 ⟨rfl, hw2⟩
  have K2 : Below w.heap.size w w2 := by rw [hw2]; exact K1.alloc K1.size _
  have r2 : ∀ j, j < 64 → w2.cell? ⟨w1.heap.size, j, none⟩ = some (.int .u32 (K64.getD j 0 : Nat)) := fun j hj => by
    rw [hw2]; exact (cell_of_row _ _ _ _ _ _ (heap_alloc_last w1 _)).trans (HKG.out j hj)
  have d2 : ∀ j, j < 64 → w2.cell? ⟨g1, j, none⟩ = some (.int .u32 (wv l j : Nat)) := fun j hj => by
    rw [hw2]; exact (((Below.refl w1.heap.size w1).alloc (Nat.le_refl _) _).cell (p := ⟨g1, j, none⟩) (World.block_lt_of_cell? _ _ (hw1 j hj))).trans (hw1 j hj)
  obtain ⟨g2, hg2⟩ : ∃ g2, g2 = w1.heap.size := ⟨_, rfl⟩
  rw [← hg2] at r2 ⊢
  have R2 := Lib.hid r2
  have D2 := Lib.hid d2
  have h2sz : w.heap.size ≤ w2.heap.size := K2.size
  have hsn : ∀ j u, (nuL s.list)[j]? = some u → (w2.alloc (.cells #[] 36)).cell? ((⟨b, 0, none⟩ : Addr).add j) = some u := fun j u hu => by
    have hj : j < 8 := by
      have := (List.getElem?_eq_some_iff.1 hu).1
      rw [nuL_len] at this
      exact this
    rw [addr_add, Nat.zero_add]
    rw [nuL_get _ _ hj] at hu
    rw [← hu]
    exact ((K2.alloc h2sz _).cell (p := ⟨b, j, none⟩) hbl).trans (HVV.out j hj)
  have HSN := Lib.hid hsn
  have K2' := Lib.hid K2
  have hHO : (w2.alloc (.cells #[] 36)).ownsRow w.heap.size 36 1 (.slice (some ⟨w2.heap.size, 0, none⟩) 0 0) 0 [] := World.ownsRow_made w2 #[] 0 h2sz (by unfold maxLen; omega) rfl
  have HO0 := Lib.hid hHO
  clear hw2 hg2 hw1 K1 r2 d2 hsn K2 hHO hg1
  go_wp2_with (at_builtin; refine wpList_append_own _ rfl _ _ 42 rfl w.heap.size 36 i0 (.int .u32 0) 1 4 Tryd.underlying42 HI.out HZ0.out HZ1.out HZ2.out rfl (by decide) (.slice (some ⟨w2.heap.size, 0, none⟩) 0 0) 0 [] rfl HO0.out ⟨b, 0, none⟩ 8 cp (nuL s.list) rfl rfl ?c1 ?c2 ?c3 ?c4 ?c5 ?c6)
  case c1 => exact HSN.out
  case c2 => intro u hu; unfold nuL at hu; obtain ⟨n, _, rfl⟩ := List.mem_map.1 hu; rfl
  case c3 => unfold maxLen; omega
  case c4 => omega
  case c5 => show w.heap.size ≤ (w2.heap.push _).size; simp; omega
  case c6 =>
    intro v4 w4 hown4 hg4 _
    have K4 : Below w.heap.size w w4 := (K2'.out.alloc h2sz _).grown hg4 (by show w.heap.size ≤ (w2.heap.push _).size; simp; omega) (fun k hk => by
      have : w2.heap.size = k := by simpa [Value.ownBlock] using hk
      omega)
    have hkeep : ∀ g j, g < w2.heap.size → w4.cell? ⟨g, j, none⟩ = w2.cell? ⟨g, j, none⟩ := fun g j hg => by
      have h1 : w4.heap[g]? = (w2.alloc (.cells #[] 36)).heap[g]? := hg4.block g (by show g < (w2.heap.push _).size; simp; omega) (by simp [Value.ownBlock]; omega)
      exact (World.cell?_of_block (a := ⟨g, j, none⟩) (h1.trans (Below.heap_alloc _ _ _ hg)))
    have r4 : ∀ j, j < 64 → w4.cell? ⟨g2, j, none⟩ = some (.int .u32 (K64.getD j 0 : Nat)) := fun j hj => (hkeep g2 j (World.block_lt_of_cell? _ _ (R2.out j hj))).trans (R2.out j hj)
    have d4 : ∀ j, j < 64 → w4.cell? ⟨g1, j, none⟩ = some (.int .u32 (wv l j : Nat)) := fun j hj => (hkeep g1 j (World.block_lt_of_cell? _ _ (D2.out j hj))).trans (D2.out j hj)
    obtain ⟨g4, cap4, C4, hv4, hwg4, hrow4, hC4⟩ := own_row hown4 (by omega) (by rw [nuL_len]; rfl)
    have HR4 : Hid (RndAt w s l g1 g2 0 v4 w4) := ⟨s, g4, cap4, C4, rfl, hv4, hwg4, hrow4, fun j hj => hC4 j _ (nuL_get _ _ hj), d4, r4, K4⟩
    clear hown4 hg4 K4 hkeep r4 d4 HSN HO0 R2 D2 K2' h2sz hv4 hwg4 hrow4 hC4
    go_wp2
    go_loopw [7, 8] (fun v x wr => ∃ (k : Nat), k ≤ 64 ∧ x = .int .i64 k ∧ RndAt w s l g1 g2 k v wr) (fun _ x _ => 64 - (intOf x).toNat)
    case atStart => exact ⟨0, Nat.zero_le _, rfl, HR4.out⟩
    case round =>
      clear HR4
      obtain ⟨k, hk, rfl, r, g, cap, C, hr, rfl, hwg, hrow, hC, hd, hrt, K5⟩ := hrel
      have hcell : ∀ j, j < 8 → wr.cell? ⟨g, j, none⟩ = some (.int .u32 (r.list.getD j 0 : Nat)) := fun j hj => (cell_of_row _ _ _ _ _ _ hrow).trans (hC j hj)
      have hlo : r.lo := by rw [hr]; exact rnds_lo hs l k
      have hnx : rnd r (K64.getD k 0) (wv l k) = rnds s l (k + 1) := by rw [hr]; rfl
      have HROW := Lib.hid hrow
      have HCC := Lib.hid hC
      clear hrow hC
      by_cases hlt : k < 64
      · have c0 := hcell 0 (by omega)
        have c1 := hcell 1 (by omega)
        have c2 := hcell 2 (by omega)
        have c3 := hcell 3 (by omega)
        have c4 := hcell 4 (by omega)
        have c5 := hcell 5 (by omega)
        have c6 := hcell 6 (by omega)
        have c7 := hcell 7 (by omega)
        have ck := hrt k hlt
        have cw := hd k hlt
        have hkk := K64_lo ⟨k, hlt⟩
        have hww := wv_lo l k
        simp only at hkk
        obtain ⟨kk, hkk'⟩ : ∃ kk, kk = K64.getD k 0 := ⟨_, rfl⟩
        obtain ⟨ww, hww'⟩ : ∃ ww, ww = wv l k := ⟨_, rfl⟩
        rw [← hkk'] at hkk ck hnx
        rw [← hww'] at hww cw hnx
        have HD := Lib.hid hd
        have HRT := Lib.hid hrt
        have HK5 := Lib.hid K5
        have HR := Lib.hid hr
        clear hkk' hww' hcell hd hrt K5 hr
        obtain ⟨ra, rb, rc, rd, re, rf, rg, rh⟩ := r
        obtain ⟨la, lb, lc, ld, le, lf, lg, lh⟩ := hlo
        simp only at la lb lc ld le lf lg lh
        simp only [St.list, List.getD_cons_zero, List.getD_cons_succ] at c0 c1 c2 c3 c4 c5 c6 c7
        have l0 := upp0_lo la
        have l1 := upp1_lo le
        have x1 := x32 (rotr_lo 6 le) (rotr_lo 11 le)
        have x2 : bits .xor .u32 ((rotr 6 re ^^^ rotr 11 re : Nat) : Int) ((rotr 25 re : Nat) : Int) = ((upp1 re : Nat) : Int) := x32 (xor_lo (rotr_lo 6 le) (rotr_lo 11 le)) (rotr_lo 25 le)
        have x3 := x32 (rotr_lo 2 la) (rotr_lo 13 la)
        have x4 : bits .xor .u32 ((rotr 2 ra ^^^ rotr 13 ra : Nat) : Int) ((rotr 22 ra : Nat) : Int) = ((upp0 ra : Nat) : Int) := x32 (xor_lo (rotr_lo 2 la) (rotr_lo 13 la)) (rotr_lo 22 la)
        have e1 := a32 le lf
        have e3 := a32 (a := 4294967295 - re) (b := rg) (by omega) lg
        have e4 := x32 (a := re &&& rf) (b := (4294967295 - re) &&& rg) (and_lo le) (and_lo (by omega))
        have e5 := a32 la lb
        have e6 := a32 la lc
        have e7 := x32 (a := ra &&& rb) (b := ra &&& rc) (and_lo la) (and_lo la)
        have e8 := a32 lb lc
        have e9 := x32 (a := (ra &&& rb) ^^^ (ra &&& rc)) (b := rb &&& rc) (xor_lo (and_lo la) (and_lo la)) (and_lo lb)
        have hc1 : cho re rf rg = (re &&& rf) ^^^ ((4294967295 - re) &&& rg) := rfl
        have hm1 : maj ra rb rc = (ra &&& rb) ^^^ (ra &&& rc) ^^^ (rb &&& rc) := rfl
        have lch := cho_lo (f := rf) (g := rg) le
        have lmj := maj_lo (c := rc) la lb
        rw [← hc1] at e4
        rw [← hm1] at e9
        unfold rnd rt1 rt2 at hnx
        simp only at hnx
        clear hc1 hm1
        obtain ⟨r6, hr6⟩ : ∃ u, u = rotr 6 re := ⟨_, rfl⟩
        have T6 := turned_q 6 6 re r6 rfl (by decide) le hr6
        obtain ⟨r11, hr11⟩ : ∃ u, u = rotr 11 re := ⟨_, rfl⟩
        have T11 := turned_q 11 11 re r11 rfl (by decide) le hr11
        obtain ⟨r25, hr25⟩ : ∃ u, u = rotr 25 re := ⟨_, rfl⟩
        have T25 := turned_q 25 25 re r25 rfl (by decide) le hr25
        obtain ⟨r2, hr2⟩ : ∃ u, u = rotr 2 ra := ⟨_, rfl⟩
        have T2 := turned_q 2 2 ra r2 rfl (by decide) la hr2
        obtain ⟨r13, hr13⟩ : ∃ u, u = rotr 13 ra := ⟨_, rfl⟩
        have T13 := turned_q 13 13 ra r13 rfl (by decide) la hr13
        obtain ⟨r22, hr22⟩ : ∃ u, u = rotr 22 ra := ⟨_, rfl⟩
        have T22 := turned_q 22 22 ra r22 rfl (by decide) la hr22
        rw [← hr6] at x1 x2
        rw [← hr11] at x1 x2
        rw [← hr25] at x2
        rw [← hr2] at x3 x4
        rw [← hr13] at x3 x4
        rw [← hr22] at x4
        obtain ⟨xe, hxe⟩ : ∃ u, u = r6 ^^^ r11 := ⟨_, rfl⟩
        obtain ⟨xa, hxa⟩ : ∃ u, u = r2 ^^^ r13 := ⟨_, rfl⟩
        rw [← hxe] at x1 x2
        rw [← hxa] at x3 x4
        obtain ⟨u1, hu1⟩ : ∃ u, u = upp1 re := ⟨_, rfl⟩
        obtain ⟨u0, hu0⟩ : ∃ u, u = upp0 ra := ⟨_, rfl⟩
        rw [← hu1] at x2 l1 hnx
        rw [← hu0] at x4 l0 hnx
        obtain ⟨ch, hch⟩ : ∃ u, u = cho re rf rg := ⟨_, rfl⟩
        obtain ⟨mj, hmj⟩ : ∃ u, u = maj ra rb rc := ⟨_, rfl⟩
        rw [← hch] at e4 hnx lch
        rw [← hmj] at e9 hnx lmj
        obtain ⟨ef, hef⟩ : ∃ u, u = re &&& rf := ⟨_, rfl⟩
        obtain ⟨ne, hne⟩ : ∃ u, u = 4294967295 - re := ⟨_, rfl⟩
        rw [← hef] at e1 e4
        rw [← hne] at e3 e4
        have n1 : IntKind.u32.wrap (4294967295 - (re : Int)) = (ne : Int) := by rw [IntKind.wrap_u32']; omega
        have n2 : 4294967295 - (re : Int) = (ne : Int) := by omega
        have n3 : (ne : Int) % 4294967296 = (ne : Int) := by omega
        have n4 : IntKind.u32.wrap (ne : Int) = (ne : Int) := by rw [IntKind.wrap_u32']; omega
        obtain ⟨ng, hng⟩ : ∃ u, u = ne &&& rg := ⟨_, rfl⟩
        rw [← hng] at e3 e4
        obtain ⟨ab, hab⟩ : ∃ u, u = ra &&& rb := ⟨_, rfl⟩
        obtain ⟨ac, hac⟩ : ∃ u, u = ra &&& rc := ⟨_, rfl⟩
        rw [← hab] at e5 e7 e9
        rw [← hac] at e6 e7 e9
        obtain ⟨xx, hxx⟩ : ∃ u, u = ab ^^^ ac := ⟨_, rfl⟩
        obtain ⟨bc, hbc⟩ : ∃ u, u = rb &&& rc := ⟨_, rfl⟩
        rw [← hxx] at e7 e9
        rw [← hbc] at e8 e9
        clear hr6 hr11 hr25 hr2 hr13 hr22 hxe hxa hu1 hu0 hch hmj hef hne hng hab hac hxx hbc
        obtain ⟨t1, ht1⟩ : ∃ t, t = (rh + u1 + ch + kk + ww) % 4294967296 := ⟨_, rfl⟩
        obtain ⟨t2, ht2⟩ : ∃ t, t = (u0 + mj) % 4294967296 := ⟨_, rfl⟩
        rw [← ht1, ← ht2] at hnx
        have w1' : IntKind.u32.wrap (IntKind.u32.wrap (IntKind.u32.wrap (IntKind.u32.wrap ((rh : Int) + u1) + ch) + kk) + ww) = (t1 : Int) := by
          rw [ht1, IntKind.wrap_u32', IntKind.wrap_u32', IntKind.wrap_u32', IntKind.wrap_u32']; omega
        have w1'' : ((rh : Int) + u1 + ch + kk + ww) % 4294967296 = (t1 : Int) := by omega
        have w2' : ((u0 : Int) + mj) % 4294967296 = (t2 : Int) := by omega
        have w2'' : IntKind.u32.wrap ((u0 : Int) + mj) = (t2 : Int) := by rw [IntKind.wrap_u32']; omega
        have lt1 : t1 ≤ 4294967295 := by omega
        have lt2 : t2 ≤ 4294967295 := by omega
        clear ht1 ht2
        have HN := Lib.hid hnx
        clear hnx
        go_wp2
        go_quiet ((first
          | (with_reducible exact T6 _ _)
          | (with_reducible exact T11 _ _)
          | (with_reducible exact T25 _ _)))
        obtain ⟨W3, hW3⟩ : ∃ W3, W3 = wr.drewN nq := ⟨_, rfl⟩
        have k1 : W3.cell? ⟨g, 1, none⟩ = some (.int .u32 (rb : Nat)) := by rw [hW3]; exact c1
        have k2 : W3.cell? ⟨g, 2, none⟩ = some (.int .u32 (rc : Nat)) := by rw [hW3]; exact c2
        have k3 : W3.cell? ⟨g, 3, none⟩ = some (.int .u32 (rd : Nat)) := by rw [hW3]; exact c3
        have k5 : W3.cell? ⟨g, 5, none⟩ = some (.int .u32 (rf : Nat)) := by rw [hW3]; exact c5
        have k6 : W3.cell? ⟨g, 6, none⟩ = some (.int .u32 (rg : Nat)) := by rw [hW3]; exact c6
        have hW3h : W3.heap = wr.heap := by rw [hW3]; rfl
        have K3 : Below w.heap.size w W3 := by rw [hW3]; exact below_drewN' HK5.out _
        have hd3 : ∀ j, j < 64 → W3.cell? ⟨g1, j, none⟩ = some (.int .u32 (wv l j : Nat)) := fun j hj => by rw [hW3]; exact HD.out j hj
        have hr3 : ∀ j, j < 64 → W3.cell? ⟨g2, j, none⟩ = some (.int .u32 (K64.getD j 0 : Nat)) := fun j hj => by rw [hW3]; exact HRT.out j hj
        rw [← hW3]
        have HK3 := Lib.hid K3
        have HD3 := Lib.hid hd3
        have HR3 := Lib.hid hr3
        clear hW3 c0 c1 c2 c3 c4 c5 c6 c7 hW3h K3 hd3 hr3 HD HRT HK5 ck cw HROW HCC
        go_wp2
        go_quiet ((first
          | (with_reducible exact T2 _ _)
          | (with_reducible exact T13 _ _)
          | (with_reducible exact T22 _ _)))
        obtain ⟨W4, hW4⟩ : ∃ W4, W4 = W3.drewN nq := ⟨_, rfl⟩
        have j1 : W4.cell? ⟨g, 1, none⟩ = some (.int .u32 (rb : Nat)) := by rw [hW4]; exact k1
        have j2 : W4.cell? ⟨g, 2, none⟩ = some (.int .u32 (rc : Nat)) := by rw [hW4]; exact k2
        have j3 : W4.cell? ⟨g, 3, none⟩ = some (.int .u32 (rd : Nat)) := by rw [hW4]; exact k3
        have j5 : W4.cell? ⟨g, 5, none⟩ = some (.int .u32 (rf : Nat)) := by rw [hW4]; exact k5
        have j6 : W4.cell? ⟨g, 6, none⟩ = some (.int .u32 (rg : Nat)) := by rw [hW4]; exact k6
        have K4 : Below w.heap.size w W4 := by rw [hW4]; exact below_drewN' HK3.out _
        have hd4 : ∀ j, j < 64 → W4.cell? ⟨g1, j, none⟩ = some (.int .u32 (wv l j : Nat)) := fun j hj => by rw [hW4]; exact HD3.out j hj
        have hr4 : ∀ j, j < 64 → W4.cell? ⟨g2, j, none⟩ = some (.int .u32 (K64.getD j 0 : Nat)) := fun j hj => by rw [hW4]; exact HR3.out j hj
        rw [← hW4]
        have HK4 := Lib.hid K4
        have HD4 := Lib.hid hd4
        have HR4 := Lib.hid hr4
        clear hW4 k1 k2 k3 k5 k6 K4 hd4 hr4 HK3 HD3 HR3
        have ne1 := World.new_ne W4 _ j1
        go_wp2
        have hgl : g < W4.heap.size := World.block_lt_of_cell? _ _ j1
        have hs3 : ∀ A C D, (((W4.alloc A).alloc C).alloc D).heap[g]? = W4.heap[g]? := fun A C D =>
          (Below.heap_alloc _ D g (by show g < ((W4.heap.push A).push C).size; simp; omega)).trans ((Below.heap_alloc _ C g (by show g < (W4.heap.push A).size; simp; omega)).trans (Below.heap_alloc _ A g hgl))
        have SFN : ∀ A C D, ((((W4.alloc A).alloc C).alloc D).drew.drew).cell? ⟨g, 1, none⟩ = some (.int .u32 (rb : Nat)) ∧ ((((W4.alloc A).alloc C).alloc D).drew.drew).cell? ⟨g, 2, none⟩ = some (.int .u32 (rc : Nat)) ∧ ((((W4.alloc A).alloc C).alloc D).drew.drew).cell? ⟨g, 3, none⟩ = some (.int .u32 (rd : Nat)) ∧ ((((W4.alloc A).alloc C).alloc D).drew.drew).cell? ⟨g, 5, none⟩ = some (.int .u32 (rf : Nat)) ∧ ((((W4.alloc A).alloc C).alloc D).drew.drew).cell? ⟨g, 6, none⟩ = some (.int .u32 (rg : Nat)) := fun A C D => by
          have hc := fun j => World.cell?_of_block (a := ⟨g, j, none⟩) (w' := (((W4.alloc A).alloc C).alloc D).drew.drew) (w := W4) (hs3 A C D)
          exact ⟨(hc 1).trans j1, (hc 2).trans j2, (hc 3).trans j3, (hc 5).trans j5, (hc 6).trans j6⟩
        obtain ⟨na, hna⟩ : ∃ n, n = (t1 + t2) % 4294967296 := ⟨_, rfl⟩
        obtain ⟨nd, hnd⟩ : ∃ n, n = (rd + t1) % 4294967296 := ⟨_, rfl⟩
        have y1 : IntKind.u32.wrap ((t1 : Int) + t2) = (na : Int) := by rw [IntKind.wrap_u32']; omega
        have y2 : ((t1 : Int) + t2) % 4294967296 = (na : Int) := by omega
        have y3 : IntKind.u32.wrap ((rd : Int) + t1) = (nd : Int) := by rw [IntKind.wrap_u32']; omega
        have y4 : ((rd : Int) + t1) % 4294967296 = (nd : Int) := by omega
        have hnn := HN.out
        rw [← hna, ← hnd] at hnn
        have HNN := Lib.hid hnn
        clear hnn
        have HSF := Lib.hid SFN
        clear hna hnd hs3 SFN
        go_region_held3 (fun w' : World => w'.cell? ⟨g, 1, none⟩ = some (.int .u32 (rb : Nat)) ∧ w'.cell? ⟨g, 2, none⟩ = some (.int .u32 (rc : Nat)) ∧ w'.cell? ⟨g, 3, none⟩ = some (.int .u32 (rd : Nat)) ∧ w'.cell? ⟨g, 5, none⟩ = some (.int .u32 (rf : Nat)) ∧ w'.cell? ⟨g, 6, none⟩ = some (.int .u32 (rg : Nat)))
          (first | exact HSF.out _ _ _ | go_keep) (first | fail)
        all_goals
          go_wp2
          go_roundw
          case rel =>
            exact ⟨k + 1, by omega, by go_num, rnd_next HK4.out HD4.out HR4.out _ _ _ _ na ra rb rc nd re rf rg HNN.out⟩
          case measure => simp [intOf]; omega
      · obtain rfl : k = 64 := by omega
        have HROW2 := Lib.hid HROW.out
        have hpl : ∀ j, j < 8 → (r.list.getD j 0 + s.list.getD j 0) % 4294967296 = (proc s l).list.getD j 0 := fun j hj => by
          unfold proc
          rw [← hr]
          have : j = 0 ∨ j = 1 ∨ j = 2 ∨ j = 3 ∨ j = 4 ∨ j = 5 ∨ j = 6 ∨ j = 7 := by omega
          rcases this with rfl | rfl | rfl | rfl | rfl | rfl | rfl | rfl <;> simp [St.plus, St.list, Nat.add_comm]
        have HPL := Lib.hid hpl
        have HK5 := Lib.hid K5
        clear hcell hd hrt K5 hr hlo hnx hpl HROW
        go_wp2
        simp only [show ((64 : Nat) : Int) = 64 from rfl]
        go_loopw [13] (fun x wr => ∃ (i : Nat) (C : Array Value), i ≤ 8 ∧ x = .int .i64 i ∧ wr.heap[g]? = some (.cells C 36 (0, 0)) ∧ (∀ j, j < 8 → C[j]? = some (.int .u32 ((if j < i then (r.list.getD j 0 + s.list.getD j 0) % 4294967296 else r.list.getD j 0 : Nat) : Int))) ∧ Below w.heap.size w wr) (fun x _ => 8 - (intOf x).toNat)
        case atStart => exact ⟨0, C, Nat.zero_le _, rfl, HROW2.out, fun j hj => by rw [if_neg (by omega)]; exact HCC.out j hj, HK5.out⟩
        case round =>
          clear HROW2 HCC HK5
          obtain ⟨i, E, hi, rfl, hrow, hE, K6⟩ := hrel
          have HE := Lib.hid hE
          clear hE
          by_cases hlt : i < 8
          · have k1 := HE.out i hlt
            rw [if_neg (by omega)] at k1
            have c1 : wr.drew.cell? ⟨g, i, none⟩ = some (.int .u32 (r.list.getD i 0 : Nat)) := (cell_of_row wr.drew _ _ _ _ _ hrow).trans k1
            have c2 : wr.drew.cell? ⟨b, i, none⟩ = some (.int .u32 (s.list.getD i 0 : Nat)) := ((K6.cell (p := ⟨b, i, none⟩) hbl).trans (HVV.out i hlt))
            have f1 : wr.drew.frozen? ⟨g, i, none⟩ = false := frozen_of_row wr.drew _ _ _ _ hrow
            obtain ⟨rv, hrv⟩ : ∃ v, v = r.list.getD i 0 := ⟨_, rfl⟩
            obtain ⟨sv, hsv⟩ : ∃ v, v = s.list.getD i 0 := ⟨_, rfl⟩
            rw [← hrv] at c1
            rw [← hsv] at c2
            obtain ⟨y, hy⟩ : ∃ y, y = (rv + sv) % 4294967296 := ⟨_, rfl⟩
            have y1 : ((rv : Int) + sv) % 4294967296 = (y : Int) := by omega
            have y2 : IntKind.u32.wrap ((rv : Int) + sv) = (y : Int) := by rw [IntKind.wrap_u32']; omega
            have i1 : (i : Int) < 8 := by omega
            have i0' : (0 : Int) ≤ (i : Int) := by omega
            have HRV := Lib.hid hrv
            have HSV := Lib.hid hsv
            have HY := Lib.hid hy
            have HROW := Lib.hid hrow
            have HK6 := Lib.hid K6
            clear k1 hrv hsv hy hrow K6
            go_wp2
            refine wp_region_still_tail 12 (by kernel_rfl) (by kernel_rfl) ?_
            simp only [List.take_succ_cons, List.take_zero, List.drop_succ_cons, List.drop_zero]
            change wpStill _ _ wr.drew (fun a' => wpList _ _ _ _ a' wr.drew) _ _
            obtain ⟨W2, hW2⟩ : ∃ W2, W2 = wr.drew := ⟨_, rfl⟩
            rw [← hW2] at c1 c2 f1
            rw [← hW2]
            have HW2 := Lib.hid hW2
            clear hW2
            repeat still_step
            refine wpStill_nil ?_
            go_wp2
            go_roundw
            case rel =>
              have hw2 := HW2.out
              subst hw2
              refine ⟨i + 1, E.setIfInBounds i (.int .u32 (y : Nat)), by omega, by go_num, heap_setCell_same wr.drew _ _ _ _ _ HROW.out, ?_, HK6.out.drew.setCell (by show w.heap.size ≤ g; omega) _⟩
              intro j hj
              rw [Array.getElem?_setIfInBounds]
              by_cases e : i = j
              · subst e
                have hEs : i < E.size := (Array.getElem?_eq_some_iff.1 (HE.out i hj)).1
                rw [if_pos rfl, if_pos hEs, if_pos (by omega), HY.out, HRV.out, HSV.out]
              · rw [if_neg e, HE.out j hj]
                by_cases h2 : j < i
                · rw [if_pos h2, if_pos (by omega)]
                · rw [if_neg h2, if_neg (by omega)]
            case measure => simp [intOf]; omega
          · obtain rfl : i = 8 := by omega
            have hfin : ∀ j, j < 8 → wr.cell? ⟨g, j, none⟩ = some (.int .u32 ((proc s l).list.getD j 0 : Nat)) := fun j hj => by
              rw [cell_of_row _ _ _ _ _ _ hrow, HE.out j hj, if_pos hj, HPL.out j hj]
            clear HE hrow
            go_wp2
            go_ret
            exact ⟨g, cap, rfl, hwg, hfin, K6⟩

end Go.Proofs.YtepcnedagmfpeaaDoor
