/- The walks of the document's Start, roots, words. -/
import Derived.Test.YtepcnedagmfpeaaDoorExp
import Derived.Laws.AppendOwn
import Derived.Deep.WholeRow
import Derived.BigRegion
import Derived.RegionTactic
import Derived.Deep.QuietTactic
import Derived.BigQuiet
import Derived.OrdersHeld
import Derived.Deep.RegionHeld
import Derived.Outline
namespace Go.Proofs.YtepcnedagmfpeaaDoor
open Go.RowKit

set_option maxRecDepth 100000 in
theorem rstart_any (w : World) :
    Calls Tryd.prog 18 #[] w fun e w' => e = .returned (.slice (some ⟨w.heap.size, 0, none⟩) 8 8) ∧ w' = w.alloc (.cells (nuA stH.list) 36) := by
  go_enter Tryd.func18, Tryd.ntmps18
  go_wp2
  go_ret
  exact ⟨rfl, rfl⟩

set_option maxRecDepth 100000 in
theorem roots_any (w : World) :
    Calls Tryd.prog 28 #[] w fun e w' => e = .returned (.slice (some ⟨w.heap.size, 0, none⟩) 64 64) ∧ w' = w.alloc (.cells (nuA K64) 36) := by
  go_enter Tryd.func28, Tryd.ntmps28
  go_wp2
  go_ret
  exact ⟨rfl, rfl⟩

theorem info36 : (Tryd.prog.info? 36).map (fun i => (i.zero, i.size, i.bytes)) = some (some (.int .u32 0), 1, 4) := by kernel_rfl

/-- The cells of some words. -/
def nuL (l : List Nat) : List Value := l.map fun n : Nat => Value.int .u32 (n : Int)
theorem nuL_len (l : List Nat) : (nuL l).length = l.length := by simp [nuL]
theorem nuL_get (l : List Nat) (j : Nat) (h : j < l.length) : (nuL l)[j]? = some (.int .u32 (l.getD j 0 : Nat)) := by
  simp [nuL, List.getD, h]

theorem own_cells {w : World} {base : Nat} {e : TypeId} {v : Value} {n : Nat} {xs : List Value} (h : w.ownsRow base e 1 v n xs) (hn : 0 < n) (hl : xs.length = n) :
    ∃ g cap, v = .slice (some ⟨g, 0, none⟩) n cap ∧ base ≤ g ∧ ∀ j u, xs[j]? = some u → w.cell? ⟨g, j, none⟩ = some u := by
  rcases h with ⟨_, ⟨rfl, h0⟩ | ⟨g', cap', cur, rfl, hbg, hrow, hn', hcap, hcs, htake⟩⟩
  · omega
  · refine ⟨g', cap', rfl, hbg, fun j u hu => ?_⟩
    rw [cell_of_row _ _ _ _ _ _ hrow]
    have hj : j < n := by
      have := (List.getElem?_eq_some_iff.1 hu).1
      omega
    have := congrArg (fun l => l[j]?) htake
    simp only [Nat.mul_one] at this
    rw [← hu, ← this, List.getElem?_take, if_pos hj, Array.getElem?_toList]

/-- What the words are in the end. -/
def WordsPost (w : World) (l : List UInt8) (e : Ending) (w' : World) : Prop :=
  ∃ g cap, e = .returned (.slice (some ⟨g, 0, none⟩) 64 cap) ∧ w.heap.size ≤ g ∧ (∀ j, j < 64 → w'.cell? ⟨g, j, none⟩ = some (.int .u32 (wv l j : Nat))) ∧ Below w.heap.size w w'

/-- What the loops hold: the words so far in a row of the call's own. -/
def WordsAt (w : World) (l : List UInt8) (t : Nat) (v : Value) (wr : World) : Prop := wr.ownsRow w.heap.size 36 1 v t (nuL (wordsTo l t)) ∧ Below w.heap.size w wr

set_option maxRecDepth 100000 in
set_option maxHeartbeats 16000000 in
theorem words_any (s : ByteArray) (hs : s.size = 64) (w : World) :
    Calls Tryd.prog 27 #[.string s] w (WordsPost w s.data.toList) := by
  obtain ⟨i0, hi, hz0, hz1, hz2⟩ : ∃ i : TypeInfo, Tryd.prog.info? 36 = some i ∧ i.zero = some (.int .u32 0) ∧ i.size = 1 ∧ i.bytes = 4 := by
    have h := info36
    cases hq : Tryd.prog.info? 36 with
    | none => rw [hq] at h; cases h
    | some i =>
      rw [hq] at h
      simp only [Option.map_some, Option.some.injEq, Prod.mk.injEq] at h
      exact ⟨i, rfl, h.1, h.2.1, h.2.2⟩
  have HI := Lib.hid hi
  have HZ0 := Lib.hid hz0
  have HZ1 := Lib.hid hz1
  have HZ2 := Lib.hid hz2
  have hl : s.data.toList.length = 64 := by rw [data_len]; exact hs
  have HL := Lib.hid hl
  have hlt64 : (64 : Int) ≤ s.size := by omega
  have HS64 := Lib.hid hs
  clear hi hz0 hz1 hz2 hl hs
  obtain ⟨l, hll⟩ : ∃ l, l = s.data.toList := ⟨_, rfl⟩
  rw [← hll] at HL ⊢
  have HLL := Lib.hid hll
  clear hll
  go_enter Tryd.func27, Tryd.ntmps27
  go_wp2
  go_loopw [3, 4] (fun v x wr => ∃ (i : Nat), i ≤ 16 ∧ x = .int .i64 i ∧ WordsAt w l i v wr) (fun _ x _ => 16 - (intOf x).toNat)
  case atStart => exact ⟨0, Nat.zero_le _, rfl, World.ownsRow_nil _ _ _ _, Below.refl _ _⟩
  case round =>
    obtain ⟨i, hi, rfl, hown, hb⟩ := hrel
    have HO := Lib.hid hown
    have HB := Lib.hid hb
    clear hown hb
    by_cases hlt : i < 16
    · have b1 : decide ((i : Int) < 16) = true := by simp; omega
      go_wp2
      go_loop [5, 6] (fun y x => ∃ (k : Nat), k ≤ 4 ∧ x = .int .i64 k ∧ y = .int .u32 (pw l (4 * i + k) i : Nat)) (fun _ x => 4 - (intOf x).toNat)
      case atStart => exact ⟨0, Nat.zero_le _, rfl, by rw [pw_zero l (4 * i + 0) i (by omega)]; rfl⟩
      case round =>
        obtain ⟨k, hk, rfl, rfl⟩ := hrel
        by_cases hlk : k < 4
        · have hst := pw_step l (4 * i + k) i (by rw [HL.out]; omega) (by omega) (by omega)
          have e1 : ((4 : Int) * i + k).toNat = 4 * i + k := by omega
          have hix : 4 * i + k < s.size := by rw [HS64.out]; omega
          have hix' : (4 : Int) * i + k < s.size := by rw [HS64.out]; omega
          have hcc : s[4 * i + k].toNat = (l.getD (4 * i + k) 0).toNat := by
            rw [HLL.out]
            simp [List.getD, hix]
            rfl
          obtain ⟨a, ha⟩ : ∃ a, a = pw l (4 * i + k) i := ⟨_, rfl⟩
          obtain ⟨c, hc⟩ : ∃ c, c = (l.getD (4 * i + k) 0).toNat := ⟨_, rfl⟩
          have hcl : c < 256 := by rw [hc]; exact UInt8.toNat_lt _
          rw [← ha, ← hc] at hst
          rw [← hc] at hcc
          rw [← ha]
          have hal := hst.2
          have HST := Lib.hid hst.1
          clear hst ha hc
          go_wp2
          go_round
          case rel =>
            refine ⟨k + 1, by omega, by go_num, ?_⟩
            rw [show 4 * i + (k + 1) = 4 * i + k + 1 by omega, HST.out]
            exact congrArg (Value.int .u32) (by omega)
          case measure => simp [intOf]; omega
        · obtain rfl : k = 4 := by omega
          have hw4 : pw l (4 * i + 4) i = wv l i := by
            have := pw_stay l i (4 * i + 4) (by omega) (l.length - (4 * i + 4)) (by rw [HL.out]; omega)
            rw [show 4 * i + 4 + (l.length - (4 * i + 4)) = l.length by rw [HL.out]; omega] at this
            rw [← this, pw_word l i (by rw [HL.out]; omega), wv_lo16 l i hlt]
          rw [hw4]
          obtain ⟨y, hy⟩ : ∃ y, y = wv l i := ⟨_, rfl⟩
          rw [← hy]
          have hsn : nuL (wordsTo l (i + 1)) = nuL (wordsTo l i) ++ [.int .u32 (y : Nat)] := by
            rw [hy]
            show nuL (wordsTo l i ++ _) = _
            unfold nuL
            rw [List.map_append]
            congr 1
            have := wordsTo_get l (i + 1) i (by omega)
            unfold wv
            simp only [wordsTo, List.map_cons, List.map_nil, List.getD_eq_getElem?_getD]
            rw [List.getElem?_append_right (by rw [wordsTo_len]; omega), wordsTo_len]
            simp
          have HSN := Lib.hid hsn
          clear hw4 hy hsn
          have hszw : w.heap.size ≤ wr.heap.size := HB.out.size
          go_wp2_with (at_builtin; refine wpList_append_own _ rfl _ _ 42 rfl w.heap.size 36 i0 (.int .u32 0) 1 4 Tryd.underlying42 HI.out HZ0.out HZ1.out HZ2.out rfl (by decide) _ _ _ rfl (HO.out.alloc _) ⟨wr.heap.size, 0, none⟩ 1 1 [.int .u32 (y : Nat)] rfl rfl ?c1 ?c2 ?c3 ?c4 ?c5 ?_)
          case c2 => first | rfl | (intro u hu; simp only [List.mem_singleton] at hu; subst hu; rfl)
          case c3 => unfold maxLen; omega
          case c4 => omega
          case c5 => first | omega | (simp; omega)
          intro v' w4 hown4 hg4 _
          have h6 : Below w.heap.size w w4 := (HB.out.alloc hszw _).grown hg4 (by simp; omega) (fun k hk => (HO.out.lt k hk).1)
          clear HO
          go_wp2
          go_roundw
          case rel => exact ⟨i + 1, by omega, by go_num, by rw [HSN.out]; exact hown4, h6⟩
          case measure => simp [intOf]; omega
    · obtain rfl : i = 16 := by omega
      go_wp2
      simp only [show ((16 : Nat) : Int) = 16 from rfl]
      go_loopw [3, 7] (fun v x wr => ∃ (t : Nat), 16 ≤ t ∧ t ≤ 64 ∧ x = .int .i64 t ∧ WordsAt w l t v wr) (fun _ x _ => 64 - (intOf x).toNat)
      case atStart => exact ⟨16, Nat.le_refl _, by omega, rfl, HO.out, HB.out⟩
      case round =>
        clear HO HB
        obtain ⟨t, ht16, ht, rfl, hown, hb⟩ := hrel
        have hnl : (nuL (wordsTo l t)).length = t := by rw [nuL_len, wordsTo_len]
        obtain ⟨g, cap, rfl, hwg, hcell⟩ := own_cells hown (by omega) hnl
        have HO := Lib.hid hown
        have HB := Lib.hid hb
        have hrd : ∀ j, j < t → wr.cell? ⟨g, j, none⟩ = some (.int .u32 (wv l j : Nat)) := fun j hj => hcell j _ (by
          rw [nuL_get _ _ (by rw [wordsTo_len]; exact hj), wordsTo_get l t j hj])
        have HRD := Lib.hid hrd
        clear hown hb hcell hnl hrd
        by_cases hlt : t < 64
        · have hn := wv_hi16 l t ht16
          have m2 := HRD.out (t - 2) (by omega)
          have m7 : wr.drew.cell? ⟨g, t - 7, none⟩ = some (.int .u32 (wv l (t - 7) : Nat)) := HRD.out (t - 7) (by omega)
          have m15 := HRD.out (t - 15) (by omega)
          have m16 : wr.drew.cell? ⟨g, t - 16, none⟩ = some (.int .u32 (wv l (t - 16) : Nat)) := HRD.out (t - 16) (by omega)
          have b2 := wv_lo l (t - 2)
          have b7 := wv_lo l (t - 7)
          have b15 := wv_lo l (t - 15)
          have b16 := wv_lo l (t - 16)
          obtain ⟨p2, hp2⟩ : ∃ p, p = t - 2 := ⟨_, rfl⟩
          obtain ⟨p7, hp7⟩ : ∃ p, p = t - 7 := ⟨_, rfl⟩
          obtain ⟨p15, hp15⟩ : ∃ p, p = t - 15 := ⟨_, rfl⟩
          obtain ⟨p16, hp16⟩ : ∃ p, p = t - 16 := ⟨_, rfl⟩
          rw [← hp2] at hn m2 b2
          rw [← hp7] at hn m7 b7
          rw [← hp15] at hn m15 b15
          rw [← hp16] at hn m16 b16
          obtain ⟨v2, hv2⟩ : ∃ v, v = wv l p2 := ⟨_, rfl⟩
          obtain ⟨v7, hv7⟩ : ∃ v, v = wv l p7 := ⟨_, rfl⟩
          obtain ⟨v15, hv15⟩ : ∃ v, v = wv l p15 := ⟨_, rfl⟩
          obtain ⟨v16, hv16⟩ : ∃ v, v = wv l p16 := ⟨_, rfl⟩
          rw [← hv2] at hn m2 b2
          rw [← hv7] at hn m7 b7
          rw [← hv15] at hn m15 b15
          rw [← hv16] at hn m16 b16
          have T7 := turned_at 7 7 v15 rfl (by decide) b15
          have T18 := turned_at 18 18 v15 rfl (by decide) b15
          have T17 := turned_at 17 17 v2 rfl (by decide) b2
          have T19 := turned_at 19 19 v2 rfl (by decide) b2
          have e1 := x32 (rotr_lo 7 b15) (rotr_lo 18 b15)
          have e2 : bits .xor .u32 ((rotr 7 v15 ^^^ rotr 18 v15 : Nat) : Int) ((v15 : Int) / 8) = ((low0 v15 : Nat) : Int) := x32 (b := v15 / 8) (xor_lo (rotr_lo 7 b15) (rotr_lo 18 b15)) (by omega)
          have e3 := x32 (rotr_lo 17 b2) (rotr_lo 19 b2)
          have e4 : bits .xor .u32 ((rotr 17 v2 ^^^ rotr 19 v2 : Nat) : Int) ((v2 : Int) / 1024) = ((low1 v2 : Nat) : Int) := x32 (b := v2 / 1024) (xor_lo (rotr_lo 17 b2) (rotr_lo 19 b2)) (by omega)
          have g1 := low1_lo b2
          have g0 := low0_lo b15
          obtain ⟨r7, hr7⟩ : ∃ v, v = rotr 7 v15 := ⟨_, rfl⟩
          obtain ⟨r18, hr18⟩ : ∃ v, v = rotr 18 v15 := ⟨_, rfl⟩
          obtain ⟨r17, hr17⟩ : ∃ v, v = rotr 17 v2 := ⟨_, rfl⟩
          obtain ⟨r19, hr19⟩ : ∃ v, v = rotr 19 v2 := ⟨_, rfl⟩
          rw [← hr7] at T7 e1 e2
          rw [← hr18] at T18 e1 e2
          rw [← hr17] at T17 e3 e4
          rw [← hr19] at T19 e3 e4
          obtain ⟨xa, hxa⟩ : ∃ v, v = r7 ^^^ r18 := ⟨_, rfl⟩
          obtain ⟨xb, hxb⟩ : ∃ v, v = r17 ^^^ r19 := ⟨_, rfl⟩
          rw [← hxa] at e1 e2
          rw [← hxb] at e3 e4
          obtain ⟨x1, hx1⟩ : ∃ v, v = low1 v2 := ⟨_, rfl⟩
          obtain ⟨x0, hx0⟩ : ∃ v, v = low0 v15 := ⟨_, rfl⟩
          rw [← hx1] at hn e4 g1
          rw [← hx0] at hn e2 g0
          have HN := Lib.hid hn
          have q2 : (t : Int) - 2 = (p2 : Int) := by omega
          have q15 : (t : Int) - 15 = (p15 : Int) := by omega
          have i2 : (p2 : Int) < t := by omega
          have n2 : (0 : Int) ≤ (p2 : Int) := by omega
          have i7 : (p7 : Int) < t := by omega
          have n7 : (0 : Int) ≤ (p7 : Int) := by omega
          have i15 : (p15 : Int) < t := by omega
          have n15 : (0 : Int) ≤ (p15 : Int) := by omega
          have i16 : (p16 : Int) < t := by omega
          have n16 : (0 : Int) ≤ (p16 : Int) := by omega
          have w7 : IntKind.i64.wrap ((t : Int) - 7) = (p7 : Int) := by rw [show (t : Int) - 7 = (p7 : Int) by omega]; exact IntWalk.i64_in _ (by omega)
          have w16 : IntKind.i64.wrap ((t : Int) - 16) = (p16 : Int) := by rw [show (t : Int) - 16 = (p16 : Int) by omega]; exact IntWalk.i64_in _ (by omega)
          have hszw : w.heap.size ≤ wr.heap.size := HB.out.size
          have hsum : IntKind.u32.wrap (IntKind.u32.wrap (IntKind.u32.wrap ((x1 : Int) + v7) + x0) + v16) = ((wv l t : Nat) : Int) := by
            rw [hn, IntKind.wrap_u32', IntKind.wrap_u32', IntKind.wrap_u32']
            omega
          obtain ⟨y, hy⟩ : ∃ y : Int, y = IntKind.u32.wrap (IntKind.u32.wrap (IntKind.u32.wrap ((x1 : Int) + v7) + x0) + v16) := ⟨_, rfl⟩
          have hsn : nuL (wordsTo l (t + 1)) = nuL (wordsTo l t) ++ [.int .u32 y] := by
            rw [hy, hsum]
            show nuL (wordsTo l t ++ _) = _
            unfold nuL
            rw [List.map_append]
            congr 1
            unfold wv
            simp only [wordsTo, List.map_cons, List.map_nil, List.getD_eq_getElem?_getD]
            rw [List.getElem?_append_right (by rw [wordsTo_len]; omega), wordsTo_len]
            simp
          have HSN := Lib.hid hsn
          have hyy := hy.symm
          have HOD : Hid (wr.drew.ownsRow w.heap.size 36 1 (.slice (some ⟨g, 0, none⟩) t cap) t (nuL (wordsTo l t))) := HO.out
          clear hsum hsn hy
          clear hn hp2 hp7 hp15 hp16 hv2 hv7 hv15 hv16 hr7 hr18 hr17 hr19 hxa hxb hx1 hx0
          go_wp2_with (first
            | ((with_reducible refine (T7 _).mono ?_); rintro e w' ⟨rfl, rfl⟩)
            | ((with_reducible refine (T18 _).mono ?_); rintro e w' ⟨rfl, rfl⟩)
            | ((with_reducible refine (T17 _).mono ?_); rintro e w' ⟨rfl, rfl⟩)
            | ((with_reducible refine (T19 _).mono ?_); rintro e w' ⟨rfl, rfl⟩))
          refine wp_region_any (by kernel_rfl) ?_
          try (change wpAny _ _ _ _ _ _ _ (World.drew _))
          refine wpAny_take (i := 0) (v := ?_) rfl (by kernel_rfl) (by kernel_rfl) (by kernel_rfl) (fun _ _ _ h => h) (Or.inl ⟨by rfl, ?_⟩) ?_
          case refine_2 => intro w; go_simp; try with_reducible rfl
          refine wpAny_take (i := 1) (v := ?_) rfl (by kernel_rfl) (by kernel_rfl) (by kernel_rfl) (fun _ _ _ h => h) (Or.inl ⟨by rfl, ?_⟩) ?_
          case refine_2 => intro w; go_simp; try with_reducible rfl
          refine wpAny_take (i := 2) (v := ?_) rfl (by kernel_rfl) (by kernel_rfl) (by kernel_rfl) (fun _ _ _ h => h) (Or.inl ⟨by rfl, ?_⟩) ?_
          case refine_2 => intro w; go_simp; try with_reducible rfl
          refine wpAny_take (i := 3) (v := ?_) rfl (by kernel_rfl) (by kernel_rfl) (by kernel_rfl) (fun _ _ _ h => h) (Or.inl ⟨by rfl, ?_⟩) ?_
          case refine_2 => intro w; go_simp; try with_reducible rfl
          refine wpAny_take (i := 4) (v := ?_) rfl (by kernel_rfl) (by kernel_rfl) (by kernel_rfl) (fun _ _ _ h => h) (Or.inl ⟨by rfl, ?_⟩) ?_
          case refine_2 => intro w; go_simp; try with_reducible rfl
          refine wpAny_take (i := 5) (v := ?_) rfl (by kernel_rfl) (by kernel_rfl) (by kernel_rfl) (fun _ _ _ h => h) (Or.inl ⟨by rfl, ?_⟩) ?_
          case refine_2 => intro w; go_simp; try with_reducible rfl
          refine wpAny_take (i := 8) (v := ?_) rfl (by kernel_rfl) (by kernel_rfl) (by kernel_rfl) (fun _ _ _ h => h) (Or.inl ⟨by rfl, ?_⟩) ?_
          case refine_2 => intro w; go_simp; try with_reducible rfl
          refine wpAny_take (i := 10) (v := ?_) rfl (by kernel_rfl) (by kernel_rfl) (by kernel_rfl) (fun _ _ _ h => h) (Or.inl ⟨by rfl, ?_⟩) ?_
          case refine_2 => intro w; go_simp; try with_reducible rfl
          refine wpAny_take (i := 11) (v := ?_) rfl (by kernel_rfl) (by kernel_rfl) (by kernel_rfl) (fun _ _ _ h => h) (Or.inl ⟨by rfl, ?_⟩) ?_
          case refine_2 => intro w; go_simp; try with_reducible rfl
          refine wpAny_take (i := 12) (v := ?_) rfl (by kernel_rfl) (by kernel_rfl) (by kernel_rfl) (fun _ _ _ h => h) (Or.inl ⟨by rfl, ?_⟩) ?_
          case refine_2 => intro w; go_simp; try with_reducible rfl
          refine wpAny_take (i := 13) (v := ?_) rfl (by kernel_rfl) (by kernel_rfl) (by kernel_rfl) (fun _ _ _ h => h) (Or.inl ⟨by rfl, ?_⟩) ?_
          case refine_2 => intro w; go_simp; try with_reducible rfl
          refine wpAny_ready (rs := [6, 14]) (by kernel_rfl) (by simp) (AllReady.cons rfl (fun K hK => ?_) (AllReady.cons rfl (fun K hK => ?_) AllReady.nil))
          · go_simp
            refine hK _ _ ?_
            clear hK K
            refine wpAny_take (i := 7) (v := ?_) rfl (by kernel_rfl) (by kernel_rfl) (by kernel_rfl) (fun _ _ _ h => h) (Or.inl ⟨by rfl, ?_⟩) ?_
            case refine_2 => intro w; go_simp; try with_reducible rfl
            refine wpAny_take (i := 9) (v := ?_) rfl (by kernel_rfl) (by kernel_rfl) (by kernel_rfl) (fun _ _ _ h => h) (Or.inl ⟨by rfl, ?_⟩) ?_
            case refine_2 => intro w; go_simp; try with_reducible rfl
            refine wpAny_ready (rs := [14]) (by kernel_rfl) (by simp) (AllReady.cons rfl (fun K hK => ?_) AllReady.nil)
            go_simp
            refine hK _ _ ?_
            clear hK K
            refine wpAny_take (i := 15) (v := ?_) rfl (by kernel_rfl) (by kernel_rfl) (by kernel_rfl) (fun _ _ _ h => h) (Or.inl ⟨by rfl, ?_⟩) ?_
            case refine_2 => intro w; go_simp; try with_reducible rfl
            refine wpAny_ready (rs := [16]) (by kernel_rfl) (by simp) (AllReady.cons rfl (fun K hK => ?_) AllReady.nil)
            go_simp
            refine hK _ _ ?_
            clear hK K
            refine wpAny_ready (rs := [17]) (by kernel_rfl) (by simp) (AllReady.cons rfl (fun K hK => ?_) AllReady.nil)
            rw [if_pos (by rfl)]
            refine wp_append_own _ (.tmp 64) (.tmp 80) 42 rfl w.heap.size 36 i0 (.int .u32 0) 1 4 Tryd.underlying42 HI.out HZ0.out HZ1.out HZ2.out rfl (by decide) (.slice (some ⟨g, 0, none⟩) t cap) t (nuL (wordsTo l t)) rfl (HOD.out.alloc _) ⟨wr.drew.heap.size, 0, none⟩ 1 1 [.int .u32 y] rfl rfl ?d1 ?d2 ?d3 ?d4 ?d5 ?d6
            case d1 => exact cell_one_new _ _ _
            case d2 => intro u hu; simp only [List.mem_singleton] at hu; subst hu; rfl
            case d3 => unfold maxLen; omega
            case d4 => omega
            case d5 => show w.heap.size ≤ (wr.heap.push _).size; simp; omega
            intro v' w4 hown4 hg4 _
            have h6 : Below w.heap.size w w4 := ((HB.out.drew).alloc hszw _).grown hg4 (by show w.heap.size ≤ (wr.heap.push _).size; simp; omega) (fun k hk => (HO.out.lt k hk).1)
            refine hK _ _ ?_
            clear hK K
            refine wpAny_ready (rs := [18]) (by kernel_rfl) (by simp) (AllReady.cons rfl (fun K hK => ?_) AllReady.nil)
            go_simp
            refine hK _ _ ?_
            clear hK K
            refine wpAny_done (by kernel_rfl) ?_ _
            go_wp2
            go_roundw
            case rel => exact ⟨t + 1, by omega, by omega, by go_num, by rw [HSN.out]; exact hown4, h6⟩
            case measure => simp [intOf]; omega
          · go_simp
            refine hK _ _ ?_
            clear hK K
            refine wpAny_ready (rs := [6]) (by kernel_rfl) (by simp) (AllReady.cons rfl (fun K hK => ?_) AllReady.nil)
            go_simp
            refine hK _ _ ?_
            clear hK K
            refine wpAny_take (i := 7) (v := ?_) rfl (by kernel_rfl) (by kernel_rfl) (by kernel_rfl) (fun _ _ _ h => h) (Or.inl ⟨by rfl, ?_⟩) ?_
            case refine_2 => intro w; go_simp; try with_reducible rfl
            refine wpAny_take (i := 9) (v := ?_) rfl (by kernel_rfl) (by kernel_rfl) (by kernel_rfl) (fun _ _ _ h => h) (Or.inl ⟨by rfl, ?_⟩) ?_
            case refine_2 => intro w; go_simp; try with_reducible rfl
            refine wpAny_take (i := 15) (v := ?_) rfl (by kernel_rfl) (by kernel_rfl) (by kernel_rfl) (fun _ _ _ h => h) (Or.inl ⟨by rfl, ?_⟩) ?_
            case refine_2 => intro w; go_simp; try with_reducible rfl
            refine wpAny_ready (rs := [16]) (by kernel_rfl) (by simp) (AllReady.cons rfl (fun K hK => ?_) AllReady.nil)
            go_simp
            refine hK _ _ ?_
            clear hK K
            refine wpAny_ready (rs := [17]) (by kernel_rfl) (by simp) (AllReady.cons rfl (fun K hK => ?_) AllReady.nil)
            rw [if_pos (by rfl)]
            refine wp_append_own _ (.tmp 64) (.tmp 80) 42 rfl w.heap.size 36 i0 (.int .u32 0) 1 4 Tryd.underlying42 HI.out HZ0.out HZ1.out HZ2.out rfl (by decide) (.slice (some ⟨g, 0, none⟩) t cap) t (nuL (wordsTo l t)) rfl (HOD.out.alloc _) ⟨wr.drew.heap.size, 0, none⟩ 1 1 [.int .u32 y] rfl rfl ?f1 ?f2 ?f3 ?f4 ?f5 ?f6
            case f1 => exact cell_one_new _ _ _
            case f2 => intro u hu; simp only [List.mem_singleton] at hu; subst hu; rfl
            case f3 => unfold maxLen; omega
            case f4 => omega
            case f5 => show w.heap.size ≤ (wr.heap.push _).size; simp; omega
            intro v' w4 hown4 hg4 _
            have h6 : Below w.heap.size w w4 := ((HB.out.drew).alloc hszw _).grown hg4 (by show w.heap.size ≤ (wr.heap.push _).size; simp; omega) (fun k hk => (HO.out.lt k hk).1)
            refine hK _ _ ?_
            clear hK K
            refine wpAny_ready (rs := [18]) (by kernel_rfl) (by simp) (AllReady.cons rfl (fun K hK => ?_) AllReady.nil)
            go_simp
            refine hK _ _ ?_
            clear hK K
            refine wpAny_done (by kernel_rfl) ?_ _
            go_wp2
            go_roundw
            case rel => exact ⟨t + 1, by omega, by omega, by go_num, by rw [HSN.out]; exact hown4, h6⟩
            case measure => simp [intOf]; omega
        · obtain rfl : t = 64 := by omega
          have hrd := HRD.out
          clear HRD HO
          go_wp2
          go_ret
          exact ⟨g, cap, rfl, hwg, hrd, HB.out⟩

end Go.Proofs.YtepcnedagmfpeaaDoor
