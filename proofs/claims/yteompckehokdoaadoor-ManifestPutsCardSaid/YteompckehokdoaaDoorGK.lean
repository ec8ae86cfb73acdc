/- What the document's reader reads of a manifest's bytes. The document's Get. -/
import Derived.Test.YteompckehokdoaaDoorGJ
import Derived.Test.YteompckehokdoaaDoorGD
namespace Go.Proofs.YteompckehokdoaaDoor
open Go.RowKit

theorem takeR_fits {L : List UInt8} {k : Nat} (h : k ≤ L.length) : takeR (L, 0) k = (L.take k, (L.drop k, 0)) := by
  unfold takeR
  rw [if_neg (by simp), if_neg (by omega), if_neg (by simp; omega)]
  simp
theorem numR_fits {L : List UInt8} {k : Nat} (h : k ≤ L.length) : numR (L, 0) k = (ofLE (L.take k), (L.drop k, 0)) := by
  unfold numR
  rw [takeR_fits h]
theorem takeR_zero {s : RdSt} {k : Nat} (h : (takeR s k).2.2 = 0) : s.2 = 0 ∧ k ≤ s.1.length := by
  have e0 : takeR s k = ((takeR s k).1, ((takeR s k).2.1, 0)) := Prod.ext rfl (Prod.ext rfl h)
  obtain ⟨a, -, c, d⟩ := takeR_ok e0
  refine ⟨a, ?_⟩
  rw [c, List.length_append, d]
  omega
theorem numR_zero {s : RdSt} {k : Nat} (h : (numR s k).2.2 = 0) : s.2 = 0 ∧ k ≤ s.1.length := takeR_zero h
/-- The reader behind the ID, behind the number of entries. -/
def idRM (S : List UInt8) : Nat × RdSt := numR (takeR (S, 0) 4).2 4
def cnRM (S : List UInt8) : Nat × RdSt := numR (idRM S).2 2
theorem cnRM_fits {S : List UInt8} (h : 10 ≤ S.length) : idRM S = (idM S, (S.drop 8, 0)) ∧ cnRM S = (cntM S, (S.drop 10, 0)) := by
  have e1 : idRM S = (idM S, (S.drop 8, 0)) := by
    have h1 : takeR (S, 0) 4 = (S.take 4, (S.drop 4, 0)) := takeR_fits (k := 4) (by omega)
    unfold idRM
    rw [h1, numR_fits (by rw [List.length_drop]; omega), List.drop_drop]
    rfl
  refine ⟨e1, ?_⟩
  unfold cnRM
  rw [e1, numR_fits (by rw [List.length_drop]; omega), List.drop_drop]
  rfl
theorem cnRM_zero {S : List UInt8} (h : (cnRM S).2.2 = 0) : 10 ≤ S.length := by
  obtain ⟨h1, h2⟩ := numR_zero h
  obtain ⟨h3, h4⟩ := numR_zero (s := (takeR (S, 0) 4).2) h1
  obtain ⟨-, h5⟩ := takeR_zero (s := (S, 0)) (k := 4) h3
  have e1 : takeR (S, 0) 4 = (S.take 4, (S.drop 4, 0)) := takeR_fits (k := 4) h5
  rw [e1] at h4
  have e2 : idRM S = (idM S, (S.drop 8, 0)) := by
    unfold idRM
    rw [e1, numR_fits h4, List.drop_drop]
    rfl
  rw [e2] at h2
  simp only [List.length_drop] at h4 h2
  omega
theorem numR_lt2 (s : RdSt) (k : Nat) : (numR s k).1 < 256 ^ k := by
  refine Nat.lt_of_lt_of_le (ofLE_lt _) (Nat.pow_le_pow_right (by omega) ?_)
  unfold takeR
  split
  · exact Nat.zero_le _
  · split
    · exact Nat.zero_le _
    · split
      · exact Nat.zero_le _
      · simp; omega
theorem readEs_snoc : ∀ (k : Nat) (s : List UInt8), readEs (k + 1) s = readEs k s ++ [readE (s.drop (40 * k))]
  | 0, s => by simp [readEs]
  | k + 1, s => by
    show readE s :: readEs (k + 1) (s.drop 40) = readE s :: readEs k (s.drop 40) ++ _
    rw [readEs_snoc k, List.drop_drop, List.cons_append, show 40 + 40 * k = 40 * (k + 1) by omega]
/-- An entry whose fingerprint is set, byte by byte. -/
def halfE (F : List UInt8) (j : Nat) (a : Int) (b : Nat) (c : Int) : En := ⟨F.take j ++ List.replicate (32 - j) 0, a, b, c⟩
theorem halfE_len {F : List UInt8} (h : F.length = 32) (j : Nat) (hj : j ≤ 32) (a : Int) (b : Nat) (c : Int) : (halfE F j a b c).fp.length = 32 := by
  unfold halfE
  simp [h]; omega
theorem half_set {F : List UInt8} (h : F.length = 32) {j : Nat} (hj : j < 32) (a : Int) (b : Nat) (c : Int) (q : Nat) (hq : (F[j]'(by omega)).toNat = q) :
    (enC (halfE F j a b c)).setIfInBounds j (.int .u8 (q : Nat)) = enC (halfE F (j + 1) a b c) := by
  apply Array.toList_inj.1
  have e1 : List.replicate (32 - j) (0 : UInt8) = 0 :: List.replicate (32 - (j + 1)) 0 := by rw [show 32 - j = (32 - (j + 1)) + 1 by omega, List.replicate_succ]
  have e2 : F.take (j + 1) = F.take j ++ [F[j]'(by omega)] := List.take_succ_eq_append_getElem (by omega)
  unfold enC enL halfE
  simp only [Array.toList_setIfInBounds]
  rw [List.set_append_left _ _ (by simp [fpA_size, h]; omega), e1, e2]
  unfold fpA
  simp only [List.map_append, List.map_cons]
  rw [List.set_append_right _ _ (by simp [h]; omega)]
  simp [h, hq, Nat.min_eq_left (Nat.le_of_lt hj)]
theorem half_end {F : List UInt8} (h : F.length = 32) (a : Int) (b : Nat) (c : Int) : halfE F 32 a b c = ⟨F, a, b, c⟩ := by
  unfold halfE
  rw [List.take_of_length_le (by omega)]
  simp
theorem half_get {F : List UInt8} (h : F.length = 32) (j : Nat) (hj : j < 32) (a : Int) (b : Nat) (c : Int) : ∃ q : Nat, (enC (halfE F j a b c))[j]? = some (.int .u8 (q : Nat)) := by
  refine ⟨((halfE F j a b c).fp.getD j 0).toNat, ?_⟩
  unfold enC
  rw [List.getElem?_toArray]
  exact enL_fp (halfE_len h j (Nat.le_of_lt hj) a b c) j hj
theorem built_en0 (a : Int) (b : Nat) (c : Int) : Tryd.prog.built 55 [(1, .int .i64 a), (2, .int .u32 (b : Nat)), (3, .int .i64 c)] = some (enC ⟨[0, 0, 0, 0, 0, 0, 0, 0, 0, 0, 0, 0, 0, 0, 0, 0, 0, 0, 0, 0, 0, 0, 0, 0, 0, 0, 0, 0, 0, 0, 0, 0], a, b, c⟩) := by kernel_rfl
theorem built_en (a : Int) (b : Nat) (c : Int) (F : List UInt8) : Tryd.prog.built 55 [(1, .int .i64 a), (2, .int .u32 (b : Nat)), (3, .int .i64 c)] = some (enC (halfE F 0 a b c)) := by
  have e : halfE F 0 a b c = ⟨[0, 0, 0, 0, 0, 0, 0, 0, 0, 0, 0, 0, 0, 0, 0, 0, 0, 0, 0, 0, 0, 0, 0, 0, 0, 0, 0, 0, 0, 0, 0, 0], a, b, c⟩ := by unfold halfE; rfl
  rw [e]
  exact built_en0 a b c

theorem rtakeM (b : Nat) (s : RdSt) (k : Nat) (i : Int) (hi : i = k) (hw : (Lit.int .i64 i).wf = true) (T : ByteArray) (s' : RdSt) (hT : takeR s k = (T.data.toList, s')) (w : World) (h : RfAt b s w) :
    Calls Tryd.prog 36 #[.pointer (some ⟨b, 0, none⟩), .int .i64 i] w (RfPost b (.string T) s' w) := by
  subst hi
  have h2 := rtake_any b s k hw w h
  rw [hT, str_data] at h2
  exact h2
theorem rnumM (b : Nat) (s : RdSt) (k : Nat) (i : Int) (hi : i = k) (hk : k ≤ 8) (q : Nat) (s' : RdSt) (hT : numR s k = (q, s')) (w : World) (h : RfAt b s w) :
    Calls Tryd.prog 37 #[.pointer (some ⟨b, 0, none⟩), .int .i64 i] w (RfPost b (.int .u64 (q : Nat)) s' w) := by
  subst hi
  have h2 := rnum_any b s k hk w h
  rw [hT] at h2
  exact h2

end Go.Proofs.YteompckehokdoaaDoor
namespace Go.Proofs.YteompckehokdoaaDoor
open Go.RowKit

theorem rd_appM {w wd w6 : World} {b0 b5 base id br : Nat} {tv v' : Value} {l : List En} {s : RdSt} {XA : Array Value} (hr : RfAt br s wd) (h : MI w b0 b5 base id tv l wd) (hb : br < base ∧ br ≠ b5)
    (hg : (wd.alloc (.cells XA 55)).grownBy w6 tv.ownBlock) : RfAt br s (w6.setCell ⟨b5, 1, none⟩ v') :=
  RfAt.later (RfAt.later (hr.later (w' := wd.alloc (.cells XA 55)) (r := none) (grown_below ((Below.refl _ _).alloc (Nat.le_refl _) _) none) (by simp)) hg (fun e => by have := (h.own.lt br e.symm).1; omega)) (grown_set _ _ _ _) (fun e => hb.2 (Option.some.inj e))
theorem text_neM {a b : ByteArray} (h : a ≠ b) : (a.toList == b.toList) = false := by
  rw [Lib.toList_data, Lib.toList_data, beq_eq_false_iff_ne]
  exact fun e => h (ByteArray.ext (Array.ext' e))
theorem readM_len (S : List UInt8) : (readM S).es.length = cntM S := readEs_len _ _

set_option maxRecDepth 100000 in
set_option maxHeartbeats 32000000 in
theorem rget15_any (t : ByteArray) (ht : t.size ≤ 100000) (w : World) :
    Calls Tryd.prog 17 #[.string t] w fun e w' => (∃ v, e = .returned (.tuple #[v, .bool (getM t.data.toList).isSome]) ∧ ManIs ((getM t.data.toList).getD Mf.zero) v w') ∧ Kept w w' := by
  obtain ⟨ir, z, hx1, hx2, hx3, hx4, hx5⟩ := infoEnF
  have HIR := Lib.hid hx1
  have HZ0 := Lib.hid hx2
  have HZ1 := Lib.hid hx3
  have HZ2 := Lib.hid hx4
  have HZS := Lib.hid hx5
  obtain ⟨S, hS⟩ : ∃ S, S = t.data.toList := ⟨_, rfl⟩
  obtain ⟨sz, hsz⟩ : ∃ n, n = t.size := ⟨_, rfl⟩
  have hz : t.size = sz := hsz.symm
  have hSn : S.length = sz := by rw [hS, data_len, hsz]
  have hts : t = str S := by rw [hS, str_data]
  obtain ⟨G, hG⟩ : ∃ G, G = getM S := ⟨_, rfl⟩
  rw [← hS, ← hG]
  have HG := Lib.hid hG
  have HTS := Lib.hid hts
  have HSN := Lib.hid hSn
  have hsl : sz ≤ 100000 := by omega
  have HSL := Lib.hid hsl
  obtain ⟨W2, hW2⟩ : ∃ W, W = (w.alloc (.cells #[.int .u32 0, .slice none 0 0] 25)).alloc (.cells #[.string t, .int .i64 0, .int .i64 0] 85) := ⟨_, rfl⟩
  have HW2 := Lib.hid hW2
  have hk2 : Kept w W2 := by rw [hW2]; exact (show Kept w _ from box_below _ _).then (box_below _ _)
  have hrow0 : W2.heap[w.heap.size]? = some (.cells #[.int .u32 0, .slice none 0 0] 25 (0, 0)) := by
    rw [hW2]
    exact Kept.row (box_below _ _) (heap_alloc_last w _)
  have hrd : RfAt (w.heap.size + 1) (S, 0) W2 := by
    have := heap_alloc_last (w.alloc (.cells #[.int .u32 0, .slice none 0 0] 25)) (.cells #[.string t, .int .i64 0, .int .i64 0] 85)
    have e : (w.alloc (.cells #[.int .u32 0, .slice none 0 0] 25)).heap.size = w.heap.size + 1 := by simp
    rw [e, hts] at this
    exact ⟨S, 0, by rw [hW2, hts]; exact this, rfl, Nat.zero_le _, by omega⟩
  have hs2 : W2.heap.size = w.heap.size + 1 + 1 := by rw [hW2]; simp
  obtain ⟨br, hbr⟩ : ∃ br, br = w.heap.size + 1 := ⟨_, rfl⟩
  have HBRE := Lib.hid hbr
  rw [← hbr] at hrd hs2
  have HK2 := Lib.hid hk2
  have HROW := Lib.hid hrow0
  have HRD := Lib.hid hrd
  obtain ⟨id, hid⟩ : ∃ id, id = (idRM S).1 := ⟨_, rfl⟩
  have hidl : id < 256 ^ 4 := by rw [hid]; exact numR_lt2 _ _
  obtain ⟨n, hn⟩ : ∃ n, n = (cnRM S).1 := ⟨_, rfl⟩
  have hn16 : n < 256 ^ 2 := by rw [hn]; exact numR_lt2 _ _
  obtain ⟨er, her⟩ : ∃ er : Int, er = (cnRM S).2.2 := ⟨_, rfl⟩
  have HER := Lib.hid her
  have HIDL : Hid (id < 4294967296) := Lib.hid (by omega)
  have HID := Lib.hid hid
  have HNN := Lib.hid hn
  have HN16 := Lib.hid hn16
  have u1 : IntKind.u32.wrap (id : Int) = (id : Int) := IntWalk.u32_in _ (by omega)
  have u2 : IntKind.i64.wrap (n : Int) = (n : Int) := IntWalk.i64_in _ (by omega)
  have HFIT : Hid (er = 0 → 10 ≤ S.length ∧ id = idM S ∧ n = cntM S ∧ (cnRM S).2 = (S.drop 10, 0)) := Lib.hid (fun h => by
    have h10 := cnRM_zero (S := S) (by rw [← her]; exact h)
    obtain ⟨e1, e2⟩ := cnRM_fits h10
    exact ⟨h10, by rw [hid, e1], by rw [hn, e2], by rw [e2]⟩)
  have HOKS : Hid (10 ≤ S.length → er = 0 ∧ n = cntM S) := Lib.hid (fun h10 => by
    obtain ⟨e1, e2⟩ := cnRM_fits h10
    exact ⟨by rw [her, e2], by rw [hn, e2]⟩)
  have HNON : Hid (¬ (er = 0 ∧ 1 ≤ n ∧ n ≤ 256 ∧ sz = 14 + 40 * n) → G = none) := Lib.hid (fun h => by
    rw [hG]
    unfold getM
    refine if_neg (fun ok => h ?_)
    obtain ⟨⟨o1, o2⟩, o3, -⟩ := ok
    obtain ⟨p1, p2⟩ := HOKS.out (by omega)
    exact ⟨p1, by omega, by omega, by omega⟩)
  clear hx1 hx2 hx3 hx4 hx5 hG hts hS hSn hsz hsl ht hW2 hk2 hrow0 hrd hs2 hbr hid hn her hn16 hidl
  go_enter Tryd.func17, Tryd.ntmps17
  go_wp2_with fail
  rw [← HW2.out]
  rw [← HBRE.out]
  refine (rtake_any br (S, 0) 4 (by decide) W2 HRD.out).mono ?_
  rintro e W3 ⟨rfl, hr3, hb3⟩
  have HR3 : Hid (RfAt br (takeR (S, 0) 4).2 W3) := Lib.hid hr3
  have HK3 : Hid (Kept w W3) := Lib.hid (below_touch (show Below w.heap.size w W2 from HK2.out) hb3 HK2.out.size (by have := HBRE.out; omega))
  have HROW3 : Hid (W3.heap[w.heap.size]? = some (.cells #[.int .u32 0, .slice none 0 0] 25 (0, 0))) := Lib.hid (by rw [hb3.block _ (Array.getElem?_eq_some_iff.1 HROW.out).1 (fun e => by have := Option.some.inj e; have := HBRE.out; omega)]; exact HROW.out)
  clear hr3 hb3 HRD HK2 HROW
  go_wp2_with fail
  refine (rnumM br (takeR (S, 0) 4).2 4 4 rfl (by omega) id (idRM S).2 (by rw [HID.out]; rfl) W3 HR3.out).mono ?_
  rintro e W4 ⟨rfl, hr4, hb4⟩
  have HR4 : Hid (RfAt br (idRM S).2 W4) := Lib.hid hr4
  have HK4 : Hid (Kept w W4) := Lib.hid (below_touch (show Below w.heap.size w W3 from HK3.out) hb4 HK3.out.size (by have := HBRE.out; omega))
  have HROW4 : Hid (W4.heap[w.heap.size]? = some (.cells #[.int .u32 0, .slice none 0 0] 25 (0, 0))) := Lib.hid (by rw [hb4.block _ (Array.getElem?_eq_some_iff.1 HROW3.out).1 (fun e => by have := Option.some.inj e; have := HBRE.out; omega)]; exact HROW3.out)
  clear hr4 hb4 HR3 HK3 HROW3
  obtain ⟨b5, hb5⟩ : ∃ b5, b5 = W4.heap.size := ⟨_, rfl⟩
  have HB5 := Lib.hid hb5
  obtain ⟨W5, hW5⟩ : ∃ W5, W5 = W4.alloc (.cells #[.int .u32 (id : Nat), .slice none 0 0] 25) := ⟨_, rfl⟩
  have HW5 := Lib.hid hW5
  have hk5 : Kept W4 W5 := by rw [hW5]; exact box_below _ _
  have hlt : br < b5 := by rw [hb5]; exact HR4.out.lt
  have HBR : Hid (br < b5 + 1 ∧ br ≠ b5 ∧ br ≠ w.heap.size ∧ w.heap.size ≤ br) := Lib.hid ⟨by omega, by omega, by have := HBRE.out; omega, by have := HBRE.out; omega⟩
  have HI5 : Hid (MI w w.heap.size b5 (b5 + 1) id (.slice none 0 0) [] W5) := Lib.hid (by
    refine ⟨HK4.out.then hk5, by rw [hW5, hb5]; simp, hk5.row HROW4.out, by rw [hW5, hb5]; exact heap_alloc_last W4 _, World.ownsRow_nil _ _ _ _, ?_⟩
    have := HBRE.out
    omega)
  have HR5 : Hid (RfAt br (idRM S).2 W5) := Lib.hid (HR4.out.later (grown_below hk5 none) (by simp))
  clear hb5 hW5 hk5 hlt HR4 HK4 HROW4
  go_wp2_with fail
  rw [← HB5.out]
  rw [← HW5.out]
  refine (rnumM br (idRM S).2 2 2 rfl (by omega) n (cnRM S).2 (by rw [HNN.out]; rfl) W5 HR5.out).mono ?_
  rintro e W6 ⟨rfl, hr6, hb6⟩
  have HR6 : Hid (RfAt br (cnRM S).2 W6) := Lib.hid hr6
  have HI6 := Lib.hid (HI5.out.grown hb6 HBR.out)
  clear hr6 hb6 HR5 HI5
  obtain ⟨SS, ii, hin, -⟩ := HR6.out
  have ce := hin.c2
  rw [← HER.out] at ce
  clear hin
  have g0 : W6.cell? ⟨w.heap.size, 0, none⟩ = some (.int .u32 0) := by rw [cell_of_row _ _ _ _ _ _ HI6.out.row0]; rfl
  have g1 : W6.cell? ⟨w.heap.size, 1, none⟩ = some (.slice none 0 0) := by rw [cell_of_row _ _ _ _ _ _ HI6.out.row0]; rfl
  have f0 := frozen_of_row W6 w.heap.size 0 _ _ HI6.out.row0
  have f1 := frozen_of_row W6 w.heap.size 1 _ _ HI6.out.row0

  obtain ⟨n40, hn40⟩ : ∃ q, q = 40 * n := ⟨_, rfl⟩
  obtain ⟨n54, hn54⟩ : ∃ q, q = 14 + n40 := ⟨_, rfl⟩
  have m40 : IntKind.i64.wrap (40 * (n : Int)) = (n40 : Int) := by rw [show 40 * (n : Int) = (n40 : Int) by omega]; exact IntWalk.i64_in _ (by have := HN16.out; omega)
  have m54 : IntKind.i64.wrap (14 + (n40 : Int)) = (n54 : Int) := by rw [show 14 + (n40 : Int) = (n54 : Int) by omega]; exact IntWalk.i64_in _ (by have := HN16.out; omega)
  have HN54 : Hid (n54 = 14 + 40 * n) := Lib.hid (by omega)
  clear hn40 hn54
  by_cases he : er = 0
  · have be : (er != 0) = false := by simp [he]
    have be2 : (er == 0) = true := by simp [he]
    by_cases h1 : n < 1
    · have b1 : decide ((n : Int) < 1) = true := decide_eq_true (by omega)
      have b1i : (n : Int) < 1 := by omega
      have HNO := Lib.hid (HNON.out (fun h => by omega))
      clear he h1
      go_wp2
      refine bodyPost_ret (results_cell_tmp_rowM Tryd.results17 _ _ w.heap.size 25 #[.int .u32 0, .slice none 0 0] (0, 0) _ rfl (set2_rowM HI6.out.row0 _ _) Tryd.underlying25 rfl infoMan) rfl ⟨⟨.agg #[.int .u32 0, .slice none 0 0], by rw [HNO.out]; rfl, by rw [HNO.out]; exact ManIs.zero _⟩, below_set2M HI6.out.kept HI6.out.kept.size (Nat.le_refl _) _ _⟩

    · have b1 : decide ((n : Int) < 1) = false := decide_eq_false (by omega)
      have b1i : ¬ (n : Int) < 1 := by omega
      by_cases h2 : 256 < n
      · have b2 : decide ((256 : Int) < (n : Int)) = true := decide_eq_true (by omega)
        have b2i : (256 : Int) < n := by omega
        have HNO := Lib.hid (HNON.out (fun h => by omega))
        clear he h1 h2
        go_wp2
        refine bodyPost_ret (results_cell_tmp_rowM Tryd.results17 _ _ w.heap.size 25 #[.int .u32 0, .slice none 0 0] (0, 0) _ rfl (set2_rowM HI6.out.row0 _ _) Tryd.underlying25 rfl infoMan) rfl ⟨⟨.agg #[.int .u32 0, .slice none 0 0], by rw [HNO.out]; rfl, by rw [HNO.out]; exact ManIs.zero _⟩, below_set2M HI6.out.kept HI6.out.kept.size (Nat.le_refl _) _ _⟩

      · have b2 : decide ((256 : Int) < (n : Int)) = false := decide_eq_false (by omega)
        have b2i : ¬ (256 : Int) < n := by omega
        by_cases h3 : sz = n54
        · have b3 : ((sz : Int) != (n54 : Int)) = false := by simp [h3]
          have HL : Hid (1 ≤ n ∧ n ≤ 256 ∧ sz = 14 + 40 * n) := Lib.hid ⟨by omega, by omega, by have := HN54.out; omega⟩
          have hfit := HFIT.out he
          have HRL : Hid (RfAt br (S.drop (10 + 40 * 0), 0) W6) := Lib.hid (by have := HR6.out; rw [hfit.2.2.2] at this; exact this)
          have HCN : Hid (id = idM S ∧ n = cntM S) := Lib.hid ⟨hfit.2.1, hfit.2.2.1⟩
          clear he h1 h2 h3 hfit
          clear HR6 g0 g1 f0 f1
          go_wp2
          clear ce
          go_loopg [7] n (fun gh y wr => ∃ (k : Nat) (tv : Value), k + gh = n ∧ y = .int .i64 k ∧ Hid (MI w w.heap.size b5 (b5 + 1) id tv (readEs k (S.drop 10)) wr) ∧ Hid (RfAt br (S.drop (10 + 40 * k), 0) wr))
          case atStart => exact ⟨0, _, by omega, rfl, HI6, HRL⟩
          case round =>
            clear HI6 HRL
            obtain ⟨k, tv, hk, rfl, HH, HR⟩ := hrel
            obtain ⟨LI, hLI⟩ : ∃ L, L = readEs k (S.drop 10) := ⟨_, rfl⟩
            rw [← hLI] at HH
            have HLI := Lib.hid hLI
            obtain ⟨pv, cv, htv, -, -⟩ := own_slice HH.out.own
            have hlk : LI.length = k := by rw [hLI, readEs_len]
            rw [hlk] at htv
            have HLK := Lib.hid hlk
            clear hLI hlk
            subst htv
            by_cases hlt : k < n
            · have hki : (k : Int) < n := by omega
              have bk : decide ((k : Int) < (n : Int)) = true := by simpa using hki
              obtain ⟨L0, hL0⟩ : ∃ L, L = S.drop (10 + 40 * k) := ⟨_, rfl⟩
              have h40 : 40 ≤ L0.length := by
                have := HL.out
                have := HSN.out
                rw [hL0, List.length_drop, HSN.out]
                omega
              rw [← hL0] at HR
              obtain ⟨F, hF⟩ : ∃ F, F = L0.take 32 := ⟨_, rfl⟩
              have hF32 : F.length = 32 := by rw [hF, List.length_take]; omega
              obtain ⟨FT, hFT⟩ : ∃ T, T = str F := ⟨_, rfl⟩
              have hFD : FT.data.toList = F := by rw [hFT, str_list]
              have zF : FT.size = 32 := by rw [hFT, str_size, hF32]
              obtain ⟨q1, hq1⟩ : ∃ q, q = ofLE ((L0.drop 32).take 2) := ⟨_, rfl⟩
              obtain ⟨q2, hq2⟩ : ∃ q, q = ofLE ((L0.drop 34).take 4) := ⟨_, rfl⟩
              obtain ⟨q3, hq3⟩ : ∃ q, q = ofLE ((L0.drop 38).take 2) := ⟨_, rfl⟩
              have l1 : q1 < 256 ^ 2 := by rw [hq1]; exact ofLE_take_lt _ 2
              have l2 : q2 < 256 ^ 4 := by rw [hq2]; exact ofLE_take_lt _ 4
              have l3 : q3 < 256 ^ 2 := by rw [hq3]; exact ofLE_take_lt _ 2
              have u3 : IntKind.i64.wrap (q1 : Int) = (q1 : Int) := IntWalk.i64_in _ (by omega)
              have u4 : IntKind.u32.wrap (q2 : Int) = (q2 : Int) := IntWalk.u32_in _ (by omega)
              have u5 : IntKind.i64.wrap (q3 : Int) = (q3 : Int) := IntWalk.i64_in _ (by omega)
              have C0 := Lib.hid (fun W h => rtakeM br (L0, 0) 32 32 rfl (by decide) FT (L0.drop 32, 0) (by rw [takeR_fits (k := 32) (by omega), hFD, hF]) W h)
              have C1 := Lib.hid (fun W h => rnumM br (L0.drop 32, 0) 2 2 rfl (by omega) q1 (L0.drop 34, 0) (by rw [numR_fits (by rw [List.length_drop]; omega), List.drop_drop, hq1]) W h)
              have C2 := Lib.hid (fun W h => rnumM br (L0.drop 34, 0) 4 4 rfl (by omega) q2 (L0.drop 38, 0) (by rw [numR_fits (by rw [List.length_drop]; omega), List.drop_drop, hq2]) W h)
              have C3 := Lib.hid (fun W h => rnumM br (L0.drop 38, 0) 2 2 rfl (by omega) q3 (L0.drop 40, 0) (by rw [numR_fits (by rw [List.length_drop]; omega), List.drop_drop, hq3]) W h)
              obtain ⟨EN, hEN⟩ : ∃ EN : En, EN = ⟨F, (q1 : Int), q2, (q3 : Int)⟩ := ⟨_, rfl⟩
              have hEN2 : EN = readE L0 := by rw [hEN, hF, hq1, hq2, hq3]; rfl
              have HWN : Hid (wfE EN) := Lib.hid (by rw [hEN2]; exact readE_wf L0 (by omega))
              obtain ⟨k1, hk1⟩ : ∃ k1, k1 = k + 1 := ⟨_, rfl⟩
              have v1 : IntKind.i64.wrap ((k : Int) + 1) = (k1 : Int) := by rw [show (k : Int) + 1 = (k1 : Int) by omega]; exact IntWalk.i64_in _ (by have := HL.out; omega)
              have HKK : Hid (k1 = k + 1 ∧ k + gk = n ∧ k < n) := Lib.hid ⟨hk1, hk, hlt⟩
              have HLX : Hid (LI ++ [EN] = readEs k1 (S.drop 10)) := Lib.hid (by rw [hk1, readEs_snoc, HLI.out, List.drop_drop, hEN2, hL0])
              have HL4 : Hid (L0.drop 40 = S.drop (10 + 40 * k1)) := Lib.hid (by rw [hL0, List.drop_drop, hk1, show 10 + 40 * k + 40 = 10 + 40 * (k + 1) by omega])
              have HF32 := Lib.hid hF32
              have HFD := Lib.hid hFD
              obtain ⟨X0, hX0⟩ : ∃ X, X = enC (halfE F 0 (q1 : Int) q2 (q3 : Int)) := ⟨_, rfl⟩
              have HX0 := Lib.hid hX0
              have HBU : Hid (Tryd.prog.built 55 [(1, .int .i64 (q1 : Nat)), (2, .int .u32 (q2 : Nat)), (3, .int .i64 (q3 : Nat))] = some X0) := Lib.hid (by rw [hX0]; exact built_en _ _ _ F)
              have hh0 := halfE_len hF32 0 (by omega) (q1 : Int) q2 (q3 : Int)
              have HXS : Hid (X0.size = 35) := Lib.hid (by rw [hX0]; exact enC_size hh0)
              have HXO : Hid (X0.all (·.oneCell') = true) := Lib.hid (by
                rw [hX0, Array.all_eq_true_iff_forall_mem]
                intro x hx
                refine encE.one (halfE F 0 (q1 : Int) q2 (q3 : Int)) ⟨hh0, ?_, ?_, ?_⟩ x (by unfold enC at hx; simpa using hx)
                · unfold isI halfE; simp only; omega
                · unfold halfE; simp only; omega
                · unfold isI halfE; simp only; omega)
              have HXI : Hid ((Tryd.prog.info? 55).map (·.size) = some X0.size) := Lib.hid (by rw [HXS.out]; exact infoEn)
              obtain ⟨XT, hXT⟩ : ∃ X, X = enC EN := ⟨_, rfl⟩
              have HXT := Lib.hid hXT
              have HXE : Hid (enC (halfE F 32 (q1 : Int) q2 (q3 : Int)) = XT) := Lib.hid (by rw [half_end hF32, hXT, hEN])
              have HZX : Hid (XT.size = 35) := Lib.hid (by rw [hXT]; exact enC_size HWN.out.1)
              have HSX : Hid (0 + 35 ≤ XT.size ∧ XT.extract 0 (0 + 35) = XT) := Lib.hid ⟨by rw [HZX.out]; exact Nat.le_refl _, by rw [show 0 + 35 = XT.size by rw [HZX.out]]; exact Array.extract_size⟩
              have HONE := Lib.hid (fun (W : World) => flat_rec encE W 55 EN HWN.out XT (by rw [HXT.out]; rfl))
              clear hk hlt hL0 h40 hF hF32 hFT hFD hq1 hq2 hq3 l1 l2 l3 hEN hEN2 hk1 hX0 hh0 hXT
              go_wp2_with fail
              refine (C0.out wr HR.out).mono ?_
              rintro e w2 ⟨rfl, hr2, hb2⟩
              have HH2 := Lib.hid (HH.out.grown hb2 HBR.out)
              have HR2 := Lib.hid hr2
              clear hr2 hb2 HH HR
              go_wp2_with fail
              refine (C1.out w2 HR2.out).mono ?_
              rintro e w3 ⟨rfl, hr3, hb3⟩
              have HH3 := Lib.hid (HH2.out.grown hb3 HBR.out)
              have HR3 := Lib.hid hr3
              clear hr3 hb3 HH2 HR2
              go_wp2_with fail
              refine (C2.out w3 HR3.out).mono ?_
              rintro e w4 ⟨rfl, hr4, hb4⟩
              have HH4 := Lib.hid (HH3.out.grown hb4 HBR.out)
              have HR4 := Lib.hid hr4
              clear hr4 hb4 HH3 HR3
              go_wp2_with fail
              refine (C3.out w4 HR4.out).mono ?_
              rintro e w5 ⟨rfl, hr5, hb5⟩
              have HH5 := Lib.hid (HH4.out.grown hb5 HBR.out)
              have HR5 := Lib.hid hr5
              clear hr5 hb5 HH4 HR4
              obtain ⟨b7, hb7⟩ : ∃ b, b = w5.heap.size := ⟨_, rfl⟩
              have HB7 := Lib.hid hb7
              obtain ⟨W7, hW7⟩ : ∃ W, W = w5.alloc (.cells X0 55) := ⟨_, rfl⟩
              have HW7 := Lib.hid hW7
              have hrow7 := heap_alloc_last w5 (.cells X0 55)
              rw [← hW7, ← hb7] at hrow7
              have HR7' : Hid (W7.heap[b7]? = some (.cells (enC (halfE F 0 (q1 : Int) q2 (q3 : Int))) 55 (0, 0))) := Lib.hid (by rw [← HX0.out]; exact hrow7)
              have HK7 : Hid (Kept w5 W7) := Lib.hid (by rw [hW7]; exact box_below _ _)
              clear hb7 hW7 hrow7
              go_wp2_with (first
                | (with_reducible refine wpList_built rfl _ _ rfl [(1, .int .i64 (q1 : Nat)), (2, .int .u32 (q2 : Nat)), (3, .int .i64 (q3 : Nat))] ?hps X0 HBU.out ?_)
                | ((with_reducible refine wpList_store_row rfl _ _ _ rfl w5.heap.size X0 rfl rfl 55 _ (heap_alloc_last w5 _) HXI.out ?hold HXO.out ?_); rotate_left; rw [World.setRow_alloc_new, ← HW7.out]))
              case hold => rw [HXS.out]; rfl
              rw [← HB7.out]
              go_loopg [10] 32 (fun gh y wq => ∃ j : Nat, j + gh = 32 ∧ y = .int .i64 j ∧ Hid (wq.heap[b7]? = some (.cells (enC (halfE F j (q1 : Int) q2 (q3 : Int))) 55 (0, 0))) ∧ Hid (Kept w5 wq))
              case atStart => exact ⟨0, by omega, rfl, HR7', HK7⟩
              case round =>
                obtain ⟨j, hj, rfl, HRJ, HKQ⟩ := hrel
                by_cases hj32 : j < 32
                · have bj : decide ((j : Int) < 32) = true := decide_eq_true (by omega)
                  have hjF : j < F.length := by rw [HF32.out]; exact hj32
                  obtain ⟨q0, hq0⟩ := half_get HF32.out j hj32 (q1 : Int) q2 (q3 : Int)
                  have y0 : wr.cell? ⟨b7, j, none⟩ = some (.int .u8 (q0 : Nat)) := by rw [cell_of_row _ _ _ _ _ _ HRJ.out]; exact hq0
                  have f0 := frozen_of_row wr b7 j _ _ HRJ.out
                  obtain ⟨q, hq⟩ : ∃ q : Nat, q = (F[j]'hjF).toNat := ⟨_, rfl⟩
                  have hjs : j < FT.size := by rw [zF]; exact hj32
                  have hfj : FT.data.toList[j]'(by rw [HFD.out]; exact hjF) = F[j]'hjF := by
                    have e : ∀ (l : List UInt8) (h : l = F) (hl : j < l.length), l[j] = F[j]'hjF := fun l h hl => by subst h; rfl
                    exact e _ HFD.out _
                  have hc1 : (FT[j]'hjs).toNat = q := by rw [hq, ← hfj]; rfl
                  have hc2 : (FT.data[j]'hjs).toNat = q := hc1
                  have H7 : Hid ((wr.setCell ⟨b7, j, none⟩ (.int .u8 (q : Nat))).heap[b7]? = some (.cells (enC (halfE F (j + 1) (q1 : Int) q2 (q3 : Int))) 55 (0, 0))) := Lib.hid (by
                    have := heap_setCell_same wr b7 j _ _ (.int .u8 (q : Nat)) HRJ.out
                    rw [half_set HF32.out hj32 _ _ _ q hq.symm] at this
                    exact this)
                  have H8 : Hid (Kept w5 (wr.setCell ⟨b7, j, none⟩ (.int .u8 (q : Nat)))) := Lib.hid (below_touch (show Below w5.heap.size w5 wr from HKQ.out) (grown_set _ _ _ _) HKQ.out.size (by rw [HB7.out]; exact Nat.le_refl _))
                  obtain ⟨j1, hj1⟩ : ∃ j1, j1 = j + 1 := ⟨_, rfl⟩
                  have vj : IntKind.i64.wrap ((j : Int) + 1) = (j1 : Int) := by rw [show (j : Int) + 1 = (j1 : Int) by omega]; exact IntWalk.i64_in _ (by omega)
                  have HJJ : Hid (j1 = j + 1 ∧ j + gk = 32 ∧ j < 32) := Lib.hid ⟨hj1, hj, hj32⟩
                  rw [← hj1] at H7
                  have hj0 : (0 : Int) ≤ j := by omega
                  have hj32i : (j : Int) < 32 := by omega
                  clear hjF hq0 hq hfj hj1 hj
                  go_wp2
                  go_roundg (32 - j1)
                  · exact ⟨j1, by have := HJJ.out; omega, by first | rfl | (have := HJJ.out; congr 1; omega), H7, H8⟩
                  · have := HJJ.out; omega
                · have bj : decide ((j : Int) < 32) = false := decide_eq_false (by omega)
                  have hje : j = 32 := by omega
                  have r8 : wr.heap[b7]? = some (.cells XT 55 (0, 0)) := by
                    have h := HRJ.out
                    rw [hje, HXE.out] at h
                    exact h
                  have HH7 : Hid (MI w w.heap.size b5 (b5 + 1) id (.slice pv k cv) LI wr) := Lib.hid (HH5.out.later HKQ.out)
                  have HR7 : Hid (RfAt br (L0.drop 40, 0) wr) := Lib.hid (HR5.out.later (grown_below HKQ.out none) (by simp))
                  have c1 := HH7.out.c1
                  clear hje hj hj32
                  go_wp2_with (first
                    | (with_reducible refine wpList_load_sub rfl _ _ rfl b7 0 35 rfl 55 XT (0, 0) _ r8 Tryd.underlying55 rfl infoEn HSX.out.1 XT HSX.out.2 ?_)
                    | (with_reducible refine wpList_buildR rfl _ _ _ rfl 35 ir z Tryd.underlying23 HIR.out HZ1.out HZ0.out (by decide) (by decide) XT rfl HZX.out ?_)
                    | (at_builtin; refine wpList_append_flat rfl _ _ 23 rfl (b5 + 1) 55 ir z 35 56 Tryd.underlying23 HIR.out HZ0.out HZ1.out HZ2.out HZS.out (by decide) _ _ _ rfl (HH7.out.own.alloc _) _ 1 (enL EN) rfl (HONE.out _) ?qd2 ?qd3 ?qd4 ?_))
                  case qd2 => have := HKK.out; have := HL.out; rw [HLK.out]; unfold maxLen; omega
                  case qd3 => have := HKK.out; have := HL.out; rw [HLK.out]; omega
                  case qd4 => exact Nat.le_trans HH7.out.size (by simp)
                  intro v4 w9 hown2 hgrow2 _
                  have HR9 : Hid (RfAt br (S.drop (10 + 40 * k1), 0) (w9.setCell ⟨b5, 1, none⟩ v4)) := Lib.hid (by
                    have := rd_appM (v' := v4) HR7.out HH7.out ⟨HBR.out.1, HBR.out.2.1⟩ hgrow2
                    rw [HL4.out] at this
                    exact this)
                  obtain ⟨hr6, hk6, hh6⟩ := HH7.out.app hown2 hgrow2
                  rw [HLX.out] at hh6
                  have x5 : w9.cell? ⟨b5, 1, none⟩ = some (.slice pv k cv) := by rw [cell_of_row _ _ _ _ _ _ hr6]; rfl
                  have f5 := frozen_of_row w9 b5 1 _ _ hr6
                  have HH8 := Lib.hid hh6
                  obtain ⟨pv', cv', htv', -, -⟩ := own_slice hown2
                  rw [HLK.out, ← HKK.out.1] at htv'
                  subst htv'
                  clear hown2 hgrow2 hr6 hk6 hh6 c1 r8
                  go_wp2
                  go_roundg (n - k1)
                  · exact ⟨k1, _, by have := HKK.out; omega, by first | rfl | (have := HKK.out; congr 1; omega), HH8, HR9⟩
                  · have := HKK.out; omega

            · have hki : ¬ (k : Int) < n := by omega
              have bk : decide ((k : Int) < (n : Int)) = false := by simpa using hki
              have hkn : k = n := by omega
              obtain ⟨M, hM⟩ : ∃ M, M = readM S := ⟨_, rfl⟩
              have hMe : M = ⟨id, LI⟩ := by rw [hM, HLI.out, hkn, HCN.out.1, HCN.out.2]; rfl
              have HWM : Hid (wfM M) := Lib.hid (by rw [hM]; exact readM_wf (by rw [HSN.out, ← HCN.out.2]; exact HL.out.2.2))
              have hman : ∀ W, MI w w.heap.size b5 (b5 + 1) id (.slice pv k cv) LI W → ManIs M (.agg #[.int .u32 (id : Nat), .slice pv k cv]) W := fun W h => by
                have hw := HWM.out
                rw [hMe] at hw ⊢
                exact ⟨HIDL.out, _, rfl, RowsAt.own encE hw.2 h.own⟩
              have HMAN := Lib.hid hman
              have HMn : Hid (M.es.length ≤ 256) := Lib.hid (by rw [hM, readM_len, ← HCN.out.2]; exact HL.out.2.1)
              have HOK : Hid (mayM M ∧ manB M = S → G = some M) := Lib.hid (fun h => by
                rw [HG.out, hM]
                unfold getM
                rw [hM] at h
                exact if_pos ⟨⟨by rw [← HCN.out.2]; exact HL.out.1, by rw [← HCN.out.2]; exact HL.out.2.1⟩, by rw [HSN.out, ← HCN.out.2]; exact HL.out.2.2, h.1, h.2⟩)
              have HNK : Hid (¬ (mayM M ∧ manB M = S) → G = none) := Lib.hid (fun h => by
                rw [HG.out]
                unfold getM
                refine if_neg (fun ok => h ?_)
                rw [hM]
                exact ⟨ok.2.2.1, ok.2.2.2⟩)
              have HME := Lib.hid hMe
              have CM := rmay15_any M _ wr (hman wr HH.out) (by have := HMn.out; omega)
              have c0 := HH.out.c0
              have c1 := HH.out.c1
              clear hman hM hMe hkn hlt hk
              by_cases hm : mayM M
              · have CP := fun W h => rput15_any M hm (.agg #[.int .u32 (id : Nat), .slice pv k cv]) W h
                obtain ⟨RES, hRES⟩ : ∃ R, R = str (manB M) := ⟨_, rfl⟩
                rw [← hRES] at CP
                rw [decide_eq_true hm] at CM
                have CP' := Lib.hid CP
                by_cases hb : manB M = S
                · have hRt : RES = t := by rw [hRES, hb, HTS.out]
                  have HYES := Lib.hid (HOK.out ⟨hm, hb⟩)
                  rw [hRt] at CP'
                  clear CP hRES hb hm hRt
                  go_wp2_with fail
                  refine CM.mono ?_
                  rintro e w8 ⟨rfl, hb8⟩
                  have HH8 := Lib.hid (HH.out.later hb8)
                  have d0 := HH8.out.c0
                  have d1 := HH8.out.c1
                  clear hb8 CM c0 c1
                  go_wp2_with fail
                  refine (CP'.out w8 (HMAN.out _ HH8.out)).mono ?_
                  rintro e w9 ⟨rfl, hb9⟩
                  have HH9 := Lib.hid (HH8.out.later hb9)
                  have d2 := HH9.out.c0
                  have d3 := HH9.out.c1
                  clear hb9 d0 d1
                  have g0 : w9.cell? ⟨w.heap.size, 0, none⟩ = some (.int .u32 0) := by rw [cell_of_row _ _ _ _ _ _ HH9.out.row0]; rfl
                  have g1 : w9.cell? ⟨w.heap.size, 1, none⟩ = some (.slice none 0 0) := by rw [cell_of_row _ _ _ _ _ _ HH9.out.row0]; rfl
                  have f0 := frozen_of_row w9 w.heap.size 0 _ _ HH9.out.row0
                  have f1 := frozen_of_row w9 w.heap.size 1 _ _ HH9.out.row0

                  go_wp2
                  have hd := HH9.out.done HIDL.out (by have := HWM.out.2; rw [HME.out] at this; exact this)
                  refine bodyPost_ret (results_cell_tmp_rowM Tryd.results17 _ _ w.heap.size 25 #[.int .u32 (id : Nat), .slice pv k cv] (0, 0) _ rfl (set2_rowM HH9.out.row0 _ _) Tryd.underlying25 rfl infoMan) rfl ⟨⟨_, by rw [HYES.out]; rfl, ?_⟩, hd.2⟩
                  rw [HYES.out, HME.out]
                  exact hd.1
                · have hRt : RES ≠ t := fun e => hb (by
                    have h := congrArg (fun b : ByteArray => b.data.toList) (show str (manB M) = str S by rw [← hRES, e, HTS.out])
                    simp only [str_list] at h
                    exact h)
                  have tn := text_neM hRt
                  have tn2 : (!(RES.toList == t.toList)) = true := by rw [tn]; rfl
                  have tn3 : (RES.toList != t.toList) = true := tn2
                  have HNO := Lib.hid (HNK.out (fun h => hb h.2))
                  clear CP hRES hb hm hRt
                  go_wp2_with fail
                  refine CM.mono ?_
                  rintro e w8 ⟨rfl, hb8⟩
                  have HH8 := Lib.hid (HH.out.later hb8)
                  have d0 := HH8.out.c0
                  have d1 := HH8.out.c1
                  clear hb8 CM c0 c1
                  go_wp2_with fail
                  refine (CP'.out w8 (HMAN.out _ HH8.out)).mono ?_
                  rintro e w9 ⟨rfl, hb9⟩
                  have HH9 := Lib.hid (HH8.out.later hb9)
                  clear hb9 d0 d1
                  have g0 : w9.cell? ⟨w.heap.size, 0, none⟩ = some (.int .u32 0) := by rw [cell_of_row _ _ _ _ _ _ HH9.out.row0]; rfl
                  have g1 : w9.cell? ⟨w.heap.size, 1, none⟩ = some (.slice none 0 0) := by rw [cell_of_row _ _ _ _ _ _ HH9.out.row0]; rfl
                  have f0 := frozen_of_row w9 w.heap.size 0 _ _ HH9.out.row0
                  have f1 := frozen_of_row w9 w.heap.size 1 _ _ HH9.out.row0

                  go_wp2
                  refine bodyPost_ret (results_cell_tmp_rowM Tryd.results17 _ _ w.heap.size 25 #[.int .u32 0, .slice none 0 0] (0, 0) _ rfl (set2_rowM HH9.out.row0 _ _) Tryd.underlying25 rfl infoMan) rfl ⟨⟨.agg #[.int .u32 0, .slice none 0 0], by rw [HNO.out]; rfl, by rw [HNO.out]; exact ManIs.zero _⟩, below_set2M HH9.out.kept HH9.out.kept.size (Nat.le_refl _) _ _⟩

              · rw [decide_eq_false hm] at CM
                have HNO := Lib.hid (HNK.out (fun h => hm h.1))
                clear hm
                go_wp2_with fail
                refine CM.mono ?_
                rintro e w9 ⟨rfl, hb9⟩
                have HH9 := Lib.hid (HH.out.later hb9)
                clear hb9 CM c0 c1
                have g0 : w9.cell? ⟨w.heap.size, 0, none⟩ = some (.int .u32 0) := by rw [cell_of_row _ _ _ _ _ _ HH9.out.row0]; rfl
                have g1 : w9.cell? ⟨w.heap.size, 1, none⟩ = some (.slice none 0 0) := by rw [cell_of_row _ _ _ _ _ _ HH9.out.row0]; rfl
                have f0 := frozen_of_row w9 w.heap.size 0 _ _ HH9.out.row0
                have f1 := frozen_of_row w9 w.heap.size 1 _ _ HH9.out.row0

                go_wp2
                refine bodyPost_ret (results_cell_tmp_rowM Tryd.results17 _ _ w.heap.size 25 #[.int .u32 0, .slice none 0 0] (0, 0) _ rfl (set2_rowM HH9.out.row0 _ _) Tryd.underlying25 rfl infoMan) rfl ⟨⟨.agg #[.int .u32 0, .slice none 0 0], by rw [HNO.out]; rfl, by rw [HNO.out]; exact ManIs.zero _⟩, below_set2M HH9.out.kept HH9.out.kept.size (Nat.le_refl _) _ _⟩


        · have b3 : ((sz : Int) != (n54 : Int)) = true := bne_iff_ne.2 (by omega)
          have HNO := Lib.hid (HNON.out (fun h => by have := HN54.out; omega))
          clear he h1 h2 h3
          go_wp2
          refine bodyPost_ret (results_cell_tmp_rowM Tryd.results17 _ _ w.heap.size 25 #[.int .u32 0, .slice none 0 0] (0, 0) _ rfl (set2_rowM HI6.out.row0 _ _) Tryd.underlying25 rfl infoMan) rfl ⟨⟨.agg #[.int .u32 0, .slice none 0 0], by rw [HNO.out]; rfl, by rw [HNO.out]; exact ManIs.zero _⟩, below_set2M HI6.out.kept HI6.out.kept.size (Nat.le_refl _) _ _⟩

  · have be : (er != 0) = true := bne_iff_ne.2 he
    have be2 : (er == 0) = false := beq_eq_false_iff_ne.2 he
    have HNO := Lib.hid (HNON.out (fun h => he h.1))
    clear he
    go_wp2
    refine bodyPost_ret (results_cell_tmp_rowM Tryd.results17 _ _ w.heap.size 25 #[.int .u32 0, .slice none 0 0] (0, 0) _ rfl (set2_rowM HI6.out.row0 _ _) Tryd.underlying25 rfl infoMan) rfl ⟨⟨.agg #[.int .u32 0, .slice none 0 0], by rw [HNO.out]; rfl, by rw [HNO.out]; exact ManIs.zero _⟩, below_set2M HI6.out.kept HI6.out.kept.size (Nat.le_refl _) _ _⟩


end Go.Proofs.YteompckehokdoaaDoor
