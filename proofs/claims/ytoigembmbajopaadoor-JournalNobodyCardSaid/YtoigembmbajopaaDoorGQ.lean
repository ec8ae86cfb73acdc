/- JournalAppends out of the contracts. JournalAhead out of the contracts. -/
import Derived.Test.YtoigembmbajopaaDoorGO
import Derived.Test.YtoigembmbajopaaDoorGP
namespace Go.Proofs.YtoigembmbajopaaDoor
open Go.RowKit Go.ChangeShapes

theorem Pair.low {B Br g m : Nat} {P : Dk → (Nat → Prop) → World → Prop} {s : Dk} {Bs : Nat → Prop} {vs vw : Value} {w : World} (h : Pair B Br g P s Bs vs vw w) (hB : m ≤ B) (hBr : m ≤ Br) : ∀ k, PBs Bs g vs vw k → m ≤ k := fun k hk => by
  rcases hk with y | y
  · exact Nat.le_trans hB (h.lt k y).1
  · exact Nat.le_trans hBr (h.r.lt k y).1
/-- Behind both, all that was below stands. -/
theorem low_kept {Cs : Nat → Prop} {W w w' : World} (h : ButBy Cs w w') (hl : ∀ k, Cs k → W.heap.size ≤ k) (k : Kept W w) : Kept W w' := h.kept hl k k.size
theorem BoolAt.agree {l : List Bool} {v : Value} {w w' : World} (h : BoolAt l v w) (k : ∀ k, k < w.heap.size → w'.heap[k]? = w.heap[k]?) : BoolAt l v w' := by
  obtain ⟨p, c, rfl, h⟩ := h
  refine ⟨p, c, rfl, ?_⟩
  rcases h with h0 | ⟨b, off, hp, hc⟩
  · exact Or.inl h0
  · refine Or.inr ⟨b, off, hp, fun i hi => ?_⟩
    have h1 := hc i hi
    have h2 := k b (World.block_lt_of_cell? _ _ h1)
    unfold World.cell? at h1 ⊢
    simp only at h1 ⊢
    rw [h2]
    exact h1
theorem fuse_ok {s : Dk} (h : s.ok) {z : Int} (hz : I64 z) : ({ s with fuse := z } : Dk).ok := ⟨h.sect, h.pos, h.most, h.wait, h.few, hz⟩
theorem jApp_ops (s : Dk) (z : Nat) (t : List UInt8) : (jApp s z t).1.ops ≤ s.ops + cntJ (jApT s z t).length := by
  unfold jApp
  split
  · simp
  · split
    · simp
    · exact putG_ops _ _ _ _ _
theorem jApp_stands (s : Dk) (z : Nat) (t : List UInt8) : (jApp s z t).1.stands = s.stands := by
  unfold jApp
  split
  · rfl
  · split
    · rfl
    · exact putG_stands _ _ _ _ _
theorem jApp_ok {s : Dk} (h : s.ok) (z : Nat) (t : List UInt8) : (jApp s z t).1.ok := by
  unfold jApp
  split
  · exact h
  · split
    · exact h
    · exact putG_ok _ _ _ _ h
theorem wf64 {z : Int} (h : I64 z) : (Lit.int .i64 z).wf = true := by
  unfold I64 at h
  simp [Lit.wf, IntKind.min, IntKind.max, IntKind.signed, IntKind.bits]; omega
theorem empty_str : ((⟨#[]⟩ : ByteArray).toList == (⟨#[]⟩ : ByteArray).toList) = true := by simp

set_option maxRecDepth 100000 in
set_option maxHeartbeats 32000000 in
theorem journalAppends_of (ND : NewDisk) (JL : JLoadOk) (JA : JAppendOk) (AW : AwakeJ) (n : Int) (hn : I64 n) (zs : List Int) (vb : Value) (fz j u : Int) (hfz : I64 fz) (hj : I64 j) (hu : I64 u) (t : ByteArray) (ht : t.size ≤ maxLen) (l : List Bool) (vk : Value) (w : World)
    (hb : IntAt .u8 zs vb w) (hz : ∀ z ∈ zs, 0 ≤ z ∧ z ≤ 255) (hzl : zs.length ≤ maxLen) (hk : BoolAt l vk w) (hkl : l.length ≤ maxLen) (hT : TabAt w) :
    Calls Tryd.prog 6 #[.agg (caseC n vb fz j u t vk)] w fun e w' => e = .returned (.bool true) ∧ Kept w w' := by
  have HBI := Lib.hid hb
  have HKI := Lib.hid hk
  obtain ⟨pb, cb, rfl, -⟩ := hb
  obtain ⟨pk, ck, rfl, -⟩ := hk
  have BG := fun W => big13_any n hn (.slice pb zs.length cb) fz j u t pk l.length ck ht hkl W
  have LD := fun (q : Nat) (h1 : 1 ≤ q) (h2 : q ≤ 40) W (h : IntAt .u8 zs (.slice pb zs.length cb) W) => laid_any ND q h1 h2 zs (.slice pb zs.length cb) fz j u t (.slice pk l.length ck) W h hz hzl
  obtain ⟨nb, hnb⟩ : ∃ nb, nb = zs.length := ⟨_, rfl⟩
  obtain ⟨kl, hkle⟩ : ∃ kl, kl = l.length := ⟨_, rfl⟩
  obtain ⟨tz, htz⟩ : ∃ tz, tz = t.size := ⟨_, rfl⟩
  have zt : t.size = tz := htz.symm
  rw [← hnb, ← hkle] at BG LD
  rw [← hnb] at HBI
  rw [← hkle] at HKI
  rw [← hnb, ← hkle]
  rw [zt] at BG
  unfold caseC at BG LD ⊢
  obtain ⟨W1, hW1⟩ : ∃ W1, W1 = w.alloc (.cells #[.int .i64 n, .slice pb nb cb, .int .i64 fz, .int .i64 j, .int .i64 u, .string t, .slice pk kl ck] 49) := ⟨_, rfl⟩
  have HW1 := Lib.hid hW1
  have K1 : Hid (Kept w W1) := Lib.hid (by rw [hW1]; exact box_below _ _)
  have HROW : Hid (W1.heap[w.heap.size]? = some (.cells #[.int .i64 n, .slice pb nb cb, .int .i64 fz, .int .i64 j, .int .i64 u, .string t, .slice pk kl ck] 49 (0, 0))) := Lib.hid (by rw [hW1]; exact heap_alloc_last w _)
  have HT1 : Hid (TabAt W1) := Lib.hid (hT.later K1.out)
  have HKB : Hid (BoolAt l (.slice pk kl ck) W1) := Lib.hid (HKI.out.later K1.out)
  have HBB : Hid (IntAt .u8 zs (.slice pb nb cb) W1) := Lib.hid (by
    obtain ⟨p, c, e, h⟩ := HBI.out
    refine ⟨p, c, e, ?_⟩
    rcases h with h0 | ⟨b, off, hp, hc⟩
    · exact Or.inl h0
    · exact Or.inr ⟨b, off, hp, fun i hi => K1.out.cell (hc i hi)⟩)
  have BG1 := BG W1
  have HJL := Lib.hid JL
  have HJA := Lib.hid JA
  have HJ := Lib.hid hj
  have HU := Lib.hid hu
  have HFZ := Lib.hid hfz
  have HTM : Hid (t.size ≤ maxLen) := Lib.hid ht
  have HTZ := Lib.hid htz
  have c0 : (w.alloc (.cells #[.int .i64 n, .slice pb nb cb, .int .i64 fz, .int .i64 j, .int .i64 u, .string t, .slice pk kl ck] 49)).cell? ⟨w.heap.size, 0, none⟩ = some (.int .i64 n) := by rw [← hW1, cell_of_row _ _ _ _ _ _ ((show Kept W1 _ from Kept.refl W1).row HROW.out)]; rfl
  have c1 : (w.alloc (.cells #[.int .i64 n, .slice pb nb cb, .int .i64 fz, .int .i64 j, .int .i64 u, .string t, .slice pk kl ck] 49)).cell? ⟨w.heap.size, 1, none⟩ = some (.slice pb nb cb) := by rw [← hW1, cell_of_row _ _ _ _ _ _ ((show Kept W1 _ from Kept.refl W1).row HROW.out)]; rfl
  have c2 : (w.alloc (.cells #[.int .i64 n, .slice pb nb cb, .int .i64 fz, .int .i64 j, .int .i64 u, .string t, .slice pk kl ck] 49)).cell? ⟨w.heap.size, 2, none⟩ = some (.int .i64 fz) := by rw [← hW1, cell_of_row _ _ _ _ _ _ ((show Kept W1 _ from Kept.refl W1).row HROW.out)]; rfl
  have c3 : (w.alloc (.cells #[.int .i64 n, .slice pb nb cb, .int .i64 fz, .int .i64 j, .int .i64 u, .string t, .slice pk kl ck] 49)).cell? ⟨w.heap.size, 3, none⟩ = some (.int .i64 j) := by rw [← hW1, cell_of_row _ _ _ _ _ _ ((show Kept W1 _ from Kept.refl W1).row HROW.out)]; rfl
  have c4 : (w.alloc (.cells #[.int .i64 n, .slice pb nb cb, .int .i64 fz, .int .i64 j, .int .i64 u, .string t, .slice pk kl ck] 49)).cell? ⟨w.heap.size, 4, none⟩ = some (.int .i64 u) := by rw [← hW1, cell_of_row _ _ _ _ _ _ ((show Kept W1 _ from Kept.refl W1).row HROW.out)]; rfl
  have c5 : (w.alloc (.cells #[.int .i64 n, .slice pb nb cb, .int .i64 fz, .int .i64 j, .int .i64 u, .string t, .slice pk kl ck] 49)).cell? ⟨w.heap.size, 5, none⟩ = some (.string t) := by rw [← hW1, cell_of_row _ _ _ _ _ _ ((show Kept W1 _ from Kept.refl W1).row HROW.out)]; rfl
  have c6 : (w.alloc (.cells #[.int .i64 n, .slice pb nb cb, .int .i64 fz, .int .i64 j, .int .i64 u, .string t, .slice pk kl ck] 49)).cell? ⟨w.heap.size, 6, none⟩ = some (.slice pk kl ck) := by rw [← hW1, cell_of_row _ _ _ _ _ _ ((show Kept W1 _ from Kept.refl W1).row HROW.out)]; rfl
  clear hz hzl hkl hT hnb hkle htz hW1 BG ND JL JA hn hj hu hfz ht HBI HKI
  go_enter Tryd.func6, Tryd.ntmps6
  go_wp2_with fail
  rw [← HW1.out]
  refine BG1.mono ?_
  rintro e w2 ⟨rfl, hb2⟩
  have K2 := Lib.hid hb2
  clear BG1 hb2 c0 c1 c2 c3 c4 c5 c6
  by_cases hbig : bigC n tz kl
  · rw [decide_eq_true hbig]
    have A2 := AW w2 (HT1.out.later K2.out)
    clear AW LD hbig
    go_wp2_with fail
    refine A2.mono ?_
    rintro e w3 ⟨rfl, hb3⟩
    have K3 := Lib.hid ((show Kept w W1 from K1.out).then ((show Kept W1 w2 from K2.out).then hb3))
    clear A2 hb3
    go_wp2
    first | go_ret | go_ret2
    exact ⟨rfl, K3.out⟩
  rw [decide_eq_false hbig]
  have hnb : (1 ≤ n ∧ n ≤ 40) ∧ tz ≤ 3000 ∧ kl ≤ 100 := by unfold bigC at hbig; omega
  obtain ⟨n, rfl⟩ : ∃ q : Nat, n = q := ⟨n.toNat, by omega⟩
  have HNB : Hid ((1 ≤ n ∧ n ≤ 40) ∧ tz ≤ 3000 ∧ kl ≤ 100) := Lib.hid (by omega)
  have HLF := Lib.hid (laidS_facts HNB.out.1.1 HNB.out.1.2 zs)
  have L2 := LD n HNB.out.1.1 HNB.out.1.2 w2 (by
    obtain ⟨p, c, e, h⟩ := HBB.out
    refine ⟨p, c, e, ?_⟩
    rcases h with h0 | ⟨b, off, hp, hc⟩
    · exact Or.inl h0
    · exact Or.inr ⟨b, off, hp, fun i hi => K2.out.cell (hc i hi)⟩)
  unfold LaidPost at L2
  have e0 : w2.cell? ⟨w.heap.size, 0, none⟩ = some (.int .i64 (n : Int)) := by rw [cell_of_row _ _ _ _ _ _ ((show Kept W1 _ from K2.out).row HROW.out)]; rfl
  have e1 : w2.cell? ⟨w.heap.size, 1, none⟩ = some (.slice pb nb cb) := by rw [cell_of_row _ _ _ _ _ _ ((show Kept W1 _ from K2.out).row HROW.out)]; rfl
  have e2 : w2.cell? ⟨w.heap.size, 2, none⟩ = some (.int .i64 fz) := by rw [cell_of_row _ _ _ _ _ _ ((show Kept W1 _ from K2.out).row HROW.out)]; rfl
  have e3 : w2.cell? ⟨w.heap.size, 3, none⟩ = some (.int .i64 j) := by rw [cell_of_row _ _ _ _ _ _ ((show Kept W1 _ from K2.out).row HROW.out)]; rfl
  have e4 : w2.cell? ⟨w.heap.size, 4, none⟩ = some (.int .i64 u) := by rw [cell_of_row _ _ _ _ _ _ ((show Kept W1 _ from K2.out).row HROW.out)]; rfl
  have e5 : w2.cell? ⟨w.heap.size, 5, none⟩ = some (.string t) := by rw [cell_of_row _ _ _ _ _ _ ((show Kept W1 _ from K2.out).row HROW.out)]; rfl
  have e6 : w2.cell? ⟨w.heap.size, 6, none⟩ = some (.slice pk kl ck) := by rw [cell_of_row _ _ _ _ _ _ ((show Kept W1 _ from K2.out).row HROW.out)]; rfl
  clear LD hbig hnb HBB
  go_wp2_with fail
  refine L2.mono ?_
  rintro e w3 ⟨hb3, ad, P, B, Br, g, Bs0, vs0, vw0, rfl, D, hp0, hB, hBr⟩
  have K3 : Hid (Kept W1 w3) := Lib.hid ((show Kept W1 w2 from K2.out).then hb3)
  have HD := Lib.hid D
  have HP0 := Lib.hid hp0
  have HBS : Hid (W1.heap.size ≤ B ∧ W1.heap.size ≤ Br) := Lib.hid ⟨Nat.le_trans K2.out.size hB, Nat.le_trans K2.out.size hBr⟩
  obtain ⟨s0, hs0⟩ : ∃ s0, s0 = laidS n zs := ⟨_, rfl⟩
  rw [← hs0] at HP0 HLF
  have DF := D.fuse s0 Bs0 w3 fz HP0.out.d (wf64 HFZ.out)
  unfold DPost at DF
  clear L2 hb3 D hp0 hB hBr hs0 e0 e1 e2 e3 e4 e5 e6
  have e2 : w3.cell? ⟨w.heap.size, 2, none⟩ = some (.int .i64 fz) := by rw [cell_of_row _ _ _ _ _ _ ((show Kept W1 _ from K3.out).row HROW.out)]; rfl
  go_wp2_with fail
  refine DF.mono ?_
  rintro e w4 ⟨rfl, ⟨Bs1, hd1, hs1⟩, hb1⟩
  have hr1 := HP0.out.r_stay hb1
  have K4 : Hid (Kept W1 w4) := Lib.hid (low_kept hb1 (fun k hk => Nat.le_trans HBS.out.1 (HP0.out.lt k hk).1) K3.out)
  clear e2
  have e2 : w4.cell? ⟨w.heap.size, 2, none⟩ = some (.int .i64 fz) := by rw [cell_of_row _ _ _ _ _ _ ((show Kept W1 _ from K4.out).row HROW.out)]; rfl
  have d2 : w4.cell? ⟨g, 2, none⟩ = some (.int .i64 s0.fuse) := hr1.cell 2 _ rfl
  have f2 := hr1.froz 2
  have hr2 : RAt Br g { s0 with fuse := fz } vs0 vw0 (w4.setCell ⟨g, 2, none⟩ (.int .i64 fz)) := hr1.fields (by rw [heap_setCell_same _ _ _ _ _ _ hr1.row]; rfl) (fun k _ hn => set_other _ _ _ _ _ hn) rfl rfl
  obtain ⟨s1, hs1e⟩ : ∃ s1 : Dk, s1 = { s0 with fuse := fz } := ⟨_, rfl⟩
  have hok1 : s1.ok := by rw [hs1e]; exact fuse_ok HLF.out.1 HFZ.out
  have HF1 : Hid (s1.ok ∧ s1.stands.length = n ∧ s1.ops ≤ 41 ∧ s1.down = false) := Lib.hid ⟨hok1, by rw [hs1e]; exact HLF.out.2.2.1, by rw [hs1e]; exact HLF.out.2.2.2.1, by rw [hs1e]; exact HLF.out.2.1.1⟩
  rw [← hs1e] at hd1 hr2
  have ST0 := HP0.out.step HD.out hd1 hs1 hb1 hr2 (fun k hk => Or.inl hk) (ButBy.setCell (Bs := fun k => k = g) (but_refl _ w4) g 2 _ rfl) hok1
  obtain ⟨⟨Bs2, vs2, vw2, hp2, -⟩, hb2⟩ := ST0
  obtain ⟨w5, hw5⟩ : ∃ w5, w5 = w4.setCell ⟨g, 2, none⟩ (.int .i64 fz) := ⟨_, rfl⟩
  have HW5 := Lib.hid hw5
  rw [← hw5] at hp2 hb2
  have HP2 := Lib.hid hp2
  have K5 : Hid (Kept W1 w5) := Lib.hid (low_kept hb2 (HP0.out.low HBS.out.1 HBS.out.2) K3.out)
  have AP := HJA.out _ _ _ HD.out s1 Bs2 w5 j u t hp2.d hok1 (by have := HF1.out.2.2.1; omega) HJ.out HU.out HTM.out
  unfold DPost at AP
  have x3 : (w4.setCell ⟨g, 2, none⟩ (.int .i64 fz)).cell? ⟨w.heap.size, 3, none⟩ = some (.int .i64 j) := by rw [← hw5, cell_of_row _ _ _ _ _ _ ((show Kept W1 _ from K5.out).row HROW.out)]; rfl
  have x4 : (w4.setCell ⟨g, 2, none⟩ (.int .i64 fz)).cell? ⟨w.heap.size, 4, none⟩ = some (.int .i64 u) := by rw [← hw5, cell_of_row _ _ _ _ _ _ ((show Kept W1 _ from K5.out).row HROW.out)]; rfl
  have x5 : (w4.setCell ⟨g, 2, none⟩ (.int .i64 fz)).cell? ⟨w.heap.size, 5, none⟩ = some (.string t) := by rw [← hw5, cell_of_row _ _ _ _ _ _ ((show Kept W1 _ from K5.out).row HROW.out)]; rfl
  clear hr1 hr2 hd1 hs1 hb1 DF hok1 hp2 hb2 hw5 hs1e
  go_wp2_with fail
  rw [← HW5.out]
  refine AP.mono ?_
  rintro e w6 ⟨rfl, ⟨Bs3, hd3, hs3⟩, hb3⟩
  have HD3 := Lib.hid hd3
  have HS3 := Lib.hid hs3
  have HB3 := Lib.hid hb3
  have HR3 := Lib.hid (HP2.out.r_stay hb3)
  have K6 : Hid (Kept W1 w6) := Lib.hid (low_kept hb3 (fun k hk => Nat.le_trans HBS.out.1 (HP2.out.lt k hk).1) K5.out)
  have FT := rfits_any (n : Int) j u (by have := HNB.out; omega) w6
  clear AP hd3 hs3 hb3 d2 f2 e2 x3 x4 x5
  have e0 : w6.cell? ⟨w.heap.size, 0, none⟩ = some (.int .i64 (n : Int)) := by rw [cell_of_row _ _ _ _ _ _ ((show Kept W1 _ from K6.out).row HROW.out)]; rfl
  have e3 : w6.cell? ⟨w.heap.size, 3, none⟩ = some (.int .i64 j) := by rw [cell_of_row _ _ _ _ _ _ ((show Kept W1 _ from K6.out).row HROW.out)]; rfl
  have e4 : w6.cell? ⟨w.heap.size, 4, none⟩ = some (.int .i64 u) := by rw [cell_of_row _ _ _ _ _ _ ((show Kept W1 _ from K6.out).row HROW.out)]; rfl
  go_wp2_with fail
  refine FT.mono ?_
  rintro e w7 ⟨rfl, hw7⟩
  subst hw7
  clear FT
  have HS1L := HF1.out.2.1
  by_cases hf : jFits (n : Nat) j u
  case neg =>
    rw [decide_eq_false hf]
    have hja : jAp s1 j u t.data.toList = (s1, 0, 1) := by unfold jAp; rw [HS1L, if_pos hf]
    have hjl : jLd s1 j u = ([], 1) := by unfold jLd; rw [HS1L, if_pos hf]
    rw [hja] at HD3 ⊢
    obtain ⟨⟨Bs4, vs4, vw4, hp4, -⟩, -⟩ := HP2.out.step HD.out HD3.out HS3.out HB3.out HR3.out (fun k hk => Or.inl hk) (but_refl _ _) HF1.out.1
    have HP4 := Lib.hid hp4
    have LO := HJL.out _ _ _ HD.out s1 Bs4 w6 j u hp4.d HF1.out.1 (by have := HF1.out.2.2.1; omega) HJ.out HU.out
    rw [hjl] at LO
    clear hja hjl hp4 hf HD3 HR3
    go_wp2_with fail
    refine LO.mono ?_
    rintro e w8 ⟨rfl, hb8⟩
    have K8 : Hid (Kept W1 w8) := Lib.hid ((show Kept W1 w6 from K6.out).then hb8)
    have HP8 := Lib.hid (HP4.out.kept HD.out hb8)
    have b5 : (str []).toList = [] := by rw [ByteArray.toList_eq, str_list]
    have b6 : ((str []).toList == []) = true := by rw [b5]; rfl
    have b7 : (str []).toList.isEmpty = true := by rw [b5]; rfl
    clear LO hb8 e0 e3 e4
    obtain ⟨WZ, hWZ⟩ : ∃ WZ, WZ = w8 := ⟨_, rfl⟩
    have KZ : Hid (Kept W1 WZ) := Lib.hid (by rw [hWZ]; exact K8.out)
    have HPZ := Lib.hid (show Pair B Br g P s1 _ _ _ WZ by rw [hWZ]; exact HP8.out)
    have CO := fun W (h : Kept WZ W) => HD.out.ops s1 _ W (HD.out.kept HPZ.out.d h)
    have CA := fun W (h : Kept WZ W) => AW W (HT1.out.later ((show Kept W1 WZ from KZ.out).then h))
    have H3 : Hid (WZ.cell? ⟨g, 3, none⟩ = some (.int .i64 (s1.ops : Nat))) := Lib.hid (HPZ.out.r.cell 3 _ rfl)
    obtain ⟨o, ho⟩ : ∃ o, o = s1.ops := ⟨_, rfl⟩
    rw [← ho] at CO H3
    have b3 : ((o : Int) == (o : Int)) = true := by simp
    have b4 : ((⟨#[]⟩ : ByteArray).toList == (⟨#[]⟩ : ByteArray).toList) = true := by simp
    subst hWZ
    clear ho
    go_wp2_with fail
    refine wp_region_kept (by kernel_rfl) (by kernel_rfl) ?_
    refine wpQuiet_pure (v := ?_) (by kernel_rfl) ?_ (fun K hK => ?_)
    case refine_2 => intro W _; go_simp; try with_reducible rfl
    go_simp
    refine hK _ ?_; clear hK K
    refine wpQuiet_pure (by kernel_rfl) (.bool true) (fun W _ => by go_simp) (fun K hK => ?_)
    go_simp
    refine hK _ ?_; clear hK K
    refine wpQuiet_pure (v := ?_) (by kernel_rfl) ?_ (fun K hK => ?_)
    case refine_2 => intro W _; go_simp; try with_reducible rfl
    go_simp
    refine hK _ ?_; clear hK K
    refine wpQuiet_pure (v := ?_) (by kernel_rfl) ?_ (fun K hK => ?_)
    case refine_2 => intro W _; go_simp; try with_reducible rfl
    go_simp
    refine hK _ ?_; clear hK K
    refine wpQuiet_pure (by kernel_rfl) (.bool true) (fun W _ => by go_simp) (fun K hK => ?_)
    go_simp
    refine hK _ ?_; clear hK K
    refine wpQuiet_pure (v := ?_) (by kernel_rfl) ?_ (fun K hK => ?_)
    case refine_2 => intro W _; go_simp; try with_reducible rfl
    go_simp
    refine hK _ ?_; clear hK K
    refine wpQuiet_pure (v := ?_) (by kernel_rfl) ?_ (fun K hK => ?_)
    case refine_2 => intro W _; go_simp; try with_reducible rfl
    go_simp
    refine hK _ ?_; clear hK K
    refine wpQuiet_pure (v := ?_) (by kernel_rfl) ?_ (fun K hK => ?_)
    case refine_2 => intro W _; go_simp; try with_reducible rfl
    go_simp
    refine hK _ ?_; clear hK K
    refine wpQuiet_pure (by kernel_rfl) (.bool true) (fun W _ => by go_simp) (fun K hK => ?_)
    go_simp
    refine hK _ ?_; clear hK K
    refine wpQuiet_pure (v := ?_) (by kernel_rfl) ?_ (fun K hK => ?_)
    case refine_2 => intro W _; go_simp; try with_reducible rfl
    go_simp
    refine hK _ ?_; clear hK K
    refine wpQuiet_pure (v := ?_) (by kernel_rfl) ?_ (fun K hK => ?_)
    case refine_2 => intro W _; go_simp; try with_reducible rfl
    go_simp
    refine hK _ ?_; clear hK K
    refine wpQuiet_pure (v := ?_) (by kernel_rfl) ?_ (fun K hK => ?_)
    case refine_2 => intro W _; go_simp; try with_reducible rfl
    go_simp
    refine hK _ ?_; clear hK K
    refine wpQuiet_pure (by kernel_rfl) (.bool true) (fun W _ => by go_simp) (fun K hK => ?_)
    go_simp
    refine hK _ ?_; clear hK K
    refine wpQuiet_pure (v := ?_) (by kernel_rfl) ?_ (fun K hK => ?_)
    case refine_2 => intro W _; go_simp; try with_reducible rfl
    go_simp
    refine hK _ ?_; clear hK K
    refine wpQuiet_pure (v := ?_) (by kernel_rfl) ?_ (fun K hK => ?_)
    case refine_2 => intro W _; go_simp; try with_reducible rfl
    go_simp
    refine hK _ ?_; clear hK K
    refine wpQuiet_pure (v := ?_) (by kernel_rfl) ?_ (fun K hK => ?_)
    case refine_2 => intro W _; go_simp; try with_reducible rfl
    go_simp
    refine hK _ ?_; clear hK K
    refine wpQuiet_call (by kernel_rfl) _ _ _ (fun W => by go_simp) (fun W h => Calls.kept_of h (CO W h)) (fun K hK => ?_)
    go_simp
    refine hK _ ?_; clear hK K
    refine wpQuiet_pure (v := ?_) (by kernel_rfl) ?_ (fun K hK => ?_)
    case refine_2 => intro W _; go_simp; try with_reducible rfl
    go_simp
    refine hK _ ?_; clear hK K
    refine wpQuiet_pure (v := ?_) (by kernel_rfl) ?_ (fun K hK => ?_)
    case refine_2 => intro W _; go_simp; try with_reducible rfl
    go_simp
    refine hK _ ?_; clear hK K
    refine wpQuiet_pure (v := ?_) (by kernel_rfl) ?_ (fun K hK => ?_)
    case refine_2 => intro W _; go_simp; try with_reducible rfl
    go_simp
    refine hK _ ?_; clear hK K
    refine wpQuiet_load_cell (by kernel_rfl) _ _ rfl ⟨g, 3, none⟩ rfl _ Tryd.underlying3 rfl _ (fun _ h => h.cell H3.out) (fun K hK => ?_)
    go_simp
    refine hK _ ?_; clear hK K
    refine wpQuiet_pure (by kernel_rfl) (.bool true) (fun W _ => by go_simp) (fun K hK => ?_)
    go_simp
    refine hK _ ?_; clear hK K
    refine wpQuiet_pure (v := ?_) (by kernel_rfl) ?_ (fun K hK => ?_)
    case refine_2 => intro W _; go_simp; try with_reducible rfl
    go_simp
    refine hK _ ?_; clear hK K
    refine wpQuiet_pure (v := ?_) (by kernel_rfl) ?_ (fun K hK => ?_)
    case refine_2 => intro W _; go_simp; try with_reducible rfl
    go_simp
    refine hK _ ?_; clear hK K
    refine wpQuiet_call (by kernel_rfl) _ _ _ (fun W => by go_simp) (fun W h => Calls.kept_of h (CA W h)) (fun K hK => ?_)
    go_simp
    refine hK _ ?_; clear hK K
    refine wpQuiet_pure (v := ?_) (by kernel_rfl) ?_ (fun K hK => ?_)
    case refine_2 => intro W _; go_simp; try with_reducible rfl
    go_simp
    refine hK _ ?_; clear hK K
    refine wpQuiet_pure (v := ?_) (by kernel_rfl) ?_ (fun K hK => ?_)
    case refine_2 => intro W _; go_simp; try with_reducible rfl
    go_simp
    refine hK _ ?_; clear hK K
    refine wpQuiet_nil ?_
    intro w9 hk9
    have K9 := Lib.hid ((show Kept w W1 from K1.out).then ((show Kept W1 WZ from KZ.out).then hk9))
    clear hk9
    go_wp2
    go_ret
    exact ⟨rfl, K9.out⟩
  case pos =>
    rw [decide_eq_true hf]
    obtain ⟨z, rfl⟩ : ∃ z : Nat, u = z := ⟨u.toNat, by unfold jFits at hf; omega⟩
    obtain ⟨m, hm⟩ : ∃ m : Int, m = j * 128 := ⟨_, rfl⟩
    have v1 : IntKind.i64.wrap (j * 128) = m := by rw [← hm]; exact IntWalk.i64_in _ (by unfold jFits at hf; have := HNB.out; omega)
    obtain ⟨y, hy⟩ : ∃ y : Int, y = m - (z : Int) := ⟨_, rfl⟩
    have v2 : IntKind.i64.wrap (m - (z : Int)) = y := by rw [← hy]; exact IntWalk.i64_in _ (by unfold jFits at hf; have := HNB.out; omega)
    have hdl : t.data.toList.length = tz := by rw [data_len]; exact zt
    clear e0 e3 e4
    have e3 : w6.cell? ⟨w.heap.size, 3, none⟩ = some (.int .i64 j) := by rw [cell_of_row _ _ _ _ _ _ ((show Kept W1 _ from K6.out).row HROW.out)]; rfl
    have e4 : w6.cell? ⟨w.heap.size, 4, none⟩ = some (.int .i64 (z : Nat)) := by rw [cell_of_row _ _ _ _ _ _ ((show Kept W1 _ from K6.out).row HROW.out)]; rfl
    have e5 : w6.cell? ⟨w.heap.size, 5, none⟩ = some (.string t) := by rw [cell_of_row _ _ _ _ _ _ ((show Kept W1 _ from K6.out).row HROW.out)]; rfl
    by_cases hfull : (tz : Int) > y
    · have b1 : decide ((tz : Int) > y) = true := decide_eq_true hfull
      have hja : jAp s1 j z t.data.toList = (s1, 0, 100) := by unfold jAp; rw [HS1L, if_neg (fun q => q hf), if_pos (by omega)]
      rw [hja] at HD3 ⊢
      obtain ⟨⟨Bs4, vs4, vw4, hp4, -⟩, -⟩ := HP2.out.step HD.out HD3.out HS3.out HB3.out HR3.out (fun k hk => Or.inl hk) (but_refl _ _) HF1.out.1
      have HP4 := Lib.hid hp4
      clear hja hp4 hf HD3 HR3 hfull hm hy hdl
      obtain ⟨WZ, hWZ⟩ : ∃ WZ, WZ = w6 := ⟨_, rfl⟩
      have KZ : Hid (Kept W1 WZ) := Lib.hid (by rw [hWZ]; exact K6.out)
      have HPZ := Lib.hid (show Pair B Br g P s1 _ _ _ WZ by rw [hWZ]; exact HP4.out)
      have CO := fun W (h : Kept WZ W) => HD.out.ops s1 _ W (HD.out.kept HPZ.out.d h)
      have CA := fun W (h : Kept WZ W) => AW W (HT1.out.later ((show Kept W1 WZ from KZ.out).then h))
      have H3 : Hid (WZ.cell? ⟨g, 3, none⟩ = some (.int .i64 (s1.ops : Nat))) := Lib.hid (HPZ.out.r.cell 3 _ rfl)
      obtain ⟨o, ho⟩ : ∃ o, o = s1.ops := ⟨_, rfl⟩
      rw [← ho] at CO H3
      have b3 : ((o : Int) == (o : Int)) = true := by simp
      have b4 : ((⟨#[]⟩ : ByteArray).toList == (⟨#[]⟩ : ByteArray).toList) = true := by simp
      subst hWZ
      clear ho
      go_wp2_with fail
      refine wp_region_kept (by kernel_rfl) (by kernel_rfl) ?_
      refine wpQuiet_pure (v := ?_) (by kernel_rfl) ?_ (fun K hK => ?_)
      case refine_2 => intro W _; go_simp; try with_reducible rfl
      go_simp
      refine hK _ ?_; clear hK K
      refine wpQuiet_pure (by kernel_rfl) (.bool true) (fun W _ => by go_simp) (fun K hK => ?_)
      go_simp
      refine hK _ ?_; clear hK K
      refine wpQuiet_pure (v := ?_) (by kernel_rfl) ?_ (fun K hK => ?_)
      case refine_2 => intro W _; go_simp; try with_reducible rfl
      go_simp
      refine hK _ ?_; clear hK K
      refine wpQuiet_pure (v := ?_) (by kernel_rfl) ?_ (fun K hK => ?_)
      case refine_2 => intro W _; go_simp; try with_reducible rfl
      go_simp
      refine hK _ ?_; clear hK K
      refine wpQuiet_pure (by kernel_rfl) (.bool true) (fun W _ => by go_simp) (fun K hK => ?_)
      go_simp
      refine hK _ ?_; clear hK K
      refine wpQuiet_pure (v := ?_) (by kernel_rfl) ?_ (fun K hK => ?_)
      case refine_2 => intro W _; go_simp; try with_reducible rfl
      go_simp
      refine hK _ ?_; clear hK K
      refine wpQuiet_pure (v := ?_) (by kernel_rfl) ?_ (fun K hK => ?_)
      case refine_2 => intro W _; go_simp; try with_reducible rfl
      go_simp
      refine hK _ ?_; clear hK K
      refine wpQuiet_pure (v := ?_) (by kernel_rfl) ?_ (fun K hK => ?_)
      case refine_2 => intro W _; go_simp; try with_reducible rfl
      go_simp
      refine hK _ ?_; clear hK K
      refine wpQuiet_call (by kernel_rfl) _ _ _ (fun W => by go_simp) (fun W h => Calls.kept_of h (CO W h)) (fun K hK => ?_)
      go_simp
      refine hK _ ?_; clear hK K
      refine wpQuiet_pure (v := ?_) (by kernel_rfl) ?_ (fun K hK => ?_)
      case refine_2 => intro W _; go_simp; try with_reducible rfl
      go_simp
      refine hK _ ?_; clear hK K
      refine wpQuiet_pure (v := ?_) (by kernel_rfl) ?_ (fun K hK => ?_)
      case refine_2 => intro W _; go_simp; try with_reducible rfl
      go_simp
      refine hK _ ?_; clear hK K
      refine wpQuiet_pure (v := ?_) (by kernel_rfl) ?_ (fun K hK => ?_)
      case refine_2 => intro W _; go_simp; try with_reducible rfl
      go_simp
      refine hK _ ?_; clear hK K
      refine wpQuiet_load_cell (by kernel_rfl) _ _ rfl ⟨g, 3, none⟩ rfl _ Tryd.underlying3 rfl _ (fun _ h => h.cell H3.out) (fun K hK => ?_)
      go_simp
      refine hK _ ?_; clear hK K
      refine wpQuiet_pure (by kernel_rfl) (.bool true) (fun W _ => by go_simp) (fun K hK => ?_)
      go_simp
      refine hK _ ?_; clear hK K
      refine wpQuiet_pure (v := ?_) (by kernel_rfl) ?_ (fun K hK => ?_)
      case refine_2 => intro W _; go_simp; try with_reducible rfl
      go_simp
      refine hK _ ?_; clear hK K
      refine wpQuiet_pure (v := ?_) (by kernel_rfl) ?_ (fun K hK => ?_)
      case refine_2 => intro W _; go_simp; try with_reducible rfl
      go_simp
      refine hK _ ?_; clear hK K
      refine wpQuiet_call (by kernel_rfl) _ _ _ (fun W => by go_simp) (fun W h => Calls.kept_of h (CA W h)) (fun K hK => ?_)
      go_simp
      refine hK _ ?_; clear hK K
      refine wpQuiet_pure (v := ?_) (by kernel_rfl) ?_ (fun K hK => ?_)
      case refine_2 => intro W _; go_simp; try with_reducible rfl
      go_simp
      refine hK _ ?_; clear hK K
      refine wpQuiet_pure (v := ?_) (by kernel_rfl) ?_ (fun K hK => ?_)
      case refine_2 => intro W _; go_simp; try with_reducible rfl
      go_simp
      refine hK _ ?_; clear hK K
      refine wpQuiet_nil ?_
      intro w9 hk9
      have K9 := Lib.hid ((show Kept w W1 from K1.out).then ((show Kept W1 WZ from KZ.out).then hk9))
      clear hk9
      go_wp2
      go_ret
      exact ⟨rfl, K9.out⟩
    · have b1 : decide ((tz : Int) > y) = false := decide_eq_false hfull
      have hfit : t.size ≠ 0 → 256 + z + t.size ≤ 128 * s1.stands.length := fun _ => by rw [HS1L, zt]; unfold jFits at hf; omega
      have hz2 : 2 + cntJ z ≤ s1.stands.length := by rw [HS1L]; unfold jFits at hf; unfold cntJ; omega
      have hja : jAp s1 j z t.data.toList = ((jApp s1 z t.data.toList).1, if (jApp s1 z t.data.toList).2 = 0 then (z : Int) + tz else 0, (jApp s1 z t.data.toList).2) := by
        unfold jAp; rw [HS1L, if_neg (fun q => q hf), if_neg (by omega), Int.toNat_natCast, hdl]
      have hls : ∀ q : Dk, q.stands.length = n → jLd q j z = jLoad q z := fun q hq => by unfold jLd; rw [hq, if_neg (fun q => q hf), Int.toNat_natCast]
      have RA := rapp13_any HR3.out HF1.out.1 (by have := HF1.out.2.2.1; omega) (Nat.le_trans HP2.out.base HB3.out.size) z t hfit
      have hst2 := jApp_stands s1 z t.data.toList
      have hok2 := jApp_ok HF1.out.1 z t.data.toList
      have hop2 : (jApp s1 z t.data.toList).1.ops ≤ 100000 := by
        have h1 := jApp_ops s1 z t.data.toList
        have h2 : (jApT s1 z t.data.toList).length ≤ 128 + tz := by unfold jApT; rw [List.length_append, List.length_take, hdl]; omega
        have h3 : cntJ (jApT s1 z t.data.toList).length ≤ 100 := by unfold cntJ; have := HNB.out; omega
        have := HF1.out.2.2.1
        omega
      rw [hja] at HD3 ⊢
      obtain ⟨s2, er, hse⟩ : ∃ s2 er, jApp s1 z t.data.toList = (s2, er) := ⟨_, _, rfl⟩
      rw [hse] at HD3 RA hst2 hok2 hop2 ⊢
      simp only at HD3 RA hst2 hok2 hop2 ⊢
      have HF2 : Hid (s2.ok ∧ s2.stands.length = n ∧ s2.ops ≤ 100000) := Lib.hid ⟨hok2, by rw [hst2]; exact HS1L, hop2⟩
      have HZ2 : Hid (2 + cntJ z ≤ s2.stands.length) := Lib.hid (by rw [hst2]; exact hz2)
      have HLS : Hid (jLd s2 j z = jLoad s2 z) := Lib.hid (hls s2 HF2.out.2.1)
      unfold RPost at RA
      obtain ⟨v, hv⟩ : ∃ v : Int, v = (z : Int) + tz := ⟨_, rfl⟩
      have v3 : IntKind.i64.wrap ((z : Int) + (tz : Int)) = v := by rw [← hv]; exact IntWalk.i64_in _ (by unfold jFits at hf; have := HNB.out; omega)
      obtain ⟨nn, hnn⟩ : ∃ nn : Int, nn = if er = 0 then v else 0 := ⟨_, rfl⟩
      rw [← hv, ← hnn]
      clear hfull hfit hz2 hja hls hst2 hok2 hop2 hse hm hy hdl hf hv
      go_wp2_with fail
      refine RA.mono ?_
      rintro e w8 ⟨rfl, vs5, vw5, hr5, hs5, hb5⟩
      have ST := HP2.out.step HD.out HD3.out HS3.out HB3.out hr5 hs5 hb5 HF2.out.1
      obtain ⟨⟨Bs6, vs6, vw6, hp6, -⟩, hb6⟩ := ST
      have HP6 := Lib.hid hp6
      have K8 : Hid (Kept W1 w8) := Lib.hid (low_kept hb6 (HP2.out.low HBS.out.1 HBS.out.2) K5.out)
      have CO := fun W (h : Kept w8 W) => HD.out.ops s2 _ W (HD.out.kept HP6.out.d h)
      have CW := fun W (h : Kept w8 W) => HD.out.waits s2 _ W (HD.out.kept HP6.out.d h)
      have CD := fun W (h : Kept w8 W) => HD.out.down s2 _ W (HD.out.kept HP6.out.d h)
      obtain ⟨pw, cw, hvw, -, -⟩ := own_slice HP6.out.r.wt
      have H1 : Hid (w8.cell? ⟨g, 1, none⟩ = some vw6) := Lib.hid (HP6.out.r.cell 1 _ rfl)
      have H3 : Hid (w8.cell? ⟨g, 3, none⟩ = some (.int .i64 (s2.ops : Nat))) := Lib.hid (HP6.out.r.cell 3 _ rfl)
      have H4 : Hid (w8.cell? ⟨g, 4, none⟩ = some (.bool s2.down)) := Lib.hid (HP6.out.r.cell 4 _ rfl)
      rw [hvw] at H1
      obtain ⟨o, ho⟩ : ∃ o, o = s2.ops := ⟨_, rfl⟩
      rw [← ho] at CO H3
      obtain ⟨nw, hnw⟩ : ∃ nw, nw = s2.waits.length := ⟨_, rfl⟩
      rw [← hnw] at CW H1
      obtain ⟨dn, hdn⟩ : ∃ dn, dn = s2.down := ⟨_, rfl⟩
      rw [← hdn] at CD H4
      have b3 : ((o : Int) != (o : Int)) = false := by simp
      have b4 : ((nw : Int) != (nw : Int)) = false := by simp
      have b5 : (dn != dn) = false := by simp
      have b6 : (nn != nn) = false := by simp
      have b7 : (er != er) = false := by simp
      obtain ⟨LT, LE, hld⟩ : ∃ a b, jLoad s2 z = (a, b) := ⟨_, _, rfl⟩
      obtain ⟨LS, hLS⟩ : ∃ LS, LS = str LT := ⟨_, rfl⟩
      have CL := fun W (h : Kept w8 W) => HJL.out _ _ _ HD.out s2 Bs6 W j z (HD.out.kept HP6.out.d h) HF2.out.1 (by have := HF2.out.2.2; omega) HJ.out HU.out
      rw [HLS.out, hld] at CL
      simp only at CL
      rw [← hLS] at CL
      have CLR := fun W (h : Kept w8 W) => rload13_any (HP6.out.r.kept h) HF2.out.1 (by have := HF2.out.2.2; omega) z HZ2.out
      rw [hld] at CLR
      simp only at CLR
      rw [← hLS] at CLR
      have b8 : (LS.toList != LS.toList) = false := by simp
      have b8' : (LS.toList == LS.toList) = true := by simp
      have b9 : (LE != LE) = false := by simp
      have HOP2 : Hid (s2.ops ≤ 4294967296) := Lib.hid (by have := HF2.out.2.2; omega)
      clear hr5 hs5 hb5 hp6 hb6 hvw ho hnw hdn hld hLS RA e3 e4 e5 HD3 HR3
      have e3 : w8.cell? ⟨w.heap.size, 3, none⟩ = some (.int .i64 j) := by rw [cell_of_row _ _ _ _ _ _ ((show Kept W1 _ from K8.out).row HROW.out)]; rfl
      have e4 : w8.cell? ⟨w.heap.size, 4, none⟩ = some (.int .i64 (z : Nat)) := by rw [cell_of_row _ _ _ _ _ _ ((show Kept W1 _ from K8.out).row HROW.out)]; rfl
      have e5 : w8.cell? ⟨w.heap.size, 5, none⟩ = some (.string t) := by rw [cell_of_row _ _ _ _ _ _ ((show Kept W1 _ from K8.out).row HROW.out)]; rfl
      by_cases he : er = 0
      · have b2 : (er != 0) = false := by rw [bne_eq_false_iff_eq]; exact he
        obtain rfl : nn = v := by rw [hnn, if_pos he]
        clear he hnn
        go_wp2_with fail
        refine wp_region_kept (by kernel_rfl) (by kernel_rfl) ?_
        refine wpQuiet_pure (v := ?_) (by kernel_rfl) ?_ (fun K hK => ?_)
        case refine_2 => intro W _; go_simp; try with_reducible rfl
        go_simp
        refine hK _ ?_; clear hK K
        refine wpQuiet_pure (v := ?_) (by kernel_rfl) ?_ (fun K hK => ?_)
        case refine_2 => intro W _; go_simp; try with_reducible rfl
        go_simp
        refine hK _ ?_; clear hK K
        refine wpQuiet_pure (by kernel_rfl) (.bool false) (fun W _ => by go_simp) (fun K hK => ?_)
        go_simp
        refine hK _ ?_; clear hK K
        refine wpQuiet_pure (v := ?_) (by kernel_rfl) ?_ (fun K hK => ?_)
        case refine_2 => intro W _; go_simp; try with_reducible rfl
        go_simp
        refine hK _ ?_; clear hK K
        refine wpQuiet_pure (v := ?_) (by kernel_rfl) ?_ (fun K hK => ?_)
        case refine_2 => intro W _; go_simp; try with_reducible rfl
        go_simp
        refine hK _ ?_; clear hK K
        refine wpQuiet_pure (v := ?_) (by kernel_rfl) ?_ (fun K hK => ?_)
        case refine_2 => intro W _; go_simp; try with_reducible rfl
        go_simp
        refine hK _ ?_; clear hK K
        refine wpQuiet_pure (by kernel_rfl) (.bool false) (fun W _ => by go_simp) (fun K hK => ?_)
        go_simp
        refine hK _ ?_; clear hK K
        refine wpQuiet_pure (v := ?_) (by kernel_rfl) ?_ (fun K hK => ?_)
        case refine_2 => intro W _; go_simp; try with_reducible rfl
        go_simp
        refine hK _ ?_; clear hK K
        refine wpQuiet_pure (v := ?_) (by kernel_rfl) ?_ (fun K hK => ?_)
        case refine_2 => intro W _; go_simp; try with_reducible rfl
        go_simp
        refine hK _ ?_; clear hK K
        refine wpQuiet_pure (v := ?_) (by kernel_rfl) ?_ (fun K hK => ?_)
        case refine_2 => intro W _; go_simp; try with_reducible rfl
        go_simp
        refine hK _ ?_; clear hK K
        refine wpQuiet_call (by kernel_rfl) _ _ _ (fun W => by go_simp) (fun W h => Calls.kept_of h (CO W h)) (fun K hK => ?_)
        go_simp
        refine hK _ ?_; clear hK K
        refine wpQuiet_pure (v := ?_) (by kernel_rfl) ?_ (fun K hK => ?_)
        case refine_2 => intro W _; go_simp; try with_reducible rfl
        go_simp
        refine hK _ ?_; clear hK K
        refine wpQuiet_pure (v := ?_) (by kernel_rfl) ?_ (fun K hK => ?_)
        case refine_2 => intro W _; go_simp; try with_reducible rfl
        go_simp
        refine hK _ ?_; clear hK K
        refine wpQuiet_pure (v := ?_) (by kernel_rfl) ?_ (fun K hK => ?_)
        case refine_2 => intro W _; go_simp; try with_reducible rfl
        go_simp
        refine hK _ ?_; clear hK K
        refine wpQuiet_load_cell (by kernel_rfl) _ _ rfl ⟨g, 3, none⟩ rfl _ Tryd.underlying3 rfl _ (fun _ h => h.cell H3.out) (fun K hK => ?_)
        go_simp
        refine hK _ ?_; clear hK K
        refine wpQuiet_pure (by kernel_rfl) (.bool false) (fun W _ => by go_simp) (fun K hK => ?_)
        go_simp
        refine hK _ ?_; clear hK K
        refine wpQuiet_pure (v := ?_) (by kernel_rfl) ?_ (fun K hK => ?_)
        case refine_2 => intro W _; go_simp; try with_reducible rfl
        go_simp
        refine hK _ ?_; clear hK K
        refine wpQuiet_pure (v := ?_) (by kernel_rfl) ?_ (fun K hK => ?_)
        case refine_2 => intro W _; go_simp; try with_reducible rfl
        go_simp
        refine hK _ ?_; clear hK K
        refine wpQuiet_pure (v := ?_) (by kernel_rfl) ?_ (fun K hK => ?_)
        case refine_2 => intro W _; go_simp; try with_reducible rfl
        go_simp
        refine hK _ ?_; clear hK K
        refine wpQuiet_call (by kernel_rfl) _ _ _ (fun W => by go_simp) (fun W h => Calls.kept_of h (CW W h)) (fun K hK => ?_)
        go_simp
        refine hK _ ?_; clear hK K
        refine wpQuiet_pure (v := ?_) (by kernel_rfl) ?_ (fun K hK => ?_)
        case refine_2 => intro W _; go_simp; try with_reducible rfl
        go_simp
        refine hK _ ?_; clear hK K
        refine wpQuiet_pure (v := ?_) (by kernel_rfl) ?_ (fun K hK => ?_)
        case refine_2 => intro W _; go_simp; try with_reducible rfl
        go_simp
        refine hK _ ?_; clear hK K
        refine wpQuiet_pure (v := ?_) (by kernel_rfl) ?_ (fun K hK => ?_)
        case refine_2 => intro W _; go_simp; try with_reducible rfl
        go_simp
        refine hK _ ?_; clear hK K
        refine wpQuiet_load_cell (by kernel_rfl) _ _ rfl ⟨g, 1, none⟩ rfl _ Tryd.underlying57 rfl _ (fun _ h => h.cell H1.out) (fun K hK => ?_)
        go_simp
        refine hK _ ?_; clear hK K
        refine wpQuiet_pure (v := ?_) (by kernel_rfl) ?_ (fun K hK => ?_)
        case refine_2 => intro W _; go_simp; try with_reducible rfl
        go_simp
        refine hK _ ?_; clear hK K
        refine wpQuiet_pure (by kernel_rfl) (.bool false) (fun W _ => by go_simp) (fun K hK => ?_)
        go_simp
        refine hK _ ?_; clear hK K
        refine wpQuiet_pure (v := ?_) (by kernel_rfl) ?_ (fun K hK => ?_)
        case refine_2 => intro W _; go_simp; try with_reducible rfl
        go_simp
        refine hK _ ?_; clear hK K
        refine wpQuiet_pure (v := ?_) (by kernel_rfl) ?_ (fun K hK => ?_)
        case refine_2 => intro W _; go_simp; try with_reducible rfl
        go_simp
        refine hK _ ?_; clear hK K
        refine wpQuiet_pure (v := ?_) (by kernel_rfl) ?_ (fun K hK => ?_)
        case refine_2 => intro W _; go_simp; try with_reducible rfl
        go_simp
        refine hK _ ?_; clear hK K
        refine wpQuiet_call (by kernel_rfl) _ _ _ (fun W => by go_simp) (fun W h => Calls.kept_of h (CD W h)) (fun K hK => ?_)
        go_simp
        refine hK _ ?_; clear hK K
        refine wpQuiet_pure (v := ?_) (by kernel_rfl) ?_ (fun K hK => ?_)
        case refine_2 => intro W _; go_simp; try with_reducible rfl
        go_simp
        refine hK _ ?_; clear hK K
        refine wpQuiet_pure (v := ?_) (by kernel_rfl) ?_ (fun K hK => ?_)
        case refine_2 => intro W _; go_simp; try with_reducible rfl
        go_simp
        refine hK _ ?_; clear hK K
        refine wpQuiet_pure (v := ?_) (by kernel_rfl) ?_ (fun K hK => ?_)
        case refine_2 => intro W _; go_simp; try with_reducible rfl
        go_simp
        refine hK _ ?_; clear hK K
        refine wpQuiet_load_cell (by kernel_rfl) _ _ rfl ⟨g, 4, none⟩ rfl _ Tryd.underlying4 rfl _ (fun _ h => h.cell H4.out) (fun K hK => ?_)
        go_simp
        refine hK _ ?_; clear hK K
        refine wpQuiet_pure (by kernel_rfl) (.bool false) (fun W _ => by go_simp) (fun K hK => ?_)
        go_simp
        refine hK _ ?_; clear hK K
        refine wpQuiet_pure (v := ?_) (by kernel_rfl) ?_ (fun K hK => ?_)
        case refine_2 => intro W _; go_simp; try with_reducible rfl
        go_simp
        refine hK _ ?_; clear hK K
        refine wpQuiet_nil ?_
        intro w9 hk9
        have hk9' := hk9
        have K9 : Hid (Kept W1 w9) := Lib.hid ((show Kept W1 w8 from K8.out).then hk9)
        have HP9 := Lib.hid (HP6.out.kept HD.out hk9)
        have L9 := CL w9 hk9
        have e3 : w9.cell? ⟨w.heap.size, 3, none⟩ = some (.int .i64 j) := by rw [cell_of_row _ _ _ _ _ _ ((show Kept W1 _ from K9.out).row HROW.out)]; rfl
        have e4 : w9.cell? ⟨w.heap.size, 4, none⟩ = some (.int .i64 (z : Nat)) := by rw [cell_of_row _ _ _ _ _ _ ((show Kept W1 _ from K9.out).row HROW.out)]; rfl
        have HK89 := Lib.hid hk9
        clear hk9 hk9' CO CW CD CL
        go_wp2_with fail
        refine L9.mono ?_
        rintro e w10 ⟨rfl, hb10⟩
        have HK810 : Hid (Kept w8 w10) := Lib.hid ((show Kept w8 w9 from HK89.out).then hb10)
        have K10 : Hid (Kept W1 w10) := Lib.hid ((show Kept W1 w9 from K9.out).then hb10)
        have L10 := CLR w10 HK810.out
        have HP10 := Lib.hid (HP9.out.kept HD.out hb10)
        clear L9 hb10 e3 e4 CLR
        have e4 : w10.cell? ⟨w.heap.size, 4, none⟩ = some (.int .i64 (z : Nat)) := by rw [cell_of_row _ _ _ _ _ _ ((show Kept W1 _ from K10.out).row HROW.out)]; rfl
        go_wp2_with fail
        refine L10.mono ?_
        rintro e w11 ⟨rfl, hw11⟩
        subst hw11
        have PW := HD.out.power s2 Bs6 w10 l (.slice pk kl ck) HP10.out.d HP10.out.ok HOP2.out (fun w' hs' hk' => HKB.out.agree (fun k hk => (hk' k (Nat.lt_of_lt_of_le hk HBS.out.1) (Nat.lt_of_lt_of_le hk K10.out.size)).trans (K10.out.block k hk)))
        unfold DPost at PW
        clear L10 e4
        have e6 : w10.cell? ⟨w.heap.size, 6, none⟩ = some (.slice pk kl ck) := by rw [cell_of_row _ _ _ _ _ _ ((show Kept W1 _ from K10.out).row HROW.out)]; rfl
        go_wp2_with fail
        refine PW.mono ?_
        rintro e w12 ⟨rfl, ⟨Bs7, hd7, hs7⟩, hb7⟩
        have hr7 := HP10.out.r_stay hb7
        have K12 : Hid (Kept W1 w12) := Lib.hid (low_kept hb7 (fun k hk => Nat.le_trans HBS.out.1 (HP10.out.lt k hk).1) K10.out)
        have RP := rpower_any hr7 HP10.out.ok HOP2.out (Nat.le_trans HP10.out.base hb7.size) l (.slice pk kl ck) (HKB.out.later K12.out)
        unfold RPost at RP
        have HD7 := Lib.hid hd7
        have HS7 := Lib.hid hs7
        have HB7 := Lib.hid hb7
        clear PW hd7 hs7 hb7 hr7 e6
        have e6 : w12.cell? ⟨w.heap.size, 6, none⟩ = some (.slice pk kl ck) := by rw [cell_of_row _ _ _ _ _ _ ((show Kept W1 _ from K12.out).row HROW.out)]; rfl
        go_wp2_with fail
        refine RP.mono ?_
        rintro e w13 ⟨rfl, vs8, vw8, hr8, hs8, hb8⟩
        have ST8 := HP10.out.step HD.out HD7.out HS7.out HB7.out hr8 hs8 hb8 (HF2.out.1.power l)
        obtain ⟨⟨Bs9, vs9, vw9, hp9, -⟩, hb9⟩ := ST8
        have HP13 := Lib.hid hp9
        have K13 : Hid (Kept W1 w13) := Lib.hid (low_kept hb9 (HP10.out.low HBS.out.1 HBS.out.2) K10.out)
        have IM := HD.out.image (s2.powerS l) Bs9 w13 hp9.d hp9.ok
        have IR := fun W (h : Kept w13 W) => rimage_any (HP13.out.r.kept h) HP13.out.ok
        obtain ⟨im, him⟩ : ∃ im, im = str (s2.powerS l).image := ⟨_, rfl⟩
        rw [← him] at IM IR
        have c1 : (im.toList == im.toList) = true := by simp
        clear RP hr8 hs8 hb8 hp9 hb9 him e6
        go_wp2_with fail
        refine IM.mono ?_
        rintro e w14 ⟨rfl, hb14⟩
        have IR14 := IR w14 hb14
        have K14 : Hid (Kept W1 w14) := Lib.hid ((show Kept W1 w13 from K13.out).then hb14)
        have A14 := AW w14 (HT1.out.later K14.out)
        clear IM IR hb14 AW
        go_wp2_with fail
        refine IR14.mono ?_
        rintro e w15 ⟨rfl, hw15⟩
        subst hw15
        clear IR14
        go_wp2_with fail
        refine A14.mono ?_
        rintro e w16 ⟨rfl, hb16⟩
        have K16 := Lib.hid ((show Kept w W1 from K1.out).then ((show Kept W1 w14 from K14.out).then hb16))
        clear A14 hb16
        go_wp2
        first | go_ret | go_ret2
        exact ⟨rfl, K16.out⟩
      · have b2 : (er != 0) = true := by rw [bne_iff_ne]; exact he
        obtain rfl : nn = 0 := by rw [hnn, if_neg he]
        clear he hnn
        go_wp2_with fail
        refine wp_region_kept (by kernel_rfl) (by kernel_rfl) ?_
        refine wpQuiet_pure (v := ?_) (by kernel_rfl) ?_ (fun K hK => ?_)
        case refine_2 => intro W _; go_simp; try with_reducible rfl
        go_simp
        refine hK _ ?_; clear hK K
        refine wpQuiet_pure (v := ?_) (by kernel_rfl) ?_ (fun K hK => ?_)
        case refine_2 => intro W _; go_simp; try with_reducible rfl
        go_simp
        refine hK _ ?_; clear hK K
        refine wpQuiet_pure (by kernel_rfl) (.bool false) (fun W _ => by go_simp) (fun K hK => ?_)
        go_simp
        refine hK _ ?_; clear hK K
        refine wpQuiet_pure (v := ?_) (by kernel_rfl) ?_ (fun K hK => ?_)
        case refine_2 => intro W _; go_simp; try with_reducible rfl
        go_simp
        refine hK _ ?_; clear hK K
        refine wpQuiet_pure (v := ?_) (by kernel_rfl) ?_ (fun K hK => ?_)
        case refine_2 => intro W _; go_simp; try with_reducible rfl
        go_simp
        refine hK _ ?_; clear hK K
        refine wpQuiet_pure (v := ?_) (by kernel_rfl) ?_ (fun K hK => ?_)
        case refine_2 => intro W _; go_simp; try with_reducible rfl
        go_simp
        refine hK _ ?_; clear hK K
        refine wpQuiet_pure (by kernel_rfl) (.bool false) (fun W _ => by go_simp) (fun K hK => ?_)
        go_simp
        refine hK _ ?_; clear hK K
        refine wpQuiet_pure (v := ?_) (by kernel_rfl) ?_ (fun K hK => ?_)
        case refine_2 => intro W _; go_simp; try with_reducible rfl
        go_simp
        refine hK _ ?_; clear hK K
        refine wpQuiet_pure (v := ?_) (by kernel_rfl) ?_ (fun K hK => ?_)
        case refine_2 => intro W _; go_simp; try with_reducible rfl
        go_simp
        refine hK _ ?_; clear hK K
        refine wpQuiet_pure (v := ?_) (by kernel_rfl) ?_ (fun K hK => ?_)
        case refine_2 => intro W _; go_simp; try with_reducible rfl
        go_simp
        refine hK _ ?_; clear hK K
        refine wpQuiet_call (by kernel_rfl) _ _ _ (fun W => by go_simp) (fun W h => Calls.kept_of h (CO W h)) (fun K hK => ?_)
        go_simp
        refine hK _ ?_; clear hK K
        refine wpQuiet_pure (v := ?_) (by kernel_rfl) ?_ (fun K hK => ?_)
        case refine_2 => intro W _; go_simp; try with_reducible rfl
        go_simp
        refine hK _ ?_; clear hK K
        refine wpQuiet_pure (v := ?_) (by kernel_rfl) ?_ (fun K hK => ?_)
        case refine_2 => intro W _; go_simp; try with_reducible rfl
        go_simp
        refine hK _ ?_; clear hK K
        refine wpQuiet_pure (v := ?_) (by kernel_rfl) ?_ (fun K hK => ?_)
        case refine_2 => intro W _; go_simp; try with_reducible rfl
        go_simp
        refine hK _ ?_; clear hK K
        refine wpQuiet_load_cell (by kernel_rfl) _ _ rfl ⟨g, 3, none⟩ rfl _ Tryd.underlying3 rfl _ (fun _ h => h.cell H3.out) (fun K hK => ?_)
        go_simp
        refine hK _ ?_; clear hK K
        refine wpQuiet_pure (by kernel_rfl) (.bool false) (fun W _ => by go_simp) (fun K hK => ?_)
        go_simp
        refine hK _ ?_; clear hK K
        refine wpQuiet_pure (v := ?_) (by kernel_rfl) ?_ (fun K hK => ?_)
        case refine_2 => intro W _; go_simp; try with_reducible rfl
        go_simp
        refine hK _ ?_; clear hK K
        refine wpQuiet_pure (v := ?_) (by kernel_rfl) ?_ (fun K hK => ?_)
        case refine_2 => intro W _; go_simp; try with_reducible rfl
        go_simp
        refine hK _ ?_; clear hK K
        refine wpQuiet_pure (v := ?_) (by kernel_rfl) ?_ (fun K hK => ?_)
        case refine_2 => intro W _; go_simp; try with_reducible rfl
        go_simp
        refine hK _ ?_; clear hK K
        refine wpQuiet_call (by kernel_rfl) _ _ _ (fun W => by go_simp) (fun W h => Calls.kept_of h (CW W h)) (fun K hK => ?_)
        go_simp
        refine hK _ ?_; clear hK K
        refine wpQuiet_pure (v := ?_) (by kernel_rfl) ?_ (fun K hK => ?_)
        case refine_2 => intro W _; go_simp; try with_reducible rfl
        go_simp
        refine hK _ ?_; clear hK K
        refine wpQuiet_pure (v := ?_) (by kernel_rfl) ?_ (fun K hK => ?_)
        case refine_2 => intro W _; go_simp; try with_reducible rfl
        go_simp
        refine hK _ ?_; clear hK K
        refine wpQuiet_pure (v := ?_) (by kernel_rfl) ?_ (fun K hK => ?_)
        case refine_2 => intro W _; go_simp; try with_reducible rfl
        go_simp
        refine hK _ ?_; clear hK K
        refine wpQuiet_load_cell (by kernel_rfl) _ _ rfl ⟨g, 1, none⟩ rfl _ Tryd.underlying57 rfl _ (fun _ h => h.cell H1.out) (fun K hK => ?_)
        go_simp
        refine hK _ ?_; clear hK K
        refine wpQuiet_pure (v := ?_) (by kernel_rfl) ?_ (fun K hK => ?_)
        case refine_2 => intro W _; go_simp; try with_reducible rfl
        go_simp
        refine hK _ ?_; clear hK K
        refine wpQuiet_pure (by kernel_rfl) (.bool false) (fun W _ => by go_simp) (fun K hK => ?_)
        go_simp
        refine hK _ ?_; clear hK K
        refine wpQuiet_pure (v := ?_) (by kernel_rfl) ?_ (fun K hK => ?_)
        case refine_2 => intro W _; go_simp; try with_reducible rfl
        go_simp
        refine hK _ ?_; clear hK K
        refine wpQuiet_pure (v := ?_) (by kernel_rfl) ?_ (fun K hK => ?_)
        case refine_2 => intro W _; go_simp; try with_reducible rfl
        go_simp
        refine hK _ ?_; clear hK K
        refine wpQuiet_pure (v := ?_) (by kernel_rfl) ?_ (fun K hK => ?_)
        case refine_2 => intro W _; go_simp; try with_reducible rfl
        go_simp
        refine hK _ ?_; clear hK K
        refine wpQuiet_call (by kernel_rfl) _ _ _ (fun W => by go_simp) (fun W h => Calls.kept_of h (CD W h)) (fun K hK => ?_)
        go_simp
        refine hK _ ?_; clear hK K
        refine wpQuiet_pure (v := ?_) (by kernel_rfl) ?_ (fun K hK => ?_)
        case refine_2 => intro W _; go_simp; try with_reducible rfl
        go_simp
        refine hK _ ?_; clear hK K
        refine wpQuiet_pure (v := ?_) (by kernel_rfl) ?_ (fun K hK => ?_)
        case refine_2 => intro W _; go_simp; try with_reducible rfl
        go_simp
        refine hK _ ?_; clear hK K
        refine wpQuiet_pure (v := ?_) (by kernel_rfl) ?_ (fun K hK => ?_)
        case refine_2 => intro W _; go_simp; try with_reducible rfl
        go_simp
        refine hK _ ?_; clear hK K
        refine wpQuiet_load_cell (by kernel_rfl) _ _ rfl ⟨g, 4, none⟩ rfl _ Tryd.underlying4 rfl _ (fun _ h => h.cell H4.out) (fun K hK => ?_)
        go_simp
        refine hK _ ?_; clear hK K
        refine wpQuiet_pure (by kernel_rfl) (.bool false) (fun W _ => by go_simp) (fun K hK => ?_)
        go_simp
        refine hK _ ?_; clear hK K
        refine wpQuiet_pure (v := ?_) (by kernel_rfl) ?_ (fun K hK => ?_)
        case refine_2 => intro W _; go_simp; try with_reducible rfl
        go_simp
        refine hK _ ?_; clear hK K
        refine wpQuiet_nil ?_
        intro w9 hk9
        have hk9' := hk9
        have K9 : Hid (Kept W1 w9) := Lib.hid ((show Kept W1 w8 from K8.out).then hk9)
        have HP9 := Lib.hid (HP6.out.kept HD.out hk9)
        have L9 := CL w9 hk9
        have e3 : w9.cell? ⟨w.heap.size, 3, none⟩ = some (.int .i64 j) := by rw [cell_of_row _ _ _ _ _ _ ((show Kept W1 _ from K9.out).row HROW.out)]; rfl
        have e4 : w9.cell? ⟨w.heap.size, 4, none⟩ = some (.int .i64 (z : Nat)) := by rw [cell_of_row _ _ _ _ _ _ ((show Kept W1 _ from K9.out).row HROW.out)]; rfl
        have HK89 := Lib.hid hk9
        clear hk9 hk9' CO CW CD CL
        go_wp2_with fail
        refine L9.mono ?_
        rintro e w10 ⟨rfl, hb10⟩
        have HK810 : Hid (Kept w8 w10) := Lib.hid ((show Kept w8 w9 from HK89.out).then hb10)
        have K10 : Hid (Kept W1 w10) := Lib.hid ((show Kept W1 w9 from K9.out).then hb10)
        have L10 := CLR w10 HK810.out
        have HP10 := Lib.hid (HP9.out.kept HD.out hb10)
        clear L9 hb10 e3 e4 CLR
        have e4 : w10.cell? ⟨w.heap.size, 4, none⟩ = some (.int .i64 (z : Nat)) := by rw [cell_of_row _ _ _ _ _ _ ((show Kept W1 _ from K10.out).row HROW.out)]; rfl
        go_wp2_with fail
        refine L10.mono ?_
        rintro e w11 ⟨rfl, hw11⟩
        subst hw11
        have PW := HD.out.power s2 Bs6 w10 l (.slice pk kl ck) HP10.out.d HP10.out.ok HOP2.out (fun w' hs' hk' => HKB.out.agree (fun k hk => (hk' k (Nat.lt_of_lt_of_le hk HBS.out.1) (Nat.lt_of_lt_of_le hk K10.out.size)).trans (K10.out.block k hk)))
        unfold DPost at PW
        clear L10 e4
        have e6 : w10.cell? ⟨w.heap.size, 6, none⟩ = some (.slice pk kl ck) := by rw [cell_of_row _ _ _ _ _ _ ((show Kept W1 _ from K10.out).row HROW.out)]; rfl
        go_wp2_with fail
        refine PW.mono ?_
        rintro e w12 ⟨rfl, ⟨Bs7, hd7, hs7⟩, hb7⟩
        have hr7 := HP10.out.r_stay hb7
        have K12 : Hid (Kept W1 w12) := Lib.hid (low_kept hb7 (fun k hk => Nat.le_trans HBS.out.1 (HP10.out.lt k hk).1) K10.out)
        have RP := rpower_any hr7 HP10.out.ok HOP2.out (Nat.le_trans HP10.out.base hb7.size) l (.slice pk kl ck) (HKB.out.later K12.out)
        unfold RPost at RP
        have HD7 := Lib.hid hd7
        have HS7 := Lib.hid hs7
        have HB7 := Lib.hid hb7
        clear PW hd7 hs7 hb7 hr7 e6
        have e6 : w12.cell? ⟨w.heap.size, 6, none⟩ = some (.slice pk kl ck) := by rw [cell_of_row _ _ _ _ _ _ ((show Kept W1 _ from K12.out).row HROW.out)]; rfl
        go_wp2_with fail
        refine RP.mono ?_
        rintro e w13 ⟨rfl, vs8, vw8, hr8, hs8, hb8⟩
        have ST8 := HP10.out.step HD.out HD7.out HS7.out HB7.out hr8 hs8 hb8 (HF2.out.1.power l)
        obtain ⟨⟨Bs9, vs9, vw9, hp9, -⟩, hb9⟩ := ST8
        have HP13 := Lib.hid hp9
        have K13 : Hid (Kept W1 w13) := Lib.hid (low_kept hb9 (HP10.out.low HBS.out.1 HBS.out.2) K10.out)
        have IM := HD.out.image (s2.powerS l) Bs9 w13 hp9.d hp9.ok
        have IR := fun W (h : Kept w13 W) => rimage_any (HP13.out.r.kept h) HP13.out.ok
        obtain ⟨im, him⟩ : ∃ im, im = str (s2.powerS l).image := ⟨_, rfl⟩
        rw [← him] at IM IR
        have c1 : (im.toList == im.toList) = true := by simp
        clear RP hr8 hs8 hb8 hp9 hb9 him e6
        go_wp2_with fail
        refine IM.mono ?_
        rintro e w14 ⟨rfl, hb14⟩
        have IR14 := IR w14 hb14
        have K14 : Hid (Kept W1 w14) := Lib.hid ((show Kept W1 w13 from K13.out).then hb14)
        have A14 := AW w14 (HT1.out.later K14.out)
        clear IM IR hb14 AW
        go_wp2_with fail
        refine IR14.mono ?_
        rintro e w15 ⟨rfl, hw15⟩
        subst hw15
        clear IR14
        go_wp2_with fail
        refine A14.mono ?_
        rintro e w16 ⟨rfl, hb16⟩
        have K16 := Lib.hid ((show Kept w W1 from K1.out).then ((show Kept W1 w14 from K14.out).then hb16))
        clear A14 hb16
        go_wp2
        first | go_ret | go_ret2
        exact ⟨rfl, K16.out⟩

end Go.Proofs.YtoigembmbajopaaDoor
namespace Go.Proofs.YtoigembmbajopaaDoor
open Go.RowKit Go.ChangeShapes

/-- What is used of a journal. -/
def usedB (s : Dk) (z : Nat) : List UInt8 := ((secJ 0 (cntJ z)).flatMap s.vis).take z
theorem usedB_len {s : Dk} (h : s.ok) {z : Nat} (hz : 2 + cntJ z ≤ s.stands.length) : (usedB s z).length = z := by
  unfold usedB
  rw [secJ_flat, List.length_take]
  have key : ∀ n, n ≤ cntJ z → ((List.range n).flatMap fun i => s.vis (2 + 0 + i)).length = 128 * n := by
    intro n
    induction n with
    | zero => exact fun _ => rfl
    | succ n ih =>
      intro hn
      rw [List.range_succ, List.flatMap_append, List.length_append, ih (by omega)]
      simp only [List.flatMap_cons, List.flatMap_nil, List.append_nil]
      rw [h.vis_len _ (by omega)]
      omega
  rw [key _ (Nat.le_refl _)]
  have := cntJ_bytes z
  omega
theorem jLoad_up {s : Dk} (hd : s.down = false) (z : Nat) : jLoad s z = (usedB s z, 0) := by
  unfold jLoad usedB
  rw [if_neg (by rw [hd]; decide)]
theorem jAp_waits {n : Nat} {s : Dk} (hd : s.down = false) (hw : s.waits = []) (hn : s.stands.length = n) (j : Int) (z : Nat) (hf : jFits (n : Nat) j z) (t : List UInt8) :
    ∀ p ∈ (jAp s j z t).1.waits, ∃ i, p = (2 + z / 128 + i, partB (jApT s z t) i) := by
  intro p hp
  unfold jAp at hp
  rw [hn, if_neg (fun q => q hf)] at hp
  split at hp
  · simp only at hp
    rw [hw] at hp; cases hp
  · simp only [Int.toNat_natCast] at hp
    unfold jApp at hp
    rw [if_neg (by rw [hd]; decide)] at hp
    split at hp
    · simp only at hp
      rw [hw] at hp; cases hp
    · rcases putG_waits _ _ _ _ _ p hp with x | ⟨i, _, h2, rfl⟩
      · rw [hw] at x; cases x
      · exact ⟨i, by rw [secJ_at _ _ i (by omega)]⟩
theorem jAp_stands (s : Dk) (j u : Int) (t : List UInt8) : (jAp s j u t).1.stands = s.stands := by
  unfold jAp
  split
  · rfl
  · split
    · rfl
    · exact jApp_stands _ _ _
theorem jAp_ops (s : Dk) (_ : s.ok) (j : Int) (z : Nat) (t : List UInt8) (ht : t.length ≤ 3000) : (jAp s j z t).1.ops ≤ s.ops + 100 := by
  unfold jAp
  split
  · simp only; omega
  · split
    · simp only; omega
    · simp only [Int.toNat_natCast]
      have h1 := jApp_ops s z t
      have h2 : (jApT s z t).length ≤ 128 + t.length := by unfold jApT; rw [List.length_append, List.length_take]; omega
      have h3 : cntJ (jApT s z t).length ≤ 100 := by unfold cntJ; omega
      omega
theorem power_facts {s : Dk} (hok : s.ok) (l : List Bool) : (s.powerS l).ok ∧ (s.powerS l).calmB ∧ (s.powerS l).stands.length = s.stands.length ∧ (s.powerS l).ops = s.ops ∧ (s.powerS l).waits = [] := by
  refine ⟨hok.power l, ⟨rfl, by show (-1 : Int) < 0; omega⟩, ?_, rfl, rfl⟩
  show (standK (keepL l) s.stands s.waits s.waits.length).length = _
  rw [standK_len]

set_option maxRecDepth 100000 in
set_option maxHeartbeats 32000000 in
theorem journalAhead_of (ND : NewDisk) (JL : JLoadOk) (JA : JAppendOk) (AW : AwakeJ) (n : Int) (hn : I64 n) (zs : List Int) (vb : Value) (fz j u : Int) (hfz : I64 fz) (hj : I64 j) (hu : I64 u) (t : ByteArray) (ht : t.size ≤ maxLen) (l : List Bool) (vk : Value) (w : World)
    (hb : IntAt .u8 zs vb w) (hz : ∀ z ∈ zs, 0 ≤ z ∧ z ≤ 255) (hzl : zs.length ≤ maxLen) (hk : BoolAt l vk w) (hkl : l.length ≤ maxLen) (hT : TabAt w) :
    Calls Tryd.prog 7 #[.agg (caseC n vb fz j u t vk)] w fun e w' => e = .returned (.bool true) ∧ Kept w w' := by
  have HBI := Lib.hid hb
  have HKI := Lib.hid hk
  obtain ⟨pb, cb, rfl, -⟩ := hb
  obtain ⟨pk, ck, rfl, -⟩ := hk
  have BG := fun W => big13_any n hn (.slice pb zs.length cb) fz j u t pk l.length ck ht hkl W
  have LD := fun (q : Nat) (h1 : 1 ≤ q) (h2 : q ≤ 40) W (h : IntAt .u8 zs (.slice pb zs.length cb) W) => laid_any ND q h1 h2 zs (.slice pb zs.length cb) fz j u t (.slice pk l.length ck) W h hz hzl
  obtain ⟨nb, hnb⟩ : ∃ nb, nb = zs.length := ⟨_, rfl⟩
  obtain ⟨kl, hkle⟩ : ∃ kl, kl = l.length := ⟨_, rfl⟩
  obtain ⟨tz, htz⟩ : ∃ tz, tz = t.size := ⟨_, rfl⟩
  have zt : t.size = tz := htz.symm
  rw [← hnb, ← hkle] at BG LD
  rw [← hnb] at HBI
  rw [← hkle] at HKI
  rw [← hnb, ← hkle]
  rw [zt] at BG
  unfold caseC at BG LD ⊢
  obtain ⟨W1, hW1⟩ : ∃ W1, W1 = w.alloc (.cells #[.int .i64 n, .slice pb nb cb, .int .i64 fz, .int .i64 j, .int .i64 u, .string t, .slice pk kl ck] 49) := ⟨_, rfl⟩
  have HW1 := Lib.hid hW1
  have K1 : Hid (Kept w W1) := Lib.hid (by rw [hW1]; exact box_below _ _)
  have HROW : Hid (W1.heap[w.heap.size]? = some (.cells #[.int .i64 n, .slice pb nb cb, .int .i64 fz, .int .i64 j, .int .i64 u, .string t, .slice pk kl ck] 49 (0, 0))) := Lib.hid (by rw [hW1]; exact heap_alloc_last w _)
  have HT1 : Hid (TabAt W1) := Lib.hid (hT.later K1.out)
  have HKB : Hid (BoolAt l (.slice pk kl ck) W1) := Lib.hid (HKI.out.later K1.out)
  have HBB : Hid (IntAt .u8 zs (.slice pb nb cb) W1) := Lib.hid (by
    obtain ⟨p, c, e, h⟩ := HBI.out
    refine ⟨p, c, e, ?_⟩
    rcases h with h0 | ⟨b, off, hp, hc⟩
    · exact Or.inl h0
    · exact Or.inr ⟨b, off, hp, fun i hi => K1.out.cell (hc i hi)⟩)
  have BG1 := BG W1
  have HJL := Lib.hid JL
  have HJA := Lib.hid JA
  have HJ := Lib.hid hj
  have HU := Lib.hid hu
  have HFZ := Lib.hid hfz
  have HTM : Hid (t.size ≤ maxLen) := Lib.hid ht
  have HTZ := Lib.hid htz
  have c0 : (w.alloc (.cells #[.int .i64 n, .slice pb nb cb, .int .i64 fz, .int .i64 j, .int .i64 u, .string t, .slice pk kl ck] 49)).cell? ⟨w.heap.size, 0, none⟩ = some (.int .i64 n) := by rw [← hW1, cell_of_row _ _ _ _ _ _ ((show Kept W1 _ from Kept.refl W1).row HROW.out)]; rfl
  have c1 : (w.alloc (.cells #[.int .i64 n, .slice pb nb cb, .int .i64 fz, .int .i64 j, .int .i64 u, .string t, .slice pk kl ck] 49)).cell? ⟨w.heap.size, 1, none⟩ = some (.slice pb nb cb) := by rw [← hW1, cell_of_row _ _ _ _ _ _ ((show Kept W1 _ from Kept.refl W1).row HROW.out)]; rfl
  have c2 : (w.alloc (.cells #[.int .i64 n, .slice pb nb cb, .int .i64 fz, .int .i64 j, .int .i64 u, .string t, .slice pk kl ck] 49)).cell? ⟨w.heap.size, 2, none⟩ = some (.int .i64 fz) := by rw [← hW1, cell_of_row _ _ _ _ _ _ ((show Kept W1 _ from Kept.refl W1).row HROW.out)]; rfl
  have c3 : (w.alloc (.cells #[.int .i64 n, .slice pb nb cb, .int .i64 fz, .int .i64 j, .int .i64 u, .string t, .slice pk kl ck] 49)).cell? ⟨w.heap.size, 3, none⟩ = some (.int .i64 j) := by rw [← hW1, cell_of_row _ _ _ _ _ _ ((show Kept W1 _ from Kept.refl W1).row HROW.out)]; rfl
  have c4 : (w.alloc (.cells #[.int .i64 n, .slice pb nb cb, .int .i64 fz, .int .i64 j, .int .i64 u, .string t, .slice pk kl ck] 49)).cell? ⟨w.heap.size, 4, none⟩ = some (.int .i64 u) := by rw [← hW1, cell_of_row _ _ _ _ _ _ ((show Kept W1 _ from Kept.refl W1).row HROW.out)]; rfl
  have c5 : (w.alloc (.cells #[.int .i64 n, .slice pb nb cb, .int .i64 fz, .int .i64 j, .int .i64 u, .string t, .slice pk kl ck] 49)).cell? ⟨w.heap.size, 5, none⟩ = some (.string t) := by rw [← hW1, cell_of_row _ _ _ _ _ _ ((show Kept W1 _ from Kept.refl W1).row HROW.out)]; rfl
  have c6 : (w.alloc (.cells #[.int .i64 n, .slice pb nb cb, .int .i64 fz, .int .i64 j, .int .i64 u, .string t, .slice pk kl ck] 49)).cell? ⟨w.heap.size, 6, none⟩ = some (.slice pk kl ck) := by rw [← hW1, cell_of_row _ _ _ _ _ _ ((show Kept W1 _ from Kept.refl W1).row HROW.out)]; rfl
  clear hz hzl hkl hT hnb hkle htz hW1 BG ND JL JA hn hj hu hfz ht HBI HKI
  go_enter Tryd.func7, Tryd.ntmps7
  go_wp2_with fail
  rw [← HW1.out]
  refine BG1.mono ?_
  rintro e w2 ⟨rfl, hb2⟩
  have K2 := Lib.hid hb2
  clear BG1 hb2 c0 c1 c2 c3 c4 c5 c6
  by_cases hbig : bigC n tz kl
  · rw [decide_eq_true hbig]
    have A2 := AW w2 (HT1.out.later K2.out)
    clear AW LD hbig
    go_wp2_with fail
    refine A2.mono ?_
    rintro e w3 ⟨rfl, hb3⟩
    have K3 := Lib.hid ((show Kept w W1 from K1.out).then ((show Kept W1 w2 from K2.out).then hb3))
    clear A2 hb3
    go_wp2
    first | go_ret | go_ret2
    exact ⟨rfl, K3.out⟩
  rw [decide_eq_false hbig]
  have hnb : (1 ≤ n ∧ n ≤ 40) ∧ tz ≤ 3000 ∧ kl ≤ 100 := by unfold bigC at hbig; omega
  obtain ⟨n, rfl⟩ : ∃ q : Nat, n = q := ⟨n.toNat, by omega⟩
  have HNB : Hid ((1 ≤ n ∧ n ≤ 40) ∧ tz ≤ 3000 ∧ kl ≤ 100) := Lib.hid (by omega)
  have HLF := Lib.hid (laidS_facts HNB.out.1.1 HNB.out.1.2 zs)
  have FT := rfits_any (n : Int) j u (by have := HNB.out; omega) w2
  have e0 : w2.cell? ⟨w.heap.size, 0, none⟩ = some (.int .i64 (n : Int)) := by rw [cell_of_row _ _ _ _ _ _ ((show Kept W1 _ from K2.out).row HROW.out)]; rfl
  have e3 : w2.cell? ⟨w.heap.size, 3, none⟩ = some (.int .i64 j) := by rw [cell_of_row _ _ _ _ _ _ ((show Kept W1 _ from K2.out).row HROW.out)]; rfl
  have e4 : w2.cell? ⟨w.heap.size, 4, none⟩ = some (.int .i64 u) := by rw [cell_of_row _ _ _ _ _ _ ((show Kept W1 _ from K2.out).row HROW.out)]; rfl
  go_wp2_with fail
  refine FT.mono ?_
  rintro e w2' ⟨rfl, hw2⟩
  subst hw2
  clear FT
  by_cases hf : jFits (n : Nat) j u
  case neg =>
    rw [decide_eq_false hf]
    have A2 := AW w2 (HT1.out.later K2.out)
    clear AW LD hbig hf
    go_wp2_with fail
    refine A2.mono ?_
    rintro e w3 ⟨rfl, hb3⟩
    have K3 := Lib.hid ((show Kept w W1 from K1.out).then ((show Kept W1 w2 from K2.out).then hb3))
    clear A2 hb3
    go_wp2
    first | go_ret | go_ret2
    exact ⟨rfl, K3.out⟩
  rw [decide_eq_true hf]
  obtain ⟨z, rfl⟩ : ∃ z : Nat, u = z := ⟨u.toNat, by unfold jFits at hf; omega⟩
  have hdl : t.data.toList.length = tz := by rw [data_len]; exact zt
  have L2 := LD n HNB.out.1.1 HNB.out.1.2 w2 (by
    obtain ⟨p, c, e, h⟩ := HBB.out
    refine ⟨p, c, e, ?_⟩
    rcases h with h0 | ⟨b, off, hp, hc⟩
    · exact Or.inl h0
    · exact Or.inr ⟨b, off, hp, fun i hi => K2.out.cell (hc i hi)⟩)
  unfold LaidPost at L2
  obtain ⟨s0, hs0⟩ : ∃ s0, s0 = laidS n zs := ⟨_, rfl⟩
  rw [← hs0] at HLF L2
  have hjf : ∀ q : Dk, q.stands.length = n → q.down = false → jLd q j z = (usedB q z, 0) := fun q hq hd => by unfold jLd; rw [hq, if_neg (fun q => q hf), Int.toNat_natCast, jLoad_up hd]
  have hz2 : 2 + cntJ z ≤ n := by unfold jFits at hf; unfold cntJ; omega
  -- the states
  obtain ⟨s1, hs1e⟩ : ∃ s1 : Dk, s1 = { s0 with fuse := fz } := ⟨_, rfl⟩
  have hok1 : s1.ok := by rw [hs1e]; exact fuse_ok HLF.out.1 HFZ.out
  have hf1 : s1.stands = s0.stands ∧ s1.waits = [] ∧ s1.down = false ∧ s1.ops = s0.ops := by rw [hs1e]; exact ⟨rfl, HLF.out.2.2.2.2, HLF.out.2.1.1, rfl⟩
  have hl1 : s1.stands.length = n := by rw [hf1.1]; exact HLF.out.2.2.1
  have hu1 : usedB s1 z = usedB s0 z := by rw [hs1e]; rfl
  have hap := fun q (hq : (jAp s1 j z t.data.toList).1 = q) => hq
  obtain ⟨r2, hr2⟩ : ∃ r2, r2 = jAp s1 j z t.data.toList := ⟨_, rfl⟩
  have hw2 := jAp_waits hf1.2.2.1 hf1.2.1 hl1 j z hf t.data.toList
  have hst2 := jAp_stands s1 j z t.data.toList
  have hok2 := jAp_ok hok1 j z t.data.toList
  have hop2 := jAp_ops s1 hok1 j z t.data.toList (by rw [hdl]; exact HNB.out.2.1)
  rw [← hr2] at hw2 hst2 hok2 hop2
  have hah := ahead_math s1 r2.1 hok1 hok2 hf1.2.1 hst2 z (by rw [hl1]; exact hz2) t.data.toList hw2 l
  have hp3 := power_facts hok2 l
  obtain ⟨s3, hs3⟩ : ∃ s3, s3 = r2.1.powerS l := ⟨_, rfl⟩
  rw [← hs3] at hah hp3
  have hl3 : s3.stands.length = n := by rw [hp3.2.2.1, hst2, hl1]
  have hu3 : usedB s3 z = usedB s0 z := by rw [← hu1]; exact hah
  have hfit : t.data.toList.length ≠ 0 → 256 + z + t.data.toList.length ≤ 128 * s3.stands.length ∨ j * 128 - z < tz := fun _ => by rw [hl3, hdl]; unfold jFits at hf; omega
  obtain ⟨LS, hLS⟩ : ∃ LS, LS = str (usedB s0 z) := ⟨_, rfl⟩
  have hLz : LS.size = z := by rw [hLS, str_size]; exact usedB_len HLF.out.1 (by rw [HLF.out.2.2.1]; exact hz2)
  have HS0 : Hid (s0.ok ∧ s0.ops ≤ 41 ∧ jLd s0 j z = (usedB s0 z, 0)) := Lib.hid ⟨HLF.out.1, HLF.out.2.2.2.1, hjf s0 HLF.out.2.2.1 HLF.out.2.1.1⟩
  have HS1E := Lib.hid hs1e
  have HS1 : Hid (s1.ok ∧ s1.ops ≤ 41) := Lib.hid ⟨hok1, by rw [hf1.2.2.2]; exact HLF.out.2.2.2.1⟩
  have HR2 := Lib.hid hr2
  have HS2 : Hid (r2.1.ok ∧ r2.1.ops ≤ 200) := Lib.hid ⟨hok2, by have := HLF.out.2.2.2.1; have := hf1.2.2.2; omega⟩
  have HS3E := Lib.hid hs3
  have HS3 : Hid (s3.ok ∧ s3.calmB ∧ s3.ops ≤ 200 ∧ s3.waits = [] ∧ s3.stands.length = n ∧ jLd s3 j z = (usedB s0 z, 0)) := Lib.hid ⟨hp3.1, hp3.2.1, by have := HLF.out.2.2.2.1; have := hf1.2.2.2; have := hp3.2.2.2.1; omega, hp3.2.2.2.2, hl3, by rw [hjf s3 hl3 hp3.2.1.1, hu3]⟩
  have HU3 := Lib.hid hu3
  have HLS := Lib.hid hLS
  have HJF := Lib.hid hjf
  have HFT := Lib.hid hf
  have HZ2 := Lib.hid hz2
  have HDL := Lib.hid hdl
  clear e0 e3 e4
  have e0 : w2.cell? ⟨w.heap.size, 0, none⟩ = some (.int .i64 (n : Int)) := by rw [cell_of_row _ _ _ _ _ _ ((show Kept W1 _ from K2.out).row HROW.out)]; rfl
  have e1 : w2.cell? ⟨w.heap.size, 1, none⟩ = some (.slice pb nb cb) := by rw [cell_of_row _ _ _ _ _ _ ((show Kept W1 _ from K2.out).row HROW.out)]; rfl
  have e2 : w2.cell? ⟨w.heap.size, 2, none⟩ = some (.int .i64 fz) := by rw [cell_of_row _ _ _ _ _ _ ((show Kept W1 _ from K2.out).row HROW.out)]; rfl
  have e3 : w2.cell? ⟨w.heap.size, 3, none⟩ = some (.int .i64 j) := by rw [cell_of_row _ _ _ _ _ _ ((show Kept W1 _ from K2.out).row HROW.out)]; rfl
  have e4 : w2.cell? ⟨w.heap.size, 4, none⟩ = some (.int .i64 (z : Nat)) := by rw [cell_of_row _ _ _ _ _ _ ((show Kept W1 _ from K2.out).row HROW.out)]; rfl
  have e5 : w2.cell? ⟨w.heap.size, 5, none⟩ = some (.string t) := by rw [cell_of_row _ _ _ _ _ _ ((show Kept W1 _ from K2.out).row HROW.out)]; rfl
  have e6 : w2.cell? ⟨w.heap.size, 6, none⟩ = some (.slice pk kl ck) := by rw [cell_of_row _ _ _ _ _ _ ((show Kept W1 _ from K2.out).row HROW.out)]; rfl
  clear LD hbig hnb HBB hs0 hjf hz2 hs1e hok1 hf1 hl1 hu1 hap hr2 hw2 hst2 hok2 hop2 hah hp3 hs3 hl3 hu3 hfit hLS hf hdl
  go_wp2_with fail
  refine L2.mono ?_
  rintro e w3 ⟨hb3, ad, P, B, Br, g, Bs0, vs0, vw0, rfl, D, hp0, hB, hBr⟩
  have K3 : Hid (Kept W1 w3) := Lib.hid ((show Kept W1 w2 from K2.out).then hb3)
  have HD := Lib.hid D
  have HP0 : Hid (P s0 Bs0 w3) := Lib.hid hp0.d
  have HB0 : Hid (∀ s Bs w, P s Bs w → ∀ k, Bs k → W1.heap.size ≤ k) := Lib.hid (fun s Bs w h k hk => Nat.le_trans (Nat.le_trans K2.out.size hB) (D.above s Bs w h k hk).1)
  have HBW : Hid (W1.heap.size ≤ B) := Lib.hid (Nat.le_trans K2.out.size hB)
  have LO := HJL.out _ _ _ D s0 Bs0 w3 j z hp0.d HS0.out.1 (by have := HS0.out.2.1; omega) HJ.out HU.out
  rw [HS0.out.2.2] at LO
  simp only at LO
  rw [← HLS.out] at LO
  clear L2 hb3 D hp0 hB hBr e0 e1 e2 e3 e4 e5 e6
  have e3 : w3.cell? ⟨w.heap.size, 3, none⟩ = some (.int .i64 j) := by rw [cell_of_row _ _ _ _ _ _ ((show Kept W1 _ from K3.out).row HROW.out)]; rfl
  have e4 : w3.cell? ⟨w.heap.size, 4, none⟩ = some (.int .i64 (z : Nat)) := by rw [cell_of_row _ _ _ _ _ _ ((show Kept W1 _ from K3.out).row HROW.out)]; rfl
  go_wp2_with fail
  refine LO.mono ?_
  rintro e w4 ⟨rfl, hb4⟩
  have K4 : Hid (Kept W1 w4) := Lib.hid ((show Kept W1 w3 from K3.out).then hb4)
  have HP4 := Lib.hid (HD.out.kept HP0.out hb4)
  have DF := HD.out.fuse s0 Bs0 w4 fz HP4.out (wf64 HFZ.out)
  rw [← HS1E.out] at DF
  unfold DPost at DF
  clear LO hb4 e3 e4
  have e2 : w4.cell? ⟨w.heap.size, 2, none⟩ = some (.int .i64 fz) := by rw [cell_of_row _ _ _ _ _ _ ((show Kept W1 _ from K4.out).row HROW.out)]; rfl
  go_wp2_with fail
  refine DF.mono ?_
  rintro e w5 ⟨rfl, ⟨Bs1, hd1, -⟩, hb1⟩
  have K5 : Hid (Kept W1 w5) := Lib.hid (low_kept hb1 (HB0.out _ _ _ HP4.out) K4.out)
  have HP5 := Lib.hid hd1
  have AP := HJA.out _ _ _ HD.out s1 Bs1 w5 j z t hd1 HS1.out.1 (by have := HS1.out.2; omega) HJ.out HU.out HTM.out
  rw [← HR2.out] at AP
  unfold DPost at AP
  clear DF hd1 hb1 e2
  have e3 : w5.cell? ⟨w.heap.size, 3, none⟩ = some (.int .i64 j) := by rw [cell_of_row _ _ _ _ _ _ ((show Kept W1 _ from K5.out).row HROW.out)]; rfl
  have e4 : w5.cell? ⟨w.heap.size, 4, none⟩ = some (.int .i64 (z : Nat)) := by rw [cell_of_row _ _ _ _ _ _ ((show Kept W1 _ from K5.out).row HROW.out)]; rfl
  have e5 : w5.cell? ⟨w.heap.size, 5, none⟩ = some (.string t) := by rw [cell_of_row _ _ _ _ _ _ ((show Kept W1 _ from K5.out).row HROW.out)]; rfl
  go_wp2_with fail
  refine AP.mono ?_
  rintro e w6 ⟨rfl, ⟨Bs2, hd2, -⟩, hb2⟩
  have K6 : Hid (Kept W1 w6) := Lib.hid (low_kept hb2 (HB0.out _ _ _ HP5.out) K5.out)
  have HP6 := Lib.hid hd2
  have PW := HD.out.power r2.1 Bs2 w6 l (.slice pk kl ck) hd2 HS2.out.1 (by have := HS2.out.2; omega) (fun w' hs' hk' => HKB.out.agree (fun k hk => (hk' k (Nat.lt_of_lt_of_le hk HBW.out) (Nat.lt_of_lt_of_le hk K6.out.size)).trans (K6.out.block k hk)))
  rw [← HS3E.out] at PW
  unfold DPost at PW
  clear AP hd2 hb2 e3 e4 e5
  have e6 : w6.cell? ⟨w.heap.size, 6, none⟩ = some (.slice pk kl ck) := by rw [cell_of_row _ _ _ _ _ _ ((show Kept W1 _ from K6.out).row HROW.out)]; rfl
  go_wp2_with fail
  refine PW.mono ?_
  rintro e w7 ⟨rfl, ⟨Bs3, hd3, -⟩, hb3⟩
  have K7 : Hid (Kept W1 w7) := Lib.hid (low_kept hb3 (HB0.out _ _ _ HP6.out) K6.out)
  have HP7 := Lib.hid hd3
  have LO := HJL.out _ _ _ HD.out s3 Bs3 w7 j z hd3 HS3.out.1 (by have := HS3.out.2.2.1; omega) HJ.out HU.out
  rw [HS3.out.2.2.2.2.2] at LO
  simp only at LO
  rw [← HLS.out] at LO
  clear PW hd3 hb3 e6
  have e3 : w7.cell? ⟨w.heap.size, 3, none⟩ = some (.int .i64 j) := by rw [cell_of_row _ _ _ _ _ _ ((show Kept W1 _ from K7.out).row HROW.out)]; rfl
  have e4 : w7.cell? ⟨w.heap.size, 4, none⟩ = some (.int .i64 (z : Nat)) := by rw [cell_of_row _ _ _ _ _ _ ((show Kept W1 _ from K7.out).row HROW.out)]; rfl
  have q1 : (LS.toList != LS.toList) = false := by simp
  have q1' : (LS.toList == LS.toList) = true := by simp
  have q2 : ((z : Int) != (z : Int)) = false := by simp
  go_wp2_with fail
  refine LO.mono ?_
  rintro e w8 ⟨rfl, hb8⟩
  have K8 : Hid (Kept W1 w8) := Lib.hid ((show Kept W1 w7 from K7.out).then hb8)
  have HP8 := Lib.hid (HD.out.kept HP7.out hb8)
  have AP := HJA.out _ _ _ HD.out s3 Bs3 w8 j z t HP8.out HS3.out.1 (by have := HS3.out.2.2.1; omega) HJ.out HU.out HTM.out
  unfold DPost at AP
  clear LO hb8 e3 e4
  have e3 : w8.cell? ⟨w.heap.size, 3, none⟩ = some (.int .i64 j) := by rw [cell_of_row _ _ _ _ _ _ ((show Kept W1 _ from K8.out).row HROW.out)]; rfl
  have e4 : w8.cell? ⟨w.heap.size, 4, none⟩ = some (.int .i64 (z : Nat)) := by rw [cell_of_row _ _ _ _ _ _ ((show Kept W1 _ from K8.out).row HROW.out)]; rfl
  have e5 : w8.cell? ⟨w.heap.size, 5, none⟩ = some (.string t) := by rw [cell_of_row _ _ _ _ _ _ ((show Kept W1 _ from K8.out).row HROW.out)]; rfl
  by_cases hfull : j * 128 - z < (tz : Int)
  · have hja : jAp s3 j z t.data.toList = (s3, 0, 100) := by unfold jAp; rw [HS3.out.2.2.2.2.1, if_neg (fun q => q HFT.out), if_pos (by rw [HDL.out]; exact hfull)]
    rw [hja] at AP
    simp only at AP
    clear hja hfull
    go_wp2_with fail
    refine AP.mono ?_
    rintro e w9 ⟨rfl, ⟨Bs4, hd4, -⟩, hb4⟩
    have K9 : Hid (Kept W1 w9) := Lib.hid (low_kept hb4 (HB0.out _ _ _ HP8.out) K8.out)
    have A9 := AW w9 (HT1.out.later K9.out)
    clear AP hd4 hb4 AW e3 e4 e5
    go_wp2_with fail
    refine A9.mono ?_
    rintro e w10 ⟨rfl, hb10⟩
    have K10 := Lib.hid ((show Kept w W1 from K1.out).then ((show Kept W1 w9 from K9.out).then hb10))
    clear A9 hb10
    go_wp2
    first | go_ret | go_ret2
    exact ⟨rfl, K10.out⟩
  · obtain ⟨g1, g2, g3, g4⟩ := again_math s3 HS3.out.1 HS3.out.2.2.2.1 HS3.out.2.1 z (by rw [HS3.out.2.2.2.2.1]; exact HZ2.out) t.data.toList (fun _ => by rw [HS3.out.2.2.2.2.1, HDL.out]; have h := HFT.out; unfold jFits at h; omega)
    have hja : jAp s3 j z t.data.toList = ((jApp s3 z t.data.toList).1, (z : Int) + tz, 0) := by
      unfold jAp; rw [HS3.out.2.2.2.2.1, if_neg (fun q => q HFT.out), if_neg (by rw [HDL.out]; exact hfull), Int.toNat_natCast, g1, if_pos rfl, HDL.out]
    obtain ⟨zt2, hzt⟩ : ∃ zt2 : Nat, zt2 = z + tz := ⟨_, rfl⟩
    rw [hja, show (z : Int) + tz = (zt2 : Nat) by omega] at AP
    simp only at AP
    have hop4 : (jApp s3 z t.data.toList).1.ops ≤ 400 := by
      have h1 := jAp_ops s3 HS3.out.1 j z t.data.toList (by rw [HDL.out]; exact HNB.out.2.1)
      rw [hja] at h1
      have := HS3.out.2.2.1
      simp only at h1
      omega
    have hok4 := jApp_ok HS3.out.1 z t.data.toList
    obtain ⟨s4, hs4⟩ : ∃ s4, s4 = (jApp s3 z t.data.toList).1 := ⟨_, rfl⟩
    rw [← hs4] at AP g2 g3 g4 hop4 hok4
    have hf5 := power_facts hok4.flush []
    have hop5 : s4.flushS.ops ≤ 500 := by
      unfold Dk.flushS
      split
      · omega
      · split
        · show s4.ops + 1 ≤ 500; omega
        · show s4.ops + 1 ≤ 500; omega
    obtain ⟨s5, hs5⟩ : ∃ s5, s5 = s4.flushS.powerS [] := ⟨_, rfl⟩
    rw [← hs5] at g3 g4 hf5
    have hl5 : s5.stands.length = n := by rw [g3]; exact HS3.out.2.2.2.2.1
    have hft5 : jFits (n : Nat) j (zt2 : Nat) := by have h := HFT.out; unfold jFits at h ⊢; omega
    have hld : jLd s5 j (zt2 : Nat) = (usedB s0 z ++ t.data.toList, 0) := by
      unfold jLd
      rw [hl5, if_neg (fun q => q hft5), Int.toNat_natCast, jLoad_up hf5.2.1.1]
      have e : usedB s5 zt2 = usedB s3 z ++ t.data.toList := by rw [hzt, ← HDL.out]; exact g4
      rw [e, HU3.out]
    obtain ⟨TT, hTT⟩ : ∃ TT, TT = LS ++ t := ⟨_, rfl⟩
    have hTs : str (usedB s0 z ++ t.data.toList) = TT := by rw [hTT, HLS.out, ← str_append, str_data]
    have cT : LS ++ t = TT := hTT.symm
    have sT : ¬ 9223372036854775807 < z + tz := by have := HNB.out; have h := HFT.out; unfold jFits at h; omega
    have qT : (TT.toList == TT.toList) = true := by simp
    have HU2 : Hid (I64 (zt2 : Nat)) := Lib.hid (by unfold I64; have h := hft5; unfold jFits at h; have := HNB.out; omega)
    have HLD := Lib.hid hld
    have HTS := Lib.hid hTs
    have HG2 := Lib.hid g2
    have HS4 : Hid (s4.ok ∧ s4.ops ≤ 400) := Lib.hid ⟨hok4, hop4⟩
    have HF4 : Hid (s4.flushS.ok ∧ s4.flushS.ops ≤ 500) := Lib.hid ⟨hok4.flush, hop5⟩
    have HS5 : Hid (s5.ok ∧ s5.ops ≤ 500) := Lib.hid ⟨hf5.1, by rw [hf5.2.2.2.1]; exact hop5⟩
    have HS5E := Lib.hid hs5
    clear hfull g1 g2 g3 g4 hja hzt hop4 hok4 hs4 hf5 hop5 hs5 hl5 hft5 hld hTT hTs
    go_wp2_with fail
    refine AP.mono ?_
    rintro e w9 ⟨rfl, ⟨Bs4, hd4, -⟩, hb4⟩
    have K9 : Hid (Kept W1 w9) := Lib.hid (low_kept hb4 (HB0.out _ _ _ HP8.out) K8.out)
    have HP9 := Lib.hid hd4
    have FL := HD.out.flush s4 Bs4 w9 hd4 HS4.out.1 (by have := HS4.out.2; omega)
    rw [HG2.out] at FL
    unfold DPost at FL
    clear AP hd4 hb4 e3 e4 e5
    go_wp2_with fail
    refine FL.mono ?_
    rintro e w10 ⟨rfl, ⟨Bs5, hd5, -⟩, hb5⟩
    have K10 : Hid (Kept W1 w10) := Lib.hid (low_kept hb5 (HB0.out _ _ _ HP9.out) K9.out)
    have HP10 := Lib.hid hd5
    have PW := HD.out.power s4.flushS Bs5 w10 [] (.slice none 0 0) hd5 HF4.out.1 (by have := HF4.out.2; omega) (fun w' _ _ => ⟨none, 0, rfl, Or.inl rfl⟩)
    rw [← HS5E.out] at PW
    unfold DPost at PW
    clear FL hd5 hb5
    go_wp2_with fail
    refine PW.mono ?_
    rintro e w11 ⟨rfl, ⟨Bs6, hd6, -⟩, hb6⟩
    have K11 : Hid (Kept W1 w11) := Lib.hid (low_kept hb6 (HB0.out _ _ _ HP10.out) K10.out)
    have LO := HJL.out _ _ _ HD.out s5 Bs6 w11 j (zt2 : Nat) hd6 HS5.out.1 (by have := HS5.out.2; omega) HJ.out HU2.out
    rw [HLD.out] at LO
    simp only at LO
    rw [HTS.out] at LO
    clear PW hd6 hb6
    have e3 : w11.cell? ⟨w.heap.size, 3, none⟩ = some (.int .i64 j) := by rw [cell_of_row _ _ _ _ _ _ ((show Kept W1 _ from K11.out).row HROW.out)]; rfl
    go_wp2_with fail
    refine LO.mono ?_
    rintro e w12 ⟨rfl, hb12⟩
    have K12 : Hid (Kept W1 w12) := Lib.hid ((show Kept W1 w11 from K11.out).then hb12)
    have A12 := AW w12 (HT1.out.later K12.out)
    clear LO hb12 AW e3
    have e5 : w12.cell? ⟨w.heap.size, 5, none⟩ = some (.string t) := by rw [cell_of_row _ _ _ _ _ _ ((show Kept W1 _ from K12.out).row HROW.out)]; rfl
    go_wp2_with fail
    refine A12.mono ?_
    rintro e w13 ⟨rfl, hb13⟩
    have K13 := Lib.hid ((show Kept w W1 from K1.out).then ((show Kept W1 w12 from K12.out).then hb13))
    clear A12 hb13
    go_wp2
    first | go_ret | go_ret2
    exact ⟨rfl, K13.out⟩

end Go.Proofs.YtoigembmbajopaaDoor
