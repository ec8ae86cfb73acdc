/- The law BlobBack, out of the contracts by name. -/
import Derived.Test.YtppbknlhknadbaaGE
import Derived.Test.YtppbknlhknadbaaGF
import Derived.Laws.CopyOwn
namespace Go.Proofs.Ytppbknlhknadbaa
open Go.RowKit

theorem infoU8s : (Try.prog.info? 5).map (·.size) = some 1 := by kernel_rfl
/-- The bytes of a row, and zeros behind them. -/
def imgB (zs : List Int) : List UInt8 := (zs.take 5120).map (fun z => UInt8.ofNat z.toNat) ++ List.replicate (5120 - zs.length) 0
theorem imgB_len (zs : List Int) : (imgB zs).length = 5120 := by unfold imgB; simp; omega
theorem made_rowN (N : Nat) (hN : N ≤ 16777216) (w : World) : ∃ W1, (Instr.makeSlice 49 (.int .i64 (N : Int)) (.int .i64 (N : Int))).run Try.prog w = .ok (.slice (some ⟨w.heap.size, 0, none⟩) N N) W1 ∧ W1.heap[w.heap.size]? = some (.cells (List.replicate N (u8V 0)).toArray 5 (0, 0)) ∧ Below w.heap.size w W1 := by
  obtain ⟨i, hi, hx⟩ := Option.map_eq_some_iff.1 infoU8
  simp only [Prod.mk.injEq] at hx
  obtain ⟨h0, h1, h2⟩ := hx
  have hr := run_makeSlice (P := Try.prog) w 49 5 i (.int .u8 0) Try.underlying49 hi h0 .i64 .i64 (N : Int) (N : Int) (by omega) (by omega) (by rw [h1]; omega) (by rw [h2]; omega) (by omega)
  have e : madeCells #[Value.int .u8 0] N = (List.replicate N (u8V 0)).toArray := by
    apply Array.toList_inj.1
    rw [toList_madeCells_one]
    rfl
  refine ⟨_, hr, ?_, box_below _ _⟩
  rw [heap_alloc_last, h1, Int.toNat_natCast, Nat.mul_one]
  show some (Obj.cells (madeCells #[Value.int .u8 0] N) _ _) = _
  rw [e]
/-- make([]byte, 5120) -/
theorem made_row (w : World) : ∃ W1 C0, (Instr.makeSlice 49 (.int .i64 5120) (.int .i64 5120)).run Try.prog w = .ok (.slice (some ⟨w.heap.size, 0, none⟩) 5120 5120) W1 ∧ W1.heap[w.heap.size]? = some (.cells (C0 : List Value).toArray 5 (0, 0)) ∧ C0 = List.replicate 5120 (u8V 0) ∧ Below w.heap.size w W1 := by
  obtain ⟨N, hN⟩ : ∃ N : Nat, N = 5120 := ⟨_, rfl⟩
  obtain ⟨W1, a, b, c⟩ := made_rowN N (by omega) w
  refine ⟨W1, List.replicate N (u8V 0), ?_, b, by rw [hN], c⟩
  rw [hN] at a
  exact a
theorem splice_img (C0 : List Value) (h0 : C0 = List.replicate 5120 (u8V 0)) (zs : List Int) (hz : ∀ z ∈ zs, 0 ≤ z ∧ z ≤ 255) (CS : List Value) (hcs : CS = (zs.take 5120).map (Value.int .u8)) : splice C0 0 CS = (imgB zs).map u8V := by
  unfold splice imgB
  have hl : CS.length = min 5120 zs.length := by rw [hcs, List.length_map, List.length_take]
  rw [h0, List.take_zero, List.nil_append, List.drop_replicate, hl, List.map_append, List.map_replicate, List.map_map, hcs]
  congr 1
  · refine List.map_congr_left fun z hm => ?_
    have := hz z (List.mem_of_mem_take hm)
    show Value.int .u8 z = Value.int .u8 ((UInt8.ofNat z.toNat).toNat : Int)
    rw [UInt8.toNat_ofNat']
    congr 1
    omega
  · congr 1; omega
theorem bytes_of_map {b : Nat} {bs : List UInt8} {w : World} (h : w.heap[b]? = some (.cells (bs.map u8V).toArray 5 (0, 0))) : BytesAt b bs w :=
  ⟨_, _, h, fun i _ x => by simp at x, fun i hi => by simp [hi]⟩

set_option maxRecDepth 100000 in
set_option maxHeartbeats 16000000 in
theorem blobBack_of (LD : LoadDisk) (PU : BPutOk) (GE : BGetOk) (AW : ∀ w, Calls Try.prog 13 #[] w (LawPost w)) (w : World) (v0 : Value) (zs : List Int) (h0 : IntAt .u8 zs v0 w) (hz : ∀ z ∈ zs, 0 ≤ z ∧ z ≤ 255) (hzl : zs.length ≤ maxLen)
    (v1 : Value) (l : List (Int × Int)) (h1 : RunsAt l v1 w) (sz : Nat) (hsz : sz ≤ 65535) (lost : Bool) :
    Calls Try.prog 5 #[v0, v1, .int .u16 sz, .bool lost] w (LawPost w) := by
  obtain ⟨p0, c0, rfl, hc0⟩ := h0
  obtain ⟨W1, C0, hmk, hrow1, hC0, hb1⟩ := made_row w
  obtain ⟨CS, hCS⟩ : ∃ CS, CS = (zs.take 5120).map (Value.int .u8) := ⟨_, rfl⟩
  have hcsl : CS.length = Nat.min zs.length 5120 := by rw [hCS, List.length_map, List.length_take, Nat.min_comm]
  have hspl := splice_img C0 hC0 zs hz CS hCS
  have hone : ∀ v ∈ CS, v.oneCell' = true := by rw [hCS]; intro v hv; obtain ⟨z, _, rfl⟩ := List.mem_map.1 hv; rfl
  have hC0l : C0.length = 5120 := by rw [hC0, List.length_replicate]
  have hsrc : 0 < CS.length → (some (⟨w.heap.size, 0, none⟩ : Addr)) = some ⟨w.heap.size, 0, none⟩ ∧ ∃ ad, p0 = some ad ∧ ∀ j v, CS[j]? = some v → W1.cell? (ad.add j) = some v := by
    intro hp
    refine ⟨rfl, ?_⟩
    rcases hc0 with rfl | ⟨b, off, rfl, hc⟩
    · rw [hCS] at hp; simp at hp
    · refine ⟨_, rfl, fun j v hj => ?_⟩
      rw [addr_add]
      rw [hCS, List.getElem?_map, Option.map_eq_some_iff] at hj
      obtain ⟨z, hj, rfl⟩ := hj
      have hjl : j < zs.length := by
        have := (List.getElem?_eq_some_iff.1 hj).1
        rw [List.length_take] at this; omega
      rw [List.getElem?_take] at hj
      split at hj
      · rw [List.getElem?_eq_getElem hjl] at hj
        rw [← Option.some.inj hj]
        exact Kept.cell hb1 (hc j hjl)
      · cases hj
  have himl := imgB_len zs
  obtain ⟨img, himg⟩ : ∃ img, img = imgB zs := ⟨_, rfl⟩
  rw [← himg] at hspl himl
  obtain ⟨zl, hzl'⟩ : ∃ zl, zl = zs.length := ⟨_, rfl⟩
  rw [← hzl'] at hcsl ⊢
  have HSPL := Lib.hid hspl
  have HIML := Lib.hid himl
  have HROW1 := Lib.hid hrow1
  have HB1 : Hid (Below w.heap.size w W1) := Lib.hid hb1
  have HCSL := Lib.hid hcsl
  have HSRC := Lib.hid hsrc
  have HONE := Lib.hid hone
  have HC0L := Lib.hid hC0l
  have HFIT : Hid (0 + CS.length ≤ C0.length) := Lib.hid (by rw [hC0l, hcsl]; have : Nat.min zl 5120 ≤ 5120 := Nat.min_le_right zl 5120; omega)
  obtain ⟨pr, cr, hv1, -, -⟩ := h1.out
  obtain ⟨ln, hln⟩ : ∃ ln, ln = l.length := ⟨_, rfl⟩
  have H1 := Lib.hid h1
  have HLD := Lib.hid LD
  have HPU := Lib.hid PU
  have HGE := Lib.hid GE
  have HAW := Lib.hid AW
  clear hspl himl hrow1 hb1 hcsl hsrc hone hC0l hC0 hCS himg hc0 hz hzl hzl' h1 LD PU GE AW
  go_enter Try.func5, Try.ntmps5
  go_wp2_with (with_reducible refine wpList_copy_splice rfl _ _ 49 49 rfl 5 Try.underlying49 infoU8s _ _ _ _ _ _ rfl rfl w.heap.size 0 C0 5 HROW1.out CS HCSL.out HSRC.out HFIT.out HONE.out w.heap.size w HB1.out (Nat.le_refl _) ?_)
  intro W2 hrow2 hb2
  have hby : BytesAt w.heap.size img W2 := bytes_of_map (by rw [← HSPL.out]; exact hrow2.out)
  obtain ⟨IM, hIM⟩ : ∃ IM, IM = str img := ⟨_, rfl⟩
  have hcv : (convert 49 9 (.slice (some ⟨w.heap.size, 0, none⟩) 5120 5120)).run Try.prog W2 = .ok (.string IM) W2 := by
    have h := hby.conv 0 5120 5120 (by rw [HIML.out]; exact Nat.le_refl _)
    rw [List.drop_zero, List.take_of_length_le (by rw [HIML.out]; exact Nat.le_refl _), ← hIM] at h
    exact h
  have HBY := Lib.hid hby
  have HIM := Lib.hid hIM
  have HK2 : Hid (Kept w W2) := Lib.hid hb2
  have hIMz : IM.size = 5120 := by rw [hIM, str_size]; exact HIML.out
  have HLT2 : Hid (w.heap.size < W2.heap.size) := Lib.hid hby.lt
  have CL := HLD.out IM (by rw [hIMz]; decide) W2
  have e1 : IM.data.toList = img := by rw [hIM, str_list]
  rw [e1] at CL
  clear hrow2 hb2 hby hIM e1 HSPL HROW1 HB1 HCSL HSRC HONE HC0L HFIT HLD hmk
  go_wp2_with fail
  refine CL.mono ?_
  rintro e w3 ⟨hb3, ⟨hn, _⟩ | ⟨-, ad, P, Bs0, rfl, D, hd0⟩⟩
  · exact absurd (show loadOk img by unfold loadOk; have := HIML.out; omega) hn
  have HD := Lib.hid D
  have HAB := Lib.hid (D.above _ _ _ hd0)
  have HD0 := Lib.hid hd0
  have HK3 : Hid (Kept w w3) := Lib.hid (HK2.out.then hb3)
  have HBY3 := Lib.hid (HBY.out.kept hb3)
  have HFEW : Hid (∃ p n c, n = (l.take 20).length ∧ RunsAt (l.take 20) (.slice p n c) w3 ∧ fewT l v1 = .slice p n c ∧ Apart (.slice p n c) Bs0) := Lib.hid (by
    have hr := fewT_at H1.out
    obtain ⟨p, c, e, -, -⟩ := hr.out
    rw [e] at hr
    refine ⟨p, _, c, rfl, hr.later HK3.out, e, fun a n c' e' hn hk => ?_⟩
    simp only [Value.slice.injEq] at e'
    obtain ⟨rfl, rfl, rfl⟩ := e'
    have h1 := hr.block hn
    have h2 := (HAB.out _ hk).1
    have h3 := HK2.out.size
    omega)
  have CW := few12_val l v1 w3 (H1.out.later HK3.out)
  obtain ⟨p, n, c, hn, hr3, hfe, hap⟩ := HFEW.out
  rw [hfe] at CW
  rw [hv1] at CW
  obtain ⟨L, hL⟩ : ∃ L, L = l.take 20 := ⟨_, rfl⟩
  have hLl : L.length ≤ 20 := by rw [hL, List.length_take]; omega
  rw [← hL] at hn hr3
  have HLV : Hid (LiveAt L (.slice p n c) Bs0 w3) := Lib.hid ⟨hr3, hap⟩
  have HLL := Lib.hid hLl
  obtain ⟨k, hk⟩ : ∃ k, k = sz % 3000 := ⟨_, rfl⟩
  have hk3 : k < 3000 := by omega
  have u1 : IntKind.i64.wrap (sz : Int) = sz := IntWalk.i64_in _ (by omega)
  have u2 : (sz : Int).tmod 3000 = (k : Int) := by rw [Int.tmod_eq_emod_of_nonneg (by omega)]; omega
  have u3 : IntKind.i64.wrap (k : Int) = k := IntWalk.i64_in _ (by omega)
  clear CL D hd0 hb3 hn hr3 hfe hap hL hLl HFEW H1 hk HK2 HBY
  go_wp2_with fail
  refine CW.mono ?_
  rintro e w3' ⟨rfl, rfl⟩
  clear CW
  have CFi := rfit12_any L _ w3 HLV.out.at_ (by have := HLL.out; omega) 40 k (by unfold I64; omega) (by unfold I64; omega)
  go_wp2_with fail
  refine CFi.mono ?_
  rintro e w4 ⟨rfl, hb4⟩
  have CT := text12_any k (by omega) w4
  obtain ⟨TX, hTX⟩ : ∃ TX, TX = str (seqB k) := ⟨_, rfl⟩
  have hTXz : TX.size = k := by rw [hTX, str_size, seqB_len]
  have e2 : TX.data.toList = seqB k := by rw [hTX, str_list]
  rw [← hTX] at CT
  have HLV4 := Lib.hid (HLV.out.later hb4)
  have HD4 := Lib.hid (HD.out.kept HD0.out hb4)
  have HK4 : Hid (Kept w w4) := Lib.hid (HK3.out.then hb4)
  have HBY4 := Lib.hid (HBY3.out.kept hb4)
  have CP := fun W (kW : Kept w4 W) => HPU.out _ _ _ HD.out (Dk.load img) Bs0 W L _ TX (HD.out.kept HD4.out kW) (Dk.ok.load (by unfold loadOk; have := HIML.out; omega)) (by show 0 ≤ _; omega) (HLV4.out.later kW) (by have := HLL.out; omega) (by rw [hTXz]; simp only [maxLen]; omega)
  rw [e2] at CP
  have HTX := Lib.hid hTX
  have HCP := Lib.hid CP
  clear CFi hb4 hTX e2 HLV HD0 HK3 HBY3 CP HPU
  by_cases hf : fitB L 40 k
  · rw [decide_eq_true hf]
    obtain ⟨s1, hput, hok1, hops1, hfe, hok2, hops2, hall⟩ := back_math img HIML.out L (seqB k) (by rw [seqB_len]; omega) (by rw [seqB_len]; exact hf)
    rw [seqB_len] at hall
    rw [hput] at HCP
    have HO1 := Lib.hid (And.intro hok1 hops1)
    have HO2 := Lib.hid (And.intro hok2 hops2)
    have HAL := Lib.hid hall
    have HFE := Lib.hid hfe
    clear hf hput hok1 hops1 hok2 hops2 hall hfe
    go_wp2_with fail
    refine CT.mono ?_
    rintro e w5 ⟨rfl, hb5⟩
    have CP5 := HCP.out w5 hb5
    have HK5 : Hid (Kept w w5) := Lib.hid (HK4.out.then hb5)
    have HLV5 := Lib.hid (HLV4.out.later hb5)
    have HBY5 := Lib.hid (HBY4.out.kept hb5)
    clear CT hb5 HLV4 HBY4 HK4 HD4 HCP
    go_wp2_with fail
    refine CP5.mono ?_
    rintro e w6 ⟨rfl, ⟨Bs1, hd1, hs1⟩, hb6⟩
    have HS1 := Lib.hid hs1
    have HAB1 : Hid (∀ j, Bs1 j → W2.heap.size ≤ j) := Lib.hid (fun j hj => (HD.out.above _ _ _ hd1 j hj).1)
    have HB6 : Hid (Below w.heap.size w w6) := Lib.hid (ButBy.kept hb6 (fun j hj => by have := (HAB.out j hj).1; have := HLT2.out; omega) HK5.out HK5.out.size)
    have HLV6 := Lib.hid (HLV5.out.turn hs1 hb6)
    have HBY6 := Lib.hid (HBY5.out.stay (hb6.block _ (HBY5.out.lt) (fun x => by have := (HAB.out _ x).1; have := HLT2.out; omega)))
    have CF := HD.out.flush s1 Bs1 w6 hd1 HO1.out.1 (by have := HO1.out.2; omega)
    rw [HFE.out] at CF
    clear CP5 hd1 hs1 hb6 HLV5 HBY5 HK5
    go_wp2_with fail
    refine CF.mono ?_
    rintro e w7 ⟨rfl, ⟨Bs2, hd2, hs2⟩, hb7⟩
    have HAB2 : Hid (∀ j, Bs2 j → W2.heap.size ≤ j) := Lib.hid (fun j hj => (HD.out.above _ _ _ hd2 j hj).1)
    have HB7 : Hid (Below w.heap.size w w7) := Lib.hid (ButBy.kept hb7 (fun j hj => by have := HAB1.out j hj; have := HLT2.out; omega) HB6.out HB6.out.size)
    have HLV7 := Lib.hid (HLV6.out.turn hs2 hb7)
    have HBY7 := Lib.hid (HBY6.out.stay (hb7.block _ (HBY6.out.lt) (fun x => by have := HAB1.out _ x; have := HLT2.out; omega)))
    have HD7 := Lib.hid hd2
    clear CF hd2 hs2 hb7 HLV6 HBY6 HB6 HAB1 HS1
    cases lost with
    | false =>
      obtain ⟨s3, hs3⟩ : ∃ s3, s3 = s1.flushS := ⟨_, rfl⟩
      have HALL := Lib.hid (HAL.out s3 (Or.inl hs3))
      rw [← hs3] at HD7
      clear hs3 HAL HO1 HO2 HFE
      obtain ⟨Bs3, wA, rfl, rfl⟩ : ∃ Bs3 wA, Bs3 = Bs2 ∧ wA = w7 := ⟨_, _, rfl, rfl⟩
      have HD3 := HD7
      have HLVA := Lib.hid HLV7.out.at_
      have HBYA := HBY7
      have HBA := HB7
      clear HD7 HLV7 HBY7 HB7
      have HGT := HGE.out _ _ _ HD.out s3 Bs3 wA L _ k HD3.out HALL.out.1 (by have := HALL.out.2.1; omega) HLVA.out (by have := HLL.out; omega) (by unfold I64; omega)
      rw [HALL.out.2.2.1] at HGT
      simp only at HGT
      rw [← HTX.out] at HGT
      go_wp2_with fail
      refine HGT.mono ?_
      rintro e wB ⟨rfl, hbB⟩
      have CI := HD.out.image s3 Bs3 wB (HD.out.kept HD3.out hbB) HALL.out.1
      obtain ⟨NW, hNW⟩ : ∃ NW, NW = str s3.image := ⟨_, rfl⟩
      rw [← hNW] at CI
      have HNW := Lib.hid hNW
      have hNWz : NW.size = 5120 := by rw [hNW, str_size]; exact HALL.out.2.2.2.1
      have HLVB := Lib.hid (HLVA.out.later (show Kept wA wB from hbB))
      have HBYB := Lib.hid (HBYA.out.kept (show Kept wA wB from hbB))
      have HBB : Hid (Kept w wB) := Lib.hid ((show Kept w wA from HBA.out).then hbB)
      clear HGT hbB hNW HLVA HBYA HBA HD3
      go_wp2_with fail
      refine CI.mono ?_
      rintro e wC ⟨rfl, hbC⟩
      have HLVC := Lib.hid (HLVB.out.later (show Kept wB wC from hbC))
      have HBYC := Lib.hid (HBYB.out.kept (show Kept wB wC from hbC))
      have HBC : Hid (Kept w wC) := Lib.hid ((show Kept w wB from HBB.out).then hbC)
      clear CI hbC HLVB HBYB HBB
      go_wp2
      go_loopg [17] 40 (fun gh s17 wx => ∃ i : Nat, i + gh = 40 ∧ s17 = .int .i64 i ∧ Hid (Kept wC wx))
      case atStart => exact ⟨0, by omega, rfl, Lib.hid (Kept.refl wC)⟩
      case round =>
        obtain ⟨i, hi, rfl, HK⟩ := hrel
        by_cases hi40 : i < 40
        · have hii : (i : Int) < 40 := by omega
          have bi : decide ((i : Int) < 40) = true := decide_eq_true hii
          obtain ⟨i1, hi1⟩ : ∃ i1, i1 = i + 1 := ⟨_, rfl⟩
          have vi1 : IntKind.i64.wrap ((i : Int) + 1) = (i1 : Int) := by rw [show (i : Int) + 1 = (i1 : Int) by omega]; exact IntWalk.i64_in _ (by omega)
          obtain ⟨at', hat⟩ : ∃ at' : Nat, at' = 128 * i := ⟨_, rfl⟩
          have vat : IntKind.i64.wrap ((i : Int) * 128) = (at' : Int) := by rw [show (i : Int) * 128 = (at' : Int) by omega]; exact IntWalk.i64_in _ (by omega)
          obtain ⟨en, hen⟩ : ∃ en : Nat, en = at' + 128 := ⟨_, rfl⟩
          have ven : IntKind.i64.wrap ((at' : Int) + 128) = (en : Int) := by rw [show (at' : Int) + 128 = (en : Int) by omega]; exact IntWalk.i64_in _ (by omega)
          have CH := fun W (hW : Kept wr W) => rhas_any L _ W (HLVC.out.later (HK.out.then hW)) (by have := HLL.out; omega) (i : Int)
          obtain ⟨hh, hhh⟩ : ∃ hh, hh = hasSec L (i : Int) := ⟨_, rfl⟩
          rw [← hhh] at CH
          cases hh with
          | true =>
            clear hhh hi40 hat hen hNWz
            go_wp2_with fail
            refine wp_region_kept (by kernel_rfl) (by kernel_rfl) ?_
            refine wpQuiet_pure (v := ?_) (by kernel_rfl) ?_ (fun K hK => ?_)
            case refine_2 => intro W _; go_simp; try with_reducible rfl
            go_simp
            refine hK _ ?_; clear hK K
            refine wpQuiet_pure (v := ?_) (by kernel_rfl) ?_ (fun K hK => ?_)
            case refine_2 => intro W _; go_simp; try with_reducible rfl
            go_simp
            refine hK _ ?_; clear hK K
            refine wpQuiet_call (by kernel_rfl) _ _ _ (fun W => by go_simp) (fun W h => Calls.kept_of h (CH W h)) (fun K hK => ?_)
            go_simp
            refine hK _ ?_; clear hK K
            refine wpQuiet_pure (v := ?_) (by kernel_rfl) ?_ (fun K hK => ?_)
            case refine_2 => intro W _; go_simp; try with_reducible rfl
            go_simp
            refine hK _ ?_; clear hK K
            refine wpQuiet_pure (v := ?_) (by kernel_rfl) ?_ (fun K hK => ?_)
            case refine_2 => intro W _; go_simp; try with_reducible rfl
            go_simp
            refine hK _ ?_; clear hK K
            go_big_quiet_skip
            go_big_quiet_skip
            go_big_quiet_skip
            go_big_quiet_skip
            go_big_quiet_skip
            go_big_quiet_skip
            go_big_quiet_skip
            go_big_quiet_skip
            go_big_quiet_skip
            go_big_quiet_skip
            go_big_quiet_skip
            go_big_quiet_skip
            go_big_quiet_skip
            go_big_quiet_skip
            go_big_quiet_skip
            go_big_quiet_skip
            go_big_quiet_skip
            go_big_quiet_skip
            go_big_quiet_skip
            refine wpQuiet_pure (v := ?_) (by kernel_rfl) ?_ (fun K hK => ?_)
            case refine_2 => intro W _; go_simp; try with_reducible rfl
            go_simp
            refine hK _ ?_; clear hK K
            refine wpQuiet_nil ?_
            intro w9 hk9

            have HK2 : Hid (Kept wC w9) := Lib.hid (HK.out.then hk9)
            clear hk9 CH HK
            go_wp2
            go_roundg (40 - i1)
            case measure => omega
            case rel => exact ⟨i1, by omega, by first | rfl | (congr 1; omega), HK2⟩
          | false =>
            have hnr : hasR L i = false := by
              unfold hasSec at hhh
              rw [decide_eq_true (by omega), Bool.true_and, Int.toNat_natCast] at hhh
              exact hhh.symm
            have hsame := HALL.out.2.2.2.2 i hi40 hnr
            rw [← hat] at hsame
            obtain ⟨PT, hPT⟩ : ∃ PT, PT = str ((img.drop at').take 128) := ⟨_, rfl⟩
            have hex : NW.extract at' en = PT := by
              rw [HNW.out, hPT, ← hsame]
              apply ByteArray.ext
              rw [ByteArray.data_extract]
              unfold str
              apply Array.ext'
              simp [hen]
            have hcvW : ∀ W, Kept wr W → (convert 49 9 (.slice (if 5120 = at' then some ⟨w.heap.size, 0, none⟩ else some ⟨w.heap.size, at', none⟩) (en - at') (5120 - at'))).run Try.prog W = .ok (.string PT) W := fun W hW => by
              rw [hPT, if_neg (by omega), show en - at' = 128 by omega]
              exact (HBYC.out.kept (HK.out.then hW)).conv at' 128 (5120 - at') (by rw [HIML.out]; omega)
            have hb1 : (0 : Int) ≤ at' := by omega
            have hb2 : (at' : Int) ≤ en := by omega
            have hb3 : (0 : Int) ≤ en := by omega
            have hb4 : (en : Int) ≤ 5120 := by omega
            have hsl : (5120 : Int) - at' = ((5120 - at' : Nat) : Int) := by omega
            have hsn : (en : Int) - at' = 128 := by omega
            have HAT := Lib.hid hat
            have HEN := Lib.hid hen
            clear hhh hnr hsame hPT hat hen
            go_wp2_with fail
            refine wp_region_kept (by kernel_rfl) (by kernel_rfl) ?_
            refine wpQuiet_pure (v := ?_) (by kernel_rfl) ?_ (fun K hK => ?_)
            case refine_2 => intro W _; go_simp; try with_reducible rfl
            go_simp
            refine hK _ ?_; clear hK K
            refine wpQuiet_pure (v := ?_) (by kernel_rfl) ?_ (fun K hK => ?_)
            case refine_2 => intro W _; go_simp; try with_reducible rfl
            go_simp
            refine hK _ ?_; clear hK K
            refine wpQuiet_call (by kernel_rfl) _ _ _ (fun W => by go_simp) (fun W h => Calls.kept_of h (CH W h)) (fun K hK => ?_)
            go_simp
            refine hK _ ?_; clear hK K
            refine wpQuiet_pure (v := ?_) (by kernel_rfl) ?_ (fun K hK => ?_)
            case refine_2 => intro W _; go_simp; try with_reducible rfl
            go_simp
            refine hK _ ?_; clear hK K
            refine wpQuiet_pure (v := ?_) (by kernel_rfl) ?_ (fun K hK => ?_)
            case refine_2 => intro W _; go_simp; try with_reducible rfl
            go_simp
            refine hK _ ?_; clear hK K
            refine wpQuiet_pure (v := ?_) (by kernel_rfl) ?_ (fun K hK => ?_)
            case refine_2 => intro W _; go_simp; try with_reducible rfl
            go_simp
            refine hK _ ?_; clear hK K
            refine wpQuiet_pure (v := ?_) (by kernel_rfl) ?_ (fun K hK => ?_)
            case refine_2 => intro W _; go_simp; try with_reducible rfl
            go_simp
            refine hK _ ?_; clear hK K
            refine wpQuiet_pure (v := ?_) (by kernel_rfl) ?_ (fun K hK => ?_)
            case refine_2 => intro W _; go_simp; try with_reducible rfl
            go_simp
            refine hK _ ?_; clear hK K
            refine wpQuiet_pure (v := ?_) (by kernel_rfl) ?_ (fun K hK => ?_)
            case refine_2 => intro W _; go_simp; try with_reducible rfl
            go_simp
            refine hK _ ?_; clear hK K
            refine wpQuiet_pure (v := ?_) (by kernel_rfl) ?_ (fun K hK => ?_)
            case refine_2 => intro W _; go_simp; try with_reducible rfl
            go_simp
            refine hK _ ?_; clear hK K
            refine wpQuiet_pure (v := ?_) (by kernel_rfl) ?_ (fun K hK => ?_)
            case refine_2 => intro W _; go_simp; try with_reducible rfl
            go_simp
            refine hK _ ?_; clear hK K
            refine wpQuiet_pure (v := ?_) (by kernel_rfl) ?_ (fun K hK => ?_)
            case refine_2 => intro W _; go_simp; try with_reducible rfl
            go_simp
            refine hK _ ?_; clear hK K
            refine wpQuiet_pure (v := ?_) (by kernel_rfl) ?_ (fun K hK => ?_)
            case refine_2 => intro W _; go_simp; try with_reducible rfl
            go_simp
            refine hK _ ?_; clear hK K
            refine wpQuiet_pure (v := ?_) (by kernel_rfl) ?_ (fun K hK => ?_)
            case refine_2 => intro W _; go_simp; try with_reducible rfl
            go_simp
            refine hK _ ?_; clear hK K
            refine wpQuiet_pure (v := ?_) (by kernel_rfl) ?_ (fun K hK => ?_)
            case refine_2 => intro W _; go_simp; try with_reducible rfl
            go_simp
            refine hK _ ?_; clear hK K
            refine wpQuiet_pure (v := ?_) (by kernel_rfl) ?_ (fun K hK => ?_)
            case refine_2 => intro W _; go_simp; try with_reducible rfl
            go_simp
            refine hK _ ?_; clear hK K
            refine wpQuiet_pure (v := ?_) (by kernel_rfl) ?_ (fun K hK => ?_)
            case refine_2 => intro W _; go_simp; try with_reducible rfl
            go_simp
            refine hK _ ?_; clear hK K
            refine wpQuiet_pure (v := ?_) (by kernel_rfl) ?_ (fun K hK => ?_)
            case refine_2 => intro W _; go_simp; try with_reducible rfl
            go_simp
            refine hK _ ?_; clear hK K
            refine wpQuiet_pure (v := ?_) (by kernel_rfl) ?_ (fun K hK => ?_)
            case refine_2 => intro W _; go_simp; try with_reducible rfl
            go_simp
            refine hK _ ?_; clear hK K
            refine wpQuiet_pure (v := ?_) (by kernel_rfl) ?_ (fun K hK => ?_)
            case refine_2 => intro W _; go_simp; try with_reducible rfl
            go_simp
            refine hK _ ?_; clear hK K
            refine wpQuiet_pure (v := ?_) (by kernel_rfl) ?_ (fun K hK => ?_)
            case refine_2 => intro W _; go_simp; try with_reducible rfl
            go_simp
            refine hK _ ?_; clear hK K
            refine wpQuiet_pure (v := ?_) (by kernel_rfl) ?_ (fun K hK => ?_)
            case refine_2 => intro W hW; have e0 := hcvW W hW; go_simp; try with_reducible rfl
            go_simp
            refine hK _ ?_; clear hK K
            refine wpQuiet_pure (v := ?_) (by kernel_rfl) ?_ (fun K hK => ?_)
            case refine_2 => intro W _; go_simp; try with_reducible rfl
            go_simp
            refine hK _ ?_; clear hK K
            refine wpQuiet_pure (v := ?_) (by kernel_rfl) ?_ (fun K hK => ?_)
            case refine_2 => intro W _; go_simp; try with_reducible rfl
            go_simp
            refine hK _ ?_; clear hK K
            refine wpQuiet_pure (v := ?_) (by kernel_rfl) ?_ (fun K hK => ?_)
            case refine_2 => intro W _; go_simp; try with_reducible rfl
            go_simp
            refine hK _ ?_; clear hK K
            refine wpQuiet_nil ?_
            intro w9 hk9

            have HK2 : Hid (Kept wC w9) := Lib.hid (HK.out.then hk9)
            clear hk9 CH HK
            go_wp2
            go_roundg (40 - i1)
            case measure => omega
            case rel => exact ⟨i1, by omega, by first | rfl | (congr 1; omega), HK2⟩
        · have hii : ¬ (i : Int) < 40 := by omega
          have bi : decide ((i : Int) < 40) = false := decide_eq_false hii
          have CT2 := fun W => text12_any k (by omega) W
          rw [← HTX.out] at CT2
          clear hi hii hi40
          go_wp2_with fail
          refine (CT2 wr).mono ?_
          rintro e wD ⟨rfl, hbD⟩
          have HKD : Hid (Kept wC wD) := Lib.hid (HK.out.then hbD)
          clear CT2 hbD HK
          go_wp2_with fail
          refine (HAW.out wD).mono ?_
          rintro e wE ⟨rfl, hbE⟩
          have HKE : Hid (Kept wC wE) := Lib.hid (HKD.out.then hbE)
          clear hbE HKD
          go_wp2
          go_ret
          exact ⟨rfl, HBC.out.then HKE.out⟩

    | true =>
      have CPW := HD.out.power s1.flushS Bs2 w7 [] (.slice none 0 0) HD7.out HO2.out.1 (by have := HO2.out.2; omega) (fun w' _ _ => ⟨none, 0, rfl, Or.inl rfl⟩)
      obtain ⟨s3, hs3⟩ : ∃ s3, s3 = s1.flushS.powerS [] := ⟨_, rfl⟩
      have HALL := Lib.hid (HAL.out s3 (Or.inr hs3))
      rw [← hs3] at CPW
      clear hs3 HAL HO1 HO2 HFE HD7
      go_wp2_with fail
      refine CPW.mono ?_
      rintro e wA ⟨rfl, ⟨Bs3, hd3, hs3⟩, hb8⟩
      have HD3 := Lib.hid hd3
      have HLVA := Lib.hid (HLV7.out.turn hs3 hb8).at_
      have HBYA := Lib.hid (HBY7.out.stay (hb8.block _ (HBY7.out.lt) (fun x => by have := HAB2.out _ x; have := HLT2.out; omega)))
      have HBA : Hid (Below w.heap.size w wA) := Lib.hid (ButBy.kept hb8 (fun j hj => by have := HAB2.out j hj; have := HLT2.out; omega) HB7.out HB7.out.size)
      clear CPW hd3 hs3 hb8 HLV7 HBY7 HB7
      have HGT := HGE.out _ _ _ HD.out s3 Bs3 wA L _ k HD3.out HALL.out.1 (by have := HALL.out.2.1; omega) HLVA.out (by have := HLL.out; omega) (by unfold I64; omega)
      rw [HALL.out.2.2.1] at HGT
      simp only at HGT
      rw [← HTX.out] at HGT
      go_wp2_with fail
      refine HGT.mono ?_
      rintro e wB ⟨rfl, hbB⟩
      have CI := HD.out.image s3 Bs3 wB (HD.out.kept HD3.out hbB) HALL.out.1
      obtain ⟨NW, hNW⟩ : ∃ NW, NW = str s3.image := ⟨_, rfl⟩
      rw [← hNW] at CI
      have HNW := Lib.hid hNW
      have hNWz : NW.size = 5120 := by rw [hNW, str_size]; exact HALL.out.2.2.2.1
      have HLVB := Lib.hid (HLVA.out.later (show Kept wA wB from hbB))
      have HBYB := Lib.hid (HBYA.out.kept (show Kept wA wB from hbB))
      have HBB : Hid (Kept w wB) := Lib.hid ((show Kept w wA from HBA.out).then hbB)
      clear HGT hbB hNW HLVA HBYA HBA HD3
      go_wp2_with fail
      refine CI.mono ?_
      rintro e wC ⟨rfl, hbC⟩
      have HLVC := Lib.hid (HLVB.out.later (show Kept wB wC from hbC))
      have HBYC := Lib.hid (HBYB.out.kept (show Kept wB wC from hbC))
      have HBC : Hid (Kept w wC) := Lib.hid ((show Kept w wB from HBB.out).then hbC)
      clear CI hbC HLVB HBYB HBB
      go_wp2
      go_loopg [17] 40 (fun gh s17 wx => ∃ i : Nat, i + gh = 40 ∧ s17 = .int .i64 i ∧ Hid (Kept wC wx))
      case atStart => exact ⟨0, by omega, rfl, Lib.hid (Kept.refl wC)⟩
      case round =>
        obtain ⟨i, hi, rfl, HK⟩ := hrel
        by_cases hi40 : i < 40
        · have hii : (i : Int) < 40 := by omega
          have bi : decide ((i : Int) < 40) = true := decide_eq_true hii
          obtain ⟨i1, hi1⟩ : ∃ i1, i1 = i + 1 := ⟨_, rfl⟩
          have vi1 : IntKind.i64.wrap ((i : Int) + 1) = (i1 : Int) := by rw [show (i : Int) + 1 = (i1 : Int) by omega]; exact IntWalk.i64_in _ (by omega)
          obtain ⟨at', hat⟩ : ∃ at' : Nat, at' = 128 * i := ⟨_, rfl⟩
          have vat : IntKind.i64.wrap ((i : Int) * 128) = (at' : Int) := by rw [show (i : Int) * 128 = (at' : Int) by omega]; exact IntWalk.i64_in _ (by omega)
          obtain ⟨en, hen⟩ : ∃ en : Nat, en = at' + 128 := ⟨_, rfl⟩
          have ven : IntKind.i64.wrap ((at' : Int) + 128) = (en : Int) := by rw [show (at' : Int) + 128 = (en : Int) by omega]; exact IntWalk.i64_in _ (by omega)
          have CH := fun W (hW : Kept wr W) => rhas_any L _ W (HLVC.out.later (HK.out.then hW)) (by have := HLL.out; omega) (i : Int)
          obtain ⟨hh, hhh⟩ : ∃ hh, hh = hasSec L (i : Int) := ⟨_, rfl⟩
          rw [← hhh] at CH
          cases hh with
          | true =>
            clear hhh hi40 hat hen hNWz
            go_wp2_with fail
            refine wp_region_kept (by kernel_rfl) (by kernel_rfl) ?_
            refine wpQuiet_pure (v := ?_) (by kernel_rfl) ?_ (fun K hK => ?_)
            case refine_2 => intro W _; go_simp; try with_reducible rfl
            go_simp
            refine hK _ ?_; clear hK K
            refine wpQuiet_pure (v := ?_) (by kernel_rfl) ?_ (fun K hK => ?_)
            case refine_2 => intro W _; go_simp; try with_reducible rfl
            go_simp
            refine hK _ ?_; clear hK K
            refine wpQuiet_call (by kernel_rfl) _ _ _ (fun W => by go_simp) (fun W h => Calls.kept_of h (CH W h)) (fun K hK => ?_)
            go_simp
            refine hK _ ?_; clear hK K
            refine wpQuiet_pure (v := ?_) (by kernel_rfl) ?_ (fun K hK => ?_)
            case refine_2 => intro W _; go_simp; try with_reducible rfl
            go_simp
            refine hK _ ?_; clear hK K
            refine wpQuiet_pure (v := ?_) (by kernel_rfl) ?_ (fun K hK => ?_)
            case refine_2 => intro W _; go_simp; try with_reducible rfl
            go_simp
            refine hK _ ?_; clear hK K
            go_big_quiet_skip
            go_big_quiet_skip
            go_big_quiet_skip
            go_big_quiet_skip
            go_big_quiet_skip
            go_big_quiet_skip
            go_big_quiet_skip
            go_big_quiet_skip
            go_big_quiet_skip
            go_big_quiet_skip
            go_big_quiet_skip
            go_big_quiet_skip
            go_big_quiet_skip
            go_big_quiet_skip
            go_big_quiet_skip
            go_big_quiet_skip
            go_big_quiet_skip
            go_big_quiet_skip
            go_big_quiet_skip
            refine wpQuiet_pure (v := ?_) (by kernel_rfl) ?_ (fun K hK => ?_)
            case refine_2 => intro W _; go_simp; try with_reducible rfl
            go_simp
            refine hK _ ?_; clear hK K
            refine wpQuiet_nil ?_
            intro w9 hk9

            have HK2 : Hid (Kept wC w9) := Lib.hid (HK.out.then hk9)
            clear hk9 CH HK
            go_wp2
            go_roundg (40 - i1)
            case measure => omega
            case rel => exact ⟨i1, by omega, by first | rfl | (congr 1; omega), HK2⟩
          | false =>
            have hnr : hasR L i = false := by
              unfold hasSec at hhh
              rw [decide_eq_true (by omega), Bool.true_and, Int.toNat_natCast] at hhh
              exact hhh.symm
            have hsame := HALL.out.2.2.2.2 i hi40 hnr
            rw [← hat] at hsame
            obtain ⟨PT, hPT⟩ : ∃ PT, PT = str ((img.drop at').take 128) := ⟨_, rfl⟩
            have hex : NW.extract at' en = PT := by
              rw [HNW.out, hPT, ← hsame]
              apply ByteArray.ext
              rw [ByteArray.data_extract]
              unfold str
              apply Array.ext'
              simp [hen]
            have hcvW : ∀ W, Kept wr W → (convert 49 9 (.slice (if 5120 = at' then some ⟨w.heap.size, 0, none⟩ else some ⟨w.heap.size, at', none⟩) (en - at') (5120 - at'))).run Try.prog W = .ok (.string PT) W := fun W hW => by
              rw [hPT, if_neg (by omega), show en - at' = 128 by omega]
              exact (HBYC.out.kept (HK.out.then hW)).conv at' 128 (5120 - at') (by rw [HIML.out]; omega)
            have hb1 : (0 : Int) ≤ at' := by omega
            have hb2 : (at' : Int) ≤ en := by omega
            have hb3 : (0 : Int) ≤ en := by omega
            have hb4 : (en : Int) ≤ 5120 := by omega
            have hsl : (5120 : Int) - at' = ((5120 - at' : Nat) : Int) := by omega
            have hsn : (en : Int) - at' = 128 := by omega
            have HAT := Lib.hid hat
            have HEN := Lib.hid hen
            clear hhh hnr hsame hPT hat hen
            go_wp2_with fail
            refine wp_region_kept (by kernel_rfl) (by kernel_rfl) ?_
            refine wpQuiet_pure (v := ?_) (by kernel_rfl) ?_ (fun K hK => ?_)
            case refine_2 => intro W _; go_simp; try with_reducible rfl
            go_simp
            refine hK _ ?_; clear hK K
            refine wpQuiet_pure (v := ?_) (by kernel_rfl) ?_ (fun K hK => ?_)
            case refine_2 => intro W _; go_simp; try with_reducible rfl
            go_simp
            refine hK _ ?_; clear hK K
            refine wpQuiet_call (by kernel_rfl) _ _ _ (fun W => by go_simp) (fun W h => Calls.kept_of h (CH W h)) (fun K hK => ?_)
            go_simp
            refine hK _ ?_; clear hK K
            refine wpQuiet_pure (v := ?_) (by kernel_rfl) ?_ (fun K hK => ?_)
            case refine_2 => intro W _; go_simp; try with_reducible rfl
            go_simp
            refine hK _ ?_; clear hK K
            refine wpQuiet_pure (v := ?_) (by kernel_rfl) ?_ (fun K hK => ?_)
            case refine_2 => intro W _; go_simp; try with_reducible rfl
            go_simp
            refine hK _ ?_; clear hK K
            refine wpQuiet_pure (v := ?_) (by kernel_rfl) ?_ (fun K hK => ?_)
            case refine_2 => intro W _; go_simp; try with_reducible rfl
            go_simp
            refine hK _ ?_; clear hK K
            refine wpQuiet_pure (v := ?_) (by kernel_rfl) ?_ (fun K hK => ?_)
            case refine_2 => intro W _; go_simp; try with_reducible rfl
            go_simp
            refine hK _ ?_; clear hK K
            refine wpQuiet_pure (v := ?_) (by kernel_rfl) ?_ (fun K hK => ?_)
            case refine_2 => intro W _; go_simp; try with_reducible rfl
            go_simp
            refine hK _ ?_; clear hK K
            refine wpQuiet_pure (v := ?_) (by kernel_rfl) ?_ (fun K hK => ?_)
            case refine_2 => intro W _; go_simp; try with_reducible rfl
            go_simp
            refine hK _ ?_; clear hK K
            refine wpQuiet_pure (v := ?_) (by kernel_rfl) ?_ (fun K hK => ?_)
            case refine_2 => intro W _; go_simp; try with_reducible rfl
            go_simp
            refine hK _ ?_; clear hK K
            refine wpQuiet_pure (v := ?_) (by kernel_rfl) ?_ (fun K hK => ?_)
            case refine_2 => intro W _; go_simp; try with_reducible rfl
            go_simp
            refine hK _ ?_; clear hK K
            refine wpQuiet_pure (v := ?_) (by kernel_rfl) ?_ (fun K hK => ?_)
            case refine_2 => intro W _; go_simp; try with_reducible rfl
            go_simp
            refine hK _ ?_; clear hK K
            refine wpQuiet_pure (v := ?_) (by kernel_rfl) ?_ (fun K hK => ?_)
            case refine_2 => intro W _; go_simp; try with_reducible rfl
            go_simp
            refine hK _ ?_; clear hK K
            refine wpQuiet_pure (v := ?_) (by kernel_rfl) ?_ (fun K hK => ?_)
            case refine_2 => intro W _; go_simp; try with_reducible rfl
            go_simp
            refine hK _ ?_; clear hK K
            refine wpQuiet_pure (v := ?_) (by kernel_rfl) ?_ (fun K hK => ?_)
            case refine_2 => intro W _; go_simp; try with_reducible rfl
            go_simp
            refine hK _ ?_; clear hK K
            refine wpQuiet_pure (v := ?_) (by kernel_rfl) ?_ (fun K hK => ?_)
            case refine_2 => intro W _; go_simp; try with_reducible rfl
            go_simp
            refine hK _ ?_; clear hK K
            refine wpQuiet_pure (v := ?_) (by kernel_rfl) ?_ (fun K hK => ?_)
            case refine_2 => intro W _; go_simp; try with_reducible rfl
            go_simp
            refine hK _ ?_; clear hK K
            refine wpQuiet_pure (v := ?_) (by kernel_rfl) ?_ (fun K hK => ?_)
            case refine_2 => intro W _; go_simp; try with_reducible rfl
            go_simp
            refine hK _ ?_; clear hK K
            refine wpQuiet_pure (v := ?_) (by kernel_rfl) ?_ (fun K hK => ?_)
            case refine_2 => intro W _; go_simp; try with_reducible rfl
            go_simp
            refine hK _ ?_; clear hK K
            refine wpQuiet_pure (v := ?_) (by kernel_rfl) ?_ (fun K hK => ?_)
            case refine_2 => intro W _; go_simp; try with_reducible rfl
            go_simp
            refine hK _ ?_; clear hK K
            refine wpQuiet_pure (v := ?_) (by kernel_rfl) ?_ (fun K hK => ?_)
            case refine_2 => intro W _; go_simp; try with_reducible rfl
            go_simp
            refine hK _ ?_; clear hK K
            refine wpQuiet_pure (v := ?_) (by kernel_rfl) ?_ (fun K hK => ?_)
            case refine_2 => intro W hW; have e0 := hcvW W hW; go_simp; try with_reducible rfl
            go_simp
            refine hK _ ?_; clear hK K
            refine wpQuiet_pure (v := ?_) (by kernel_rfl) ?_ (fun K hK => ?_)
            case refine_2 => intro W _; go_simp; try with_reducible rfl
            go_simp
            refine hK _ ?_; clear hK K
            refine wpQuiet_pure (v := ?_) (by kernel_rfl) ?_ (fun K hK => ?_)
            case refine_2 => intro W _; go_simp; try with_reducible rfl
            go_simp
            refine hK _ ?_; clear hK K
            refine wpQuiet_pure (v := ?_) (by kernel_rfl) ?_ (fun K hK => ?_)
            case refine_2 => intro W _; go_simp; try with_reducible rfl
            go_simp
            refine hK _ ?_; clear hK K
            refine wpQuiet_nil ?_
            intro w9 hk9

            have HK2 : Hid (Kept wC w9) := Lib.hid (HK.out.then hk9)
            clear hk9 CH HK
            go_wp2
            go_roundg (40 - i1)
            case measure => omega
            case rel => exact ⟨i1, by omega, by first | rfl | (congr 1; omega), HK2⟩
        · have hii : ¬ (i : Int) < 40 := by omega
          have bi : decide ((i : Int) < 40) = false := decide_eq_false hii
          have CT2 := fun W => text12_any k (by omega) W
          rw [← HTX.out] at CT2
          clear hi hii hi40
          go_wp2_with fail
          refine (CT2 wr).mono ?_
          rintro e wD ⟨rfl, hbD⟩
          have HKD : Hid (Kept wC wD) := Lib.hid (HK.out.then hbD)
          clear CT2 hbD HK
          go_wp2_with fail
          refine (HAW.out wD).mono ?_
          rintro e wE ⟨rfl, hbE⟩
          have HKE : Hid (Kept wC wE) := Lib.hid (HKD.out.then hbE)
          clear hbE HKD
          go_wp2
          go_ret
          exact ⟨rfl, HBC.out.then HKE.out⟩

  · rw [decide_eq_false hf]
    have hnf : bPut (Dk.load img) L (seqB k) = (Dk.load img, 1) := by
      unfold bPut
      have e3 : ((Dk.load img).stands.length : Int) = 40 := by show ((secs img).length : Int) = 40; rw [secs_len, HIML.out]; rfl
      rw [e3, seqB_len, if_pos hf]
    rw [hnf] at HCP
    clear hf hnf
    go_wp2_with fail
    refine CT.mono ?_
    rintro e w5 ⟨rfl, hb5⟩
    have CP5 := HCP.out w5 hb5
    have HK5 : Hid (Kept w w5) := Lib.hid (HK4.out.then hb5)
    clear CT hb5
    go_wp2_with fail
    refine CP5.mono ?_
    rintro e w6 ⟨rfl, -, hb6⟩
    have HB6 : Hid (Below w.heap.size w w6) := Lib.hid (ButBy.kept hb6 (fun j hj => by have := (HAB.out j hj).1; have := HLT2.out; omega) HK5.out HK5.out.size)
    clear CP5 hb6
    go_wp2_with fail
    refine (HAW.out w6).mono ?_
    rintro e w7 ⟨rfl, hb7⟩
    have HB7 : Hid (Kept w w7) := Lib.hid ((show Kept w w6 from HB6.out).then hb7)
    clear hb7
    go_wp2
    go_ret
    exact ⟨rfl, HB7.out⟩

end Go.Proofs.Ytppbknlhknadbaa
