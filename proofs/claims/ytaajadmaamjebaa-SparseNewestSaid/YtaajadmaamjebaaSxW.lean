/- An act on both indexes; whether they have the same. -/
import Derived.Test.YtaajadmaamjebaaSxV
namespace Go.Proofs.Ytaajadmaamjebaa
open Go.RowKit

theorem cell_congr {w W : World} {b : Nat} (h : W.heap[b]? = w.heap[b]?) (i : Nat) : W.cell? ⟨b, i, none⟩ = w.cell? ⟨b, i, none⟩ := by
  unfold World.cell?
  simp only [h]
theorem FpsAt.agree {n : Nat} {ls : List (List UInt8)} {v : Value} {w W : World} (h : FpsAt n ls v w) (k : ∀ j, j < w.heap.size → W.heap[j]? = w.heap[j]?) : FpsAt n ls v W := by
  obtain ⟨hn, p, c, rfl, h⟩ := h
  refine ⟨hn, p, c, rfl, ?_⟩
  rcases h with h | ⟨b, off, hp, hc⟩
  · exact Or.inl h
  · exact Or.inr ⟨b, off, hp, fun i hi j hj => (cell_congr (k b (World.block_lt_of_cell? _ _ (hc i hi j hj))) _).trans (hc i hi j hj)⟩
/-- What an act leaves. -/
def actR (per most : Int) (R : List SRow) (a : AcS) : List SRow :=
  if a.kind = 1 then lookS R (firstF a) else if a.kind = 2 then R else if a.kind = 3 then dropS a.man R else putS per most a.man R a.hooks
theorem Duo.fps {w0 w : World} {x : Value} {g : Nat} {per most : Int} {P : List SRow → (Nat → Prop) → World → Prop} {Bs : Nat → Prop} {A : List (SRow × Value)} {tv : Value} {R : List SRow} (h : Duo w0 x g per most P Bs A tv R w) {ls : List (List UInt8)} {v : Value} (hf : FpsAt 32 ls v w0) : FpsOff Bs ls v w := fun W _ hW =>
  hf.agree (fun j hj => (hW j (Nat.lt_of_lt_of_le hj h.kept.size) (fun e => by have := h.low j (Or.inr e); omega)).trans (h.kept.block j hj))

set_option maxRecDepth 100000 in
set_option maxHeartbeats 32000000 in
theorem does17_of {B : Nat} {x : Value} {per most : Int} {P : List SRow → (Nat → Prop) → World → Prop} (D : IdxOk B x per most P) {w0 : World} {g : Nat} {Bs : Nat → Prop} {A : List (SRow × Value)} {tv : Value} {R : List SRow} (w : World) (H : Duo w0 x g per most P Bs A tv R w)
    (a : AcS) (tva : Value) (ha : AcAt a tva w0) (hl : a.hooks.length ≤ 1000) :
    Calls Try.prog 9 #[x, .pointer (some ⟨g, 0, none⟩), .agg (acL (a, tva)).toArray] w fun e w' => e = .returned (.bool true) ∧ ∃ Bs' A' tv', Duo w0 x g per most P Bs' A' tv' (actR per most R a) w' := by
  obtain ⟨ad, hxp⟩ := D.ptr
  have CF0 := fun W (k : Kept w0 W) => first17_any a tva W (ha.later k)
  have hF := H.fps ha.hooks
  have hF2 := ha.hooks.later H.kept
  have h32 := firstF_len ha.hooks.1
  obtain ⟨h, hh⟩ : ∃ h, h = firstF a := ⟨_, rfl⟩
  obtain ⟨kd, hkd⟩ : ∃ k, k = a.kind := ⟨_, rfl⟩
  obtain ⟨mn, hmn⟩ : ∃ k, k = a.man := ⟨_, rfl⟩
  obtain ⟨ls, hls⟩ : ∃ k, k = a.hooks := ⟨_, rfl⟩
  have hact : actR per most R a = if kd = 1 then lookS R h else if kd = 2 then R else if kd = 3 then dropS mn R else putS per most mn R ls := by rw [hkd, hh, hmn, hls]; rfl
  have HMN : Hid (mn < 4294967296) := Lib.hid (by rw [hmn]; exact ha.man)
  have hX : (acL (a, tva)).toArray = #[.int .i64 kd, .int .u32 (mn : Nat), tva] := by rw [hkd, hmn]; rfl
  rw [← hh] at CF0 h32
  rw [← hls] at hl hF hF2
  rw [hX] at CF0 ⊢
  have HOT : Hid (tva.oneCell' = true) := Lib.hid ha.hooks.oneS
  have hrows := H.ok.rows
  have HMP := Lib.hid H.map
  have HAL : Hid (A.length ≤ 1000000 ∧ lenS R ≤ 1000000 ∧ (peekS R h).length ≤ 1000000) := Lib.hid ⟨by have := congrArg List.length H.map; rw [List.length_map] at this; omega, by omega, by have := H.ok.peek h; omega⟩
  obtain ⟨W1, hW1⟩ : ∃ W, W = w.alloc (.cells #[.int .i64 kd, .int .u32 (mn : Nat), tva] 36) := ⟨_, rfl⟩
  have HW1 := Lib.hid hW1
  have hk1 : Kept w W1 := by rw [hW1]; exact box_below _ _
  obtain ⟨b1, hb1⟩ : ∃ b, b = w.heap.size := ⟨_, rfl⟩
  have hrow : W1.heap[b1]? = some (.cells #[.int .i64 kd, .int .u32 (mn : Nat), tva] 36 (0, 0)) := by rw [hW1, hb1]; exact heap_alloc_last w _
  have HROW := Lib.hid hrow
  have HBB : Hid (¬ Bs b1 ∧ ¬ b1 = g) := Lib.hid ⟨fun e => by have := (D.above _ _ _ H.p b1 e).2; omega, fun e => by have := H.ix.bnd g (Or.inl rfl); omega⟩
  have HD1 := Lib.hid (H.later D hk1)
  have HDD : Hid (Duo w0 x g per most P Bs A tv R W1.drew) := Lib.hid ((H.later D hk1).later D (show Kept W1 W1.drew from (Below.refl _ W1).drew))
  have HH32 := Lib.hid h32
  have HK0 := Lib.hid (H.kept)
  have c0 : W1.cell? ⟨b1, 0, none⟩ = some (.int .i64 kd) := by rw [cell_of_row _ _ _ _ _ _ hrow]; rfl
  have c1 : W1.cell? ⟨b1, 1, none⟩ = some (.int .u32 (mn : Nat)) := by rw [cell_of_row _ _ _ _ _ _ hrow]; rfl
  have c2 : W1.cell? ⟨b1, 2, none⟩ = some tva := by rw [cell_of_row _ _ _ _ _ _ hrow]; rfl
  have HOFF : Hid (FpsOff Bs ls tva W1) := Lib.hid (by rw [hls]; exact (H.later D hk1).fps ha.hooks)
  have HFW : Hid (∀ W, Kept w0 W → FpsAt 32 ls tva W) := Lib.hid (fun W k => by rw [hls]; exact ha.hooks.later k)
  have HF := Lib.hid hF
  have HF2 := Lib.hid hF2
  have HLS := Lib.hid hl
  rw [hW1, hb1] at c0 c1 c2
  have HB1 := Lib.hid hb1
  subst hxp
  clear hW1 hk1 hrow H ha hh hkd hmn hls hX hrows hF hF2 h32 hl hb1
  by_cases k1 : kd = 1
  · rw [if_pos k1] at hact
    have ACT := Lib.hid hact
    have b1t : (kd == 1) = true := beq_iff_eq.2 k1
    clear hact k1 HF HF2 HOFF HFW HLS
    go_enter Try.func9, Try.ntmps9
    go_wp2_with (with_reducible refine wpList_halt (d := 7) rfl ?_)
    unfold Halted
    rw [← HW1.out]
    clear c0 c1 c2
    rw [← HB1.out]
    have c0 : W1.cell? ⟨b1, 0, none⟩ = some (.int .i64 kd) := by rw [cell_of_row _ _ _ _ _ _ HROW.out]; rfl
    go_wp2_with fail
    refine wp_region_held_drew (S := fun W => W.heap[b1]? = some (.cells #[.int .i64 kd, .int .u32 (mn : Nat), tva] 36 (0, 0))) (by kernel_rfl) HROW.out (fun hHeld => ?_)
    refine wpAnyH_take (i := 0) (v := ?_) rfl (by kernel_rfl) (by kernel_rfl) (by kernel_rfl) (fun _ _ _ h => h) (Or.inl ⟨by first | kernel_rfl | rfl, ?_⟩) (by assumption) ?_
    case refine_2 => intro w hSw; go_simp; try with_reducible rfl
    refine wpAnyH_take (i := 1) (v := .agg #[.int .i64 kd, .int .u32 (mn : Nat), tva]) rfl (by kernel_rfl) (by kernel_rfl) (by kernel_rfl) (fun _ _ _ h => h) (yieldsIf_load_mid (by first | kernel_rfl | rfl) _ _ rfl b1 0 (by kernel_rfl) (#[.int .i64 kd, .int .u32 (mn : Nat), tva] : Array Value).toList _ (fun _ h => range_of_row h) Try.underlying36 rfl infoAc) (by assumption) ?_
    refine wpAnyH_take (i := 4) (v := ?_) rfl (by kernel_rfl) (by kernel_rfl) (by kernel_rfl) (fun _ _ _ h => h) (Or.inl ⟨by first | kernel_rfl | rfl, ?_⟩) (by assumption) ?_
    case refine_2 => intro w hSw; go_simp; try with_reducible rfl
    refine wpAnyH_take (i := 5) (v := .agg #[.int .i64 kd, .int .u32 (mn : Nat), tva]) rfl (by kernel_rfl) (by kernel_rfl) (by kernel_rfl) (fun _ _ _ h => h) (yieldsIf_load_mid (by first | kernel_rfl | rfl) _ _ rfl b1 0 (by kernel_rfl) (#[.int .i64 kd, .int .u32 (mn : Nat), tva] : Array Value).toList _ (fun _ h => range_of_row h) Try.underlying36 rfl infoAc) (by assumption) ?_
    refine wpAnyH_ready (rs := [2]) (by kernel_rfl) (by simp) (AllReadyH.cons rfl (fun K hK => ?_) AllReadyH.nil)
    go_simp
    refine (CF0 _ HDD.out.kept).mono ?_
    rintro e w3 ⟨rfl, hb3⟩
    have HK3 : Hid (Kept W1 w3) := Lib.hid ((show Kept W1 W1.drew from (Below.refl _ W1).drew).then hb3)
    have HR3 := Lib.hid (HK3.out.row HROW.out)
    have HD3 := Lib.hid (HD1.out.later D HK3.out)
    clear hb3
    refine hK.out _ _ (HR3.out) (fun _ => ?_)
    clear hK K
    refine wpAnyH_ready (rs := [3]) (by kernel_rfl) (by simp) (AllReadyH.cons rfl (fun K hK => ?_) AllReadyH.nil)
    go_simp
    refine (D.look R Bs w3 h HD3.out.p HD3.out.ok HH32.out).mono ?_
    rintro e w4 ⟨⟨v, rfl, hnew⟩, hx⟩
    obtain ⟨Bs', hp4, hoff4, hix4, hk4, hlow4⟩ := HD3.out.prog D hx
    have HR4 : Hid (w4.heap[b1]? = some (.cells #[.int .i64 kd, .int .u32 (mn : Nat), tva] 36 (0, 0))) := Lib.hid ((hx.2.block b1 (Array.getElem?_eq_some_iff.1 HR3.out).1 (HBB.out.1)).trans HR3.out)
    have HNEW := Lib.hid hnew
    have HG3 : Hid (g < w3.heap.size) := Lib.hid (HD3.out.ix.bnd g (Or.inl rfl))
    have HP4 := Lib.hid (show P (lookS R h) Bs' w4 ∧ ¬ Bs' g ∧ IxAt (fun m => m = g ∨ Bs' m) g per most A tv w4 ∧ Kept w0 w4 ∧ (∀ m, m = g ∨ Bs' m → w0.heap.size ≤ m) from ⟨hp4, hoff4, hix4, hk4, hlow4⟩)
    clear hx hp4 hoff4 hix4 hk4 hlow4 hnew
    refine hK.out _ _ (HR4.out) (fun _ => ?_)
    clear hK K
    refine wpAnyH_ready (rs := [6]) (by kernel_rfl) (by simp) (AllReadyH.cons rfl (fun K hK => ?_) AllReadyH.nil)
    go_simp
    refine (CF0 _ HP4.out.2.2.2.1).mono ?_
    rintro e w5 ⟨rfl, hb5⟩
    have HK5 : Hid (Kept w4 w5) := Lib.hid hb5
    have HR5 := Lib.hid (HK5.out.row HR4.out)
    clear hb5
    refine hK.out _ _ (HR5.out) (fun _ => ?_)
    clear hK K
    refine wpAnyH_ready (rs := [7]) (by kernel_rfl) (by simp) (AllReadyH.cons rfl (fun K hK => ?_) AllReadyH.nil)
    go_simp
    refine (rlook17_any (fun m => m = g ∨ Bs' m) g per most A tv w5 (HP4.out.2.2.1.later HK5.out) HAL.out.1 h HH32.out).mono ?_
    rintro e w6 ⟨v2, rfl, hpk, ⟨A', tv', hix6, hmap6⟩, hb6⟩
    rw [HMP.out] at hpk hmap6
    have HD6 : Hid (Duo w0 (.pointer (some ad)) g per most P Bs' A' tv' (lookS R h) w6) := Lib.hid (Duo.doc D (D.kept HP4.out.1 HK5.out) HP4.out.2.1 (HP4.out.2.2.2.1.then HK5.out) HP4.out.2.2.2.2 hb6 hix6 hmap6 (HD3.out.ok.look h))
    have HR6 : Hid (w6.heap[b1]? = some (.cells #[.int .i64 kd, .int .u32 (mn : Nat), tva] 36 (0, 0))) := Lib.hid ((hb6.block b1 (Array.getElem?_eq_some_iff.1 HR5.out).1 HBB.out.2).trans HR5.out)
    have HU6 : Hid (UsAt (peekS R h) v w6 ∧ UsAt (peekS R h) v2 w6) := Lib.hid ⟨HNEW.out w6 (fun j h1 h2 => by
      rw [hb6.block j (Nat.lt_of_lt_of_le h2 HK5.out.size) (fun e => by have := HG3.out; omega), HK5.out.block j h2]), hpk w6 (Off.self _ w6)⟩
    clear hpk hix6 hmap6 hb6 HP4
    refine hK.out _ _ (HR6.out) (fun _ => ?_)
    clear hK K
    refine wpAnyH_ready (rs := [8]) (by kernel_rfl) (by simp) (AllReadyH.cons rfl (fun K hK => ?_) AllReadyH.nil)
    go_simp
    refine (rsame17_any (peekS R h) (peekS R h) v v2 w6 HU6.out.1 HU6.out.2 HAL.out.2.2).mono ?_
    rintro e w7 ⟨rfl, hb7⟩
    have HD7 := Lib.hid (HD6.out.later D hb7)
    have HR7 := Lib.hid (Kept.row hb7 HR6.out)
    have hbt : (peekS R h == peekS R h) = true := by simp
    rw [hbt]
    clear hb7 hbt
    refine hK.out _ _ (HR7.out) (fun _ => ?_)
    clear hK K
    refine wpAnyH_take (i := 9) (v := ?_) rfl (by kernel_rfl) (by kernel_rfl) (by kernel_rfl) (fun _ _ _ h => h) (Or.inl ⟨by first | kernel_rfl | rfl, ?_⟩) (by assumption) ?_
    case refine_2 => intro w hSw; go_simp; try with_reducible rfl
    refine wpAnyH_done (by kernel_rfl) ?_ _
    go_wp2
    go_ret
    exact ⟨rfl, Bs', A', tv', by rw [ACT.out]; exact HD7.out⟩
  have b1f : (kd == 1) = false := beq_eq_false_iff_ne.2 k1
  rw [if_neg k1] at hact
  by_cases k2 : kd = 2
  · rw [if_pos k2] at hact
    have ACT := Lib.hid hact
    have b2t : (kd == 2) = true := beq_iff_eq.2 k2
    clear hact k1 k2 HF HF2 HOFF HFW HLS
    go_enter Try.func9, Try.ntmps9
    go_wp2_with (with_reducible refine wpList_halt (d := 7) rfl ?_)
    unfold Halted
    rw [← HW1.out]
    clear c0 c1 c2
    rw [← HB1.out]
    have c0 : W1.cell? ⟨b1, 0, none⟩ = some (.int .i64 kd) := by rw [cell_of_row _ _ _ _ _ _ HROW.out]; rfl
    go_wp2_with fail
    refine wp_region_held_drew (S := fun W => W.heap[b1]? = some (.cells #[.int .i64 kd, .int .u32 (mn : Nat), tva] 36 (0, 0))) (by kernel_rfl) HROW.out (fun hHeld => ?_)
    refine wpAnyH_take (i := 0) (v := ?_) rfl (by kernel_rfl) (by kernel_rfl) (by kernel_rfl) (fun _ _ _ h => h) (Or.inl ⟨by first | kernel_rfl | rfl, ?_⟩) (by assumption) ?_
    case refine_2 => intro w hSw; go_simp; try with_reducible rfl
    refine wpAnyH_take (i := 1) (v := .agg #[.int .i64 kd, .int .u32 (mn : Nat), tva]) rfl (by kernel_rfl) (by kernel_rfl) (by kernel_rfl) (fun _ _ _ h => h) (yieldsIf_load_mid (by first | kernel_rfl | rfl) _ _ rfl b1 0 (by kernel_rfl) (#[.int .i64 kd, .int .u32 (mn : Nat), tva] : Array Value).toList _ (fun _ h => range_of_row h) Try.underlying36 rfl infoAc) (by assumption) ?_
    refine wpAnyH_take (i := 4) (v := ?_) rfl (by kernel_rfl) (by kernel_rfl) (by kernel_rfl) (fun _ _ _ h => h) (Or.inl ⟨by first | kernel_rfl | rfl, ?_⟩) (by assumption) ?_
    case refine_2 => intro w hSw; go_simp; try with_reducible rfl
    refine wpAnyH_take (i := 5) (v := .agg #[.int .i64 kd, .int .u32 (mn : Nat), tva]) rfl (by kernel_rfl) (by kernel_rfl) (by kernel_rfl) (fun _ _ _ h => h) (yieldsIf_load_mid (by first | kernel_rfl | rfl) _ _ rfl b1 0 (by kernel_rfl) (#[.int .i64 kd, .int .u32 (mn : Nat), tva] : Array Value).toList _ (fun _ h => range_of_row h) Try.underlying36 rfl infoAc) (by assumption) ?_
    refine wpAnyH_ready (rs := [2]) (by kernel_rfl) (by simp) (AllReadyH.cons rfl (fun K hK => ?_) AllReadyH.nil)
    go_simp
    refine (CF0 _ HDD.out.kept).mono ?_
    rintro e w3 ⟨rfl, hb3⟩
    have HK3 : Hid (Kept W1 w3) := Lib.hid ((show Kept W1 W1.drew from (Below.refl _ W1).drew).then hb3)
    have HR3 := Lib.hid (HK3.out.row HROW.out)
    have HD3 := Lib.hid (HD1.out.later D HK3.out)
    clear hb3
    refine hK.out _ _ (HR3.out) (fun _ => ?_)
    clear hK K
    refine wpAnyH_ready (rs := [3]) (by kernel_rfl) (by simp) (AllReadyH.cons rfl (fun K hK => ?_) AllReadyH.nil)
    go_simp
    refine (D.peek R Bs w3 h HD3.out.p HD3.out.ok HH32.out).mono ?_
    rintro e w4 ⟨⟨v, rfl, hnew⟩, hk4⟩
    have HR4 := Lib.hid (Kept.row hk4 HR3.out)
    have HD4 := Lib.hid (HD3.out.later D hk4)
    have HNEW := Lib.hid hnew
    clear hk4 hnew
    refine hK.out _ _ (HR4.out) (fun _ => ?_)
    clear hK K
    refine wpAnyH_ready (rs := [6]) (by kernel_rfl) (by simp) (AllReadyH.cons rfl (fun K hK => ?_) AllReadyH.nil)
    go_simp
    refine (CF0 _ HD4.out.kept).mono ?_
    rintro e w5 ⟨rfl, hb5⟩
    have HK5 : Hid (Kept w4 w5) := Lib.hid hb5
    have HR5 := Lib.hid (HK5.out.row HR4.out)
    have HD5 := Lib.hid (HD4.out.later D hb5)
    clear hb5
    refine hK.out _ _ (HR5.out) (fun _ => ?_)
    clear hK K
    refine wpAnyH_ready (rs := [7]) (by kernel_rfl) (by simp) (AllReadyH.cons rfl (fun K hK => ?_) AllReadyH.nil)
    go_simp
    refine (rpeek17_any (fun m => m = g ∨ Bs m) g per most A tv w5 HD5.out.ix HAL.out.1 h HH32.out).mono ?_
    rintro e w6 ⟨v2, rfl, hpk, hk6⟩
    rw [HMP.out] at hpk
    have HD6 := Lib.hid (HD5.out.later D hk6)
    have HR6 := Lib.hid (Kept.row hk6 HR5.out)
    have HU6 : Hid (UsAt (peekS R h) v w6 ∧ UsAt (peekS R h) v2 w6) := Lib.hid ⟨HNEW.out w6 (fun j h1 h2 => by
      rw [hk6.block j (Nat.lt_of_lt_of_le h2 HK5.out.size), HK5.out.block j h2]), hpk w6 HD6.out.ix w6 (Off.self _ w6)⟩
    clear hpk hk6
    refine hK.out _ _ (HR6.out) (fun _ => ?_)
    clear hK K
    refine wpAnyH_ready (rs := [8]) (by kernel_rfl) (by simp) (AllReadyH.cons rfl (fun K hK => ?_) AllReadyH.nil)
    go_simp
    refine (rsame17_any (peekS R h) (peekS R h) v v2 w6 HU6.out.1 HU6.out.2 HAL.out.2.2).mono ?_
    rintro e w7 ⟨rfl, hb7⟩
    have HD7 := Lib.hid (HD6.out.later D hb7)
    have HR7 := Lib.hid (Kept.row hb7 HR6.out)
    have hbt : (peekS R h == peekS R h) = true := by simp
    rw [hbt]
    clear hb7 hbt
    refine hK.out _ _ (HR7.out) (fun _ => ?_)
    clear hK K
    refine wpAnyH_take (i := 9) (v := ?_) rfl (by kernel_rfl) (by kernel_rfl) (by kernel_rfl) (fun _ _ _ h => h) (Or.inl ⟨by first | kernel_rfl | rfl, ?_⟩) (by assumption) ?_
    case refine_2 => intro w hSw; go_simp; try with_reducible rfl
    refine wpAnyH_done (by kernel_rfl) ?_ _
    go_wp2
    go_ret
    exact ⟨rfl, Bs, A, tv, by rw [ACT.out]; exact HD7.out⟩
  have b2f : (kd == 2) = false := beq_eq_false_iff_ne.2 k2
  rw [if_neg k2] at hact
  by_cases k3 : kd = 3
  · rw [if_pos k3] at hact
    have ACT := Lib.hid hact
    have b3t : (kd == 3) = true := beq_iff_eq.2 k3
    have HQQ : Hid ((((lenS R : Int) - (lenS (dropS mn R) : Int)) == ((lenS R : Int) - (lenS (dropS mn R) : Int))) = true) := Lib.hid (beq_self_eq_true _)
    clear hact k1 k2 k3 HF HF2 CF0 HOFF HFW HLS
    go_enter Try.func9, Try.ntmps9
    go_wp2_with (with_reducible refine wpList_halt (d := 7) rfl ?_)
    unfold Halted
    rw [← HW1.out]
    clear c0 c1 c2
    rw [← HB1.out]
    have c0 : W1.cell? ⟨b1, 0, none⟩ = some (.int .i64 kd) := by rw [cell_of_row _ _ _ _ _ _ HROW.out]; rfl
    go_wp2_with fail
    refine wp_region_held_drew (S := fun W => W.heap[b1]? = some (.cells #[.int .i64 kd, .int .u32 (mn : Nat), tva] 36 (0, 0))) (by kernel_rfl) HROW.out (fun hHeld => ?_)
    refine wpAnyH_take (i := 0) (v := ?_) rfl (by kernel_rfl) (by kernel_rfl) (by kernel_rfl) (fun _ _ _ h => h) (Or.inl ⟨by first | kernel_rfl | rfl, ?_⟩) (by assumption) ?_
    case refine_2 => intro w hSw; go_simp; try with_reducible rfl
    refine wpAnyH_take (i := 1) (v := ?_) rfl (by kernel_rfl) (by kernel_rfl) (by kernel_rfl) (fun _ _ _ h => h) (Or.inl ⟨by first | kernel_rfl | rfl, ?_⟩) (by assumption) ?_
    case refine_2 => intro w hSw; go_simp; try with_reducible rfl
    refine wpAnyH_take (i := 2) (v := ?_) rfl (by kernel_rfl) (by kernel_rfl) (by kernel_rfl) (fun _ _ _ h => h) (Or.inl ⟨by first | kernel_rfl | rfl, ?_⟩) (by assumption) ?_
    case refine_2 => intro w hSw; have e0 : w.cell? ⟨b1, 1, none⟩ = some (.int .u32 (mn : Nat)) := by { rw [cell_of_row _ _ _ _ _ _ hSw]; rfl }; go_simp; try with_reducible rfl
    refine wpAnyH_take (i := 4) (v := ?_) rfl (by kernel_rfl) (by kernel_rfl) (by kernel_rfl) (fun _ _ _ h => h) (Or.inl ⟨by first | kernel_rfl | rfl, ?_⟩) (by assumption) ?_
    case refine_2 => intro w hSw; go_simp; try with_reducible rfl
    refine wpAnyH_take (i := 5) (v := ?_) rfl (by kernel_rfl) (by kernel_rfl) (by kernel_rfl) (fun _ _ _ h => h) (Or.inl ⟨by first | kernel_rfl | rfl, ?_⟩) (by assumption) ?_
    case refine_2 => intro w hSw; go_simp; try with_reducible rfl
    refine wpAnyH_take (i := 6) (v := ?_) rfl (by kernel_rfl) (by kernel_rfl) (by kernel_rfl) (fun _ _ _ h => h) (Or.inl ⟨by first | kernel_rfl | rfl, ?_⟩) (by assumption) ?_
    case refine_2 => intro w hSw; have e0 : w.cell? ⟨b1, 1, none⟩ = some (.int .u32 (mn : Nat)) := by { rw [cell_of_row _ _ _ _ _ _ hSw]; rfl }; go_simp; try with_reducible rfl
    refine wpAnyH_ready (rs := [3]) (by kernel_rfl) (by simp) (AllReadyH.cons rfl (fun K hK => ?_) AllReadyH.nil)
    go_simp
    refine (D.drop R Bs W1.drew mn HDD.out.p HDD.out.ok HMN.out).mono ?_
    rintro e w4 ⟨rfl, hx⟩
    obtain ⟨Bs', hp4, hoff4, hix4, hk4, hlow4⟩ := HDD.out.prog D hx
    have HR4 : Hid (w4.heap[b1]? = some (.cells #[.int .i64 kd, .int .u32 (mn : Nat), tva] 36 (0, 0))) := Lib.hid ((hx.2.block b1 (Array.getElem?_eq_some_iff.1 HROW.out).1 (HBB.out.1)).trans HROW.out)
    have HP4 := Lib.hid (show P (dropS mn R) Bs' w4 ∧ ¬ Bs' g ∧ IxAt (fun m => m = g ∨ Bs' m) g per most A tv w4 ∧ Kept w0 w4 ∧ (∀ m, m = g ∨ Bs' m → w0.heap.size ≤ m) from ⟨hp4, hoff4, hix4, hk4, hlow4⟩)
    clear hx hp4 hoff4 hix4 hk4 hlow4
    refine hK.out _ _ (HR4.out) (fun _ => ?_)
    clear hK K
    refine wpAnyH_ready (rs := [7]) (by kernel_rfl) (by simp) (AllReadyH.cons rfl (fun K hK => ?_) AllReadyH.nil)
    go_simp
    refine (rdrop17_any (fun m => m = g ∨ Bs' m) g per most A tv w4 HP4.out.2.2.1 HAL.out.1 (by rw [HMP.out]; exact HAL.out.2.1) mn).mono ?_
    rintro e w6 ⟨rfl, ⟨A', tv', hix6, hmap6⟩, hb6⟩
    rw [HMP.out] at hmap6 ⊢
    have HD6 : Hid (Duo w0 (.pointer (some ad)) g per most P Bs' A' tv' (dropS mn R) w6) := Lib.hid (Duo.doc D HP4.out.1 HP4.out.2.1 HP4.out.2.2.2.1 HP4.out.2.2.2.2 hb6 hix6 hmap6 (HDD.out.ok.drop mn))
    have HR6 : Hid (w6.heap[b1]? = some (.cells #[.int .i64 kd, .int .u32 (mn : Nat), tva] 36 (0, 0))) := Lib.hid ((hb6.block b1 (Array.getElem?_eq_some_iff.1 HR4.out).1 HBB.out.2).trans HR4.out)
    clear hix6 hmap6 hb6 HP4
    refine hK.out _ _ (HR6.out) (fun _ => ?_)
    clear hK K
    refine wpAnyH_take (i := 8) (v := ?_) rfl (by kernel_rfl) (by kernel_rfl) (by kernel_rfl) (fun _ _ _ h => h) (Or.inl ⟨by first | kernel_rfl | rfl, ?_⟩) (by assumption) ?_
    case refine_2 => intro w hSw; have e0 := HQQ.out; go_simp; try with_reducible rfl
    refine wpAnyH_take (i := 9) (v := ?_) rfl (by kernel_rfl) (by kernel_rfl) (by kernel_rfl) (fun _ _ _ h => h) (Or.inl ⟨by first | kernel_rfl | rfl, ?_⟩) (by assumption) ?_
    case refine_2 => intro w hSw; go_simp; try with_reducible rfl
    refine wpAnyH_done (by kernel_rfl) ?_ _
    go_wp2
    go_ret
    exact ⟨rfl, Bs', A', tv', by rw [ACT.out]; exact HD6.out⟩
  have b3f : (kd == 3) = false := beq_eq_false_iff_ne.2 k3
  rw [if_neg k3] at hact
  have ACT := Lib.hid hact
  obtain ⟨p, c, htva, -⟩ := HF2.out.2
  obtain ⟨n, hn⟩ : ∃ n, n = ls.length := ⟨_, rfl⟩
  rw [← hn] at htva
  subst htva
  clear hact k1 k2 k3 CF0 hn
  go_enter Try.func9, Try.ntmps9
  go_wp2_with (with_reducible refine wpList_halt (d := 7) rfl ?_)
  unfold Halted
  rw [← HW1.out]
  clear c0 c1 c2
  rw [← HB1.out]
  have c0 : W1.cell? ⟨b1, 0, none⟩ = some (.int .i64 kd) := by rw [cell_of_row _ _ _ _ _ _ HROW.out]; rfl
  have c1 : W1.cell? ⟨b1, 1, none⟩ = some (.int .u32 (mn : Nat)) := by rw [cell_of_row _ _ _ _ _ _ HROW.out]; rfl
  have c2 : W1.cell? ⟨b1, 2, none⟩ = some (.slice p n c) := by rw [cell_of_row _ _ _ _ _ _ HROW.out]; rfl
  go_wp2_with fail
  refine (D.put R Bs W1 mn ls _ HD1.out.p HD1.out.ok HMN.out (by have := HLS.out; omega) (HOFF.out)).mono ?_
  rintro e w4 ⟨rfl, hx⟩
  obtain ⟨Bs', hp4, hoff4, hix4, hk4, hlow4⟩ := HD1.out.prog D hx
  have HR4 : Hid (w4.heap[b1]? = some (.cells #[.int .i64 kd, .int .u32 (mn : Nat), .slice p n c] 36 (0, 0))) := Lib.hid ((hx.2.block b1 (Array.getElem?_eq_some_iff.1 HROW.out).1 (HBB.out.1)).trans HROW.out)
  have HP4 := Lib.hid (show P (putS per most mn R ls) Bs' w4 ∧ ¬ Bs' g ∧ IxAt (fun m => m = g ∨ Bs' m) g per most A tv w4 ∧ Kept w0 w4 ∧ (∀ m, m = g ∨ Bs' m → w0.heap.size ≤ m) from ⟨hp4, hoff4, hix4, hk4, hlow4⟩)
  have e1 : w4.cell? ⟨b1, 1, none⟩ = some (.int .u32 (mn : Nat)) := by rw [cell_of_row _ _ _ _ _ _ HR4.out]; rfl
  have e2 : w4.cell? ⟨b1, 2, none⟩ = some (.slice p n c) := by rw [cell_of_row _ _ _ _ _ _ HR4.out]; rfl
  clear hx hp4 hoff4 hix4 hk4 hlow4 c0 c1 c2
  go_wp2_with fail
  refine (rput17_any (fun m => m = g ∨ Bs' m) g per most A tv w4 HP4.out.2.2.1 HD1.out.ok.p HD1.out.ok.m (by rw [HMP.out]; exact HD1.out.ok.ok.pos) (by rw [HMP.out]; exact HD1.out.ok.len) mn HMN.out ls _ (by have := HLS.out; omega) (HFW.out w4 HP4.out.2.2.2.1)).mono ?_
  rintro e w6 ⟨rfl, ⟨A', tv', hix6, hmap6⟩, hb6⟩
  rw [HMP.out] at hmap6
  have HD6 : Hid (Duo w0 (.pointer (some ad)) g per most P Bs' A' tv' (putS per most mn R ls) w6) := Lib.hid (Duo.doc D HP4.out.1 HP4.out.2.1 HP4.out.2.2.2.1 HP4.out.2.2.2.2 hb6 hix6 hmap6 (HD1.out.ok.put HMN.out HF2.out.1))
  clear hix6 hmap6 hb6 HP4 e1 e2
  go_wp2
  go_ret
  exact ⟨rfl, Bs', A', tv', by rw [ACT.out]; exact HD6.out⟩

end Go.Proofs.Ytaajadmaamjebaa
