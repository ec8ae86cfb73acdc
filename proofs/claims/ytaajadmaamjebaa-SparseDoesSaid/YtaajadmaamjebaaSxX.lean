/- Whether the program's index has what the document's has. -/
import Derived.Test.YtaajadmaamjebaaSxW
import Derived.Deep.LoopGhost
namespace Go.Proofs.Ytaajadmaamjebaa
open Go.RowKit

theorem FpsAt.rangeS {ls : List (List UInt8)} {b off n c : Nat} {w : World} (h : FpsAt 32 ls (.slice (some ⟨b, off, none⟩) n c) w) (i : Nat) (hi : i < ls.length) : w.rangeAt b (off + i * 32) (fpA ls[i]).toList := by
  obtain ⟨h32, p, c', e, h⟩ := h
  simp only [Value.slice.injEq] at e
  obtain ⟨rfl, rfl, rfl⟩ := e
  rcases h with rfl | ⟨b', off', e2, hc⟩
  · simp at hi
  · simp only [Option.some.injEq, Addr.mk.injEq] at e2
    obtain ⟨rfl, rfl, -⟩ := e2
    intro j v hv
    have hj : j < 32 := by
      have := (List.getElem?_eq_some_iff.1 hv).1
      rw [Array.length_toList, fpA_size, h32 _ (List.getElem_mem hi)] at this
      exact this
    have h1 := hc i hi j hj
    rw [Array.getElem?_toList, fpA_get _ j (by rw [h32 _ (List.getElem_mem hi)]; exact hj)] at hv
    rw [show off + i * 32 + j = off + (i * 32 + j) by omega, h1]
    exact hv

set_option maxRecDepth 100000 in
set_option maxHeartbeats 32000000 in
theorem same17_of {B : Nat} {x : Value} {per most : Int} {P : List SRow → (Nat → Prop) → World → Prop} (D : IdxOk B x per most P) {w0 : World} {g : Nat} {Bs : Nat → Prop} {A : List (SRow × Value)} {tv : Value} {R : List SRow} (w : World) (H0 : Duo w0 x g per most P Bs A tv R w) :
    Calls Try.prog 10 #[x, .pointer (some ⟨g, 0, none⟩)] w fun e w' => e = .returned (.bool true) ∧ Kept w w' := by
  obtain ⟨ad, hxp⟩ := D.ptr
  have hrows := H0.ok.rows
  have hal := congrArg List.length H0.map
  rw [List.length_map] at hal
  have HMP := Lib.hid H0.map
  have HAL : Hid (A.length ≤ 1000000 ∧ lenS R ≤ 1000000) := Lib.hid ⟨by omega, by omega⟩
  have CH := rhooks17_any (fun m => m = g ∨ Bs m) g per most A tv w H0.ix HAL.out.1
  rw [H0.map] at CH
  have CL1 := fun W (k : Kept w W) => D.len R Bs W (D.kept H0.p k) H0.ok
  have CL2 := fun W (k : Kept w W) => rlen17_any (fun m => m = g ∨ Bs m) g per most A tv W (H0.ix.later k) (by rw [H0.map]; omega) HAL.out.1
  rw [H0.map] at CL2
  obtain ⟨ll, hll⟩ : ∃ l, l = lenS R := ⟨_, rfl⟩
  rw [← hll] at CL1 CL2
  have CHX := fun W (k : Kept w W) => D.hooks R Bs W (D.kept H0.p k) H0.ok
  obtain ⟨L, hL⟩ : ∃ L, L = R.map Prod.fst := ⟨_, rfl⟩
  rw [← hL] at CH CHX
  obtain ⟨n, hn⟩ : ∃ n, n = L.length := ⟨_, rfl⟩
  have HN : Hid (n = L.length ∧ n ≤ 1000000) := Lib.hid ⟨hn, by rw [hn, hL, List.length_map]; omega⟩
  have bl : ((ll : Int) != (ll : Int)) = false := by simp
  have hbt : (L == L) = true := by simp
  have H := Lib.hid H0
  have HBT := Lib.hid hbt
  subst hxp
  clear hrows hal hll hL hn hbt H0
  go_enter Try.func10, Try.ntmps10
  go_wp2_with fail
  refine CH.mono ?_
  rintro e w1 ⟨v, rfl, hv, hk1⟩
  obtain ⟨p, c, hve, -⟩ := hv.2
  rw [← HN.out.1] at hve
  subst hve
  have HV1 := Lib.hid hv
  have HK1 : Hid (Kept w w1) := Lib.hid hk1
  have CL11 := CL1 w1 hk1
  clear hv hk1 CH CL1
  go_wp2_with fail
  refine CL11.mono ?_
  rintro e w2 ⟨rfl, hb2⟩
  have HK2 : Hid (Kept w w2) := Lib.hid (HK1.out.then hb2)
  have HV2 := Lib.hid (HV1.out.later hb2)
  have CL22 := CL2 w2 HK2.out
  clear hb2 CL11 CL2 HV1 HK1
  go_wp2_with fail
  refine CL22.mono ?_
  rintro e w3 ⟨rfl, hb3⟩
  have HK3 : Hid (Kept w w3) := Lib.hid (HK2.out.then hb3)
  have HV3 := Lib.hid (HV2.out.later hb3)
  have CHX3 := CHX w3 HK3.out
  clear hb3 CL22 CHX HV2 HK2
  go_wp2_with fail
  refine CHX3.mono ?_
  rintro e w4 ⟨⟨vx, rfl, hvx⟩, hb4⟩
  obtain ⟨px, cx, hve, -⟩ := hvx.2
  rw [← HN.out.1] at hve
  subst hve
  have HK4 : Hid (Kept w w4) := Lib.hid (HK3.out.then hb4)
  have HV4 := Lib.hid (HV3.out.later hb4)
  have CS := same_n px p cx c n n L L HN.out.1 HN.out.1 HN.out.2 w4 hvx HV4.out
  rw [HBT.out] at CS
  clear hb4 hvx CHX3 HV3 HK3
  go_wp2_with fail
  refine CS.mono ?_
  rintro e w5 ⟨rfl, hb5⟩
  have HK5 : Hid (Kept w w5) := Lib.hid (HK4.out.then hb5)
  have HV5 := Lib.hid (HV4.out.later hb5)
  clear hb5 CS HV4 HK4
  go_wp2
  go_loopg [6] n (fun gh y wr => ∃ (k : Nat), k + gh = n ∧ y = .int .i64 k ∧ Hid (Kept w wr) ∧ Hid (Kept w5 wr))
  case atStart => exact ⟨0, by omega, rfl, HK5, Lib.hid (Kept.refl w5)⟩
  case round =>
    obtain ⟨k, hk, rfl, HK, HKR⟩ := hrel
    by_cases hlt : k < n
    · have hki : (k : Int) < n := by omega
      have bk : decide ((k : Int) < (n : Int)) = true := by simpa using hki
      have hki0 : (0 : Int) ≤ k := by omega
      have hkl : k < L.length := by rw [← HN.out.1]; exact hlt
      have HVR := Lib.hid (HV5.out.later HKR.out)
      obtain ⟨b, off, cs, t, fr, hp, -, -, -⟩ := (show FpsAt 32 L (.slice p L.length c) wr by rw [← HN.out.1]; exact HVR.out).elem hkl
      subst hp
      obtain ⟨h, hh⟩ : ∃ h, h = L[k] := ⟨_, rfl⟩
      have HH32 : Hid (h.length = 32) := Lib.hid (by rw [hh]; exact HVR.out.1 _ (List.getElem_mem hkl))
      obtain ⟨F, hF⟩ : ∃ F, F = fpA h := ⟨_, rfl⟩
      have HRG : Hid (∀ W, Kept wr W → W.rangeAt b (off + k * 32) F.toList) := Lib.hid (fun W kw => by rw [hF, hh]; exact (HVR.out.later kw).rangeS k hkl)
      have HFI : Hid ((Try.prog.info? 47).map (·.size) = some F.toList.length) := Lib.hid (by rw [Array.length_toList, hF, fpA_size, HH32.out]; exact infoFp)
      have CP1 := Lib.hid (fun W (k : Kept w W) => D.peek R Bs W h (D.kept H.out.p k) H.out.ok HH32.out)
      have CP2 := Lib.hid (fun W (k : Kept w W) => rpeek17_any (fun m => m = g ∨ Bs m) g per most A tv W (H.out.ix.later k) HAL.out.1 h HH32.out)
      rw [← hF] at CP1 CP2
      rw [HMP.out] at CP2
      have IX := fun W => idx_rec (P := Try.prog) (k := 32) Try.underlying34 (fun w => Try.sizeOf47 w) b off n c k hlt W
      obtain ⟨k1, hk1⟩ : ∃ k1, k1 = k + 1 := ⟨_, rfl⟩
      have v1 : IntKind.i64.wrap ((k : Int) + 1) = (k1 : Int) := by rw [show (k : Int) + 1 = (k1 : Int) by omega]; exact IntWalk.i64_in _ (by have := HN.out; omega)
      have HKK : Hid (k1 = k + 1 ∧ k + gk = n ∧ k < n) := Lib.hid ⟨hk1, hk, hlt⟩
      have HKD : Hid (Kept w wr.drew) := Lib.hid (HK.out.then (Below.refl _ wr).drew)
      clear hkl hh hF hk1 hk hlt
      go_wp2_with fail
      refine wp_region_held_drew (S := fun W => W.rangeAt b (off + k * 32) F.toList) (by kernel_rfl) (HRG.out _ (Below.refl _ wr).drew) (fun hHeld => ?_)
      refine wpAnyH_take (i := 0) (v := ?_) rfl (by kernel_rfl) (by kernel_rfl) (by kernel_rfl) (fun _ _ _ h => h) (Or.inl ⟨by first | kernel_rfl | rfl, ?_⟩) (by assumption) ?_
      case refine_2 => intro w hSw; go_simp; try with_reducible rfl
      refine wpAnyH_take (i := 1) (v := ?_) rfl (by kernel_rfl) (by kernel_rfl) (by kernel_rfl) (fun _ _ _ h => h) (Or.inl ⟨by first | kernel_rfl | rfl, ?_⟩) (by assumption) ?_
      case refine_2 => intro w hSw; go_simp; try with_reducible rfl
      refine wpAnyH_take (i := 2) (v := ?_) rfl (by kernel_rfl) (by kernel_rfl) (by kernel_rfl) (fun _ _ _ h => h) (Or.inl ⟨by first | kernel_rfl | rfl, ?_⟩) (by assumption) ?_
      case refine_2 => intro w hSw; go_simp; try with_reducible rfl
      refine wpAnyH_take (i := 3) (v := ?_) rfl (by kernel_rfl) (by kernel_rfl) (by kernel_rfl) (fun _ _ _ h => h) (Or.inl ⟨by first | kernel_rfl | rfl, ?_⟩) (by assumption) ?_
      case refine_2 => intro w hSw; have e0 := IX w; go_simp; try with_reducible rfl
      refine wpAnyH_take (i := 4) (v := .agg F) rfl (by kernel_rfl) (by kernel_rfl) (by kernel_rfl) (fun _ _ _ h => h) (yieldsIf_load_mid (by first | kernel_rfl | rfl) _ _ rfl b (off + k * 32) (by kernel_rfl) F.toList _ (fun _ h => h) Try.underlying47 rfl HFI.out) (by assumption) ?_
      refine wpAnyH_take (i := 6) (v := ?_) rfl (by kernel_rfl) (by kernel_rfl) (by kernel_rfl) (fun _ _ _ h => h) (Or.inl ⟨by first | kernel_rfl | rfl, ?_⟩) (by assumption) ?_
      case refine_2 => intro w hSw; go_simp; try with_reducible rfl
      refine wpAnyH_take (i := 7) (v := ?_) rfl (by kernel_rfl) (by kernel_rfl) (by kernel_rfl) (fun _ _ _ h => h) (Or.inl ⟨by first | kernel_rfl | rfl, ?_⟩) (by assumption) ?_
      case refine_2 => intro w hSw; go_simp; try with_reducible rfl
      refine wpAnyH_take (i := 8) (v := ?_) rfl (by kernel_rfl) (by kernel_rfl) (by kernel_rfl) (fun _ _ _ h => h) (Or.inl ⟨by first | kernel_rfl | rfl, ?_⟩) (by assumption) ?_
      case refine_2 => intro w hSw; go_simp; try with_reducible rfl
      refine wpAnyH_take (i := 9) (v := ?_) rfl (by kernel_rfl) (by kernel_rfl) (by kernel_rfl) (fun _ _ _ h => h) (Or.inl ⟨by first | kernel_rfl | rfl, ?_⟩) (by assumption) ?_
      case refine_2 => intro w hSw; have e0 := IX w; go_simp; try with_reducible rfl
      refine wpAnyH_take (i := 10) (v := .agg F) rfl (by kernel_rfl) (by kernel_rfl) (by kernel_rfl) (fun _ _ _ h => h) (yieldsIf_load_mid (by first | kernel_rfl | rfl) _ _ rfl b (off + k * 32) (by kernel_rfl) F.toList _ (fun _ h => h) Try.underlying47 rfl HFI.out) (by assumption) ?_
      refine wpAnyH_ready (rs := [5]) (by kernel_rfl) (by simp) (AllReadyH.cons rfl (fun K hK => ?_) AllReadyH.nil)
      go_simp
      refine (CP1.out wr.drew HKD.out).mono ?_
      rintro e w4 ⟨⟨v, rfl, hnew⟩, hk4⟩
      have HK4 : Hid (Kept w w4) := Lib.hid (HKD.out.then hk4)
      have HKW4 : Hid (Kept wr w4) := Lib.hid ((show Kept wr wr.drew from (Below.refl _ wr).drew).then hk4)
      have HNEW := Lib.hid hnew
      clear hk4 hnew
      refine hK.out _ _ (HRG.out _ HKW4.out) (fun _ => ?_)
      clear hK K
      refine wpAnyH_ready (rs := [11]) (by kernel_rfl) (by simp) (AllReadyH.cons rfl (fun K hK => ?_) AllReadyH.nil)
      go_simp
      refine (CP2.out w4 HK4.out).mono ?_
      rintro e w6 ⟨v2, rfl, hpk, hk6⟩
      have HK6 : Hid (Kept w w6) := Lib.hid (HK4.out.then hk6)
      have HKW6 : Hid (Kept wr w6) := Lib.hid (HKW4.out.then hk6)
      have HU6 : Hid (UsAt (peekS R h) v w6 ∧ UsAt (peekS R h) v2 w6) := Lib.hid ⟨HNEW.out w6 (fun j h1 h2 => by rw [hk6.block j h2]), hpk w6 (H.out.ix.later HK6.out) w6 (Off.self _ w6)⟩
      clear hpk hk6
      refine hK.out _ _ (HRG.out _ HKW6.out) (fun _ => ?_)
      clear hK K
      refine wpAnyH_ready (rs := [12]) (by kernel_rfl) (by simp) (AllReadyH.cons rfl (fun K hK => ?_) AllReadyH.nil)
      go_simp
      refine (rsame17_any (peekS R h) (peekS R h) v v2 w6 HU6.out.1 HU6.out.2 (by have := H.out.ok.peek h; omega)).mono ?_
      rintro e w7 ⟨rfl, hb7⟩
      have HK7 : Hid (Kept w w7) := Lib.hid (HK6.out.then hb7)
      have HKW7 : Hid (Kept wr w7) := Lib.hid (HKW6.out.then hb7)
      have hbt : (peekS R h == peekS R h) = true := by simp
      rw [hbt]
      clear hb7 hbt
      refine hK.out _ _ (HRG.out _ HKW7.out) (fun _ => ?_)
      clear hK K
      refine wpAnyH_take (i := 13) (v := ?_) rfl (by kernel_rfl) (by kernel_rfl) (by kernel_rfl) (fun _ _ _ h => h) (Or.inl ⟨by first | kernel_rfl | rfl, ?_⟩) (by assumption) ?_
      case refine_2 => intro w hSw; go_simp; try with_reducible rfl
      refine wpAnyH_done (by kernel_rfl) ?_ _
      go_wp2
      go_roundg (n - k1)
      · exact ⟨k1, by have := HKK.out; omega, by first | rfl | (have := HKK.out; congr 1; omega), HK7, Lib.hid ((show Kept w5 wr from HKR.out).then HKW7.out)⟩
      · have := HKK.out; omega
    · have hki : ¬ (k : Int) < n := by omega
      have bk : decide ((k : Int) < (n : Int)) = false := by simpa using hki
      clear hk hlt
      go_wp2
      go_ret
      exact ⟨rfl, HK.out⟩

end Go.Proofs.Ytaajadmaamjebaa
