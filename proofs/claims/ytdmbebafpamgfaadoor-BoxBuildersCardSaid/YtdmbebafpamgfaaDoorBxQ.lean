/- BoxBursts out of the contracts. -/
import Derived.Test.YtdmbebafpamgfaaDoorBxO
import Derived.Test.YtdmbebafpamgfaaDoorBxT
namespace Go.Proofs.YtdmbebafpamgfaaDoor
open Go.RowKit

theorem chunkE_of {t : List UInt8} {h : Hd} (hg : headG t = some h) {k : Int} (hk : 0 ≤ k ∧ k < h.slots.length) : chunkE t k = if (chunkG t k).isSome then 0 else 110 := by
  have he : chunkE t k = if ¬ (0 ≤ k ∧ k < h.slots.length) then 5 else if rightK t h k.toNat then 0 else 110 := by unfold chunkE; rw [hg]
  have hc := chunkG_of hg k
  rw [if_neg (fun x => x hk)] at he
  by_cases hr : rightK t h k.toNat
  · rw [if_pos hr] at he
    rw [if_pos ⟨hk, hr⟩] at hc
    rw [he, hc]; rfl
  · rw [if_neg hr] at he
    rw [if_neg (fun y => hr y.2)] at hc
    rw [he, hc]; rfl
theorem dataC_append (A B : List ByteArray) : dataC (A ++ B) = dataC A ++ dataC B := List.flatMap_append
theorem dataC_cons (c : ByteArray) (B : List ByteArray) : dataC (c :: B) = c.data.toList ++ dataC B := List.flatMap_cons
/-- A box's bytes with a chunk's put anew. -/
theorem spoilt_bytes {id : Nat} {L : List ByteArray} {k : Nat} (hk : k < L.length) (c : ByteArray) :
    (boxB id L).take (atH (headC id L) k) ++ (c.data.toList ++ (boxB id L).drop (atH (headC id L) k + lenK (headC id L) k)) = frontH (headC id L) ++ dataC (L.set k c) := by
  have e1 : dataC L = dataC (L.take k) ++ ((L[k]).data.toList ++ dataC (L.drop (k + 1))) := by
    conv => lhs; rw [← List.take_append_drop k L, List.drop_eq_getElem_cons hk]
    rw [dataC_append, dataC_cons]
  have e2 : dataC (L.set k c) = dataC (L.take k) ++ (c.data.toList ++ dataC (L.drop (k + 1))) := by
    rw [List.set_eq_take_append_cons_drop, if_pos hk, dataC_append, dataC_cons]
  have e3 : atH (headC id L) k = (frontH (headC id L) ++ dataC (L.take k)).length := by
    unfold atH
    rw [List.length_append, frontH_len, dataC_len, lensH_headC]
    unfold lensC
    rw [List.map_take]
  have e4 : lenK (headC id L) k = (L[k]).data.toList.length := by rw [(headC_get id L hk).1, data_len]
  have e5 : boxB id L = (frontH (headC id L) ++ dataC (L.take k)) ++ ((L[k]).data.toList ++ dataC (L.drop (k + 1))) := by
    unfold boxB
    rw [e1, List.append_assoc]
  rw [e5, e2, e3, e4, List.take_left' rfl, ← List.drop_drop, List.drop_left' rfl, List.drop_left' rfl]
  simp only [List.append_assoc]
theorem spoilt_chunk {id : Nat} {L : List ByteArray} (h : mayC id L) {k : Nat} (hk : k < L.length) {a b : Nat} (ha : a ≤ 8 * (L[k]).size) (hb : b ≤ 4294967295) {i : Nat} (hi : i < L.length) :
    (i = k ∧ str (turnL L[k] a b) ≠ L[k] → chunkG (frontH (headC id L) ++ dataC (L.set k (str (turnL L[k] a b)))) i = none ∧ chunkE (frontH (headC id L) ++ dataC (L.set k (str (turnL L[k] a b)))) i = 110) ∧
    (¬ (i = k ∧ str (turnL L[k] a b) ≠ L[k]) → chunkG (frontH (headC id L) ++ dataC (L.set k (str (turnL L[k] a b)))) i = some (L[i]).data.toList ∧ chunkE (frontH (headC id L) ++ dataC (L.set k (str (turnL L[k] a b)))) i = 0) := by
  have hc : (str (turnL L[k] a b)).size = (L[k]).size := by rw [str_size, turnL_len]
  have hs := chunkG_spoilt h hk hc hi
  have hl := lens_set hk hc
  have hg : headG (frontH (headC id L) ++ dataC (L.set k (str (turnL L[k] a b)))) = some (headC id L) := headG_app ((goodH_headC id L).2 h) (wfH_headC h) _ (by rw [dataC_len, lensH_headC, hl])
  have he := chunkE_of hg (k := (i : Int)) ⟨by omega, by rw [headC_len]; omega⟩
  refine ⟨fun x => ?_, fun x => ?_⟩
  · obtain ⟨rfl, hne⟩ := x
    have hb2 := burst_sum L[i] a b ha hb hne
    have e0 : ((L.set i (str (turnL L[i] a b)))[i]'(by rw [List.length_set]; exact hi)).data.toList = turnL L[i] a b := by
      rw [List.getElem_set_self, str_list]
    rw [if_neg (by rw [e0]; exact hb2)] at hs
    rw [hs] at he
    exact ⟨hs, he⟩
  · have e0 : (L.set k (str (turnL L[k] a b)))[i]'(by rw [List.length_set]; exact hi) = L[i] := by
      rw [List.getElem_set]
      split
      · rename_i hki
        subst hki
        exact Decidable.byContradiction fun y => x ⟨rfl, y⟩
      · rfl
    rw [if_pos (by rw [e0]), e0] at hs
    rw [hs] at he
    exact ⟨hs, he⟩

set_option maxRecDepth 100000 in
set_option maxHeartbeats 16000000 in
theorem boxBursts_of (CK0 : BCheckOk) (CC : BChunkOk) (AW : AwakeB) (id : Nat) (hid : id < 4294967296) (L0 : List ByteArray) (v0 : Value) (sl : Nat) (hsl : sl < 256) (at0 : Nat) (hat : at0 < 65536) (bi : Nat) (hbi : bi ≤ 4294967295)
    (w : World) (h0 : StrAt L0 v0 w) (hT : TabAt w) :
    Calls Tryd.prog 7 #[.int .u32 (id : Nat), v0, .int .u8 (sl : Nat), .int .u16 (at0 : Nat), .int .u32 (bi : Nat)] w fun e w' => e = .returned (.bool true) ∧ Kept w w' := by
  have CF := few14_any L0 v0 w h0
  have hll := fewC_len L0
  have hsz := fewC_size L0
  obtain ⟨L, hL⟩ : ∃ L, L = fewC L0 := ⟨_, rfl⟩
  rw [← hL] at CF hll hsz
  obtain ⟨p0, c0, hv0, -⟩ := h0
  subst hv0
  obtain ⟨n0, hn0⟩ : ∃ n, n = L0.length := ⟨_, rfl⟩
  rw [← hn0] at CF ⊢
  have hszz : ∀ s ∈ L, s.size ≤ 100000 := fun s hs => by have := hsz s hs; omega
  have C2 := fun (v : Value) W (H : StrAt L v W) => CK0 id L v W hid H (by omega) hszz
  have C3 := fun (v : Value) W (H : StrAt L v W) => rmay14_any id hid L v W H (by omega)
  have HT := Lib.hid hT
  clear hL hn0 CK0 hT
  by_cases hm : mayC id L
  · rw [decide_eq_true hm] at C3
    have hlen : 1 ≤ L.length := by
      have h1 := hm.2.1.1
      unfold lensC at h1
      rw [List.length_map] at h1
      exact h1
    obtain ⟨k, hkd⟩ : ∃ k, k = sl % L.length := ⟨_, rfl⟩
    have hk : k < L.length := by rw [hkd]; exact Nat.mod_lt _ (by omega)
    have hkt : (sl : Int).tmod (L.length : Int) = (k : Int) := by rw [Int.tmod_eq_emod_of_nonneg (by omega), hkd]; simp
    have hxs := hm.2.2.1 (L[k]).size (List.mem_map.2 ⟨_, List.getElem_mem hk, rfl⟩)
    obtain ⟨m, hmd⟩ : ∃ m, m = 8 * (L[k]).size := ⟨_, rfl⟩
    obtain ⟨a, had⟩ : ∃ a, a = at0 % m := ⟨_, rfl⟩
    have ham : a < m := by rw [had]; exact Nat.mod_lt _ (by omega)
    have hat2 : (at0 : Int).tmod (m : Int) = (a : Int) := by rw [Int.tmod_eq_emod_of_nonneg (by omega), had]; simp
    have CT := fun W => rturn_any (L[k]) (by omega) (a : Int) (by omega) bi hbi W
    have CR := fun {v : Value} W (H : StrAt L v W) => rbuild14_any id L hm v W H
    have CO := fun {v : Value} W (H : StrAt L v W) => rof14_any id L v W H (by omega) hszz
    have CW := fun (v : Value) W (H : HeadIs (headC id L) v W) => rwhere14_any (headC id L) ((goodH_headC id L).2 hm) k (by rw [headC_len]; exact hk) v W H
    have hsp := spoilt_bytes (id := id) hk (str (turnL L[k] a bi))
    have hch := fun (i : Nat) (hi : i < L.length) => spoilt_chunk hm hk (a := a) (b := bi) (by omega) hbi hi
    have hsize := @boxB_len id L
    have h65 := hm.2.2.2
    have hend : atH (headC id L) k + lenK (headC id L) k ≤ (boxB id L).length := by
      have h1 := atH_le (h := headC id L) (k := k) (by rw [headC_len]; exact hk)
      have h2 := headG_size (headG_boxB hm)
      omega
    obtain ⟨fr, hfr⟩ : ∃ f, f = atH (headC id L) k := ⟨_, rfl⟩
    obtain ⟨ln, hln⟩ : ∃ f, f = lenK (headC id L) k := ⟨_, rfl⟩
    rw [← hfr, ← hln] at hsp hend CW
    obtain ⟨c, hcd⟩ : ∃ c, c = str (turnL L[k] a bi) := ⟨_, rfl⟩
    have hcs : c.size = (L[k]).size := by rw [hcd, str_size, turnL_len]
    rw [← hcd] at hsp hch CT
    obtain ⟨S, hS⟩ : ∃ S, S = boxB id L := ⟨_, rfl⟩
    rw [← hS] at hsp hend hsize CR
    obtain ⟨U, hU⟩ : ∃ U, U = frontH (headC id L) ++ dataC (L.set k c) := ⟨_, rfl⟩
    rw [← hU] at hsp hch
    obtain ⟨T, hTT⟩ : ∃ T, T = str S := ⟨_, rfl⟩
    rw [← hTT] at CR
    have hTl : T.size = S.length := by rw [hTT, str_size]
    obtain ⟨en, hen⟩ : ∃ e, e = fr + ln := ⟨_, rfl⟩
    rw [← hen] at hsp hend
    have q1 : T.extract 0 fr = str (S.take fr) := by rw [hTT]; have := str_mid S 0 fr; rwa [Nat.zero_add, List.drop_zero] at this
    have q2 : T.extract en T.size = str (S.drop en) := by
      have h1 := str_mid S en (T.size - en)
      rw [show en + (T.size - en) = T.size by omega, List.take_of_length_le (by rw [List.length_drop]; omega)] at h1
      rw [← h1, hTT]
    obtain ⟨P1, hP1⟩ : ∃ P, P = T.extract 0 fr := ⟨_, rfl⟩
    obtain ⟨P2, hP2⟩ : ∃ P, P = P1 ++ c := ⟨_, rfl⟩
    obtain ⟨P3, hP3⟩ : ∃ P, P = T.extract en T.size := ⟨_, rfl⟩
    obtain ⟨V, hV⟩ : ∃ P, P = P2 ++ P3 := ⟨_, rfl⟩
    have hVU : V = str U := by
      rw [hV, hP2, hP1, hP3, q1, q2, ← hsp, ← str_append, ← str_append, str_data, ByteArray.append_assoc]
    have hx1 : T.extract 0 fr = P1 := hP1.symm
    have hx2 : P1 ++ c = P2 := hP2.symm
    have hx3 : T.extract en T.size = P3 := hP3.symm
    have hx4 : P2 ++ P3 = V := hV.symm
    have z1 : P1.size = fr := by rw [hP1, ByteArray.size_extract]; omega
    have z2 : P2.size = fr + (L[k]).size := by rw [hP2, ByteArray.size_append, z1, hcs]
    have z3 : P3.size = T.size - en := by rw [hP3, ByteArray.size_extract]; omega
    obtain ⟨x3, hx3s⟩ : ∃ x, x = T.size - en := ⟨_, rfl⟩
    rw [← hx3s] at z3
    have hTb : T.size ≤ 80000 := by omega
    obtain ⟨xz, hxz⟩ : ∃ x, x = (L[k]).size := ⟨_, rfl⟩
    rw [← hxz] at hcs z2 hmd hxs
    have o1 : ¬ 9223372036854775807 < fr + xz := by omega
    have o2 : ¬ 9223372036854775807 < fr + xz + x3 := by omega
    have hVs : V.size ≤ 100000 := by rw [hV, ByteArray.size_append, z2, z3]; omega
    have CC1 := fun (i : Nat) (hi : i < L.length) W (x : Kept w W) => CC V (i : Int) W hVs (wf_of_le _ (by omega) (by omega)) (HT.out.later x)
    rw [hVU, str_list] at CC1
    rw [← hVU] at CC1
    obtain ⟨X, hX⟩ : ∃ X, X = L[k] := ⟨_, rfl⟩
    have hX2 : X.size = xz := by rw [hX, hxz]
    have u1 : IntKind.i64.wrap (sl : Int) = (sl : Int) := IntWalk.i64_in _ (by omega)
    have u2 : IntKind.i64.wrap (at0 : Int) = (at0 : Int) := IntWalk.i64_in _ (by omega)
    have u3 : IntKind.i64.wrap (8 * (xz : Int)) = (m : Int) := by rw [IntWalk.i64_in _ (by omega)]; omega
    have u4 : IntKind.i64.wrap ((fr : Int) + (ln : Int)) = (en : Int) := by rw [IntWalk.i64_in _ (by omega)]; omega
    have u5 : IntKind.i64.wrap (k : Int) = (k : Int) := IntWalk.i64_in _ (by omega)
    have u6 : IntKind.i64.wrap (a : Int) = (a : Int) := IntWalk.i64_in _ (by omega)
    have w1 : ((m : Int) == 0) = false := by rw [beq_eq_false_iff_ne]; omega
    have w2 : ((L.length : Int) == 0) = false := by rw [beq_eq_false_iff_ne]; omega
    have w3 : ¬ m = 0 := by omega
    have w4 : ¬ L.length = 0 := by omega
    have r1 : (0 : Int) ≤ fr := by omega
    have r2 : (fr : Int) ≤ T.size := by omega
    have r3 : (0 : Int) ≤ en := by omega
    have r4 : (en : Int) ≤ T.size := by omega
    rw [← hX] at CT
    have HCH : Hid (∀ i (hi : i < L.length), (i = k ∧ c ≠ X → chunkG U i = none ∧ chunkE U i = 110) ∧ (¬ (i = k ∧ c ≠ X) → chunkG U i = some (L[i]).data.toList ∧ chunkE U i = 0)) := Lib.hid (fun i hi => by rw [hX]; exact hch i hi)
    have HXK : Hid (∀ hk : k < L.length, L[k] = X) := Lib.hid (fun _ => hX.symm)
    have HKL := Lib.hid hk
    have HCC := Lib.hid CC1
    obtain ⟨n, hn⟩ : ∃ n, n = L.length := ⟨_, rfl⟩
    have HN := Lib.hid hn
    have hkn : (k : Int) < n := by omega
    have hk0 : (0 : Int) ≤ k := by omega
    have hn260 : n ≤ 260 := by omega
    rw [← hn] at hkt w2 w4
    clear hm hlen hkd hk hxs hmd had ham hsp hch hsize h65 hend hfr hln hcd hS hU hTT hTl hen q1 q2 hP1 hP2 hP3 hV hVU hx3s hTb hxz hVs CC CC1 hX hid hsl hat hbi hll hsz hszz
    clear C2
    go_enter Tryd.func7, Tryd.ntmps7
    go_wp2_with fail
    refine CF.mono ?_
    rintro e w1' ⟨⟨v, rfl, hv, -⟩, hb⟩
    have HV1 := Lib.hid hv
    have HK1 : Hid (Kept w w1') := Lib.hid hb
    have C33 := C3 v w1' hv
    obtain ⟨pl, cl, hve, hcl⟩ := hv
    subst hve
    have HCL := Lib.hid hcl
    rw [← hn] at HV1 C33 ⊢
    clear CF hb C3 hn hcl
    go_wp2_with fail
    refine C33.mono ?_
    rintro e w5 ⟨rfl, hb⟩
    have HV5 := Lib.hid (HV1.out.later hb)
    have HK15 : Hid (Kept w1' w5) := Lib.hid hb
    rcases HCL.out with hz | ⟨bb, off, rfl, hcell⟩
    · have := HKL.out; rw [hz] at this; simp at this
    have HCE : Hid (∀ i (hi : i < L.length), w1'.cell? ⟨bb, off + i, none⟩ = some (.string L[i])) := Lib.hid hcell
    have ek := Kept.cell hb (hcell k HKL.out)
    rw [HXK.out HKL.out] at ek
    clear hb C33 HV1 hcell HCL
    go_wp2_with fail
    refine wp_region_kept (by kernel_rfl) (by kernel_rfl) ?_
    refine wpQuiet_pure (v := ?_) (by kernel_rfl) ?_ (fun K hK => ?_)
    case refine_2 => intro W _; go_simp; try with_reducible rfl
    go_simp
    refine hK _ ?_; clear hK K
    refine wpQuiet_pure (v := ?_) (by kernel_rfl) ?_ (fun K hK => ?_)
    case refine_2 => intro W _; go_simp; try with_reducible rfl
    go_simp
    refine hK _ ?_; clear hK K
    refine wpQuiet_pure (v := ?_) (by kernel_rfl) ?_ (fun K hK => ?_)
    case refine_2 => intro W _; go_simp; try with_reducible rfl
    go_simp
    refine hK _ ?_; clear hK K
    refine wpQuiet_pure (v := ?_) (by kernel_rfl) ?_ (fun K hK => ?_)
    case refine_2 => intro W hW; have e0 := hW.cell ek; go_simp; try with_reducible rfl
    go_simp
    refine hK _ ?_; clear hK K
    refine wpQuiet_pure (v := ?_) (by kernel_rfl) ?_ (fun K hK => ?_)
    case refine_2 => intro W _; go_simp; try with_reducible rfl
    go_simp
    refine hK _ ?_; clear hK K
    refine wpQuiet_pure (v := ?_) (by kernel_rfl) ?_ (fun K hK => ?_)
    case refine_2 => intro W _; go_simp; try with_reducible rfl
    go_simp
    refine hK _ ?_; clear hK K
    refine wpQuiet_pure (v := ?_) (by kernel_rfl) ?_ (fun K hK => ?_)
    case refine_2 => intro W _; go_simp; try with_reducible rfl
    go_simp
    refine hK _ ?_; clear hK K
    refine wpQuiet_pure (v := ?_) (by kernel_rfl) ?_ (fun K hK => ?_)
    case refine_2 => intro W _; go_simp; try with_reducible rfl
    go_simp
    refine hK _ ?_; clear hK K
    refine wpQuiet_pure (v := ?_) (by kernel_rfl) ?_ (fun K hK => ?_)
    case refine_2 => intro W _; go_simp; try with_reducible rfl
    go_simp
    refine hK _ ?_; clear hK K
    refine wpQuiet_pure (v := ?_) (by kernel_rfl) ?_ (fun K hK => ?_)
    case refine_2 => intro W hW; have e0 := hW.cell ek; go_simp; try with_reducible rfl
    go_simp
    refine hK _ ?_; clear hK K
    refine wpQuiet_pure (v := ?_) (by kernel_rfl) ?_ (fun K hK => ?_)
    case refine_2 => intro W _; go_simp; try with_reducible rfl
    go_simp
    refine hK _ ?_; clear hK K
    refine wpQuiet_pure (v := ?_) (by kernel_rfl) ?_ (fun K hK => ?_)
    case refine_2 => intro W _; go_simp; try with_reducible rfl
    go_simp
    refine hK _ ?_; clear hK K
    refine wpQuiet_pure (v := ?_) (by kernel_rfl) ?_ (fun K hK => ?_)
    case refine_2 => intro W _; go_simp; try with_reducible rfl
    go_simp
    refine hK _ ?_; clear hK K
    refine wpQuiet_pure (v := ?_) (by kernel_rfl) ?_ (fun K hK => ?_)
    case refine_2 => intro W _; go_simp; try with_reducible rfl
    go_simp
    refine hK _ ?_; clear hK K
    refine wpQuiet_call (by kernel_rfl) _ _ _ (fun W => by go_simp) (fun W h => Calls.kept_of h (CT W)) (fun K hK => ?_)
    go_simp
    refine hK _ ?_; clear hK K
    refine wpQuiet_pure (v := ?_) (by kernel_rfl) ?_ (fun K hK => ?_)
    case refine_2 => intro W _; go_simp; try with_reducible rfl
    go_simp
    refine hK _ ?_; clear hK K
    refine wpQuiet_nil ?_
    intro w6 hk6
    have HV6 := Lib.hid (HV5.out.later hk6)
    have HK16 : Hid (Kept w1' w6) := Lib.hid ((show Kept w1' w5 from HK15.out).then hk6)
    have CR6 := CR w6 HV6.out
    clear hk6 CT CR HV5 ek u2 u3 hat2 w1 w3
    go_wp2_with fail
    refine CR6.mono ?_
    rintro e w7 ⟨rfl, hb⟩
    have HV7 := Lib.hid (HV6.out.later hb)
    have HK17 : Hid (Kept w1' w7) := Lib.hid ((show Kept w1' w6 from HK16.out).then hb)
    have CO7 := CO w7 HV7.out
    clear hb CR6 CO HV6
    go_wp2_with fail
    refine CO7.mono ?_
    rintro e w8 ⟨⟨u, rfl, hu⟩, hb⟩
    have HV8 := Lib.hid (HV7.out.later hb)
    have HK18 : Hid (Kept w1' w8) := Lib.hid ((show Kept w1' w7 from HK17.out).then hb)
    have CW8 := CW u w8 hu
    obtain ⟨su, hsu, hsl⟩ := hu
    subst hsu
    clear hb CO7 HV7 CW hsl
    go_wp2_with fail
    refine CW8.mono ?_
    rintro e w9 ⟨rfl, hb⟩
    have HK19 : Hid (Kept w1' w9) := Lib.hid ((show Kept w1' w8 from HK18.out).then hb)
    clear hb CW8 HV8
    go_wp2_with fail
    refine wp_region_kept (by kernel_rfl) (by kernel_rfl) ?_
    refine wpQuiet_pure (v := ?_) (by kernel_rfl) ?_ (fun K hK => ?_)
    case refine_2 => intro W _; go_simp; try with_reducible rfl
    go_simp
    refine hK _ ?_; clear hK K
    refine wpQuiet_pure (v := ?_) (by kernel_rfl) ?_ (fun K hK => ?_)
    case refine_2 => intro W _; go_simp; try with_reducible rfl
    go_simp
    refine hK _ ?_; clear hK K
    refine wpQuiet_pure (v := ?_) (by kernel_rfl) ?_ (fun K hK => ?_)
    case refine_2 => intro W _; go_simp; try with_reducible rfl
    go_simp
    refine hK _ ?_; clear hK K
    refine wpQuiet_pure (v := ?_) (by kernel_rfl) ?_ (fun K hK => ?_)
    case refine_2 => intro W _; go_simp; try with_reducible rfl
    go_simp
    refine hK _ ?_; clear hK K
    refine wpQuiet_pure (v := ?_) (by kernel_rfl) ?_ (fun K hK => ?_)
    case refine_2 => intro W _; go_simp; try with_reducible rfl
    go_simp
    refine hK _ ?_; clear hK K
    refine wpQuiet_pure (v := ?_) (by kernel_rfl) ?_ (fun K hK => ?_)
    case refine_2 => intro W _; go_simp; try with_reducible rfl
    go_simp
    refine hK _ ?_; clear hK K
    refine wpQuiet_pure (v := ?_) (by kernel_rfl) ?_ (fun K hK => ?_)
    case refine_2 => intro W _; go_simp; try with_reducible rfl
    go_simp
    refine hK _ ?_; clear hK K
    refine wpQuiet_pure (v := ?_) (by kernel_rfl) ?_ (fun K hK => ?_)
    case refine_2 => intro W _; go_simp; try with_reducible rfl
    go_simp
    refine hK _ ?_; clear hK K
    refine wpQuiet_pure (v := ?_) (by kernel_rfl) ?_ (fun K hK => ?_)
    case refine_2 => intro W _; go_simp; try with_reducible rfl
    go_simp
    refine hK _ ?_; clear hK K
    refine wpQuiet_pure (v := ?_) (by kernel_rfl) ?_ (fun K hK => ?_)
    case refine_2 => intro W _; go_simp; try with_reducible rfl
    go_simp
    refine hK _ ?_; clear hK K
    refine wpQuiet_pure (v := ?_) (by kernel_rfl) ?_ (fun K hK => ?_)
    case refine_2 => intro W _; go_simp; try with_reducible rfl
    go_simp
    refine hK _ ?_; clear hK K
    refine wpQuiet_pure (v := ?_) (by kernel_rfl) ?_ (fun K hK => ?_)
    case refine_2 => intro W _; go_simp; try with_reducible rfl
    go_simp
    refine hK _ ?_; clear hK K
    refine wpQuiet_nil ?_
    intro w10 hk10
    have HK110 : Hid (Kept w1' w10) := Lib.hid ((show Kept w1' w9 from HK19.out).then hk10)
    clear hk10 hx1 hx2 hx3 hx4 z1 z2 z3 o1 o2 u4 r1 r2 r3 r4
    go_wp2
    go_loopg [17] n (fun gh y wr => ∃ (i : Nat), i + gh = n ∧ y = .int .i64 i ∧ Hid (Kept w1' wr))
    case atStart => exact ⟨0, by omega, rfl, HK110⟩
    case round =>
      clear HK110
      obtain ⟨i, hin, rfl, HKW⟩ := hrel
      by_cases hlt : i < n
      · have hki : (i : Int) < n := by omega
        have bk : decide ((i : Int) < (n : Int)) = true := by simpa using hki
        have hi0 : (0 : Int) ≤ i := by omega
        have hil : i < L.length := by rw [← HN.out]; exact hlt
        have CI := HCC.out i hil wr ((show Kept w w1' from HK1.out).then HKW.out)
        have hc := HCH.out i hil
        have HEI := Lib.hid (HCE.out i hil)
        have hxk := HXK.out
        have HEK := Lib.hid (HCE.out k HKL.out)
        rw [hxk HKL.out] at HEK
        obtain ⟨i1, hi1⟩ : ∃ i1, i1 = i + 1 := ⟨_, rfl⟩
        have v1 : IntKind.i64.wrap ((i : Int) + 1) = (i1 : Int) := by rw [show (i : Int) + 1 = (i1 : Int) by omega]; exact IntWalk.i64_in _ (by omega)
        have HI1 : Hid (i1 = i + 1) := Lib.hid hi1
        by_cases hcase : i = k ∧ c ≠ X
        · obtain ⟨rfl, hne⟩ := hcase
          rw [(hc.1 ⟨rfl, hne⟩).1, (hc.1 ⟨rfl, hne⟩).2] at CI
          rw [show str ((none : Option (List UInt8)).getD []) = ⟨#[]⟩ from rfl] at CI
          have b2 : ((i : Int) == (i : Int)) = true := by simp
          have b3 : (c.toList == X.toList) = false := text_neX hne
          have b4 : (!c.toList == X.toList) = true := by rw [b3]; rfl
          clear hc hxk hi1 hne HEI
          go_wp2_with fail
          refine CI.mono ?_
          rintro e w12 ⟨rfl, hb⟩
          have HKX : Hid (Kept w1' w12) := Lib.hid ((show Kept w1' wr from HKW.out).then hb)
          have ek := Kept.cell HKX.out HEK.out
          clear hb CI
          go_wp2
          go_roundg (n - i1)
          · exact ⟨i1, by have := HI1.out; omega, by first | rfl | (have := HI1.out; simp; omega), HKX⟩
          · have := HI1.out; omega
        · rw [(hc.2 hcase).1, (hc.2 hcase).2] at CI
          obtain ⟨Y, hY⟩ : ∃ Y, Y = L[i] := ⟨_, rfl⟩
          rw [← hY] at CI HEI
          rw [show str ((some Y.data.toList).getD []) = Y from str_data Y] at CI
          have hyy : (Y.toList == Y.toList) = true := by simp
          by_cases hik : i = k
          · subst hik
            have hcx : c = X := Decidable.byContradiction fun y => hcase ⟨rfl, y⟩
            have hyx : Y = X := by rw [hY]; exact hxk HKL.out
            subst hyx
            have b2 : ((i : Int) == (i : Int)) = true := by simp
            have b3 : (c.toList == Y.toList) = true := by rw [hcx]; simp
            have b4 : (!c.toList == Y.toList) = false := by rw [b3]; rfl
            clear hc hxk hi1 hcase hcx hY hil
            go_wp2_with fail
            refine CI.mono ?_
            rintro e w12 ⟨rfl, hb⟩
            have HKX : Hid (Kept w1' w12) := Lib.hid ((show Kept w1' wr from HKW.out).then hb)
            have ek := Kept.cell HKX.out HEK.out
            clear hb CI
            go_wp2
            go_roundg (n - i1)
            · exact ⟨i1, by have := HI1.out; omega, by first | rfl | (have := HI1.out; simp; omega), HKX⟩
            · have := HI1.out; omega
          · have b2 : ((i : Int) == (k : Int)) = false := by rw [beq_eq_false_iff_ne]; omega
            clear hc hxk hi1 hcase hY hil
            go_wp2_with fail
            refine CI.mono ?_
            rintro e w12 ⟨rfl, hb⟩
            have HKX : Hid (Kept w1' w12) := Lib.hid ((show Kept w1' wr from HKW.out).then hb)
            have ei := Kept.cell HKX.out HEI.out
            clear hb CI
            go_wp2
            go_roundg (n - i1)
            · exact ⟨i1, by have := HI1.out; omega, by first | rfl | (have := HI1.out; simp; omega), HKX⟩
            · have := HI1.out; omega
      · have hki : ¬ (i : Int) < n := by omega
        have bk : decide ((i : Int) < (n : Int)) = false := by simpa using hki
        have A9 := AW wr (HT.out.later ((show Kept w w1' from HK1.out).then HKW.out))
        go_wp2_with fail
        refine A9.mono ?_
        rintro e w12 ⟨rfl, hb⟩
        have HKX : Hid (Kept w w12) := Lib.hid (((show Kept w w1' from HK1.out).then HKW.out).then hb)
        clear hb A9
        go_wp2
        go_ret
        exact ⟨rfl, HKX.out⟩
  · rw [if_neg hm] at C2
    rw [decide_eq_false hm] at C3
    clear hm hsz hszz CC hid hsl hat hbi
    go_enter Tryd.func7, Tryd.ntmps7
    go_wp2_with fail
    refine CF.mono ?_
    rintro e w1 ⟨⟨v, rfl, hv, -⟩, hb⟩
    have HV1 := Lib.hid hv
    have HK1 : Hid (Kept w w1) := Lib.hid hb
    have C33 := C3 v w1 hv
    obtain ⟨pl, cl, hve, -⟩ := hv
    subst hve
    clear CF hb C3
    go_wp2_with fail
    refine C33.mono ?_
    rintro e w2 ⟨rfl, hb⟩
    have HV2 := Lib.hid (HV1.out.later hb)
    have HK2 : Hid (Kept w w2) := Lib.hid ((show Kept w w1 from HK1.out).then hb)
    have C22 := C2 _ w2 HV2.out
    clear hb C33 HV1 C2
    go_wp2_with fail
    refine C22.mono ?_
    rintro e w3 ⟨rfl, hb⟩
    have HK3 : Hid (Kept w w3) := Lib.hid ((show Kept w w2 from HK2.out).then hb)
    have A3 := AW w3 (HT.out.later HK3.out)
    clear hb C22 HV2
    go_wp2_with fail
    refine A3.mono ?_
    rintro e w4 ⟨rfl, hb⟩
    have HK4 : Hid (Kept w w4) := Lib.hid ((show Kept w w3 from HK3.out).then hb)
    clear hb A3
    go_wp2
    go_ret
    exact ⟨rfl, HK4.out⟩

end Go.Proofs.YtdmbebafpamgfaaDoor
