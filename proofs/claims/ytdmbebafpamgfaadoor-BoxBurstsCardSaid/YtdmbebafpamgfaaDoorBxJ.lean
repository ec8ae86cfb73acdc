/- The document's Chunks. -/
import Derived.Test.YtdmbebafpamgfaaDoorBxI
import Derived.Test.YtdmbebafpamgfaaDoorRList
namespace Go.Proofs.YtdmbebafpamgfaaDoor
open Go.RowKit

def tV (L : List (List UInt8)) : List Value := L.map fun l => Value.string (str l)
theorem tV_snoc (L : List (List UInt8)) (x : List UInt8) : tV L ++ [Value.string (str x)] = tV (L ++ [x]) := by unfold tV; rw [List.map_append]; rfl
theorem flat_strX (w : World) (s : ByteArray) : FlatAt 1 1 [Value.string s] (.slice (some ⟨w.heap.size, 0, none⟩) 1 1) (w.alloc (.cells #[.string s] 9)) :=
  FlatAt.new w 9 1 1 1 #[.string s] rfl (by intro x hx; simp at hx; subst hx; rfl)
theorem chunksG_none {t : List UInt8} (h : headG t = none) : chunksG t = none := by unfold chunksG; rw [h]
theorem chunksG_of {t : List UInt8} {h : Hd} (hg : headG t = some h) : chunksG t = if ∀ k, k < h.slots.length → rightK t h k then some ((List.range h.slots.length).map (partH t h)) else none := by unfold chunksG; rw [hg]

set_option maxRecDepth 100000 in
set_option maxHeartbeats 16000000 in
theorem rchunks14_any (t : ByteArray) (ht : t.size ≤ 1000000) (w : World) :
    Calls Tryd.prog 23 #[.string t] w fun e w' => (∃ v, e = .returned (.tuple #[v, .bool (chunksG t.data.toList).isSome]) ∧ StrAt (((chunksG t.data.toList).getD []).map str) v w') ∧ Kept w w' := by
  obtain ⟨ir, hir, hx⟩ := Option.map_eq_some_iff.1 infoStr
  simp only [Prod.mk.injEq] at hx
  obtain ⟨hz0, hz1, hz2⟩ := hx
  have HIR := Lib.hid hir
  have HZ0 := Lib.hid hz0
  have HZ1 := Lib.hid hz1
  have HZ2 := Lib.hid hz2
  have CH := rhead14_any t ht w
  have CK := fun (k : Int) W => rchunk14_any t ht k W
  obtain ⟨S, hS⟩ : ∃ S, S = t.data.toList := ⟨_, rfl⟩
  rw [← hS] at CH CK ⊢
  obtain ⟨C, hC⟩ : ∃ C, C = chunksG S := ⟨_, rfl⟩
  rw [← hC]
  obtain ⟨G, hG⟩ : ∃ G, G = headG S := ⟨_, rfl⟩
  rw [← hG] at CH
  have HG := Lib.hid hG
  have HC := Lib.hid hC
  obtain ⟨h, hh⟩ : ∃ h, h = G.getD Hd.zero := ⟨_, rfl⟩
  rw [← hh] at CH
  obtain ⟨ob, hob⟩ : ∃ ob, ob = G.isSome := ⟨_, rfl⟩
  rw [← hob] at CH
  have HT : Hid (ob = true → headG S = some h) := Lib.hid (fun e => by
    rw [hob] at e
    rw [← hG, hh]
    obtain ⟨x, hx⟩ := Option.isSome_iff_exists.1 e
    rw [hx]; rfl)
  have HF : Hid (ob = false → C = none) := Lib.hid (fun e => by
    rw [hC]
    refine chunksG_none ?_
    rw [← hG]
    rw [hob] at e
    cases G with
    | none => rfl
    | some x => cases e)
  have hnl : h.slots.length ≤ 256 := by
    rw [hh]
    cases hg : G with
    | none => exact Nat.zero_le _
    | some x => exact (headG_ok (by rw [← hG, hg]) : goodH x ∧ _).1.len.2
  obtain ⟨n, hn⟩ : ∃ n, n = h.slots.length := ⟨_, rfl⟩
  have HN := Lib.hid hn
  rw [← hn] at hnl
  have HNL := Lib.hid hnl
  clear hir hz0 hz1 hz2 hS hC hG hh hob hnl
  go_enter Tryd.func23, Tryd.ntmps23
  go_wp2_with fail
  refine CH.mono ?_
  rintro e w2 ⟨⟨v, rfl, hv⟩, hb2⟩
  obtain ⟨sv, hsv, hsl⟩ := hv
  subst hsv
  obtain ⟨p, c, hp, -, -⟩ := hsl.out
  subst hp
  rw [← hn]
  obtain ⟨id, hid⟩ : ∃ id, id = h.id := ⟨_, rfl⟩
  rw [← hid]
  have hr2 := heap_alloc_last w2 (.cells #[.int .u32 (id : Nat), .slice p n c] 33)
  obtain ⟨W3, hW3⟩ : ∃ W3, W3 = w2.alloc (.cells #[.int .u32 (id : Nat), .slice p n c] 33) := ⟨_, rfl⟩
  have HW3 := Lib.hid hW3
  rw [← hW3] at hr2
  obtain ⟨b6, hb6⟩ : ∃ b, b = w2.heap.size := ⟨_, rfl⟩
  have HB6 := Lib.hid hb6
  rw [← hb6] at hr2
  have HC1 : Hid (W3.cell? ⟨b6, 1, none⟩ = some (.slice p n c)) := Lib.hid (by rw [cell_of_row _ _ _ _ _ _ hr2]; rfl)
  have HK3 : Hid (Kept w W3) := Lib.hid (by rw [hW3]; exact (show Kept w w2 from hb2).then (box_below _ _))
  obtain ⟨B, hB⟩ : ∃ B, B = W3.heap.size := ⟨_, rfl⟩
  have HBE := Lib.hid hB
  have HI0 : Hid ((ob = true → (headG S = some h ∧ ([] : List (List UInt8)) = (List.range 0).map (partH S h)) ∧ ∀ j, j < 0 → rightK S h j) ∧ (ob = false → C = none)) := Lib.hid ⟨fun e => ⟨⟨HT.out e, rfl⟩, fun j hj => absurd hj (Nat.not_lt_zero _)⟩, HF.out⟩
  clear hsl hb2 hr2 hW3 hb6 hid hn hB CH HT HF
  go_wp2
  rw [← HB6.out]
  rw [← HW3.out]
  go_loopg [5, 6, 7] n (fun gh a v y wr => ∃ (k : Nat) (okb : Bool) (acc : List (List UInt8)), k + gh = n ∧ a = .bool okb ∧ y = .int .i64 k ∧ acc.length = k ∧ Hid (wr.ownsRow B 9 1 v acc.length (tV acc)) ∧ Hid (Kept W3 wr) ∧
    Hid ((okb = true → (headG S = some h ∧ acc = (List.range k).map (partH S h)) ∧ ∀ j, j < k → rightK S h j) ∧ (okb = false → C = none)))
  case atStart => exact ⟨0, ob, [], by omega, rfl, rfl, rfl, Lib.hid (World.ownsRow_nil _ _ _ _), Lib.hid (Kept.refl W3), HI0⟩
  case round =>
    clear HI0
    obtain ⟨k, okb, acc, hk, rfl, rfl, hal, HO, HKW, HI⟩ := hrel
    obtain ⟨pv, cv, hv, -, -⟩ := own_slice HO.out
    subst hv
    have c1 := Kept.cell HKW.out HC1.out
    by_cases hlt : k < n
    · have hki : (k : Int) < n := by omega
      have bk : decide ((k : Int) < (n : Int)) = true := by simpa using hki
      cases okb with
      | true =>
        obtain ⟨⟨hg1, hac⟩, hri⟩ := HI.out.1 rfl
        have hch := chunkG_of hg1 (k : Int)
        rw [Int.toNat_natCast] at hch
        have CK1 := CK (k : Int) wr
        obtain ⟨X, hX⟩ : ∃ X, X = chunkG S (k : Int) := ⟨_, rfl⟩
        rw [← hX] at CK1 hch
        obtain ⟨st, hst⟩ : ∃ st, st = X.getD [] := ⟨_, rfl⟩
        obtain ⟨xs, hxs⟩ : ∃ xs, xs = X.isSome := ⟨_, rfl⟩
        rw [← hst, ← hxs] at CK1
        have hkh : k < h.slots.length := by have := HN.out; omega
        obtain ⟨k1, hk1⟩ : ∃ k1, k1 = k + 1 := ⟨_, rfl⟩
        have v1 : IntKind.i64.wrap ((k : Int) + 1) = (k1 : Int) := by rw [show (k : Int) + 1 = (k1 : Int) by omega]; exact IntWalk.i64_in _ (by have := HNL.out; omega)
        have HK1 := Lib.hid hk1
        have HI1 : Hid ((xs = true → (headG S = some h ∧ acc ++ [st] = (List.range k1).map (partH S h)) ∧ ∀ j, j < k1 → rightK S h j) ∧ (xs = false → C = none)) := Lib.hid (by
          by_cases hr : rightK S h k
          · rw [if_pos ⟨⟨by omega, by omega⟩, hr⟩] at hch
            rw [hch] at hst hxs
            refine ⟨fun _ => ⟨⟨hg1, ?_⟩, fun j hj => ?_⟩, fun e => (by rw [hxs] at e; cases e)⟩
            · rw [hk1, List.range_succ, List.map_append, ← hac, hst]
              rfl
            · by_cases hjk : j = k
              · rw [hjk]; exact hr
              · exact hri j (by omega)
          · rw [if_neg (fun y => hr y.2)] at hch
            rw [hch] at hxs
            refine ⟨fun e => (by rw [hxs] at e; cases e), fun _ => ?_⟩
            rw [HC.out, chunksG_of hg1, if_neg (fun y => hr (y k hkh))])
        have HAL : Hid (acc.length = k ∧ k < 256) := Lib.hid ⟨hal, by have := HNL.out; omega⟩
        have HA1 : Hid ((acc ++ [st]).length = k1) := Lib.hid (by rw [List.length_append, hal, hk1]; rfl)
        clear hg1 hac hri hch hX hst hxs hkh hk1 HI CK hal
        go_wp2_with fail
        refine CK1.mono ?_
        rintro e w4 ⟨rfl, hb4⟩
        have HK4 := Lib.hid ((show Kept W3 wr from HKW.out).then hb4)
        have HO4 := Lib.hid (own_stay HO.out (fun m hm => hb4.block m (HO.out.lt m hm).2) : w4.ownsRow B 9 1 (.slice pv acc.length cv) acc.length (tV acc))
        have HFL := Lib.hid (flat_strX w4 (str st))
        clear hb4 CK1 c1 HKW HO
        go_wp2_with (at_builtin; refine wpList_append_flat rfl _ _ 23 rfl B 9 ir (.string ⟨#[]⟩) 1 16 Tryd.underlying23 HIR.out HZ0.out HZ1.out HZ2.out rfl (by decide) _ _ _ rfl (HO4.out.alloc _) _ 1 [Value.string (str st)] rfl HFL.out ?wa1 ?wa2 ?wa3 ?_)
        case wa1 => have := HAL.out; unfold maxLen; omega
        case wa2 => have := HAL.out; omega
        case wa3 => have := HK4.out.size; have := HBE.out; simp; omega
        intro v' w6 hown6 hg6 _
        have H6 : Hid (w6.ownsRow B 9 1 v' (acc ++ [st]).length (tV (acc ++ [st]))) := Lib.hid (by
          have h := hown6
          rw [tV_snoc] at h
          rw [List.length_append]
          exact h)
        have H7 : Hid (Kept W3 w6) := Lib.hid (append_keptX (show Kept W3 w4 from HK4.out) (by rw [HBE.out]; exact Nat.le_refl _) HO4.out hg6)
        clear hown6 hg6 HO4 HFL HK4
        go_wp2
        go_roundg (n - k1)
        · exact ⟨k1, xs, acc ++ [st], by have := HK1.out; omega, rfl, by first | rfl | (have := HK1.out; simp; omega), HA1.out, H6, H7, HI1⟩
        · have := HK1.out; omega
      | false =>
        have HX : Hid (C = none) := Lib.hid (HI.out.2 rfl)
        have HKX : Hid (Kept w wr) := Lib.hid ((show Kept w W3 from HK3.out).then HKW.out)
        clear HI CK
        go_wp2
        first | go_ret | go_ret2
        exact ⟨⟨_, by rw [HX.out]; rfl, by rw [HX.out]; exact ⟨none, 0, rfl, Or.inl rfl⟩⟩, HKX.out⟩
    · have hki : ¬ (k : Int) < n := by omega
      have bk : decide ((k : Int) < (n : Int)) = false := by simpa using hki
      have HKX : Hid (Kept w wr) := Lib.hid ((show Kept w W3 from HK3.out).then HKW.out)
      cases okb with
      | true =>
        have HX : Hid (C = some acc) := Lib.hid (by
          obtain ⟨⟨hg1, hac⟩, hri⟩ := HI.out.1 rfl
          have hnk : h.slots.length = k := by have := HN.out; omega
          rw [HC.out, chunksG_of hg1, hnk, if_pos hri, hac])
        have HSA : Hid (StrAt (acc.map str) (.slice pv acc.length cv) wr) := Lib.hid (strAt_own HO.out)
        clear HI CK hal HO
        go_wp2
        first | go_ret | go_ret2
        exact ⟨⟨_, by rw [HX.out]; rfl, by rw [HX.out]; exact HSA.out⟩, HKX.out⟩
      | false =>
        have HX : Hid (C = none) := Lib.hid (HI.out.2 rfl)
        clear HI CK
        go_wp2
        first | go_ret | go_ret2
        exact ⟨⟨_, by rw [HX.out]; rfl, by rw [HX.out]; exact ⟨none, 0, rfl, Or.inl rfl⟩⟩, HKX.out⟩

end Go.Proofs.YtdmbebafpamgfaaDoor
