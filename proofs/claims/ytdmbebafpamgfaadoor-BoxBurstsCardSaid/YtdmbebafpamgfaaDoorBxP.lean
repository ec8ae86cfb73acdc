/- BoxBuilders out of the contracts. -/
import Derived.Test.YtdmbebafpamgfaaDoorBxQ
namespace Go.Proofs.YtdmbebafpamgfaaDoor
open Go.RowKit

set_option maxRecDepth 100000 in
set_option maxHeartbeats 4000000 in
theorem room14_any (L : List ByteArray) (v : Value) (w : World) (h : StrAt L v w) (hl : L.length ≤ 300) (hz : ∀ s ∈ L, s.size ≤ 4096) (x sl by_ : Nat) (hx : x ≤ 100000) (_ : sl ≤ 256) (_ : by_ ≤ 65536) :
    Calls Tryd.prog 27 #[v, .int .i64 (x : Nat), .int .i64 (sl : Nat), .int .i64 (by_ : Nat)] w fun e w' => e = .returned (.bool (decide (L.length < sl ∧ (lensC L).sum + x ≤ by_))) ∧ Kept w w' := by
  obtain ⟨p, c, rfl, hc⟩ := h
  have HC := Lib.hid hc
  obtain ⟨n, hn⟩ : ∃ n, n = L.length := ⟨_, rfl⟩
  have HN := Lib.hid hn
  have HTK : Hid (∀ k (hk : k < L.length), ((lensC L).take (k + 1)).sum = ((lensC L).take k).sum + (L[k]).size) := Lib.hid (fun k hk => by
    rw [sum_take_next _ _ (by unfold lensC; rw [List.length_map]; exact hk)]
    congr 1
    unfold lensC
    rw [List.getElem_map])
  have HTE : Hid (((lensC L).take n).sum = (lensC L).sum) := Lib.hid (by rw [List.take_of_length_le (by unfold lensC; rw [List.length_map]; omega)])
  have HZ := Lib.hid hz
  obtain ⟨r, hr⟩ : ∃ r, r = decide (L.length < sl ∧ (lensC L).sum + x ≤ by_) := ⟨_, rfl⟩
  rw [← hn] at hr
  have HR := Lib.hid hr
  obtain ⟨TK, hTK⟩ : ∃ TK, TK = lensC L := ⟨_, rfl⟩
  rw [← hTK] at HTK HTE HR
  rw [← hn] at hl ⊢
  rw [← hTK]
  rw [← HR.out]
  clear hc hn hr hTK hz
  go_enter Tryd.func27, Tryd.ntmps27
  go_wp2
  go_loopg [9, 10] n (fun gh a y wr => ∃ (k s : Nat), k + gh = n ∧ a = .int .i64 s ∧ y = .int .i64 k ∧ Hid (s = x + (TK.take k).sum ∧ s ≤ x + 4096 * k) ∧ Hid (Kept w wr))
  case atStart => exact ⟨0, x, by omega, rfl, rfl, Lib.hid ⟨by simp, by omega⟩, Lib.hid (Below.refl _ _)⟩
  case round =>
    obtain ⟨k, s, hk, rfl, rfl, HS, HKW⟩ := hrel
    have hs4 := HS.out.2
    by_cases hlt : k < n
    · have hki : (k : Int) < n := by omega
      have bk : decide ((k : Int) < (n : Int)) = true := by simpa using hki
      have hki0 : (0 : Int) ≤ k := by omega
      rcases HC.out with h0 | ⟨b, off, rfl, hcell⟩
      · have := HN.out; rw [h0] at this; simp at this; omega
      have hkl : k < L.length := by have := HN.out; omega
      have e1 := Kept.cell HKW.out (hcell k hkl)
      have htk := HTK.out k hkl
      have hsz := HZ.out (L[k]) (List.getElem_mem hkl)
      obtain ⟨S, hS⟩ : ∃ S, S = L[k] := ⟨_, rfl⟩
      rw [← hS] at e1 htk hsz
      obtain ⟨z, hzz⟩ : ∃ z, z = S.size := ⟨_, rfl⟩
      have hz2 : S.size = z := hzz.symm
      rw [← hzz] at htk hsz
      obtain ⟨k1, hk1⟩ : ∃ k1, k1 = k + 1 := ⟨_, rfl⟩
      have v1 : IntKind.i64.wrap ((k : Int) + 1) = (k1 : Int) := by rw [show (k : Int) + 1 = (k1 : Int) by omega]; exact IntWalk.i64_in _ (by omega)
      obtain ⟨s1, hs1⟩ : ∃ s1, s1 = s + z := ⟨_, rfl⟩
      have v2 : IntKind.i64.wrap ((s : Int) + (z : Int)) = (s1 : Int) := by rw [show (s : Int) + (z : Int) = (s1 : Int) by omega]; exact IntWalk.i64_in _ (by omega)
      have HS1 : Hid (s1 = x + (TK.take k1).sum ∧ s1 ≤ x + 4096 * k1) := Lib.hid ⟨by have := HS.out.1; rw [hk1, htk]; omega, by omega⟩
      have HK1 := Lib.hid hk1
      clear hcell htk hsz hS hk1 hs1 HS hs4 hzz
      go_wp2
      go_roundg (n - k1)
      · exact ⟨k1, s1, by have := HK1.out; omega, rfl, by first | rfl | (have := HK1.out; simp; omega), HS1, HKW⟩
      · have := HK1.out; omega
    · have hki : ¬ (k : Int) < n := by omega
      have bk : decide ((k : Int) < (n : Int)) = false := by simpa using hki
      have hse : s = TK.sum + x := by
        have h := HS.out.1
        rw [show k = n by omega, HTE.out] at h
        omega
      by_cases g1 : n < sl
      · have d1 : decide ((n : Int) < (sl : Int)) = true := by simp; omega
        by_cases g2 : s ≤ by_
        · have d2 : decide ((s : Int) ≤ (by_ : Int)) = true := by simp; omega
          have HX : Hid (r = true) := Lib.hid (by rw [HR.out]; exact decide_eq_true ⟨g1, by omega⟩)
          clear HS HC hs4 hse
          go_wp2
          go_ret
          exact ⟨by first | (rw [HX.out]; rfl) | rfl, HKW.out⟩
        · have d2 : decide ((s : Int) ≤ (by_ : Int)) = false := by simp; omega
          have HX : Hid (r = false) := Lib.hid (by rw [HR.out]; exact decide_eq_false (fun y => g2 (by omega)))
          clear HS HC hs4 hse
          go_wp2
          go_ret
          exact ⟨by first | (rw [HX.out]; rfl) | rfl, HKW.out⟩
      · have d1 : decide ((n : Int) < (sl : Int)) = false := by simp; omega
        have HX : Hid (r = false) := Lib.hid (by rw [HR.out]; exact decide_eq_false (fun y => g1 y.1))
        clear HS HC hs4 hse
        go_wp2
        go_ret
        exact ⟨by first | (rw [HX.out]; rfl) | rfl, HKW.out⟩

/-- The builder with the chunks LP, and the law's own list LL. -/
structure BI2 (w1 : World) (P : List ByteArray → (Nat → Prop) → World → Prop) (LP LL : List ByteArray) (Bs : Nat → Prop) (v : Value) (wr : World) : Prop where
  hp : P LP Bs wr
  own : wr.ownsRow w1.heap.size 9 1 v LL.length (bV LL)
  apart : ∀ m, v.ownBlock = some m → ¬ Bs m
  kept : Kept w1 wr
theorem BI2.later {w1 wr w' : World} {x : Value} {id sl by_ : Nat} {P : List ByteArray → (Nat → Prop) → World → Prop} (D : BdOk w1.heap.size x id sl by_ P) {LP LL : List ByteArray} {Bs : Nat → Prop} {v : Value} (h : BI2 w1 P LP LL Bs v wr) (k : Kept wr w') : BI2 w1 P LP LL Bs v w' :=
  ⟨D.stay LP Bs wr w' h.hp k.size (fun j hj => k.block j (D.above LP Bs wr h.hp j hj).2), own_stay h.own (fun m hm => k.block m (h.own.lt m hm).2), h.apart, h.kept.then k⟩
theorem BI2.added {w1 wr w' : World} {x : Value} {id sl by_ : Nat} {P : List ByteArray → (Nat → Prop) → World → Prop} (D : BdOk w1.heap.size x id sl by_ P) {LP LP' LL : List ByteArray} {Bs Bs' : Nat → Prop} {v : Value} (h : BI2 w1 P LP LL Bs v wr)
    (hp : P LP' Bs' w') (hs : ∀ k, Bs' k → Bs k ∨ wr.heap.size ≤ k) (hb : ButBy Bs wr w') : BI2 w1 P LP' LL Bs' v w' :=
  ⟨hp, own_stay h.own (fun m hm => hb.block m (h.own.lt m hm).2 (h.apart m hm)), fun m hm hx => by
    rcases hs m hx with y | y
    · exact h.apart m hm y
    · have := (h.own.lt m hm).2; omega, ButBy.kept hb (fun j hj => (D.above LP Bs wr h.hp j hj).1) h.kept h.kept.size⟩
theorem BI2.app {w1 wr w4 : World} {x : Value} {id sl by_ : Nat} {P : List ByteArray → (Nat → Prop) → World → Prop} (D : BdOk w1.heap.size x id sl by_ P) {LP LL : List ByteArray} {Bs : Nat → Prop} {v v' : Value} {c : ByteArray} {o : Obj} (h : BI2 w1 P LP LL Bs v wr)
    (hown : w4.ownsRow w1.heap.size 9 1 v' (LL ++ [c]).length (bV (LL ++ [c]))) (hg : (wr.alloc o).grownBy w4 v.ownBlock) (hw : v'.ownBlock = v.ownBlock ∨ v'.ownBlock = some (wr.heap.size + 1)) : BI2 w1 P LP (LL ++ [c]) Bs v' w4 := by
  have hab := D.above LP Bs wr h.hp
  have hsz : (wr.alloc o).heap.size = wr.heap.size + 1 := by simp
  refine ⟨D.stay LP Bs wr w4 h.hp (by have := hg.size; omega) (fun j hj => ?_), hown, fun m hm hx => ?_, append_keptX h.kept (Nat.le_refl _) h.own hg⟩
  · have h1 := (hab j hj).2
    rw [hg.block j (by omega) (fun e => h.apart j e.symm hj), Below.heap_alloc _ _ _ h1]
  · rcases hw with e | e
    · exact h.apart m (by rw [← e]; exact hm) hx
    · rw [hm] at e
      have := Option.some.inj e
      have := (hab m hx).2
      omega

theorem addE_bad {sl by_ : Nat} {L : List ByteArray} {c : ByteArray} (h : c.size < 1 ∨ 4096 < c.size) : addE sl by_ L c = 1 ∧ addL sl by_ L c = L ∧ addI sl by_ L c = 0 := by
  have e : addE sl by_ L c = 1 := by unfold addE; rw [if_pos h]
  refine ⟨e, ?_, ?_⟩
  · unfold addL; rw [e, if_neg (by decide)]
  · unfold addI; rw [e, if_neg (by decide)]
theorem addE_ok {sl by_ : Nat} {L : List ByteArray} {c : ByteArray} (h : ¬ (c.size < 1 ∨ 4096 < c.size)) (hr : L.length < sl ∧ (lensC L).sum + c.size ≤ by_) : addE sl by_ L c = 0 ∧ addL sl by_ L c = L ++ [c] ∧ addI sl by_ L c = L.length := by
  have e : addE sl by_ L c = 0 := by unfold addE; rw [if_neg h, if_pos hr]
  refine ⟨e, ?_, ?_⟩
  · unfold addL; rw [e, if_pos rfl]
  · unfold addI; rw [e, if_pos rfl]
theorem addE_full {sl by_ : Nat} {L : List ByteArray} {c : ByteArray} (h : ¬ (c.size < 1 ∨ 4096 < c.size)) (hr : ¬ (L.length < sl ∧ (lensC L).sum + c.size ≤ by_)) : addE sl by_ L c = 100 ∧ addL sl by_ L c = L ∧ addI sl by_ L c = 0 := by
  have e : addE sl by_ L c = 100 := by unfold addE; rw [if_neg h, if_neg hr]
  refine ⟨e, ?_, ?_⟩
  · unfold addL; rw [e, if_neg (by decide)]
  · unfold addI; rw [e, if_neg (by decide)]
/-- What the builder's chunks are. -/
def goodL (sl by_ : Nat) (L : List ByteArray) : Prop := (∀ s ∈ L, 1 ≤ s.size ∧ s.size ≤ 4096) ∧ (lensC L).sum ≤ by_ ∧ L.length ≤ sl
theorem goodL.app {sl by_ : Nat} {L : List ByteArray} {c : ByteArray} (g : goodL sl by_ L) (h : ¬ (c.size < 1 ∨ 4096 < c.size)) (hr : L.length < sl ∧ (lensC L).sum + c.size ≤ by_) : goodL sl by_ (L ++ [c]) := by
  refine ⟨fun s hs => ?_, ?_, by rw [List.length_append]; show L.length + 1 ≤ sl; omega⟩
  · rcases List.mem_append.1 hs with x | x
    · exact g.1 s x
    · rw [List.mem_singleton.1 x]; omega
  · unfold lensC at hr ⊢
    rw [List.map_append, List.sum_append]
    simp only [List.map_cons, List.map_nil, List.sum_cons, List.sum_nil]
    omega
theorem goodL.may {id sl by_ : Nat} {L : List ByteArray} (g : goodL sl by_ L) (hi : idOk id) (hs : sl ≤ 256) (hb : by_ ≤ 65536) (hne : L ≠ []) : mayC id L := by
  refine ⟨hi, ⟨?_, ?_⟩, fun x hx => ?_, by have := g.2.1; omega⟩
  · unfold lensC
    rw [List.length_map]
    exact List.length_pos_iff.2 hne
  · unfold lensC
    rw [List.length_map]
    have := g.2.2
    omega
  · obtain ⟨s, hsm, rfl⟩ := List.mem_map.1 hx
    exact g.1 s hsm

set_option maxRecDepth 100000 in
set_option maxHeartbeats 32000000 in
theorem boxBuilders_of (CN : BNewOk) (AW : AwakeB) (id : Nat) (hid : id < 4294967296) (sl0 by0 : Int) (hsl0 : (Lit.int .i64 sl0).wf = true) (hby0 : (Lit.int .i64 by0).wf = true) (L0 : List ByteArray) (v0 : Value) (k0 : Int) (hk0 : (Lit.int .i64 k0).wf = true)
    (w : World) (h0 : StrAt L0 v0 w) (hT : TabAt w) :
    Calls Tryd.prog 6 #[.int .u32 (id : Nat), .int .i64 sl0, .int .i64 by0, v0, .int .i64 k0] w fun e w' => e = .returned (.bool true) ∧ Kept w w' := by
  obtain ⟨ir, hir, hx⟩ := Option.map_eq_some_iff.1 infoStr
  simp only [Prod.mk.injEq] at hx
  obtain ⟨hz0, hz1, hz2⟩ := hx
  have HIR := Lib.hid hir
  have HZ0 := Lib.hid hz0
  have HZ1 := Lib.hid hz1
  have HZ2 := Lib.hid hz2
  have CF := few14_any L0 v0 w h0
  have hll := fewC_len L0
  have hsz := fewC_size L0
  obtain ⟨L, hL⟩ : ∃ L, L = fewC L0 := ⟨_, rfl⟩
  rw [← hL] at CF hll hsz
  obtain ⟨p0, c0, hv0, -⟩ := h0
  subst hv0
  obtain ⟨n0, hn0⟩ : ∃ n, n = L0.length := ⟨_, rfl⟩
  rw [← hn0] at CF ⊢
  have HSZ := Lib.hid hsz
  have C1 := fun W => CN id sl0 by0 W hid hsl0 hby0
  have C2 := fun W => rid14_any id hid W
  have HT := Lib.hid hT
  have HK0 := Lib.hid hk0
  clear hir hz0 hz1 hz2 hL hn0 hT hsz CN hk0 hid
  by_cases hnew : newOk id sl0 by0
  · rw [decide_eq_true hnew.1] at C2
    have hn2 := hnew.2
    obtain ⟨sl, rfl⟩ : ∃ q : Nat, sl0 = q := ⟨sl0.toNat, by omega⟩
    obtain ⟨by_, rfl⟩ : ∃ q : Nat, by0 = q := ⟨by0.toNat, by omega⟩
    have hsl256 : sl ≤ 256 := by omega
    have hby6 : by_ ≤ 65536 := by omega
    have HID := Lib.hid hnew.1
    have d1 : decide ((sl : Int) < 1) = false := by simp; omega
    have d2 : decide ((sl : Int) > 256) = false := by simp; omega
    have d3 : decide ((by_ : Int) < 1) = false := by simp; omega
    have d4 : decide ((by_ : Int) > 65536) = false := by simp; omega
    have HNW := Lib.hid hnew
    clear hn2 hnew hsl0 hby0
    go_enter Tryd.func6, Tryd.ntmps6
    go_wp2_with fail
    refine CF.mono ?_
    rintro e w1 ⟨⟨v, rfl, hv, -⟩, hb⟩
    have HK1 : Hid (Kept w w1) := Lib.hid hb
    obtain ⟨pl, cl, hve, hcl⟩ := hv
    subst hve
    have HCL := Lib.hid hcl
    obtain ⟨n, hn⟩ : ∃ n, n = L.length := ⟨_, rfl⟩
    have HN := Lib.hid hn
    rw [← hn] at hll ⊢
    clear CF hb hn hcl
    go_wp2_with fail
    refine (C1 w1).mono ?_
    rintro e w2 ⟨hb, h⟩
    rcases h with ⟨h, -⟩ | ⟨-, ad, P, Bs0, rfl, D, hp⟩
    · exact absurd HNW.out h
    rw [show (sl : Int).toNat = sl from Int.toNat_natCast sl, show (by_ : Int).toNat = by_ from Int.toNat_natCast by_] at D
    have HK2 : Hid (Kept w1 w2) := Lib.hid hb
    have HD := Lib.hid D
    have HP2 := Lib.hid hp
    clear hb D hp C1
    go_wp2_with fail
    refine (C2 w2).mono ?_
    rintro e w3 ⟨rfl, hb⟩
    have HB0 : Hid (BI2 w1 P [] [] Bs0 (.slice none 0 0) w3) := Lib.hid (BI2.later HD.out ⟨HP2.out, World.ownsRow_nil _ _ _ _, fun m hm => (by cases hm), HK2.out⟩ hb)
    have HG0 : Hid (goodL sl by_ []) := Lib.hid ⟨fun s hs => (by cases hs), Nat.zero_le _, Nat.zero_le _⟩
    clear hb C2 HP2 HK2 HNW
    obtain ⟨m, hm⟩ : ∃ m, m = min n 30 := ⟨_, rfl⟩
    have hm30 : m ≤ 30 := by omega
    go_wp2
    go_loopg [13, 14] m (fun gh v y wr => ∃ (k : Nat) (LL : List ByteArray) (Bs : Nat → Prop), k + gh = m ∧ y = .int .i64 k ∧ Hid (BI2 w1 P LL LL Bs v wr) ∧ Hid (goodL sl by_ LL) ∧ LL.length ≤ k)
    case atStart => exact ⟨0, [], Bs0, by omega, rfl, HB0, HG0, Nat.le_refl _⟩
    case round =>
      clear HB0 HG0
      obtain ⟨k, LL, Bs, hk, rfl, HB, HG, hlk⟩ := hrel
      obtain ⟨pv, cv, hv, -, -⟩ := own_slice HB.out.own
      subst hv
      by_cases hlt : k < m
      · have hki : (k : Int) < n := by omega
        have bk : decide ((k : Int) < (n : Int)) = true := by simpa using hki
        have hki3 : (k : Int) < 30 := by omega
        have bk3 : decide ((k : Int) < 30) = true := by simpa using hki3
        have hki0 : (0 : Int) ≤ k := by omega
        rcases HCL.out with hz | ⟨bb, off, rfl, hcell⟩
        · have := HN.out; rw [hz] at this; simp at this; omega
        have hkl : k < L.length := by have := HN.out; omega
        have e1 := Kept.cell HB.out.kept (hcell k hkl)
        have hcs := HSZ.out (L[k]) (List.getElem_mem hkl)
        obtain ⟨c, hc⟩ : ∃ c, c = L[k] := ⟨_, rfl⟩
        rw [← hc] at e1 hcs
        have CA := HD.out.add LL Bs wr c HB.out.hp (by omega)
        obtain ⟨k1, hk1⟩ : ∃ k1, k1 = k + 1 := ⟨_, rfl⟩
        have v1 : IntKind.i64.wrap ((k : Int) + 1) = (k1 : Int) := by rw [show (k : Int) + 1 = (k1 : Int) by omega]; exact IntWalk.i64_in _ (by omega)
        have HKM : Hid (k1 = k + 1 ∧ k < m ∧ m ≤ 30 ∧ LL.length ≤ k) := Lib.hid ⟨hk1, hlt, hm30, hlk⟩
        obtain ⟨z, hzz⟩ : ∃ z, z = c.size := ⟨_, rfl⟩
        have hz2 : c.size = z := hzz.symm
        have HZZ : Hid (c.size = z) := Lib.hid hz2
        clear hzz
        by_cases hbad : c.size < 1 ∨ 4096 < c.size
        · obtain ⟨a1, a2, a3⟩ := addE_bad (sl := sl) (by_ := by_) (L := LL) hbad
          rw [a1, a2, a3] at CA
          have hbr : (decide ((z : Int) < 1) = true) ∨ (decide ((z : Int) < 1) = false ∧ decide ((z : Int) > 4096) = true) := by
            by_cases g : z < 1
            · exact Or.inl (by simp; omega)
            · exact Or.inr ⟨by simp; omega, by simp; omega⟩
          clear a1 a2 a3 hbad hk1 hlt hlk hc hcs hcell hm
          rcases hbr with g1 | ⟨g1, g2⟩
          all_goals
            go_wp2_with fail
            refine CA.mono ?_
            rintro e w4 ⟨rfl, ⟨Bs', hp4, hs4⟩, hb4⟩
            have HB4 := Lib.hid (HB.out.added HD.out hp4 hs4 hb4)
            have CL4 := HD.out.len LL Bs' w4 hp4
            have HP4 := Lib.hid hp4
            clear hp4 hs4 hb4 CA
            go_wp2_with fail
            refine CL4.mono ?_
            rintro e w5 ⟨rfl, hb⟩
            have HB5 := Lib.hid (HB4.out.later HD.out hb)
            clear hb CL4
            go_wp2
            go_roundg (m - k1)
            · exact ⟨k1, LL, Bs', by have := HKM.out; omega, by first | rfl | (have := HKM.out; simp; omega), HB5, HG, by have := HKM.out; omega⟩
            · have := HKM.out; omega
        · have g1 : decide ((z : Int) < 1) = false := by simp; omega
          have g2 : decide ((z : Int) > 4096) = false := by simp; omega
          by_cases hroom : LL.length < sl ∧ (lensC LL).sum + c.size ≤ by_
          · obtain ⟨a1, a2, a3⟩ := addE_ok (L := LL) hbad hroom
            rw [a1, a2, a3] at CA
            have HG2 := Lib.hid (HG.out.app hbad hroom)
            have CR := fun W (h : StrAt LL (.slice pv LL.length cv) W) => room14_any LL (.slice pv LL.length cv) W h (by omega) (fun s hs => (HG.out.1 s hs).2) z sl by_ (by omega) hsl256 hby6
            rw [← HZZ.out, decide_eq_true hroom, HZZ.out] at CR
            clear a1 a2 a3 hbad hroom hk1 hlt hlk hc hcs hcell hm
            go_wp2_with fail
            refine CA.mono ?_
            rintro e w4 ⟨rfl, ⟨Bs', hp4, hs4⟩, hb4⟩
            have HB4 := Lib.hid (HB.out.added HD.out hp4 hs4 hb4)
            have CR4 := CR w4 (strAt_ownX HB4.out.own)
            clear hp4 hs4 hb4 CA CR
            go_wp2_with fail
            refine CR4.mono ?_
            rintro e w5 ⟨rfl, hb⟩
            have HB5 := Lib.hid (HB4.out.later HD.out hb)
            have HFL := Lib.hid (flat_strX w5 c)
            clear hb CR4 HB4
            go_wp2_with (at_builtin; refine wpList_append_flat rfl _ _ 23 rfl w1.heap.size 9 ir (.string ⟨#[]⟩) 1 16 Tryd.underlying23 HIR.out HZ0.out HZ1.out HZ2.out rfl (by decide) _ _ _ rfl (HB5.out.own.alloc _) _ 1 [Value.string c] rfl HFL.out ?wa1 ?wa2 ?wa3 ?_)
            case wa1 => have := HKM.out; unfold maxLen; omega
            case wa2 => have := HKM.out; omega
            case wa3 => have := HB5.out.kept.size; simp; omega
            intro v' w6 hown6 hg6 hw6
            have hlen1 : (LL ++ [c]).length = LL.length + 1 := by rw [List.length_append]; rfl
            have HB6 := Lib.hid (BI2.app (v' := v') (c := c) HD.out HB5.out (by rw [bV_snoc] at hown6; rw [hlen1]; exact hown6) hg6 hw6)
            have CL6 := HD.out.len (LL ++ [c]) Bs' w6 HB6.out.hp
            rw [hlen1] at CL6
            obtain ⟨pv', cv', hv', -, -⟩ := own_slice hown6
            subst hv'
            have HL1 := Lib.hid hlen1
            obtain ⟨ln, hln⟩ : ∃ q, q = LL.length + 1 := ⟨_, rfl⟩
            rw [← hln] at CL6
            rw [← hln] at HB6 ⊢
            have HLN := Lib.hid hln
            clear hown6 hg6 hw6 hlen1 HB5 HFL hln
            go_wp2_with fail
            refine CL6.mono ?_
            rintro e w7 ⟨rfl, hb⟩
            have HB7 := Lib.hid (HB6.out.later HD.out hb)
            have bll : ((ln : Int) != (ln : Int)) = false := by simp
            clear hb CL6 HB6
            go_wp2
            go_roundg (m - k1)
            · exact ⟨k1, LL ++ [c], Bs', by have := HKM.out; omega, by first | rfl | (have := HKM.out; simp; omega), HB7, HG2, by have := HKM.out; rw [HL1.out]; omega⟩
            · have := HKM.out; omega
          · obtain ⟨a1, a2, a3⟩ := addE_full (L := LL) hbad hroom
            rw [a1, a2, a3] at CA
            have CR := fun W (h : StrAt LL (.slice pv LL.length cv) W) => room14_any LL (.slice pv LL.length cv) W h (by omega) (fun s hs => (HG.out.1 s hs).2) z sl by_ (by omega) hsl256 hby6
            rw [← HZZ.out, decide_eq_false hroom, HZZ.out] at CR
            clear a1 a2 a3 hbad hroom hk1 hlt hlk hc hcs hcell hm
            go_wp2_with fail
            refine CA.mono ?_
            rintro e w4 ⟨rfl, ⟨Bs', hp4, hs4⟩, hb4⟩
            have HB4 := Lib.hid (HB.out.added HD.out hp4 hs4 hb4)
            have CR4 := CR w4 (strAt_ownX HB4.out.own)
            clear hp4 hs4 hb4 CA CR
            go_wp2_with fail
            refine CR4.mono ?_
            rintro e w5 ⟨rfl, hb⟩
            have HB5 := Lib.hid (HB4.out.later HD.out hb)
            have CL5 := HD.out.len LL Bs' w5 HB5.out.hp
            clear hb CR4 HB4
            go_wp2_with fail
            refine CL5.mono ?_
            rintro e w6 ⟨rfl, hb⟩
            have HB6 := Lib.hid (HB5.out.later HD.out hb)
            have bll : ((LL.length : Int) != (LL.length : Int)) = false := by simp
            clear hb CL5 HB5
            go_wp2
            go_roundg (m - k1)
            · exact ⟨k1, LL, Bs', by have := HKM.out; omega, by first | rfl | (have := HKM.out; simp; omega), HB6, HG, by have := HKM.out; omega⟩
            · have := HKM.out; omega
      · have hcs : (¬ (k : Int) < n) ∨ ((k : Int) < n ∧ ¬ (k : Int) < 30) := by omega
        have CS := HD.out.shut LL Bs wr HB.out.hp (HT.out.later ((show Kept w w1 from HK1.out).then HB.out.kept))
        have CK := fun W (x : Kept wr W) => HD.out.chunk LL Bs W k0 (HB.out.later HD.out x).hp HK0.out
        have HBW := Lib.hid HB.out
        obtain ⟨ln, hln⟩ : ∃ q, q = LL.length := ⟨_, rfl⟩
        have HLN := Lib.hid hln
        rw [← hln] at CK ⊢
        have A0 := fun W (x : Kept w1 W) => AW W (HT.out.later ((show Kept w w1 from HK1.out).then x))
        clear hm hlk
        by_cases hnil : LL = []
        · subst hnil
          rw [if_pos rfl, if_pos rfl] at CS
          have hl0 : ln = 0 := hln
          subst hl0
          have hor : ¬ (0 ≤ k0 ∧ k0 < ((0 : Nat) : Int)) := by omega
          rw [if_neg hor, if_neg hor] at CK
          have hk2 : (decide (k0 < 0) = true) ∨ (decide (k0 < 0) = false ∧ decide (k0 ≥ 0) = true) := by
            by_cases g : k0 < 0
            · exact Or.inl (decide_eq_true g)
            · exact Or.inr ⟨decide_eq_false g, decide_eq_true (by omega)⟩
          clear hor hln HB HG
          rcases hcs with ht1 | ⟨ht1, ht2⟩
          all_goals rcases hk2 with g1 | ⟨g1, g2⟩
          all_goals
            go_wp2_with fail
            refine CS.mono ?_
            rintro e w4 ⟨rfl, hb⟩
            have HX4 : Hid (Kept wr w4) := Lib.hid hb
            have CK4 := CK w4 hb
            clear hb CS CK
            go_wp2_with fail
            refine CK4.mono ?_
            rintro e w5 ⟨rfl, hb⟩
            have HX5 : Hid (Kept w1 w5) := Lib.hid (HBW.out.kept.then ((show Kept wr w4 from HX4.out).then hb))
            have A5 := A0 w5 HX5.out
            clear hb CK4 A0
            go_wp2_with fail
            refine A5.mono ?_
            rintro e w6 ⟨rfl, hb⟩
            have HX6 : Hid (Kept w w6) := Lib.hid ((show Kept w w1 from HK1.out).then ((show Kept w1 w5 from HX5.out).then hb))
            clear hb A5
            go_wp2
            go_ret
            exact ⟨rfl, HX6.out⟩
        · rw [if_neg hnil, if_neg hnil] at CS
          have hm := HG.out.may HID.out hsl256 hby6 hnil
          have CB := fun W (h : StrAt LL (.slice pv LL.length cv) W) => rbuild14_any id LL hm (.slice pv LL.length cv) W h
          rw [← hln] at CB
          have hlp : 1 ≤ ln := by rw [hln]; exact List.length_pos_iff.2 hnil
          obtain ⟨S, hS⟩ : ∃ S, S = str (boxB id LL) := ⟨_, rfl⟩
          rw [← hS] at CS CB
          have bss : (S.toList == S.toList) = true := by simp
          have bl0 : ((ln : Int) == 0) = false := by rw [beq_eq_false_iff_ne]; omega
          have bl1 : ¬ ln = 0 := by omega
          have HSA := Lib.hid (strAt_ownX HB.out.own)
          rw [← hln] at HSA HBW
          clear hnil hS hlp hm
          by_cases hin : 0 ≤ k0 ∧ k0 < (ln : Int)
          · rw [if_pos hin, if_pos hin] at CK
            obtain ⟨i, rfl⟩ : ∃ i : Nat, k0 = i := ⟨k0.toNat, by omega⟩
            rw [Int.toNat_natCast] at CK
            have g1 : decide ((i : Int) < 0) = false := by simp
            have g2 : decide ((i : Int) ≥ (ln : Int)) = false := by simp; omega
            have hi0 : (0 : Int) ≤ i := hin.1
            have hi1 : (i : Int) < ln := hin.2
            have hil : i < LL.length := by omega
            obtain ⟨Y, hY⟩ : ∃ Y, Y = LL[i] := ⟨_, rfl⟩
            rw [show LL.getD i ⟨#[]⟩ = Y by rw [hY, List.getD_eq_getElem?_getD, List.getElem?_eq_getElem hil]; rfl] at CK
            have byy : (Y.toList == Y.toList) = true := by simp
            obtain ⟨pp, cc, hpe, hcl⟩ := HSA.out
            rw [← hln] at hpe
            simp only [Value.slice.injEq, true_and] at hpe
            obtain ⟨rfl, rfl⟩ := hpe
            rcases hcl with hz | ⟨gb, go, rfl, hcell⟩
            · rw [hz] at hil; simp at hil
            have ei := hcell i hil
            rw [← hY] at ei
            have HEI := Lib.hid ei
            clear hcell ei hY hil hin hln HB HG
            rcases hcs with ht1 | ⟨ht1, ht2⟩
            all_goals
              go_wp2_with fail
              refine CS.mono ?_
              rintro e w4 ⟨rfl, hb⟩
              have HX4 : Hid (Kept wr w4) := Lib.hid hb
              have CK4 := CK w4 hb
              clear hb CS CK
              go_wp2_with fail
              refine CK4.mono ?_
              rintro e w5 ⟨rfl, hb⟩
              have HX5 : Hid (Kept wr w5) := Lib.hid ((show Kept wr w4 from HX4.out).then hb)
              have ek := Kept.cell HX5.out HEI.out
              have CB5 := CB w5 (HSA.out.later HX5.out)
              clear hb CK4 CB
              go_wp2_with fail
              refine CB5.mono ?_
              rintro e w6 ⟨rfl, hb⟩
              have HX6 : Hid (Kept w1 w6) := Lib.hid (HBW.out.kept.then ((show Kept wr w5 from HX5.out).then hb))
              have A6 := A0 w6 HX6.out
              clear hb CB5 A0 ek
              go_wp2_with fail
              refine A6.mono ?_
              rintro e w7 ⟨rfl, hb⟩
              have HX7 : Hid (Kept w w7) := Lib.hid ((show Kept w w1 from HK1.out).then ((show Kept w1 w6 from HX6.out).then hb))
              clear hb A6
              go_wp2
              go_ret
              exact ⟨rfl, HX7.out⟩
          · rw [if_neg hin, if_neg hin] at CK
            have hk2 : (decide (k0 < 0) = true) ∨ (decide (k0 < 0) = false ∧ decide (k0 ≥ (ln : Int)) = true) := by
              by_cases g : k0 < 0
              · exact Or.inl (decide_eq_true g)
              · exact Or.inr ⟨decide_eq_false g, decide_eq_true (by omega)⟩
            clear hin hln HB HG
            rcases hcs with ht1 | ⟨ht1, ht2⟩
            all_goals rcases hk2 with g1 | ⟨g1, g2⟩
            all_goals
              go_wp2_with fail
              refine CS.mono ?_
              rintro e w4 ⟨rfl, hb⟩
              have HX4 : Hid (Kept wr w4) := Lib.hid hb
              have CK4 := CK w4 hb
              clear hb CS CK
              go_wp2_with fail
              refine CK4.mono ?_
              rintro e w5 ⟨rfl, hb⟩
              have HX5 : Hid (Kept wr w5) := Lib.hid ((show Kept wr w4 from HX4.out).then hb)
              have CB5 := CB w5 (HSA.out.later HX5.out)
              clear hb CK4 CB
              go_wp2_with fail
              refine CB5.mono ?_
              rintro e w6 ⟨rfl, hb⟩
              have HX6 : Hid (Kept w1 w6) := Lib.hid (HBW.out.kept.then ((show Kept wr w5 from HX5.out).then hb))
              have A6 := A0 w6 HX6.out
              clear hb CB5 A0
              go_wp2_with fail
              refine A6.mono ?_
              rintro e w7 ⟨rfl, hb⟩
              have HX7 : Hid (Kept w w7) := Lib.hid ((show Kept w w1 from HK1.out).then ((show Kept w1 w6 from HX6.out).then hb))
              clear hb A6
              go_wp2
              go_ret
              exact ⟨rfl, HX7.out⟩
  · have hcase : (decide (idOk id) = false) ∨ (decide (idOk id) = true ∧ (decide (sl0 < 1) = true ∨ (decide (sl0 < 1) = false ∧ (decide (sl0 > 256) = true ∨ (decide (sl0 > 256) = false ∧ (decide (by0 < 1) = true ∨ (decide (by0 < 1) = false ∧ decide (by0 > 65536) = true))))))) := by
      by_cases g0 : idOk id
      · refine Or.inr ⟨decide_eq_true g0, ?_⟩
        by_cases g1 : sl0 < 1
        · exact Or.inl (decide_eq_true g1)
        refine Or.inr ⟨decide_eq_false g1, ?_⟩
        by_cases g2 : sl0 > 256
        · exact Or.inl (decide_eq_true g2)
        refine Or.inr ⟨decide_eq_false g2, ?_⟩
        by_cases g3 : by0 < 1
        · exact Or.inl (decide_eq_true g3)
        refine Or.inr ⟨decide_eq_false g3, decide_eq_true ?_⟩
        refine Decidable.byContradiction fun g4 => hnew ⟨g0, ⟨by omega, by omega⟩, by omega, by omega⟩
      · exact Or.inl (decide_eq_false g0)
    have HNW := Lib.hid hnew
    clear hnew hsl0 hby0 hll
    obtain ⟨ib, hib⟩ : ∃ ib, ib = decide (idOk id) := ⟨_, rfl⟩
    rw [← hib] at hcase C2
    clear hib
    rcases hcase with rfl | ⟨rfl, d1 | ⟨d1, d2 | ⟨d2, d3 | ⟨d3, d4⟩⟩⟩⟩
    all_goals
      go_enter Tryd.func6, Tryd.ntmps6
      go_wp2_with fail
      refine CF.mono ?_
      rintro e w1 ⟨⟨v, rfl, hv, -⟩, hb⟩
      have HK1 : Hid (Kept w w1) := Lib.hid hb
      obtain ⟨pl, cl, hve, -⟩ := hv
      subst hve
      clear CF hb
      go_wp2_with fail
      refine (C1 w1).mono ?_
      rintro e w2 ⟨hb, h⟩
      rcases h with ⟨-, rfl⟩ | ⟨h, -⟩
      rotate_left
      · exact absurd h HNW.out
      have HK2 : Hid (Kept w w2) := Lib.hid ((show Kept w w1 from HK1.out).then hb)
      clear hb C1
      go_wp2_with fail
      refine (C2 w2).mono ?_
      rintro e w3 ⟨rfl, hb⟩
      have HK3 : Hid (Kept w w3) := Lib.hid ((show Kept w w2 from HK2.out).then hb)
      have A3 := AW w3 (HT.out.later HK3.out)
      clear hb C2
      go_wp2_with fail
      refine A3.mono ?_
      rintro e w4 ⟨rfl, hb⟩
      have HK4 : Hid (Kept w w4) := Lib.hid ((show Kept w w3 from HK3.out).then hb)
      clear hb A3
      go_wp2
      go_ret
      exact ⟨rfl, HK4.out⟩

end Go.Proofs.YtdmbebafpamgfaaDoor
