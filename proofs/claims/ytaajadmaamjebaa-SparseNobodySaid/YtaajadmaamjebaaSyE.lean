/- slices.Insert of a number ahead of any own slice; without, first; slices.Clone. -/
import Derived.Test.YtaajadmaamjebaaSyD
import Derived.Test.YtaajadmaamjebaaSyM
import Derived.Test.YtaajadmaamjebaaOwn
namespace Go.Proofs.Ytaajadmaamjebaa
open Go.RowKit

theorem but_of_grown {w w' : World} {r : Option Nat} (h : w.grownBy w' r) : ButBy (fun k => r = some k) w w' := ⟨h.os, h.tape, h.output, h.size, fun k hk hn => h.block k hk (fun e => hn e.symm)⟩
theorem but_of_kept {Bs : Nat → Prop} {w w' : World} (h : Kept w w') : ButBy Bs w w' := ButBy.below h

set_option maxRecDepth 100000 in
set_option maxHeartbeats 2000000 in
theorem uinsert_nil (B man vb : Nat) (v : Value) (hlo : man < 4294967296) (w : World) (h : OwnU B [] v w) (hv : OneU vb man w) (hB : B ≤ w.heap.size) :
    Calls Try.prog 52 #[v, .int .i64 0, .slice (some ⟨vb, 0, none⟩) 1 1] w fun e w' =>
      ∃ v', e = .returned v' ∧ OwnU B [man] v' w' ∧ (v'.ownBlock = v.ownBlock ∨ v'.ownBlock = some w.heap.size) ∧ w.grownBy w' v.ownBlock := by
  obtain ⟨ir, hir, hx⟩ := Option.map_eq_some_iff.1 info_u32
  simp only [Prod.mk.injEq] at hx
  obtain ⟨hz0, hz1, hz2⟩ := hx
  have HIR := Lib.hid hir
  have HZ0 := Lib.hid hz0
  have HZ1 := Lib.hid hz1
  have HZ2 := Lib.hid hz2
  obtain ⟨va, vc, -, -, C2, -⟩ := own_cutsR encU (P := Try.prog) Try.underlying44 (fun w => Try.sizeOf33 w) (B := B) (l := []) (v := v) (w := w) (fun a ha => (by cases ha)) h.own 0 (Nat.le_refl _)
  have CJ : ∀ w', (Instr.sliceAt 44 v (some (.int .i64 0)) none none).run Try.prog w' = .ok vc w' := C2
  have HF : Hid (FlatAt 1 1 [uV man] (.slice (some ⟨vb, 0, none⟩) 1 1) w) := Lib.hid ⟨rfl, fun x hx => by rw [List.mem_singleton.1 hx]; rfl, _, 1, rfl, Or.inr ⟨vb, 0, rfl, fun j x hx => by rw [← addr_add]; exact hv.cell j x hx⟩⟩
  have HOW : Hid (w.ownsRow B 33 1 v 0 []) := Lib.hid h.own
  obtain ⟨p, c, hp⟩ := h.slice
  obtain ⟨ob, hob⟩ : ∃ ob, ob = v.ownBlock := ⟨_, rfl⟩
  have HOB := Lib.hid hob
  have hp' : v = .slice p 0 c := hp
  subst hp'
  have HLO := Lib.hid hlo
  have HBB := Lib.hid hB
  clear h hv hB hlo hir hz0 hz1 hz2 C2 hp
  rw [← hob]
  clear hob
  go_enter Try.func52, Try.ntmps52
  go_wp2_with (at_builtin; refine wpList_append_flat rfl _ _ 44 rfl B 33 ir (.int .u32 0) 1 4 Try.underlying44 HIR.out HZ0.out HZ1.out HZ2.out rfl (by decide) _ _ _ rfl HOW.out _ 1 [uV man] rfl HF.out ?wa1 ?wa2 ?wa3 ?_)
  case wa1 => unfold maxLen; omega
  case wa2 => omega
  case wa3 => exact HBB.out
  intro v1 w1 hown1 hgr1 hwh
  have HO1 : Hid (w1.ownsRow B 33 1 v1 1 [uV man]) := Lib.hid hown1
  have HGR1 := Lib.hid hgr1
  have HWH := Lib.hid hwh
  clear hown1 hgr1 hwh
  go_wp2
  go_ret
  exact ⟨_, rfl, ⟨fun m hm => by rw [List.mem_singleton.1 hm]; exact HLO.out, HO1.out⟩, by rw [HOB.out]; exact HWH.out, by rw [HOB.out]; exact HGR1.out⟩

/-- slices.Insert(s, 0, man). -/
theorem uinsert_any (B man vb : Nat) (l : List Nat) (v : Value) (hs : l.length ≤ 1000000) (hlo : man < 4294967296) (w : World) (h : OwnU B l v w) (hv : OneU vb man w) (hne : v.ownBlock ≠ some vb) (hB : B ≤ w.heap.size) :
    Calls Try.prog 52 #[v, .int .i64 0, .slice (some ⟨vb, 0, none⟩) 1 1] w fun e w' =>
      ∃ v', e = .returned v' ∧ OwnU B (man :: l) v' w' ∧ (v'.ownBlock = v.ownBlock ∨ v'.ownBlock = some w.heap.size) ∧ w.grownBy w' v.ownBlock := by
  have hlo' : ∀ m ∈ man :: l, m < 4294967296 := fun m hm => by
    rcases List.mem_cons.1 hm with rfl | hm
    · exact hlo
    · exact h.lo m hm
  cases l with
  | nil => exact uinsert_nil B man vb v hlo w h hv hB
  | cons a l =>
    rcases h.parts with ⟨-, h0⟩ | ⟨g, cap, rest, rfl, hBg, hr, hc, hm, hs2⟩
    · cases h0
    · cases rest with
      | nil =>
        refine (uinsert_grow B man vb g cap (a :: l) hs hlo' (by simp) (by simpa using hs2) w hr hv hB).mono ?_
        rintro e w' ⟨v', he, ho, hb, hk⟩
        exact ⟨v', he, ho, Or.inr hb, grown_below hk _⟩
      | cons z rest =>
        have hvg : vb ≠ g := fun e => hne (by rw [e]; rfl)
        have h2 : (z :: rest).length = rest.length + 1 := rfl
        refine (uinsert_room man vb g cap (a :: l) z rest hs (by simp) (by omega) hs2 w hr hv hvg).mono ?_
        rintro e w' ⟨he, hr', hg⟩
        exact ⟨_, he, OwnU.of_row hlo' hBg hr' (by simp only [List.length_cons] at *; omega) hm (by simp only [List.length_cons] at *; omega), Or.inl rfl, hg⟩

set_option maxRecDepth 100000 in
theorem udelete_nil (bx : Nat) (w : World) :
    Calls Try.prog 47 #[.slice none 0 0, .func (.func 48) #[] #[.pointer (some ⟨bx, 0, none⟩)]] w fun e w' => e = .returned (.slice none 0 0) ∧ w = w' := by
  have IF : Calls Try.prog 53 #[.slice none 0 0, .func (.func 48) #[] #[.pointer (some ⟨bx, 0, none⟩)]] w fun e w' => e = .returned (.int .i64 (-1)) ∧ w = w' := by
    go_enter Try.func53, Try.ntmps53
    go_wp2
    refine wp_loop_rounds 1 ?_
    rw [rounds_succ]
    go_wp2
    go_ret
    exact ⟨rfl, rfl⟩
  go_enter Try.func47, Try.ntmps47
  go_wp2_with (go_at_call 53; refine IF.mono ?_; rintro e w' ⟨rfl, rfl⟩)
  go_ret
  exact ⟨rfl, rfl⟩

/-- slices.DeleteFunc of an own slice of numbers. -/
theorem udelete_any (B man bx : Nat) (l : List Nat) (v : Value) (hs : l.length ≤ 1000000) (w : World) (h : OwnU B l v w) (hb : w.cell? ⟨bx, 0, none⟩ = some (uV man)) (hne : v.ownBlock ≠ some bx) :
    Calls Try.prog 47 #[v, .func (.func 48) #[] #[.pointer (some ⟨bx, 0, none⟩)]] w fun e w' =>
      ∃ v', e = .returned v' ∧ OwnU B (keepS man l) v' w' ∧ v'.ownBlock = v.ownBlock ∧ w.grownBy w' v.ownBlock := by
  rcases h.parts with ⟨rfl, rfl⟩ | ⟨g, cap, rest, rfl, hBg, hr, hc, hm, hs2⟩
  · refine (udelete_nil bx w).mono ?_
    rintro e w' ⟨he, rfl⟩
    exact ⟨_, he, OwnU.nil_ B w, rfl, grown_refl _ _⟩
  · refine (udelete_row man bx g cap l rest hs hc w hr hb (fun e => hne (by rw [e]; rfl))).mono ?_
    rintro e w' ⟨rest', he, hr', hs3, hg⟩
    have hle := keepS_le man l
    exact ⟨_, he, OwnU.of_row (fun m hm => h.lo m (List.mem_filter.1 hm).1) hBg hr' (by omega) hm (by omega), rfl, hg⟩

set_option maxRecDepth 100000 in
set_option maxHeartbeats 1000000 in
/-- without(mans, man). -/
theorem without_any (B man : Nat) (l : List Nat) (v : Value) (hs : l.length ≤ 1000000) (w : World) (h : OwnU B l v w) :
    Calls Try.prog 37 #[v, .int .u32 (man : Nat)] w fun e w' =>
      ∃ v', e = .returned v' ∧ OwnU B (keepS man l) v' w' ∧ v'.ownBlock = v.ownBlock ∧ ButBy (fun k => v.ownBlock = some k) w w' := by
  have K1 := box_below w (.cells #[.int .u32 (man : Nat)] 33)
  have c1 : (w.alloc (.cells #[.int .u32 (man : Nat)] 33)).cell? ⟨w.heap.size, 0, none⟩ = some (uV man) := by
    rw [cell_of_row _ _ _ _ _ _ (heap_alloc_last w _)]; rfl
  have D := udelete_any B man w.heap.size l v hs _ (h.later K1) c1 (fun e => by have := (h.lt _ e).2; omega)
  have HK1 := Lib.hid K1
  clear K1 c1 h
  go_enter Try.func37, Try.ntmps37
  go_wp2_with fail
  refine D.mono ?_
  rintro e w2 ⟨v2, rfl, ho2, hb2, hg2⟩
  have HO2 := Lib.hid ho2
  have HB2 := Lib.hid hb2
  have HG2 := Lib.hid hg2
  clear ho2 hb2 hg2 D
  go_wp2
  go_ret
  exact ⟨_, rfl, HO2.out, HB2.out, (but_of_kept HK1.out).trans (but_of_grown HG2.out)⟩

/-- The first k of an own slice of numbers. -/
theorem OwnU.take {B g cap : Nat} {l : List Nat} {w : World} (h : OwnU B l (.slice (some ⟨g, 0, none⟩) l.length cap) w) (k : Nat) (hk : k ≤ l.length) : OwnU B (l.take k) (.slice (some ⟨g, 0, none⟩) k cap) w := by
  rcases h.parts with ⟨h0, -⟩ | ⟨g', cap', rest, he, hBg, hr, hc, hm, hs2⟩
  · cases h0
  · simp only [Value.slice.injEq, Option.some.injEq, Addr.mk.injEq, true_and, and_true] at he
    obtain ⟨rfl, rfl⟩ := he
    have hr2 : RowU g (l.take k) ((l.drop k).map uV ++ rest) w := by
      have e : rowU (l.take k) ((l.drop k).map uV ++ rest) = rowU l rest := by
        unfold rowU
        rw [← List.append_assoc, ← List.map_append, List.take_append_drop]
      show w.heap[g]? = _
      rw [e]; exact hr
    have hl : (l.take k).length = k := by rw [List.length_take]; omega
    have := OwnU.of_row (B := B) (fun m hm => h.lo m (List.mem_of_mem_take hm)) hBg hr2 (by rw [hl]; omega) hm (by rw [hl, List.length_append, List.length_map, List.length_drop]; omega)
    rw [hl] at this
    exact this

set_option maxRecDepth 100000 in
set_option maxHeartbeats 2000000 in
/-- first(man, mans, most). -/
theorem first_any (B man p : Nat) (l : List Nat) (v : Value) (hs : l.length ≤ 100000) (hp : p ≤ 64) (hlo : man < 4294967296) (w : World) (h : OwnU B l v w) (hB : B ≤ w.heap.size) :
    Calls Try.prog 44 #[.int .u32 (man : Nat), v, .int .i64 (p : Nat)] w fun e w' =>
      ∃ v', e = .returned v' ∧ OwnU B (firstM (p : Int) man l) v' w' ∧ (v'.ownBlock = v.ownBlock ∨ ∃ k, v'.ownBlock = some k ∧ w.heap.size ≤ k) ∧ ButBy (fun k => v.ownBlock = some k) w w' := by
  have WO := without_any B man l v (by omega) w h
  have hle := keepS_le man l
  have hfl : (firstM (p : Int) man l) = (man :: keepS man l).take p := by unfold firstM; rw [Int.toNat_natCast]
  have HFL := Lib.hid hfl
  have HLT := Lib.hid (fun k hk => (h.lt k hk).2)
  have HBB := Lib.hid hB
  have HKL : Hid ((keepS man l).length ≤ 100000) := Lib.hid (by omega)
  have HHS := Lib.hid hs
  have HLO := Lib.hid hlo
  have HPP := Lib.hid hp
  clear h hs hle hfl hB hlo hp
  go_enter Try.func44, Try.ntmps44
  go_wp2_with fail
  refine WO.mono ?_
  rintro e w1 ⟨v1, rfl, ho1, hb1, hB1⟩
  have HO1 := Lib.hid ho1
  have HOB1 := Lib.hid hb1
  have HB1 := Lib.hid hB1
  clear ho1 hb1 hB1 WO
  go_wp2_with fail
  have K2 := box_below w1 (.cells #[.int .u32 (man : Nat)] 33)
  have INS := uinsert_any B man w1.heap.size (keepS man l) v1 (by have := HKL.out; omega) HLO.out _ (HO1.out.later K2) (heap_alloc_last w1 _) (fun e => by have := (HO1.out.lt _ e).2; omega) (by have := HBB.out; have h1 := HB1.out.size; have h2 := K2.size; omega)
  have HK2 := Lib.hid K2
  clear K2
  refine INS.mono ?_
  rintro e w3 ⟨v3, rfl, ho3, hb3, hg3⟩
  obtain ⟨M, hM⟩ : ∃ M, M = man :: keepS man l := ⟨_, rfl⟩
  rw [← hM] at ho3 HFL
  have hM1 : 1 ≤ M.length ∧ M.length ≤ 100001 := by rw [hM, List.length_cons]; have := HKL.out; omega
  rcases ho3.parts with ⟨-, h0⟩ | ⟨g, cap, rest, rfl, hBg, hr, hc, hm, hs2⟩
  · rw [h0] at hM1; simp at hM1
  have HO3 := Lib.hid ho3
  have HBK : Hid (ButBy (fun k => v.ownBlock = some k) w w3) := Lib.hid (HB1.out.trans ((but_of_kept HK2.out).trans (by rw [← HOB1.out]; exact but_of_grown hg3)))
  have HWB : Hid ((Value.slice (some ⟨g, 0, none⟩) M.length cap).ownBlock = v.ownBlock ∨ ∃ k, (Value.slice (some ⟨g, 0, none⟩) M.length cap).ownBlock = some k ∧ w.heap.size ≤ k) := Lib.hid (by
    rcases hb3 with h | h
    · exact Or.inl (h.trans HOB1.out)
    · refine Or.inr ⟨_, h, ?_⟩
      have h1 := HB1.out.size
      have h2 := HK2.out.size
      omega)
  obtain ⟨n, hn⟩ : ∃ n, n = M.length := ⟨_, rfl⟩
  obtain ⟨q, hq⟩ : ∃ q, q = (if n ≤ p then n else p) := ⟨_, rfl⟩
  have hqn : q ≤ n := by rw [hq]; split <;> omega
  have CH := fun w' => cutU_hi g n cap q (by omega) (by omega) w'
  have HTK : Hid (OwnU B (firstM (p : Int) man l) (.slice (some ⟨g, 0, none⟩) q cap) w3) := Lib.hid (by
    have h1 := ho3.take q (by omega)
    have h2 : M.take q = M.take p := by
      rw [hq]; split
      · rw [List.take_of_length_le (by omega), List.take_of_length_le (by omega)]
      · rfl
    rw [HFL.out, ← h2]; exact h1)
  have hmin : min (n : Int) (p : Int) = (q : Int) := by rw [hq]; split <;> omega
  have hmin2 : (if (p : Int) < (n : Int) then (p : Int) else (n : Int)) = (q : Int) := by rw [hq]; split <;> split <;> omega
  rw [← hn] at HWB ⊢
  clear ho3 hb3 hg3 hM hM1 hBg hr hc hm hs2 hn hqn hq INS
  go_wp2
  go_ret
  exact ⟨_, rfl, HTK.out, HWB.out, HBK.out⟩

set_option maxRecDepth 100000 in
set_option maxHeartbeats 1000000 in
theorem uclone_some (a : Addr) (c : Nat) (l : List Nat) (hs : l.length ≤ 1000000) (w : World) (h : UsAt l (.slice (some a) l.length c) w) :
    Calls Try.prog 34 #[.slice (some a) l.length c] w fun e w' => ∃ v', e = .returned v' ∧ w'.ownsRow w.heap.size 33 1 v' l.length (flatR uL l) ∧ Below w.heap.size w w' := by
  obtain ⟨ir, hir, hx⟩ := Option.map_eq_some_iff.1 info_u32
  simp only [Prod.mk.injEq] at hx
  obtain ⟨hz0, hz1, hz2⟩ := hx
  have HIR := Lib.hid hir
  have HZ0 := Lib.hid hz0
  have HZ1 := Lib.hid hz1
  have HZ2 := Lib.hid hz2
  have q22 : ∀ (w : World) (a : Option Addr) (n c n' c' : Nat), (binOp .eql 44 (.slice a n c) (.slice none n' c')).run Try.prog w = .ok (.bool a.isNone) w := fun w a n c n' c' => Lib.run_eql_slice_nil w _ _ a n c n' c' Try.underlying44
  have HF : Hid (FlatAt 1 l.length (flatR uL l) (.slice (some a) l.length c) (w.alloc (.cells #[] 33))) := Lib.hid (h.at_.later (box_below w _))
  have HK1 := Lib.hid (box_below w (.cells #[] 33))
  obtain ⟨n, hn⟩ : ∃ n, n = l.length := ⟨_, rfl⟩
  have HN := Lib.hid hn
  rw [← hn] at hs HF ⊢
  clear hn h hir hz0 hz1 hz2
  go_enter Try.func34, Try.ntmps34
  go_wp2_with (at_builtin; refine wpList_append_flat rfl _ _ 44 rfl w.heap.size 33 ir (.int .u32 0) 1 4 Try.underlying44 HIR.out HZ0.out HZ1.out HZ2.out rfl (by decide) _ _ _ rfl (World.ownsRow_made w #[] 0 (Nat.le_refl _) (Nat.zero_le _) (by simp)) _ n (flatR uL l) rfl HF.out ?wa1 ?wa2 ?wa3 ?_)
  case wa1 => unfold maxLen; omega
  case wa2 => omega
  try case wa3 => simp
  intro v1 w1 hown1 hgr1 _
  have K2 : Kept w w1 := Below.grown (show Kept w _ from HK1.out) hgr1 (by simp) (fun j hj => by
    have h2 : (Value.slice (some ⟨w.heap.size, 0, none⟩) 0 0).ownBlock = some j := hj
    have h3 := Option.some.inj h2
    exact Nat.le_of_eq h3)
  have HO1 : Hid (w1.ownsRow w.heap.size 33 1 v1 n (flatR uL l)) := Lib.hid (by simpa using hown1)
  clear hown1 hgr1
  go_wp2
  go_ret
  exact ⟨_, rfl, HO1.out, K2⟩

set_option maxRecDepth 100000 in
theorem uclone_none (n c : Nat) (w : World) :
    Calls Try.prog 34 #[.slice none n c] w fun e w' => e = .returned (.slice none 0 0) ∧ w = w' := by
  have q22 : ∀ (w : World) (a : Option Addr) (n c n' c' : Nat), (binOp .eql 44 (.slice a n c) (.slice none n' c')).run Try.prog w = .ok (.bool a.isNone) w := fun w a n c n' c' => Lib.run_eql_slice_nil w _ _ a n c n' c' Try.underlying44
  go_enter Try.func34, Try.ntmps34
  go_wp2
  go_ret
  exact ⟨rfl, rfl⟩

/-- slices.Clone of any slice of numbers of 32 bits. -/
theorem uclone_any (v : Value) (l : List Nat) (hs : l.length ≤ 1000000) (w : World) (h : UsAt l v w) :
    Calls Try.prog 34 #[v] w fun e w' => ∃ v', e = .returned v' ∧ w'.ownsRow w.heap.size 33 1 v' l.length (flatR uL l) ∧ Below w.heap.size w w' := by
  obtain ⟨p, c, rfl, -, hc⟩ := h.out encU
  cases p with
  | some a => exact uclone_some a c l hs w h
  | none =>
    have h0 : l = [] := by
      rcases hc with h0 | ⟨b, off, h0, _⟩
      · exact List.eq_nil_of_length_eq_zero (by omega)
      · cases h0
    subst h0
    refine (uclone_none _ c w).mono ?_
    rintro e w' ⟨he, rfl⟩
    exact ⟨_, he, World.ownsRow_nil _ _ _ _, Below.refl _ _⟩


end Go.Proofs.Ytaajadmaamjebaa
