/- The landed boxes' readHead, Head. -/
import Derived.Test.YtdmbebafpamgfaaDoorBxCc
import Derived.Test.YtdmbebafpamgfaaDoorReader
namespace Go.Proofs.YtdmbebafpamgfaaDoor
open Go.RowKit

/-- What readHead reads. -/
def headL (t : List UInt8) : Hd := ⟨(idR t).1, (slotsR (min (cntR t).1 256) (cntR t).2 []).1⟩
theorem headL_wf (t : List UInt8) : wfH (headL t) := ⟨numR_small _ _, slotsR_wf _ _ _ (fun x hx => by cases hx)⟩
theorem headL_len (t : List UInt8) : (headL t).slots.length ≤ 256 := by
  show (slotsR _ _ _).1.length ≤ _
  rw [slotsR_len]
  show 0 + _ ≤ _
  omega
theorem headL_app {h : Hd} (g : goodH h) (hw : wfH h) (D : List UInt8) : headL (frontH h ++ D) = h := by
  obtain ⟨e2, e3, -⟩ := headR_front g hw D
  unfold headL
  rw [e2, e3]
  simp only
  rw [Nat.min_eq_left g.len.2, slotsR_app _ _ _ hw.2]
  rfl
/-- Which bytes the program accepts. -/
theorem headL_yes {t : List UInt8} (hz : sizeH (headL t) = t.length) (hp : (frontH (headL t)).isPrefixOf t = true) : headG t = some (headL t) := by
  obtain ⟨D, hD⟩ := List.isPrefixOf_iff_prefix.1 hp
  have hl := congrArg List.length hD
  rw [List.length_append, frontH_len] at hl
  have g : goodH (headL t) := by
    refine Decidable.byContradiction fun g => ?_
    unfold sizeH at hz
    rw [if_neg g] at hz
    unfold lenH at hl
    omega
  rw [sizeH_good g] at hz
  have := headG_app g (headL_wf t) D (by omega)
  rw [hD] at this
  exact this
theorem headL_no {t : List UInt8} (h : ¬ (sizeH (headL t) = t.length ∧ (frontH (headL t)).isPrefixOf t = true)) : headG t = none := by
  cases hg : headG t with
  | none => rfl
  | some x =>
    refine (h ?_).elim
    obtain ⟨g, hw, D, e, hD⟩ := headG_ok hg
    have e1 : headL t = x := by rw [e]; exact headL_app g hw D
    rw [e1]
    refine ⟨by rw [sizeH_good g, e, List.length_append, frontH_len, hD], List.isPrefixOf_iff_prefix.2 ⟨D, e.symm⟩⟩

theorem rd_appB {w wd w6 : World} {b5 base id br : Nat} {tv v' : Value} {l : List (Nat × Nat)} {s : RdSt} {XA : Array Value} (hr : RdAt br s wd) (h : HI w b5 base id tv l wd) (hb : br < base ∧ br ≠ b5)
    (hg : (wd.alloc (.cells XA 68)).grownBy w6 tv.ownBlock) : RdAt br s (w6.setCell ⟨b5, 1, none⟩ v') :=
  RdAt.later (RdAt.later (hr.later (w' := wd.alloc (.cells XA 68)) (r := none) (grown_below ((Below.refl _ _).alloc (Nat.le_refl _) _) none) (by simp)) hg (fun e => by have := (h.own.lt br e.symm).1; omega)) (grown_set _ _ _ _) (fun e => hb.2 (Option.some.inj e))
theorem numR_lenB (s : RdSt) (k : Nat) : (numR s k).2.1.length ≤ s.1.length := takeR_len s k
theorem bu16 (b : Nat) (s : RdSt) (w : World) (h : RdAt b s w) (hl : s.1.length ≤ 1000000) (n : Nat) (hn : n = (numR s 2).1) (t : RdSt) (ht : t = (numR s 2).2) :
    Calls Tryd.prog 65 #[.pointer (some ⟨b, 0, none⟩)] w (RdPost b (.int .u16 n) t w) := by
  subst hn ht; exact u16r_any b s w h hl
theorem bu32 (b : Nat) (s : RdSt) (w : World) (h : RdAt b s w) (hl : s.1.length ≤ 1000000) (n : Nat) (hn : n = (numR s 4).1) (t : RdSt) (ht : t = (numR s 4).2) :
    Calls Tryd.prog 64 #[.pointer (some ⟨b, 0, none⟩)] w (RdPost b (.int .u32 n) t w) := by
  subst hn ht; exact u32r_any b s w h hl
theorem wpList_minB {P : Program} {ops : Array Oper} {rest : List Oper} {o : Oper} {a : Act} {w : World} {Q : Exit → Act → World → Prop} (hgd : o.guard = none) (x y : Operand) (t u : TypeId)
    (ho : o.op = .call { callee := .builtin .min, args := #[x, y], argTypes := #[t, u] }) (k k' : IntKind) (m n r : Int) (hx : a.eval x = .int k m) (hy : a.eval y = .int k' n) (hr : (if n < m then n else m) = r)
    (h : wpList P ops Q rest (a.put o.dst (.int k r)) w) : wpList P ops Q (o :: rest) a w := by
  refine wpList_plain hgd fun K hK => ?_
  subst hr
  unfold Oper.wp execOp
  simp only [ho, resolve, invoke, builtin, Sem.run_bind, Sem.run_pure, Result.andThen_ok, List.map_toArray, List.map_cons, List.map_nil, hx, hy, run_min_int2]
  exact hK _ _ h

set_option maxRecDepth 100000 in
set_option maxHeartbeats 32000000 in
theorem readHead_any (t : ByteArray) (ht : t.size ≤ 1000000) (w : World) :
    Calls Tryd.prog 42 #[.string t] w fun e w' => (∃ v, e = .returned v ∧ HeadIs (headL t.data.toList) v w') ∧ Kept w w' := by
  obtain ⟨ir, hir, hx⟩ := Option.map_eq_some_iff.1 infoSlX
  simp only [Prod.mk.injEq] at hx
  obtain ⟨hz0, hz1, hz2⟩ := hx
  have HIR := Lib.hid hir
  have HZ0 := Lib.hid hz0
  have HZ1 := Lib.hid hz1
  have HZ2 := Lib.hid hz2
  obtain ⟨S, hS⟩ : ∃ S, S = t.data.toList := ⟨_, rfl⟩
  have hSl : S.length ≤ 1000000 := by rw [hS, data_len]; exact ht
  rw [← hS]
  obtain ⟨W1, hW1⟩ : ∃ W, W = w.alloc (.cells #[.int .u32 0, .slice none 0 0] 33) := ⟨_, rfl⟩
  have HW1 := Lib.hid hW1
  have hrow0 := heap_alloc_last w (.cells #[.int .u32 0, .slice none 0 0] 33)
  rw [← hW1] at hrow0
  have HROW := Lib.hid hrow0
  have HK1 : Hid (Kept w W1) := Lib.hid (by rw [hW1]; exact box_below _ _)
  have HS1 : Hid (W1.heap.size = w.heap.size + 1) := Lib.hid (by rw [hW1]; simp)
  have CR := read_any t W1
  rw [← hS] at CR
  obtain ⟨s0, hs0⟩ : ∃ s : RdSt, s = (S, 0) := ⟨_, rfl⟩
  rw [← hs0] at CR
  obtain ⟨sA, hsA⟩ : ∃ s, s = (takeR s0 4).2 := ⟨_, rfl⟩
  obtain ⟨id, hid⟩ : ∃ n, n = (numR sA 4).1 := ⟨_, rfl⟩
  obtain ⟨sB, hsB⟩ : ∃ s, s = (numR sA 4).2 := ⟨_, rfl⟩
  obtain ⟨n, hn⟩ : ∃ n, n = (numR sB 2).1 := ⟨_, rfl⟩
  obtain ⟨sC, hsC⟩ : ∃ s, s = (numR sB 2).2 := ⟨_, rfl⟩
  have l0 : s0.1.length ≤ 1000000 := by rw [hs0]; exact hSl
  have lA : sA.1.length ≤ 1000000 := by rw [hsA]; exact Nat.le_trans (takeR_len _ _) l0
  have lB : sB.1.length ≤ 1000000 := by rw [hsB]; exact Nat.le_trans (numR_lenB _ _) lA
  have HLC : Hid (sC.1.length ≤ 1000000) := Lib.hid (by rw [hsC]; exact Nat.le_trans (numR_lenB _ _) lB)
  have CT := fun b W (h : RdAt b s0 W) => take_any b s0 4 W h l0
  rw [← hsA] at CT
  have CI := fun b W (h : RdAt b sA W) => bu32 b sA W h lA id hid sB hsB
  have CN := fun b W (h : RdAt b sB W) => bu16 b sB W h lB n hn sC hsC
  have hn16 : n < 65536 := by rw [hn]; exact numR_small _ _
  obtain ⟨m, hm⟩ : ∃ m, m = min n 256 := ⟨_, rfl⟩
  have hm256 : m ≤ 256 := by omega
  have HMN : Hid ((if (256 : Int) < (n : Int) then (256 : Int) else (n : Int)) = m) := Lib.hid (by split <;> omega)
  obtain ⟨FIN, hFIN⟩ : ∃ F, F = slotsR m sC [] := ⟨_, rfl⟩
  have HFIN : Hid (slotsR m sC [] = FIN) := Lib.hid hFIN.symm
  have HHR : Hid (headL S = ⟨id, FIN.1⟩) := Lib.hid (by
    rw [hFIN, hm, hn, hsC, hid, hsB, hsA, hs0]; rfl)
  have HX4 : Hid (id = (numR sA 4).1) := Lib.hid hid
  obtain ⟨HD0, hHD⟩ : ∃ h, h = headL S := ⟨_, rfl⟩
  rw [← hHD] at HHR ⊢
  have HC2 := Lib.hid CI
  have HC3 := Lib.hid CN
  clear hir hz0 hz1 hz2 hS hSl ht hW1 hrow0 hs0 hsA hid hsB hn hsC l0 lA lB hm hFIN hHD CI CN hn16
  go_enter Tryd.func42, Tryd.ntmps42
  go_wp2_with fail
  rw [← HW1.out]
  refine CR.mono ?_
  rintro e W2 ⟨rfl, hr2, hb2⟩
  obtain ⟨br, hbr⟩ : ∃ b, b = W1.heap.size := ⟨_, rfl⟩
  have HBRE : Hid (br = w.heap.size + 1) := Lib.hid (by rw [hbr, HS1.out])
  rw [← hbr] at hr2
  have HR2 := Lib.hid hr2
  have HK2 : Hid (Kept w W2) := Lib.hid ((show Kept w W1 from HK1.out).then hb2)
  have HROW2 := Lib.hid (Kept.row (show Kept W1 W2 from hb2) HROW.out)
  have C1 := CT br W2 HR2.out
  try rw [← hbr]
  clear hb2 hr2 hbr CR CT HROW HK1
  go_wp2_with fail
  refine C1.mono ?_
  rintro e W3 ⟨rfl, hr3, hb3⟩
  have HR3 := Lib.hid hr3
  have HK3 : Hid (Kept w W3) := Lib.hid (below_touch (show Below w.heap.size w W2 from HK2.out) hb3 HK2.out.size (by have := HBRE.out; omega))
  have HROW3 : Hid (W3.heap[w.heap.size]? = some (.cells #[.int .u32 0, .slice none 0 0] 33 (0, 0))) := Lib.hid (by rw [hb3.block _ (Array.getElem?_eq_some_iff.1 HROW2.out).1 (fun e => by have := Option.some.inj e; have := HBRE.out; omega)]; exact HROW2.out)
  have C2 := HC2.out br W3 HR3.out
  clear hr3 hb3 HR2 HK2 HROW2 C1 HC2
  go_wp2_with fail
  refine C2.mono ?_
  rintro e W4 ⟨rfl, hr4, hb4⟩
  have HR4 := Lib.hid hr4
  have HK4 : Hid (Kept w W4) := Lib.hid (below_touch (show Below w.heap.size w W3 from HK3.out) hb4 HK3.out.size (by have := HBRE.out; omega))
  have HROW4 : Hid (W4.heap[w.heap.size]? = some (.cells #[.int .u32 0, .slice none 0 0] 33 (0, 0))) := Lib.hid (by rw [hb4.block _ (Array.getElem?_eq_some_iff.1 HROW3.out).1 (fun e => by have := Option.some.inj e; have := HBRE.out; omega)]; exact HROW3.out)
  clear hr4 hb4 HR3 HK3 HROW3 C2
  obtain ⟨b5, hb5⟩ : ∃ b5, b5 = W4.heap.size := ⟨_, rfl⟩
  have HB5 := Lib.hid hb5
  obtain ⟨W5, hW5⟩ : ∃ W5, W5 = W4.alloc (.cells #[.int .u32 (id : Nat), .slice none 0 0] 33) := ⟨_, rfl⟩
  have HW5 := Lib.hid hW5
  have hk5 : Kept W4 W5 := by rw [hW5]; exact box_below _ _
  have hlt : br < b5 := by rw [hb5]; exact HR4.out.lt
  have HBR : Hid (br < b5 + 1 ∧ br ≠ b5 ∧ w.heap.size < br) := Lib.hid ⟨by omega, by omega, by have := HBRE.out; omega⟩
  have HI5 : Hid (HI w b5 (b5 + 1) id (.slice none 0 0) [] W5) := Lib.hid (by
    refine ⟨HK4.out.then hk5, by rw [hW5, hb5]; simp, hk5.row HROW4.out, by rw [hW5, hb5]; exact heap_alloc_last W4 _, World.ownsRow_nil _ _ _ _, ?_⟩
    have := HBRE.out
    omega)
  have HR5 : Hid (RdAt br sB W5) := Lib.hid (HR4.out.later (grown_below hk5 none) (by simp))
  have C3 := HC3.out br W5 HR5.out
  clear hb5 hW5 hk5 hlt HR4 HK4 HROW4 HC3
  go_wp2_with fail
  try rw [← HB5.out]
  rw [← HW5.out]
  refine C3.mono ?_
  rintro e W6 ⟨rfl, hr6, hb6⟩
  have HR6 := Lib.hid hr6
  have HI6 := Lib.hid (HI5.out.grown hb6 HBR.out)
  clear hr6 hb6 HR5 HI5 C3
  go_wp2_with (with_reducible refine wpList_minB rfl _ _ _ _ rfl .u16 .u16 n 256 m rfl rfl HMN.out ?_)
  go_loopg [16] m (fun gh y wr => ∃ (k : Nat) (l : List (Nat × Nat)) (tv : Value) (s' : RdSt), k + gh = m ∧ y = .int .u16 k ∧ l.length = k ∧ Hid (HI w b5 (b5 + 1) id tv l wr) ∧ Hid (RdAt br s' wr) ∧ Hid (slotsR gh s' l = FIN) ∧ Hid (s'.1.length ≤ 1000000))
  case atStart => exact ⟨0, [], _, _, by omega, rfl, rfl, HI6, HR6, HFIN, HLC⟩
  case round =>
    clear HI6 HR6 HFIN HLC
    obtain ⟨k, l, tv, s', hk, rfl, hlk, HH, HR, HSF, HL⟩ := hrel
    obtain ⟨pv, cv, htv, -, -⟩ := own_slice HH.out.own
    subst htv
    by_cases hlt : k < m
    · have hki : (k : Int) < m := by omega
      have bk : decide ((k : Int) < (m : Int)) = true := by simpa using hki
      obtain ⟨gk', hgk'⟩ : ∃ g, gk = g + 1 := ⟨gk - 1, by omega⟩
      subst hgk'
      obtain ⟨x, hx⟩ : ∃ x, x = (numR s' 2).1 := ⟨_, rfl⟩
      obtain ⟨t1, ht1⟩ : ∃ t, t = (numR s' 2).2 := ⟨_, rfl⟩
      obtain ⟨q, hq⟩ : ∃ q, q = (numR t1 4).1 := ⟨_, rfl⟩
      obtain ⟨t2, ht2⟩ : ∃ t, t = (numR t1 4).2 := ⟨_, rfl⟩
      have C1 := bu16 br s' wr HR.out HL.out x hx t1 ht1
      have l1 : t1.1.length ≤ 1000000 := by rw [ht1]; exact Nat.le_trans (numR_lenB _ _) HL.out
      have HL2 : Hid (t2.1.length ≤ 1000000) := Lib.hid (by rw [ht2]; exact Nat.le_trans (numR_lenB _ _) l1)
      have hc2 := fun W (h : RdAt br t1 W) => bu32 br t1 W h l1 q hq t2 ht2
      have hx16 : x < 65536 := by rw [hx]; exact numR_small _ _
      have hsf := HSF.out
      rw [slotsR, ← ht1, ← hx, ← hq, ← ht2] at hsf
      have C2 := Lib.hid hc2
      have u3 : IntKind.i64.wrap (x : Int) = (x : Int) := IntWalk.i64_in _ (by omega)
      obtain ⟨k1, hk1⟩ : ∃ k1, k1 = k + 1 := ⟨_, rfl⟩
      have v1 : IntKind.u16.wrap ((k : Int) + 1) = (k1 : Int) := by rw [show (k : Int) + 1 = (k1 : Int) by omega]; exact wrap_u16 (by omega)
      have HK1 := Lib.hid hk1
      replace HSF : Hid (slotsR gk' t2 (l ++ [(x, q)]) = FIN) := Lib.hid hsf
      have HKLT : Hid (k < 300 ∧ l.length = k) := Lib.hid ⟨by omega, hlk⟩
      have HKL1 : Hid (l.length + 1 = k1) := Lib.hid (by omega)
      have HGK : Hid (k + (gk' + 1) = m) := Lib.hid hk
      clear hx16 hsf hx ht1 hc2 hq ht2 hk1 hlk HR hk l1 HL
      go_wp2_with fail
      refine C1.mono ?_
      rintro e w2 ⟨rfl, hr2, hb2⟩
      have hh2 := HH.out.grown hb2 HBR.out
      have c1 := hh2.c1
      have HD : Hid (HI w b5 (b5 + 1) id (.slice pv l.length cv) l w2.drew ∧ RdAt br t1 w2.drew) := Lib.hid ⟨hh2.later (show Kept w2 w2.drew from (Below.refl _ w2).drew), hr2⟩
      clear hr2 hb2 hh2 C1 HH
      go_wp2_with fail
      refine wp_region_held_drew (S := fun _ => True) (by kernel_rfl) trivial (fun hHeld => ?_)
      refine wpAnyH_take (i := 0) (v := ?_) rfl (by kernel_rfl) (by kernel_rfl) (by kernel_rfl) (fun _ _ _ h => h) (Or.inl ⟨by first | kernel_rfl | rfl, ?_⟩) (by assumption) ?_
      case refine_2 => intro w hSw; go_simp; try with_reducible rfl
      refine wpAnyH_take (i := 2) (v := ?_) rfl (by kernel_rfl) (by kernel_rfl) (by kernel_rfl) (fun _ _ _ h => h) (Or.inl ⟨by first | kernel_rfl | rfl, ?_⟩) (by assumption) ?_
      case refine_2 => intro w hSw; go_simp; try with_reducible rfl
      refine wpAnyH_take (i := 3) (v := ?_) rfl (by kernel_rfl) (by kernel_rfl) (by kernel_rfl) (fun _ _ _ h => h) (Or.inl ⟨by first | kernel_rfl | rfl, ?_⟩) (by assumption) ?_
      case refine_2 => intro w hSw; go_simp; try with_reducible rfl
      refine wpAnyH_ready (rs := [1, 4]) (by kernel_rfl) (by simp) (AllReadyH.cons rfl (fun K hK => ?_) (AllReadyH.cons rfl (fun K hK => ?_) AllReadyH.nil))
      · go_simp
        refine hK.out _ _ trivial (fun _ => ?_)
        clear hK K
        refine wpAnyH_ready (rs := [4]) (by kernel_rfl) (by simp) (AllReadyH.cons rfl (fun K hK => ?_) AllReadyH.nil)
        go_simp
        refine (C2.out _ HD.out.2).mono ?_
        rintro e w3 ⟨rfl, hr3, hb3⟩
        have HH3 := Lib.hid (HD.out.1.grown hb3 HBR.out)
        have HR3 := Lib.hid hr3
        have c3 := HH3.out.c1
        clear hr3 hb3
        refine hK.out _ _ trivial (fun _ => ?_)
        clear hK K
        refine wpAnyH_take (i := 5) (v := ?_) rfl (by kernel_rfl) (by kernel_rfl) (by kernel_rfl) (fun _ _ _ h => h) (Or.inl ⟨by first | kernel_rfl | rfl, ?_⟩) (by assumption) ?_
        case refine_2 => intro w hSw; go_simp; try with_reducible rfl
        refine wpAnyH_ready (rs := [6]) (by kernel_rfl) (by simp) (AllReadyH.cons rfl (fun K hK => ?_) AllReadyH.nil)
        go_simp
        have HH4 := Lib.hid (HH3.out.later (box_below w3 (.cells #[.int .i64 (x : Nat), .int .u32 (q : Nat)] 68)))
        have c4 := HH4.out.c1
        refine hK.out _ _ trivial (fun _ => ?_)
        clear hK K
        refine wpAnyH_ready (rs := [7]) (by kernel_rfl) (by simp) (AllReadyH.cons rfl (fun K hK => ?_) AllReadyH.nil)
        rw [if_pos (by rfl)]
        refine wp_append_flat _ _ 31 rfl (b5 + 1) 68 ir (.agg #[.int .i64 0, .int .u32 0]) 2 16 Tryd.underlying31 HIR.out HZ0.out HZ1.out HZ2.out rfl (by decide) _ l.length (slV l) ?q0 HH4.out.own _ 1 (slV [(x, q)]) rfl (flat_slX w3 x q) ?q1 ?q2 ?q3 ?_
        case q0 => rfl
        case q1 => have := HKLT.out; unfold maxLen; omega
        case q2 => have := HKLT.out; omega
        case q3 => exact HH4.out.size
        intro v' w6 hown6 hg6 _
        obtain ⟨hr6, hk6, hh6⟩ := HH3.out.app hown6 hg6
        have x5 : w6.cell? ⟨b5, 1, none⟩ = some (.slice pv l.length cv) := by rw [cell_of_row _ _ _ _ _ _ hr6]; rfl
        have f5 := frozen_of_row w6 b5 1 _ _ hr6
        have HR6 := Lib.hid (rd_appB (v' := v') HR3.out HH3.out ⟨HBR.out.1, HBR.out.2.1⟩ hg6)
        have HH6 := Lib.hid hh6
        obtain ⟨pv', cv', htv', -, -⟩ := own_slice hown6
        rw [HKL1.out] at htv'
        subst htv'
        clear hown6 hg6 hr6 hk6 hh6
        refine hK.out _ _ trivial (fun _ => ?_)
        clear hK K
        refine wpAnyH_take (i := 8) (v := ?_) rfl (by kernel_rfl) (by kernel_rfl) (by kernel_rfl) (fun _ _ _ h => h) (Or.inl ⟨by first | kernel_rfl | rfl, ?_⟩) (by assumption) ?_
        case refine_2 => intro w hSw; go_simp; try with_reducible rfl
        refine wpAnyH_ready (rs := [9]) (by kernel_rfl) (by simp) (AllReadyH.cons rfl (fun K hK => ?_) AllReadyH.nil)
        go_simp
        refine hK.out _ _ trivial (fun _ => ?_)
        clear hK K
        refine wpAnyH_done (by kernel_rfl) ?_ _
        go_wp2
        go_roundg gk'
        · exact ⟨k1, l ++ [(x, q)], _, t2, by have := HK1.out; have := HGK.out; omega, by first | rfl | (have := HK1.out; simp; omega), by have := HK1.out; have := HKLT.out; simp; omega, HH6, HR6, HSF, HL2⟩
        · have := HGK.out; omega
      · go_simp
        refine (C2.out _ HD.out.2).mono ?_
        rintro e w3 ⟨rfl, hr3, hb3⟩
        have HH3 := Lib.hid (HD.out.1.grown hb3 HBR.out)
        have HR3 := Lib.hid hr3
        have c3 := HH3.out.c1
        clear hr3 hb3
        refine hK.out _ _ trivial (fun _ => ?_)
        clear hK K
        refine wpAnyH_take (i := 5) (v := ?_) rfl (by kernel_rfl) (by kernel_rfl) (by kernel_rfl) (fun _ _ _ h => h) (Or.inl ⟨by first | kernel_rfl | rfl, ?_⟩) (by assumption) ?_
        case refine_2 => intro w hSw; go_simp; try with_reducible rfl
        refine wpAnyH_ready (rs := [1, 6]) (by kernel_rfl) (by simp) (AllReadyH.cons rfl (fun K hK => ?_) (AllReadyH.cons rfl (fun K hK => ?_) AllReadyH.nil))
        · go_simp
          refine hK.out _ _ trivial (fun _ => ?_)
          clear hK K
          refine wpAnyH_ready (rs := [6]) (by kernel_rfl) (by simp) (AllReadyH.cons rfl (fun K hK => ?_) AllReadyH.nil)
          go_simp
          have HH4 := Lib.hid (HH3.out.later (box_below w3 (.cells #[.int .i64 (x : Nat), .int .u32 (q : Nat)] 68)))
          have c4 := HH4.out.c1
          refine hK.out _ _ trivial (fun _ => ?_)
          clear hK K
          refine wpAnyH_ready (rs := [7]) (by kernel_rfl) (by simp) (AllReadyH.cons rfl (fun K hK => ?_) AllReadyH.nil)
          rw [if_pos (by rfl)]
          refine wp_append_flat _ _ 31 rfl (b5 + 1) 68 ir (.agg #[.int .i64 0, .int .u32 0]) 2 16 Tryd.underlying31 HIR.out HZ0.out HZ1.out HZ2.out rfl (by decide) _ l.length (slV l) ?q0 HH4.out.own _ 1 (slV [(x, q)]) rfl (flat_slX w3 x q) ?q1 ?q2 ?q3 ?_
          case q0 => rfl
          case q1 => have := HKLT.out; unfold maxLen; omega
          case q2 => have := HKLT.out; omega
          case q3 => exact HH4.out.size
          intro v' w6 hown6 hg6 _
          obtain ⟨hr6, hk6, hh6⟩ := HH3.out.app hown6 hg6
          have x5 : w6.cell? ⟨b5, 1, none⟩ = some (.slice pv l.length cv) := by rw [cell_of_row _ _ _ _ _ _ hr6]; rfl
          have f5 := frozen_of_row w6 b5 1 _ _ hr6
          have HR6 := Lib.hid (rd_appB (v' := v') HR3.out HH3.out ⟨HBR.out.1, HBR.out.2.1⟩ hg6)
          have HH6 := Lib.hid hh6
          obtain ⟨pv', cv', htv', -, -⟩ := own_slice hown6
          rw [HKL1.out] at htv'
          subst htv'
          clear hown6 hg6 hr6 hk6 hh6
          refine hK.out _ _ trivial (fun _ => ?_)
          clear hK K
          refine wpAnyH_take (i := 8) (v := ?_) rfl (by kernel_rfl) (by kernel_rfl) (by kernel_rfl) (fun _ _ _ h => h) (Or.inl ⟨by first | kernel_rfl | rfl, ?_⟩) (by assumption) ?_
          case refine_2 => intro w hSw; go_simp; try with_reducible rfl
          refine wpAnyH_ready (rs := [9]) (by kernel_rfl) (by simp) (AllReadyH.cons rfl (fun K hK => ?_) AllReadyH.nil)
          go_simp
          refine hK.out _ _ trivial (fun _ => ?_)
          clear hK K
          refine wpAnyH_done (by kernel_rfl) ?_ _
          go_wp2
          go_roundg gk'
          · exact ⟨k1, l ++ [(x, q)], _, t2, by have := HK1.out; have := HGK.out; omega, by first | rfl | (have := HK1.out; simp; omega), by have := HK1.out; have := HKLT.out; simp; omega, HH6, HR6, HSF, HL2⟩
          · have := HGK.out; omega
        · go_simp
          have HH4 := Lib.hid (HH3.out.later (box_below w3 (.cells #[.int .i64 (x : Nat), .int .u32 (q : Nat)] 68)))
          have c4 := HH4.out.c1
          refine hK.out _ _ trivial (fun _ => ?_)
          clear hK K
          refine wpAnyH_ready (rs := [1]) (by kernel_rfl) (by simp) (AllReadyH.cons rfl (fun K hK => ?_) AllReadyH.nil)
          go_simp
          refine hK.out _ _ trivial (fun _ => ?_)
          clear hK K
          refine wpAnyH_ready (rs := [7]) (by kernel_rfl) (by simp) (AllReadyH.cons rfl (fun K hK => ?_) AllReadyH.nil)
          rw [if_pos (by rfl)]
          refine wp_append_flat _ _ 31 rfl (b5 + 1) 68 ir (.agg #[.int .i64 0, .int .u32 0]) 2 16 Tryd.underlying31 HIR.out HZ0.out HZ1.out HZ2.out rfl (by decide) _ l.length (slV l) ?q0 HH4.out.own _ 1 (slV [(x, q)]) rfl (flat_slX w3 x q) ?q1 ?q2 ?q3 ?_
          case q0 => rfl
          case q1 => have := HKLT.out; unfold maxLen; omega
          case q2 => have := HKLT.out; omega
          case q3 => exact HH4.out.size
          intro v' w6 hown6 hg6 _
          obtain ⟨hr6, hk6, hh6⟩ := HH3.out.app hown6 hg6
          have x5 : w6.cell? ⟨b5, 1, none⟩ = some (.slice pv l.length cv) := by rw [cell_of_row _ _ _ _ _ _ hr6]; rfl
          have f5 := frozen_of_row w6 b5 1 _ _ hr6
          have HR6 := Lib.hid (rd_appB (v' := v') HR3.out HH3.out ⟨HBR.out.1, HBR.out.2.1⟩ hg6)
          have HH6 := Lib.hid hh6
          obtain ⟨pv', cv', htv', -, -⟩ := own_slice hown6
          rw [HKL1.out] at htv'
          subst htv'
          clear hown6 hg6 hr6 hk6 hh6
          refine hK.out _ _ trivial (fun _ => ?_)
          clear hK K
          refine wpAnyH_take (i := 8) (v := ?_) rfl (by kernel_rfl) (by kernel_rfl) (by kernel_rfl) (fun _ _ _ h => h) (Or.inl ⟨by first | kernel_rfl | rfl, ?_⟩) (by assumption) ?_
          case refine_2 => intro w hSw; go_simp; try with_reducible rfl
          refine wpAnyH_ready (rs := [9]) (by kernel_rfl) (by simp) (AllReadyH.cons rfl (fun K hK => ?_) AllReadyH.nil)
          go_simp
          refine hK.out _ _ trivial (fun _ => ?_)
          clear hK K
          refine wpAnyH_done (by kernel_rfl) ?_ _
          go_wp2
          go_roundg gk'
          · exact ⟨k1, l ++ [(x, q)], _, t2, by have := HK1.out; have := HGK.out; omega, by first | rfl | (have := HK1.out; simp; omega), by have := HK1.out; have := HKLT.out; simp; omega, HH6, HR6, HSF, HL2⟩
          · have := HGK.out; omega
    · have hki : ¬ (k : Int) < m := by omega
      have bk : decide ((k : Int) < (m : Int)) = false := by simpa using hki
      have hFE : (l, s') = FIN := by
        have h := HSF.out
        rw [show gk = 0 by omega] at h
        exact h
      have HHL : Hid (HD0 = ⟨id, l⟩) := Lib.hid (by rw [HHR.out, ← hFE])
      have c0 := HH.out.c0
      have c1 := HH.out.c1
      have g0 : wr.cell? ⟨w.heap.size, 0, none⟩ = some (.int .u32 0) := by rw [cell_of_row _ _ _ _ _ _ HH.out.row0]; rfl
      have g1 : wr.cell? ⟨w.heap.size, 1, none⟩ = some (.slice none 0 0) := by rw [cell_of_row _ _ _ _ _ _ HH.out.row0]; rfl
      have f0 := frozen_of_row wr w.heap.size 0 _ _ HH.out.row0
      have f1 := frozen_of_row wr w.heap.size 1 _ _ HH.out.row0
      clear hFE HSF hlk hk hlt
      go_wp2
      refine bodyPost_ret (results_cell_row Tryd.results42 _ _ w.heap.size 33 #[.int .u32 (id : Nat), .slice pv l.length cv] (0, 0) _ rfl (set2_row HH.out.row0 _ _) Tryd.underlying33 rfl infoHdX) rfl ⟨⟨_, rfl, .slice pv l.length cv, by rw [HHL.out], ?_⟩, below_set2 HH.out.kept (Nat.le_refl _) _ _⟩
      rw [HHL.out]
      exact SlotsAt.own (own_set2 HH.out.own (by have := HH.out.ord; omega) _ _)

end Go.Proofs.YtdmbebafpamgfaaDoor
