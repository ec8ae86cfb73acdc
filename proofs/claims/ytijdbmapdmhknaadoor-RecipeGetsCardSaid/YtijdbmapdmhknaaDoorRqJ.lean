/- The document's Join. -/
import Derived.Test.YtijdbmapdmhknaaDoorRqG
import Derived.Test.YtijdbmapdmhknaaDoorRqW
import Derived.Test.YtijdbmapdmhknaaDoorQTail
namespace Go.Proofs.YtijdbmapdmhknaaDoor
open Go.RowKit

/-! ### Bounds -/
structure JB (n : Nat) (a : Rp) : Prop where
  s0 : 0 ≤ a.size
  s1 : a.size ≤ n * 1048576
  re : -(n * 2147483648 : Int) ≤ a.re ∧ a.re ≤ n * 2147483648
  im : -(n * 2147483648 : Int) ≤ a.im ∧ a.im ≤ n * 2147483648
  len : a.mans.length ≤ n * 1024
  good : ∀ m ∈ a.mans, m < 4294967296
theorem JB.step {n : Nat} {a r : Rp} (h : JB n a) (hr : mayQ r) : JB (n + 1) (stepQ a r) := by
  obtain ⟨-, ⟨h3, h4⟩, ⟨h5, h6⟩, h7, h8⟩ := hr
  obtain ⟨s0, s1, re, im, len, good⟩ := h
  have hb := rot_abs 2147483648 a.size.toNat (r.re, r.im) ⟨⟨h5.1, by have := h5.2; omega⟩, ⟨h6.1, by have := h6.2; omega⟩⟩
  refine ⟨?_, ?_, ?_, ?_, ?_, ?_⟩
  · show 0 ≤ a.size + r.size; omega
  · show a.size + r.size ≤ _; omega
  · show _ ≤ a.re + _ ∧ a.re + _ ≤ _; omega
  · show _ ≤ a.im + _ ∧ a.im + _ ≤ _; omega
  · show (a.mans ++ r.mans).length ≤ _; rw [List.length_append]; omega
  · intro m hm
    rcases List.mem_append.1 hm with x | x
    · exact good m x
    · have := (h8 m x).2; omega
theorem joinL_JB (name : List UInt8) : ∀ (l : List Rp), (∀ r ∈ l, mayQ r) → JB l.length (joinL name l) := by
  have main : ∀ (l : List Rp) (n : Nat) (a : Rp), JB n a → (∀ r ∈ l, mayQ r) → JB (n + l.length) (l.foldl stepQ a) := by
    intro l
    induction l with
    | nil => intro n a h _; exact h
    | cons r l ih =>
      intro n a h hl
      have h2 := ih (n + 1) (stepQ a r) (h.step (hl r (List.mem_cons_self ..))) (fun x hx => hl x (List.mem_cons_of_mem _ hx))
      rw [List.length_cons, show n + (l.length + 1) = n + 1 + l.length by omega]
      exact h2
  intro l hl
  have h := main l 0 ⟨name, 0, 0, 0, []⟩ ⟨by simp, by simp, by simp, by simp, by simp, fun m hm => by cases hm⟩ hl
  rw [Nat.zero_add] at h
  exact h
theorem flatR_app (a b : List Nat) : flatR uL (a ++ b) = flatR uL a ++ flatR uL b := List.flatMap_append

/-! ### Worlds -/
theorem ButBy.cellQ {Bs : Nat → Prop} {w w' : World} (h : ButBy Bs w w') {b j : Nat} {cs : Array Value} {t : TypeId} {fr : Nat × Nat} (hg : w.heap[b]? = some (.cells cs t fr)) (hn : ¬ Bs b) {v : Value} (hc : cs[j]? = some v) : w'.cell? ⟨b, j, none⟩ = some v := by
  have hr := (h.block b (Array.getElem?_eq_some_iff.1 hg).1 hn).trans hg
  rw [cell_of_row _ _ _ _ _ _ hr]; exact hc
theorem kept_app1 {wX w5 : World} {o : Obj} {c : Nat} (hg : (wX.drew.alloc o).grownBy w5 (Value.slice (some ⟨wX.heap.size, 0, none⟩) 0 c).ownBlock) : Kept wX w5 := by
  have hk : Kept wX (wX.drew.alloc o) := (show Kept wX wX.drew from (Below.refl _ wX).drew).then (box_below _ _)
  exact ButBy.kept (Bs := fun m => m = wX.heap.size) ⟨hg.os, hg.tape, hg.output, hg.size, fun m hm hn => hg.block m hm (fun e => hn (show m = wX.heap.size from (Option.some.inj e)))⟩ (fun m hm => by omega) hk hk.size
theorem kept_app2 {wX w5 w6 : World} {n : Nat} {xs : List Value} {v : Value} (hk : Kept wX w5) (ho : w5.ownsRow wX.heap.size 53 1 v n xs) (hg : w5.grownBy w6 v.ownBlock) : Kept wX w6 :=
  ButBy.kept (Bs := fun m => v.ownBlock = some m) ⟨hg.os, hg.tape, hg.output, hg.size, fun m hm hn => hg.block m hm (fun e => hn e.symm)⟩ (fun m hm => (ho.lt m hm).1) hk hk.size
section
variable {w wx w6 : World} {b5 base : Nat} {x0 x1 x2 x3 tv v' : Value} {l : List Nat}
theorem QI.set1 (h : QI w b5 base x0 x1 x2 x3 tv l wx) (y : Value) : QI w b5 base x0 y x2 x3 tv l (wx.setCell ⟨b5, 1, none⟩ y) := h.set 1 y ⟨heap_setCell_same _ _ _ _ _ _ h.row5.row⟩
/-- A new slice of manifests is put in. -/
theorem QI.app2 {l' : List Nat} (h : QI w b5 base x0 x1 x2 x3 tv l wx) (hk : Kept wx w6) (ho : w6.ownsRow wx.heap.size 53 1 v' l'.length (flatR uL l')) :
    QI w b5 base x0 x1 x2 x3 v' l' (w6.setCell ⟨b5, 4, none⟩ v') := by
  have h6 := h.later hk
  have hord := h.ord
  have hs := h.size
  refine ⟨below_touch h6.kept (grown_set _ _ _ _) h6.kept.size (by omega), ?_, ⟨?_⟩, ⟨heap_setCell_same w6 b5 4 _ _ v' h6.row5.row⟩, ?_, hord⟩
  · have := h6.size
    show base ≤ (w6.heap.modify _ _).size
    rw [Array.size_modify]; omega
  · rw [heap_setCell_other _ _ _ _ (by show w.heap.size ≠ b5; omega)]; exact h6.row0.row
  · exact own_base (own_stay ho (fun m hm => heap_setCell_other _ _ _ _ (by show m ≠ b5; have := (ho.lt m hm).1; omega))) hs
/-- The weight beside it is written. -/
theorem QI.set7 (h : QI w b5 base x0 x1 x2 x3 tv l wx) (g : Nat) (hg : w.heap.size ≤ g ∧ g < base ∧ g ≠ b5 ∧ g ≠ w.heap.size) (y0 y1 : Value) : QI w b5 base x0 x1 x2 x3 tv l ((wx.setCell ⟨g, 0, none⟩ y0).setCell ⟨g, 1, none⟩ y1) := by
  have hb : ButBy (fun m => m = g) wx ((wx.setCell ⟨g, 0, none⟩ y0).setCell ⟨g, 1, none⟩ y1) := ((but_refl (fun k => k = g) wx).setCell g 0 y0 rfl).setCell g 1 y1 rfl
  have h0 := (Array.getElem?_eq_some_iff.1 h.row0.row).1
  have h5 := (Array.getElem?_eq_some_iff.1 h.row5.row).1
  exact ⟨ButBy.kept hb (fun m hm => by omega) h.kept h.kept.size, Nat.le_trans h.size hb.size, ⟨(hb.block _ h0 (fun e => hg.2.2.2 e.symm)).trans h.row0.row⟩, ⟨(hb.block _ h5 (fun e => hg.2.2.1 e.symm)).trans h.row5.row⟩, own_stay h.own (fun m hm => hb.block m (h.own.lt m hm).2 (fun e => by have := (h.own.lt m hm).1; omega)), h.ord⟩
end

set_option maxRecDepth 100000 in
set_option maxHeartbeats 32000000 in
theorem rjoin16_any (name : List UInt8) (hnm : name.length ≤ maxLen) (l : List Rp) (v : Value) (w : World) (H : RpsAt l v w) (hl : l.length ≤ 900) (hlm : ∀ r ∈ l, r.mans.length ≤ 100000) :
    Calls Tryd.prog 26 #[.string (str name), v] w fun e w' => (∃ u, e = .returned (.tuple #[u, .bool (joinQ name l).isSome]) ∧ RpIs ((joinQ name l).getD Rp.zero) u w') ∧ Kept w w' := by
  obtain ⟨ir, hir, hx⟩ := Option.map_eq_some_iff.1 info_u32
  simp only [Prod.mk.injEq] at hx
  obtain ⟨hz0, hz1, hz2⟩ := hx
  have HIR := Lib.hid hir
  have HZ0 := Lib.hid hz0
  have HZ1 := Lib.hid hz1
  have HZ2 := Lib.hid hz2
  obtain ⟨A, hA, hin⟩ := H
  obtain ⟨p, c, rfl, -, -⟩ := hin.rows.out encRp
  have HIN := Lib.hid hin
  have HAL := Lib.hid hA
  have hAl : A.length = l.length := by rw [← hA, List.length_map]
  obtain ⟨n, hn⟩ : ∃ n, n = A.length := ⟨_, rfl⟩
  rw [← hn]
  rw [← hn] at hAl
  have HNA := Lib.hid hn
  obtain ⟨G, hG⟩ : ∃ G, G = joinQ name l := ⟨_, rfl⟩
  rw [← hG]
  have HG := Lib.hid hG
  obtain ⟨N, hN⟩ : ∃ N, N = str name := ⟨_, rfl⟩
  rw [← hN]
  have HN := Lib.hid hN
  have HNL : Hid (n = l.length ∧ n ≤ 900) := Lib.hid ⟨hAl, by omega⟩
  have HLM := Lib.hid hlm
  have HNM := Lib.hid hnm
  obtain ⟨W3, hW3⟩ : ∃ W3, W3 = ((w.alloc (.cells #[.string ⟨#[]⟩, .int .i64 0, .int .i64 0, .int .i64 0, .slice none 0 0] 24)).alloc (.cells #[.string N, .int .i64 0, .int .i64 0, .int .i64 0, .slice none 0 0] 24)).alloc (.cells #[.int .i64 0, .int .i64 0] 87) := ⟨_, rfl⟩
  have HW3 := Lib.hid hW3
  have s1 : (w.alloc (.cells #[.string ⟨#[]⟩, .int .i64 0, .int .i64 0, .int .i64 0, .slice none 0 0] 24)).heap.size = w.heap.size + 1 := by simp
  have s2 : ((w.alloc (.cells #[.string ⟨#[]⟩, .int .i64 0, .int .i64 0, .int .i64 0, .slice none 0 0] 24)).alloc (.cells #[.string N, .int .i64 0, .int .i64 0, .int .i64 0, .slice none 0 0] 24)).heap.size = w.heap.size + 1 + 1 := by simp
  have hk1 : Kept w (w.alloc (.cells #[.string ⟨#[]⟩, .int .i64 0, .int .i64 0, .int .i64 0, .slice none 0 0] 24)) := box_below _ _
  have hk2 := box_below (w.alloc (.cells #[.string ⟨#[]⟩, .int .i64 0, .int .i64 0, .int .i64 0, .slice none 0 0] 24)) (.cells #[.string N, .int .i64 0, .int .i64 0, .int .i64 0, .slice none 0 0] 24)
  have hk3 := box_below ((w.alloc (.cells #[.string ⟨#[]⟩, .int .i64 0, .int .i64 0, .int .i64 0, .slice none 0 0] 24)).alloc (.cells #[.string N, .int .i64 0, .int .i64 0, .int .i64 0, .slice none 0 0] 24)) (.cells #[.int .i64 0, .int .i64 0] 87)
  have HI3 : Hid (QI w (w.heap.size + 1) (w.heap.size + 1 + 1 + 1) (.string N) (.int .i64 0) (.int .i64 0) (.int .i64 0) (.slice none 0 0) [] W3) := Lib.hid (by
    rw [hW3]
    refine ⟨(hk1.then hk2).then hk3, by simp, ⟨Kept.row hk3 (Kept.row hk2 (heap_alloc_last w _))⟩, ⟨?_⟩, World.ownsRow_nil _ _ _ _, by omega⟩
    have := heap_alloc_last (w.alloc (.cells #[.string ⟨#[]⟩, .int .i64 0, .int .i64 0, .int .i64 0, .slice none 0 0] 24)) (.cells #[.string N, .int .i64 0, .int .i64 0, .int .i64 0, .slice none 0 0] 24)
    rw [s1] at this
    exact Kept.row hk3 this)
  have H73 : Hid (W3.heap[w.heap.size + 1 + 1]? = some (.cells #[.int .i64 0, .int .i64 0] 87 (0, 0))) := Lib.hid (by
    have := heap_alloc_last ((w.alloc (.cells #[.string ⟨#[]⟩, .int .i64 0, .int .i64 0, .int .i64 0, .slice none 0 0] 24)).alloc (.cells #[.string N, .int .i64 0, .int .i64 0, .int .i64 0, .slice none 0 0] 24)) (.cells #[.int .i64 0, .int .i64 0] 87)
    rw [s2, ← hW3] at this
    exact this)
  clear hir hz0 hz1 hz2 hA hin hAl hn hG hN hl hlm hnm hW3 s1 s2 hk1 hk2 hk3
  go_enter Tryd.func26, Tryd.ntmps26
  go_wp2
  rw [← HW3.out]
  go_loopg [8] n (fun gh y wr => ∃ (k : Nat) (tv : Value), k + gh = n ∧ y = .int .i64 k ∧ Hid (∀ r ∈ l.take k, mayQ r) ∧
    Hid (QI w (w.heap.size + 1) (w.heap.size + 1 + 1 + 1) (.string N) (.int .i64 (joinL name (l.take k)).size) (.int .i64 (joinL name (l.take k)).re) (.int .i64 (joinL name (l.take k)).im) tv (joinL name (l.take k)).mans wr) ∧
    Hid (wr.heap[w.heap.size + 1 + 1]? = some (.cells #[.int .i64 (joinL name (l.take k)).re, .int .i64 (joinL name (l.take k)).im] 87 (0, 0))))
  case atStart => exact ⟨0, _, by omega, rfl, Lib.hid (fun r hr => by rw [List.take_zero] at hr; cases hr), HI3, H73⟩
  case round =>
    clear HI3 H73 HW3
    obtain ⟨k, tv, hk, rfl, HA, HH, H7⟩ := hrel
    obtain ⟨AJ, hAJ⟩ : ∃ A, A = joinL name (l.take k) := ⟨_, rfl⟩
    rw [← hAJ] at HH H7
    have hjb : JB k AJ := by
      have h := joinL_JB name (l.take k) HA.out
      have := HNL.out
      rw [← hAJ, List.length_take, Nat.min_eq_left (by omega)] at h
      exact h
    obtain ⟨pv, cv, htv, -, -⟩ := own_slice HH.out.own
    subst htv
    by_cases hlt : k < n
    · have hki : (k : Int) < n := by omega
      have bk : decide ((k : Int) < (n : Int)) = true := by simpa using hki
      have hkA : k < A.length := by rw [← HNA.out]; exact hlt
      have hkl : k < l.length := by rw [← HNL.out.1]; exact hlt
      obtain ⟨b, off, cs, t, fr, hp, hg, hsz, hex, hcl⟩ := (HNA.out ▸ HIN.out.rows : RowsAt rpL 5 okRp A (.slice p A.length c) w).elem encRp hkA
      subst hp
      have hbl : b < w.heap.size := (Array.getElem?_eq_some_iff.1 hg).1
      have hat : RpAt A[k].1 A[k].2 w := HIN.out.each _ (List.getElem_mem hkA)
      have hAk : A[k].1 = l[k] := by
        have e : ∀ (m : List Rp) (h : A.map Prod.fst = m) (hm : k < m.length), A[k].1 = m[k] := fun m h hm => by subst h; simp
        exact e l HAL.out hkl
      obtain ⟨r, hr⟩ : ∃ r, r = l[k] := ⟨_, rfl⟩
      rw [hAk, ← hr] at hat
      have htk : l.take (k + 1) = l.take k ++ [r] := by rw [hr]; exact List.take_succ_eq_append_getElem hkl
      have hmem : r ∈ l := by rw [hr]; exact List.getElem_mem hkl
      obtain ⟨tr, htr⟩ : ∃ x, x = A[k].2 := ⟨_, rfl⟩
      rw [← htr] at hat
      have hAk2 : A[k] = (r, tr) := Prod.ext (by rw [hAk, hr]) (by rw [htr])
      rw [hAk2] at hex hcl
      obtain ⟨pm, cm, htrv, -, -⟩ := hat.mans.out encU
      have HRM := Lib.hid hat.mans
      have CMr := fun W (kw : Kept w W) => rmay16_any r _ W ⟨tr, rfl, hat.later kw⟩ (by have := HLM.out r hmem; omega)
      have HRML : Hid (r.mans.length ≤ 100000) := Lib.hid (HLM.out r hmem)
      unfold rpC at CMr
      rw [htrv] at CMr HRM hex hcl
      obtain ⟨nr, hnr⟩ : ∃ x, x = r.mans.length := ⟨_, rfl⟩
      obtain ⟨s, hs⟩ : ∃ x, x = str r.name := ⟨_, rfl⟩
      obtain ⟨z, hz⟩ : ∃ x, x = r.size := ⟨_, rfl⟩
      obtain ⟨x, hx⟩ : ∃ x, x = r.re := ⟨_, rfl⟩
      obtain ⟨y, hy⟩ : ∃ x, x = r.im := ⟨_, rfl⟩
      have hex' : cs.extract (off + k * 5) (off + k * 5 + 5) = #[.string s, .int .i64 z, .int .i64 x, .int .i64 y, .slice pm nr cm] := by rw [hex, hs, hz, hx, hy, hnr]; rfl
      rw [← hnr, ← hs, ← hz, ← hx, ← hy] at CMr
      rw [← hnr] at HRM
      have cel : ∀ (j : Nat) (u : Value), (rpL (r, .slice pm r.mans.length cm))[j]? = some u → cs[off + k * 5 + j]? = some u := fun j u h => by
        rw [← cell_of_row w b (off + k * 5 + j) cs t fr hg]; exact hcl j u h
      have ec1 : cs[off + k * 5 + 1]? = some (.int .i64 z) := by rw [hz]; exact cel 1 _ rfl
      have ec2 : cs[off + k * 5 + 2]? = some (.int .i64 x) := by rw [hx]; exact cel 2 _ rfl
      have ec3 : cs[off + k * 5 + 3]? = some (.int .i64 y) := by rw [hy]; exact cel 3 _ rfl
      have HE4 : Hid (cs[off + k * 5 + 4]? = some (.slice pm nr cm)) := Lib.hid (by rw [hnr]; exact cel 4 _ rfl)
      have HE1 := Lib.hid ec1
      have HE2 := Lib.hid ec2
      have HE3 := Lib.hid ec3
      have HG0 := Lib.hid hg
      have HES : Hid (off + k * 5 + 5 ≤ cs.size ∧ cs.extract (off + k * 5) (off + k * 5 + 5) = #[.string s, .int .i64 z, .int .i64 x, .int .i64 y, .slice pm nr cm]) := Lib.hid ⟨hsz, hex'⟩
      have IX := fun W => idx_rec (P := Tryd.prog) Tryd.underlying49 (fun w => Tryd.sizeOf24 w) b off n c k hlt W
      have HBL := Lib.hid hbl
      have HBN : Hid (¬ b = w.heap.size + 1) := Lib.hid (by omega)
      obtain ⟨k1, hk1⟩ : ∃ k1, k1 = k + 1 := ⟨_, rfl⟩
      have v1 : IntKind.i64.wrap ((k : Int) + 1) = (k1 : Int) := by rw [show (k : Int) + 1 = (k1 : Int) by omega]; exact IntWalk.i64_in _ (by have := HNL.out; omega)
      have HKK : Hid (k1 = k + 1 ∧ k + gk = n ∧ k < n) := Lib.hid ⟨hk1, hk, hlt⟩
      have g2 : wr.heap[b]? = some (.cells cs t fr) := HH.out.kept.row hg
      by_cases hm : mayQ r
      · have HA1 : Hid (∀ r ∈ l.take k1, mayQ r) := Lib.hid (fun e he => by
          rw [hk1, htk] at he
          rcases List.mem_append.1 he with x | x
          · exact HA.out e x
          · rw [List.mem_singleton.1 x]; exact hm)
        have hst : joinL name (l.take k1) = stepQ AJ r := by rw [hk1, htk, joinL_snoc, hAJ]
        obtain ⟨sz, hsz'⟩ : ∃ q, q = AJ.size := ⟨_, rfl⟩
        obtain ⟨re, hre⟩ : ∃ q, q = AJ.re := ⟨_, rfl⟩
        obtain ⟨im, him⟩ : ∃ q, q = AJ.im := ⟨_, rfl⟩
        obtain ⟨am, ham⟩ : ∃ q, q = AJ.mans := ⟨_, rfl⟩
        have hmr := hm
        obtain ⟨-, ⟨m3, m4⟩, ⟨⟨m5, m5'⟩, ⟨m6, m6'⟩⟩, m7, m8⟩ := hmr
        have hj := hjb
        obtain ⟨j0, j1, ⟨j2, j2'⟩, ⟨j3, j3'⟩, j4, j5⟩ := hj
        have hk9 := HNL.out.2
        have CJ := fun W => rjoinW_any (re, im) (x, y) (by rw [hre, him]; simp only; omega) (by rw [hx, hy]; simp only; omega) sz W
        obtain ⟨re2, hre2⟩ : ∃ q, q = (joinZQ (re, im) sz (x, y)).1 := ⟨_, rfl⟩
        obtain ⟨im2, him2⟩ : ∃ q, q = (joinZQ (re, im) sz (x, y)).2 := ⟨_, rfl⟩
        rw [← hre2, ← him2] at CJ
        unfold wWQ at CJ
        obtain ⟨sz2, hsz2⟩ : ∃ q, q = sz + z := ⟨_, rfl⟩
        have vs : IntKind.i64.wrap (sz + z) = sz2 := by rw [hsz2]; exact IntWalk.i64_in _ (by rw [hsz', hz]; omega)
        have hjz : joinZQ (re, im) sz (x, y) = ((stepQ AJ r).re, (stepQ AJ r).im) := by
          have e : sz = ((AJ.size.toNat : Nat) : Int) := by rw [hsz']; omega
          unfold joinZQ stepQ
          rw [e, turnsQ_nat, hre, him, hx, hy]
        have HFI : Hid (∀ tv' wx, QI w (w.heap.size + 1) (w.heap.size + 1 + 1 + 1) (.string N) (.int .i64 sz2) (.int .i64 re2) (.int .i64 im2) tv' (am ++ r.mans) wx → Hid (QI w (w.heap.size + 1) (w.heap.size + 1 + 1 + 1) (.string N) (.int .i64 (joinL name (l.take k1)).size) (.int .i64 (joinL name (l.take k1)).re) (.int .i64 (joinL name (l.take k1)).im) tv' (joinL name (l.take k1)).mans wx)) := Lib.hid (fun tv' wx h => Lib.hid (by
          rw [hst]
          have e1 : (stepQ AJ r).size = sz2 := by rw [hsz2, hsz', hz]; rfl
          have e2 : (stepQ AJ r).re = re2 := by rw [hre2, hjz]
          have e3 : (stepQ AJ r).im = im2 := by rw [him2, hjz]
          have e4 : (stepQ AJ r).mans = am ++ r.mans := by rw [ham]; rfl
          rw [e1, e2, e3, e4]
          exact h))
        have HFJ : Hid (∀ wx : World, wx.heap[w.heap.size + 1 + 1]? = some (.cells #[.int .i64 re2, .int .i64 im2] 87 (0, 0)) → Hid (wx.heap[w.heap.size + 1 + 1]? = some (.cells #[.int .i64 (joinL name (l.take k1)).re, .int .i64 (joinL name (l.take k1)).im] 87 (0, 0)))) := Lib.hid (fun wx h => Lib.hid (by
          rw [hst]
          have e2 : (stepQ AJ r).re = re2 := by rw [hre2, hjz]
          have e3 : (stepQ AJ r).im = im2 := by rw [him2, hjz]
          rw [e2, e3]
          exact h))
        have HAG : Hid (∀ m ∈ am, wfU m) := Lib.hid (by rw [ham]; exact j5)
        have HLEN : Hid (am.length ≤ 1000000 ∧ r.mans.length ≤ 100000) := Lib.hid ⟨by rw [ham]; omega, HRML.out⟩
        rw [← hsz', ← hre, ← him, ← ham] at HH
        rw [← hre, ← him] at H7
        obtain ⟨al, hal⟩ : ∃ q, q = am.length := ⟨_, rfl⟩
        rw [← hal] at HH
        have HALE := Lib.hid hal
        have HLE2 : Hid (0 + am.length + r.mans.length = al + nr) := Lib.hid (by rw [hal, hnr]; omega)
        have HNR := Lib.hid hnr
        have CM := CMr wr HH.out.kept
        rw [decide_eq_true hm] at CM
        clear hkA hkl hg hsz hex hcl hbl hat hAk hr htk hmem htr hAk2 htrv CMr hnr hs hz hx hy hex' cel ec1 ec2 ec3 hk1 hk hlt hm hst hsz' hre him ham m3 m4 m5 m5' m6 m6' m7 m8 hjb j0 j1 j2 j2' j3 j3' j4 j5 hk9 hre2 him2 hsz2 hjz hal hAJ HA
        go_wp2_with (with_reducible refine wpList_load_sub rfl _ _ rfl b (off + k * 5) 5 rfl t cs fr _ g2 Tryd.underlying24 rfl infoRp HES.out.1 _ HES.out.2 ?_)
        refine CM.mono ?_
        rintro e w2 ⟨rfl, hb2⟩
        have HH2 := Lib.hid (HH.out.later hb2)
        have H72 : Hid (w2.heap[w.heap.size + 1 + 1]? = some (.cells #[.int .i64 re, .int .i64 im] 87 (0, 0))) := Lib.hid (hb2.row H7.out)
        have g3 : w2.heap[b]? = some (.cells cs t fr) := hb2.row g2
        have e2 : Hid (w2.cell? ⟨b, off + k * 5 + 2, none⟩ = some (.int .i64 x)) := Lib.hid (by rw [cell_of_row _ _ _ _ _ _ g3]; exact HE2.out)
        have e3 : Hid (w2.cell? ⟨b, off + k * 5 + 3, none⟩ = some (.int .i64 y)) := Lib.hid (by rw [cell_of_row _ _ _ _ _ _ g3]; exact HE3.out)
        clear hb2 CM g2 HH H7 g3
        go_wp2_with fail
        refine wp_region_kept_tail 15 (by kernel_rfl) (by decide) (by kernel_rfl) (by kernel_rfl) ?_
        simp only [List.take_succ_cons, List.take_zero, List.drop_succ_cons, List.drop_zero]
        refine wpQuiet_load_row (by kernel_rfl) _ _ rfl (w.heap.size + 1 + 1) rfl 87 #[.int .i64 re, .int .i64 im] (0, 0) _ (fun _ h => h.row H72.out) Tryd.underlying87 rfl infoWQ (fun K hK => ?_)
        go_simp
        refine hK _ ?_; clear hK K
        refine wpQuiet_pure (v := ?_) (by kernel_rfl) ?_ (fun K hK => ?_)
        case refine_2 => intro W _; go_simp; try with_reducible rfl
        go_simp
        refine hK _ ?_; clear hK K
        refine wpQuiet_load_int (by kernel_rfl) _ _ rfl ⟨w.heap.size + 1, 1, none⟩ rfl _ Tryd.underlying3 _ (fun _ h => h.cell HH2.out.row5.c1) (fun K hK => ?_)
        go_simp
        refine hK _ ?_; clear hK K
        refine wpQuiet_pure (v := ?_) (by kernel_rfl) ?_ (fun K hK => ?_)
        case refine_2 => intro W _; go_simp; try with_reducible rfl
        go_simp
        refine hK _ ?_; clear hK K
        refine wpQuiet_pure (v := ?_) (by kernel_rfl) ?_ (fun K hK => ?_)
        case refine_2 => intro W _; go_simp; try with_reducible rfl
        go_simp
        refine hK _ ?_; clear hK K
        refine wpQuiet_pure (v := ?_) (by kernel_rfl) ?_ (fun K hK => ?_)
        case refine_2 => intro W hW; have e0 := IX W; go_simp; try with_reducible rfl
        go_simp
        refine hK _ ?_; clear hK K
        refine wpQuiet_pure (v := ?_) (by kernel_rfl) ?_ (fun K hK => ?_)
        case refine_2 => intro W _; go_simp; try with_reducible rfl
        go_simp
        refine hK _ ?_; clear hK K
        refine wpQuiet_load_int (by kernel_rfl) _ _ rfl ⟨b, off + k * 5 + 2, none⟩ rfl _ Tryd.underlying3 _ (fun _ h => h.cell e2.out) (fun K hK => ?_)
        go_simp
        refine hK _ ?_; clear hK K
        refine wpQuiet_pure (v := ?_) (by kernel_rfl) ?_ (fun K hK => ?_)
        case refine_2 => intro W _; go_simp; try with_reducible rfl
        go_simp
        refine hK _ ?_; clear hK K
        refine wpQuiet_pure (v := ?_) (by kernel_rfl) ?_ (fun K hK => ?_)
        case refine_2 => intro W _; go_simp; try with_reducible rfl
        go_simp
        refine hK _ ?_; clear hK K
        refine wpQuiet_pure (v := ?_) (by kernel_rfl) ?_ (fun K hK => ?_)
        case refine_2 => intro W hW; have e0 := IX W; go_simp; try with_reducible rfl
        go_simp
        refine hK _ ?_; clear hK K
        refine wpQuiet_pure (v := ?_) (by kernel_rfl) ?_ (fun K hK => ?_)
        case refine_2 => intro W _; go_simp; try with_reducible rfl
        go_simp
        refine hK _ ?_; clear hK K
        refine wpQuiet_load_int (by kernel_rfl) _ _ rfl ⟨b, off + k * 5 + 3, none⟩ rfl _ Tryd.underlying3 _ (fun _ h => h.cell e3.out) (fun K hK => ?_)
        go_simp
        refine hK _ ?_; clear hK K
        refine wpQuiet_pure (v := ?_) (by kernel_rfl) ?_ (fun K hK => ?_)
        case refine_2 => intro W _; go_simp; try with_reducible rfl
        go_simp
        refine hK _ ?_; clear hK K
        refine wpQuiet_call (by kernel_rfl) _ _ _ (fun W => by go_simp) (fun W h => Calls.kept_of h (CJ W)) (fun K hK => ?_)
        go_simp
        refine hK _ ?_; clear hK K
        refine wpQuiet_nil ?_
        intro w3 hk3
        have HH3 := Lib.hid (HH2.out.later hk3)
        have h73 := hk3.row H72.out
        have x0 : w3.cell? ⟨w.heap.size + 1 + 1, 0, none⟩ = some (.int .i64 re) := by rw [cell_of_row _ _ _ _ _ _ h73]; rfl
        have x1 : w3.cell? ⟨w.heap.size + 1 + 1, 1, none⟩ = some (.int .i64 im) := by rw [cell_of_row _ _ _ _ _ _ h73]; rfl
        have y0 := frozen_of_row w3 (w.heap.size + 1 + 1) 0 _ _ h73
        have y1 := frozen_of_row w3 (w.heap.size + 1 + 1) 1 _ _ h73
        have h74 := heap_setCell_same _ (w.heap.size + 1 + 1) 1 _ _ (.int .i64 im2) (heap_setCell_same w3 (w.heap.size + 1 + 1) 0 _ _ (.int .i64 re2) h73)
        have h74' : ((w3.setCell ⟨w.heap.size + 1 + 1, 0, none⟩ (.int .i64 re2)).setCell ⟨w.heap.size + 1 + 1, 1, none⟩ (.int .i64 im2)).heap[w.heap.size + 1 + 1]? = some (.cells #[.int .i64 re2, .int .i64 im2] 87 (0, 0)) := by simpa using h74
        have hh4 := HH3.out.set7 (w.heap.size + 1 + 1) ⟨by omega, by omega, by omega, by omega⟩ (.int .i64 re2) (.int .i64 im2)
        obtain ⟨w4, hw4⟩ : ∃ W, W = (w3.setCell ⟨w.heap.size + 1 + 1, 0, none⟩ (.int .i64 re2)).setCell ⟨w.heap.size + 1 + 1, 1, none⟩ (.int .i64 im2) := ⟨_, rfl⟩
        have HW4 := Lib.hid hw4
        rw [← hw4] at h74' hh4
        have HH4 := Lib.hid hh4
        have H74 := Lib.hid h74'
        have e1' : Hid (w4.cell? ⟨b, off + k * 5 + 1, none⟩ = some (.int .i64 z)) := Lib.hid (by rw [cell_of_row _ _ _ _ _ _ (hh4.kept.row HG0.out)]; exact HE1.out)
        clear hk3 h73 h74 h74' hh4 hw4 HH2 HH3 H72 e2 e3
        go_wp2_with fail
        rw [← HW4.out]
        refine wp_region_kept_tail 9 (by kernel_rfl) (by decide) (by kernel_rfl) (by kernel_rfl) ?_
        simp only [List.take_succ_cons, List.take_zero, List.drop_succ_cons, List.drop_zero]
        refine wpQuiet_pure (v := ?_) (by kernel_rfl) ?_ (fun K hK => ?_)
        case refine_2 => intro W _; go_simp; try with_reducible rfl
        go_simp
        refine hK _ ?_; clear hK K
        refine wpQuiet_load_int (by kernel_rfl) _ _ rfl ⟨w.heap.size + 1, 1, none⟩ rfl _ Tryd.underlying3 _ (fun _ h => h.cell HH4.out.row5.c1) (fun K hK => ?_)
        go_simp
        refine hK _ ?_; clear hK K
        refine wpQuiet_pure (v := ?_) (by kernel_rfl) ?_ (fun K hK => ?_)
        case refine_2 => intro W _; go_simp; try with_reducible rfl
        go_simp
        refine hK _ ?_; clear hK K
        refine wpQuiet_pure (v := ?_) (by kernel_rfl) ?_ (fun K hK => ?_)
        case refine_2 => intro W _; go_simp; try with_reducible rfl
        go_simp
        refine hK _ ?_; clear hK K
        refine wpQuiet_pure (v := ?_) (by kernel_rfl) ?_ (fun K hK => ?_)
        case refine_2 => intro W hW; have e0 := IX W; go_simp; try with_reducible rfl
        go_simp
        refine hK _ ?_; clear hK K
        refine wpQuiet_pure (v := ?_) (by kernel_rfl) ?_ (fun K hK => ?_)
        case refine_2 => intro W _; go_simp; try with_reducible rfl
        go_simp
        refine hK _ ?_; clear hK K
        refine wpQuiet_load_int (by kernel_rfl) _ _ rfl ⟨b, off + k * 5 + 1, none⟩ rfl _ Tryd.underlying3 _ (fun _ h => h.cell e1'.out) (fun K hK => ?_)
        go_simp
        refine hK _ ?_; clear hK K
        refine wpQuiet_pure (v := ?_) (by kernel_rfl) ?_ (fun K hK => ?_)
        case refine_2 => intro W hW; have e0 := vs; go_simp; try with_reducible rfl
        go_simp
        refine hK _ ?_; clear hK K
        refine wpQuiet_pure (v := ?_) (by kernel_rfl) ?_ (fun K hK => ?_)
        case refine_2 => intro W _; go_simp; try with_reducible rfl
        go_simp
        refine hK _ ?_; clear hK K
        refine wpQuiet_nil ?_
        intro w5 hk5
        have HH5 := Lib.hid (HH4.out.later hk5)
        have h75 := hk5.row H74.out
        have q1 := HH5.out.row5.c1
        have q1' := HH5.out.row5.fz 1
        have HH6 := Lib.hid (HH5.out.set1 (.int .i64 sz2))
        have h76 : (w5.setCell ⟨w.heap.size + 1, 1, none⟩ (.int .i64 sz2)).heap[w.heap.size + 1 + 1]? = _ := (heap_setCell_other _ _ _ _ (by show w.heap.size + 1 + 1 ≠ w.heap.size + 1; omega)).trans h75
        have x0 : (w5.setCell ⟨w.heap.size + 1, 1, none⟩ (.int .i64 sz2)).cell? ⟨w.heap.size + 1 + 1, 0, none⟩ = some (.int .i64 re2) := by rw [cell_of_row _ _ _ _ _ _ h76]; rfl
        have q2 := HH6.out.row5.c2
        have q2' := HH6.out.row5.fz 2
        have HH7 := Lib.hid (HH6.out.set2 (.int .i64 re2))
        have h77 : ((w5.setCell ⟨w.heap.size + 1, 1, none⟩ (.int .i64 sz2)).setCell ⟨w.heap.size + 1, 2, none⟩ (.int .i64 re2)).heap[w.heap.size + 1 + 1]? = _ := (heap_setCell_other _ _ _ _ (by show w.heap.size + 1 + 1 ≠ w.heap.size + 1; omega)).trans h76
        have x1 : ((w5.setCell ⟨w.heap.size + 1, 1, none⟩ (.int .i64 sz2)).setCell ⟨w.heap.size + 1, 2, none⟩ (.int .i64 re2)).cell? ⟨w.heap.size + 1 + 1, 1, none⟩ = some (.int .i64 im2) := by rw [cell_of_row _ _ _ _ _ _ h77]; rfl
        have q3 := HH7.out.row5.c3
        have q3' := HH7.out.row5.fz 3
        have HHX := Lib.hid (HH7.out.set3 (.int .i64 im2))
        have h78 : (((w5.setCell ⟨w.heap.size + 1, 1, none⟩ (.int .i64 sz2)).setCell ⟨w.heap.size + 1, 2, none⟩ (.int .i64 re2)).setCell ⟨w.heap.size + 1, 3, none⟩ (.int .i64 im2)).heap[w.heap.size + 1 + 1]? = _ := (heap_setCell_other _ _ _ _ (by show w.heap.size + 1 + 1 ≠ w.heap.size + 1; omega)).trans h77
        obtain ⟨wX, hwX⟩ : ∃ W, W = ((w5.setCell ⟨w.heap.size + 1, 1, none⟩ (.int .i64 sz2)).setCell ⟨w.heap.size + 1, 2, none⟩ (.int .i64 re2)).setCell ⟨w.heap.size + 1, 3, none⟩ (.int .i64 im2) := ⟨_, rfl⟩
        have HWX := Lib.hid hwX
        rw [← hwX] at h78 HHX
        have H7X := Lib.hid h78
        have HG2 : Hid (wX.heap[b]? = some (.cells cs t fr)) := Lib.hid (HHX.out.kept.row HG0.out)
        clear hk5 h75 h76 h77 h78 hwX HH4 HH5 HH6 HH7 H74 e1'
        go_wp2_with fail
        rw [← HWX.out]
        clear x0 x1 q1 q1' q2 q2' q3 q3' y0 y1 vs CJ
        have cA := HHX.out.row5.c4
        have cB := ((HHX.out.later (box_below wX (.cells #[] 53))).row5).c4
        have SX : ButBy (fun m => m = w.heap.size + 1) wX wX.drew := ButBy.below (show Kept wX wX.drew from (Below.refl _ wX).drew)
        have SY : ButBy (fun m => m = w.heap.size + 1) wX (wX.drew.alloc (.cells #[] 53)) := ButBy.below ((show Kept wX wX.drew from (Below.refl _ wX).drew).then (box_below _ _))
        refine wp_region_held_drew (S := fun W => ButBy (fun m => m = w.heap.size + 1) wX W) (by kernel_rfl) (ButBy.below (show Kept wX wX.drew from (Below.refl _ wX).drew)) (fun hHeld => ?_)
        refine wpAnyH_take (i := 1) (v := ?_) rfl (by kernel_rfl) (by kernel_rfl) (by kernel_rfl) (fun _ _ _ h => h) (Or.inl ⟨by first | kernel_rfl | rfl, ?_⟩) (by assumption) ?_
        case refine_2 => intro w hSw; go_simp; try with_reducible rfl
        refine wpAnyH_take (i := 4) (v := ?_) rfl (by kernel_rfl) (by kernel_rfl) (by kernel_rfl) (fun _ _ _ h => h) (Or.inl ⟨by first | kernel_rfl | rfl, ?_⟩) (by assumption) ?_
        case refine_2 => intro w hSw; go_simp; try with_reducible rfl
        refine wpAnyH_take (i := 5) (v := ?_) rfl (by kernel_rfl) (by kernel_rfl) (by kernel_rfl) (fun _ _ _ h => h) (Or.inl ⟨by first | kernel_rfl | rfl, ?_⟩) (by assumption) ?_
        case refine_2 => intro w hSw; go_simp; try with_reducible rfl
        refine wpAnyH_take (i := 6) (v := ?_) rfl (by kernel_rfl) (by kernel_rfl) (by kernel_rfl) (fun _ _ _ h => h) (Or.inl ⟨by first | kernel_rfl | rfl, ?_⟩) (by assumption) ?_
        case refine_2 => intro w hSw; have e0 := IX w; go_simp; try with_reducible rfl
        refine wpAnyH_take (i := 7) (v := ?_) rfl (by kernel_rfl) (by kernel_rfl) (by kernel_rfl) (fun _ _ _ h => h) (Or.inl ⟨by first | kernel_rfl | rfl, ?_⟩) (by assumption) ?_
        case refine_2 => intro w hSw; go_simp; try with_reducible rfl
        refine wpAnyH_take (i := 8) (v := ?_) rfl (by kernel_rfl) (by kernel_rfl) (by kernel_rfl) (fun _ _ _ h => h) (Or.inl ⟨by first | kernel_rfl | rfl, ?_⟩) (by assumption) ?_
        case refine_2 => intro w hSw;have e0 := (ButBy.cellQ (w' := w) hSw HG2.out HBN.out HE4.out); go_simp; try with_reducible rfl
        refine wpAnyH_ready (rs := [0, 2]) (by kernel_rfl) (by simp) (AllReadyH.cons rfl (fun K hK => ?_) (AllReadyH.cons rfl (fun K hK => ?_) AllReadyH.nil))
        · go_simp
          refine hK.out _ _ (SY) (fun _ => ?_)
          clear hK K
          refine wpAnyH_ready (rs := [2]) (by kernel_rfl) (by simp) (AllReadyH.cons rfl (fun K hK => ?_) AllReadyH.nil)
          go_simp
          refine hK.out _ _ (SY) (fun _ => ?_)
          clear hK K
          refine wpAnyH_ready (rs := [3]) (by kernel_rfl) (by simp) (AllReadyH.cons rfl (fun K hK => ?_) AllReadyH.nil)
          rw [if_pos (by rfl)]
          refine wp_append_flat _ _ 22 rfl wX.heap.size 53 ir (.int .u32 0) 1 4 Tryd.underlying22 HIR.out HZ0.out HZ1.out HZ2.out rfl (by decide) _ 0 [] ?q0 (World.ownsRow_made _ _ _ (Nat.le_refl _) (Nat.zero_le _) rfl) _ am.length (flatR uL am) rfl (FlatAt.own (HHX.out.own.drew.alloc _) (flatR_ones encU _ HAG.out)) ?q1 ?q2 ?q3 ?_
          case q0 => rfl
          case q1 => have := HLEN.out; unfold maxLen; omega
          case q2 => have := HLEN.out; omega
          case q3 => simp
          intro v1 w5 hown5 hg5 _
          have HO5 := Lib.hid hown5
          have HK5 : Hid (Kept wX w5) := Lib.hid (kept_app1 hg5)
          obtain ⟨p1, c1', htv1, -, -⟩ := own_slice hown5
          subst htv1
          clear hown5 hg5
          refine hK.out _ _ ((ButBy.below HK5.out : ButBy (fun m => m = w.heap.size + 1) wX w5)) (fun _ => ?_)
          clear hK K
          refine wpAnyH_ready (rs := [9]) (by kernel_rfl) (by simp) (AllReadyH.cons rfl (fun K hK => ?_) AllReadyH.nil)
          rw [if_pos (by rfl)]
          refine wp_append_flat _ _ 22 rfl wX.heap.size 53 ir (.int .u32 0) 1 4 Tryd.underlying22 HIR.out HZ0.out HZ1.out HZ2.out rfl (by decide) _ (0 + am.length) ([] ++ flatR uL am) ?q0 HO5.out _ r.mans.length (flatR uL r.mans) rfl ((HRM.out.later (HHX.out.kept.then HK5.out)).at_) ?q1 ?q2 ?q3 ?_
          case q0 => rfl
          case q1 => have := HLEN.out; unfold maxLen; omega
          case q2 => have := HLEN.out; omega
          case q3 => exact HK5.out.size
          intro v2 w6 hown6 hg6 _
          have HK6 : Hid (Kept wX w6) := Lib.hid (kept_app2 HK5.out HO5.out hg6)
          have hh6 := HHX.out.app2 (l' := am ++ r.mans) HK6.out (by rw [flatR_app]; simpa [Nat.add_comm] using hown6)
          have x5 := (HHX.out.row5.later HK6.out).c4
          have f5 := (HHX.out.row5.later HK6.out).fz 4
          have HH6 := Lib.hid hh6
          have H76 : Hid ((w6.setCell ⟨w.heap.size + 1, 4, none⟩ v2).heap[w.heap.size + 1 + 1]? = some (.cells #[.int .i64 re2, .int .i64 im2] 87 (0, 0))) := Lib.hid ((heap_setCell_other _ _ _ _ (by show w.heap.size + 1 + 1 ≠ w.heap.size + 1; omega)).trans (HK6.out.row H7X.out))
          have S6 : ButBy (fun m => m = w.heap.size + 1) wX (w6.setCell ⟨w.heap.size + 1, 4, none⟩ v2) := (ButBy.below HK6.out).setCell _ _ _ rfl
          obtain ⟨pv', cv', htv', -, -⟩ := own_slice hown6
          rw [HLE2.out] at htv'
          subst htv'
          clear hown6 hg6 hh6
          refine hK.out _ _ (ButBy.below HK6.out) (fun _ => ?_)
          clear hK K
          refine wpAnyH_take (i := 10) (v := ?_) rfl (by kernel_rfl) (by kernel_rfl) (by kernel_rfl) (fun _ _ _ h => h) (Or.inl ⟨by first | kernel_rfl | rfl, ?_⟩) (by assumption) ?_
          case refine_2 => intro w hSw; go_simp; try with_reducible rfl
          refine wpAnyH_ready (rs := [11]) (by kernel_rfl) (by simp) (AllReadyH.cons rfl (fun K hK => ?_) AllReadyH.nil)
          go_simp
          refine hK.out _ _ (S6) (fun _ => ?_)
          clear hK K
          refine wpAnyH_done (by kernel_rfl) ?_ _
          go_wp2
          go_roundg (n - k1)
          · exact ⟨k1, _, by have := HKK.out; omega, by first | rfl | (have := HKK.out; congr 1; omega), HA1, HFI.out _ _ HH6.out, HFJ.out _ H76.out⟩
          · have := HKK.out; omega
        · go_simp
          refine hK.out _ _ (SX) (fun _ => ?_)
          clear hK K
          refine wpAnyH_ready (rs := [0]) (by kernel_rfl) (by simp) (AllReadyH.cons rfl (fun K hK => ?_) AllReadyH.nil)
          go_simp
          refine hK.out _ _ (SY) (fun _ => ?_)
          clear hK K
          refine wpAnyH_ready (rs := [3]) (by kernel_rfl) (by simp) (AllReadyH.cons rfl (fun K hK => ?_) AllReadyH.nil)
          rw [if_pos (by rfl)]
          refine wp_append_flat _ _ 22 rfl wX.heap.size 53 ir (.int .u32 0) 1 4 Tryd.underlying22 HIR.out HZ0.out HZ1.out HZ2.out rfl (by decide) _ 0 [] ?q0 (World.ownsRow_made _ _ _ (Nat.le_refl _) (Nat.zero_le _) rfl) _ am.length (flatR uL am) rfl (FlatAt.own (HHX.out.own.drew.alloc _) (flatR_ones encU _ HAG.out)) ?q1 ?q2 ?q3 ?_
          case q0 => rfl
          case q1 => have := HLEN.out; unfold maxLen; omega
          case q2 => have := HLEN.out; omega
          case q3 => simp
          intro v1 w5 hown5 hg5 _
          have HO5 := Lib.hid hown5
          have HK5 : Hid (Kept wX w5) := Lib.hid (kept_app1 hg5)
          obtain ⟨p1, c1', htv1, -, -⟩ := own_slice hown5
          subst htv1
          clear hown5 hg5
          refine hK.out _ _ ((ButBy.below HK5.out : ButBy (fun m => m = w.heap.size + 1) wX w5)) (fun _ => ?_)
          clear hK K
          refine wpAnyH_ready (rs := [9]) (by kernel_rfl) (by simp) (AllReadyH.cons rfl (fun K hK => ?_) AllReadyH.nil)
          rw [if_pos (by rfl)]
          refine wp_append_flat _ _ 22 rfl wX.heap.size 53 ir (.int .u32 0) 1 4 Tryd.underlying22 HIR.out HZ0.out HZ1.out HZ2.out rfl (by decide) _ (0 + am.length) ([] ++ flatR uL am) ?q0 HO5.out _ r.mans.length (flatR uL r.mans) rfl ((HRM.out.later (HHX.out.kept.then HK5.out)).at_) ?q1 ?q2 ?q3 ?_
          case q0 => rfl
          case q1 => have := HLEN.out; unfold maxLen; omega
          case q2 => have := HLEN.out; omega
          case q3 => exact HK5.out.size
          intro v2 w6 hown6 hg6 _
          have HK6 : Hid (Kept wX w6) := Lib.hid (kept_app2 HK5.out HO5.out hg6)
          have hh6 := HHX.out.app2 (l' := am ++ r.mans) HK6.out (by rw [flatR_app]; simpa [Nat.add_comm] using hown6)
          have x5 := (HHX.out.row5.later HK6.out).c4
          have f5 := (HHX.out.row5.later HK6.out).fz 4
          have HH6 := Lib.hid hh6
          have H76 : Hid ((w6.setCell ⟨w.heap.size + 1, 4, none⟩ v2).heap[w.heap.size + 1 + 1]? = some (.cells #[.int .i64 re2, .int .i64 im2] 87 (0, 0))) := Lib.hid ((heap_setCell_other _ _ _ _ (by show w.heap.size + 1 + 1 ≠ w.heap.size + 1; omega)).trans (HK6.out.row H7X.out))
          have S6 : ButBy (fun m => m = w.heap.size + 1) wX (w6.setCell ⟨w.heap.size + 1, 4, none⟩ v2) := (ButBy.below HK6.out).setCell _ _ _ rfl
          obtain ⟨pv', cv', htv', -, -⟩ := own_slice hown6
          rw [HLE2.out] at htv'
          subst htv'
          clear hown6 hg6 hh6
          refine hK.out _ _ (ButBy.below HK6.out) (fun _ => ?_)
          clear hK K
          refine wpAnyH_take (i := 10) (v := ?_) rfl (by kernel_rfl) (by kernel_rfl) (by kernel_rfl) (fun _ _ _ h => h) (Or.inl ⟨by first | kernel_rfl | rfl, ?_⟩) (by assumption) ?_
          case refine_2 => intro w hSw; go_simp; try with_reducible rfl
          refine wpAnyH_ready (rs := [11]) (by kernel_rfl) (by simp) (AllReadyH.cons rfl (fun K hK => ?_) AllReadyH.nil)
          go_simp
          refine hK.out _ _ (S6) (fun _ => ?_)
          clear hK K
          refine wpAnyH_done (by kernel_rfl) ?_ _
          go_wp2
          go_roundg (n - k1)
          · exact ⟨k1, _, by have := HKK.out; omega, by first | rfl | (have := HKK.out; congr 1; omega), HA1, HFI.out _ _ HH6.out, HFJ.out _ H76.out⟩
          · have := HKK.out; omega

      · have CM := CMr wr HH.out.kept
        rw [decide_eq_false hm] at CM
        have HNO : Hid (G = none) := Lib.hid (by rw [HG.out]; exact if_neg (fun h => hm (h.1 r hmem)))
        clear hkA hkl hg hsz hex hcl hbl hat hAk hr htk hmem htr hAk2 htrv CMr hnr hs hz hx hy hex' cel ec1 ec2 ec3 hk1 hk hlt hm hjb hAJ HA H7
        go_wp2_with (with_reducible refine wpList_load_sub rfl _ _ rfl b (off + k * 5) 5 rfl t cs fr _ g2 Tryd.underlying24 rfl infoRp HES.out.1 _ HES.out.2 ?_)
        refine CM.mono ?_
        rintro e w2 ⟨rfl, hb2⟩
        have HH2 := Lib.hid (HH.out.later hb2)
        clear hb2 CM g2 HH
        have g0 := HH2.out.row0.c0
        have f0 := HH2.out.row0.fz 0
        have g1 := HH2.out.row0.c1
        have f1 := HH2.out.row0.fz 1
        have g2 := HH2.out.row0.c2
        have f2 := HH2.out.row0.fz 2
        have g3 := HH2.out.row0.c3
        have f3 := HH2.out.row0.fz 3
        have g4 := HH2.out.row0.c4
        have f4 := HH2.out.row0.fz 4
        go_wp2
        refine bodyPost_ret (results_cell_tmp_rowQ Tryd.results26 _ _ w.heap.size 24 #[.string ⟨#[]⟩, .int .i64 0, .int .i64 0, .int .i64 0, .slice none 0 0] (0, 0) _ rfl (set5_rowQ HH2.out.row0.row _ _ _ _ _) Tryd.underlying24 rfl infoRp) rfl ⟨⟨.agg #[.string ⟨#[]⟩, .int .i64 0, .int .i64 0, .int .i64 0, .slice none 0 0], by rw [HNO.out]; rfl, by rw [HNO.out]; exact RpIs.zero _⟩, below_set5Q (show Below w.heap.size w _ from HH2.out.kept) HH2.out.kept.size (Nat.le_refl _) _ _ _ _ _⟩
    · have hki : ¬ (k : Int) < n := by omega
      have bk : decide ((k : Int) < (n : Int)) = false := by simpa using hki
      have hkn : k = n := by omega
      have htk : l.take k = l := List.take_of_length_le (by rw [hkn, HNL.out.1]; exact Nat.le_refl _)
      have hall := HA.out
      rw [htk] at hall hAJ
      have hname : str AJ.name = N := by rw [hAJ, joinL_name, HN.out]
      have hk9 := HNL.out.2
      have hwf : AJ.wf := by
        obtain ⟨j0, j1, ⟨j2, j2'⟩, ⟨j3, j3'⟩, j4, j5⟩ := hjb
        refine ⟨by rw [hAJ, joinL_name]; exact HNM.out, ⟨by omega, by omega⟩, ⟨by omega, by omega⟩, ⟨by omega, by omega⟩⟩
      have HYS : Hid (mayQ AJ → G = some AJ) := Lib.hid (fun h => by rw [HG.out, hAJ]; exact if_pos ⟨hall, by rw [← hAJ]; exact h⟩)
      have HNS : Hid (¬ mayQ AJ → G = none) := Lib.hid (fun h => by rw [HG.out]; exact if_neg (fun e => h (by rw [hAJ]; exact e.2)))
      have HHQ : Hid (∀ wx, QI w (w.heap.size + 1) (w.heap.size + 1 + 1 + 1) (.string N) (.int .i64 AJ.size) (.int .i64 AJ.re) (.int .i64 AJ.im) (.slice pv AJ.mans.length cv) AJ.mans wx → RpIs AJ (.agg #[.string N, .int .i64 AJ.size, .int .i64 AJ.re, .int .i64 AJ.im, .slice pv AJ.mans.length cv]) wx) := Lib.hid (fun wx h => by
        rw [← hname] at h ⊢
        exact QI.is h rfl rfl rfl hwf hjb.good)
      have HHD : Hid (∀ wx, QI w (w.heap.size + 1) (w.heap.size + 1 + 1 + 1) (.string N) (.int .i64 AJ.size) (.int .i64 AJ.re) (.int .i64 AJ.im) (.slice pv AJ.mans.length cv) AJ.mans wx → RpIs AJ (.agg #[.string N, .int .i64 AJ.size, .int .i64 AJ.re, .int .i64 AJ.im, .slice pv AJ.mans.length cv]) (((((wx.setCell ⟨w.heap.size, 0, none⟩ (.string N)).setCell ⟨w.heap.size, 1, none⟩ (.int .i64 AJ.size)).setCell ⟨w.heap.size, 2, none⟩ (.int .i64 AJ.re)).setCell ⟨w.heap.size, 3, none⟩ (.int .i64 AJ.im)).setCell ⟨w.heap.size, 4, none⟩ (.slice pv AJ.mans.length cv))) := Lib.hid (fun wx h => by
        rw [← hname] at h ⊢
        exact QI.done h rfl rfl rfl hwf hjb.good)
      have CM := rmay16_any AJ _ wr (HHQ.out _ HH.out) (by have := hjb.len; omega)
      obtain ⟨sz, hsz'⟩ : ∃ q, q = AJ.size := ⟨_, rfl⟩
      obtain ⟨re, hre⟩ : ∃ q, q = AJ.re := ⟨_, rfl⟩
      obtain ⟨im, him⟩ : ∃ q, q = AJ.im := ⟨_, rfl⟩
      obtain ⟨al, hal⟩ : ∃ q, q = AJ.mans.length := ⟨_, rfl⟩
      rw [← hsz', ← hre, ← him, ← hal] at CM HH HHQ HHD
      have d0 := HH.out.row5.c0
      have d1 := HH.out.row5.c1
      have d2 := HH.out.row5.c2
      have d3 := HH.out.row5.c3
      have d4 := HH.out.row5.c4
      clear hkn htk hall hname hk9 hwf hjb hsz' hre him hal hAJ HA H7 hlt hk
      by_cases hm : mayQ AJ
      · rw [decide_eq_true hm] at CM
        have HYES := Lib.hid (HYS.out hm)
        clear hm
        go_wp2_with fail
        refine CM.mono ?_
        rintro e w2 ⟨rfl, hb2⟩
        have HH9 := Lib.hid (HH.out.later hb2)
        clear hb2 CM HH d0 d1 d2 d3 d4
        have d0 := HH9.out.row5.c0
        have d1 := HH9.out.row5.c1
        have d2 := HH9.out.row5.c2
        have d3 := HH9.out.row5.c3
        have d4 := HH9.out.row5.c4
        have g0 := HH9.out.row0.c0
        have f0 := HH9.out.row0.fz 0
        have g1 := HH9.out.row0.c1
        have f1 := HH9.out.row0.fz 1
        have g2 := HH9.out.row0.c2
        have f2 := HH9.out.row0.fz 2
        have g3 := HH9.out.row0.c3
        have f3 := HH9.out.row0.fz 3
        have g4 := HH9.out.row0.c4
        have f4 := HH9.out.row0.fz 4
        go_wp2
        have hk := below_set5Q (show Below w.heap.size w w2 from HH9.out.kept) HH9.out.kept.size (Nat.le_refl _) (.string N) (.int .i64 sz) (.int .i64 re) (.int .i64 im) (.slice pv al cv)
        refine bodyPost_ret (results_cell_tmp_rowQ Tryd.results26 _ _ w.heap.size 24 #[.string N, .int .i64 sz, .int .i64 re, .int .i64 im, .slice pv al cv] (0, 0) _ rfl (set5_rowQ HH9.out.row0.row _ _ _ _ _) Tryd.underlying24 rfl infoRp) rfl ⟨⟨_, by rw [HYES.out]; rfl, ?_⟩, hk⟩
        rw [HYES.out]
        exact HHD.out _ HH9.out
      · rw [decide_eq_false hm] at CM
        have HNO := Lib.hid (HNS.out hm)
        clear hm
        go_wp2_with fail
        refine CM.mono ?_
        rintro e w2 ⟨rfl, hb2⟩
        have HH9 := Lib.hid (HH.out.later hb2)
        clear hb2 CM HH d0 d1 d2 d3 d4
        have g0 := HH9.out.row0.c0
        have f0 := HH9.out.row0.fz 0
        have g1 := HH9.out.row0.c1
        have f1 := HH9.out.row0.fz 1
        have g2 := HH9.out.row0.c2
        have f2 := HH9.out.row0.fz 2
        have g3 := HH9.out.row0.c3
        have f3 := HH9.out.row0.fz 3
        have g4 := HH9.out.row0.c4
        have f4 := HH9.out.row0.fz 4
        go_wp2
        refine bodyPost_ret (results_cell_tmp_rowQ Tryd.results26 _ _ w.heap.size 24 #[.string ⟨#[]⟩, .int .i64 0, .int .i64 0, .int .i64 0, .slice none 0 0] (0, 0) _ rfl (set5_rowQ HH9.out.row0.row _ _ _ _ _) Tryd.underlying24 rfl infoRp) rfl ⟨⟨.agg #[.string ⟨#[]⟩, .int .i64 0, .int .i64 0, .int .i64 0, .slice none 0 0], by rw [HNO.out]; rfl, by rw [HNO.out]; exact RpIs.zero _⟩, below_set5Q (show Below w.heap.size w _ from HH9.out.kept) HH9.out.kept.size (Nat.le_refl _) _ _ _ _ _⟩

end Go.Proofs.YtijdbmapdmhknaaDoor
