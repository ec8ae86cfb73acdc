/- The landed recipes' Join. -/
import Derived.Test.YtijdbmapdmhknaaDoorRyH
import Derived.Test.YtijdbmapdmhknaaDoorRqJ
namespace Go.Proofs.YtijdbmapdmhknaaDoor
open Go.RowKit

theorem _root_.Go.Calls.below_of {P : Program} {f : FuncId} {args : Array Value} {W : World} {v : Value} (h : Calls P f args W fun e w' => e = .returned v ∧ W = w') : Calls P f args W fun e w' => e = .returned v ∧ Below W.heap.size W w' :=
  h.mono fun _ _ ⟨h1, h2⟩ => ⟨h1, h2 ▸ Below.refl _ _⟩
theorem foldl_more : ∀ (l : List Rp) (a : Rp), (∀ r ∈ l, mayQ r) → a.size ≤ (l.foldl stepQ a).size ∧ a.mans.length ≤ (l.foldl stepQ a).mans.length := by
  intro l
  induction l with
  | nil => intro a _; exact ⟨Int.le_refl _, Nat.le_refl _⟩
  | cons r l ih =>
    intro a h
    have h1 := ih (stepQ a r) (fun x hx => h x (List.mem_cons_of_mem _ hx))
    have h2 := (h r (List.mem_cons_self ..)).2.1.1
    have e1 : (stepQ a r).size = a.size + r.size := rfl
    have e2 : (stepQ a r).mans.length = a.mans.length + r.mans.length := by
      show (a.mans ++ r.mans).length = _
      rw [List.length_append]
    rw [List.foldl_cons]
    omega
/-- Too much already: no recipe that follows makes it less. -/
theorem joinQ_over (name : List UInt8) (l : List Rp) (k : Nat) (h : 1048576 < (joinL name (l.take k)).size ∨ 1024 < (joinL name (l.take k)).mans.length) : joinQ name l = none := by
  refine if_neg (fun ⟨ha, hm⟩ => ?_)
  have e : joinL name l = (l.drop k).foldl stepQ (joinL name (l.take k)) := by
    unfold joinL
    rw [← List.foldl_append, List.take_append_drop]
  have h1 := foldl_more (l.drop k) (joinL name (l.take k)) (fun r hr => ha r (List.mem_of_mem_drop hr))
  rw [← e] at h1
  have h2 := hm.2.1.2
  have h3 := hm.2.2.2.1
  omega
theorem QI.app0 {w wd w6 : World} {b5 base : Nat} {x0 x1 x2 x3 tv v' : Value} {l m : List Nat} (h : QI w b5 base x0 x1 x2 x3 tv l wd)
    (ho6 : w6.ownsRow base 53 1 v' (l.length + m.length) (flatR uL l ++ flatR uL m)) (hg : wd.grownBy w6 tv.ownBlock) :
    Row5 b5 x0 x1 x2 x3 tv w6 ∧ QI w b5 base x0 x1 x2 x3 v' (l ++ m) (w6.setCell ⟨b5, 4, none⟩ v') := by
  have hl0 := (Array.getElem?_eq_some_iff.1 h.row0.row).1
  have hl5 := (Array.getElem?_eq_some_iff.1 h.row5.row).1
  have nb : ∀ m, tv.ownBlock = some m → base ≤ m := fun m hm => (h.own.lt m hm).1
  have nb' : ∀ m, v'.ownBlock = some m → base ≤ m := fun m hm => (ho6.lt m hm).1
  have hb6 : ButBy (fun m => tv.ownBlock = some m) wd w6 := ⟨hg.os, hg.tape, hg.output, hg.size, fun m hm hn => hg.block m hm (fun e => hn e.symm)⟩
  have h5 := (hb6.block b5 hl5 (fun e => by have := nb _ e; have := h.ord; omega)).trans h.row5.row
  have h0 := (hb6.block _ hl0 (fun e => by have := nb _ e; have := h.ord; omega)).trans h.row0.row
  have hk6 : Kept w w6 := ButBy.kept hb6 (fun m hm => by have := nb m hm; have := h.ord; omega) h.kept h.kept.size
  have hord := h.ord
  refine ⟨⟨h5⟩, below_touch hk6 (grown_set _ _ _ _) hk6.size (by omega), ?_, ⟨?_⟩, ⟨heap_setCell_same w6 b5 4 #[x0, x1, x2, x3, tv] 24 v' h5⟩, ?_, hord⟩
  · have := hb6.size
    have := h.size
    show base ≤ (w6.heap.modify _ _).size
    rw [Array.size_modify]; omega
  · rw [heap_setCell_other _ _ _ _ (by show w.heap.size ≠ b5; omega)]; exact h0
  · rw [List.length_append, flatR_append]
    exact own_stay ho6 (fun m hm => heap_setCell_other _ _ _ _ (by show m ≠ b5; have := nb' m hm; omega))

set_option maxRecDepth 100000 in
set_option maxHeartbeats 32000000 in
theorem rjoinOk : RJoinOk := by
  intro name l v w hnm H hl hlm
  obtain ⟨ir, hir, hx⟩ := Option.map_eq_some_iff.1 info_u32
  simp only [Prod.mk.injEq] at hx
  obtain ⟨hz0, hz1, hz2⟩ := hx
  have HIR := Lib.hid hir
  have HZ0 := Lib.hid hz0
  have HZ1 := Lib.hid hz1
  have HZ2 := Lib.hid hz2
  obtain ⟨A, hA, hin⟩ := H
  obtain ⟨p, c, rfl, -, -⟩ := hin.rows.out encRp
  have HIN := Lib.hid hin
  have HAL := Lib.hid hA
  have hAl : A.length = l.length := by rw [← hA, List.length_map]
  obtain ⟨n, hn⟩ : ∃ n, n = A.length := ⟨_, rfl⟩
  rw [← hn]
  rw [← hn] at hAl
  have HNA := Lib.hid hn
  obtain ⟨G, hG⟩ : ∃ G, G = joinQ name l := ⟨_, rfl⟩
  rw [← hG]
  have HG := Lib.hid hG
  obtain ⟨N, hN⟩ : ∃ N, N = str name := ⟨_, rfl⟩
  rw [← hN]
  have HN := Lib.hid hN
  have HNL : Hid (n = l.length ∧ n ≤ 100) := Lib.hid ⟨hAl, by omega⟩
  have HLM := Lib.hid hlm
  have HNM := Lib.hid hnm
  obtain ⟨W3, hW3⟩ : ∃ W3, W3 = (w.alloc (.cells #[.string ⟨#[]⟩, .int .i64 0, .int .i64 0, .int .i64 0, .slice none 0 0] 24)).alloc (.cells #[.string N, .int .i64 0, .int .i64 0, .int .i64 0, .slice none 0 0] 24) := ⟨_, rfl⟩
  have HW3 := Lib.hid hW3
  have s1 : (w.alloc (.cells #[.string ⟨#[]⟩, .int .i64 0, .int .i64 0, .int .i64 0, .slice none 0 0] 24)).heap.size = w.heap.size + 1 := by simp
  have hk1 : Kept w (w.alloc (.cells #[.string ⟨#[]⟩, .int .i64 0, .int .i64 0, .int .i64 0, .slice none 0 0] 24)) := box_below _ _
  have hk2 := box_below (w.alloc (.cells #[.string ⟨#[]⟩, .int .i64 0, .int .i64 0, .int .i64 0, .slice none 0 0] 24)) (.cells #[.string N, .int .i64 0, .int .i64 0, .int .i64 0, .slice none 0 0] 24)
  have HI3 : Hid (QI w (w.heap.size + 1) (w.heap.size + 1 + 1) (.string N) (.int .i64 0) (.int .i64 0) (.int .i64 0) (.slice none 0 0) [] W3) := Lib.hid (by
    rw [hW3]
    refine ⟨hk1.then hk2, by simp, ⟨Kept.row hk2 (heap_alloc_last w _)⟩, ⟨?_⟩, World.ownsRow_nil _ _ _ _, by omega⟩
    have := heap_alloc_last (w.alloc (.cells #[.string ⟨#[]⟩, .int .i64 0, .int .i64 0, .int .i64 0, .slice none 0 0] 24)) (.cells #[.string N, .int .i64 0, .int .i64 0, .int .i64 0, .slice none 0 0] 24)
    rw [s1] at this
    exact this)
  clear hir hz0 hz1 hz2 hA hin hAl hn hG hN hl hlm hnm hW3 s1 hk1 hk2
  go_enter Tryd.func25, Tryd.ntmps25
  go_wp2
  rw [← HW3.out]
  go_loopg [17] n (fun gh y wr => ∃ (k : Nat) (tv : Value), k + gh = n ∧ y = .int .i64 k ∧ Hid (∀ r ∈ l.take k, mayQ r) ∧ Hid ((joinL name (l.take k)).size ≤ 1048576 ∧ (joinL name (l.take k)).mans.length ≤ 1024) ∧
    Hid (QI w (w.heap.size + 1) (w.heap.size + 1 + 1) (.string N) (.int .i64 (joinL name (l.take k)).size) (.int .i64 (joinL name (l.take k)).re) (.int .i64 (joinL name (l.take k)).im) tv (joinL name (l.take k)).mans wr))
  case atStart => exact ⟨0, _, by omega, rfl, Lib.hid (fun r hr => by rw [List.take_zero] at hr; cases hr), Lib.hid ⟨show (0 : Int) ≤ 1048576 by decide, Nat.zero_le _⟩, HI3⟩
  case round =>
    clear HI3 HW3
    clear W3
    obtain ⟨k, tv, hk, rfl, HA, HB, HH⟩ := hrel
    obtain ⟨AJ, hAJ⟩ : ∃ A, A = joinL name (l.take k) := ⟨_, rfl⟩
    rw [← hAJ] at HH HB
    have hjb : JB k AJ := by
      have h := joinL_JB name (l.take k) HA.out
      have := HNL.out
      rw [← hAJ, List.length_take, Nat.min_eq_left (by omega)] at h
      exact h
    obtain ⟨pv, cv, htv, -, -⟩ := own_slice HH.out.own
    subst htv
    by_cases hlt : k < n
    · have hki : (k : Int) < n := by omega
      have bk : decide ((k : Int) < (n : Int)) = true := by simpa using hki
      have hki0 : (0 : Int) ≤ k := by omega
      have hkA : k < A.length := by rw [← HNA.out]; exact hlt
      have hkl : k < l.length := by rw [← HNL.out.1]; exact hlt
      obtain ⟨b, off, cs, t, fr, hp, hg, hsz, hex, hcl⟩ := (HNA.out ▸ HIN.out.rows : RowsAt rpL 5 okRp A (.slice p A.length c) w).elem encRp hkA
      subst hp
      have hbl : b < w.heap.size := (Array.getElem?_eq_some_iff.1 hg).1
      have hat : RpAt A[k].1 A[k].2 w := HIN.out.each _ (List.getElem_mem hkA)
      have hAk : A[k].1 = l[k] := by
        have e : ∀ (m : List Rp) (h : A.map Prod.fst = m) (hm : k < m.length), A[k].1 = m[k] := fun m h hm => by subst h; simp
        exact e l HAL.out hkl
      obtain ⟨r, hr⟩ : ∃ r, r = l[k] := ⟨_, rfl⟩
      rw [hAk, ← hr] at hat
      have htk : l.take (k + 1) = l.take k ++ [r] := by rw [hr]; exact List.take_succ_eq_append_getElem hkl
      have hmem : r ∈ l := by rw [hr]; exact List.getElem_mem hkl
      obtain ⟨tr, htr⟩ : ∃ x, x = A[k].2 := ⟨_, rfl⟩
      rw [← htr] at hat
      have hAk2 : A[k] = (r, tr) := Prod.ext (by rw [hAk, hr]) (by rw [htr])
      rw [hAk2] at hex hcl
      obtain ⟨pm, cm, htrv, -, -⟩ := hat.mans.out encU
      have HRM := Lib.hid hat.mans
      have CMr := fun W (kw : Kept w W) => rcheckOk r _ W ⟨tr, rfl, hat.later kw⟩ (by have := HLM.out r hmem; omega)
      have CWr := fun W (kw : Kept w W) => rweightOk r _ W ⟨tr, rfl, hat.later kw⟩ (by have := HLM.out r hmem; omega)
      have HRML : Hid (r.mans.length ≤ 10000) := Lib.hid (HLM.out r hmem)
      unfold rpC at CMr CWr
      rw [htrv] at CMr CWr HRM hex hcl
      obtain ⟨nr, hnr⟩ : ∃ x, x = r.mans.length := ⟨_, rfl⟩
      obtain ⟨s, hs⟩ : ∃ x, x = str r.name := ⟨_, rfl⟩
      obtain ⟨z, hz⟩ : ∃ x, x = r.size := ⟨_, rfl⟩
      obtain ⟨x, hx⟩ : ∃ x, x = r.re := ⟨_, rfl⟩
      obtain ⟨y, hy⟩ : ∃ x, x = r.im := ⟨_, rfl⟩
      have hex' : cs.extract (off + k * 5) (off + k * 5 + 5) = #[.string s, .int .i64 z, .int .i64 x, .int .i64 y, .slice pm nr cm] := by rw [hex, hs, hz, hx, hy, hnr]; rfl
      rw [← hnr, ← hs, ← hz, ← hx, ← hy] at CMr CWr
      rw [← hnr] at HRM
      have HES : Hid (off + k * 5 + 5 ≤ cs.size ∧ cs.extract (off + k * 5) (off + k * 5 + 5) = #[.string s, .int .i64 z, .int .i64 x, .int .i64 y, .slice pm nr cm]) := Lib.hid ⟨hsz, hex'⟩
      have IX := fun W => idx_rec (P := Tryd.prog) Tryd.underlying49 (fun w => Tryd.sizeOf24 w) b off n c k hlt W
      obtain ⟨k1, hk1⟩ : ∃ k1, k1 = k + 1 := ⟨_, rfl⟩
      have v1 : IntKind.i64.wrap ((k : Int) + 1) = (k1 : Int) := by rw [show (k : Int) + 1 = (k1 : Int) by omega]; exact IntWalk.i64_in _ (by have := HNL.out; omega)
      have HKK : Hid (k1 = k + 1 ∧ k + gk = n ∧ k < n) := Lib.hid ⟨hk1, hk, hlt⟩
      have g2 : wr.heap[b]? = some (.cells cs t fr) := HH.out.kept.row hg
      obtain ⟨W3, hW3⟩ : ∃ W, W = wr.alloc (.cells #[.string s, .int .i64 z, .int .i64 x, .int .i64 y, .slice pm nr cm] 24) := ⟨_, rfl⟩
      have HW3 := Lib.hid hW3
      have hk3 : Kept wr W3 := by rw [hW3]; exact box_below _ _
      have HK3 := Lib.hid hk3
      have HR3 : Hid (Row5 wr.heap.size (.string s) (.int .i64 z) (.int .i64 x) (.int .i64 y) (.slice pm nr cm) W3) := Lib.hid ⟨by rw [hW3]; exact heap_alloc_last wr _⟩
      have HBW : Hid (w.heap.size + 1 + 1 ≤ wr.heap.size) := Lib.hid HH.out.size
      have d0 := HR3.out.c0
      have d1 := HR3.out.c1
      have d2 := HR3.out.c2
      have d3 := HR3.out.c3
      have d4 := HR3.out.c4
      rw [hW3] at d0 d1 d2 d3 d4
      have CM := CMr W3 (HH.out.kept.then hk3)
      obtain ⟨sz, hsz'⟩ : ∃ q, q = AJ.size := ⟨_, rfl⟩
      obtain ⟨re, hre⟩ : ∃ q, q = AJ.re := ⟨_, rfl⟩
      obtain ⟨im, him⟩ : ∃ q, q = AJ.im := ⟨_, rfl⟩
      obtain ⟨am, ham⟩ : ∃ q, q = AJ.mans := ⟨_, rfl⟩
      obtain ⟨al, hal⟩ : ∃ q, q = am.length := ⟨_, rfl⟩
      have HALE := Lib.hid hal
      have HNR := Lib.hid hnr
      have hst : joinL name (l.take k1) = stepQ AJ r := by rw [hk1, htk, joinL_snoc, hAJ]
      have e1 : (joinL name (l.take k1)).size = sz + z := by rw [hst, hsz', hz]; rfl
      have e4 : (joinL name (l.take k1)).mans = am ++ r.mans := by rw [hst, ham]; rfl
      have e4l : (joinL name (l.take k1)).mans.length = al + nr := by rw [e4, List.length_append, ← hal, ← hnr]
      by_cases hm : mayQ r
      · have HA1 : Hid (∀ r ∈ l.take k1, mayQ r) := Lib.hid (fun e he => by
          rw [hk1, htk] at he
          rcases List.mem_append.1 he with x | x
          · exact HA.out e x
          · rw [List.mem_singleton.1 x]; exact hm)
        have hmr := hm
        obtain ⟨-, ⟨m3, m4⟩, ⟨⟨m5, m5'⟩, ⟨m6, m6'⟩⟩, m7, m8⟩ := hmr
        have hj := hjb
        obtain ⟨j0, j1, ⟨j2, j2'⟩, ⟨j3, j3'⟩, j4, j5⟩ := hj
        have hk9 := HNL.out.2
        have hB := HB.out
        rw [← hsz', ← ham, ← hal] at hB
        rw [← hz] at m3 m4
        rw [← hnr] at m7
        rw [← hsz'] at j0
        obtain ⟨sz2, hsz2⟩ : ∃ q, q = sz + z := ⟨_, rfl⟩
        have vs : IntKind.i64.wrap (sz + z) = sz2 := by rw [hsz2]; exact IntWalk.i64_in _ (by omega)
        obtain ⟨al2, hal2⟩ : ∃ q, q = al + nr := ⟨_, rfl⟩
        have va : IntKind.i64.wrap ((al : Int) + (nr : Int)) = (al2 : Int) := by rw [hal2, show (al : Int) + (nr : Int) = ((al + nr : Nat) : Int) by omega]; exact IntWalk.i64_in _ (by omega)
        rw [if_pos hm] at CM
        rw [← hsz', ← hre, ← him, ← ham, ← hal] at HH
        by_cases h5 : sz2 ≤ 1048576
        · have b5 : decide (sz2 > 1048576) = false := decide_eq_false (by omega)
          have b5i : decide (1048576 < sz2) = false := decide_eq_false (by omega)
          by_cases h6 : al2 ≤ 1024
          · have b6 : decide ((al2 : Int) > 1024) = false := decide_eq_false (by omega)
            have b6i : ¬ (1024 : Int) < al2 := by omega
            have HB1 : Hid ((joinL name (l.take k1)).size ≤ 1048576 ∧ (joinL name (l.take k1)).mans.length ≤ 1024) := Lib.hid ⟨by rw [e1]; omega, by rw [e4l]; omega⟩
            obtain ⟨zt, hzt⟩ : ∃ q, q = rot sz.toNat (x, y) := ⟨_, rfl⟩
            have hrb := rot_abs 2147483648 sz.toNat (x, y) ⟨⟨by rw [hx]; exact m5, by rw [hx]; omega⟩, ⟨by rw [hy]; exact m6, by rw [hy]; omega⟩⟩
            rw [← hzt] at hrb
            have nz : NumZ (flt x) (flt y) (x, y) := ⟨num_flt x (by rw [hx]; omega), num_flt y (by rw [hy]; omega)⟩
            have CT := fun W => turn_yes nz sz W
            have hts : rot (turns sz) (x, y) = zt := by
              rw [hzt]
              have e : sz = ((sz.toNat : Nat) : Int) := by omega
              have e2 := turns_nat sz.toNat (x, y)
              rw [← e] at e2
              exact e2
            rw [hts] at CT
            have CP := fun W => partsOf_yes (num_flt zt.1 (by omega)) (num_flt zt.2 (by omega)) W
            obtain ⟨za, hza⟩ : ∃ q, q = zt.1 := ⟨_, rfl⟩
            obtain ⟨zb, hzb⟩ : ∃ q, q = zt.2 := ⟨_, rfl⟩
            rw [← hza, ← hzb] at CT CP hrb
            obtain ⟨fx, hfx⟩ : ∃ q, q = flt x := ⟨_, rfl⟩
            obtain ⟨fy, hfy⟩ : ∃ q, q = flt y := ⟨_, rfl⟩
            obtain ⟨fa, hfa⟩ : ∃ q, q = flt za := ⟨_, rfl⟩
            obtain ⟨fb, hfb⟩ : ∃ q, q = flt zb := ⟨_, rfl⟩
            rw [← hfx, ← hfy, ← hfa, ← hfb] at CT
            rw [← hfa, ← hfb] at CP
            unfold wzV at CWr
            rw [if_pos hm, ← hx, ← hy, ← hfx, ← hfy] at CWr
            obtain ⟨re2, hre2⟩ : ∃ q, q = re + za := ⟨_, rfl⟩
            obtain ⟨im2, him2⟩ : ∃ q, q = im + zb := ⟨_, rfl⟩
            have vr : IntKind.i64.wrap (re + za) = re2 := by rw [hre2]; exact IntWalk.i64_in _ (by rw [hre]; omega)
            have vi : IntKind.i64.wrap (im + zb) = im2 := by rw [him2]; exact IntWalk.i64_in _ (by rw [him]; omega)
            have HFI : Hid (∀ tv' wx, QI w (w.heap.size + 1) (w.heap.size + 1 + 1) (.string N) (.int .i64 sz2) (.int .i64 re2) (.int .i64 im2) tv' (am ++ r.mans) wx → Hid (QI w (w.heap.size + 1) (w.heap.size + 1 + 1) (.string N) (.int .i64 (joinL name (l.take k1)).size) (.int .i64 (joinL name (l.take k1)).re) (.int .i64 (joinL name (l.take k1)).im) tv' (joinL name (l.take k1)).mans wx)) := Lib.hid (fun tv' wx h => Lib.hid (by
              have e2 : (joinL name (l.take k1)).re = re2 := by rw [hst, hre2, hza, hzt, hre, hsz', hx, hy]; rfl
              have e3 : (joinL name (l.take k1)).im = im2 := by rw [hst, him2, hzb, hzt, him, hsz', hx, hy]; rfl
              rw [e1, e2, e3, e4, ← hsz2]
              exact h))
            have HLEN : Hid (al ≤ 1024 ∧ nr ≤ 10000) := Lib.hid ⟨by omega, by omega⟩
            clear hkA hkl hg hsz hex hcl hbl hat hAk hr htk hmem htr hAk2 htrv CMr hnr hs hz hx hy hex' hk1 hk hlt hm hst hsz' hre him ham hjb hAJ HA hW3 hk3 hal hal2 h5 h6 e1 e4 e4l m3 m4 m5 m5' m6 m6' m7 m8 j0 j1 j2 j2' j3 j3' j4 j5 hk9 hB hzt hrb nz hts hza hzb hfx hfy hfa hfb hre2 him2 hsz2 HB
            go_wp2_with (with_reducible refine wpList_load_sub rfl _ _ rfl b (off + k * 5) 5 rfl t cs fr _ g2 Tryd.underlying24 rfl infoRp HES.out.1 _ HES.out.2 ?_)
            rw [← HW3.out]
            refine CM.mono ?_
            rintro e w4 ⟨rfl, hb4⟩
            have HH4 := Lib.hid (HH.out.later ((show Kept wr W3 from HK3.out).then hb4))
            have HR4 := Lib.hid (HR3.out.later hb4)
            clear hb4 CM g2 HH HR3 HW3 HK3 d0 d1 d2 d3 d4
            have j1 := HH4.out.row5.c1
            have j4 := HH4.out.row5.c4
            have r1 := HR4.out.c1
            have r4 := HR4.out.c4
            have CW := fun W (h : Kept w4 W) => CWr W (HH4.out.kept.then h)
            have CT2 := fun W => (CT W).below_of
            have CP2 := fun W => (CP W).below_of
            clear CWr CT CP
            go_wp2_with fail
            refine wp_region_kept (by kernel_rfl) (by kernel_rfl) ?_
            refine wpQuiet_load_row (by kernel_rfl) _ _ rfl (wr.heap.size) rfl 24 _ (0, 0) _ (fun _ h => h.row HR4.out.row) Tryd.underlying24 rfl infoRp (fun K hK => ?_)
            go_simp
            refine hK _ ?_; clear hK K
            refine wpQuiet_call (by kernel_rfl) _ _ _ (fun W => by go_simp) (fun W h => Calls.kept_of h (CW W h)) (fun K hK => ?_)
            go_simp
            refine hK _ ?_; clear hK K
            refine wpQuiet_pure (v := ?_) (by kernel_rfl) ?_ (fun K hK => ?_)
            case refine_2 => intro W _; go_simp; try with_reducible rfl
            go_simp
            refine hK _ ?_; clear hK K
            refine wpQuiet_load_int (by kernel_rfl) _ _ rfl ⟨w.heap.size + 1, 1, none⟩ rfl _ Tryd.underlying3 _ (fun _ h => h.cell HH4.out.row5.c1) (fun K hK => ?_)
            go_simp
            refine hK _ ?_; clear hK K
            refine wpQuiet_call (by kernel_rfl) _ _ _ (fun W => by go_simp) (fun W h => Calls.kept_of h (CT2 W)) (fun K hK => ?_)
            go_simp
            refine hK _ ?_; clear hK K
            refine wpQuiet_call (by kernel_rfl) _ _ _ (fun W => by go_simp) (fun W h => Calls.kept_of h (CP2 W)) (fun K hK => ?_)
            go_simp
            refine hK _ ?_; clear hK K
            refine wpQuiet_pure (v := ?_) (by kernel_rfl) ?_ (fun K hK => ?_)
            case refine_2 => intro W _; go_simp; try with_reducible rfl
            go_simp
            refine hK _ ?_; clear hK K
            refine wpQuiet_pure (v := ?_) (by kernel_rfl) ?_ (fun K hK => ?_)
            case refine_2 => intro W _; go_simp; try with_reducible rfl
            go_simp
            refine hK _ ?_; clear hK K
            refine wpQuiet_pure (v := ?_) (by kernel_rfl) ?_ (fun K hK => ?_)
            case refine_2 => intro W _; go_simp; try with_reducible rfl
            go_simp
            refine hK _ ?_; clear hK K
            refine wpQuiet_pure (v := ?_) (by kernel_rfl) ?_ (fun K hK => ?_)
            case refine_2 => intro W _; go_simp; try with_reducible rfl
            go_simp
            refine hK _ ?_; clear hK K
            refine wpQuiet_pure (v := ?_) (by kernel_rfl) ?_ (fun K hK => ?_)
            case refine_2 => intro W _; go_simp; try with_reducible rfl
            go_simp
            refine hK _ ?_; clear hK K
            refine wpQuiet_pure (v := ?_) (by kernel_rfl) ?_ (fun K hK => ?_)
            case refine_2 => intro W _; go_simp; try with_reducible rfl
            go_simp
            refine hK _ ?_; clear hK K
            refine wpQuiet_pure (v := ?_) (by kernel_rfl) ?_ (fun K hK => ?_)
            case refine_2 => intro W _; go_simp; try with_reducible rfl
            go_simp
            refine hK _ ?_; clear hK K
            refine wpQuiet_nil ?_
            intro w5 hk5
            have HH5 := Lib.hid (HH4.out.later hk5)
            have HR5 := Lib.hid (HR4.out.later hk5)
            clear hk5 HH4 HR4 CW CT2 CP2 j1 j4 r1 r4
            have q2 := HH5.out.row5.c2
            have q2' := HH5.out.row5.fz 2
            have HH6 := Lib.hid (HH5.out.set2 (.int .i64 re2))
            have q3 := HH6.out.row5.c3
            have q3' := HH6.out.row5.fz 3
            have HH7 := Lib.hid (HH6.out.set3 (.int .i64 im2))
            have q1 := HH7.out.row5.c1
            have q1' := HH7.out.row5.fz 1
            have bt7 : ButBy (fun m => m = w.heap.size + 1) w5 ((w5.setCell ⟨w.heap.size + 1, 2, none⟩ (.int .i64 re2)).setCell ⟨w.heap.size + 1, 3, none⟩ (.int .i64 im2)) := ((but_refl (fun m => m = w.heap.size + 1) w5).setCell _ _ _ rfl).setCell _ _ _ rfl
            have hr5l := (Array.getElem?_eq_some_iff.1 HR5.out.row).1
            have HR7 : Row5 wr.heap.size (.string s) (.int .i64 z) (.int .i64 x) (.int .i64 y) (.slice pm nr cm) ((w5.setCell ⟨w.heap.size + 1, 2, none⟩ (.int .i64 re2)).setCell ⟨w.heap.size + 1, 3, none⟩ (.int .i64 im2)) := ⟨(bt7.block _ hr5l (fun e => by have := HBW.out; omega)).trans HR5.out.row⟩
            have r1 := HR7.c1
            have HH8 := Lib.hid (HH7.out.set1 (.int .i64 sz2))
            obtain ⟨w8, hw8⟩ : ∃ W, W = ((w5.setCell ⟨w.heap.size + 1, 2, none⟩ (.int .i64 re2)).setCell ⟨w.heap.size + 1, 3, none⟩ (.int .i64 im2)).setCell ⟨w.heap.size + 1, 1, none⟩ (.int .i64 sz2) := ⟨_, rfl⟩
            have HW8 := Lib.hid hw8
            have HR8 : Row5 wr.heap.size (.string s) (.int .i64 z) (.int .i64 x) (.int .i64 y) (.slice pm nr cm) w8 := ⟨by rw [hw8, heap_setCell_other _ _ _ _ (by show wr.heap.size ≠ w.heap.size + 1; have := HBW.out; omega)]; exact HR7.row⟩
            rw [← hw8] at HH8
            have HRR8 := Lib.hid HR8
            clear bt7 hr5l HR7 HR8 hw8 HH5 HH6 HH7 HR5
            go_wp2_with (with_reducible refine wpList_halt (d := 74) rfl ?_)
            unfold Halted
            rw [← HW8.out]
            clear q1 q1' q2 q2' q3 q3' r1 vr vi vs HW8
            have j4 := HH8.out.row5.c4
            have r4 := HRR8.out.c4
            have HFL : Hid (FlatAt 1 nr (flatR uL r.mans) (.slice pm nr cm) w8) := Lib.hid (by rw [HNR.out]; have := (HRM.out.later HH8.out.kept).at_; rw [HNR.out] at this; exact this)
            have HOW8 : Hid (w8.ownsRow (w.heap.size + 1 + 1) 53 1 (.slice pv al cv) al (flatR uL am)) := Lib.hid (by have := HH8.out.own; rw [← HALE.out] at this; exact this)
            go_wp2_with (at_builtin; refine wpList_append_flat rfl _ _ 22 rfl (w.heap.size + 1 + 1) 53 ir (.int .u32 0) 1 4 Tryd.underlying22 HIR.out HZ0.out HZ1.out HZ2.out rfl (by decide) _ al (flatR uL am) rfl HOW8.out _ nr (flatR uL r.mans) rfl HFL.out ?wa1 ?wa2 ?wa3 ?_)
            case wa1 => have := HLEN.out; unfold maxLen; omega
            case wa2 => have := HLEN.out; omega
            case wa3 => exact HH8.out.size
            intro v1 w9 hown9 hg9 _
            obtain ⟨hr9, hh9⟩ := HH8.out.app0 (m := r.mans) (by rw [← HALE.out, ← HNR.out]; exact hown9) hg9
            have x4 := hr9.c4
            have y4 := hr9.fz 4
            obtain ⟨pv', cv', htv', -, -⟩ := own_slice hown9
            subst htv'
            have HH9 := Lib.hid (HFI.out _ _ hh9)
            clear hown9 hg9 hr9 hh9 j4 r4 HFL HRR8 HH8 HFI
            go_wp2
            go_roundg (n - k1)
            · exact ⟨k1, _, by have := HKK.out; omega, by first | rfl | (have := HKK.out; congr 1; omega), HA1, HB1, HH9.out⟩
            · have := HKK.out; omega
          · have b6 : decide ((al2 : Int) > 1024) = true := decide_eq_true (by omega)
            have b6i : (1024 : Int) < al2 := by omega
            have HNO : Hid (G = none) := Lib.hid (by rw [HG.out]; exact joinQ_over name l k1 (Or.inr (by rw [e4l]; omega)))
            clear hkA hkl hg hsz hex hcl hbl hat hAk hr htk hmem htr hAk2 htrv CMr hnr hs hz hx hy hex' hk1 hk hlt hm hst hsz' hre him ham hjb hAJ HA hW3 hk3 hal hal2 h5 h6 e1 e4 e4l m3 m4 m5 m5' m6 m6' m7 m8 j0 j1 j2 j2' j3 j3' j4 j5 hk9 hB hsz2 HB CWr
            go_wp2_with (with_reducible refine wpList_load_sub rfl _ _ rfl b (off + k * 5) 5 rfl t cs fr _ g2 Tryd.underlying24 rfl infoRp HES.out.1 _ HES.out.2 ?_)
            rw [← HW3.out]
            refine CM.mono ?_
            rintro e w4 ⟨rfl, hb4⟩
            have HH4 := Lib.hid (HH.out.later ((show Kept wr W3 from HK3.out).then hb4))
            have HR4 := Lib.hid (HR3.out.later hb4)
            clear hb4 CM g2 HH HR3 HW3 HK3 d0 d1 d2 d3 d4
            have j1 := HH4.out.row5.c1
            have j4 := HH4.out.row5.c4
            have r1 := HR4.out.c1
            have r4 := HR4.out.c4
            have g0 := HH4.out.row0.c0
            have f0 := HH4.out.row0.fz 0
            have g1 := HH4.out.row0.c1
            have f1 := HH4.out.row0.fz 1
            have g2 := HH4.out.row0.c2
            have f2 := HH4.out.row0.fz 2
            have g3 := HH4.out.row0.c3
            have f3 := HH4.out.row0.fz 3
            have g4 := HH4.out.row0.c4
            have f4 := HH4.out.row0.fz 4
            go_wp2
            refine bodyPost_ret (results_cell_tmp_rowQ Tryd.results25 _ _ w.heap.size 24 #[.string ⟨#[]⟩, .int .i64 0, .int .i64 0, .int .i64 0, .slice none 0 0] (0, 0) _ rfl (set5_rowQ HH4.out.row0.row _ _ _ _ _) Tryd.underlying24 rfl infoRp) rfl ⟨⟨.agg #[.string ⟨#[]⟩, .int .i64 0, .int .i64 0, .int .i64 0, .slice none 0 0], by rw [HNO.out]; rfl, by rw [HNO.out]; exact RpIs.zero _⟩, below_set5Q (show Below w.heap.size w _ from HH4.out.kept) HH4.out.kept.size (Nat.le_refl _) _ _ _ _ _⟩
        · have b5 : decide (sz2 > 1048576) = true := decide_eq_true (by omega)
          have b5i : decide (1048576 < sz2) = true := decide_eq_true (by omega)
          have HNO : Hid (G = none) := Lib.hid (by rw [HG.out]; exact joinQ_over name l k1 (Or.inl (by rw [e1]; omega)))
          clear hkA hkl hg hsz hex hcl hbl hat hAk hr htk hmem htr hAk2 htrv CMr hnr hs hz hx hy hex' hk1 hk hlt hm hst hsz' hre him ham hjb hAJ HA hW3 hk3 hal hal2 h5 e1 e4 e4l m3 m4 m5 m5' m6 m6' m7 m8 j0 j1 j2 j2' j3 j3' j4 j5 hk9 hB hsz2 HB CWr
          go_wp2_with (with_reducible refine wpList_load_sub rfl _ _ rfl b (off + k * 5) 5 rfl t cs fr _ g2 Tryd.underlying24 rfl infoRp HES.out.1 _ HES.out.2 ?_)
          rw [← HW3.out]
          refine CM.mono ?_
          rintro e w4 ⟨rfl, hb4⟩
          have HH4 := Lib.hid (HH.out.later ((show Kept wr W3 from HK3.out).then hb4))
          have HR4 := Lib.hid (HR3.out.later hb4)
          clear hb4 CM g2 HH HR3 HW3 HK3 d0 d1 d2 d3 d4
          have j1 := HH4.out.row5.c1
          have j4 := HH4.out.row5.c4
          have r1 := HR4.out.c1
          have r4 := HR4.out.c4
          have g0 := HH4.out.row0.c0
          have f0 := HH4.out.row0.fz 0
          have g1 := HH4.out.row0.c1
          have f1 := HH4.out.row0.fz 1
          have g2 := HH4.out.row0.c2
          have f2 := HH4.out.row0.fz 2
          have g3 := HH4.out.row0.c3
          have f3 := HH4.out.row0.fz 3
          have g4 := HH4.out.row0.c4
          have f4 := HH4.out.row0.fz 4
          go_wp2
          refine bodyPost_ret (results_cell_tmp_rowQ Tryd.results25 _ _ w.heap.size 24 #[.string ⟨#[]⟩, .int .i64 0, .int .i64 0, .int .i64 0, .slice none 0 0] (0, 0) _ rfl (set5_rowQ HH4.out.row0.row _ _ _ _ _) Tryd.underlying24 rfl infoRp) rfl ⟨⟨.agg #[.string ⟨#[]⟩, .int .i64 0, .int .i64 0, .int .i64 0, .slice none 0 0], by rw [HNO.out]; rfl, by rw [HNO.out]; exact RpIs.zero _⟩, below_set5Q (show Below w.heap.size w _ from HH4.out.kept) HH4.out.kept.size (Nat.le_refl _) _ _ _ _ _⟩
      · have HNO : Hid (G = none) := Lib.hid (by rw [HG.out]; exact if_neg (fun h => hm (h.1 r hmem)))
        rw [if_neg hm] at CM
        rw [← hsz', ← hre, ← him, ← ham, ← hal] at HH
        clear hkA hkl hg hsz hex hcl hbl hat hAk hr htk hmem htr hAk2 htrv CMr hnr hs hz hx hy hex' hk1 hk hlt hm hst hsz' hre him ham hjb hAJ HA hW3 hk3 hal e1 e4 e4l HB CWr
        go_wp2_with (with_reducible refine wpList_load_sub rfl _ _ rfl b (off + k * 5) 5 rfl t cs fr _ g2 Tryd.underlying24 rfl infoRp HES.out.1 _ HES.out.2 ?_)
        rw [← HW3.out]
        refine CM.mono ?_
        rintro e w4 ⟨rfl, hb4⟩
        have HH4 := Lib.hid (HH.out.later ((show Kept wr W3 from HK3.out).then hb4))
        have HR4 := Lib.hid (HR3.out.later hb4)
        clear hb4 CM g2 HH HR3 HW3 HK3 d0 d1 d2 d3 d4
        have g0 := HH4.out.row0.c0
        have f0 := HH4.out.row0.fz 0
        have g1 := HH4.out.row0.c1
        have f1 := HH4.out.row0.fz 1
        have g2 := HH4.out.row0.c2
        have f2 := HH4.out.row0.fz 2
        have g3 := HH4.out.row0.c3
        have f3 := HH4.out.row0.fz 3
        have g4 := HH4.out.row0.c4
        have f4 := HH4.out.row0.fz 4
        go_wp2
        refine bodyPost_ret (results_cell_tmp_rowQ Tryd.results25 _ _ w.heap.size 24 #[.string ⟨#[]⟩, .int .i64 0, .int .i64 0, .int .i64 0, .slice none 0 0] (0, 0) _ rfl (set5_rowQ HH4.out.row0.row _ _ _ _ _) Tryd.underlying24 rfl infoRp) rfl ⟨⟨.agg #[.string ⟨#[]⟩, .int .i64 0, .int .i64 0, .int .i64 0, .slice none 0 0], by rw [HNO.out]; rfl, by rw [HNO.out]; exact RpIs.zero _⟩, below_set5Q (show Below w.heap.size w _ from HH4.out.kept) HH4.out.kept.size (Nat.le_refl _) _ _ _ _ _⟩
    · have hki : ¬ (k : Int) < n := by omega
      have bk : decide ((k : Int) < (n : Int)) = false := by simpa using hki
      have hkn : k = n := by omega
      have htk : l.take k = l := List.take_of_length_le (by rw [hkn, HNL.out.1]; exact Nat.le_refl _)
      have hall := HA.out
      rw [htk] at hall hAJ
      have hname : str AJ.name = N := by rw [hAJ, joinL_name, HN.out]
      have hk9 := HNL.out.2
      have hwf : AJ.wf := by
        obtain ⟨j0, j1, ⟨j2, j2'⟩, ⟨j3, j3'⟩, j4, j5⟩ := hjb
        refine ⟨by rw [hAJ, joinL_name]; have := HNM.out; unfold maxLen; omega, ⟨by omega, by omega⟩, ⟨by omega, by omega⟩, ⟨by omega, by omega⟩⟩
      have HYS : Hid (mayQ AJ → G = some AJ) := Lib.hid (fun h => by rw [HG.out, hAJ]; exact if_pos ⟨hall, by rw [← hAJ]; exact h⟩)
      have HNS : Hid (¬ mayQ AJ → G = none) := Lib.hid (fun h => by rw [HG.out]; exact if_neg (fun e => h (by rw [hAJ]; exact e.2)))
      have HHQ : Hid (∀ wx, QI w (w.heap.size + 1) (w.heap.size + 1 + 1) (.string N) (.int .i64 AJ.size) (.int .i64 AJ.re) (.int .i64 AJ.im) (.slice pv AJ.mans.length cv) AJ.mans wx → RpIs AJ (.agg #[.string N, .int .i64 AJ.size, .int .i64 AJ.re, .int .i64 AJ.im, .slice pv AJ.mans.length cv]) wx) := Lib.hid (fun wx h => by
        rw [← hname] at h ⊢
        exact QI.is h rfl rfl rfl hwf hjb.good)
      have HHD : Hid (∀ wx, QI w (w.heap.size + 1) (w.heap.size + 1 + 1) (.string N) (.int .i64 AJ.size) (.int .i64 AJ.re) (.int .i64 AJ.im) (.slice pv AJ.mans.length cv) AJ.mans wx → RpIs AJ (.agg #[.string N, .int .i64 AJ.size, .int .i64 AJ.re, .int .i64 AJ.im, .slice pv AJ.mans.length cv]) (((((wx.setCell ⟨w.heap.size, 0, none⟩ (.string N)).setCell ⟨w.heap.size, 1, none⟩ (.int .i64 AJ.size)).setCell ⟨w.heap.size, 2, none⟩ (.int .i64 AJ.re)).setCell ⟨w.heap.size, 3, none⟩ (.int .i64 AJ.im)).setCell ⟨w.heap.size, 4, none⟩ (.slice pv AJ.mans.length cv))) := Lib.hid (fun wx h => by
        rw [← hname] at h ⊢
        exact QI.done h rfl rfl rfl hwf hjb.good)
      have CM := rcheckOk AJ _ wr (HHQ.out _ HH.out) (by have := HB.out; omega)
      obtain ⟨sz, hsz'⟩ : ∃ q, q = AJ.size := ⟨_, rfl⟩
      obtain ⟨re, hre⟩ : ∃ q, q = AJ.re := ⟨_, rfl⟩
      obtain ⟨im, him⟩ : ∃ q, q = AJ.im := ⟨_, rfl⟩
      obtain ⟨al, hal⟩ : ∃ q, q = AJ.mans.length := ⟨_, rfl⟩
      rw [← hsz', ← hre, ← him, ← hal] at CM HH HHQ HHD
      have d0 := HH.out.row5.c0
      have d1 := HH.out.row5.c1
      have d2 := HH.out.row5.c2
      have d3 := HH.out.row5.c3
      have d4 := HH.out.row5.c4
      clear hkn htk hall hname hk9 hwf hjb hsz' hre him hal hAJ HA HB hlt hk
      by_cases hm : mayQ AJ
      · rw [if_pos hm] at CM
        have HYES := Lib.hid (HYS.out hm)
        clear hm
        go_wp2_with fail
        refine CM.mono ?_
        rintro e w2 ⟨rfl, hb2⟩
        have HH9 := Lib.hid (HH.out.later hb2)
        clear hb2 CM HH d0 d1 d2 d3 d4
        have d0 := HH9.out.row5.c0
        have d1 := HH9.out.row5.c1
        have d2 := HH9.out.row5.c2
        have d3 := HH9.out.row5.c3
        have d4 := HH9.out.row5.c4
        have g0 := HH9.out.row0.c0
        have f0 := HH9.out.row0.fz 0
        have g1 := HH9.out.row0.c1
        have f1 := HH9.out.row0.fz 1
        have g2 := HH9.out.row0.c2
        have f2 := HH9.out.row0.fz 2
        have g3 := HH9.out.row0.c3
        have f3 := HH9.out.row0.fz 3
        have g4 := HH9.out.row0.c4
        have f4 := HH9.out.row0.fz 4
        go_wp2
        have hk := below_set5Q (show Below w.heap.size w w2 from HH9.out.kept) HH9.out.kept.size (Nat.le_refl _) (.string N) (.int .i64 sz) (.int .i64 re) (.int .i64 im) (.slice pv al cv)
        refine bodyPost_ret (results_cell_tmp_rowQ Tryd.results25 _ _ w.heap.size 24 #[.string N, .int .i64 sz, .int .i64 re, .int .i64 im, .slice pv al cv] (0, 0) _ rfl (set5_rowQ HH9.out.row0.row _ _ _ _ _) Tryd.underlying24 rfl infoRp) rfl ⟨⟨_, by rw [HYES.out]; rfl, ?_⟩, hk⟩
        rw [HYES.out]
        exact HHD.out _ HH9.out
      · rw [if_neg hm] at CM
        have HNO := Lib.hid (HNS.out hm)
        clear hm
        go_wp2_with fail
        refine CM.mono ?_
        rintro e w2 ⟨rfl, hb2⟩
        have HH9 := Lib.hid (HH.out.later hb2)
        clear hb2 CM HH d0 d1 d2 d3 d4
        have g0 := HH9.out.row0.c0
        have f0 := HH9.out.row0.fz 0
        have g1 := HH9.out.row0.c1
        have f1 := HH9.out.row0.fz 1
        have g2 := HH9.out.row0.c2
        have f2 := HH9.out.row0.fz 2
        have g3 := HH9.out.row0.c3
        have f3 := HH9.out.row0.fz 3
        have g4 := HH9.out.row0.c4
        have f4 := HH9.out.row0.fz 4
        go_wp2
        refine bodyPost_ret (results_cell_tmp_rowQ Tryd.results25 _ _ w.heap.size 24 #[.string ⟨#[]⟩, .int .i64 0, .int .i64 0, .int .i64 0, .slice none 0 0] (0, 0) _ rfl (set5_rowQ HH9.out.row0.row _ _ _ _ _) Tryd.underlying24 rfl infoRp) rfl ⟨⟨.agg #[.string ⟨#[]⟩, .int .i64 0, .int .i64 0, .int .i64 0, .slice none 0 0], by rw [HNO.out]; rfl, by rw [HNO.out]; exact RpIs.zero _⟩, below_set5Q (show Below w.heap.size w _ from HH9.out.kept) HH9.out.kept.size (Nat.le_refl _) _ _ _ _ _⟩

end Go.Proofs.YtijdbmapdmhknaaDoor
