/- RecipeJoins out of the contracts. -/
import Derived.Test.YtijdbmapdmhknaaDoorRqI
namespace Go.Proofs.YtijdbmapdmhknaaDoor
open Go.RowKit

set_option maxRecDepth 100000 in
set_option maxHeartbeats 64000000 in
theorem recipeJoins_of (COS : ROfOk) (CF : RFitsOk) (CJ : RJoinOk) (AW : AwakeQ) (name : ByteArray) (l : List Rp) (v : Value) (ss : List ByteArray) (u : Value) (w : World) (hL : RpsAt l v w) (hS : StrAt ss u w) (hT : TabAt w) :
    Calls Tryd.prog 7 #[.string name, v, u] w fun e w' => e = .returned (.bool true) ∧ Kept w w' := by
  have HT := Lib.hid hT
  have HAW := Lib.hid AW
  have HCF := Lib.hid CF
  have HCJ := Lib.hid CJ
  have HCOS := Lib.hid COS
  obtain ⟨ir, zr, i1, i2, i3, i4, i5⟩ := infoRpF
  have HIR := Lib.hid i1
  have HZ0 := Lib.hid i2
  have HZ1 := Lib.hid i3
  have HZ2 := Lib.hid i4
  have HZS := Lib.hid i5
  obtain ⟨A, hA, hin⟩ := hL
  obtain ⟨p, c, rfl, -, -⟩ := hin.rows.out encRp
  have HIN := Lib.hid hin
  have HAL := Lib.hid hA
  have hAl : A.length = l.length := by rw [← hA, List.length_map]
  obtain ⟨n, hn⟩ : ∃ n, n = A.length := ⟨_, rfl⟩
  rw [← hn]
  rw [← hn] at hAl
  have HNA := Lib.hid hn
  have HNL : Hid (n = l.length) := Lib.hid hAl
  obtain ⟨ps, cs', rfl, hsc⟩ := hS
  have HSC := Lib.hid hsc
  obtain ⟨n2, hn2⟩ : ∃ n, n = ss.length := ⟨_, rfl⟩
  rw [← hn2]
  have HNS := Lib.hid hn2
  obtain ⟨m, hm⟩ : ∃ m, m = min n 8 := ⟨_, rfl⟩
  have hm8 : m ≤ 8 := by omega
  have hmn : m ≤ n := by omega
  have hmx : m = n ∨ m = 8 := by omega
  obtain ⟨m2, hm2⟩ : ∃ m, m = min n2 8 := ⟨_, rfl⟩
  have hm28 : m2 ≤ 8 := by omega
  have hm2n : m2 ≤ n2 := by omega
  have hm2x : m2 = n2 ∨ m2 = 8 := by omega
  obtain ⟨FW, hFW⟩ : ∃ F, F = (l.take m).map fewQ := ⟨_, rfl⟩
  have HFW := Lib.hid hFW
  have hFl : FW.length ≤ 100 := by rw [hFW, List.length_map, List.length_take]; omega
  have hFm : ∀ r ∈ FW, r.mans.length ≤ 10000 := fun r hr => by
    rw [hFW] at hr
    obtain ⟨x, -, rfl⟩ := List.mem_map.1 hr
    have := fewQ_mans x
    omega
  obtain ⟨NL, hNL⟩ : ∃ N, N = name.data.toList.take 60 := ⟨_, rfl⟩
  have hNl : NL.length ≤ 1000 := by rw [hNL, List.length_take]; omega
  have hname : str name.data.toList = name := str_data name
  have hns : name.data.toList.length = name.size := data_len name
  clear hT AW CF CJ COS i1 i2 i3 i4 i5 hA hin hAl hn hsc hn2 hm hm2 hFW
  by_cases h2 : 60 < name.size
  · obtain ⟨NM, hNMx⟩ : ∃ N, N = name.extract 0 60 := ⟨_, rfl⟩
    have hNM : NM = str NL := by rw [hNMx, hNL, ← str_takeQ, hname]
    have ex : name.extract 0 60 = NM := hNMx.symm
    have b2 : decide ((name.size : Int) > 60) = true := decide_eq_true (by omega)
    have b2i : (60 : Int) < name.size := by omega
    have b2j : (60 : Int) ≤ name.size := by omega
    clear hNMx hNL h2 hname hns
    obtain ⟨G, hG⟩ : ∃ G, G = joinQ NL FW := ⟨_, rfl⟩
    obtain ⟨R, hR⟩ : ∃ R, R = G.getD Rp.zero := ⟨_, rfl⟩
    obtain ⟨GE, hge⟩ : ∃ e, e = okV G := ⟨_, rfl⟩
    obtain ⟨GO, hgo⟩ : ∃ e, e = G.isSome := ⟨_, rfl⟩
    have hco := fun u W (h : RpsAt FW u W) => HCJ.out NL FW u W hNl h hFl hFm
    have hcd := fun u W (h : RpsAt FW u W) => rjoin16_any NL (by unfold maxLen; omega) FW u W h (by omega) (fun r hr => by have := hFm r hr; omega)
    rw [← hG, ← hR, ← hge, ← hNM] at hco
    rw [← hG, ← hR, ← hgo, ← hNM] at hcd
    have hrl : R.mans.length ≤ 1024 := by
      rw [hR, hG]
      unfold joinQ
      split
      · rename_i hh
        exact hh.2.2.2.2.1
      · exact Nat.zero_le _
    have HRL2 : Hid (R.mans.length ≤ 1000000) := Lib.hid (by omega)
    have HGE : Hid (GE = (if GO then 0 else 1)) := Lib.hid (by rw [hge, hgo]; rfl)
    obtain ⟨nm, hnm⟩ : ∃ x, x = str R.name := ⟨_, rfl⟩
    obtain ⟨z, hz⟩ : ∃ x, x = R.size := ⟨_, rfl⟩
    obtain ⟨x, hx⟩ : ∃ x, x = R.re := ⟨_, rfl⟩
    obtain ⟨y, hy⟩ : ∃ x, x = R.im := ⟨_, rfl⟩
    obtain ⟨n1, hn1⟩ : ∃ x, x = R.mans.length := ⟨_, rfl⟩
    have HCR : Hid (∀ u W, RpIs R u W → ∃ p c, u = .agg #[.string nm, .int .i64 z, .int .i64 x, .int .i64 y, .slice p n1 c]) := Lib.hid (fun u W h => by
      obtain ⟨p, c, e⟩ := h.cutQ
      exact ⟨p, c, by rw [e, hnm, hz, hx, hy, hn1]⟩)
    have HCO0 := Lib.hid hco
    have HCD0 := Lib.hid hcd
    clear hG hR hge hgo hco hcd hrl hnm hz hx hy hn1 hNl hFl hFm hNM
    go_enter Tryd.func7, Tryd.ntmps7
    go_wp2
    go_loopg [7, 8] m (fun gh y7 y8 wr => ∃ (k : Nat) (LA : List (Rp × Value)), k + gh = m ∧ y8 = .int .i64 k ∧ LA.length = k ∧ Hid (wr.ownsRow w.heap.size 24 5 y7 LA.length (flatR rpL LA)) ∧
      Hid (LA.map Prod.fst = (l.take k).map fewQ) ∧ Hid (∀ a ∈ LA, ∀ W, Kept w W → RpAt a.1 a.2 W) ∧ Hid (Kept w wr))
    case atStart => exact ⟨0, [], by omega, rfl, rfl, Lib.hid (World.ownsRow_nil _ _ _ _), Lib.hid (by simp), Lib.hid (fun a ha => by cases ha), Lib.hid (Below.refl _ w)⟩
    case round =>
      obtain ⟨k, LA, hk, rfl, hla, HOW, HMAP, HEACH, HKK⟩ := hrel
      obtain ⟨pv, cv, htv, -, -⟩ := own_slice HOW.out
      subst htv
      rw [hla] at HOW ⊢
      have HLA := Lib.hid hla
      clear hla
      by_cases hlt : k < m
      · have hki : (k : Int) < n := by omega
        have bk : decide ((k : Int) < (n : Int)) = true := by simpa using hki
        have hki8 : (k : Int) < 8 := by omega
        have bk8 : decide ((k : Int) < 8) = true := by simpa using hki8
        have hkA : k < A.length := by rw [← HNA.out]; omega
        have hkl : k < l.length := by rw [← HNL.out]; omega
        obtain ⟨b, off, cs, t, fr, hp, hg, hsz, hex, hcl⟩ := (HNA.out ▸ HIN.out.rows : RowsAt rpL 5 okRp A (.slice p A.length c) w).elem encRp hkA
        subst hp
        have hat : RpAt A[k].1 A[k].2 w := HIN.out.each _ (List.getElem_mem hkA)
        have hAk : A[k].1 = l[k] := by
          have e : ∀ (m : List Rp) (h : A.map Prod.fst = m) (hm : k < m.length), A[k].1 = m[k] := fun m h hm => by subst h; simp
          exact e l HAL.out hkl
        obtain ⟨r, hr⟩ : ∃ r, r = l[k] := ⟨_, rfl⟩
        rw [hAk, ← hr] at hat
        have htk : l.take (k + 1) = l.take k ++ [r] := by rw [hr]; exact List.take_succ_eq_append_getElem hkl
        obtain ⟨tr, htr⟩ : ∃ x, x = A[k].2 := ⟨_, rfl⟩
        rw [← htr] at hat
        have hAk2 : A[k] = (r, tr) := Prod.ext (by rw [hAk, hr]) (by rw [htr])
        rw [hAk2] at hex
        have hri : RpIs r (.agg (rpC r tr)) w := ⟨tr, rfl, hat⟩
        obtain ⟨X, hX⟩ : ∃ X, X = rpC r tr := ⟨_, rfl⟩
        have hex' : cs.extract (off + k * 5) (off + k * 5 + 5) = X := by rw [hex, hX]; rfl
        have HES : Hid (off + k * 5 + 5 ≤ cs.size ∧ cs.extract (off + k * 5) (off + k * 5 + 5) = X) := Lib.hid ⟨hsz, hex'⟩
        rw [← hX] at hri
        have CFW := few16_any r (.agg X) w wr hri
        have IX := fun W => idx_rec (P := Tryd.prog) Tryd.underlying49 (fun w => Tryd.sizeOf24 w) b off n c k (by omega) W
        have g2 : wr.heap[b]? = some (.cells cs t fr) := HKK.out.row hg
        obtain ⟨k1, hk1⟩ : ∃ k1, k1 = k + 1 := ⟨_, rfl⟩
        have v1 : IntKind.i64.wrap ((k : Int) + 1) = (k1 : Int) := by rw [show (k : Int) + 1 = (k1 : Int) by omega]; exact IntWalk.i64_in _ (by omega)
        have HK1 : Hid (k1 = k + 1 ∧ k + gk = m ∧ k < m ∧ m ≤ 8) := Lib.hid ⟨hk1, hk, hlt, hm8⟩
        have HTK : Hid ((l.take k1).map fewQ = (l.take k).map fewQ ++ [fewQ r]) := Lib.hid (by rw [hk1, htk, List.map_append]; rfl)
        clear hkA hkl hg hsz hex hcl hat hAk hr htk htr hAk2 hX hex' hri hk1 hk hlt
        go_wp2_with (with_reducible refine wpList_load_sub rfl _ _ rfl b (off + k * 5) 5 rfl t cs fr _ g2 Tryd.underlying24 rfl infoRp HES.out.1 _ HES.out.2 ?_)
        refine CFW.mono ?_
        rintro e w2 ⟨u, rfl, hu, hk2⟩
        obtain ⟨tu, hue, -⟩ := hu w (Below.refl _ w)
        subst hue
        have hall : ∀ W, Kept w W → RpAt (fewQ r) tu W := fun W hW => by
          obtain ⟨t2, e2, h2⟩ := hu W hW
          have e3 : t2 = tu := by
            have := congrArg (fun v : Value => (match v with | .agg X => X[4]? | _ => none)) e2
            exact (Option.some.inj this).symm
          rw [e3] at h2
          exact h2
        have hone : tu.oneCell' = true := (hall w (Below.refl _ w)).mans.one_
        obtain ⟨XT, hXT⟩ : ∃ X, X = rpC (fewQ r) tu := ⟨_, rfl⟩
        have HXT := Lib.hid hXT
        have HZX : Hid (XT.size = 5) := Lib.hid (by rw [hXT]; rfl)
        have HONE := Lib.hid (fun (W : World) => flat_rec encRp W 24 (fewQ r, tu) hone XT (by rw [hXT]; rfl))
        have HOW2 := Lib.hid (own_stay HOW.out (fun j hj => hk2.block j (HOW.out.lt j hj).2))
        have HKK2 := Lib.hid (HKK.out.then hk2)
        have HLA2 : Hid (LA.length = k ∧ k < 8) := Lib.hid ⟨HLA.out, by omega⟩
        have HALL := Lib.hid hall
        rw [← hXT]
        clear hXT hu hk2 hall hone HOW HKK g2 CFW
        go_wp2_with (first
          | (with_reducible refine wpList_buildR rfl _ _ _ rfl 5 ir zr Tryd.underlying49 HIR.out HZ1.out HZ0.out (by decide) (by decide) XT rfl HZX.out ?_)
          | (at_builtin; refine wpList_append_flat rfl _ _ 49 rfl w.heap.size 24 ir zr 5 64 Tryd.underlying49 HIR.out HZ0.out HZ1.out HZ2.out HZS.out (by decide) _ _ _ rfl (HOW2.out.alloc _) _ 1 (rpL (fewQ r, tu)) rfl (HONE.out _) ?qd2 ?qd3 ?qd4 ?_))
        case qd2 => have := HLA2.out; unfold maxLen; omega
        case qd3 => have := HLA2.out; omega
        case qd4 => have := HKK2.out.size; simp; omega
        intro v4 w9 hown hgrow _
        have HKK9 : Hid (Kept w w9) := Lib.hid (append_keptX HKK2.out (Nat.le_refl _) HOW2.out hgrow)
        have HOW9 : Hid (w9.ownsRow w.heap.size 24 5 v4 (LA ++ [(fewQ r, tu)]).length (flatR rpL (LA ++ [(fewQ r, tu)]))) := Lib.hid (by
          rw [List.length_append, ← flatR_snoc, HLA.out]
          exact hown)
        obtain ⟨pv', cv', htv', -, -⟩ := own_slice hown
        have HMAP9 : Hid ((LA ++ [(fewQ r, tu)]).map Prod.fst = (l.take k1).map fewQ) := Lib.hid (by rw [HTK.out, ← HMAP.out, List.map_append]; rfl)
        have HEACH9 : Hid (∀ a ∈ LA ++ [(fewQ r, tu)], ∀ W, Kept w W → RpAt a.1 a.2 W) := Lib.hid (fun a ha => by
          rcases List.mem_append.1 ha with x | x
          · exact HEACH.out a x
          · rw [List.mem_singleton.1 x]; exact HALL.out)
        subst htv'
        clear hown hgrow HMAP HEACH HALL HTK
        go_wp2
        go_roundg (m - k1)
        · exact ⟨k1, LA ++ [(fewQ r, tu)], by have := HK1.out; omega, by first | rfl | (have := HK1.out; congr 1; omega), by have := HK1.out; have := HLA2.out; simp; omega, HOW9, HMAP9, HEACH9, HKK9⟩
        · have := HK1.out; omega
      · have hx : (¬ ((k : Int) < (n : Int)) ∧ decide ((k : Int) < (n : Int)) = false) ∨ (((k : Int) < (n : Int) ∧ decide ((k : Int) < (n : Int)) = true) ∧ ¬ ((k : Int) < 8) ∧ decide ((k : Int) < 8) = false) := by
          by_cases h : k < n
          · exact Or.inr ⟨⟨by omega, decide_eq_true (by omega)⟩, by omega, decide_eq_false (by omega)⟩
          · exact Or.inl ⟨by omega, decide_eq_false (by omega)⟩
        rcases hx with ⟨hki, bk⟩ | ⟨⟨hki, bk⟩, hki8, bk8⟩
        all_goals
          have hkm : k = m := by omega
          have how : wr.ownsRow w.heap.size 24 5 (.slice pv k cv) LA.length (flatR rpL LA) := by rw [HLA.out]; exact HOW.out
          have hfew : RpsAt FW (.slice pv k cv) wr := ⟨LA, by rw [HFW.out, ← hkm]; exact HMAP.out, ⟨fun a ha => HEACH.out a ha wr HKK.out, RowsAt.own encRp (fun a ha => (HEACH.out a ha wr HKK.out).mans.one_) how⟩⟩
          have HFEW := Lib.hid hfew
          have HCO := Lib.hid (HCO0.out _ wr hfew)
          have HCD := Lib.hid (fun W h => HCD0.out (.slice pv k cv) W h)
          clear hkm hfew how HOW HMAP HEACH hk hlt HLA
          cases GO with
          | false =>
            go_wp2_with fail
            refine (HCO.out).mono ?_
            rintro e w1 ⟨⟨u, rfl, hu⟩, hk1⟩
            obtain ⟨p1, c1, rfl⟩ := HCR.out _ _ hu
            obtain ⟨W2, hW2⟩ : ∃ W, W = w1.alloc (.cells #[.string nm, .int .i64 z, .int .i64 x, .int .i64 y, .slice p1 n1 c1] 24) := ⟨_, rfl⟩
            have hk2 : Kept w1 W2 := by rw [hW2]; exact box_below _ _
            have H02 : Hid (Kept w W2) := Lib.hid ((HKK.out.then hk1).then hk2)
            have HF2 := Lib.hid ((HFEW.out.later hk1).later hk2)
            have HR2 : Hid (Row5 w1.heap.size (.string nm) (.int .i64 z) (.int .i64 x) (.int .i64 y) (.slice p1 n1 c1) W2) := Lib.hid ⟨by rw [hW2]; exact heap_alloc_last w1 _⟩
            have HU2 := Lib.hid (hu.later hk2)
            have HW2 := Lib.hid hW2
            clear hk1 hu hk2 hW2 HFEW HKK
            go_wp2_with (with_reducible refine wpList_halt (d := 53) rfl ?_)
            unfold Halted
            rw [← HW2.out]
            go_wp2_with fail
            refine (HCD.out W2 HF2.out).mono ?_
            rintro e w3 ⟨⟨u, rfl, hu⟩, hk3⟩
            obtain ⟨p2, c2, rfl⟩ := HCR.out _ _ hu
            obtain ⟨W4, hW4⟩ : ∃ W, W = w3.alloc (.cells #[.string nm, .int .i64 z, .int .i64 x, .int .i64 y, .slice p2 n1 c2] 24) := ⟨_, rfl⟩
            have hk4 : Kept w3 W4 := by rw [hW4]; exact box_below _ _
            have H04 : Hid (Kept w W4) := Lib.hid ((H02.out.then hk3).then hk4)
            have HR4 : Hid (Row5 w1.heap.size (.string nm) (.int .i64 z) (.int .i64 x) (.int .i64 y) (.slice p1 n1 c1) W4) := Lib.hid ((HR2.out.later hk3).later hk4)
            have HX4 : Hid (Row5 w3.heap.size (.string nm) (.int .i64 z) (.int .i64 x) (.int .i64 y) (.slice p2 n1 c2) W4) := Lib.hid ⟨by rw [hW4]; exact heap_alloc_last w3 _⟩
            have HU4 := Lib.hid ((HU2.out.later hk3).later hk4)
            have HV4 := Lib.hid (hu.later hk4)
            have HW4 := Lib.hid hW4
            clear hk3 hu hk4 hW4 HW2 H02 HR2 HU2 HF2
            have a0 := HR4.out.c0
            have a1 := HR4.out.c1
            have a2 := HR4.out.c2
            have a3 := HR4.out.c3
            have a4 := HR4.out.c4
            have d0 := HX4.out.c0
            have d1 := HX4.out.c1
            have d2 := HX4.out.c2
            have d3 := HX4.out.c3
            have d4 := HX4.out.c4
            have CS := rsame16_any R R _ _ W4 HU4.out HV4.out HRL2.out HRL2.out
            rw [decide_eq_true (rfl : R = R)] at CS
            go_wp2_with (with_reducible refine wpList_halt (d := 56) rfl ?_)
            unfold Halted
            rw [← HW4.out]
            go_wp2_with fail
            refine CS.mono ?_
            rintro e w5 ⟨rfl, hk5⟩
            have H05 := Lib.hid (H04.out.then hk5)
            clear hk5 CS HW4 H04 HR4 HX4 HU4 HV4 a0 a1 a2 a3 a4 d0 d1 d2 d3 d4
            have AW1 := HAW.out w5 (HT.out.later H05.out)
            have e1 : (GE == 0) = false := by rw [HGE.out]; rfl
            have e2 : (GE != 1) = false := by rw [HGE.out]; rfl
            have e3 : (GE == 1) = true := by rw [HGE.out]; rfl
            go_wp2_with fail
            refine AW1.mono ?_
            rintro e wL ⟨rfl, hk7⟩
            have HL0 := Lib.hid (H05.out.then hk7)
            have HKB : Hid (w.heap.size ≤ wL.heap.size) := Lib.hid HL0.out.size
            clear hk7 AW1 H05
            go_wp2
            go_loopg [13, 14, 15] m2 (fun gh y13 y14 y15 wr => ∃ (k : Nat) (LA : List (Rp × Value)) (AL : ByteArray), k + gh = m2 ∧ y15 = .int .i64 k ∧ y13 = .string AL ∧ LA.length = k ∧ Hid (wr.ownsRow wL.heap.size 24 5 y14 LA.length (flatR rpL LA)) ∧
              Hid (LA.map Prod.fst = (PQ ss k).map (fun x => ofR partL x.1 x.2)) ∧ Hid (∀ a ∈ LA, ∀ W, OnBut wL.heap.size y14 wr W → RpAt a.1 a.2 W) ∧ Hid (AL = str ((PQ ss k).map Prod.fst).flatten) ∧ Hid (Kept w wr) ∧ Hid (Kept wL wr))
            case atStart => exact ⟨0, [], ⟨#[]⟩, by omega, rfl, rfl, rfl, Lib.hid (World.ownsRow_nil _ _ _ _), Lib.hid rfl, Lib.hid (fun a ha => by cases ha), Lib.hid rfl, HL0, Lib.hid (Below.refl _ wL)⟩
            case round =>
              clear HL0
              obtain ⟨k, LA, AL, hk, rfl, rfl, hla, HOW, HMAP, HEACH, HALV, HKK, HKL⟩ := hrel
              obtain ⟨pv, cv, htv, -, -⟩ := own_slice HOW.out
              subst htv
              rw [hla] at HOW HEACH ⊢
              have HLA := Lib.hid hla
              clear hla
              by_cases hlt : k < m2
              · have hki : (k : Int) < n2 := by omega
                have bk : decide ((k : Int) < (n2 : Int)) = true := by simpa using hki
                have hki8 : (k : Int) < 8 := by omega
                have bk8 : decide ((k : Int) < 8) = true := by simpa using hki8
                have hki0 : (0 : Int) ≤ k := by omega
                have hks : k < ss.length := by rw [← HNS.out]; omega
                rcases HSC.out with h0 | ⟨b, off, hp, hcell⟩
                · rw [h0] at hks
                  cases hks
                subst hp
                have d0 := Kept.cell HKK.out (hcell k hks)
                obtain ⟨st, hst⟩ : ∃ s, s = ss[k] := ⟨_, rfl⟩
                rw [← hst] at d0
                have CU := fun W => cut16_any st W
                obtain ⟨S, hS⟩ : ∃ S, S = st.extract 0 400 := ⟨_, rfl⟩
                rw [← hS] at CU
                have hSz : S.size ≤ 400 := by rw [hS, ByteArray.size_extract]; omega
                have hSl : S.data.toList.length = S.size := data_len S
                obtain ⟨k1, hk1⟩ : ∃ k1, k1 = k + 1 := ⟨_, rfl⟩
                have hPQ : PQ ss k1 = PQ ss k ++ [(S.data.toList, [k1])] := by
                  rw [hk1]
                  show PQ ss k ++ [((ss.getD k ⟨#[]⟩).extract 0 400 |>.data.toList, [k + 1])] = _
                  rw [List.getD_eq_getElem?_getD, List.getElem?_eq_getElem hks, hS, hst]
                  rfl
                have v1 : IntKind.i64.wrap ((k : Int) + 1) = (k1 : Int) := by rw [show (k : Int) + 1 = (k1 : Int) by omega]; exact IntWalk.i64_in _ (by omega)
                have v2 : IntKind.u32.wrap (k1 : Int) = (k1 : Int) := IntWalk.u32_in _ (by omega)
                have HK1 : Hid (k1 = k + 1 ∧ k + gk = m2 ∧ k < m2 ∧ m2 ≤ 8) := Lib.hid ⟨hk1, hk, hlt, hm28⟩
                obtain ⟨W1, hW1⟩ : ∃ W, W = wr.alloc (.cells #[.int .u32 (k1 : Nat)] 53) := ⟨_, rfl⟩
                have hkw1 : Kept wr W1 := by rw [hW1]; exact box_below _ _
                have hs1 : W1.heap.size = wr.heap.size + 1 := by rw [hW1]; simp
                have hg1 : W1.heap[wr.heap.size]? = some (.cells #[.int .u32 (k1 : Nat)] 53 (0, 0)) := by rw [hW1]; exact heap_alloc_last wr _
                have hUS : ∀ W : World, W.heap[wr.heap.size]? = W1.heap[wr.heap.size]? → UsAt [k1] (.slice (some ⟨wr.heap.size, 0, none⟩) 1 1) W := fun W hW =>
                  ⟨fun p n c e => by simp only [Value.slice.injEq] at e; omega, fun a ha => by rw [List.mem_singleton.1 ha]; show k1 < 4294967296; omega, rfl, fun x hx => by simp [flatR, uL] at hx; rw [hx]; rfl, _, 1, rfl, Or.inr ⟨_, 0, rfl, fun j x hx => by
                    rw [Nat.zero_add, cell_of_row _ _ _ _ _ _ (hW.trans hg1)]
                    simpa [flatR, uL] using hx⟩⟩
                have hmay : ofQ partL S.data.toList [k1] = some (ofR partL S.data.toList [k1]) := if_pos (may_part _ _ (by omega) (fun x hx => by rw [List.mem_singleton.1 hx]; unfold manQ; omega) (by simp))
                have CO1 := HCOS.out partL S [k1] _ W1 (by decide) (by omega) (hUS W1 rfl) (by simp)
                rw [hmay] at CO1
                have CO2 : Calls Tryd.prog 21 #[.string ⟨#[112, 97, 114, 116]⟩, .string S, .slice (some ⟨wr.heap.size, 0, none⟩) 1 1] W1 fun e w' => (∃ u, e = .returned (.tuple #[u, .int .i64 0]) ∧ ∀ W, OnNew W1 w' W → UsAt [k1] (.slice (some ⟨wr.heap.size, 0, none⟩) 1 1) W → RpIs (ofR partL S.data.toList [k1]) u W) ∧ Kept W1 w' := CO1
                obtain ⟨R, hR⟩ : ∃ R, R = ofR partL S.data.toList [k1] := ⟨_, rfl⟩
                rw [← hR] at CO2
                obtain ⟨AL2, hAL2⟩ : ∃ Z, Z = AL ++ S := ⟨_, rfl⟩
                have eal : AL ++ S = AL2 := hAL2.symm
                have HAL2 : Hid (AL2 = str ((PQ ss k1).map Prod.fst).flatten) := Lib.hid (by rw [hAL2, HALV.out, hPQ, List.map_append, List.flatten_append]; simp [← str_append, str_data])
                have HMP : Hid ((PQ ss k1).map (fun x => ofR partL x.1 x.2) = (PQ ss k).map (fun x => ofR partL x.1 x.2) ++ [R]) := Lib.hid (by rw [hPQ, List.map_append, hR]; rfl)
                have halz : AL.size ≤ 400 * k := by rw [HALV.out, str_size]; exact PQ_len ss k
                have hsum : ¬ 9223372036854775807 < AL.size + S.size := by omega
                have hsum2 : AL.size + S.size ≤ 9223372036854775807 := by omega
                have HUS := Lib.hid hUS
                have HKW1 := Lib.hid hkw1
                have HS1 := Lib.hid hs1
                have HW1 := Lib.hid hW1
                clear hks hcell hst hS hSz hSl hk1 hPQ hk hlt hW1 hkw1 hs1 hg1 hUS hmay CO1 hR hAL2 halz
                go_wp2_with fail
                refine (CU _).mono ?_
                rintro e w' ⟨rfl, rfl⟩
                clear CU d0
                go_wp2_with fail
                rw [← HW1.out]
                refine CO2.mono ?_
                rintro e w2 ⟨⟨u, rfl, hu⟩, hk2⟩
                have hself : RpIs R u w2 := hu w2 (fun _ _ _ => rfl) (HUS.out w2 (hk2.block _ (by have := HS1.out; omega)))
                obtain ⟨tu, hue, -⟩ := hself
                subst hue
                have hall : ∀ W, (∀ j, wr.heap.size ≤ j → j < w2.heap.size → W.heap[j]? = w2.heap[j]?) → RpAt R tu W := fun W hW => by
                  have hb := hk2.block wr.heap.size (by have := HS1.out; omega)
                  obtain ⟨t2, e2, h2⟩ := hu W (fun j h1 h2 => hW j (by have := HS1.out; omega) h2) (HUS.out W ((hW _ (Nat.le_refl _) (by have := hk2.size; have := HS1.out; omega)).trans hb))
                  have e3 : t2 = tu := by
                    have := congrArg (fun v : Value => (match v with | .agg X => X[4]? | _ => none)) e2
                    exact (Option.some.inj this).symm
                  rw [e3] at h2
                  exact h2
                have hone : tu.oneCell' = true := (hall w2 (fun _ _ _ => rfl)).mans.one_
                obtain ⟨p9, c9, htu, -, -⟩ := (hall w2 (fun _ _ _ => rfl)).mans.out encU
                have HKw2 : Hid (Kept wr w2) := Lib.hid (HKW1.out.then hk2)
                have HALL := Lib.hid hall
                have hxs : rpC R tu = #[.string (str R.name), .int .i64 R.size, .int .i64 R.re, .int .i64 R.im, .slice p9 R.mans.length c9] := by rw [htu]; rfl
                obtain ⟨nm, hnm⟩ : ∃ x, x = str R.name := ⟨_, rfl⟩
                obtain ⟨z, hz⟩ : ∃ x, x = R.size := ⟨_, rfl⟩
                obtain ⟨x, hx⟩ : ∃ x, x = R.re := ⟨_, rfl⟩
                obtain ⟨y, hy⟩ : ∃ x, x = R.im := ⟨_, rfl⟩
                obtain ⟨nn, hnn⟩ : ∃ x, x = R.mans.length := ⟨_, rfl⟩
                rw [← hnm, ← hz, ← hx, ← hy, ← hnn] at hxs
                rw [hxs]
                have HXS := Lib.hid hxs
                obtain ⟨W3, hW3⟩ : ∃ W, W = w2.alloc (.cells #[.string nm, .int .i64 z, .int .i64 x, .int .i64 y, .slice p9 nn c9] 24) := ⟨_, rfl⟩
                have hk3 : Kept w2 W3 := by rw [hW3]; exact box_below _ _
                have HK3 : Hid (Kept w2 W3) := Lib.hid hk3
                have HR3 : Hid (Row5 w2.heap.size (.string nm) (.int .i64 z) (.int .i64 x) (.int .i64 y) (.slice p9 nn c9) W3) := Lib.hid ⟨by rw [hW3]; exact heap_alloc_last w2 _⟩
                have HW3 := Lib.hid hW3
                have HONE := Lib.hid (fun (W : World) => flat_rec encRp W 24 (R, tu) hone #[.string nm, .int .i64 z, .int .i64 x, .int .i64 y, .slice p9 nn c9] (by rw [← hxs]; rfl))
                have HOW3 := Lib.hid (own_stay HOW.out (fun j hj => (HKw2.out.then hk3).block j (HOW.out.lt j hj).2))
                have HLA2 : Hid (LA.length = k ∧ k < 8) := Lib.hid ⟨HLA.out, by omega⟩
                clear hk2 hu hall hone htu hxs hnm hz hx hy hnn hW3 hk3 CO2
                go_wp2_with (with_reducible refine wpList_halt (d := 103) rfl ?_)
                unfold Halted
                rw [← HW3.out]
                have a0 := HR3.out.c0
                have a1 := HR3.out.c1
                have a2 := HR3.out.c2
                have a3 := HR3.out.c3
                have a4 := HR3.out.c4
                go_wp2_with (first
                  | (with_reducible refine wpList_buildR rfl _ _ _ rfl 5 ir zr Tryd.underlying49 HIR.out HZ1.out HZ0.out (by decide) (by decide) #[.string nm, .int .i64 z, .int .i64 x, .int .i64 y, .slice p9 nn c9] rfl rfl ?_)
                  | (at_builtin; refine wpList_append_flat rfl _ _ 49 rfl wL.heap.size 24 ir zr 5 64 Tryd.underlying49 HIR.out HZ0.out HZ1.out HZ2.out HZS.out (by decide) _ _ _ rfl (HOW3.out.alloc _) _ 1 (rpL (R, tu)) rfl (HONE.out _) ?qd2 ?qd3 ?qd4 ?_))
                case qd2 => have := HLA2.out; unfold maxLen; omega
                case qd3 => have := HLA2.out; omega
                case qd4 => have := HKL.out.size; have := HKw2.out.size; have := HK3.out.size; simp; omega
                intro v4 w9 hown hgrow hwhere
                have HKK9 : Hid (Kept w w9) := Lib.hid (append_keptX ((HKK.out.then HKw2.out).then HK3.out) HKB.out HOW3.out hgrow)
                have HKL9 : Hid (Kept wL w9) := Lib.hid (append_keptX ((HKL.out.then HKw2.out).then HK3.out) (Nat.le_refl _) HOW3.out hgrow)
                have HOW9 : Hid (w9.ownsRow wL.heap.size 24 5 v4 (LA ++ [(R, tu)]).length (flatR rpL (LA ++ [(R, tu)]))) := Lib.hid (by
                  rw [List.length_append, ← flatR_snoc, HLA.out]
                  exact hown)
                have HMAP9 : Hid ((LA ++ [(R, tu)]).map Prod.fst = (PQ ss k1).map (fun x => ofR partL x.1 x.2)) := Lib.hid (by rw [HMP.out, ← HMAP.out, List.map_append]; rfl)
                have HEACH9 : Hid (∀ a ∈ LA ++ [(R, tu)], ∀ W, OnBut wL.heap.size v4 w9 W → RpAt a.1 a.2 W) := Lib.hid (each_next HEACH.out HALL.out HOW.out HKL.out.size HKw2.out HK3.out hgrow (by simpa using hwhere))
                obtain ⟨pv', cv', htv', -, -⟩ := own_slice hown
                subst htv'
                clear hown hgrow hwhere HMAP HEACH HALL a0 a1 a2 a3 a4
                go_wp2
                go_roundg (m2 - k1)
                · exact ⟨k1, LA ++ [(R, tu)], AL2, by have := HK1.out; omega, by first | rfl | (have := HK1.out; congr 1; omega), rfl, by have := HK1.out; have := HLA2.out; simp; omega, HOW9, HMAP9, HEACH9, HAL2, HKK9, HKL9⟩
                · have := HK1.out; omega
              · have hx : (¬ ((k : Int) < (n2 : Int)) ∧ decide ((k : Int) < (n2 : Int)) = false) ∨ (((k : Int) < (n2 : Int) ∧ decide ((k : Int) < (n2 : Int)) = true) ∧ ¬ ((k : Int) < 8) ∧ decide ((k : Int) < 8) = false) := by
                  by_cases h : k < n2
                  · exact Or.inr ⟨⟨by omega, decide_eq_true (by omega)⟩, by omega, decide_eq_false (by omega)⟩
                  · exact Or.inl ⟨by omega, decide_eq_false (by omega)⟩
                rcases hx with ⟨hki, bk⟩ | ⟨⟨hki, bk⟩, hki8, bk8⟩
                all_goals
                  have hkm : k = m2 := by omega
                  have how : wr.ownsRow wL.heap.size 24 5 (.slice pv k cv) LA.length (flatR rpL LA) := by rw [HLA.out]; exact HOW.out
                  have hmade : RpsAt ((PQ ss m2).map (fun x => ofR partL x.1 x.2)) (.slice pv k cv) wr := ⟨LA, by rw [← hkm]; exact HMAP.out, ⟨fun a ha => HEACH.out a ha wr (fun _ _ _ _ => rfl), RowsAt.own encRp (fun a ha => (HEACH.out a ha wr (fun _ _ _ _ => rfl)).mans.one_) how⟩⟩
                  have hwhole := whole_of ss m2 hm28
                  have CJ := HCJ.out wholeL _ _ wr (by decide) hmade (by rw [List.length_map, PQ_length]; omega) (fun r hr => by
                    obtain ⟨x, hx, rfl⟩ := List.mem_map.1 hr
                    have := PQ_one ss m2 x hx
                    show x.2.length ≤ _; omega)
                  rw [hwhole.1] at CJ
                  obtain ⟨J, hJ⟩ : ∃ J, J = ofR wholeL ((PQ ss m2).map Prod.fst).flatten ((PQ ss m2).map Prod.snd).flatten := ⟨_, rfl⟩
                  rw [← hJ] at CJ
                  have CJ2 : Calls Tryd.prog 25 #[.string ⟨#[119, 104, 111, 108, 101]⟩, .slice pv k cv] wr fun e w' => (∃ u, e = .returned (.tuple #[u, .int .i64 0]) ∧ RpIs J u w') ∧ Kept wr w' := CJ
                  have hjm : J.mans.length = k := by rw [hJ, hkm]; exact hwhole.2.2
                  have HFT : Hid (decide (fitsQ J AL.data.toList) = true) := Lib.hid (by
                    have e : AL.data.toList = ((PQ ss m2).map Prod.fst).flatten := by rw [HALV.out, hkm, str_list]
                    rw [e, hJ]
                    exact decide_eq_true ⟨hwhole.2.1, rfl, rfl, rfl⟩)
                  have HALZ : Hid (AL.size ≤ 100000) := Lib.hid (by have := PQ_len ss k; rw [HALV.out, str_size]; omega)
                  have HJM : Hid (J.mans.length ≤ 100000) := Lib.hid (by omega)
                  obtain ⟨jn, hjn⟩ : ∃ x, x = str J.name := ⟨_, rfl⟩
                  obtain ⟨jz, hjz⟩ : ∃ x, x = J.size := ⟨_, rfl⟩
                  obtain ⟨jx, hjx⟩ : ∃ x, x = J.re := ⟨_, rfl⟩
                  obtain ⟨jy, hjy⟩ : ∃ x, x = J.im := ⟨_, rfl⟩
                  have HCRJ : Hid (∀ u W, RpIs J u W → ∃ p c, u = .agg #[.string jn, .int .i64 jz, .int .i64 jx, .int .i64 jy, .slice p k c]) := Lib.hid (fun u W h => by
                    obtain ⟨p, c, e⟩ := h.cutQ
                    exact ⟨p, c, by rw [e, hjn, hjz, hjx, hjy, hjm]⟩)
                  clear hkm hmade how hwhole CJ hJ hjm hjn hjz hjx hjy HOW HMAP HEACH HALV HKL hk hlt HLA
                  go_wp2_with fail
                  refine CJ2.mono ?_
                  rintro e w2 ⟨⟨u, rfl, hu⟩, hk2⟩
                  obtain ⟨pj, cj, rfl⟩ := HCRJ.out _ _ hu
                  obtain ⟨W3, hW3⟩ : ∃ W, W = w2.alloc (.cells #[.string jn, .int .i64 jz, .int .i64 jx, .int .i64 jy, .slice pj k cj] 24) := ⟨_, rfl⟩
                  have hk3 : Kept w2 W3 := by rw [hW3]; exact box_below _ _
                  have HK3 : Hid (Kept w W3) := Lib.hid ((HKK.out.then hk2).then hk3)
                  have HR3 : Hid (Row5 w2.heap.size (.string jn) (.int .i64 jz) (.int .i64 jx) (.int .i64 jy) (.slice pj k cj) W3) := Lib.hid ⟨by rw [hW3]; exact heap_alloc_last w2 _⟩
                  have CF := HCF.out J _ AL W3 (hu.later hk3) HJM.out HALZ.out
                  rw [HFT.out] at CF
                  have HW3 := Lib.hid hW3
                  have a0 := HR3.out.c0
                  have a1 := HR3.out.c1
                  have a2 := HR3.out.c2
                  have a3 := HR3.out.c3
                  have a4 := HR3.out.c4
                  clear hu hk2 hk3 hW3 CJ2
                  rw [HW3.out] at a0 a1 a2 a3 a4
                  go_wp2_with fail
                  rw [← HW3.out]
                  refine CF.mono ?_
                  rintro e w4 ⟨rfl, hk4⟩
                  have HK4 := Lib.hid (HK3.out.then hk4)
                  have e4 := (HR3.out.later hk4).c4
                  clear hk4 CF HK3 HR3 a0 a1 a2 a3 a4
                  go_wp2
                  go_ret
                  exact ⟨by first | rfl | simp, HK4.out⟩
          | true =>
            go_wp2_with fail
            refine (HCO.out).mono ?_
            rintro e w1 ⟨⟨u, rfl, hu⟩, hk1⟩
            obtain ⟨p1, c1, rfl⟩ := HCR.out _ _ hu
            obtain ⟨W2, hW2⟩ : ∃ W, W = w1.alloc (.cells #[.string nm, .int .i64 z, .int .i64 x, .int .i64 y, .slice p1 n1 c1] 24) := ⟨_, rfl⟩
            have hk2 : Kept w1 W2 := by rw [hW2]; exact box_below _ _
            have H02 : Hid (Kept w W2) := Lib.hid ((HKK.out.then hk1).then hk2)
            have HF2 := Lib.hid ((HFEW.out.later hk1).later hk2)
            have HR2 : Hid (Row5 w1.heap.size (.string nm) (.int .i64 z) (.int .i64 x) (.int .i64 y) (.slice p1 n1 c1) W2) := Lib.hid ⟨by rw [hW2]; exact heap_alloc_last w1 _⟩
            have HU2 := Lib.hid (hu.later hk2)
            have HW2 := Lib.hid hW2
            clear hk1 hu hk2 hW2 HFEW HKK
            go_wp2_with (with_reducible refine wpList_halt (d := 53) rfl ?_)
            unfold Halted
            rw [← HW2.out]
            go_wp2_with fail
            refine (HCD.out W2 HF2.out).mono ?_
            rintro e w3 ⟨⟨u, rfl, hu⟩, hk3⟩
            obtain ⟨p2, c2, rfl⟩ := HCR.out _ _ hu
            obtain ⟨W4, hW4⟩ : ∃ W, W = w3.alloc (.cells #[.string nm, .int .i64 z, .int .i64 x, .int .i64 y, .slice p2 n1 c2] 24) := ⟨_, rfl⟩
            have hk4 : Kept w3 W4 := by rw [hW4]; exact box_below _ _
            have H04 : Hid (Kept w W4) := Lib.hid ((H02.out.then hk3).then hk4)
            have HR4 : Hid (Row5 w1.heap.size (.string nm) (.int .i64 z) (.int .i64 x) (.int .i64 y) (.slice p1 n1 c1) W4) := Lib.hid ((HR2.out.later hk3).later hk4)
            have HX4 : Hid (Row5 w3.heap.size (.string nm) (.int .i64 z) (.int .i64 x) (.int .i64 y) (.slice p2 n1 c2) W4) := Lib.hid ⟨by rw [hW4]; exact heap_alloc_last w3 _⟩
            have HU4 := Lib.hid ((HU2.out.later hk3).later hk4)
            have HV4 := Lib.hid (hu.later hk4)
            have HW4 := Lib.hid hW4
            clear hk3 hu hk4 hW4 HW2 H02 HR2 HU2 HF2
            have a0 := HR4.out.c0
            have a1 := HR4.out.c1
            have a2 := HR4.out.c2
            have a3 := HR4.out.c3
            have a4 := HR4.out.c4
            have d0 := HX4.out.c0
            have d1 := HX4.out.c1
            have d2 := HX4.out.c2
            have d3 := HX4.out.c3
            have d4 := HX4.out.c4
            have CS := rsame16_any R R _ _ W4 HU4.out HV4.out HRL2.out HRL2.out
            rw [decide_eq_true (rfl : R = R)] at CS
            go_wp2_with (with_reducible refine wpList_halt (d := 56) rfl ?_)
            unfold Halted
            rw [← HW4.out]
            go_wp2_with fail
            refine CS.mono ?_
            rintro e w5 ⟨rfl, hk5⟩
            have H05 := Lib.hid (H04.out.then hk5)
            clear hk5 CS HW4 H04 HR4 HX4 HU4 HV4 a0 a1 a2 a3 a4 d0 d1 d2 d3 d4
            have AW1 := HAW.out w5 (HT.out.later H05.out)
            have e1 : (GE == 0) = true := by rw [HGE.out]; rfl
            have e2 : (GE != 0) = false := by rw [HGE.out]; rfl
            go_wp2_with fail
            refine AW1.mono ?_
            rintro e wL ⟨rfl, hk7⟩
            have HL0 := Lib.hid (H05.out.then hk7)
            have HKB : Hid (w.heap.size ≤ wL.heap.size) := Lib.hid HL0.out.size
            clear hk7 AW1 H05
            go_wp2
            go_loopg [13, 14, 15] m2 (fun gh y13 y14 y15 wr => ∃ (k : Nat) (LA : List (Rp × Value)) (AL : ByteArray), k + gh = m2 ∧ y15 = .int .i64 k ∧ y13 = .string AL ∧ LA.length = k ∧ Hid (wr.ownsRow wL.heap.size 24 5 y14 LA.length (flatR rpL LA)) ∧
              Hid (LA.map Prod.fst = (PQ ss k).map (fun x => ofR partL x.1 x.2)) ∧ Hid (∀ a ∈ LA, ∀ W, OnBut wL.heap.size y14 wr W → RpAt a.1 a.2 W) ∧ Hid (AL = str ((PQ ss k).map Prod.fst).flatten) ∧ Hid (Kept w wr) ∧ Hid (Kept wL wr))
            case atStart => exact ⟨0, [], ⟨#[]⟩, by omega, rfl, rfl, rfl, Lib.hid (World.ownsRow_nil _ _ _ _), Lib.hid rfl, Lib.hid (fun a ha => by cases ha), Lib.hid rfl, HL0, Lib.hid (Below.refl _ wL)⟩
            case round =>
              clear HL0
              obtain ⟨k, LA, AL, hk, rfl, rfl, hla, HOW, HMAP, HEACH, HALV, HKK, HKL⟩ := hrel
              obtain ⟨pv, cv, htv, -, -⟩ := own_slice HOW.out
              subst htv
              rw [hla] at HOW HEACH ⊢
              have HLA := Lib.hid hla
              clear hla
              by_cases hlt : k < m2
              · have hki : (k : Int) < n2 := by omega
                have bk : decide ((k : Int) < (n2 : Int)) = true := by simpa using hki
                have hki8 : (k : Int) < 8 := by omega
                have bk8 : decide ((k : Int) < 8) = true := by simpa using hki8
                have hki0 : (0 : Int) ≤ k := by omega
                have hks : k < ss.length := by rw [← HNS.out]; omega
                rcases HSC.out with h0 | ⟨b, off, hp, hcell⟩
                · rw [h0] at hks
                  cases hks
                subst hp
                have d0 := Kept.cell HKK.out (hcell k hks)
                obtain ⟨st, hst⟩ : ∃ s, s = ss[k] := ⟨_, rfl⟩
                rw [← hst] at d0
                have CU := fun W => cut16_any st W
                obtain ⟨S, hS⟩ : ∃ S, S = st.extract 0 400 := ⟨_, rfl⟩
                rw [← hS] at CU
                have hSz : S.size ≤ 400 := by rw [hS, ByteArray.size_extract]; omega
                have hSl : S.data.toList.length = S.size := data_len S
                obtain ⟨k1, hk1⟩ : ∃ k1, k1 = k + 1 := ⟨_, rfl⟩
                have hPQ : PQ ss k1 = PQ ss k ++ [(S.data.toList, [k1])] := by
                  rw [hk1]
                  show PQ ss k ++ [((ss.getD k ⟨#[]⟩).extract 0 400 |>.data.toList, [k + 1])] = _
                  rw [List.getD_eq_getElem?_getD, List.getElem?_eq_getElem hks, hS, hst]
                  rfl
                have v1 : IntKind.i64.wrap ((k : Int) + 1) = (k1 : Int) := by rw [show (k : Int) + 1 = (k1 : Int) by omega]; exact IntWalk.i64_in _ (by omega)
                have v2 : IntKind.u32.wrap (k1 : Int) = (k1 : Int) := IntWalk.u32_in _ (by omega)
                have HK1 : Hid (k1 = k + 1 ∧ k + gk = m2 ∧ k < m2 ∧ m2 ≤ 8) := Lib.hid ⟨hk1, hk, hlt, hm28⟩
                obtain ⟨W1, hW1⟩ : ∃ W, W = wr.alloc (.cells #[.int .u32 (k1 : Nat)] 53) := ⟨_, rfl⟩
                have hkw1 : Kept wr W1 := by rw [hW1]; exact box_below _ _
                have hs1 : W1.heap.size = wr.heap.size + 1 := by rw [hW1]; simp
                have hg1 : W1.heap[wr.heap.size]? = some (.cells #[.int .u32 (k1 : Nat)] 53 (0, 0)) := by rw [hW1]; exact heap_alloc_last wr _
                have hUS : ∀ W : World, W.heap[wr.heap.size]? = W1.heap[wr.heap.size]? → UsAt [k1] (.slice (some ⟨wr.heap.size, 0, none⟩) 1 1) W := fun W hW =>
                  ⟨fun p n c e => by simp only [Value.slice.injEq] at e; omega, fun a ha => by rw [List.mem_singleton.1 ha]; show k1 < 4294967296; omega, rfl, fun x hx => by simp [flatR, uL] at hx; rw [hx]; rfl, _, 1, rfl, Or.inr ⟨_, 0, rfl, fun j x hx => by
                    rw [Nat.zero_add, cell_of_row _ _ _ _ _ _ (hW.trans hg1)]
                    simpa [flatR, uL] using hx⟩⟩
                have hmay : ofQ partL S.data.toList [k1] = some (ofR partL S.data.toList [k1]) := if_pos (may_part _ _ (by omega) (fun x hx => by rw [List.mem_singleton.1 hx]; unfold manQ; omega) (by simp))
                have CO1 := HCOS.out partL S [k1] _ W1 (by decide) (by omega) (hUS W1 rfl) (by simp)
                rw [hmay] at CO1
                have CO2 : Calls Tryd.prog 21 #[.string ⟨#[112, 97, 114, 116]⟩, .string S, .slice (some ⟨wr.heap.size, 0, none⟩) 1 1] W1 fun e w' => (∃ u, e = .returned (.tuple #[u, .int .i64 0]) ∧ ∀ W, OnNew W1 w' W → UsAt [k1] (.slice (some ⟨wr.heap.size, 0, none⟩) 1 1) W → RpIs (ofR partL S.data.toList [k1]) u W) ∧ Kept W1 w' := CO1
                obtain ⟨R, hR⟩ : ∃ R, R = ofR partL S.data.toList [k1] := ⟨_, rfl⟩
                rw [← hR] at CO2
                obtain ⟨AL2, hAL2⟩ : ∃ Z, Z = AL ++ S := ⟨_, rfl⟩
                have eal : AL ++ S = AL2 := hAL2.symm
                have HAL2 : Hid (AL2 = str ((PQ ss k1).map Prod.fst).flatten) := Lib.hid (by rw [hAL2, HALV.out, hPQ, List.map_append, List.flatten_append]; simp [← str_append, str_data])
                have HMP : Hid ((PQ ss k1).map (fun x => ofR partL x.1 x.2) = (PQ ss k).map (fun x => ofR partL x.1 x.2) ++ [R]) := Lib.hid (by rw [hPQ, List.map_append, hR]; rfl)
                have halz : AL.size ≤ 400 * k := by rw [HALV.out, str_size]; exact PQ_len ss k
                have hsum : ¬ 9223372036854775807 < AL.size + S.size := by omega
                have hsum2 : AL.size + S.size ≤ 9223372036854775807 := by omega
                have HUS := Lib.hid hUS
                have HKW1 := Lib.hid hkw1
                have HS1 := Lib.hid hs1
                have HW1 := Lib.hid hW1
                clear hks hcell hst hS hSz hSl hk1 hPQ hk hlt hW1 hkw1 hs1 hg1 hUS hmay CO1 hR hAL2 halz
                go_wp2_with fail
                refine (CU _).mono ?_
                rintro e w' ⟨rfl, rfl⟩
                clear CU d0
                go_wp2_with fail
                rw [← HW1.out]
                refine CO2.mono ?_
                rintro e w2 ⟨⟨u, rfl, hu⟩, hk2⟩
                have hself : RpIs R u w2 := hu w2 (fun _ _ _ => rfl) (HUS.out w2 (hk2.block _ (by have := HS1.out; omega)))
                obtain ⟨tu, hue, -⟩ := hself
                subst hue
                have hall : ∀ W, (∀ j, wr.heap.size ≤ j → j < w2.heap.size → W.heap[j]? = w2.heap[j]?) → RpAt R tu W := fun W hW => by
                  have hb := hk2.block wr.heap.size (by have := HS1.out; omega)
                  obtain ⟨t2, e2, h2⟩ := hu W (fun j h1 h2 => hW j (by have := HS1.out; omega) h2) (HUS.out W ((hW _ (Nat.le_refl _) (by have := hk2.size; have := HS1.out; omega)).trans hb))
                  have e3 : t2 = tu := by
                    have := congrArg (fun v : Value => (match v with | .agg X => X[4]? | _ => none)) e2
                    exact (Option.some.inj this).symm
                  rw [e3] at h2
                  exact h2
                have hone : tu.oneCell' = true := (hall w2 (fun _ _ _ => rfl)).mans.one_
                obtain ⟨p9, c9, htu, -, -⟩ := (hall w2 (fun _ _ _ => rfl)).mans.out encU
                have HKw2 : Hid (Kept wr w2) := Lib.hid (HKW1.out.then hk2)
                have HALL := Lib.hid hall
                have hxs : rpC R tu = #[.string (str R.name), .int .i64 R.size, .int .i64 R.re, .int .i64 R.im, .slice p9 R.mans.length c9] := by rw [htu]; rfl
                obtain ⟨nm, hnm⟩ : ∃ x, x = str R.name := ⟨_, rfl⟩
                obtain ⟨z, hz⟩ : ∃ x, x = R.size := ⟨_, rfl⟩
                obtain ⟨x, hx⟩ : ∃ x, x = R.re := ⟨_, rfl⟩
                obtain ⟨y, hy⟩ : ∃ x, x = R.im := ⟨_, rfl⟩
                obtain ⟨nn, hnn⟩ : ∃ x, x = R.mans.length := ⟨_, rfl⟩
                rw [← hnm, ← hz, ← hx, ← hy, ← hnn] at hxs
                rw [hxs]
                have HXS := Lib.hid hxs
                obtain ⟨W3, hW3⟩ : ∃ W, W = w2.alloc (.cells #[.string nm, .int .i64 z, .int .i64 x, .int .i64 y, .slice p9 nn c9] 24) := ⟨_, rfl⟩
                have hk3 : Kept w2 W3 := by rw [hW3]; exact box_below _ _
                have HK3 : Hid (Kept w2 W3) := Lib.hid hk3
                have HR3 : Hid (Row5 w2.heap.size (.string nm) (.int .i64 z) (.int .i64 x) (.int .i64 y) (.slice p9 nn c9) W3) := Lib.hid ⟨by rw [hW3]; exact heap_alloc_last w2 _⟩
                have HW3 := Lib.hid hW3
                have HONE := Lib.hid (fun (W : World) => flat_rec encRp W 24 (R, tu) hone #[.string nm, .int .i64 z, .int .i64 x, .int .i64 y, .slice p9 nn c9] (by rw [← hxs]; rfl))
                have HOW3 := Lib.hid (own_stay HOW.out (fun j hj => (HKw2.out.then hk3).block j (HOW.out.lt j hj).2))
                have HLA2 : Hid (LA.length = k ∧ k < 8) := Lib.hid ⟨HLA.out, by omega⟩
                clear hk2 hu hall hone htu hxs hnm hz hx hy hnn hW3 hk3 CO2
                go_wp2_with (with_reducible refine wpList_halt (d := 103) rfl ?_)
                unfold Halted
                rw [← HW3.out]
                have a0 := HR3.out.c0
                have a1 := HR3.out.c1
                have a2 := HR3.out.c2
                have a3 := HR3.out.c3
                have a4 := HR3.out.c4
                go_wp2_with (first
                  | (with_reducible refine wpList_buildR rfl _ _ _ rfl 5 ir zr Tryd.underlying49 HIR.out HZ1.out HZ0.out (by decide) (by decide) #[.string nm, .int .i64 z, .int .i64 x, .int .i64 y, .slice p9 nn c9] rfl rfl ?_)
                  | (at_builtin; refine wpList_append_flat rfl _ _ 49 rfl wL.heap.size 24 ir zr 5 64 Tryd.underlying49 HIR.out HZ0.out HZ1.out HZ2.out HZS.out (by decide) _ _ _ rfl (HOW3.out.alloc _) _ 1 (rpL (R, tu)) rfl (HONE.out _) ?qd2 ?qd3 ?qd4 ?_))
                case qd2 => have := HLA2.out; unfold maxLen; omega
                case qd3 => have := HLA2.out; omega
                case qd4 => have := HKL.out.size; have := HKw2.out.size; have := HK3.out.size; simp; omega
                intro v4 w9 hown hgrow hwhere
                have HKK9 : Hid (Kept w w9) := Lib.hid (append_keptX ((HKK.out.then HKw2.out).then HK3.out) HKB.out HOW3.out hgrow)
                have HKL9 : Hid (Kept wL w9) := Lib.hid (append_keptX ((HKL.out.then HKw2.out).then HK3.out) (Nat.le_refl _) HOW3.out hgrow)
                have HOW9 : Hid (w9.ownsRow wL.heap.size 24 5 v4 (LA ++ [(R, tu)]).length (flatR rpL (LA ++ [(R, tu)]))) := Lib.hid (by
                  rw [List.length_append, ← flatR_snoc, HLA.out]
                  exact hown)
                have HMAP9 : Hid ((LA ++ [(R, tu)]).map Prod.fst = (PQ ss k1).map (fun x => ofR partL x.1 x.2)) := Lib.hid (by rw [HMP.out, ← HMAP.out, List.map_append]; rfl)
                have HEACH9 : Hid (∀ a ∈ LA ++ [(R, tu)], ∀ W, OnBut wL.heap.size v4 w9 W → RpAt a.1 a.2 W) := Lib.hid (each_next HEACH.out HALL.out HOW.out HKL.out.size HKw2.out HK3.out hgrow (by simpa using hwhere))
                obtain ⟨pv', cv', htv', -, -⟩ := own_slice hown
                subst htv'
                clear hown hgrow hwhere HMAP HEACH HALL a0 a1 a2 a3 a4
                go_wp2
                go_roundg (m2 - k1)
                · exact ⟨k1, LA ++ [(R, tu)], AL2, by have := HK1.out; omega, by first | rfl | (have := HK1.out; congr 1; omega), rfl, by have := HK1.out; have := HLA2.out; simp; omega, HOW9, HMAP9, HEACH9, HAL2, HKK9, HKL9⟩
                · have := HK1.out; omega
              · have hx : (¬ ((k : Int) < (n2 : Int)) ∧ decide ((k : Int) < (n2 : Int)) = false) ∨ (((k : Int) < (n2 : Int) ∧ decide ((k : Int) < (n2 : Int)) = true) ∧ ¬ ((k : Int) < 8) ∧ decide ((k : Int) < 8) = false) := by
                  by_cases h : k < n2
                  · exact Or.inr ⟨⟨by omega, decide_eq_true (by omega)⟩, by omega, decide_eq_false (by omega)⟩
                  · exact Or.inl ⟨by omega, decide_eq_false (by omega)⟩
                rcases hx with ⟨hki, bk⟩ | ⟨⟨hki, bk⟩, hki8, bk8⟩
                all_goals
                  have hkm : k = m2 := by omega
                  have how : wr.ownsRow wL.heap.size 24 5 (.slice pv k cv) LA.length (flatR rpL LA) := by rw [HLA.out]; exact HOW.out
                  have hmade : RpsAt ((PQ ss m2).map (fun x => ofR partL x.1 x.2)) (.slice pv k cv) wr := ⟨LA, by rw [← hkm]; exact HMAP.out, ⟨fun a ha => HEACH.out a ha wr (fun _ _ _ _ => rfl), RowsAt.own encRp (fun a ha => (HEACH.out a ha wr (fun _ _ _ _ => rfl)).mans.one_) how⟩⟩
                  have hwhole := whole_of ss m2 hm28
                  have CJ := HCJ.out wholeL _ _ wr (by decide) hmade (by rw [List.length_map, PQ_length]; omega) (fun r hr => by
                    obtain ⟨x, hx, rfl⟩ := List.mem_map.1 hr
                    have := PQ_one ss m2 x hx
                    show x.2.length ≤ _; omega)
                  rw [hwhole.1] at CJ
                  obtain ⟨J, hJ⟩ : ∃ J, J = ofR wholeL ((PQ ss m2).map Prod.fst).flatten ((PQ ss m2).map Prod.snd).flatten := ⟨_, rfl⟩
                  rw [← hJ] at CJ
                  have CJ2 : Calls Tryd.prog 25 #[.string ⟨#[119, 104, 111, 108, 101]⟩, .slice pv k cv] wr fun e w' => (∃ u, e = .returned (.tuple #[u, .int .i64 0]) ∧ RpIs J u w') ∧ Kept wr w' := CJ
                  have hjm : J.mans.length = k := by rw [hJ, hkm]; exact hwhole.2.2
                  have HFT : Hid (decide (fitsQ J AL.data.toList) = true) := Lib.hid (by
                    have e : AL.data.toList = ((PQ ss m2).map Prod.fst).flatten := by rw [HALV.out, hkm, str_list]
                    rw [e, hJ]
                    exact decide_eq_true ⟨hwhole.2.1, rfl, rfl, rfl⟩)
                  have HALZ : Hid (AL.size ≤ 100000) := Lib.hid (by have := PQ_len ss k; rw [HALV.out, str_size]; omega)
                  have HJM : Hid (J.mans.length ≤ 100000) := Lib.hid (by omega)
                  obtain ⟨jn, hjn⟩ : ∃ x, x = str J.name := ⟨_, rfl⟩
                  obtain ⟨jz, hjz⟩ : ∃ x, x = J.size := ⟨_, rfl⟩
                  obtain ⟨jx, hjx⟩ : ∃ x, x = J.re := ⟨_, rfl⟩
                  obtain ⟨jy, hjy⟩ : ∃ x, x = J.im := ⟨_, rfl⟩
                  have HCRJ : Hid (∀ u W, RpIs J u W → ∃ p c, u = .agg #[.string jn, .int .i64 jz, .int .i64 jx, .int .i64 jy, .slice p k c]) := Lib.hid (fun u W h => by
                    obtain ⟨p, c, e⟩ := h.cutQ
                    exact ⟨p, c, by rw [e, hjn, hjz, hjx, hjy, hjm]⟩)
                  clear hkm hmade how hwhole CJ hJ hjm hjn hjz hjx hjy HOW HMAP HEACH HALV HKL hk hlt HLA
                  go_wp2_with fail
                  refine CJ2.mono ?_
                  rintro e w2 ⟨⟨u, rfl, hu⟩, hk2⟩
                  obtain ⟨pj, cj, rfl⟩ := HCRJ.out _ _ hu
                  obtain ⟨W3, hW3⟩ : ∃ W, W = w2.alloc (.cells #[.string jn, .int .i64 jz, .int .i64 jx, .int .i64 jy, .slice pj k cj] 24) := ⟨_, rfl⟩
                  have hk3 : Kept w2 W3 := by rw [hW3]; exact box_below _ _
                  have HK3 : Hid (Kept w W3) := Lib.hid ((HKK.out.then hk2).then hk3)
                  have HR3 : Hid (Row5 w2.heap.size (.string jn) (.int .i64 jz) (.int .i64 jx) (.int .i64 jy) (.slice pj k cj) W3) := Lib.hid ⟨by rw [hW3]; exact heap_alloc_last w2 _⟩
                  have CF := HCF.out J _ AL W3 (hu.later hk3) HJM.out HALZ.out
                  rw [HFT.out] at CF
                  have HW3 := Lib.hid hW3
                  have a0 := HR3.out.c0
                  have a1 := HR3.out.c1
                  have a2 := HR3.out.c2
                  have a3 := HR3.out.c3
                  have a4 := HR3.out.c4
                  clear hu hk2 hk3 hW3 CJ2
                  rw [HW3.out] at a0 a1 a2 a3 a4
                  go_wp2_with fail
                  rw [← HW3.out]
                  refine CF.mono ?_
                  rintro e w4 ⟨rfl, hk4⟩
                  have HK4 := Lib.hid (HK3.out.then hk4)
                  have e4 := (HR3.out.later hk4).c4
                  clear hk4 CF HK3 HR3 a0 a1 a2 a3 a4
                  go_wp2
                  go_ret
                  exact ⟨by first | rfl | simp, HK4.out⟩
  · have hNM : name = str NL := by rw [hNL, List.take_of_length_le (by omega)]; exact hname.symm
    have b2 : decide ((name.size : Int) > 60) = false := decide_eq_false (by omega)
    have b2i : ¬ (60 : Int) < name.size := by omega
    clear hNL h2 hname hns
    obtain ⟨G, hG⟩ : ∃ G, G = joinQ NL FW := ⟨_, rfl⟩
    obtain ⟨R, hR⟩ : ∃ R, R = G.getD Rp.zero := ⟨_, rfl⟩
    obtain ⟨GE, hge⟩ : ∃ e, e = okV G := ⟨_, rfl⟩
    obtain ⟨GO, hgo⟩ : ∃ e, e = G.isSome := ⟨_, rfl⟩
    have hco := fun u W (h : RpsAt FW u W) => HCJ.out NL FW u W hNl h hFl hFm
    have hcd := fun u W (h : RpsAt FW u W) => rjoin16_any NL (by unfold maxLen; omega) FW u W h (by omega) (fun r hr => by have := hFm r hr; omega)
    rw [← hG, ← hR, ← hge, ← hNM] at hco
    rw [← hG, ← hR, ← hgo, ← hNM] at hcd
    have hrl : R.mans.length ≤ 1024 := by
      rw [hR, hG]
      unfold joinQ
      split
      · rename_i hh
        exact hh.2.2.2.2.1
      · exact Nat.zero_le _
    have HRL2 : Hid (R.mans.length ≤ 1000000) := Lib.hid (by omega)
    have HGE : Hid (GE = (if GO then 0 else 1)) := Lib.hid (by rw [hge, hgo]; rfl)
    obtain ⟨nm, hnm⟩ : ∃ x, x = str R.name := ⟨_, rfl⟩
    obtain ⟨z, hz⟩ : ∃ x, x = R.size := ⟨_, rfl⟩
    obtain ⟨x, hx⟩ : ∃ x, x = R.re := ⟨_, rfl⟩
    obtain ⟨y, hy⟩ : ∃ x, x = R.im := ⟨_, rfl⟩
    obtain ⟨n1, hn1⟩ : ∃ x, x = R.mans.length := ⟨_, rfl⟩
    have HCR : Hid (∀ u W, RpIs R u W → ∃ p c, u = .agg #[.string nm, .int .i64 z, .int .i64 x, .int .i64 y, .slice p n1 c]) := Lib.hid (fun u W h => by
      obtain ⟨p, c, e⟩ := h.cutQ
      exact ⟨p, c, by rw [e, hnm, hz, hx, hy, hn1]⟩)
    have HCO0 := Lib.hid hco
    have HCD0 := Lib.hid hcd
    clear hG hR hge hgo hco hcd hrl hnm hz hx hy hn1 hNl hFl hFm hNM
    go_enter Tryd.func7, Tryd.ntmps7
    go_wp2
    go_loopg [7, 8] m (fun gh y7 y8 wr => ∃ (k : Nat) (LA : List (Rp × Value)), k + gh = m ∧ y8 = .int .i64 k ∧ LA.length = k ∧ Hid (wr.ownsRow w.heap.size 24 5 y7 LA.length (flatR rpL LA)) ∧
      Hid (LA.map Prod.fst = (l.take k).map fewQ) ∧ Hid (∀ a ∈ LA, ∀ W, Kept w W → RpAt a.1 a.2 W) ∧ Hid (Kept w wr))
    case atStart => exact ⟨0, [], by omega, rfl, rfl, Lib.hid (World.ownsRow_nil _ _ _ _), Lib.hid (by simp), Lib.hid (fun a ha => by cases ha), Lib.hid (Below.refl _ w)⟩
    case round =>
      obtain ⟨k, LA, hk, rfl, hla, HOW, HMAP, HEACH, HKK⟩ := hrel
      obtain ⟨pv, cv, htv, -, -⟩ := own_slice HOW.out
      subst htv
      rw [hla] at HOW ⊢
      have HLA := Lib.hid hla
      clear hla
      by_cases hlt : k < m
      · have hki : (k : Int) < n := by omega
        have bk : decide ((k : Int) < (n : Int)) = true := by simpa using hki
        have hki8 : (k : Int) < 8 := by omega
        have bk8 : decide ((k : Int) < 8) = true := by simpa using hki8
        have hkA : k < A.length := by rw [← HNA.out]; omega
        have hkl : k < l.length := by rw [← HNL.out]; omega
        obtain ⟨b, off, cs, t, fr, hp, hg, hsz, hex, hcl⟩ := (HNA.out ▸ HIN.out.rows : RowsAt rpL 5 okRp A (.slice p A.length c) w).elem encRp hkA
        subst hp
        have hat : RpAt A[k].1 A[k].2 w := HIN.out.each _ (List.getElem_mem hkA)
        have hAk : A[k].1 = l[k] := by
          have e : ∀ (m : List Rp) (h : A.map Prod.fst = m) (hm : k < m.length), A[k].1 = m[k] := fun m h hm => by subst h; simp
          exact e l HAL.out hkl
        obtain ⟨r, hr⟩ : ∃ r, r = l[k] := ⟨_, rfl⟩
        rw [hAk, ← hr] at hat
        have htk : l.take (k + 1) = l.take k ++ [r] := by rw [hr]; exact List.take_succ_eq_append_getElem hkl
        obtain ⟨tr, htr⟩ : ∃ x, x = A[k].2 := ⟨_, rfl⟩
        rw [← htr] at hat
        have hAk2 : A[k] = (r, tr) := Prod.ext (by rw [hAk, hr]) (by rw [htr])
        rw [hAk2] at hex
        have hri : RpIs r (.agg (rpC r tr)) w := ⟨tr, rfl, hat⟩
        obtain ⟨X, hX⟩ : ∃ X, X = rpC r tr := ⟨_, rfl⟩
        have hex' : cs.extract (off + k * 5) (off + k * 5 + 5) = X := by rw [hex, hX]; rfl
        have HES : Hid (off + k * 5 + 5 ≤ cs.size ∧ cs.extract (off + k * 5) (off + k * 5 + 5) = X) := Lib.hid ⟨hsz, hex'⟩
        rw [← hX] at hri
        have CFW := few16_any r (.agg X) w wr hri
        have IX := fun W => idx_rec (P := Tryd.prog) Tryd.underlying49 (fun w => Tryd.sizeOf24 w) b off n c k (by omega) W
        have g2 : wr.heap[b]? = some (.cells cs t fr) := HKK.out.row hg
        obtain ⟨k1, hk1⟩ : ∃ k1, k1 = k + 1 := ⟨_, rfl⟩
        have v1 : IntKind.i64.wrap ((k : Int) + 1) = (k1 : Int) := by rw [show (k : Int) + 1 = (k1 : Int) by omega]; exact IntWalk.i64_in _ (by omega)
        have HK1 : Hid (k1 = k + 1 ∧ k + gk = m ∧ k < m ∧ m ≤ 8) := Lib.hid ⟨hk1, hk, hlt, hm8⟩
        have HTK : Hid ((l.take k1).map fewQ = (l.take k).map fewQ ++ [fewQ r]) := Lib.hid (by rw [hk1, htk, List.map_append]; rfl)
        clear hkA hkl hg hsz hex hcl hat hAk hr htk htr hAk2 hX hex' hri hk1 hk hlt
        go_wp2_with (with_reducible refine wpList_load_sub rfl _ _ rfl b (off + k * 5) 5 rfl t cs fr _ g2 Tryd.underlying24 rfl infoRp HES.out.1 _ HES.out.2 ?_)
        refine CFW.mono ?_
        rintro e w2 ⟨u, rfl, hu, hk2⟩
        obtain ⟨tu, hue, -⟩ := hu w (Below.refl _ w)
        subst hue
        have hall : ∀ W, Kept w W → RpAt (fewQ r) tu W := fun W hW => by
          obtain ⟨t2, e2, h2⟩ := hu W hW
          have e3 : t2 = tu := by
            have := congrArg (fun v : Value => (match v with | .agg X => X[4]? | _ => none)) e2
            exact (Option.some.inj this).symm
          rw [e3] at h2
          exact h2
        have hone : tu.oneCell' = true := (hall w (Below.refl _ w)).mans.one_
        obtain ⟨XT, hXT⟩ : ∃ X, X = rpC (fewQ r) tu := ⟨_, rfl⟩
        have HXT := Lib.hid hXT
        have HZX : Hid (XT.size = 5) := Lib.hid (by rw [hXT]; rfl)
        have HONE := Lib.hid (fun (W : World) => flat_rec encRp W 24 (fewQ r, tu) hone XT (by rw [hXT]; rfl))
        have HOW2 := Lib.hid (own_stay HOW.out (fun j hj => hk2.block j (HOW.out.lt j hj).2))
        have HKK2 := Lib.hid (HKK.out.then hk2)
        have HLA2 : Hid (LA.length = k ∧ k < 8) := Lib.hid ⟨HLA.out, by omega⟩
        have HALL := Lib.hid hall
        rw [← hXT]
        clear hXT hu hk2 hall hone HOW HKK g2 CFW
        go_wp2_with (first
          | (with_reducible refine wpList_buildR rfl _ _ _ rfl 5 ir zr Tryd.underlying49 HIR.out HZ1.out HZ0.out (by decide) (by decide) XT rfl HZX.out ?_)
          | (at_builtin; refine wpList_append_flat rfl _ _ 49 rfl w.heap.size 24 ir zr 5 64 Tryd.underlying49 HIR.out HZ0.out HZ1.out HZ2.out HZS.out (by decide) _ _ _ rfl (HOW2.out.alloc _) _ 1 (rpL (fewQ r, tu)) rfl (HONE.out _) ?qd2 ?qd3 ?qd4 ?_))
        case qd2 => have := HLA2.out; unfold maxLen; omega
        case qd3 => have := HLA2.out; omega
        case qd4 => have := HKK2.out.size; simp; omega
        intro v4 w9 hown hgrow _
        have HKK9 : Hid (Kept w w9) := Lib.hid (append_keptX HKK2.out (Nat.le_refl _) HOW2.out hgrow)
        have HOW9 : Hid (w9.ownsRow w.heap.size 24 5 v4 (LA ++ [(fewQ r, tu)]).length (flatR rpL (LA ++ [(fewQ r, tu)]))) := Lib.hid (by
          rw [List.length_append, ← flatR_snoc, HLA.out]
          exact hown)
        obtain ⟨pv', cv', htv', -, -⟩ := own_slice hown
        have HMAP9 : Hid ((LA ++ [(fewQ r, tu)]).map Prod.fst = (l.take k1).map fewQ) := Lib.hid (by rw [HTK.out, ← HMAP.out, List.map_append]; rfl)
        have HEACH9 : Hid (∀ a ∈ LA ++ [(fewQ r, tu)], ∀ W, Kept w W → RpAt a.1 a.2 W) := Lib.hid (fun a ha => by
          rcases List.mem_append.1 ha with x | x
          · exact HEACH.out a x
          · rw [List.mem_singleton.1 x]; exact HALL.out)
        subst htv'
        clear hown hgrow HMAP HEACH HALL HTK
        go_wp2
        go_roundg (m - k1)
        · exact ⟨k1, LA ++ [(fewQ r, tu)], by have := HK1.out; omega, by first | rfl | (have := HK1.out; congr 1; omega), by have := HK1.out; have := HLA2.out; simp; omega, HOW9, HMAP9, HEACH9, HKK9⟩
        · have := HK1.out; omega
      · have hx : (¬ ((k : Int) < (n : Int)) ∧ decide ((k : Int) < (n : Int)) = false) ∨ (((k : Int) < (n : Int) ∧ decide ((k : Int) < (n : Int)) = true) ∧ ¬ ((k : Int) < 8) ∧ decide ((k : Int) < 8) = false) := by
          by_cases h : k < n
          · exact Or.inr ⟨⟨by omega, decide_eq_true (by omega)⟩, by omega, decide_eq_false (by omega)⟩
          · exact Or.inl ⟨by omega, decide_eq_false (by omega)⟩
        rcases hx with ⟨hki, bk⟩ | ⟨⟨hki, bk⟩, hki8, bk8⟩
        all_goals
          have hkm : k = m := by omega
          have how : wr.ownsRow w.heap.size 24 5 (.slice pv k cv) LA.length (flatR rpL LA) := by rw [HLA.out]; exact HOW.out
          have hfew : RpsAt FW (.slice pv k cv) wr := ⟨LA, by rw [HFW.out, ← hkm]; exact HMAP.out, ⟨fun a ha => HEACH.out a ha wr HKK.out, RowsAt.own encRp (fun a ha => (HEACH.out a ha wr HKK.out).mans.one_) how⟩⟩
          have HFEW := Lib.hid hfew
          have HCO := Lib.hid (HCO0.out _ wr hfew)
          have HCD := Lib.hid (fun W h => HCD0.out (.slice pv k cv) W h)
          clear hkm hfew how HOW HMAP HEACH hk hlt HLA
          cases GO with
          | false =>
            go_wp2_with fail
            refine (HCO.out).mono ?_
            rintro e w1 ⟨⟨u, rfl, hu⟩, hk1⟩
            obtain ⟨p1, c1, rfl⟩ := HCR.out _ _ hu
            obtain ⟨W2, hW2⟩ : ∃ W, W = w1.alloc (.cells #[.string nm, .int .i64 z, .int .i64 x, .int .i64 y, .slice p1 n1 c1] 24) := ⟨_, rfl⟩
            have hk2 : Kept w1 W2 := by rw [hW2]; exact box_below _ _
            have H02 : Hid (Kept w W2) := Lib.hid ((HKK.out.then hk1).then hk2)
            have HF2 := Lib.hid ((HFEW.out.later hk1).later hk2)
            have HR2 : Hid (Row5 w1.heap.size (.string nm) (.int .i64 z) (.int .i64 x) (.int .i64 y) (.slice p1 n1 c1) W2) := Lib.hid ⟨by rw [hW2]; exact heap_alloc_last w1 _⟩
            have HU2 := Lib.hid (hu.later hk2)
            have HW2 := Lib.hid hW2
            clear hk1 hu hk2 hW2 HFEW HKK
            go_wp2_with (with_reducible refine wpList_halt (d := 53) rfl ?_)
            unfold Halted
            rw [← HW2.out]
            go_wp2_with fail
            refine (HCD.out W2 HF2.out).mono ?_
            rintro e w3 ⟨⟨u, rfl, hu⟩, hk3⟩
            obtain ⟨p2, c2, rfl⟩ := HCR.out _ _ hu
            obtain ⟨W4, hW4⟩ : ∃ W, W = w3.alloc (.cells #[.string nm, .int .i64 z, .int .i64 x, .int .i64 y, .slice p2 n1 c2] 24) := ⟨_, rfl⟩
            have hk4 : Kept w3 W4 := by rw [hW4]; exact box_below _ _
            have H04 : Hid (Kept w W4) := Lib.hid ((H02.out.then hk3).then hk4)
            have HR4 : Hid (Row5 w1.heap.size (.string nm) (.int .i64 z) (.int .i64 x) (.int .i64 y) (.slice p1 n1 c1) W4) := Lib.hid ((HR2.out.later hk3).later hk4)
            have HX4 : Hid (Row5 w3.heap.size (.string nm) (.int .i64 z) (.int .i64 x) (.int .i64 y) (.slice p2 n1 c2) W4) := Lib.hid ⟨by rw [hW4]; exact heap_alloc_last w3 _⟩
            have HU4 := Lib.hid ((HU2.out.later hk3).later hk4)
            have HV4 := Lib.hid (hu.later hk4)
            have HW4 := Lib.hid hW4
            clear hk3 hu hk4 hW4 HW2 H02 HR2 HU2 HF2
            have a0 := HR4.out.c0
            have a1 := HR4.out.c1
            have a2 := HR4.out.c2
            have a3 := HR4.out.c3
            have a4 := HR4.out.c4
            have d0 := HX4.out.c0
            have d1 := HX4.out.c1
            have d2 := HX4.out.c2
            have d3 := HX4.out.c3
            have d4 := HX4.out.c4
            have CS := rsame16_any R R _ _ W4 HU4.out HV4.out HRL2.out HRL2.out
            rw [decide_eq_true (rfl : R = R)] at CS
            go_wp2_with (with_reducible refine wpList_halt (d := 56) rfl ?_)
            unfold Halted
            rw [← HW4.out]
            go_wp2_with fail
            refine CS.mono ?_
            rintro e w5 ⟨rfl, hk5⟩
            have H05 := Lib.hid (H04.out.then hk5)
            clear hk5 CS HW4 H04 HR4 HX4 HU4 HV4 a0 a1 a2 a3 a4 d0 d1 d2 d3 d4
            have AW1 := HAW.out w5 (HT.out.later H05.out)
            have e1 : (GE == 0) = false := by rw [HGE.out]; rfl
            have e2 : (GE != 1) = false := by rw [HGE.out]; rfl
            have e3 : (GE == 1) = true := by rw [HGE.out]; rfl
            go_wp2_with fail
            refine AW1.mono ?_
            rintro e wL ⟨rfl, hk7⟩
            have HL0 := Lib.hid (H05.out.then hk7)
            have HKB : Hid (w.heap.size ≤ wL.heap.size) := Lib.hid HL0.out.size
            clear hk7 AW1 H05
            go_wp2
            go_loopg [13, 14, 15] m2 (fun gh y13 y14 y15 wr => ∃ (k : Nat) (LA : List (Rp × Value)) (AL : ByteArray), k + gh = m2 ∧ y15 = .int .i64 k ∧ y13 = .string AL ∧ LA.length = k ∧ Hid (wr.ownsRow wL.heap.size 24 5 y14 LA.length (flatR rpL LA)) ∧
              Hid (LA.map Prod.fst = (PQ ss k).map (fun x => ofR partL x.1 x.2)) ∧ Hid (∀ a ∈ LA, ∀ W, OnBut wL.heap.size y14 wr W → RpAt a.1 a.2 W) ∧ Hid (AL = str ((PQ ss k).map Prod.fst).flatten) ∧ Hid (Kept w wr) ∧ Hid (Kept wL wr))
            case atStart => exact ⟨0, [], ⟨#[]⟩, by omega, rfl, rfl, rfl, Lib.hid (World.ownsRow_nil _ _ _ _), Lib.hid rfl, Lib.hid (fun a ha => by cases ha), Lib.hid rfl, HL0, Lib.hid (Below.refl _ wL)⟩
            case round =>
              clear HL0
              obtain ⟨k, LA, AL, hk, rfl, rfl, hla, HOW, HMAP, HEACH, HALV, HKK, HKL⟩ := hrel
              obtain ⟨pv, cv, htv, -, -⟩ := own_slice HOW.out
              subst htv
              rw [hla] at HOW HEACH ⊢
              have HLA := Lib.hid hla
              clear hla
              by_cases hlt : k < m2
              · have hki : (k : Int) < n2 := by omega
                have bk : decide ((k : Int) < (n2 : Int)) = true := by simpa using hki
                have hki8 : (k : Int) < 8 := by omega
                have bk8 : decide ((k : Int) < 8) = true := by simpa using hki8
                have hki0 : (0 : Int) ≤ k := by omega
                have hks : k < ss.length := by rw [← HNS.out]; omega
                rcases HSC.out with h0 | ⟨b, off, hp, hcell⟩
                · rw [h0] at hks
                  cases hks
                subst hp
                have d0 := Kept.cell HKK.out (hcell k hks)
                obtain ⟨st, hst⟩ : ∃ s, s = ss[k] := ⟨_, rfl⟩
                rw [← hst] at d0
                have CU := fun W => cut16_any st W
                obtain ⟨S, hS⟩ : ∃ S, S = st.extract 0 400 := ⟨_, rfl⟩
                rw [← hS] at CU
                have hSz : S.size ≤ 400 := by rw [hS, ByteArray.size_extract]; omega
                have hSl : S.data.toList.length = S.size := data_len S
                obtain ⟨k1, hk1⟩ : ∃ k1, k1 = k + 1 := ⟨_, rfl⟩
                have hPQ : PQ ss k1 = PQ ss k ++ [(S.data.toList, [k1])] := by
                  rw [hk1]
                  show PQ ss k ++ [((ss.getD k ⟨#[]⟩).extract 0 400 |>.data.toList, [k + 1])] = _
                  rw [List.getD_eq_getElem?_getD, List.getElem?_eq_getElem hks, hS, hst]
                  rfl
                have v1 : IntKind.i64.wrap ((k : Int) + 1) = (k1 : Int) := by rw [show (k : Int) + 1 = (k1 : Int) by omega]; exact IntWalk.i64_in _ (by omega)
                have v2 : IntKind.u32.wrap (k1 : Int) = (k1 : Int) := IntWalk.u32_in _ (by omega)
                have HK1 : Hid (k1 = k + 1 ∧ k + gk = m2 ∧ k < m2 ∧ m2 ≤ 8) := Lib.hid ⟨hk1, hk, hlt, hm28⟩
                obtain ⟨W1, hW1⟩ : ∃ W, W = wr.alloc (.cells #[.int .u32 (k1 : Nat)] 53) := ⟨_, rfl⟩
                have hkw1 : Kept wr W1 := by rw [hW1]; exact box_below _ _
                have hs1 : W1.heap.size = wr.heap.size + 1 := by rw [hW1]; simp
                have hg1 : W1.heap[wr.heap.size]? = some (.cells #[.int .u32 (k1 : Nat)] 53 (0, 0)) := by rw [hW1]; exact heap_alloc_last wr _
                have hUS : ∀ W : World, W.heap[wr.heap.size]? = W1.heap[wr.heap.size]? → UsAt [k1] (.slice (some ⟨wr.heap.size, 0, none⟩) 1 1) W := fun W hW =>
                  ⟨fun p n c e => by simp only [Value.slice.injEq] at e; omega, fun a ha => by rw [List.mem_singleton.1 ha]; show k1 < 4294967296; omega, rfl, fun x hx => by simp [flatR, uL] at hx; rw [hx]; rfl, _, 1, rfl, Or.inr ⟨_, 0, rfl, fun j x hx => by
                    rw [Nat.zero_add, cell_of_row _ _ _ _ _ _ (hW.trans hg1)]
                    simpa [flatR, uL] using hx⟩⟩
                have hmay : ofQ partL S.data.toList [k1] = some (ofR partL S.data.toList [k1]) := if_pos (may_part _ _ (by omega) (fun x hx => by rw [List.mem_singleton.1 hx]; unfold manQ; omega) (by simp))
                have CO1 := HCOS.out partL S [k1] _ W1 (by decide) (by omega) (hUS W1 rfl) (by simp)
                rw [hmay] at CO1
                have CO2 : Calls Tryd.prog 21 #[.string ⟨#[112, 97, 114, 116]⟩, .string S, .slice (some ⟨wr.heap.size, 0, none⟩) 1 1] W1 fun e w' => (∃ u, e = .returned (.tuple #[u, .int .i64 0]) ∧ ∀ W, OnNew W1 w' W → UsAt [k1] (.slice (some ⟨wr.heap.size, 0, none⟩) 1 1) W → RpIs (ofR partL S.data.toList [k1]) u W) ∧ Kept W1 w' := CO1
                obtain ⟨R, hR⟩ : ∃ R, R = ofR partL S.data.toList [k1] := ⟨_, rfl⟩
                rw [← hR] at CO2
                obtain ⟨AL2, hAL2⟩ : ∃ Z, Z = AL ++ S := ⟨_, rfl⟩
                have eal : AL ++ S = AL2 := hAL2.symm
                have HAL2 : Hid (AL2 = str ((PQ ss k1).map Prod.fst).flatten) := Lib.hid (by rw [hAL2, HALV.out, hPQ, List.map_append, List.flatten_append]; simp [← str_append, str_data])
                have HMP : Hid ((PQ ss k1).map (fun x => ofR partL x.1 x.2) = (PQ ss k).map (fun x => ofR partL x.1 x.2) ++ [R]) := Lib.hid (by rw [hPQ, List.map_append, hR]; rfl)
                have halz : AL.size ≤ 400 * k := by rw [HALV.out, str_size]; exact PQ_len ss k
                have hsum : ¬ 9223372036854775807 < AL.size + S.size := by omega
                have hsum2 : AL.size + S.size ≤ 9223372036854775807 := by omega
                have HUS := Lib.hid hUS
                have HKW1 := Lib.hid hkw1
                have HS1 := Lib.hid hs1
                have HW1 := Lib.hid hW1
                clear hks hcell hst hS hSz hSl hk1 hPQ hk hlt hW1 hkw1 hs1 hg1 hUS hmay CO1 hR hAL2 halz
                go_wp2_with fail
                refine (CU _).mono ?_
                rintro e w' ⟨rfl, rfl⟩
                clear CU d0
                go_wp2_with fail
                rw [← HW1.out]
                refine CO2.mono ?_
                rintro e w2 ⟨⟨u, rfl, hu⟩, hk2⟩
                have hself : RpIs R u w2 := hu w2 (fun _ _ _ => rfl) (HUS.out w2 (hk2.block _ (by have := HS1.out; omega)))
                obtain ⟨tu, hue, -⟩ := hself
                subst hue
                have hall : ∀ W, (∀ j, wr.heap.size ≤ j → j < w2.heap.size → W.heap[j]? = w2.heap[j]?) → RpAt R tu W := fun W hW => by
                  have hb := hk2.block wr.heap.size (by have := HS1.out; omega)
                  obtain ⟨t2, e2, h2⟩ := hu W (fun j h1 h2 => hW j (by have := HS1.out; omega) h2) (HUS.out W ((hW _ (Nat.le_refl _) (by have := hk2.size; have := HS1.out; omega)).trans hb))
                  have e3 : t2 = tu := by
                    have := congrArg (fun v : Value => (match v with | .agg X => X[4]? | _ => none)) e2
                    exact (Option.some.inj this).symm
                  rw [e3] at h2
                  exact h2
                have hone : tu.oneCell' = true := (hall w2 (fun _ _ _ => rfl)).mans.one_
                obtain ⟨p9, c9, htu, -, -⟩ := (hall w2 (fun _ _ _ => rfl)).mans.out encU
                have HKw2 : Hid (Kept wr w2) := Lib.hid (HKW1.out.then hk2)
                have HALL := Lib.hid hall
                have hxs : rpC R tu = #[.string (str R.name), .int .i64 R.size, .int .i64 R.re, .int .i64 R.im, .slice p9 R.mans.length c9] := by rw [htu]; rfl
                obtain ⟨nm, hnm⟩ : ∃ x, x = str R.name := ⟨_, rfl⟩
                obtain ⟨z, hz⟩ : ∃ x, x = R.size := ⟨_, rfl⟩
                obtain ⟨x, hx⟩ : ∃ x, x = R.re := ⟨_, rfl⟩
                obtain ⟨y, hy⟩ : ∃ x, x = R.im := ⟨_, rfl⟩
                obtain ⟨nn, hnn⟩ : ∃ x, x = R.mans.length := ⟨_, rfl⟩
                rw [← hnm, ← hz, ← hx, ← hy, ← hnn] at hxs
                rw [hxs]
                have HXS := Lib.hid hxs
                obtain ⟨W3, hW3⟩ : ∃ W, W = w2.alloc (.cells #[.string nm, .int .i64 z, .int .i64 x, .int .i64 y, .slice p9 nn c9] 24) := ⟨_, rfl⟩
                have hk3 : Kept w2 W3 := by rw [hW3]; exact box_below _ _
                have HK3 : Hid (Kept w2 W3) := Lib.hid hk3
                have HR3 : Hid (Row5 w2.heap.size (.string nm) (.int .i64 z) (.int .i64 x) (.int .i64 y) (.slice p9 nn c9) W3) := Lib.hid ⟨by rw [hW3]; exact heap_alloc_last w2 _⟩
                have HW3 := Lib.hid hW3
                have HONE := Lib.hid (fun (W : World) => flat_rec encRp W 24 (R, tu) hone #[.string nm, .int .i64 z, .int .i64 x, .int .i64 y, .slice p9 nn c9] (by rw [← hxs]; rfl))
                have HOW3 := Lib.hid (own_stay HOW.out (fun j hj => (HKw2.out.then hk3).block j (HOW.out.lt j hj).2))
                have HLA2 : Hid (LA.length = k ∧ k < 8) := Lib.hid ⟨HLA.out, by omega⟩
                clear hk2 hu hall hone htu hxs hnm hz hx hy hnn hW3 hk3 CO2
                go_wp2_with (with_reducible refine wpList_halt (d := 103) rfl ?_)
                unfold Halted
                rw [← HW3.out]
                have a0 := HR3.out.c0
                have a1 := HR3.out.c1
                have a2 := HR3.out.c2
                have a3 := HR3.out.c3
                have a4 := HR3.out.c4
                go_wp2_with (first
                  | (with_reducible refine wpList_buildR rfl _ _ _ rfl 5 ir zr Tryd.underlying49 HIR.out HZ1.out HZ0.out (by decide) (by decide) #[.string nm, .int .i64 z, .int .i64 x, .int .i64 y, .slice p9 nn c9] rfl rfl ?_)
                  | (at_builtin; refine wpList_append_flat rfl _ _ 49 rfl wL.heap.size 24 ir zr 5 64 Tryd.underlying49 HIR.out HZ0.out HZ1.out HZ2.out HZS.out (by decide) _ _ _ rfl (HOW3.out.alloc _) _ 1 (rpL (R, tu)) rfl (HONE.out _) ?qd2 ?qd3 ?qd4 ?_))
                case qd2 => have := HLA2.out; unfold maxLen; omega
                case qd3 => have := HLA2.out; omega
                case qd4 => have := HKL.out.size; have := HKw2.out.size; have := HK3.out.size; simp; omega
                intro v4 w9 hown hgrow hwhere
                have HKK9 : Hid (Kept w w9) := Lib.hid (append_keptX ((HKK.out.then HKw2.out).then HK3.out) HKB.out HOW3.out hgrow)
                have HKL9 : Hid (Kept wL w9) := Lib.hid (append_keptX ((HKL.out.then HKw2.out).then HK3.out) (Nat.le_refl _) HOW3.out hgrow)
                have HOW9 : Hid (w9.ownsRow wL.heap.size 24 5 v4 (LA ++ [(R, tu)]).length (flatR rpL (LA ++ [(R, tu)]))) := Lib.hid (by
                  rw [List.length_append, ← flatR_snoc, HLA.out]
                  exact hown)
                have HMAP9 : Hid ((LA ++ [(R, tu)]).map Prod.fst = (PQ ss k1).map (fun x => ofR partL x.1 x.2)) := Lib.hid (by rw [HMP.out, ← HMAP.out, List.map_append]; rfl)
                have HEACH9 : Hid (∀ a ∈ LA ++ [(R, tu)], ∀ W, OnBut wL.heap.size v4 w9 W → RpAt a.1 a.2 W) := Lib.hid (each_next HEACH.out HALL.out HOW.out HKL.out.size HKw2.out HK3.out hgrow (by simpa using hwhere))
                obtain ⟨pv', cv', htv', -, -⟩ := own_slice hown
                subst htv'
                clear hown hgrow hwhere HMAP HEACH HALL a0 a1 a2 a3 a4
                go_wp2
                go_roundg (m2 - k1)
                · exact ⟨k1, LA ++ [(R, tu)], AL2, by have := HK1.out; omega, by first | rfl | (have := HK1.out; congr 1; omega), rfl, by have := HK1.out; have := HLA2.out; simp; omega, HOW9, HMAP9, HEACH9, HAL2, HKK9, HKL9⟩
                · have := HK1.out; omega
              · have hx : (¬ ((k : Int) < (n2 : Int)) ∧ decide ((k : Int) < (n2 : Int)) = false) ∨ (((k : Int) < (n2 : Int) ∧ decide ((k : Int) < (n2 : Int)) = true) ∧ ¬ ((k : Int) < 8) ∧ decide ((k : Int) < 8) = false) := by
                  by_cases h : k < n2
                  · exact Or.inr ⟨⟨by omega, decide_eq_true (by omega)⟩, by omega, decide_eq_false (by omega)⟩
                  · exact Or.inl ⟨by omega, decide_eq_false (by omega)⟩
                rcases hx with ⟨hki, bk⟩ | ⟨⟨hki, bk⟩, hki8, bk8⟩
                all_goals
                  have hkm : k = m2 := by omega
                  have how : wr.ownsRow wL.heap.size 24 5 (.slice pv k cv) LA.length (flatR rpL LA) := by rw [HLA.out]; exact HOW.out
                  have hmade : RpsAt ((PQ ss m2).map (fun x => ofR partL x.1 x.2)) (.slice pv k cv) wr := ⟨LA, by rw [← hkm]; exact HMAP.out, ⟨fun a ha => HEACH.out a ha wr (fun _ _ _ _ => rfl), RowsAt.own encRp (fun a ha => (HEACH.out a ha wr (fun _ _ _ _ => rfl)).mans.one_) how⟩⟩
                  have hwhole := whole_of ss m2 hm28
                  have CJ := HCJ.out wholeL _ _ wr (by decide) hmade (by rw [List.length_map, PQ_length]; omega) (fun r hr => by
                    obtain ⟨x, hx, rfl⟩ := List.mem_map.1 hr
                    have := PQ_one ss m2 x hx
                    show x.2.length ≤ _; omega)
                  rw [hwhole.1] at CJ
                  obtain ⟨J, hJ⟩ : ∃ J, J = ofR wholeL ((PQ ss m2).map Prod.fst).flatten ((PQ ss m2).map Prod.snd).flatten := ⟨_, rfl⟩
                  rw [← hJ] at CJ
                  have CJ2 : Calls Tryd.prog 25 #[.string ⟨#[119, 104, 111, 108, 101]⟩, .slice pv k cv] wr fun e w' => (∃ u, e = .returned (.tuple #[u, .int .i64 0]) ∧ RpIs J u w') ∧ Kept wr w' := CJ
                  have hjm : J.mans.length = k := by rw [hJ, hkm]; exact hwhole.2.2
                  have HFT : Hid (decide (fitsQ J AL.data.toList) = true) := Lib.hid (by
                    have e : AL.data.toList = ((PQ ss m2).map Prod.fst).flatten := by rw [HALV.out, hkm, str_list]
                    rw [e, hJ]
                    exact decide_eq_true ⟨hwhole.2.1, rfl, rfl, rfl⟩)
                  have HALZ : Hid (AL.size ≤ 100000) := Lib.hid (by have := PQ_len ss k; rw [HALV.out, str_size]; omega)
                  have HJM : Hid (J.mans.length ≤ 100000) := Lib.hid (by omega)
                  obtain ⟨jn, hjn⟩ : ∃ x, x = str J.name := ⟨_, rfl⟩
                  obtain ⟨jz, hjz⟩ : ∃ x, x = J.size := ⟨_, rfl⟩
                  obtain ⟨jx, hjx⟩ : ∃ x, x = J.re := ⟨_, rfl⟩
                  obtain ⟨jy, hjy⟩ : ∃ x, x = J.im := ⟨_, rfl⟩
                  have HCRJ : Hid (∀ u W, RpIs J u W → ∃ p c, u = .agg #[.string jn, .int .i64 jz, .int .i64 jx, .int .i64 jy, .slice p k c]) := Lib.hid (fun u W h => by
                    obtain ⟨p, c, e⟩ := h.cutQ
                    exact ⟨p, c, by rw [e, hjn, hjz, hjx, hjy, hjm]⟩)
                  clear hkm hmade how hwhole CJ hJ hjm hjn hjz hjx hjy HOW HMAP HEACH HALV HKL hk hlt HLA
                  go_wp2_with fail
                  refine CJ2.mono ?_
                  rintro e w2 ⟨⟨u, rfl, hu⟩, hk2⟩
                  obtain ⟨pj, cj, rfl⟩ := HCRJ.out _ _ hu
                  obtain ⟨W3, hW3⟩ : ∃ W, W = w2.alloc (.cells #[.string jn, .int .i64 jz, .int .i64 jx, .int .i64 jy, .slice pj k cj] 24) := ⟨_, rfl⟩
                  have hk3 : Kept w2 W3 := by rw [hW3]; exact box_below _ _
                  have HK3 : Hid (Kept w W3) := Lib.hid ((HKK.out.then hk2).then hk3)
                  have HR3 : Hid (Row5 w2.heap.size (.string jn) (.int .i64 jz) (.int .i64 jx) (.int .i64 jy) (.slice pj k cj) W3) := Lib.hid ⟨by rw [hW3]; exact heap_alloc_last w2 _⟩
                  have CF := HCF.out J _ AL W3 (hu.later hk3) HJM.out HALZ.out
                  rw [HFT.out] at CF
                  have HW3 := Lib.hid hW3
                  have a0 := HR3.out.c0
                  have a1 := HR3.out.c1
                  have a2 := HR3.out.c2
                  have a3 := HR3.out.c3
                  have a4 := HR3.out.c4
                  clear hu hk2 hk3 hW3 CJ2
                  rw [HW3.out] at a0 a1 a2 a3 a4
                  go_wp2_with fail
                  rw [← HW3.out]
                  refine CF.mono ?_
                  rintro e w4 ⟨rfl, hk4⟩
                  have HK4 := Lib.hid (HK3.out.then hk4)
                  have e4 := (HR3.out.later hk4).c4
                  clear hk4 CF HK3 HR3 a0 a1 a2 a3 a4
                  go_wp2
                  go_ret
                  exact ⟨by first | rfl | simp, HK4.out⟩
          | true =>
            go_wp2_with fail
            refine (HCO.out).mono ?_
            rintro e w1 ⟨⟨u, rfl, hu⟩, hk1⟩
            obtain ⟨p1, c1, rfl⟩ := HCR.out _ _ hu
            obtain ⟨W2, hW2⟩ : ∃ W, W = w1.alloc (.cells #[.string nm, .int .i64 z, .int .i64 x, .int .i64 y, .slice p1 n1 c1] 24) := ⟨_, rfl⟩
            have hk2 : Kept w1 W2 := by rw [hW2]; exact box_below _ _
            have H02 : Hid (Kept w W2) := Lib.hid ((HKK.out.then hk1).then hk2)
            have HF2 := Lib.hid ((HFEW.out.later hk1).later hk2)
            have HR2 : Hid (Row5 w1.heap.size (.string nm) (.int .i64 z) (.int .i64 x) (.int .i64 y) (.slice p1 n1 c1) W2) := Lib.hid ⟨by rw [hW2]; exact heap_alloc_last w1 _⟩
            have HU2 := Lib.hid (hu.later hk2)
            have HW2 := Lib.hid hW2
            clear hk1 hu hk2 hW2 HFEW HKK
            go_wp2_with (with_reducible refine wpList_halt (d := 53) rfl ?_)
            unfold Halted
            rw [← HW2.out]
            go_wp2_with fail
            refine (HCD.out W2 HF2.out).mono ?_
            rintro e w3 ⟨⟨u, rfl, hu⟩, hk3⟩
            obtain ⟨p2, c2, rfl⟩ := HCR.out _ _ hu
            obtain ⟨W4, hW4⟩ : ∃ W, W = w3.alloc (.cells #[.string nm, .int .i64 z, .int .i64 x, .int .i64 y, .slice p2 n1 c2] 24) := ⟨_, rfl⟩
            have hk4 : Kept w3 W4 := by rw [hW4]; exact box_below _ _
            have H04 : Hid (Kept w W4) := Lib.hid ((H02.out.then hk3).then hk4)
            have HR4 : Hid (Row5 w1.heap.size (.string nm) (.int .i64 z) (.int .i64 x) (.int .i64 y) (.slice p1 n1 c1) W4) := Lib.hid ((HR2.out.later hk3).later hk4)
            have HX4 : Hid (Row5 w3.heap.size (.string nm) (.int .i64 z) (.int .i64 x) (.int .i64 y) (.slice p2 n1 c2) W4) := Lib.hid ⟨by rw [hW4]; exact heap_alloc_last w3 _⟩
            have HU4 := Lib.hid ((HU2.out.later hk3).later hk4)
            have HV4 := Lib.hid (hu.later hk4)
            have HW4 := Lib.hid hW4
            clear hk3 hu hk4 hW4 HW2 H02 HR2 HU2 HF2
            have a0 := HR4.out.c0
            have a1 := HR4.out.c1
            have a2 := HR4.out.c2
            have a3 := HR4.out.c3
            have a4 := HR4.out.c4
            have d0 := HX4.out.c0
            have d1 := HX4.out.c1
            have d2 := HX4.out.c2
            have d3 := HX4.out.c3
            have d4 := HX4.out.c4
            have CS := rsame16_any R R _ _ W4 HU4.out HV4.out HRL2.out HRL2.out
            rw [decide_eq_true (rfl : R = R)] at CS
            go_wp2_with (with_reducible refine wpList_halt (d := 56) rfl ?_)
            unfold Halted
            rw [← HW4.out]
            go_wp2_with fail
            refine CS.mono ?_
            rintro e w5 ⟨rfl, hk5⟩
            have H05 := Lib.hid (H04.out.then hk5)
            clear hk5 CS HW4 H04 HR4 HX4 HU4 HV4 a0 a1 a2 a3 a4 d0 d1 d2 d3 d4
            have AW1 := HAW.out w5 (HT.out.later H05.out)
            have e1 : (GE == 0) = true := by rw [HGE.out]; rfl
            have e2 : (GE != 0) = false := by rw [HGE.out]; rfl
            go_wp2_with fail
            refine AW1.mono ?_
            rintro e wL ⟨rfl, hk7⟩
            have HL0 := Lib.hid (H05.out.then hk7)
            have HKB : Hid (w.heap.size ≤ wL.heap.size) := Lib.hid HL0.out.size
            clear hk7 AW1 H05
            go_wp2
            go_loopg [13, 14, 15] m2 (fun gh y13 y14 y15 wr => ∃ (k : Nat) (LA : List (Rp × Value)) (AL : ByteArray), k + gh = m2 ∧ y15 = .int .i64 k ∧ y13 = .string AL ∧ LA.length = k ∧ Hid (wr.ownsRow wL.heap.size 24 5 y14 LA.length (flatR rpL LA)) ∧
              Hid (LA.map Prod.fst = (PQ ss k).map (fun x => ofR partL x.1 x.2)) ∧ Hid (∀ a ∈ LA, ∀ W, OnBut wL.heap.size y14 wr W → RpAt a.1 a.2 W) ∧ Hid (AL = str ((PQ ss k).map Prod.fst).flatten) ∧ Hid (Kept w wr) ∧ Hid (Kept wL wr))
            case atStart => exact ⟨0, [], ⟨#[]⟩, by omega, rfl, rfl, rfl, Lib.hid (World.ownsRow_nil _ _ _ _), Lib.hid rfl, Lib.hid (fun a ha => by cases ha), Lib.hid rfl, HL0, Lib.hid (Below.refl _ wL)⟩
            case round =>
              clear HL0
              obtain ⟨k, LA, AL, hk, rfl, rfl, hla, HOW, HMAP, HEACH, HALV, HKK, HKL⟩ := hrel
              obtain ⟨pv, cv, htv, -, -⟩ := own_slice HOW.out
              subst htv
              rw [hla] at HOW HEACH ⊢
              have HLA := Lib.hid hla
              clear hla
              by_cases hlt : k < m2
              · have hki : (k : Int) < n2 := by omega
                have bk : decide ((k : Int) < (n2 : Int)) = true := by simpa using hki
                have hki8 : (k : Int) < 8 := by omega
                have bk8 : decide ((k : Int) < 8) = true := by simpa using hki8
                have hki0 : (0 : Int) ≤ k := by omega
                have hks : k < ss.length := by rw [← HNS.out]; omega
                rcases HSC.out with h0 | ⟨b, off, hp, hcell⟩
                · rw [h0] at hks
                  cases hks
                subst hp
                have d0 := Kept.cell HKK.out (hcell k hks)
                obtain ⟨st, hst⟩ : ∃ s, s = ss[k] := ⟨_, rfl⟩
                rw [← hst] at d0
                have CU := fun W => cut16_any st W
                obtain ⟨S, hS⟩ : ∃ S, S = st.extract 0 400 := ⟨_, rfl⟩
                rw [← hS] at CU
                have hSz : S.size ≤ 400 := by rw [hS, ByteArray.size_extract]; omega
                have hSl : S.data.toList.length = S.size := data_len S
                obtain ⟨k1, hk1⟩ : ∃ k1, k1 = k + 1 := ⟨_, rfl⟩
                have hPQ : PQ ss k1 = PQ ss k ++ [(S.data.toList, [k1])] := by
                  rw [hk1]
                  show PQ ss k ++ [((ss.getD k ⟨#[]⟩).extract 0 400 |>.data.toList, [k + 1])] = _
                  rw [List.getD_eq_getElem?_getD, List.getElem?_eq_getElem hks, hS, hst]
                  rfl
                have v1 : IntKind.i64.wrap ((k : Int) + 1) = (k1 : Int) := by rw [show (k : Int) + 1 = (k1 : Int) by omega]; exact IntWalk.i64_in _ (by omega)
                have v2 : IntKind.u32.wrap (k1 : Int) = (k1 : Int) := IntWalk.u32_in _ (by omega)
                have HK1 : Hid (k1 = k + 1 ∧ k + gk = m2 ∧ k < m2 ∧ m2 ≤ 8) := Lib.hid ⟨hk1, hk, hlt, hm28⟩
                obtain ⟨W1, hW1⟩ : ∃ W, W = wr.alloc (.cells #[.int .u32 (k1 : Nat)] 53) := ⟨_, rfl⟩
                have hkw1 : Kept wr W1 := by rw [hW1]; exact box_below _ _
                have hs1 : W1.heap.size = wr.heap.size + 1 := by rw [hW1]; simp
                have hg1 : W1.heap[wr.heap.size]? = some (.cells #[.int .u32 (k1 : Nat)] 53 (0, 0)) := by rw [hW1]; exact heap_alloc_last wr _
                have hUS : ∀ W : World, W.heap[wr.heap.size]? = W1.heap[wr.heap.size]? → UsAt [k1] (.slice (some ⟨wr.heap.size, 0, none⟩) 1 1) W := fun W hW =>
                  ⟨fun p n c e => by simp only [Value.slice.injEq] at e; omega, fun a ha => by rw [List.mem_singleton.1 ha]; show k1 < 4294967296; omega, rfl, fun x hx => by simp [flatR, uL] at hx; rw [hx]; rfl, _, 1, rfl, Or.inr ⟨_, 0, rfl, fun j x hx => by
                    rw [Nat.zero_add, cell_of_row _ _ _ _ _ _ (hW.trans hg1)]
                    simpa [flatR, uL] using hx⟩⟩
                have hmay : ofQ partL S.data.toList [k1] = some (ofR partL S.data.toList [k1]) := if_pos (may_part _ _ (by omega) (fun x hx => by rw [List.mem_singleton.1 hx]; unfold manQ; omega) (by simp))
                have CO1 := HCOS.out partL S [k1] _ W1 (by decide) (by omega) (hUS W1 rfl) (by simp)
                rw [hmay] at CO1
                have CO2 : Calls Tryd.prog 21 #[.string ⟨#[112, 97, 114, 116]⟩, .string S, .slice (some ⟨wr.heap.size, 0, none⟩) 1 1] W1 fun e w' => (∃ u, e = .returned (.tuple #[u, .int .i64 0]) ∧ ∀ W, OnNew W1 w' W → UsAt [k1] (.slice (some ⟨wr.heap.size, 0, none⟩) 1 1) W → RpIs (ofR partL S.data.toList [k1]) u W) ∧ Kept W1 w' := CO1
                obtain ⟨R, hR⟩ : ∃ R, R = ofR partL S.data.toList [k1] := ⟨_, rfl⟩
                rw [← hR] at CO2
                obtain ⟨AL2, hAL2⟩ : ∃ Z, Z = AL ++ S := ⟨_, rfl⟩
                have eal : AL ++ S = AL2 := hAL2.symm
                have HAL2 : Hid (AL2 = str ((PQ ss k1).map Prod.fst).flatten) := Lib.hid (by rw [hAL2, HALV.out, hPQ, List.map_append, List.flatten_append]; simp [← str_append, str_data])
                have HMP : Hid ((PQ ss k1).map (fun x => ofR partL x.1 x.2) = (PQ ss k).map (fun x => ofR partL x.1 x.2) ++ [R]) := Lib.hid (by rw [hPQ, List.map_append, hR]; rfl)
                have halz : AL.size ≤ 400 * k := by rw [HALV.out, str_size]; exact PQ_len ss k
                have hsum : ¬ 9223372036854775807 < AL.size + S.size := by omega
                have hsum2 : AL.size + S.size ≤ 9223372036854775807 := by omega
                have HUS := Lib.hid hUS
                have HKW1 := Lib.hid hkw1
                have HS1 := Lib.hid hs1
                have HW1 := Lib.hid hW1
                clear hks hcell hst hS hSz hSl hk1 hPQ hk hlt hW1 hkw1 hs1 hg1 hUS hmay CO1 hR hAL2 halz
                go_wp2_with fail
                refine (CU _).mono ?_
                rintro e w' ⟨rfl, rfl⟩
                clear CU d0
                go_wp2_with fail
                rw [← HW1.out]
                refine CO2.mono ?_
                rintro e w2 ⟨⟨u, rfl, hu⟩, hk2⟩
                have hself : RpIs R u w2 := hu w2 (fun _ _ _ => rfl) (HUS.out w2 (hk2.block _ (by have := HS1.out; omega)))
                obtain ⟨tu, hue, -⟩ := hself
                subst hue
                have hall : ∀ W, (∀ j, wr.heap.size ≤ j → j < w2.heap.size → W.heap[j]? = w2.heap[j]?) → RpAt R tu W := fun W hW => by
                  have hb := hk2.block wr.heap.size (by have := HS1.out; omega)
                  obtain ⟨t2, e2, h2⟩ := hu W (fun j h1 h2 => hW j (by have := HS1.out; omega) h2) (HUS.out W ((hW _ (Nat.le_refl _) (by have := hk2.size; have := HS1.out; omega)).trans hb))
                  have e3 : t2 = tu := by
                    have := congrArg (fun v : Value => (match v with | .agg X => X[4]? | _ => none)) e2
                    exact (Option.some.inj this).symm
                  rw [e3] at h2
                  exact h2
                have hone : tu.oneCell' = true := (hall w2 (fun _ _ _ => rfl)).mans.one_
                obtain ⟨p9, c9, htu, -, -⟩ := (hall w2 (fun _ _ _ => rfl)).mans.out encU
                have HKw2 : Hid (Kept wr w2) := Lib.hid (HKW1.out.then hk2)
                have HALL := Lib.hid hall
                have hxs : rpC R tu = #[.string (str R.name), .int .i64 R.size, .int .i64 R.re, .int .i64 R.im, .slice p9 R.mans.length c9] := by rw [htu]; rfl
                obtain ⟨nm, hnm⟩ : ∃ x, x = str R.name := ⟨_, rfl⟩
                obtain ⟨z, hz⟩ : ∃ x, x = R.size := ⟨_, rfl⟩
                obtain ⟨x, hx⟩ : ∃ x, x = R.re := ⟨_, rfl⟩
                obtain ⟨y, hy⟩ : ∃ x, x = R.im := ⟨_, rfl⟩
                obtain ⟨nn, hnn⟩ : ∃ x, x = R.mans.length := ⟨_, rfl⟩
                rw [← hnm, ← hz, ← hx, ← hy, ← hnn] at hxs
                rw [hxs]
                have HXS := Lib.hid hxs
                obtain ⟨W3, hW3⟩ : ∃ W, W = w2.alloc (.cells #[.string nm, .int .i64 z, .int .i64 x, .int .i64 y, .slice p9 nn c9] 24) := ⟨_, rfl⟩
                have hk3 : Kept w2 W3 := by rw [hW3]; exact box_below _ _
                have HK3 : Hid (Kept w2 W3) := Lib.hid hk3
                have HR3 : Hid (Row5 w2.heap.size (.string nm) (.int .i64 z) (.int .i64 x) (.int .i64 y) (.slice p9 nn c9) W3) := Lib.hid ⟨by rw [hW3]; exact heap_alloc_last w2 _⟩
                have HW3 := Lib.hid hW3
                have HONE := Lib.hid (fun (W : World) => flat_rec encRp W 24 (R, tu) hone #[.string nm, .int .i64 z, .int .i64 x, .int .i64 y, .slice p9 nn c9] (by rw [← hxs]; rfl))
                have HOW3 := Lib.hid (own_stay HOW.out (fun j hj => (HKw2.out.then hk3).block j (HOW.out.lt j hj).2))
                have HLA2 : Hid (LA.length = k ∧ k < 8) := Lib.hid ⟨HLA.out, by omega⟩
                clear hk2 hu hall hone htu hxs hnm hz hx hy hnn hW3 hk3 CO2
                go_wp2_with (with_reducible refine wpList_halt (d := 103) rfl ?_)
                unfold Halted
                rw [← HW3.out]
                have a0 := HR3.out.c0
                have a1 := HR3.out.c1
                have a2 := HR3.out.c2
                have a3 := HR3.out.c3
                have a4 := HR3.out.c4
                go_wp2_with (first
                  | (with_reducible refine wpList_buildR rfl _ _ _ rfl 5 ir zr Tryd.underlying49 HIR.out HZ1.out HZ0.out (by decide) (by decide) #[.string nm, .int .i64 z, .int .i64 x, .int .i64 y, .slice p9 nn c9] rfl rfl ?_)
                  | (at_builtin; refine wpList_append_flat rfl _ _ 49 rfl wL.heap.size 24 ir zr 5 64 Tryd.underlying49 HIR.out HZ0.out HZ1.out HZ2.out HZS.out (by decide) _ _ _ rfl (HOW3.out.alloc _) _ 1 (rpL (R, tu)) rfl (HONE.out _) ?qd2 ?qd3 ?qd4 ?_))
                case qd2 => have := HLA2.out; unfold maxLen; omega
                case qd3 => have := HLA2.out; omega
                case qd4 => have := HKL.out.size; have := HKw2.out.size; have := HK3.out.size; simp; omega
                intro v4 w9 hown hgrow hwhere
                have HKK9 : Hid (Kept w w9) := Lib.hid (append_keptX ((HKK.out.then HKw2.out).then HK3.out) HKB.out HOW3.out hgrow)
                have HKL9 : Hid (Kept wL w9) := Lib.hid (append_keptX ((HKL.out.then HKw2.out).then HK3.out) (Nat.le_refl _) HOW3.out hgrow)
                have HOW9 : Hid (w9.ownsRow wL.heap.size 24 5 v4 (LA ++ [(R, tu)]).length (flatR rpL (LA ++ [(R, tu)]))) := Lib.hid (by
                  rw [List.length_append, ← flatR_snoc, HLA.out]
                  exact hown)
                have HMAP9 : Hid ((LA ++ [(R, tu)]).map Prod.fst = (PQ ss k1).map (fun x => ofR partL x.1 x.2)) := Lib.hid (by rw [HMP.out, ← HMAP.out, List.map_append]; rfl)
                have HEACH9 : Hid (∀ a ∈ LA ++ [(R, tu)], ∀ W, OnBut wL.heap.size v4 w9 W → RpAt a.1 a.2 W) := Lib.hid (each_next HEACH.out HALL.out HOW.out HKL.out.size HKw2.out HK3.out hgrow (by simpa using hwhere))
                obtain ⟨pv', cv', htv', -, -⟩ := own_slice hown
                subst htv'
                clear hown hgrow hwhere HMAP HEACH HALL a0 a1 a2 a3 a4
                go_wp2
                go_roundg (m2 - k1)
                · exact ⟨k1, LA ++ [(R, tu)], AL2, by have := HK1.out; omega, by first | rfl | (have := HK1.out; congr 1; omega), rfl, by have := HK1.out; have := HLA2.out; simp; omega, HOW9, HMAP9, HEACH9, HAL2, HKK9, HKL9⟩
                · have := HK1.out; omega
              · have hx : (¬ ((k : Int) < (n2 : Int)) ∧ decide ((k : Int) < (n2 : Int)) = false) ∨ (((k : Int) < (n2 : Int) ∧ decide ((k : Int) < (n2 : Int)) = true) ∧ ¬ ((k : Int) < 8) ∧ decide ((k : Int) < 8) = false) := by
                  by_cases h : k < n2
                  · exact Or.inr ⟨⟨by omega, decide_eq_true (by omega)⟩, by omega, decide_eq_false (by omega)⟩
                  · exact Or.inl ⟨by omega, decide_eq_false (by omega)⟩
                rcases hx with ⟨hki, bk⟩ | ⟨⟨hki, bk⟩, hki8, bk8⟩
                all_goals
                  have hkm : k = m2 := by omega
                  have how : wr.ownsRow wL.heap.size 24 5 (.slice pv k cv) LA.length (flatR rpL LA) := by rw [HLA.out]; exact HOW.out
                  have hmade : RpsAt ((PQ ss m2).map (fun x => ofR partL x.1 x.2)) (.slice pv k cv) wr := ⟨LA, by rw [← hkm]; exact HMAP.out, ⟨fun a ha => HEACH.out a ha wr (fun _ _ _ _ => rfl), RowsAt.own encRp (fun a ha => (HEACH.out a ha wr (fun _ _ _ _ => rfl)).mans.one_) how⟩⟩
                  have hwhole := whole_of ss m2 hm28
                  have CJ := HCJ.out wholeL _ _ wr (by decide) hmade (by rw [List.length_map, PQ_length]; omega) (fun r hr => by
                    obtain ⟨x, hx, rfl⟩ := List.mem_map.1 hr
                    have := PQ_one ss m2 x hx
                    show x.2.length ≤ _; omega)
                  rw [hwhole.1] at CJ
                  obtain ⟨J, hJ⟩ : ∃ J, J = ofR wholeL ((PQ ss m2).map Prod.fst).flatten ((PQ ss m2).map Prod.snd).flatten := ⟨_, rfl⟩
                  rw [← hJ] at CJ
                  have CJ2 : Calls Tryd.prog 25 #[.string ⟨#[119, 104, 111, 108, 101]⟩, .slice pv k cv] wr fun e w' => (∃ u, e = .returned (.tuple #[u, .int .i64 0]) ∧ RpIs J u w') ∧ Kept wr w' := CJ
                  have hjm : J.mans.length = k := by rw [hJ, hkm]; exact hwhole.2.2
                  have HFT : Hid (decide (fitsQ J AL.data.toList) = true) := Lib.hid (by
                    have e : AL.data.toList = ((PQ ss m2).map Prod.fst).flatten := by rw [HALV.out, hkm, str_list]
                    rw [e, hJ]
                    exact decide_eq_true ⟨hwhole.2.1, rfl, rfl, rfl⟩)
                  have HALZ : Hid (AL.size ≤ 100000) := Lib.hid (by have := PQ_len ss k; rw [HALV.out, str_size]; omega)
                  have HJM : Hid (J.mans.length ≤ 100000) := Lib.hid (by omega)
                  obtain ⟨jn, hjn⟩ : ∃ x, x = str J.name := ⟨_, rfl⟩
                  obtain ⟨jz, hjz⟩ : ∃ x, x = J.size := ⟨_, rfl⟩
                  obtain ⟨jx, hjx⟩ : ∃ x, x = J.re := ⟨_, rfl⟩
                  obtain ⟨jy, hjy⟩ : ∃ x, x = J.im := ⟨_, rfl⟩
                  have HCRJ : Hid (∀ u W, RpIs J u W → ∃ p c, u = .agg #[.string jn, .int .i64 jz, .int .i64 jx, .int .i64 jy, .slice p k c]) := Lib.hid (fun u W h => by
                    obtain ⟨p, c, e⟩ := h.cutQ
                    exact ⟨p, c, by rw [e, hjn, hjz, hjx, hjy, hjm]⟩)
                  clear hkm hmade how hwhole CJ hJ hjm hjn hjz hjx hjy HOW HMAP HEACH HALV HKL hk hlt HLA
                  go_wp2_with fail
                  refine CJ2.mono ?_
                  rintro e w2 ⟨⟨u, rfl, hu⟩, hk2⟩
                  obtain ⟨pj, cj, rfl⟩ := HCRJ.out _ _ hu
                  obtain ⟨W3, hW3⟩ : ∃ W, W = w2.alloc (.cells #[.string jn, .int .i64 jz, .int .i64 jx, .int .i64 jy, .slice pj k cj] 24) := ⟨_, rfl⟩
                  have hk3 : Kept w2 W3 := by rw [hW3]; exact box_below _ _
                  have HK3 : Hid (Kept w W3) := Lib.hid ((HKK.out.then hk2).then hk3)
                  have HR3 : Hid (Row5 w2.heap.size (.string jn) (.int .i64 jz) (.int .i64 jx) (.int .i64 jy) (.slice pj k cj) W3) := Lib.hid ⟨by rw [hW3]; exact heap_alloc_last w2 _⟩
                  have CF := HCF.out J _ AL W3 (hu.later hk3) HJM.out HALZ.out
                  rw [HFT.out] at CF
                  have HW3 := Lib.hid hW3
                  have a0 := HR3.out.c0
                  have a1 := HR3.out.c1
                  have a2 := HR3.out.c2
                  have a3 := HR3.out.c3
                  have a4 := HR3.out.c4
                  clear hu hk2 hk3 hW3 CJ2
                  rw [HW3.out] at a0 a1 a2 a3 a4
                  go_wp2_with fail
                  rw [← HW3.out]
                  refine CF.mono ?_
                  rintro e w4 ⟨rfl, hk4⟩
                  have HK4 := Lib.hid (HK3.out.then hk4)
                  have e4 := (HR3.out.later hk4).c4
                  clear hk4 CF HK3 HR3 a0 a1 a2 a3 a4
                  go_wp2
                  go_ret
                  exact ⟨by first | rfl | simp, HK4.out⟩

end Go.Proofs.YtijdbmapdmhknaaDoor
