/- The walk of All (segments): a loop that is continued at a label out of an inner one. -/
import Derived.Test.YtlmccnelhpnneaaSegC
import Derived.Deep.LoopGhost
namespace Go.Proofs.Ytlmccnelhpnneaa
open Go.RowKit

/-- One segment more. -/
theorem all_more (f : List (List UInt8) → Nat) (ls L : List (List UInt8)) (ns : List Nat) (k m : Nat) (hL : L = ls.drop k) (hm : m ≤ L.length) (h0 : 0 < m) (hf : f L = m)
    (h : ns ++ (segs f L).map List.length = (segs f ls).map List.length) : (ns ++ [m]) ++ (segs f (ls.drop (k + m))).map List.length = (segs f ls).map List.length := by
  have hne : L ≠ [] := by intro e; rw [e] at hm; simp at hm; omega
  have ho : offN f L = m := by unfold offN; rw [hf, if_neg (by omega)]; omega
  have hd : L.drop m = ls.drop (k + m) := by rw [hL, List.drop_drop]
  rw [segs_cons hne, ho, hd] at h
  rw [← h]
  simp only [List.map_cons, List.length_take, List.append_assoc, List.singleton_append]
  rw [Nat.min_eq_left hm]

/-- The last one, that is not complete. -/
theorem all_last (f : List (List UInt8) → Nat) (ls L : List (List UInt8)) (ns : List Nat) (n : Nat) (hn : n = L.length) (h0 : 0 < n) (hf : f L = 0)
    (h : ns ++ (segs f L).map List.length = (segs f ls).map List.length) : ns ++ [n] = (segs f ls).map List.length := by
  have hne : L ≠ [] := by intro e; rw [e] at hn; simp at hn; omega
  have ho : offN f L = L.length := by unfold offN; rw [if_pos hf]
  rw [segs_cons hne, ho, List.drop_length, segs_nil] at h
  rw [← h, hn]
  simp

set_option maxRecDepth 100000 in
set_option maxHeartbeats 8000000 in
theorem allOk : AllOk := by
  intro p c n ls hn hs hcap C a b d hC w h
  have MA := mayOk C a b d hC
  have HLI : Hid ((Try.prog.info? 24).map (·.size) = some C.size) := by rw [hC.size]; exact info_conf
  have gC := heap_alloc_last w (.cells C 24)
  have K0 := box_below w (.cells C 24)
  by_cases hM : MayS a b d
  · have hall : allS a b d ls = segs (segI a b d) ls := by unfold allS; rw [if_pos hM]
    rw [hall]
    obtain ⟨i0, hi, hz0, hz1, hz2⟩ := info_of infoInt
    have HI := Lib.hid hi
    have HI0 := Lib.hid hz0
    have HI1 := Lib.hid hz1
    have HI2 := Lib.hid hz2
    obtain ⟨mn, mx, dv, rfl, rfl, rfl, h1, h2, h3, h4, h5⟩ := mayS_nats hM
    have hcu : ∀ l, segI mn mx dv l = segN (markB dv) mn mx l := fun l => by unfold segI; rw [if_pos hM]; simp only [Int.toNat_natCast]
    rw [decide_eq_true hM] at MA
    have EO := fun W => endsOf_any C mn mx dv hC ⟨h4, h5⟩ W
    have E1 := fun g1 g2 g3 n hn l hl W h => ends1_any C mn mx dv hC ⟨by omega, h3⟩ ⟨h4, h5⟩ g1 g2 g3 n hn l hl W h
    have NX := fun L k n hk hn h => seg_next (markB dv) mn mx h1 h2 L k n hk hn h
    have HLE : Hid (∀ L, segN (markB dv) mn mx L ≤ L.length) := Lib.hid (fun L => segN_le _ _ _ L h1)
    have HZN : Hid (∀ L : List (List UInt8), segN (markB dv) mn mx (L.take 0) = 0) := Lib.hid (fun L => segN_nil _ mn mx h1)
    have HN := Lib.hid hn
    have hfe : segI (mn : Int) mx dv = segN (markB dv) mn mx := funext hcu
    rw [hfe]
    obtain ⟨pm, hpm⟩ : ∃ pm, pm = markB dv := ⟨_, rfl⟩
    rw [← hpm] at E1 NX HLE HZN ⊢
    have HE1 := Lib.hid E1
    have HNX := Lib.hid NX
    clear E1 NX hcu hM hpm hfe hall hi hz0 hz1 hz2
    obtain ⟨w0, hw0⟩ : ∃ w0, w0 = w.alloc (.cells C 24) := ⟨_, rfl⟩
    have HF : Hid (FpsAt 32 ls (.slice p ls.length c) w0) := by rw [← hn, hw0]; exact h.later K0
    have g0 : Hid (w0.heap[w.heap.size]? = some (.cells C 24 (0, 0))) := by rw [hw0]; exact gC
    have HK0 : Hid (Below w.heap.size w w0) := by rw [hw0]; exact K0
    have HW0 := Lib.hid hw0
    clear hw0 hn h hC K0
    go_enter Try.func14, Try.ntmps14
    go_wp2
    go_step3
    go_wp2_with (with_reducible refine wpList_load_row rfl _ _ rfl w.heap.size rfl 24 C (0, 0) _ gC Try.underlying24 rfl HLI.out ?_)
    refine (MA _).mono ?_
    rintro e w1 ⟨rfl, hb1⟩
    rw [← HW0.out] at hb1
    have K1 : Kept w0 w1 := hb1
    have g1 := K1.row g0.out
    clear gC MA hb1
    go_wp2_with (with_reducible refine wpList_load_row rfl _ _ rfl w.heap.size rfl 24 C (0, 0) _ g1 Try.underlying24 rfl HLI.out ?_)
    refine (EO w1).mono ?_
    rintro e w2 ⟨q1, q2, q3, rfl, -, hE, hb2⟩
    unfold endsV
    have K2 := K1.then hb2
    have HK2 := Lib.hid K2
    have HEN := Lib.hid hE
    have HF2 : Hid (FpsAt 32 ls (.slice p n c) w2) := by have h := HF.out.later K2; rw [← HN.out] at h; exact h
    clear EO hE hb2 K1 g1 K2 HF
    go_wp2
    go_step3
    go_wp2
    go_loopg [0, 5] n (fun g s0 s5 wx => ∃ (k : Nat) (p1 : Option Addr) (c1 : Nat) (ns : List Nat), k + g = n ∧ g ≤ c1 ∧ s0 = .slice p1 g c1 ∧ Hid (FpsAt 32 (ls.drop k) (.slice p1 g c1) w2) ∧ ns.length ≤ k ∧
      Hid (ns ++ (segs (segN pm mn mx) (ls.drop k)).map List.length = (segs (segN pm mn mx) ls).map List.length) ∧ Hid (wx.ownsRow w2.heap.size 3 1 s5 ns.length (inL ns)) ∧ Hid (Kept w2 wx))
    case atStart => exact ⟨0, p, c, [], by omega, hcap, rfl, HF2, by simp, Lib.hid rfl, Lib.hid (World.ownsRow_nil _ _ _ _), Lib.hid (Kept.refl w2)⟩
    case round =>
      obtain ⟨k, p1, c1, ns, hk, hc1, rfl, HF1, hns, HSP, HO, HK⟩ := hrel
      obtain ⟨n1, hn1⟩ : ∃ n1, n1 = gk := ⟨_, rfl⟩
      rw [← hn1] at hk hc1 HF1 ⊢
      have HGK := Lib.hid hn1
      obtain ⟨wo, hwo⟩ : ∃ wo : World, wo = wr := ⟨_, rfl⟩
      subst hwo
      obtain ⟨L, hL⟩ : ∃ L, L = ls.drop k := ⟨_, rfl⟩
      rw [← hL] at HF1 HSP
      have HL := Lib.hid hL
      have hLn : n1 = L.length := by rw [hL, List.length_drop, ← HN.out]; omega
      have HLN := Lib.hid hLn
      clear hL hLn hn1
      by_cases h0 : 0 < n1
      · have hti : (0 : Int) < n1 := by omega
        go_wp2
        go_loopg [0, 5, 19] n1 (fun g s0 s5 s19 wy => ∃ j : Nat, j + g = n1 ∧ s19 = .int .i64 j ∧ s0 = .slice p1 n1 c1 ∧ s5 = u5 ∧ Hid (segN pm mn mx (L.take j) = 0) ∧ Hid (Kept wo wy))
        case atStart => exact ⟨0, by omega, rfl, rfl, rfl, Lib.hid (HZN.out L), Lib.hid (Kept.refl wo)⟩
        case round =>
          obtain ⟨j, hjg, rfl, rfl, rfl, HZ, HKj⟩ := hrel
          by_cases hltj : j < n1
          · have hjl : j < L.length := by rw [← HLN.out]; exact hltj
            have hltz : (j : Int) < (n1 : Int) := by omega
            have bz : decide ((j : Int) < (n1 : Int)) = true := by simpa using hltz
            have HF1' : Hid (FpsAt 32 L (.slice p1 L.length c1) w2) := by have h := HF1.out; rw [HLN.out] at h; exact h
            obtain ⟨b, off, cs, t, fr, hp, hg, EX⟩ := HF1'.out.elem hjl
            subst hp
            have KA : Kept w2 wr := HK.out.then HKj.out
            have gr : wr.heap[b]? = some (.cells cs t fr) := KA.row hg
            have IX1 := fun w' => idx_at b off n1 c1 j hltj w'
            have hx32 := HF1'.out.1 _ (List.getElem_mem hjl)
            have KW : Kept wr (wr.alloc (.cells (fpA L[j]) 37)) := (Below.refl _ _).alloc (Nat.le_refl _) _
            have gN : (wr.alloc (.cells (fpA L[j]) 37)).heap[wr.heap.size]? = some (.cells (fpA L[j]) 37 (0, 0)) := heap_alloc_new wr _
            have hE := (HEN.out.later KA).later KW
            obtain ⟨m, hm⟩ : ∃ m, m = j + 1 := ⟨_, rfl⟩
            have CE := HE1.out q1 q2 q3 m (by omega) L[j] hx32 _ hE
            have HKP := Lib.hid (fun (w3 : World) (hb : Kept (wr.alloc (.cells (fpA L[j]) 37)) w3) => HK.out.then (HKj.out.then (KW.then hb)))
            have HKO := Lib.hid (fun (w3 : World) (hb : Kept (wr.alloc (.cells (fpA L[j]) 37)) w3) => Lib.hid (HKj.out.then (KW.then hb)))
            have NX := HNX.out L j m hjl hm HZ.out
            have HXI : Hid ((Try.prog.info? 37).map (·.size) = some (fpA L[j]).size) := fp_info _ hx32
            have HX1 : Hid ((fpA L[j]).all (·.oneCell') = true) := fpA_one _
            have HXS : Hid ((fpA L[j]).size = 32) := by rw [fpA_size]; exact hx32
            have v1 : IntKind.i64.wrap ((j : Int) + 1) = (m : Int) := by rw [show (j : Int) + 1 = (m : Int) by omega]; exact IntWalk.i64_in _ (by omega)
            obtain ⟨X, hX⟩ : ∃ X, X = fpA L[j] := ⟨_, rfl⟩
            obtain ⟨r, hr⟩ : ∃ r, r = (decide (mx ≤ m) || (decide (mn ≤ m) && pm L[j])) := ⟨_, rfl⟩
            rw [← hX] at EX CE gN HXI HX1 HXS HKP HKO
            rw [← hr] at CE NX
            have HNX1 := Lib.hid NX
            have HMK := Lib.hid hm
            clear hX hr hg hx32 KW NX hE hm KA HF1'
            cases r with
            | false =>
              go_wp2_with (first
            | (with_reducible refine wpList_load_sub rfl _ _ rfl b (off + j * 32) 32 rfl t cs fr _ gr Try.underlying37 rfl infoFp EX.1 X EX.2 ?_)
            | ((with_reducible refine wpList_store_row rfl _ _ _ rfl wr.heap.size X rfl rfl 37 _ (heap_alloc_last wr _) HXI.out ?_ HX1.out ?_); (· rw [HXS.out]; rfl); rw [World.setRow_alloc_new])
            | (with_reducible refine wpList_load_row rfl _ _ rfl wr.heap.size rfl 37 X (0, 0) _ gN Try.underlying37 rfl HXI.out ?_)
            | (go_at_call 28; refine CE.mono ?_; rintro e w3 ⟨rfl, hb⟩))
              have hmk := HMK.out
              go_roundg (n1 - m)
              case measure => omega
              case rel => exact ⟨m, by omega, rfl, rfl, rfl, Lib.hid (HNX1.out.2 trivial), HKO.out _ hb⟩
            | true =>
              obtain ⟨p2, hcutr, hF2⟩ := fps_drop HF1.out HLN.out hc1 m (by have := HMK.out; omega)
              have hdd : L.drop m = ls.drop (k + m) := by rw [HL.out, List.drop_drop]
              rw [hdd] at hF2
              have HFD := Lib.hid hF2
              have hm1 : m ≤ n1 := by have := HMK.out; omega
              have hm0 : 0 < m := by have := HMK.out; omega
              have HNEW : Hid ((ns ++ [m]) ++ (segs (segN pm mn mx) (ls.drop (k + m))).map List.length = (segs (segN pm mn mx) ls).map List.length) :=
                all_more (segN pm mn mx) ls L ns k m HL.out (by rw [← HLN.out]; exact hm1) hm0 (HNX1.out.1 rfl) HSP.out
              have HINS : Hid (inL (ns ++ [m]) = inL ns ++ [.int .i64 m]) := inlS_snoc _ _
              have hlls : ns.length ≤ 1000000 := by omega
              clear hdd hF2
              go_wp2_with (first
            | (with_reducible refine wpList_load_sub rfl _ _ rfl b (off + j * 32) 32 rfl t cs fr _ gr Try.underlying37 rfl infoFp EX.1 X EX.2 ?_)
            | ((with_reducible refine wpList_store_row rfl _ _ _ rfl wr.heap.size X rfl rfl 37 _ (heap_alloc_last wr _) HXI.out ?_ HX1.out ?_); (· rw [HXS.out]; rfl); rw [World.setRow_alloc_new])
            | (with_reducible refine wpList_load_row rfl _ _ rfl wr.heap.size rfl 37 X (0, 0) _ gN Try.underlying37 rfl HXI.out ?_)
            | (at_builtin; refine wpList_append_own _ rfl _ _ 30 rfl w2.heap.size 3 i0 (.int .i64 0) 1 8 Try.underlying30 HI.out HI0.out HI1.out HI2.out rfl (by decide) _ _ _ rfl ((ownS_later HO.out K3o.out).alloc _) ⟨w3.heap.size, 0, none⟩ 1 1 [.int .i64 (m : Nat)] rfl rfl ?c1 ?c2 ?c3 ?c4 ?c5 ?_)
            | (go_at_call 28; refine CE.mono ?_; rintro e w3 ⟨rfl, hb⟩; have K3 := Lib.hid (HKP.out _ hb); have K3o := HKO.out _ hb))
              case c1 => exact cell_one_new _ _ _
              case c2 => first | rfl | (intro u hu; simp only [List.mem_singleton] at hu; subst hu; rfl)
              case c3 => unfold maxLen; omega
              case c4 => omega
              case c5 => have := K3.out.size; first | omega | (simp; omega)
              intro v' w4 hown4 hg4 _
              have hkw : w2.heap.size ≤ w3.heap.size := K3.out.size
              have h6 : Hid (Kept w2 w4) := Below.grown (Below.alloc K3.out hkw _) hg4 (by simp; omega) (fun kk hkk => ((ownS_later HO.out K3o.out).lt kk hkk).1)
              have HO4 := Lib.hid hown4
              clear hown4 hg4
              go_wp2
              have hgk := HGK.out
              go_roundg (n1 - m)
              case measure => omega
              case rel => exact ⟨k + m, p2, c1 - m, ns ++ [m], by omega, by omega, rfl, HFD, by simp; omega, HNEW, Lib.hid (by rw [HINS.out, List.length_append]; exact HO4.out), h6⟩
          · have hje : j = n1 := by omega
            have bz : decide ((j : Int) < (n1 : Int)) = false := by rw [hje]; simp
            have hall : L.take j = L := List.take_of_length_le (by rw [← HLN.out, hje]; exact Nat.le_refl _)
            have hz := HZ.out
            rw [hall] at hz
            have HNEW : Hid (ns ++ [n1] = (segs (segN pm mn mx) ls).map List.length) := all_last (segN pm mn mx) ls L ns n1 HLN.out h0 hz HSP.out
            have HINS : Hid (inL (ns ++ [n1]) = inL ns ++ [.int .i64 n1]) := inlS_snoc _ _
            have hlls : ns.length ≤ 1000000 := by omega
            have hkw : w2.heap.size ≤ wr.heap.size := (HK.out.then HKj.out).size
            have HKA : Hid (Kept w2 wr) := HK.out.then HKj.out
            have HOr := Lib.hid (ownS_later HO.out HKj.out)
            clear hz hall HZ hje
            go_wp2_with (at_builtin; refine wpList_append_own _ rfl _ _ 30 rfl w2.heap.size 3 i0 (.int .i64 0) 1 8 Try.underlying30 HI.out HI0.out HI1.out HI2.out rfl (by decide) _ _ _ rfl (HOr.out.alloc _) ⟨wr.heap.size, 0, none⟩ 1 1 [.int .i64 (n1 : Nat)] rfl rfl ?c1 ?c2 ?c3 ?c4 ?c5 ?_)
            case c1 => exact cell_one_new _ _ _
            case c2 => first | rfl | (intro u hu; simp only [List.mem_singleton] at hu; subst hu; rfl)
            case c3 => unfold maxLen; omega
            case c4 => omega
            case c5 => first | omega | (simp; omega)
            intro v' w4 hown4 hg4 _
            have h6 : Hid (Kept w2 w4) := Below.grown (Below.alloc HKA.out hkw _) hg4 (by simp; omega) (fun kk hkk => (HOr.out.lt kk hkk).1)
            have HO4 := Lib.hid hown4
            clear hown4 hg4
            go_wp2
            try rw [Exit.noGoto_ret]
            go_ret
            have hU : I64At ((segs (segN pm mn mx) ls).map List.length) v' w4 := by
              rw [← HNEW.out]
              refine i64At_own (base := w2.heap.size) (e := 3) ?_
              rw [HINS.out, List.length_append]; exact HO4.out
            exact ⟨_, rfl, hU, Below.then' HK0.out (HK2.out.then h6.out) HK0.out.size⟩
      · have hn0 : ¬ (0 : Int) < n1 := by omega
        have HU : Hid (I64At ((segs (segN pm mn mx) ls).map List.length) u5 wo) := by
          have h1 : L = [] := List.length_eq_zero_iff.1 (by rw [← HLN.out]; omega)
          have h2 := HSP.out
          rw [h1, segs_nil, List.map_nil, List.append_nil] at h2
          rw [← h2]
          exact i64At_own HO.out
        go_wp2
        try rw [Exit.noGoto_ret]
        go_ret
        exact ⟨_, rfl, HU.out, Below.then' HK0.out (HK2.out.then HK.out) HK0.out.size⟩
  · have hall : allS a b d ls = [] := by unfold allS; rw [if_neg hM]
    rw [hall]
    rw [decide_eq_false hM] at MA
    clear hall hC
    go_enter Try.func14, Try.ntmps14
    go_wp2
    go_step3
    go_wp2_with (with_reducible refine wpList_load_row rfl _ _ rfl w.heap.size rfl 24 C (0, 0) _ gC Try.underlying24 rfl HLI.out ?_)
    refine (MA _).mono ?_
    rintro e w1 ⟨rfl, hb1⟩
    go_wp2
    try rw [Exit.noGoto_ret]
    go_ret
    exact ⟨_, rfl, ⟨none, 0, rfl, Or.inl rfl⟩, Below.then' K0 hb1 K0.size⟩

end Go.Proofs.Ytlmccnelhpnneaa
