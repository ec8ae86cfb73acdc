/- The walk of SegOwn. -/
import Derived.Test.YtlmccnelhpnneaaSegU
import Derived.Test.YtlmccnelhpnneaaSegB
namespace Go.Proofs.Ytlmccnelhpnneaa
open Go.RowKit

theorem u8_byte (n : Nat) : IntKind.u8.wrap (n : Int) = (((UInt8.ofNat n).toNat : Nat) : Int) := by
  simp [IntKind.wrap, IntKind.bits, IntKind.signed]

/-- A mark as the program builds it. -/
theorem mk_cells (i k : Nat) : fpA (mkL i k) = #[.int .u8 9, .int .u8 (((UInt8.ofNat i).toNat : Nat) : Int), .int .u8 (((UInt8.ofNat k).toNat : Nat) : Int), .int .u8 0, .int .u8 0, .int .u8 0, .int .u8 0, .int .u8 0, .int .u8 0, .int .u8 0, .int .u8 0, .int .u8 0, .int .u8 0, .int .u8 0, .int .u8 0, .int .u8 0, .int .u8 0, .int .u8 0, .int .u8 0, .int .u8 0, .int .u8 0, .int .u8 0, .int .u8 0, .int .u8 0, .int .u8 0, .int .u8 0, .int .u8 0, .int .u8 0, .int .u8 0, .int .u8 0, .int .u8 0, .int .u8 0] := rfl
theorem sev_cells : fpA sevL = #[.int .u8 7, .int .u8 0, .int .u8 0, .int .u8 0, .int .u8 0, .int .u8 0, .int .u8 0, .int .u8 0, .int .u8 0, .int .u8 0, .int .u8 0, .int .u8 0, .int .u8 0, .int .u8 0, .int .u8 0, .int .u8 0, .int .u8 0, .int .u8 0, .int .u8 0, .int .u8 0, .int .u8 0, .int .u8 0, .int .u8 0, .int .u8 0, .int .u8 0, .int .u8 0, .int .u8 0, .int .u8 0, .int .u8 0, .int .u8 0, .int .u8 0, .int .u8 0] := rfl

theorem built_mk (x y : Int) : Try.prog.built 37 [(0, .int .u8 9), (1, .int .u8 x), (2, .int .u8 y)] = some #[.int .u8 9, .int .u8 x, .int .u8 y, .int .u8 0, .int .u8 0, .int .u8 0, .int .u8 0, .int .u8 0, .int .u8 0, .int .u8 0, .int .u8 0, .int .u8 0, .int .u8 0, .int .u8 0, .int .u8 0, .int .u8 0, .int .u8 0, .int .u8 0, .int .u8 0, .int .u8 0, .int .u8 0, .int .u8 0, .int .u8 0, .int .u8 0, .int .u8 0, .int .u8 0, .int .u8 0, .int .u8 0, .int .u8 0, .int .u8 0, .int .u8 0, .int .u8 0] := by kernel_rfl
theorem built_sev : Try.prog.built 37 [(0, .int .u8 7)] = some (fpA sevL) := by rw [sev_cells]; kernel_rfl
theorem built_mkL (i k : Nat) : Try.prog.built 37 [(0, .int .u8 9), (1, .int .u8 (((UInt8.ofNat i).toNat : Nat) : Int)), (2, .int .u8 (((UInt8.ofNat k).toNat : Nat) : Int))] = some (fpA (mkL i k)) := by rw [mk_cells]; exact built_mk _ _

/-- Own rows, and all below stands. -/
def OwnIn (B : Nat) (E : List Ent) (v : Value) (w0 w : World) : Prop := OwnSegs B E v w ∧ Below B w0 w

set_option maxRecDepth 100000 in
set_option maxHeartbeats 8000000 in
theorem walk_segOwn (w : World) (v0 : Value) (ls0 : List (List UInt8)) (hv : FpsAt 32 ls0 v0 w ∧ CapOkF v0) (_hl : ls0.length ≤ maxLen) (C : Array Value) (a b d : Int) (hC : IsSeg C a b d) :
    Calls Try.prog 5 #[v0, .agg C] w (LawPost w) := by
  obtain ⟨hv, hcap⟩ := hv
  obtain ⟨p, c, rfl, -⟩ := hv.2
  have hc := hcap _ _ _ rfl
  obtain ⟨ti, hi, hi1, hi2, tz, hz, hzs⟩ := info_fp
  have FE := fun W h => fews_any p c ls0.length ls0 rfl hc W h
  have FF := fun W h => fews_fps p c ls0.length ls0 rfl hc W h
  obtain ⟨ls, hls⟩ : ∃ l, l = ls0.take 600 := ⟨_, rfl⟩
  rw [← hls] at FE FF
  have h6 := (FF w hv).2.2
  have AW := fun W => awakes_of mayOk cutOk allOk W
  have SP0 := fun p c n hn hs hc W h => splitOwn p c n ls hn hs hc C a b d hC W h
  have RA0 := fun p c n hn hs hc W h => ralls_any p c n ls hn hs hc C a b d hC W h
  have gC := heap_alloc_last w (.cells C 24)
  have K0 := box_below w (.cells C 24)
  have HCS : Hid ((Try.prog.info? 24).map (·.size) = some C.size) := by rw [hC.size]; exact info_conf
  have hv0 := hv.later K0
  obtain ⟨w0, hw0⟩ : ∃ w0, w0 = w.alloc (.cells C 24) := ⟨_, rfl⟩
  have hva : FpsAt 32 ls0 (.slice p ls0.length c) (w0.alloc (.cells #[] 37)) := by rw [hw0]; exact hv0.later (box_below _ _)
  have FEa := FE _ hva
  have hfa := (FF _ hva).1
  obtain ⟨n0, hn0⟩ : ∃ n, n = ls0.length := ⟨_, rfl⟩
  obtain ⟨n, hn⟩ : ∃ n, n = ls.length := ⟨_, rfl⟩
  have HN := Lib.hid hn
  rw [← hn] at FEa h6 hfa
  have HFa := Lib.hid hfa
  have H32 := Lib.hid hfa.1
  rw [← hn0] at FEa ⊢
  have hG : Hid (w0.heap[w.heap.size]? = some (.cells C 24 (0, 0))) := by rw [hw0]; exact gC
  have HK0 : Hid (Kept w w0) := by rw [hw0]; exact K0
  have HS0 : Hid (w.heap.size + 1 = w0.heap.size) := Lib.hid (by rw [hw0]; simp)
  have HW0 := Lib.hid hw0
  have HSP := Lib.hid SP0
  have HRA := Lib.hid RA0
  have hSl := allS_len a b d ls
  have HSB : Hid (∀ i (h : i < (allS a b d ls).length), ((allS a b d ls)[i]).length ≤ ls.length) := Lib.hid (fun i h => by have := (seg_at _ ls (allS_join' a b d ls (by omega)) i h).2; omega)
  obtain ⟨S, hS⟩ : ∃ S, S = allS a b d ls := ⟨_, rfl⟩
  rw [← hS] at hSl HSB HSP HRA
  clear hS hfa hn hn0 hls hcap hc FE FF hv hv0 hva gC K0 hw0 _hl SP0 RA0 hC
  go_enter Try.func5, Try.ntmps5
  go_wp2_with fail
  rw [← HW0.out]
  refine FEa.mono ?_
  rintro e wa ⟨rfl, rfl⟩
  rw [HS0.out]
  clear FEa
  go_wp2_with (at_builtin; refine wpList_append_fps rfl _ _ 22 rfl w0.heap.size 37 ti tz 32 Try.underlying22 hi hz hi1 hi2 hzs _ _ _ rfl (World.ownsRow_made w0 #[] 0 (Nat.le_refl _) (Nat.zero_le _) (by simp)) _ ls rfl HFa.out ?qa1 ?qa2 ?qa3 ?_)
  case qa1 => have := HN.out; unfold maxLen; omega
  case qa2 => have := HN.out; omega
  case qa3 => simp
  intro v1 w1 hown1 hgr1
  have o1 : OwnFps w0.heap.size ls v1 w1 := ⟨H32.out, hown1⟩
  have K1 : Kept w0 w1 := ((Below.refl _ w0).alloc (Nat.le_refl _) _).grown hgr1 (by simp) (by intro k hk; simp [Value.ownBlock] at hk; omega)
  clear hown1 hgr1 HFa
  obtain ⟨p1, c1, rfl, hc1⟩ := o1.slice
  rw [← HN.out] at o1 hc1 ⊢
  have HF1 : Hid (FpsAt 32 ls (.slice p1 n c1) w1) := o1.fps
  have HF1a : Hid (FpsAt 32 ls (.slice p1 n c1) (w1.alloc (.cells #[] 37))) := o1.fps.later (box_below _ _)
  have HK1 := Lib.hid K1
  clear o1 K1
  go_wp2_with (at_builtin; refine wpList_append_fps rfl _ _ 22 rfl w1.heap.size 37 ti tz 32 Try.underlying22 hi hz hi1 hi2 hzs _ _ _ rfl (World.ownsRow_made w1 #[] 0 (Nat.le_refl _) (Nat.zero_le _) (by simp)) _ ls rfl HF1a.out ?qb1 ?qb2 ?qb3 ?_)
  case qb1 => have := HN.out; unfold maxLen; omega
  case qb2 => have := HN.out; omega
  case qb3 => simp
  intro v2 w2 hown2 hgr2
  have o2 : OwnFps w1.heap.size ls v2 w2 := ⟨H32.out, hown2⟩
  have K2 : Kept w1 w2 := ((Below.refl _ w1).alloc (Nat.le_refl _) _).grown hgr2 (by simp) (by intro k hk; simp [Value.ownBlock] at hk; omega)
  clear hown2 hgr2 HF1a
  obtain ⟨p2, c2, rfl, hc2⟩ := o2.slice
  rw [← HN.out] at o2 hc2 ⊢
  have HF2 : Hid (FpsAt 32 ls (.slice p2 n c2) w2) := o2.fps
  have HF12 : Hid (FpsAt 32 ls (.slice p1 n c1) w2) := HF1.out.later K2
  have HK2 : Hid (Kept w0 w2) := HK1.out.then K2
  have g2 : w2.heap[w.heap.size]? = some (.cells C 24 (0, 0)) := HK2.out.row hG.out
  clear o2 K2 HF1 HK1
  go_wp2_with (with_reducible refine wpList_load_row rfl _ _ rfl w.heap.size rfl 24 C (0, 0) _ g2 Try.underlying24 rfl HCS.out ?_)
  refine (HSP.out p1 c1 n HN.out (by omega) hc1 w2 HF12.out).mono ?_
  rintro e w3 ⟨vp, E0, rfl, hE0, hO, hb3⟩
  obtain ⟨pp, cp, rfl⟩ := hO.slice
  obtain ⟨sz, hsz⟩ : ∃ sz : Nat → Nat, sz = fun j => ((E0[j]?).map (fun e : Ent => e.ls.length)).getD 0 := ⟨_, rfl⟩
  obtain ⟨N, hN⟩ : ∃ N, N = E0.length := ⟨_, rfl⟩
  rw [← hN] at hO ⊢
  have hNS : N = S.length := by rw [hN, ← hE0, List.length_map]
  have HP0 : Hid (Prg sz N 0 E0) := Lib.hid ⟨hN.symm, fun j _ h => by omega, fun j h _ => by rw [hsz]; simp [List.getElem?_eq_getElem h]⟩
  have HSZ : Hid (∀ j, sz j ≤ 600) := Lib.hid (fun j => by
    rw [hsz]
    by_cases hj : j < E0.length
    · simp only [List.getElem?_eq_getElem hj, Option.map_some, Option.getD_some]
      have hjS : j < S.length := by omega
      have e1 : E0[j].ls = S[j] := by
        have h1 : (E0.map Ent.ls)[j]? = S[j]? := by rw [hE0]
        rw [List.getElem?_map, List.getElem?_eq_getElem hj, List.getElem?_eq_getElem hjS] at h1
        simpa using h1
      have e2 := HSB.out j hjS
      rw [e1]
      have := HN.out
      omega
    · show ((E0[j]?).map (fun e : Ent => e.ls.length)).getD 0 ≤ 600
      rw [List.getElem?_eq_none (by omega)]; simp)
  have HNS := Lib.hid hNS
  have HNL : Hid ((S.map List.length).length = N) := Lib.hid (by rw [List.length_map]; exact hNS.symm)
  have hN6 : N ≤ 600 := by have := HN.out; omega
  have HI0 : Hid (OwnIn w2.heap.size E0 (.slice pp N cp) w2 w3) := Lib.hid ⟨hO, hb3⟩
  obtain ⟨B, hB⟩ : ∃ B, B = w2.heap.size := ⟨_, rfl⟩
  rw [← hB] at HI0
  have HB := Lib.hid hB
  clear hsz hN hE0 hO hb3 hNS HSP HSB g2 hB
  go_wp2
  go_loopg [7] N (fun g s7 wx => ∃ (i : Nat) (E : List Ent), i + g = N ∧ s7 = .int .i64 i ∧ Hid (Prg sz N i E) ∧ Hid (OwnIn B E (.slice pp N cp) w2 wx))
  case atStart => exact ⟨0, E0, by omega, rfl, HP0, HI0⟩
  case round =>
    clear HP0 HI0
    obtain ⟨i, E, hig, rfl, HP, HI⟩ := hrel
    by_cases hlt : i < N
    · have hiE : i < E.length := by have := HP.out.1; omega
      obtain ⟨gp, cp', hvp, _, _⟩ := HI.out.1.cell i hiE
      simp only [Value.slice.injEq] at hvp
      obtain ⟨rfl, -, -⟩ := hvp
      have hti : (i : Int) < (N : Int) := by omega
      have bz : decide ((i : Int) < (N : Int)) = true := by simpa using hti
      obtain ⟨wo, hwo⟩ : ∃ wo : World, wo = wr := ⟨_, rfl⟩
      subst hwo
      obtain ⟨m, hm⟩ : ∃ m, m = sz i := ⟨_, rfl⟩
      have hm6 : m ≤ 600 := by rw [hm]; exact HSZ.out i
      have HM := Lib.hid hm
      have hig2 := hig
      clear hm
      go_wp2
      go_loopg [8] m (fun g s8 wy => ∃ (k : Nat) (E : List Ent), k + g = m ∧ s8 = .int .i64 k ∧ Hid (PrgK sz N i k E) ∧ Hid (OwnIn B E (.slice (some ⟨gp, 0, none⟩) N cp) w2 wy))
      case atStart => exact ⟨0, E, by omega, rfl, Lib.hid (prg_start _ _ _ _ HP.out), HI⟩
      case round =>
        clear HP HI
        obtain ⟨k, E2, hkg, rfl, HPK, HI2⟩ := hrel
        have hiE : i < E2.length := by have := HPK.out.1.1; omega
        obtain ⟨gq, cq, hvq, hBg, hcell⟩ := HI2.out.1.cell i hiE
        simp only [Value.slice.injEq, Option.some.injEq, Addr.mk.injEq, and_true, true_and] at hvq
        obtain ⟨rfl, -, -⟩ := hvq
        have hlen : E2[i].ls.length = m := by rw [HM.out]; exact HPK.out.1.2.2 i hiE (Nat.le_refl _)
        obtain ⟨rest, hBr, hrow, hq1, hq2, hq3⟩ := Ent.row (HI2.out.1.each i hiE)
        have hE32 := (HI2.out.1.each i hiE).1
        have hOwn := (HI2.out.1.each i hiE).2
        have hBw : B ≤ wr.heap.size := by rw [HB.out]; exact HI2.out.2.size
        have hcI : wr.cell? ⟨gp, i, none⟩ = some (.slice (some ⟨E2[i].g, 0, none⟩) m E2[i].cap) := by rw [hcell]; unfold Ent.val; rw [hlen]
        have hOwn2 : wr.ownsRow B 37 32 (.slice (some ⟨E2[i].g, 0, none⟩) m E2[i].cap) m (flatL E2[i].ls) := by have h := hOwn; unfold Ent.val at h; rw [hlen] at h; exact h
        have hti2 : (i : Int) < (N : Int) := by omega
        by_cases hlk : k < m
        · have hkl : k < E2[i].ls.length := by omega
          have hwr := fun w' hw => OwnSegs.write HI2.out.1 i hiE k hkl (mkL i k) (mkL_len _ _) rest hrow ⟨hq1, hq2, hq3⟩ w' hw
          have hprg := prg_write sz N i k E2 HPK.out hiE hkl E2[i].g E2[i].cap
          have hsz2 : k * 32 + (fpA (mkL i k)).size ≤ (rowA E2[i].ls rest).size := by rw [rowA_size _ _ hrow.1, fpA_size, mkL_len]; omega
          have gR := hrow.2
          obtain ⟨E3, hE3⟩ : ∃ E3, E3 = E2.set i ⟨E2[i].ls.set k (mkL i k), E2[i].g, E2[i].cap⟩ := ⟨_, rfl⟩
          rw [← hE3] at hprg
          have hwr : ∀ w', w' = wr.setRow E2[i].g (laidOver (rowA E2[i].ls rest) (k * 32) (fpA (mkL i k)).toList) → OwnIn B E3 (.slice (some ⟨gp, 0, none⟩) N cp) w2 w' := fun w' hw => by
            have h := hwr w' hw
            rw [← hE3] at h
            exact ⟨h.1, below_touch HI2.out.2 h.2 hBw hBr⟩
          have HXI : Hid ((Try.prog.info? 37).map (·.size) = some (fpA (mkL i k)).size) := fp_info _ (mkL_len i k)
          have HX1 : Hid ((fpA (mkL i k)).all (·.oneCell') = true) := fpA_one _
          have hxb := built_mkL i k
          have v1 := u8_byte i
          have v2 := u8_byte k
          obtain ⟨xi, hxi⟩ : ∃ x : Int, x = (((UInt8.ofNat i).toNat : Nat) : Int) := ⟨_, rfl⟩
          obtain ⟨xk, hxk⟩ : ∃ x : Int, x = (((UInt8.ofNat k).toNat : Nat) : Int) := ⟨_, rfl⟩
          rw [← hxi] at v1 hxb
          rw [← hxk] at v2 hxb
          obtain ⟨X, hX⟩ : ∃ X, X = fpA (mkL i k) := ⟨_, rfl⟩
          rw [← hX] at hwr HXI HX1 hxb hsz2
          obtain ⟨R, hR⟩ : ∃ R, R = rowA E2[i].ls rest := ⟨_, rfl⟩
          rw [← hR] at hwr hsz2 gR
          obtain ⟨g, hg⟩ : ∃ g, g = E2[i].g := ⟨_, rfl⟩
          rw [← hg] at hwr gR hcI
          obtain ⟨cc, hcc⟩ : ∃ cc, cc = E2[i].cap := ⟨_, rfl⟩
          rw [← hcc] at hcI
          have IX : ∀ w', (Instr.indexAt 22 (.slice (some ⟨g, 0, none⟩) m cc) (.int .i64 k)).run Try.prog w' = .ok (.pointer (some ⟨g, k * 32, none⟩)) w' := fun w' => by
            have h := idx_at g 0 m cc k hlk w'
            rwa [Nat.zero_add] at h
          have HXB := Lib.hid hxb
          have HSZ2 := Lib.hid hsz2
          have HWR := Lib.hid hwr
          have HPR := Lib.hid hprg
          obtain ⟨k1, hk1⟩ : ∃ k1, k1 = k + 1 := ⟨_, rfl⟩
          rw [← hk1] at HPR
          have v3 : IntKind.i64.wrap ((k : Int) + 1) = (k1 : Int) := by rw [show (k : Int) + 1 = (k1 : Int) by omega]; exact IntWalk.i64_in _ (by omega)
          have hlkz : (k : Int) < (m : Int) := by omega
          have bk : decide ((k : Int) < (m : Int)) = true := by simpa using hlkz
          clear hcc hg hR hX hxk hxi hE3 hxb hsz2 hwr hprg hOwn hOwn2 hE32 hrow hcell hlen HPK HI2 hkl hq1 hq2 hq3 hBr
          go_wp2_with (first
            | ((with_reducible refine wpList_built rfl _ _ rfl [(0, .int .u8 9), (1, .int .u8 xi), (2, .int .u8 xk)] ?_ X HXB.out ?_); (· simp only [List.map_toArray, List.map_cons, List.map_nil]; rfl))
            | ((with_reducible refine wpList_store_sub rfl _ _ _ rfl g (k * 32) X rfl rfl 37 R gR HXI.out ?_ HX1.out ?_); (· exact HSZ2.out)))
          go_roundg (m - k1)
          case measure => omega
          case rel => exact ⟨k1, E3, by omega, by first | rfl | (congr 1; omega), HPR, Lib.hid (HWR.out _ rfl)⟩
        · have hkm : k = m := by omega
          have hlkz : ¬ (k : Int) < (m : Int) := by omega
          have bk : decide ((k : Int) < (m : Int)) = false := by simpa using hlkz
          have HGR := Lib.hid (fun v1 w1 h1 h2 h3 => OwnSegs.grow (HI2.out.1.later (w' := wr.alloc (.cells (fpA sevL) 37)) (box_below _ _)) i hiE sevL v1 w1 h1 h2 h3 gp cp (by have := HPK.out.1.1; rw [this]))
          have HPG := Lib.hid (fun e he => prg_grow sz N i E2 (by have h := HPK.out; rw [hkm, HM.out] at h; exact h) hiE e he)
          have H32E := Lib.hid hE32
          have HYB := Lib.hid built_sev
          have HYS : Hid ((fpA sevL).size = 32) := by rw [fpA_size]; exact sevL_len
          have hY2 : flatL [sevL] = (fpA sevL).toList := flatL_one _
          have HBR := Lib.hid hBr
          have HLE := Lib.hid hlen
          obtain ⟨ls2, hls2⟩ : ∃ l, l = E2[i].ls := ⟨_, rfl⟩
          rw [← hls2] at hOwn2 HGR H32E HLE HPG
          obtain ⟨g, hg⟩ : ∃ g, g = E2[i].g := ⟨_, rfl⟩
          rw [← hg] at hcI hOwn2 HGR HBR
          obtain ⟨cc, hcc⟩ : ∃ cc, cc = E2[i].cap := ⟨_, rfl⟩
          rw [← hcc] at hcI hOwn2
          obtain ⟨Y, hY⟩ : ∃ Y, Y = fpA sevL := ⟨_, rfl⟩
          rw [← hY] at HYB HYS HGR hY2
          have HOW := Lib.hid hOwn2
          have HY2 := Lib.hid hY2
          have HI3 := Lib.hid HI2.out.2
          obtain ⟨i1, hi1e⟩ : ∃ i1, i1 = i + 1 := ⟨_, rfl⟩
          rw [← hi1e] at HPG
          have v3 : IntKind.i64.wrap ((i : Int) + 1) = (i1 : Int) := by rw [show (i : Int) + 1 = (i1 : Int) by omega]; exact IntWalk.i64_in _ (by omega)
          clear hY hcc hg hls2 hY2 hOwn2 hOwn hE32 hrow hcell hlen HPK HI2 hq1 hq2 hq3 hBr hkm
          go_wp2_with (first
            | ((with_reducible refine wpList_built rfl _ _ rfl [(0, .int .u8 7)] ?_ Y HYB.out ?_); (· simp only [List.map_toArray, List.map_cons, List.map_nil]; rfl))
            | (with_reducible refine wpList_build1 rfl _ rfl Y rfl HYS.out ?_)
            | (at_builtin; refine wpList_append_at rfl _ _ 22 rfl B 37 ti tz 32 32 Try.underlying22 hi hz hi1 hi2 hzs (by decide) _ m _ rfl (HOW.out.alloc _) ⟨wr.heap.size, 0, none⟩ 1 1 (flatL [sevL]) rfl ?d1 ?d2 ?d3 ?d4 ?d5 ?d6 ?_))
          case d1 => rw [HY2.out, Array.length_toList, HYS.out]
          case d2 =>
            intro j u hu
            rw [HY2.out, Array.getElem?_toList] at hu
            first
              | exact hu
              | (rw [add_plain, Nat.zero_add, cell_of_row _ _ _ _ _ _ (heap_alloc_last wr (.cells Y 37))]; exact hu)
          case d3 => exact fun u hu => flatL_one' _ u hu
          case d4 => unfold maxLen; omega
          case d5 => omega
          case d6 => first | omega | (simp; omega)
          intro v1 w5 hown hgrow hwhere
          obtain ⟨e, he, rfl, hos, hfz, hcl, h1c, hBp, hgp⟩ := HGR.out v1 w5 (own_snoc H32E.out sevL_len (by rw [HLE.out]; exact hown)) hgrow (by simpa [Value.ownBlock] using hwhere)
          have hpe := HPG.out e he
          have hbl : Below B w2 w5 := below_touch (HI3.out.alloc hBw (.cells Y 37)) hgrow (by simp; omega) HBR.out
          have hbl2 := below_touch hbl (grown_set w5 gp i (.slice (some ⟨e.g, 0, none⟩) e.ls.length e.cap)) (by rw [HB.out]; exact hbl.size) hBp
          obtain ⟨E3, hE3⟩ : ∃ E3, E3 = E2.set i e := ⟨_, rfl⟩
          rw [← hE3] at hos hpe
          obtain ⟨ge, hge⟩ : ∃ ge, ge = e.g := ⟨_, rfl⟩
          obtain ⟨ne, hne⟩ : ∃ ne, ne = e.ls.length := ⟨_, rfl⟩
          obtain ⟨ce, hce⟩ : ∃ ce, ce = e.cap := ⟨_, rfl⟩
          rw [← hge, ← hne, ← hce] at hos hbl2 ⊢
          have hcl' : ∃ u, w5.cell? ⟨gp, i, none⟩ = some u := ⟨_, hcl⟩
          obtain ⟨u0', hcl'⟩ := hcl'
          have HOS := Lib.hid hos
          have HPE := Lib.hid hpe
          have HB2 := Lib.hid hbl2
          clear hcl hge hne hce hE3 hos hpe hbl hbl2 hown hgrow hwhere he h1c hBp hgp
          go_wp2
          go_roundg (N - i1)
          case measure => omega
          case rel => exact ⟨i1, E3, by omega, by first | rfl | (congr 1; omega), HPE, Lib.hid ⟨HOS.out, HB2.out⟩⟩
    · have hie : i = N := by omega
      have HPN : Hid (Prg sz N N E) := by rw [hie] at HP; exact HP
      have bz : decide ((i : Int) < (N : Int)) = false := by rw [hie]; simp
      have bzi : ¬ (i : Int) < (N : Int) := by omega
      obtain ⟨w5, hw5⟩ : ∃ w5 : World, w5 = wr := ⟨_, rfl⟩
      subst hw5
      clear hie HP
      go_wp2
      go_loopg [9] N (fun g s9 wx => ∃ j : Nat, j + g = N ∧ s9 = .int .i64 j ∧ w5 = wx)
      case atStart => exact ⟨0, by omega, rfl, rfl⟩
      case round =>
        obtain ⟨j, hjg, rfl, hwx⟩ := hrel
        subst hwx
        by_cases hlj : j < N
        · have hjE : j < E.length := by have := HPN.out.1; omega
          obtain ⟨gp, cp', hvp, _, hcell⟩ := HI.out.1.cell j hjE
          simp only [Value.slice.injEq] at hvp
          obtain ⟨rfl, -, -⟩ := hvp
          have hls := HPN.out.2.1 j hjE hlj
          obtain ⟨m, hm⟩ : ∃ m, m = sz j := ⟨_, rfl⟩
          have hm6 : m ≤ 600 := by rw [hm]; exact HSZ.out j
          rw [← hm] at hls
          obtain ⟨m1, hm1⟩ : ∃ m1, m1 = m + 1 := ⟨_, rfl⟩
          have hlen : E[j].ls.length = m1 := by rw [hls, doneL_len, hm1]
          obtain ⟨rest, hBr, hrow, hq1, hq2, hq3⟩ := Ent.row (HI.out.1.each j hjE)
          have hcJ : w5.cell? ⟨gp, j, none⟩ = some (.slice (some ⟨E[j].g, 0, none⟩) m1 E[j].cap) := by rw [hcell]; unfold Ent.val; rw [hlen]
          have hsR : (rowA E[j].ls rest).size = m1 * 32 + rest.length := by rw [rowA_size _ _ hrow.1, hlen]
          have hXT : ∀ k, k < m → (rowA E[j].ls rest).extract (k * 32) (k * 32 + 32) = fpA (mkL j k) := fun k hk => by
            rw [rowA_extract _ _ hrow.1 k (by omega)]
            have h1 := doneL_get j m k hk
            rw [← hls, List.getElem?_eq_getElem (by omega)] at h1
            simp only [Option.some.injEq] at h1
            rw [h1]
          have gR := hrow.2
          obtain ⟨R, hR⟩ : ∃ R, R = rowA E[j].ls rest := ⟨_, rfl⟩
          rw [← hR] at hsR hXT gR
          obtain ⟨g, hg⟩ : ∃ g, g = E[j].g := ⟨_, rfl⟩
          rw [← hg] at gR hcJ
          obtain ⟨cc, hcc⟩ : ∃ cc, cc = E[j].cap := ⟨_, rfl⟩
          rw [← hcc] at hcJ
          have HXT := Lib.hid hXT
          have HSR := Lib.hid hsR
          have GR := Lib.hid gR
          have HCJ := Lib.hid hcJ
          obtain ⟨j1, hj1⟩ : ∃ j1, j1 = j + 1 := ⟨_, rfl⟩
          have vj : IntKind.i64.wrap ((j : Int) + 1) = (j1 : Int) := by rw [show (j : Int) + 1 = (j1 : Int) by omega]; exact IntWalk.i64_in _ (by omega)
          have HJG := Lib.hid hjg
          have hjz : (j : Int) < (N : Int) := by omega
          have bj : decide ((j : Int) < (N : Int)) = true := by simpa using hjz
          obtain ⟨gk0, hgk0⟩ : ∃ gk0, gk0 = gk := ⟨_, rfl⟩
          subst hgk0
          clear hcc hg hR hrow hcell hlen hls hq1 hq2 hq3 hBr hm hjE hsR hXT gR hcJ
          go_wp2
          go_loopg [10] m (fun g s10 wy => ∃ k : Nat, k + g = m ∧ s10 = .int .i64 k ∧ w5 = wy)
          case atStart => exact ⟨0, by omega, rfl, rfl⟩
          case round =>
            obtain ⟨k, hkg, rfl, hwy⟩ := hrel
            subst hwy
            have gR := GR.out
            have hcJ := HCJ.out
            obtain ⟨k1, hk1⟩ : ∃ k1, k1 = k + 1 := ⟨_, rfl⟩
            have v3 : IntKind.i64.wrap ((k : Int) + 1) = (k1 : Int) := by rw [show (k : Int) + 1 = (k1 : Int) by omega]; exact IntWalk.i64_in _ (by omega)
            by_cases hlk : k < m
            · have hlkz : (k1 : Int) < (m1 : Int) := by omega
              have bk : decide ((k1 : Int) < (m1 : Int)) = true := by simpa using hlkz
              have hlk1 : k < m1 := by omega
              have hxt := HXT.out k hlk
              have hxs : k * 32 + 32 ≤ R.size := by rw [HSR.out]; omega
              have EQ := fun w' => eq_fp (mkL j k) (mkL j k) (mkL_len _ _) (mkL_len _ _) w'
              rw [show (mkL j k == mkL j k) = true by simp] at EQ
              have hxb := built_mkL j k
              have v1 := u8_byte j
              have v2 := u8_byte k
              obtain ⟨xi, hxi⟩ : ∃ x : Int, x = (((UInt8.ofNat j).toNat : Nat) : Int) := ⟨_, rfl⟩
              obtain ⟨xk, hxk⟩ : ∃ x : Int, x = (((UInt8.ofNat k).toNat : Nat) : Int) := ⟨_, rfl⟩
              rw [← hxi] at v1 hxb
              rw [← hxk] at v2 hxb
              obtain ⟨X, hX⟩ : ∃ X, X = fpA (mkL j k) := ⟨_, rfl⟩
              rw [← hX] at hxt EQ hxb
              have HXB := Lib.hid hxb
              have HXX := Lib.hid hxt
              have HXS := Lib.hid hxs
              have IX : ∀ w', (Instr.indexAt 22 (.slice (some ⟨g, 0, none⟩) m1 cc) (.int .i64 k)).run Try.prog w' = .ok (.pointer (some ⟨g, k * 32, none⟩)) w' := fun w' => by
                have h := idx_at g 0 m1 cc k hlk1 w'
                rwa [Nat.zero_add] at h
              clear hX hxk hxi hxb hxt hxs
              go_wp2_with (first
                | ((with_reducible refine wpList_built rfl _ _ rfl [(0, .int .u8 9), (1, .int .u8 xi), (2, .int .u8 xk)] ?_ X HXB.out ?_); (· simp only [List.map_toArray, List.map_cons, List.map_nil]; rfl))
                | (with_reducible refine wpList_load_sub rfl _ _ rfl g (k * 32) 32 rfl 37 R (0, 0) _ gR Try.underlying37 rfl infoFp HXS.out X HXX.out ?_))
              go_roundg (m - k1)
              case measure => omega
              case rel => exact ⟨k1, by omega, by first | rfl | (congr 1; omega), rfl⟩
            · have hlkz : ¬ (k1 : Int) < (m1 : Int) := by omega
              have bk : decide ((k1 : Int) < (m1 : Int)) = false := by simpa using hlkz
              have hjg2 := HJG.out
              go_wp2
              go_roundg (N - j1)
              case measure => omega
              case rel => exact ⟨j1, by omega, by first | rfl | (congr 1; omega), rfl⟩
        · have hjz : ¬ (j : Int) < (N : Int) := by omega
          have bj : decide ((j : Int) < (N : Int)) = false := by simpa using hjz
          have KB : Kept w2 w5 := by have h := HI.out.2; rw [HB.out] at h; exact h
          have FS := same_n p1 p2 c1 c2 n n ls ls HN.out HN.out (by omega) w5 (HF12.out.later KB) (HF2.out.later KB)
          rw [show (ls == ls) = true by simp] at FS
          have HKB := Lib.hid KB
          have nn : ((N : Int) == (N : Int)) = true := by simp
          clear KB
          go_wp2_with fail
          refine FS.mono ?_
          rintro e w6 ⟨rfl, hb6⟩
          have K6 : Kept w2 w6 := HKB.out.then hb6
          have g6 : w6.heap[w.heap.size]? = some (.cells C 24 (0, 0)) := K6.row (HK2.out.row hG.out)
          clear FS hb6
          go_wp2_with (with_reducible refine wpList_halt (d := 93) rfl ?_)
          unfold Halted
          refine wpList_load_rowS (by kernel_rfl) _ _ rfl w.heap.size rfl 24 C (0, 0) _ g6 Try.underlying24 rfl HCS.out (fun K hK => ?_)
          go_simp
          refine hK _ _ ?_; clear hK K
          refine BigFrame.wpList_want (by kernel_rfl) (fun K hK => ?_)
          go_simp
          refine (HRA.out p2 c2 n HN.out (by omega) hc2 w6 (HF2.out.later K6)).mono ?_
          rintro e w7 ⟨v7, rfl, ⟨p7, c7, rfl, -⟩, hb7⟩
          rw [HNL.out]
          refine hK _ _ ?_; clear hK K
          go_wp2_with fail
          refine (AW _).mono ?_
          rintro e w8 ⟨rfl, hb8⟩
          have K8 := (K6.then hb7).then hb8
          go_wp2
          go_ret
          exact ⟨rfl, HK0.out.then (HK2.out.then K8)⟩

end Go.Proofs.Ytlmccnelhpnneaa
