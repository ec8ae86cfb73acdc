/- The walk of All. -/
import Derived.Test.YtimllddlcjnikaaDoorCutL
namespace Go.Proofs.YtimllddlcjnikaaDoor
open Go.RowKit

theorem SrchIn.grown {b o : Nat} {T : TypeId} {R0 C : Array Value} {n fr h k : Nat} {w w' : World} {row : Option Nat} (s : SrchIn b o T R0 C n fr h k w) (hg : w.grownBy w' row) (hne : some b ≠ row) : SrchIn b o T R0 C n fr h k w' := by
  obtain ⟨R, g, x⟩ := s
  exact ⟨R, (hg.block _ (Array.getElem?_eq_some_iff.1 g).1 hne).trans g, x⟩

theorem SrchIn.fresh {b : Nat} {C : Array Value} {n fr h k : Nat} {w : World} (hC : C.size = 13) (hg : w.heap[b]? = some (.cells (srchA C n fr h k) 47 (0, 0))) : SrchIn b 0 47 (srchA C n fr h k) C n fr h k w :=
  ⟨_, hg, srchA_row _ _ _ _ _ hC, Other.refl _ _⟩

set_option maxRecDepth 100000 in
set_option maxHeartbeats 8000000 in
theorem allc_any (s : ByteArray) (hs : s.size ≤ 1000000) (C : Array Value) (a b c d : Int) (hC : IsConf C a b c d) (w : World) (hT : TabAt w) :
    Calls Tryd.prog 14 #[.string s, .agg C] w fun e w' => ∃ v, e = .returned v ∧ I64At ((allL a b c d s.data.toList).map List.length) v w' ∧ Below w.heap.size w w' := by
  have MA := may_any C a b c d hC
  have HLI : Hid ((Tryd.prog.info? 23).map (·.size) = some C.size) := by rw [hC.size]; exact info_conf
  have gC := heap_alloc_last w (.cells C 23)
  have K0 := box_below w (.cells C 23)
  by_cases hM : MayC a b c d
  · have hall : allL a b c d s.data.toList = spl (cutI a b c d) s.data.toList := by unfold allL; rw [if_pos hM]
    have hfe : ∀ l, cutI a b c d l = cutN a.toNat b.toNat c.toNat d.toNat l := fun l => by unfold cutI; rw [if_pos hM]
    rw [hall]
    have hle := cutI_le a b c d
    obtain ⟨f, hf⟩ : ∃ f, f = cutI a b c d := ⟨_, rfl⟩
    rw [← hf] at hle hfe ⊢
    have hM2 := hM
    obtain ⟨mn, mx, dm, db, rfl, rfl, rfl, rfl, h1, h2, h3, h4, h5, h6, h7⟩ := mayC_nats hM
    simp only [Int.toNat_natCast] at hfe
    rw [decide_eq_true hM2] at MA
    obtain ⟨i0, hi, hz0, hz1, hz2⟩ := info_of infoInt
    have HI := Lib.hid hi
    have HZ0 := Lib.hid hz0
    have HZ1 := Lib.hid hz1
    have HZ2 := Lib.hid hz2
    have NS := newSearch_any C mn mx dm db hC h1 (by omega)
    have HFI : ∀ n fr h k, Hid ((Tryd.prog.info? 47).map (·.size) = some (srchA C n fr h k).size) := fun n fr h k => by rw [srchA_size _ _ _ _ _ hC.size]; exact info_srch
    have HSZ : ∀ n fr h k, Hid ((srchA C n fr h k).size = 17) := fun n fr h k => srchA_size _ _ _ _ _ hC.size
    have HON : ∀ n fr h k, Hid ((srchA C n fr h k).all (·.oneCell') = true) := fun n fr h k => srchA_one _ _ _ _ _ hC.one
    have HCS := Lib.hid hC.size
    have HST := Lib.hid (Srch.start (dm := dm) (db := db) h1 h2 h3 s.data.toList)
    have EN := fun t5 R0 n fr h k t (ht : ByteArray.size t ≤ 1000000) W hTW hb hI hS => end_any t5 0 47 R0 C mn mx dm db n fr h k hC h1 h2 h3 h4 h5 h6 h7 t ht W hTW hb hI hS
    have AF := fun t5 R0 n fr h k r W hr hn hI => after_any t5 0 47 R0 C mn mx dm db n fr h k r hC h1 (by omega) hr hn W hI
    have NX := fun (l : List UInt8) r n (e : Ended mx dm db l r n) => e.next (mn := mn) h1 h2 h3
    have HUS : Hid ((#[Value.int .i64 0, .int .i64 0, .int .i64 0, .int .i64 0, .int .i64 0, .int .i64 0, .int .i64 0, .int .i64 0, .int .i64 0, .int .i64 0, .int .i64 0, .int .i64 0, .int .i64 0, .int .i64 0, .int .i64 0, .int .u32 0, .int .i64 0] : Array Value).size = (srchA C (mn - 1) (max mn 16) 0 0).size) := (srchA_size _ _ _ _ _ hC.size).symm
    have HLE := Lib.hid hle
    have HFE := Lib.hid hfe
    obtain ⟨L, hL⟩ : ∃ L, L = s.data.toList := ⟨_, rfl⟩
    rw [← hL]
    have HL := Lib.hid hL
    have ht := tab_lt hT
    clear hall hfe hle hf hM hM2 hi hz0 hz1 hz2 hC hL
    go_enter Tryd.func14, Tryd.ntmps14
    go_wp2_with (with_reducible refine wpList_load_row rfl _ _ rfl w.heap.size rfl 23 C (0, 0) _ gC Tryd.underlying23 rfl HLI.out ?_)
    refine (MA _).mono ?_
    rintro e w1 ⟨rfl, hb1⟩
    have g1 := (hb1.block _ (Array.getElem?_eq_some_iff.1 gC).1).trans gC
    have K1 := Below.then' K0 hb1 K0.size
    clear hb1 K0 gC MA
    go_wp2_with (with_reducible refine wpList_load_row rfl _ _ rfl w.heap.size rfl 23 C (0, 0) _ g1 Tryd.underlying23 rfl HLI.out ?_)
    refine (NS _).mono ?_
    rintro e w2 ⟨rfl, hb2⟩
    have K2 := Below.then' K1 hb2 K1.size
    clear hb2 K1 g1 NS
    go_wp2_with (with_reducible refine wpList_store_row rfl _ _ _ rfl w2.heap.size _ rfl rfl 47 _ (heap_alloc_last w2 _) (HFI _ _ _ _).out HUS.out (HON _ _ _ _).out ?_)
    rw [World.setRow_alloc_new]
    obtain ⟨fb, hfb⟩ : ∃ t, t = w2.heap.size := ⟨_, rfl⟩
    obtain ⟨W, hW⟩ : ∃ W, W = w2.alloc (.cells (srchA C (mn - 1) (max mn 16) 0 0) 47) := ⟨_, rfl⟩
    have G5 : SrchIn fb 0 47 (srchA C (mn - 1) (max mn 16) 0 0) C (mn - 1) (max mn 16) 0 0 W := SrchIn.fresh HCS.out (by rw [hW, hfb]; exact heap_alloc_last w2 _)
    have hsz2 := K2.size
    have KW : Below w.heap.size w W := by rw [hW]; exact K2.alloc hsz2 _
    have hwf : w.heap.size ≤ fb := by omega
    have hWs : W.heap.size = fb + 1 := by rw [hW, hfb]; simp
    have hgb : 0 ≠ fb := by omega
    rw [← hW, ← hfb]
    clear hW hfb hsz2 K2 HUS
    go_wp2_with fail
    refine (EN fb _ _ _ _ _ s hs W (hT.later KW) hgb G5 HST.out).mono ?_
    rintro e w3 ⟨r, n', fr', h', k', rfl, hE, hI, hG⟩
    have K3 := below_touch KW hG KW.size hwf
    rw [← HL.out] at hE
    have hE0 : ∃ (R0 : Array Value) (n fr h k : Nat), R0.size = 17 ∧ EndsAt mn mx dm db L r n fr h k ∧ SrchIn fb 0 47 R0 C n fr h k w3 := ⟨_, n', fr', h', k', (HSZ _ _ _ _).out, hE, hI⟩
    have HE0 := Lib.hid hE0
    have hsz3 : fb + 1 ≤ w3.heap.size := by have := hI.lt; omega
    clear hE hI hG G5 KW HST hWs hE0
    go_wp2
    go_loopw [0, 5, 7] (fun x v y wr => ∃ (t : ByteArray) (ls : List Nat) (r : Nat), x = .string t ∧ t.size ≤ s.size ∧ ls.length + t.size ≤ s.size ∧ y = .int .i64 r ∧ (∃ (R0 : Array Value) (n fr h k : Nat), R0.size = 17 ∧ EndsAt mn mx dm db t.data.toList r n fr h k ∧ SrchIn fb 0 47 R0 C n fr h k wr) ∧ ls ++ (spl f t.data.toList).map List.length = (spl f L).map List.length ∧ wr.ownsRow (fb + 1) 3 1 v ls.length (inL ls) ∧ Below w.heap.size w wr) (fun x _ _ _ => match x with | .string t => t.size | _ => 0)
    case atStart => exact ⟨s, [], r, rfl, Nat.le_refl _, by simp, rfl, by rw [← HL.out]; exact HE0.out, by rw [HL.out]; rfl, World.ownsRow_nil _ _ _ _, K3⟩
    case round =>
      clear K3 HE0 hsz3
      obtain ⟨t, ls, r, rfl, hts, hlt, rfl, ⟨R0, n, fr, h, k, hR0, hE, hI⟩, hsp, hown, K⟩ := hrel
      have HO := Lib.hid hown
      have HSP := Lib.hid hsp
      have hdl := data_len t
      clear hown hsp
      by_cases h0 : 0 < r
      · have hti : (0 : Int) < r := by omega
        have hEd : Ended mx dm db t.data.toList r n := by
          rcases hE.2 with ⟨x, _⟩ | x
          · omega
          · exact x
        have hrl : r ≤ t.data.toList.length := Nat.le_trans hEd.le hEd.len
        rw [hdl] at hrl
        have hfr : f t.data.toList = r := by rw [HFE.out, hE.1]
        have hcu := spl_cut (f := f) (l := t.data.toList) (by omega) (by omega)
        rw [hfr] at hcu
        have hdr := drop_list t r hrl
        have htk : (t.data.toList.take r).length = r := by rw [List.length_take]; omega
        have hnew : (ls ++ [r]) ++ (spl f (t.extract r t.size).data.toList).map List.length = (spl f L).map List.length := by
          rw [← HSP.out, hcu, hdr.1]
          simp only [List.map_cons, htk, List.append_assoc, List.singleton_append]
        have hnx := NX _ _ _ hEd
        rw [← hdr.1] at hnx
        have hsz3 := hdr.2
        obtain ⟨t2, ht2⟩ : ∃ t2, t.extract r t.size = t2 := ⟨_, rfl⟩
        rw [ht2] at hnew hsz3 hnx
        have HNEW := Lib.hid hnew
        obtain ⟨f2, hf2⟩ : ∃ f2, f2 = max (max mn 16) (n - r + 1) := ⟨_, rfl⟩
        rw [← hf2] at hnx
        have HNX := Lib.hid hnx
        have HF2 := Lib.hid hf2
        have hqi : (r : Int) ≤ t.size := by omega
        have hqn : ((r : Int)).toNat = r := by omega
        have hins : inL (ls ++ [r]) = inL ls ++ [.int .i64 r] := inL_snoc _ _
        have HINS := Lib.hid hins
        have hfw := hI.lt
        have hkw : w.heap.size ≤ wr.heap.size := K.size
        have hIa := hI.later (box_below wr (.cells #[.int .i64 r] 3))
        have HIA := Lib.hid hIa
        have hrn := hEd.le
        have hnm := hEd.top
        clear hcu hdr htk hnew hins HSP hdl hE hEd hnx hI hIa hfr hf2
        go_wp2_with (at_builtin; refine wpList_append_own _ rfl _ _ 29 rfl (fb + 1) 3 i0 (.int .i64 0) 1 8 Tryd.underlying29 HI.out HZ0.out HZ1.out HZ2.out rfl (by decide) _ _ _ rfl (HO.out.alloc _) ⟨wr.heap.size, 0, none⟩ 1 1 [.int .i64 (r : Nat)] rfl rfl ?c1 ?c2 ?c3 ?c4 ?c5 ?_)
        case c1 => exact cell_one_new _ _ _
        case c2 => first | rfl | (intro u hu; simp only [List.mem_singleton] at hu; subst hu; rfl)
        case c3 => unfold maxLen; omega
        case c4 => omega
        case c5 => first | omega | (simp; omega)
        intro v' w4 hown4 hg4 _
        have h6 : Below w.heap.size w w4 := (K.alloc hkw _).grown hg4 (by simp; omega) (fun k hk => by have := (HO.out.lt k hk).1; omega)
        have hI4 := HIA.out.grown hg4 (fun e => by have := (HO.out.lt fb e.symm).1; omega)
        have HO4 := Lib.hid hown4
        have HI4 := Lib.hid hI4
        clear hown4 hg4 K HO HIA hI4
        go_wp2_with fail
        have AFr := AF fb R0 n fr h k r w4 hrn (by omega) HI4.out
        rw [← HF2.out] at AFr
        refine AFr.mono ?_
        rintro e w5 ⟨rfl, hb5⟩
        have h7 := Below.then' h6 hb5 h6.size
        have HO5 := Lib.hid (own_later HO4.out hb5)
        obtain ⟨R5, g5, _, ho5⟩ := HI4.out.later hb5
        have hR5 : R5.size = 17 := ho5.1.trans hR0
        have HUS5 : Hid (R5.size = (srchA C (mn - 1) f2 0 0).size) := hR5.trans (HSZ _ _ _ _).out.symm
        have hsz5 := (Array.getElem?_eq_some_iff.1 g5).1
        clear h6 hb5 HO4 HI4 ho5 hR5
        go_wp2_with (first
          | (with_reducible refine wpList_store_row rfl _ _ _ rfl fb _ rfl rfl 47 R5 g5 (HFI _ _ _ _).out HUS5.out (HON _ _ _ _).out ?_)
          | fail)
        obtain ⟨W6, hW6⟩ : ∃ W, W = w5.setRow fb (srchA C (mn - 1) f2 0 0) := ⟨_, rfl⟩
        rw [← hW6]
        have hI6 : SrchIn fb 0 47 (srchA C (mn - 1) f2 0 0) C (mn - 1) f2 0 0 W6 := SrchIn.fresh HCS.out (by rw [hW6]; exact setRow_heap _ _ _ _ _ _ g5)
        have K6 : Below w.heap.size w W6 := by rw [hW6]; exact below_setRow h7 _ _ hwf
        have HO6 : Hid (W6.ownsRow (fb + 1) 3 1 v' (ls.length + 1) (inL ls ++ [.int .i64 r])) := by
          rw [hW6]
          exact HO5.out.kept (row := some fb) ⟨rfl, rfl, rfl, by simp, fun k _ hk => setRow_other _ _ _ _ (fun e => hk (by rw [e]))⟩ (by
            cases hv : v'.ownBlock with
            | none => exact Or.inl rfl
            | some q => exact Or.inr (fun e => by have := (HO5.out.lt q hv).1; have := Option.some.inj e; omega))
        clear HO5 g5 HUS5 hsz5 h7 hW6
        refine (EN fb _ _ _ _ _ t2 (by omega) W6 (hT.later K6) hgb hI6 HNX.out).mono ?_
        rintro e w7 ⟨r7, n7, fr7, h7', k7, rfl, hE7, hI7, hG7⟩
        have K7 := below_touch K6 hG7 K6.size hwf
        have hown7 := HO6.out.kept hG7 (by
          cases hv : v'.ownBlock with
          | none => exact Or.inl rfl
          | some q => exact Or.inr (fun e => by have := (HO6.out.lt q hv).1; have := Option.some.inj e; omega))
        have hX : ∃ (R0 : Array Value) (n fr h k : Nat), R0.size = 17 ∧ EndsAt mn mx dm db t2.data.toList r7 n fr h k ∧ SrchIn fb 0 47 R0 C n fr h k w7 := ⟨_, n7, fr7, h7', k7, (HSZ _ _ _ _).out, hE7, hI7⟩
        have HX := Lib.hid hX
        have HO7 := Lib.hid hown7
        clear hX hown7 hE7 hI7 hG7 K6 HO6 hI6
        go_wp2
        go_roundw
        case rel => exact ⟨t2, ls ++ [r], r7, rfl, by omega, by simp; omega, rfl, HX.out, HNEW.out, by rw [HINS.out, List.length_append]; exact HO7.out, K7⟩
        case measure => simp only []; omega
      · obtain rfl : r = 0 := by omega
        have hft : f t.data.toList = 0 := by rw [HFE.out]; exact hE.1.symm
        have hfw := hI.lt
        have hkw : w.heap.size ≤ wr.heap.size := K.size
        by_cases ht0 : 0 < t.size
        · have hsp := HSP.out
          rw [spl_zero hft (by intro e; rw [e] at hdl; simp at hdl; omega)] at hsp
          simp only [List.map_cons, List.map_nil, hdl] at hsp
          have HSP2 := Lib.hid hsp
          have hti : (0 : Int) < t.size := by omega
          clear hsp HSP hft hE hI hdl
          go_wp2_with (at_builtin; refine wpList_append_own _ rfl _ _ 29 rfl (fb + 1) 3 i0 (.int .i64 0) 1 8 Tryd.underlying29 HI.out HZ0.out HZ1.out HZ2.out rfl (by decide) _ _ _ rfl (HO.out.alloc _) ⟨wr.heap.size, 0, none⟩ 1 1 [.int .i64 (t.size : Nat)] rfl rfl ?c1 ?c2 ?c3 ?c4 ?c5 ?_)
          case c1 => exact cell_one_new _ _ _
          case c2 => first | rfl | (intro u hu; simp only [List.mem_singleton] at hu; subst hu; rfl)
          case c3 => unfold maxLen; omega
          case c4 => omega
          case c5 => first | omega | (simp; omega)
          intro v' w4 hown4 hg4 _
          have h6 : Below w.heap.size w w4 := (K.alloc hkw _).grown hg4 (by simp; omega) (fun k hk => by have := (HO.out.lt k hk).1; omega)
          have hU : I64At (ls ++ [t.size]) v' w4 := i64At_own (by rw [inL_snoc, List.length_append]; exact hown4)
          have HU := Lib.hid hU
          clear hown4 hg4 K HO hU
          go_wp2
          go_ret
          exact ⟨_, rfl, by rw [← HSP2.out]; exact HU.out, h6⟩
        · have hz : t.data.toList = [] := by
            apply List.eq_nil_of_length_eq_zero; rw [data_len]; omega
          have hsp := HSP.out
          rw [hz, spl_nil HLE.out] at hsp
          have hti : ¬ (0 : Int) < t.size := by omega
          have hU : I64At ls u5 wr := i64At_own HO.out
          have HU := Lib.hid hU
          have HSP2 := Lib.hid hsp
          clear hU HO hz hsp HSP hft hE hI hdl
          go_wp2
          go_ret
          exact ⟨_, rfl, by rw [← HSP2.out]; simpa using HU.out, K⟩
  · have hall : allL a b c d s.data.toList = [] := by unfold allL; rw [if_neg hM]
    rw [hall]
    rw [decide_eq_false hM] at MA
    clear hall hC
    go_enter Tryd.func14, Tryd.ntmps14
    go_wp2_with (with_reducible refine wpList_load_row rfl _ _ rfl w.heap.size rfl 23 C (0, 0) _ gC Tryd.underlying23 rfl HLI.out ?_)
    refine (MA _).mono ?_
    rintro e w1 ⟨rfl, hb1⟩
    go_wp2
    go_ret
    exact ⟨_, rfl, ⟨none, 0, rfl, Or.inl rfl⟩, Below.then' K0 hb1 K0.size⟩

end Go.Proofs.YtimllddlcjnikaaDoor
