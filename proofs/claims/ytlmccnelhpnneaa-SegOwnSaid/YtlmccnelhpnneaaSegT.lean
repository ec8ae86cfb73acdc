/- The walk of Split: each segment a row of its own. -/
import Derived.Test.YtlmccnelhpnneaaSegS
namespace Go.Proofs.Ytlmccnelhpnneaa
open Go.RowKit

def SplitOwn : Prop := ∀ (p : Option Addr) (c n : Nat) (ls : List (List UInt8)), n = ls.length → n ≤ 1000000 → n ≤ c → ∀ (C : Array Value) (a b d : Int), IsSeg C a b d → ∀ w, FpsAt 32 ls (.slice p n c) w →
  Calls Try.prog 15 #[.slice p n c, .agg C] w fun e w' => ∃ v E, e = .returned v ∧ E.map Ent.ls = allS a b d ls ∧ OwnSegs w.heap.size E v w' ∧ Below w.heap.size w w'

theorem splitOk_of (h : SplitOwn) : SplitOk := by
  intro p c n ls hn hs hc C a b d hC w hf
  refine (h p c n ls hn hs hc C a b d hC w hf).mono ?_
  rintro e w' ⟨v, E, rfl, hE, ho, hb⟩
  exact ⟨v, rfl, by rw [← hE]; exact ho.segs, hb⟩

/-- Where the i-th segment begins. -/
def offS (S : List (List (List UInt8))) (i : Nat) : Nat := (S.take i).flatten.length

theorem offS_next (S : List (List (List UInt8))) (i : Nat) (hi : i < S.length) : offS S (i + 1) = offS S i + S[i].length := by
  unfold offS
  rw [List.take_succ_eq_append_getElem hi, List.flatten_append, List.length_append]
  simp

/-- The i-th segment is what stands there. -/
theorem seg_at (S : List (List (List UInt8))) (ls : List (List UInt8)) (h : S.flatten = ls) (i : Nat) (hi : i < S.length) : (ls.drop (offS S i)).take S[i].length = S[i] ∧ offS S i + S[i].length ≤ ls.length := by
  have e : ls = (S.take i).flatten ++ (S[i] ++ (S.drop (i + 1)).flatten) := by
    rw [← h]
    conv => lhs; rw [← List.take_append_drop i S, List.drop_eq_getElem_cons hi]
    rw [List.flatten_append, List.flatten_cons]
  have e2 : ls.drop (offS S i) = S[i] ++ (S.drop (i + 1)).flatten := by
    unfold offS
    conv => lhs; rw [e]
    exact List.drop_left
  refine ⟨by rw [e2]; exact List.take_left, ?_⟩
  have := congrArg List.length e
  simp only [List.length_append] at this
  unfold offS
  omega

theorem allS_join' (a b d : Int) (ls : List (List UInt8)) (h : 0 < (allS a b d ls).length) : (allS a b d ls).flatten = ls := by
  by_cases hM : MayS a b d
  · exact allS_join a b d ls hM
  · exfalso
    unfold allS at h
    rw [if_neg hM] at h
    simp at h

theorem infoSl : (Try.prog.info? 22).map (fun i => (i.zero, i.size, i.bytes)) = some (some (.slice none 0 0), 1, 24) := by kernel_rfl

set_option maxRecDepth 100000 in
set_option maxHeartbeats 8000000 in
theorem splitOwn : SplitOwn := by
  intro p c n ls hn hs hcap C a b d hC w h
  have hi := infoSl
  obtain ⟨i0, HI, hx⟩ := Option.map_eq_some_iff.1 hi
  simp only [Prod.mk.injEq] at hx
  obtain ⟨hz0, hz1, hz2⟩ := hx
  have HI := Lib.hid HI
  have HI0 := Lib.hid hz0
  have HI1 := Lib.hid hz1
  have HI2 := Lib.hid hz2
  have AO := fun W h => allOk p c n ls hn hs hcap C a b d hC W h
  have HLI : Hid ((Try.prog.info? 24).map (·.size) = some C.size) := by rw [hC.size]; exact info_conf
  have gC := heap_alloc_last w (.cells C 24)
  have K0 := box_below w (.cells C 24)
  have HN := Lib.hid hn
  have HEA : Hid (∀ i (h : i < (allS a b d ls).length), 0 < ((allS a b d ls)[i]).length) := Lib.hid (fun i h => (allS_each a b d ls i h).1)
  have HSL := allS_len a b d ls
  have HAT : Hid (∀ i (h : i < (allS a b d ls).length), (ls.drop (offS (allS a b d ls) i)).take ((allS a b d ls)[i]).length = (allS a b d ls)[i] ∧ offS (allS a b d ls) i + ((allS a b d ls)[i]).length ≤ ls.length) :=
    Lib.hid (fun i h => seg_at _ ls (allS_join' a b d ls (by omega)) i h)
  obtain ⟨S, hS⟩ : ∃ S, S = allS a b d ls := ⟨_, rfl⟩
  rw [← hS] at AO HEA HAT HSL ⊢
  have HSN : (S.map List.length).length = S.length := List.length_map _
  obtain ⟨N, hN⟩ : ∃ N, N = S.length := ⟨_, rfl⟩
  rw [← hN] at HSN HSL
  have HNS := Lib.hid hN
  obtain ⟨w0, hw0⟩ : ∃ w0, w0 = w.alloc (.cells C 24) := ⟨_, rfl⟩
  have HF : Hid (FpsAt 32 ls (.slice p n c) w0) := by rw [hw0]; exact h.later K0
  have HK0 : Hid (Below w.heap.size w w0) := by rw [hw0]; exact K0
  have HW0 := Lib.hid hw0
  have HNL := Lib.hid HSN
  have hNb : N ≤ 1000000 := by rw [← hn] at HSL; omega
  clear hw0 hn h hC K0 hi hz0 hz1 hz2 hS hN HSL HSN
  go_enter Try.func15, Try.ntmps15
  go_wp2_with (with_reducible refine wpList_load_row rfl _ _ rfl w.heap.size rfl 24 C (0, 0) _ gC Try.underlying24 rfl HLI.out ?_)
  rw [← HW0.out]
  refine (AO w0 HF.out).mono ?_
  rintro e w1 ⟨v1, rfl, hI, hb1⟩
  have K1 : Hid (Kept w0 w1) := hb1
  have HF1 : Hid (FpsAt 32 (ls.drop (offS S 0)) (.slice p n c) w1) := by
    have e : ls.drop (offS S 0) = ls := by unfold offS; simp
    rw [e]
    exact HF.out.later hb1
  obtain ⟨p1, c1, rfl, hc1⟩ := hI
  rw [HNL.out]
  have HC1 := Lib.hid hc1
  have HOF0 : Hid (offS S 0 = 0) := Lib.hid (by unfold offS; simp)
  clear AO gC hb1 hc1
  go_wp2
  go_loopg [0, 5, 12] N (fun g s0 s5 s12 wx => ∃ (i : Nat) (E : List Ent) (q : Option Addr) (m d : Nat), i + g = N ∧ s12 = .int .i64 i ∧ s0 = .slice q m d ∧ m ≤ d ∧ offS S i + m = n ∧
    Hid (FpsAt 32 (ls.drop (offS S i)) (.slice q m d) w1) ∧ Hid (E.map Ent.ls = S.take i) ∧ Hid (OwnSegs w1.heap.size E s5 wx) ∧ Hid (Kept w1 wx))
  case atStart => exact ⟨0, [], p, n, c, by omega, rfl, rfl, hcap, by rw [HOF0.out]; omega, HF1, Lib.hid rfl, Lib.hid (OwnSegs.nil _ _), Lib.hid (Kept.refl w1)⟩
  case round =>
    obtain ⟨i, E, q, m, d', hig, rfl, rfl, hmd, hoff, HFi, HEL, HO, HK⟩ := hrel
    by_cases hlt : i < N
    · have hiS : i < S.length := by rw [← HNS.out]; exact hlt
      have hti : (i : Int) < (N : Int) := by omega
      have bz : decide ((i : Int) < (N : Int)) = true := by simpa using hti
      have hin : i < (S.map List.length).length := by rw [HNL.out]; exact hlt
      rcases HC1.out with h | ⟨b1, o1, rfl, hcell1⟩
      · rw [h] at hin; simp at hin
      have k1 := hcell1 i hin
      rw [show (S.map List.length).getD i 0 = S[i].length by rw [List.getD_eq_getElem?_getD, List.getElem?_map, List.getElem?_eq_getElem hiS]; rfl] at k1
      have cI : wr.cell? ⟨b1, o1 + i, none⟩ = some (.int .i64 (S[i].length : Nat)) := HK.out.cell k1
      have hpos := HEA.out i hiS
      have hat := HAT.out i hiS
      have hnx := offS_next S i hiS
      obtain ⟨X, hX⟩ : ∃ X, X = S[i] := ⟨_, rfl⟩
      rw [← hX] at cI hpos hat hnx
      obtain ⟨x, hx⟩ : ∃ x, x = X.length := ⟨_, rfl⟩
      rw [← hx] at cI hpos hat hnx
      have hxm : x ≤ m := by have := hat.2; rw [← HN.out] at this; omega
      have hml : m = (ls.drop (offS S i)).length := by rw [List.length_drop, ← HN.out]; omega
      obtain ⟨TK, hF2⟩ := fps_take HFi.out hml hmd x hxm hpos
      obtain ⟨q2, DR, hF3⟩ := fps_drop HFi.out hml hmd x hxm
      rw [hat.1] at hF2
      rw [List.drop_drop, ← hnx] at hF3
      have CL := fun W h => clone_any (.slice q x d') X (by rw [← hx]; omega) W h
      have CLw := CL wr (hF2.later HK.out)
      have HF3 := Lib.hid hF3
      have HX := Lib.hid hx
      have HEN : Hid (E.length = i) := Lib.hid (by have := congrArg List.length HEL.out; rw [List.length_map, List.length_take] at this; omega)
      have HES : Hid (S.take (i + 1) = S.take i ++ [X]) := Lib.hid (by rw [hX]; exact List.take_succ_eq_append_getElem hiS)
      have hof2 : offS S (i + 1) + (m - x) = n := by omega
      have hmd2 : m - x ≤ d' - x := by omega
      have hbase : w1.heap.size ≤ wr.heap.size := HK.out.size
      clear hX hx hcell1 k1 hF2 hF3 hat hnx hml CL hiS hin
      go_wp2_with fail
      refine CLw.mono ?_
      rintro e w3 ⟨v3, rfl, ho3, hb3⟩
      have K3 : Kept wr w3 := hb3
      clear CLw
      rcases ho3.parts with ⟨_, h0⟩ | ⟨g3, c3, rest3, rfl, hg3, hr3, hc3, hm3, hz3⟩
      · exfalso; rw [h0] at HX; have := HX.out; simp at this; omega
      have HO3 : Hid (OwnSegs w1.heap.size E u5 w3) := HO.out.later K3
      have HE3 : Hid (OwnFps w1.heap.size X (Ent.val ⟨X, g3, c3⟩) w3) := Lib.hid (ho3.base hbase)
      have HNE : Hid (∀ i (hi : i < E.length), E[i].g ≠ g3) := Lib.hid (fun j hj => by have := (HO.out.lt j hj).2; omega)
      have HK3 : Hid (Kept w1 w3) := HK.out.then K3
      have hb3' : w1.heap.size ≤ w3.heap.size := HK3.out.size
      have hElen : E.length = i := HEN.out
      clear ho3 hb3 hr3 hz3 hc3 hm3 hg3 K3
      go_wp2_with (at_builtin; refine wpList_append_own _ rfl _ _ 32 rfl w1.heap.size 22 i0 (.slice none 0 0) 1 24 Try.underlying32 HI.out HI0.out HI1.out HI2.out rfl (by decide) _ _ _ rfl (HO3.out.outer.alloc _) ⟨w3.heap.size, 0, none⟩ 1 1 [.slice (some ⟨g3, 0, none⟩) X.length c3] rfl rfl ?c1 ?c2 ?c3 ?c4 ?c5 ?_)
      case c1 => exact cell_one_new _ _ _
      case c2 => intro u hu; simp only [List.mem_singleton] at hu; subst hu; rfl
      case c3 => unfold maxLen; omega
      case c4 => omega
      case c5 => first | omega | (simp; omega)
      intro v' w4 hown4 hg4 _
      have KB : Kept w3 (w3.alloc (.cells #[.slice (some ⟨g3, 0, none⟩) X.length c3] 22)) := box_below _ _
      have HO4 : Hid (OwnSegs w1.heap.size (E ++ [⟨X, g3, c3⟩]) v' w4) := Lib.hid (OwnSegs.snoc (HO3.out.later KB) (HE3.out.later KB) HNE.out (by rw [HEN.out]; exact hown4) hg4)
      have HK4 : Hid (Kept w1 w4) := Below.grown (Below.alloc HK3.out hb3' _) hg4 (by simp; omega) (fun k hk => (HO3.out.outer.lt k hk).1)
      have HEL4 : Hid ((E ++ [(⟨X, g3, c3⟩ : Ent)]).map Ent.ls = S.take (i + 1)) := Lib.hid (by rw [HES.out, List.map_append, HEL.out]; rfl)
      clear hown4 hg4 KB
      go_wp2
      go_roundg (N - (i + 1))
      case measure => omega
      case rel => exact ⟨i + 1, E ++ [⟨X, g3, c3⟩], q2, m - x, d' - x, by omega, by go_num, rfl, hmd2, hof2, HF3, HEL4, HO4, HK4⟩
    · have hie : i = N := by omega
      have bz : decide ((i : Int) < (N : Int)) = false := by rw [hie]; simp
      have HS : Hid (E.map Ent.ls = S) := Lib.hid (by rw [HEL.out, hie, HNS.out, List.take_length])
      clear hie
      go_wp2
      go_ret
      exact ⟨_, E, rfl, HS.out, HO.out.base (Nat.le_trans HK0.out.size K1.out.size), Below.then' HK0.out (K1.out.then HK.out) HK0.out.size⟩

end Go.Proofs.Ytlmccnelhpnneaa
