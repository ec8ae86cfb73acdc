/- The walks of New, of Write. -/
import Derived.Test.YtimllddlcjnikaaDoorCutY
namespace Go.Proofs.YtimllddlcjnikaaDoor
open Go.RowKit

/-- The cells of a new Cutter, its own address not yet there. -/
def rawC (C : Array Value) (n fr h k : Nat) : Array Value := #[.pointer none, .pointer none, .slice none 0 0] ++ srchA C n fr h k

theorem built_cutL (x0 x1 x2 x3 x4 x5 x6 x7 x8 x9 x10 x11 x12 : Value) (n fr h k : Nat) : Tryd.prog.built 60 [(2, .agg #[x0, x1, x2, x3, x4, x5, x6, x7, x8, x9, x10, x11, x12, .int .i64 n, .int .i64 fr, .int .u32 h, .int .i64 k])] = some #[.pointer none, .pointer none, .slice none 0 0, x0, x1, x2, x3, x4, x5, x6, x7, x8, x9, x10, x11, x12, .int .i64 n, .int .i64 fr, .int .u32 h, .int .i64 k] := by kernel_rfl

theorem built_cut (C : Array Value) (n fr h k : Nat) (hC : C.size = 13) : Tryd.prog.built 60 [(2, .agg (srchA C n fr h k))] = some (rawC C n fr h k) := by
  obtain ⟨l⟩ := C
  match l, hC with
  | [x0, x1, x2, x3, x4, x5, x6, x7, x8, x9, x10, x11, x12], _ =>
    have e1 : srchA ⟨[x0, x1, x2, x3, x4, x5, x6, x7, x8, x9, x10, x11, x12]⟩ n fr h k = #[x0, x1, x2, x3, x4, x5, x6, x7, x8, x9, x10, x11, x12, .int .i64 n, .int .i64 fr, .int .u32 h, .int .i64 k] := by apply Array.ext'; simp [srchA]
    have e2 : rawC ⟨[x0, x1, x2, x3, x4, x5, x6, x7, x8, x9, x10, x11, x12]⟩ n fr h k = #[.pointer none, .pointer none, .slice none 0 0, x0, x1, x2, x3, x4, x5, x6, x7, x8, x9, x10, x11, x12, .int .i64 n, .int .i64 fr, .int .u32 h, .int .i64 k] := by apply Array.ext'; simp [rawC, srchA]
    rw [e2, e1]
    exact built_cutL x0 x1 x2 x3 x4 x5 x6 x7 x8 x9 x10 x11 x12 n fr h k

theorem srch_up {S C : Array Value} {n fr h k : Nat} (s : SrchRow S 0 C n fr h k) (hS : S.size = 17) (R : Array Value) (hR : R.size = 20) (he : ∀ i, i < 17 → R[3 + i]? = S[i]?) : SrchRow R 3 C n fr h k where
  size := by omega
  conf := by
    rw [← s.conf]
    apply Array.ext_getElem?
    intro j
    rw [Array.getElem?_extract, Array.getElem?_extract]
    by_cases hj : j < 13
    · rw [if_pos (by omega), if_pos (by omega), he j (by omega), Nat.zero_add]
    · rw [if_neg (by omega), if_neg (by omega)]
  cn := by have := he 13 (by omega); rw [show 3 + 13 = 16 from rfl] at *; rw [this]; exact s.cn
  cf := by have := he 14 (by omega); rw [this]; exact s.cf
  ch := by have := he 15 (by omega); rw [this]; exact s.ch
  ck := by have := he 16 (by omega); rw [this]; exact s.ck

theorem raw_row (C : Array Value) (n fr h k xb : Nat) (hC : C.size = 13) : CutterRow ((rawC C n fr h k).setIfInBounds 0 (.pointer (some ⟨xb, 0, none⟩))) xb C n fr h k (.pointer none) (.slice none 0 0) := by
  have hs := srchA_size C n fr h k hC
  have hz : (rawC C n fr h k).size = 20 := by simp [rawC, hs]
  refine ⟨by rw [Array.size_setIfInBounds]; exact hz, set_same _ _ _ (by omega), ?_, ?_, ?_⟩
  · rw [Array.getElem?_setIfInBounds_ne (by omega)]; unfold rawC; rw [Array.getElem?_append_left (by simp)]; rfl
  · rw [Array.getElem?_setIfInBounds_ne (by omega)]; unfold rawC; rw [Array.getElem?_append_left (by simp)]; rfl
  · refine srch_up (srchA_row C n fr h k hC) hs _ (by rw [Array.size_setIfInBounds]; exact hz) (fun i hi => ?_)
    rw [Array.getElem?_setIfInBounds_ne (by omega)]
    unfold rawC
    rw [Array.getElem?_append_right (by simp), show 3 + i - (#[Value.pointer none, .pointer none, .slice none 0 0] : Array Value).size = i by simp]

theorem laid_row {R : Array Value} {xb : Nat} {C : Array Value} {n fr h k : Nat} {p v : Value} (s : CutterRow R xb C n fr h k p v) (hC : C.size = 13) (n' fr' h' k' : Nat) : CutterRow (laidOver R 3 (srchA C n' fr' h' k').toList) xb C n' fr' h' k' p v := by
  have hs := srchA_size C n' fr' h' k' hC
  have hl : (srchA C n' fr' h' k').toList.length = 17 := by rw [Array.length_toList]; exact hs
  have hz := s.size
  have hsz : (laidOver R 3 (srchA C n' fr' h' k').toList).size = 20 := by rw [laidOver_size _ _ _ (by omega)]; exact hz
  refine ⟨hsz, ?_, ?_, ?_, ?_⟩
  · rw [laidOver_lo _ _ _ (by omega) 0 (by omega)]; exact s.r0
  · rw [laidOver_lo _ _ _ (by omega) 1 (by omega)]; exact s.r1
  · rw [laidOver_lo _ _ _ (by omega) 2 (by omega)]; exact s.r2
  · exact srch_up (srchA_row C n' fr' h' k' hC) hs _ hsz (fun i hi => by rw [laidOver_in _ _ _ (by omega) i (by omega), Array.getElem?_toList])

/-- The search in a Cutter. -/
theorem CutAt.srch {B xb : Nat} {C : Array Value} {n fr h k : Nat} {l : List UInt8} {w : World} (s : CutAt B xb C n fr h k l w) : ∃ R0 : Array Value, R0.size = 20 ∧ SrchIn xb 3 60 R0 C n fr h k w ∧
    ∀ n' fr' h' k' w', SrchIn xb 3 60 R0 C n' fr' h' k' w' → w.grownBy w' (some xb) → CutAt B xb C n' fr' h' k' l w' := by
  obtain ⟨hB, R, p, v, hg, hr, hp, hown, hne⟩ := s
  refine ⟨R, hr.size, ⟨R, hg, hr.srch, Other.refl _ _⟩, fun n' fr' h' k' w' hI hG => ?_⟩
  obtain ⟨R', hg', hs', ho⟩ := hI
  exact ⟨hB, R', p, v, hg', ⟨ho.1.trans hr.size, (ho.2 0 (by omega)).trans hr.r0, (ho.2 1 (by omega)).trans hr.r1, (ho.2 2 (by omega)).trans hr.r2, hs'⟩, hp, hown.kept hG (Or.inr hne), hne⟩

/-- An append to a row of texts leaves a Cutter. -/
theorem CutAt.row {B xb base m : Nat} {C : Array Value} {n fr h k : Nat} {l : List UInt8} {w w' : World} {v : Value} {xs : List Value} (s : CutAt B xb C n fr h k l w) (hown : w.ownsRow base 9 1 v m xs) (hne : v.ownBlock ≠ some xb) (hG : w.grownBy w' v.ownBlock) : CutAt B xb C n fr h k l w' := by
  obtain ⟨hB, R, p, u, hg, hr, hp, hu, hnu⟩ := s
  refine ⟨hB, R, p, u, (hG.block _ (Array.getElem?_eq_some_iff.1 hg).1 (fun e => hne e.symm)).trans hg, hr, hp, hu.kept hG ?_, hnu⟩
  rcases hown.2 with ⟨rfl, _⟩ | ⟨g, cap, cur, rfl, _, hgg, _⟩
  · exact (Classical.em _)
  · rcases hu.2 with ⟨rfl, _⟩ | ⟨g2, cap2, cur2, fz, rfl, _, hgg2, _⟩
    · exact Or.inl rfl
    · right
      intro e
      simp only [Value.ownBlock, Option.some.injEq] at e
      subst e
      rw [hgg] at hgg2
      injection hgg2 with e
      injection e with _ e2 _
      exact absurd e2 (by decide)

theorem KeptBut.above {xb : Nat} {w a b : World} {row : Option Nat} (h : KeptBut xb w a) (hg : a.grownBy b row) (hrow : ∀ q, row = some q → w.heap.size ≤ q) : KeptBut xb w b :=
  ⟨hg.os.trans h.os, hg.tape.trans h.tape, hg.output.trans h.output, Nat.le_trans h.size hg.size, fun k hk hne hb => by
    rw [hg.block k (Nat.lt_of_lt_of_le hk h.size) (fun e => by have := hrow k e.symm; omega)]
    exact h.block k hk hne hb⟩

set_option maxRecDepth 100000 in
set_option maxHeartbeats 2000000 in
theorem newc_any (C : Array Value) (mn mx dm db : Nat) (hC : IsConf C mn mx dm db) (hM : MayC mn mx dm db) (w : World) :
    Calls Tryd.prog 18 #[.agg C] w fun e w' => ∃ xb, e = .returned (.tuple #[.pointer (some ⟨xb, 0, none⟩), .int .i64 0]) ∧ CutAt w.heap.size xb C (mn - 1) (max mn 16) 0 0 [] w' ∧ Below w.heap.size w w' := by
  obtain ⟨mn', mx', dm', db', e1, e2, e3, e4, h1, h2, h3, h4, h5, h6, h7⟩ := mayC_nats hM
  have MA := may_any C mn mx dm db hC
  rw [decide_eq_true hM] at MA
  have NS := newSearch_any C mn mx dm db hC (by omega) (by omega)
  have HLI : Hid ((Tryd.prog.info? 23).map (·.size) = some C.size) := by rw [hC.size]; exact info_conf
  have gC := heap_alloc_last w (.cells C 23)
  have K0 := box_below w (.cells C 23)
  have HBU := Lib.hid (built_cut C (mn - 1) (max mn 16) 0 0 hC.size)
  have HRW := Lib.hid (fun xb => raw_row C (mn - 1) (max mn 16) 0 0 xb hC.size)
  obtain ⟨D, hD⟩ : ∃ D, D = srchA C (mn - 1) (max mn 16) 0 0 := ⟨_, rfl⟩
  obtain ⟨Q, hQ⟩ : ∃ Q, Q = rawC C (mn - 1) (max mn 16) 0 0 := ⟨_, rfl⟩
  rw [← hD] at NS HBU
  rw [← hQ] at HBU HRW
  have hq0 : Q[0]? = some (.pointer none) := by rw [hQ]; unfold rawC; rw [Array.getElem?_append_left (by simp)]; rfl
  have HQ0 := Lib.hid hq0
  clear hD hQ hM hC hq0 e1 e2 e3 e4 h1 h2 h3 h4 h5 h6 h7
  go_enter Tryd.func18, Tryd.ntmps18
  go_wp2_with (with_reducible refine wpList_load_row rfl _ _ rfl w.heap.size rfl 23 C (0, 0) _ gC Tryd.underlying23 rfl HLI.out ?_)
  refine (MA _).mono ?_
  rintro e w1 ⟨rfl, hb1⟩
  have g1 := (hb1.block _ (Array.getElem?_eq_some_iff.1 gC).1).trans gC
  have K1 := Below.then' K0 hb1 K0.size
  clear hb1 K0 gC MA
  go_wp2_with (with_reducible refine wpList_load_row rfl _ _ rfl w.heap.size rfl 23 C (0, 0) _ g1 Tryd.underlying23 rfl HLI.out ?_)
  refine (NS _).mono ?_
  rintro e w2 ⟨rfl, hb2⟩
  have K2 := Below.then' K1 hb2 K1.size
  have hsz2 := K2.size
  have g2 := heap_alloc_last w2 (.cells Q 60)
  have c0 : (w2.alloc (.cells Q 60)).cell? ⟨w2.heap.size, 0, none⟩ = some (.pointer none) := (cell_of_row _ _ _ _ _ _ g2).trans HQ0.out
  have f0 : (w2.alloc (.cells Q 60)).frozen? ⟨w2.heap.size, 0, none⟩ = false := frozen_of_row _ _ _ _ _ g2
  have hg3 := heap_alloc_last w2 (.cells (Q.setIfInBounds 0 (.pointer (some ⟨w2.heap.size, 0, none⟩))) 60)
  have hCA : CutAt w.heap.size w2.heap.size C (mn - 1) (max mn 16) 0 0 [] (w2.alloc (.cells (Q.setIfInBounds 0 (.pointer (some ⟨w2.heap.size, 0, none⟩))) 60)) :=
    ⟨hsz2, _, _, _, hg3, HRW.out _, Or.inl rfl, World.ownsRowF_nil _ _ _ _, by simp [Value.ownBlock]⟩
  have HCA := Lib.hid hCA
  have hK3 : Below w.heap.size w (w2.alloc (.cells (Q.setIfInBounds 0 (.pointer (some ⟨w2.heap.size, 0, none⟩))) 60)) := K2.alloc hsz2 _
  have HK3 := Lib.hid hK3
  clear hb2 K1 g1 NS hCA hg3 g2 hK3
  go_wp2_with (first
    | (with_reducible refine wpList_built rfl _ _ rfl [(2, .agg D)] ?hpsN Q HBU.out ?_)
    | fail)
  go_ret2
  exact ⟨_, rfl, HCA.out, HK3.out⟩

theorem newc_no (C : Array Value) (a b c d : Int) (hC : IsConf C a b c d) (hM : ¬ MayC a b c d) (w : World) :
    Calls Tryd.prog 18 #[.agg C] w fun e w' => e = .returned (.tuple #[.pointer none, .int .i64 1]) ∧ Below w.heap.size w w' := by
  have MA := may_any C a b c d hC
  rw [decide_eq_false hM] at MA
  have HLI : Hid ((Tryd.prog.info? 23).map (·.size) = some C.size) := by rw [hC.size]; exact info_conf
  have gC := heap_alloc_last w (.cells C 23)
  have K0 := box_below w (.cells C 23)
  clear hM hC
  go_enter Tryd.func18, Tryd.ntmps18
  go_wp2_with (with_reducible refine wpList_load_row rfl _ _ rfl w.heap.size rfl 23 C (0, 0) _ gC Tryd.underlying23 rfl HLI.out ?_)
  refine (MA _).mono ?_
  rintro e w1 ⟨rfl, hb1⟩
  go_wp2
  go_ret2
  exact ⟨rfl, Below.then' K0 hb1 K0.size⟩

end Go.Proofs.YtimllddlcjnikaaDoor
