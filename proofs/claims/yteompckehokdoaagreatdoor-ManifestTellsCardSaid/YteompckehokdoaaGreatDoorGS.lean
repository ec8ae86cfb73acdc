/- A map of the call's own, from places to places, as a function. The landed manifests' firstMoves: a map. The landed manifests' Turn. -/
import Derived.Test.YteompckehokdoaaGreatDoorMnR
import Derived.Maps.OwnSet
import Derived.Maps.Views
import Derived.DeepKeys4
import Derived.Test.YteompckehokdoaaGreatDoorGR
namespace Go.Proofs.YteompckehokdoaaGreatDoor
open Go.RowKit Go.Maps Go.MapKept Go.ChangeMaps

def plVal (p : Pl) : Value := .agg (plL p).toArray
theorem plVal_inj {p q : Pl} (h : plVal p = plVal q) : p = q := by
  have h2 := congrArg (fun v : Value => v.cells.toList) h
  have h3 : plL p = plL q := h2
  unfold plL at h3
  simp only [List.cons.injEq, Value.int.injEq, true_and, and_true] at h3
  exact Prod.ext (by omega) h3.2
theorem laidOut_pl : laidOutB Tryz.prog = true := by kernel_rfl
theorem row_pl : (35 : TypeId) < Tryz.prog.types.size := of_decide_eq_true (by kernel_rfl)
theorem wide_pl : (match Tryz.prog.underlying 35 with | some (.array _ _) | some (.struct _) => true | _ => false) = true := by rw [Tryz.underlying35]
theorem deep_pl : Tryz.prog.keyTypeAt 2 35 = true := by kernel_rfl
set_option maxRecDepth 100000 in
theorem keyed_pl : Keyed Tryz.prog 35 := Keyed.of_law (deep_law_laid laidOut_pl (by omega) row_pl deep_pl wide_pl)
theorem cells_pl : Tryz.prog.cellsOf 35 = 2 := by kernel_rfl
theorem ktype_pl : Tryz.prog.keyType 35 = true := by kernel_rfl
theorem formed_pl (p : Pl) : (plVal p).formed Tryz.prog 35 = true := by simp [plVal, plL, Value.formed, Tryz.underlying35, cells_pl]
theorem c1_pl : Tryz.prog.cellsOf 22 = 1 := by kernel_rfl
theorem c2_pl : Tryz.prog.cellsOf 3 = 1 := by kernel_rfl
theorem keyOf_pl {p : Pl} (h : wfP p) : ∃ l, keyOf Tryz.prog 35 (plVal p) = some l := by
  obtain ⟨p1, p2⟩ := p
  have h1 : p1 < 4294967296 := h.1
  have h2 : isI p2 := h.2
  have w1 : (Lit.int .u32 (p1 : Int)).wf = true := by
    simp [Lit.wf, IntKind.min, IntKind.max, IntKind.signed, IntKind.bits]
    omega
  have w2 : (Lit.int .i64 p2).wf = true := by
    unfold isI at h2
    simp [Lit.wf, IntKind.min, IntKind.max, IntKind.signed, IntKind.bits]; omega
  obtain ⟨m, hm⟩ : ∃ m, Tryz.prog.types.size = m + 1 := ⟨Tryz.prog.types.size - 1, by have h0 : 0 < Tryz.prog.types.size := Nat.lt_of_le_of_lt (Nat.zero_le _) row_pl; omega⟩
  unfold keyOf
  rw [Tryz.underlying35]
  simp only
  rw [ktype_pl, formed_pl, hm]
  have hc : (plVal (p1, p2)).cells.toList = [.int .u32 (p1 : Nat), .int .i64 p2] := rfl
  rw [hc]
  simp [Program.keyLits, Tryz.underlying35, Tryz.underlying22, Tryz.underlying3, cells_pl, c1_pl, c2_pl, w1, w2]

/-! ### The map -/
/-- How a place reads, as an element. -/
def plDat (p : Pl) : DataW Unit := .agg [.lit (.int .u32 (p.1 : Nat)), .lit (.int .i64 p.2)]
def plElem (v : Value) : Option (DataW Unit × List MemPlace) := match v with
  | .agg cs => match cs.toList with
    | [.int .u32 a, .int .i64 b] => some (.agg [.lit (.int .u32 a), .lit (.int .i64 b)], [])
    | _ => none
  | _ => none
theorem plElem_mk (p : Pl) : plElem (plVal p) = some (plDat p, []) := rfl
theorem plElem_inv {v : Value} {p : Pl} {ps : List MemPlace} (h : plElem v = some (plDat p, ps)) : v = plVal p := by
  unfold plElem at h
  split at h
  · rename_i cs
    split at h
    · rename_i a b hl
      simp only [plDat, Option.some.injEq, Prod.mk.injEq, DataW.agg.injEq, List.cons.injEq, DataW.lit.injEq, Lit.int.injEq, true_and, and_true] at h
      obtain ⟨⟨h1, h2⟩, -⟩ := h
      subst h1 h2
      unfold plVal plL
      rw [← hl]
    · cases h
  · cases h
noncomputable def keyP (p : Pl) : Lit := (keyOf Tryz.prog 35 (plVal p)).getD (.bool false)
theorem keyP_of {p : Pl} (h : wfP p) : keyOf Tryz.prog 35 (plVal p) = some (keyP p) := by
  obtain ⟨l, hl⟩ := keyOf_pl h
  unfold keyP
  rw [hl]; rfl
set_option maxRecDepth 100000 in
theorem keyP_ne {p q : Pl} (hp : wfP p) (hq : wfP q) (h : p ≠ q) : keyP p ≠ keyP q := fun e => h (plVal_inj (keyed_pl.inj (keyP_of hp) (by rw [e]; exact keyP_of hq)))
set_option maxRecDepth 100000 in
theorem isKey_pl {p : Pl} (h : wfP p) : WideAt.IsKeyLit (keyP p) := keyed_pl.key (keyP_of h)
theorem zv_pl (w : World) : (zeroValue 35).run Tryz.prog w = .ok (plVal (0, 0)) w := Tryz.zeroValue35 w
def updPl (f : Pl → Option Pl) (i x : Pl) : Pl → Option Pl := fun j => if j = i then some x else f j

/-- The map in the block b, of at most n entries, is that function. -/
def PMap (b n : Nat) (f : Pl → Option Pl) (w : World) : Prop :=
  ∃ D : DataW Unit, w.ownsMap Tryz.prog 35 plElem b n D ∧ ∀ i, wfP i → Maps.has D (keyP i) = (f i).isSome ∧ D.atKey (keyP i) (plDat (0, 0)) = plDat ((f i).getD (0, 0))

section
variable {T : TypeId} {b n : Nat} {f : Pl → Option Pl} {w : World}
theorem PMap.made (w : World) : PMap w.heap.size 0 (fun _ => none) (w.alloc (.map #[] 0)) :=
  ⟨.map [], World.ownsMap_made _ _ _ _, fun _ _ => ⟨rfl, rfl⟩⟩
theorem PMap.stay (h : PMap b n f w) {w' : World} (hk : w'.heap[b]? = w.heap[b]?) : PMap b n f w' := by
  obtain ⟨D, ⟨es, c, hb, r⟩, hf⟩ := h
  exact ⟨D, ⟨es, c, hk.trans hb, r⟩, hf⟩
theorem PMap.lt (h : PMap b n f w) : b < w.heap.size := by
  obtain ⟨D, hd, _⟩ := h
  exact hd.lt
theorem PMap.later (h : PMap b n f w) {w' : World} (k : Kept w w') : PMap b n f w' := h.stay (k.block b h.lt)
theorem PMap.mono (h : PMap b n f w) {m : Nat} (hm : n ≤ m) : PMap b m f w := by
  obtain ⟨D, hd, hf⟩ := h
  exact ⟨D, hd.mono hm, hf⟩
/-- The same function, where it counts. -/
theorem PMap.as (h : PMap b n f w) {g : Pl → Option Pl} (hg : ∀ i, wfP i → f i = g i) : PMap b n g w := by
  obtain ⟨D, hd, hf⟩ := h
  exact ⟨D, hd, fun i hi => by rw [← hg i hi]; exact hf i hi⟩
set_option maxRecDepth 100000 in
/-- v, ok := m[i] -/
theorem PMap.look (h : PMap b n f w) (ht : Tryz.prog.underlying T = some (.map 35 35)) {i : Pl} (hi : wfP i) :
    (Instr.lookup T (.map (some b)) (plVal i) true).run Tryz.prog w = .ok (.tuple #[plVal ((f i).getD (0, 0)), .bool (f i).isSome]) w := by
  obtain ⟨D, hd, hf⟩ := h
  obtain ⟨h1, h2⟩ := hf i hi
  obtain ⟨v, ps, hrun, hv⟩ := hd.look_ok keyed_pl ht (zv_pl w) (plElem_mk (0, 0)) (keyP_of hi)
  rw [h2] at hv
  rw [hrun, plElem_inv hv, h1]
set_option maxRecDepth 100000 in
/-- m[i] = x -/
theorem PMap.set (h : PMap b n f w) (ht : Tryz.prog.underlying T = some (.map 35 35)) (hn : n < maxLen) {i : Pl} (hi : wfP i) (x : Pl) :
    ∃ w', (Instr.mapUpdate T (.map (some b)) (plVal i) (plVal x)).run Tryz.prog w = .ok () w' ∧ PMap b (n + 1) (updPl f i x) w' ∧ w.grownBy w' (some b) := by
  obtain ⟨D, hd, hf⟩ := h
  obtain ⟨w', hrun, ho, ht'⟩ := hd.store keyed_pl ht hn (keyP_of hi) (plElem_mk x)
  refine ⟨w', hrun, ⟨_, ho, fun j hj => ?_⟩, ht'.grown⟩
  by_cases hji : j = i
  · subst hji
    have e1 : updPl f j x j = some x := by unfold updPl; rw [if_pos rfl]
    rw [e1]
    exact ⟨has_put_same hd.isMap (isKey_pl hj) _, atKey_put_same hd.isMap (isKey_pl hj) _ _⟩
  · have e1 : updPl f i x j = f j := by unfold updPl; rw [if_neg hji]
    rw [e1, has_put_other (keyP_ne hj hi hji), atKey_put_other (keyP_ne hj hi hji)]
    exact hf j hj
end

end Go.Proofs.YteompckehokdoaaGreatDoor
namespace Go.Proofs.YteompckehokdoaaGreatDoor
open Go.RowKit

theorem findV_snoc (l : List Mv) (m : Mv) (x : Pl) : findV (l ++ [m]) x = (findV l x).or (if m.1 = x then some m else none) := by
  unfold findV
  rw [List.find?_append]
  congr 1
  by_cases h : m.1 = x
  · rw [if_pos h, List.find?_cons_of_pos (by simpa using h)]
  · rw [if_neg h, List.find?_cons_of_neg (by simpa using h)]; rfl
def toF (mv : List Mv) (x : Pl) : Option Pl := (findV mv x).map (·.2)
theorem toF_yes {l : List Mv} {m : Mv} (h : (toF l m.1).isSome = true) (x : Pl) : toF l x = toF (l ++ [m]) x := by
  unfold toF at *
  rw [findV_snoc]
  by_cases hx : m.1 = x
  · rw [← hx]
    cases hf : findV l m.1 with
    | none => rw [hf] at h; cases h
    | some v => rfl
  · rw [if_neg hx, Option.or_none]
theorem toF_no {l : List Mv} {m : Mv} (h : (toF l m.1).isSome = false) (x : Pl) : updPl (toF l) m.1 m.2 x = toF (l ++ [m]) x := by
  unfold updPl
  by_cases hx : x = m.1
  · rw [if_pos hx, hx]
    unfold toF at *
    rw [findV_snoc, if_pos rfl]
    cases hf : findV l m.1 with
    | none => rfl
    | some v => rw [hf] at h; cases h
  · rw [if_neg hx]
    unfold toF
    rw [findV_snoc, if_neg (fun e => hx e.symm), Option.or_none]
theorem infoMv4 : (Tryz.prog.info? 50).map (·.size) = some 4 := by kernel_rfl

set_option maxRecDepth 100000 in
set_option maxHeartbeats 16000000 in
theorem firstMoves_any (mv : List Mv) (vm : Value) (w : World) (H : MvsAt mv vm w) (hl : mv.length ≤ 1000) :
    Calls Tryz.prog 37 #[vm] w fun e w' => e = .returned (.map (some w.heap.size)) ∧ PMap w.heap.size 1000 (toF mv) w' ∧ Kept w w' := by
  have hmm := @run_makeMap Tryz.prog
  obtain ⟨p, c, rfl, -, hc⟩ := H.out encV
  have HC := Lib.hid hc
  have HG := Lib.hid H.good
  obtain ⟨n, hn⟩ : ∃ n, n = mv.length := ⟨_, rfl⟩
  have HN := Lib.hid hn
  rw [← hn] at hl ⊢
  have HL := Lib.hid hl
  obtain ⟨bm, hbm⟩ : ∃ b, b = w.heap.size := ⟨_, rfl⟩
  have HBM := Lib.hid hbm
  rw [← hbm]
  obtain ⟨W1, hW1⟩ : ∃ W, W = w.alloc (.map #[] 0) := ⟨_, rfl⟩
  have HW1 := Lib.hid hW1
  have HK1 : Hid (Kept w W1) := Lib.hid (by rw [hW1]; exact box_below _ _)
  have HP1 : Hid (PMap bm 0 (toF (mv.take 0)) W1) := Lib.hid (by rw [hW1, hbm]; exact PMap.made w)
  clear hc H hn hl hbm hW1
  go_enter Tryz.func37, Tryz.ntmps37
  go_wp2
  rw [← HW1.out]
  rw [← HBM.out]
  clear hmm
  go_loopg [11] n (fun gh y wr => ∃ k : Nat, k + gh = n ∧ y = .int .i64 k ∧ Hid (PMap bm k (toF (mv.take k)) wr) ∧ Hid (Kept w wr))
  case atStart => exact ⟨0, by omega, rfl, HP1, HK1⟩
  case round =>
    clear HP1 HK1
    obtain ⟨k, hk, rfl, HP, HK⟩ := hrel
    by_cases hlt : k < n
    · have hki : (k : Int) < n := by omega
      have bk : decide ((k : Int) < (n : Int)) = true := by simpa using hki
      have hki0 : (0 : Int) ≤ k := by omega
      have hkl : k < mv.length := by have := HN.out; omega
      rcases HC.out with h0 | ⟨b, off, rfl, hcell⟩
      · have := HN.out; omega
      have hwv := HG.out _ (List.getElem_mem hkl)
      have htk : mv.take (k + 1) = mv.take k ++ [mv[k]] := List.take_succ_eq_append_getElem hkl
      have d0 := Kept.cell HK.out (hcell k hkl 0 _ rfl)
      have d1 := Kept.cell HK.out (hcell k hkl 1 _ rfl)
      have d2 := Kept.cell HK.out (hcell k hkl 2 _ rfl)
      have d3 := Kept.cell HK.out (hcell k hkl 3 _ rfl)
      obtain ⟨M, hM⟩ : ∃ M, M = mv[k] := ⟨_, rfl⟩
      rw [← hM] at d0 d1 d2 d3 hwv htk
      obtain ⟨⟨fa, fb⟩, ta, tb⟩ := M
      simp only at d0 d1 d2 d3
      rw [Nat.add_zero] at d0
      have IX := fun W => idx_rec (P := Tryz.prog) Tryz.underlying80 (fun w => Tryz.sizeOf50 w) b off n c k hlt W
      obtain ⟨W4, hW4⟩ : ∃ W, W = wr.alloc (.cells #[.int .u32 (fa : Nat), .int .i64 fb, .int .u32 (ta : Nat), .int .i64 tb] 50) := ⟨_, rfl⟩
      have HW4 := Lib.hid hW4
      have hr4 : W4.heap[wr.heap.size]? = some (.cells #[.int .u32 (fa : Nat), .int .i64 fb, .int .u32 (ta : Nat), .int .i64 tb] 50 (0, 0)) := by rw [hW4]; exact heap_alloc_last wr _
      have hk4 : Kept wr W4 := by rw [hW4]; exact box_below _ _
      have hs4 : W4.heap.size = wr.heap.size + 1 := by rw [hW4]; simp
      have hp4 := HP.out.later hk4
      have hlk := hp4.look Tryz.underlying81 hwv.1
      obtain ⟨⟨va, vb⟩, hV⟩ : ∃ V, V = (toF (mv.take k) (fa, fb)).getD (0, 0) := ⟨_, rfl⟩
      obtain ⟨q, hq⟩ : ∃ q, q = (toF (mv.take k) (fa, fb)).isSome := ⟨_, rfl⟩
      rw [← hV, ← hq] at hlk
      have hlk2 : (Instr.lookup 81 (.map (some bm)) (.agg #[.int .u32 (fa : Nat), .int .i64 fb]) true).run Tryz.prog W4 = .ok (.tuple #[.agg #[.int .u32 (va : Nat), .int .i64 vb], .bool q]) W4 := hlk
      obtain ⟨W5, hW5⟩ : ∃ W, W = W4.alloc (.cells #[.int .u32 (va : Nat), .int .i64 vb] 35) := ⟨_, rfl⟩
      have HW5 := Lib.hid hW5
      have hk5 : Kept W4 W5 := by rw [hW5]; exact box_below _ _
      have hr5 := hk5.row hr4
      have HP5 := Lib.hid (hp4.later hk5)
      have HK5 : Hid (Kept w W5) := Lib.hid (((show Kept w wr from HK.out).then hk4).then hk5)
      have c0 : W4.cell? ⟨wr.heap.size, 0, none⟩ = some (.int .u32 (fa : Nat)) := by rw [cell_of_row _ _ _ _ _ _ hr4]; rfl
      have c1 : W4.cell? ⟨wr.heap.size, 1, none⟩ = some (.int .i64 fb) := by rw [cell_of_row _ _ _ _ _ _ hr4]; rfl
      have e0 : W5.cell? ⟨wr.heap.size, 0, none⟩ = some (.int .u32 (fa : Nat)) := by rw [cell_of_row _ _ _ _ _ _ hr5]; rfl
      have e1 : W5.cell? ⟨wr.heap.size, 1, none⟩ = some (.int .i64 fb) := by rw [cell_of_row _ _ _ _ _ _ hr5]; rfl
      have e2 : W5.cell? ⟨wr.heap.size, 2, none⟩ = some (.int .u32 (ta : Nat)) := by rw [cell_of_row _ _ _ _ _ _ hr5]; rfl
      have e3 : W5.cell? ⟨wr.heap.size, 3, none⟩ = some (.int .i64 tb) := by rw [cell_of_row _ _ _ _ _ _ hr5]; rfl
      obtain ⟨k1, hk1⟩ : ∃ k1, k1 = k + 1 := ⟨_, rfl⟩
      have v1 : IntKind.i64.wrap ((k : Int) + 1) = (k1 : Int) := by rw [show (k : Int) + 1 = (k1 : Int) by omega]; exact IntWalk.i64_in _ (by have := HL.out; omega)
      have HKK : Hid (k1 = k + 1 ∧ k + gk = n ∧ k < n) := Lib.hid ⟨hk1, hk, hlt⟩
      have HTK : Hid (mv.take k1 = mv.take k ++ [((fa, fb), (ta, tb))]) := Lib.hid (by rw [hk1]; exact htk)
      have HQ := Lib.hid hq
      have HWV := Lib.hid hwv
      rw [hW4] at c0 c1
      rw [hW4] at hlk2
      rw [hW5, hW4] at e0 e1 e2 e3
      cases q with
      | true =>
        have HP6 : Hid (PMap bm k1 (toF (mv.take k1)) W5) := Lib.hid ((HP5.out.mono (by have := HKK.out; omega)).as (fun i _ => by rw [HTK.out]; exact toF_yes HQ.out.symm i))
        clear hcell hwv htk hM hr4 hk4 hs4 hp4 hlk hV hq hW4 hW5 hk5 hr5 hk1 hk hlt hkl HP HK e0 e1 e2 e3
        go_wp2
        rw [← HW4.out, ← HW5.out]
        go_roundg (n - k1)
        · exact ⟨k1, by have := HKK.out; omega, by first | rfl | (have := HKK.out; congr 1; omega), HP6, HK5⟩
        · have := HKK.out; omega
      | false =>
        obtain ⟨W6, hst, hp6, hg6⟩ := HP5.out.set Tryz.underlying81 (by have := HL.out; unfold maxLen; omega) HWV.out.1 (ta, tb)
        have hst2 : (Instr.mapUpdate 81 (.map (some bm)) (.agg #[.int .u32 (fa : Nat), .int .i64 fb]) (.agg #[.int .u32 (ta : Nat), .int .i64 tb])).run Tryz.prog W5 = .ok () W6 := hst
        rw [hW5, hW4] at hst2
        have HP6 : Hid (PMap bm k1 (toF (mv.take k1)) W6) := Lib.hid ((hp6.mono (by have := HKK.out; omega)).as (fun i _ => by rw [HTK.out]; exact toF_no HQ.out.symm i))
        have HK6 : Hid (Kept w W6) := Lib.hid (below_touch (show Below w.heap.size w W5 from HK5.out) hg6 HK5.out.size (by rw [HBM.out]; exact Nat.le_refl _))
        clear hcell hwv htk hM hr4 hk4 hs4 hp4 hlk hV hq hW4 hW5 hk5 hr5 hk1 hk hlt hkl HP HK hst hp6 hg6
        go_wp2
        go_roundg (n - k1)
        · exact ⟨k1, by have := HKK.out; omega, by first | rfl | (have := HKK.out; congr 1; omega), HP6, HK6⟩
        · have := HKK.out; omega
    · have hki : ¬ (k : Int) < n := by omega
      have bk : decide ((k : Int) < (n : Int)) = false := by simpa using hki
      have hp : PMap bm 1000 (toF mv) wr := by
        have h := HP.out
        rw [List.take_of_length_le (by have := HN.out; omega)] at h
        exact h.mono (by have := HL.out; omega)
      have HP2 := Lib.hid hp
      clear hp HP hk hlt
      go_wp2
      go_ret
      exact ⟨rfl, HP2.out, HK.out⟩

end Go.Proofs.YteompckehokdoaaGreatDoor
namespace Go.Proofs.YteompckehokdoaaGreatDoor
open Go.RowKit

theorem turnE_some {mv : List Mv} {e : En} {t : Pl} (h : toF mv (plE e) = some t) : turnE mv e = ⟨e.fp, e.len, t.1, t.2⟩ ∧ hitE mv e = true := by
  unfold toF at h
  unfold turnE hitE
  cases hf : findV mv (plE e) with
  | none => rw [hf] at h; cases h
  | some v =>
    rw [hf] at h
    have h2 : v.2 = t := Option.some.inj h
    rw [← h2]
    exact ⟨rfl, rfl⟩
theorem turnE_none {mv : List Mv} {e : En} (h : toF mv (plE e) = none) : turnE mv e = e ∧ hitE mv e = false := by
  unfold toF at h
  unfold turnE hitE
  cases hf : findV mv (plE e) with
  | none => exact ⟨rfl, rfl⟩
  | some v => rw [hf] at h; cases h

/-- A manifest in the making, and the map of the moves. -/
structure MT (w0 : World) (bm : Nat) (mv : List Mv) (b0 b5 base id : Nat) (tv : Value) (l : List En) (wx : World) : Prop where
  mi : MI w0 b0 b5 base id tv l wx
  mp : PMap bm 1000 (toF mv) wx
  lt : b0 < bm ∧ bm < b5
theorem MT.kept {w0 wx wy : World} {bm b0 b5 base id : Nat} {mv : List Mv} {tv : Value} {l : List En} (h : MT w0 bm mv b0 b5 base id tv l wx) (k : Kept wx wy) : MT w0 bm mv b0 b5 base id tv l wy :=
  ⟨h.mi.later k, h.mp.later k, h.lt⟩
theorem MT.app {w0 wd w6 : World} {bm b0 b5 base id : Nat} {mv : List Mv} {tv v' : Value} {l : List En} {e : En} {XA : Array Value} (h : MT w0 bm mv b0 b5 base id tv l wd)
    (ho6 : w6.ownsRow base 41 35 v' (l.length + 1) (flatR enL l ++ enL e)) (hg : (wd.alloc (.cells XA 41)).grownBy w6 tv.ownBlock) :
    w6.heap[b5]? = some (.cells #[.int .u32 (id : Nat), tv] 25 (0, 0)) ∧ MT w0 bm mv b0 b5 base id v' (l ++ [e]) (w6.setCell ⟨b5, 1, none⟩ v') := by
  obtain ⟨h5, -, hmi⟩ := h.mi.app ho6 hg
  have ka : Kept wd (wd.alloc (.cells XA 41)) := box_below _ _
  have hlt := h.lt
  have hord := h.mi.ord
  have hb : w6.heap[bm]? = wd.heap[bm]? :=
    (hg.block bm (Nat.lt_of_lt_of_le h.mp.lt ka.size) (fun e => by have := (h.mi.own.lt bm e.symm).1; omega)).trans (ka.block bm h.mp.lt)
  exact ⟨h5, hmi, (h.mp.stay hb).stay (heap_setCell_other _ _ _ _ (by show bm ≠ b5; omega)), hlt⟩

set_option maxRecDepth 100000 in
set_option maxHeartbeats 32000000 in
theorem turnOkM : MTurnOk := by
  intro m mv v vm w H hl HV hlv
  obtain ⟨ir, z, hx1, hx2, hx3, hx4, hx5⟩ := infoEnF
  have HIR := Lib.hid hx1
  have HZ0 := Lib.hid hx2
  have HZ1 := Lib.hid hx3
  have HZ2 := Lib.hid hx4
  have HZS := Lib.hid hx5
  obtain ⟨hid, sv, rfl, he⟩ := H
  obtain ⟨p, c, rfl, -, -⟩ := he.out encE
  have HE := Lib.hid he
  have HMW := Lib.hid HV.good
  obtain ⟨n, hn⟩ : ∃ n, n = m.es.length := ⟨_, rfl⟩
  have HN := Lib.hid hn
  obtain ⟨id, hidd⟩ : ∃ i, i = m.id := ⟨_, rfl⟩
  have HTM : Hid (turnM mv m = ⟨id, m.es.map (turnE mv)⟩) := Lib.hid (by rw [hidd]; rfl)
  have HHM : Hid (hitsM mv m = (m.es.filter (hitE mv)).length) := Lib.hid rfl
  have HID : Hid (id < 4294967296) := Lib.hid (by rw [hidd]; exact hid)
  rw [← hn] at hl
  rw [← hn, ← hidd, HTM.out, HHM.out]
  have HL := Lib.hid hl
  obtain ⟨W0, hW0⟩ : ∃ W, W = w.alloc (.cells #[.int .u32 (id : Nat), .slice p n c] 25) := ⟨_, rfl⟩
  have hs0 : W0.heap.size = w.heap.size + 1 := by rw [hW0]; simp
  have hr0 : W0.heap[w.heap.size]? = some (.cells #[.int .u32 (id : Nat), .slice p n c] 25 (0, 0)) := by rw [hW0]; exact heap_alloc_last w _
  have hk0 : Kept w W0 := by rw [hW0]; exact box_below _ _
  obtain ⟨W1, hW1⟩ : ∃ W, W = W0.alloc (.cells #[.int .u32 0, .slice none 0 0] 25) := ⟨_, rfl⟩
  have hs1 : W1.heap.size = w.heap.size + 1 + 1 := by rw [hW1]; simp [hs0]
  have hr1 : W1.heap[w.heap.size + 1]? = some (.cells #[.int .u32 0, .slice none 0 0] 25 (0, 0)) := by rw [hW1, ← hs0]; exact heap_alloc_last W0 _
  have hk1 : Kept W0 W1 := by rw [hW1]; exact box_below _ _
  have CF := firstMoves_any mv vm W1 (HV.later (hk0.then hk1)) hlv
  rw [hs1] at CF
  have HR0 := Lib.hid hr0
  have HR1 := Lib.hid hr1
  have HK0 := Lib.hid hk0
  have HK1 := Lib.hid hk1
  have HS0 := Lib.hid hs0
  have HS1 := Lib.hid hs1
  have HW1 : Hid (W1 = (w.alloc (.cells #[.int .u32 (id : Nat), .slice p n c] 25)).alloc (.cells #[.int .u32 0, .slice none 0 0] 25)) := Lib.hid (by rw [hW1, hW0])
  clear hx1 hx2 hx3 hx4 hx5 hid he HV hn hidd hl hlv hW0 hW1 hs0 hs1 hr0 hr1 hk0 hk1
  go_enter Tryz.func16, Tryz.ntmps16
  go_wp2_with fail
  rw [← HW1.out]
  refine CF.mono ?_
  rintro e W2 ⟨rfl, hp2, hb2⟩
  obtain ⟨bm, hbm⟩ : ∃ b, b = w.heap.size + 1 + 1 := ⟨_, rfl⟩
  rw [← hbm] at hp2
  obtain ⟨b0, hb0⟩ : ∃ b, b = w.heap.size + 1 := ⟨_, rfl⟩
  obtain ⟨b5, hb5⟩ : ∃ b, b = W2.heap.size := ⟨_, rfl⟩
  have HB5 := Lib.hid hb5
  have HB0 := Lib.hid hb0
  have HBM := Lib.hid hbm
  obtain ⟨W3, hW3⟩ : ∃ W, W = W2.alloc (.cells #[.int .u32 (id : Nat), .slice none 0 0] 25) := ⟨_, rfl⟩
  have HW3 := Lib.hid hW3
  have hk3 : Kept W2 W3 := by rw [hW3]; exact box_below _ _
  obtain ⟨B, hB⟩ : ∃ B, B = b5 + 1 := ⟨_, rfl⟩
  have hr2 := (show Kept W1 W2 from hb2).row HR1.out
  rw [← hb0] at hr2
  have hlt2 : b0 < bm ∧ bm < b5 := ⟨by omega, by rw [hb5]; exact hp2.lt⟩
  have HMI0 : Hid (MT W0 bm mv b0 b5 B id (.slice none 0 0) [] W3) := Lib.hid
    ⟨⟨((show Kept W0 W1 from HK1.out).then hb2).then hk3, by rw [hB, hW3, hb5]; simp, hk3.row hr2, by rw [hW3, hb5]; exact heap_alloc_last W2 _, World.ownsRow_nil _ _ _ _, by have := HS0.out; omega⟩, hp2.later hk3, hlt2⟩
  have hra := ((show Kept W0 W1 from HK1.out).then hb2).row HR0.out
  have hrb := hk3.row hra
  have a0 : W2.cell? ⟨w.heap.size, 0, none⟩ = some (.int .u32 (id : Nat)) := by rw [cell_of_row _ _ _ _ _ _ hra]; rfl
  have a1 : W3.cell? ⟨w.heap.size, 1, none⟩ = some (.slice p n c) := by rw [cell_of_row _ _ _ _ _ _ hrb]; rfl
  rw [hW3] at a1
  clear hp2 hb2 hbm hb0 hb5 hW3 hk3 hB hr2 hlt2 hra hrb CF
  go_wp2
  rw [← HB5.out]
  rw [← HW3.out]
  try rw [← HBM.out]
  try rw [← HB0.out]
  clear a0 a1
  go_loopg [8, 21] n (fun gh s y wr => ∃ (i hits : Nat) (tv : Value), i + gh = n ∧ s = .int .i64 hits ∧ y = .int .i64 i ∧ Hid (hits = ((m.es.take i).filter (hitE mv)).length ∧ hits ≤ i) ∧ Hid (MT W0 bm mv b0 b5 B id tv ((m.es.take i).map (turnE mv)) wr))
  case atStart => exact ⟨0, 0, _, by omega, rfl, rfl, Lib.hid ⟨rfl, Nat.le_refl _⟩, HMI0⟩
  case round =>
    clear HMI0
    obtain ⟨i, hits, tv, hi, rfl, rfl, HHI, HH⟩ := hrel
    obtain ⟨LI, hLI⟩ : ∃ L, L = (m.es.take i).map (turnE mv) := ⟨_, rfl⟩
    rw [← hLI] at HH
    have HLI := Lib.hid hLI
    obtain ⟨pv, cv, htv, -, -⟩ := own_slice HH.out.mi.own
    have hlk : LI.length = i := by rw [hLI, List.length_map, List.length_take]; have := HN.out; omega
    rw [hlk] at htv
    have HLK := Lib.hid hlk
    clear hLI hlk
    subst htv
    have HKW : Hid (Kept w wr) := Lib.hid ((show Kept w W0 from HK0.out).then HH.out.mi.kept)
    by_cases hlt : i < n
    · have hki : (i : Int) < n := by omega
      have bk : decide ((i : Int) < (n : Int)) = true := by simpa using hki
      have hki0 : (0 : Int) ≤ i := by omega
      have hkl : i < m.es.length := by have := HN.out; omega
      obtain ⟨b, off, cs, t, fr, rfl, hg, hsz, hex, -⟩ := HE.out.elem encE hkl
      have g2 := Kept.row HKW.out hg
      have hmem : m.es[i] ∈ m.es := List.getElem_mem hkl
      have htk : m.es.take (i + 1) = m.es.take i ++ [m.es[i]] := List.take_succ_eq_append_getElem hkl
      have hwE := HE.out.good _ hmem
      obtain ⟨E, hE⟩ : ∃ E, E = m.es[i] := ⟨_, rfl⟩
      rw [← hE] at hex hmem htk hwE
      have HWE := Lib.hid hwE
      have IXE := fun W => idx_en b off n c i hlt W
      obtain ⟨XE, hXE⟩ : ∃ X, X = enC E := ⟨_, rfl⟩
      have hex2 : cs.extract (off + i * 35) (off + i * 35 + 35) = XE := by rw [hXE]; exact hex
      have HXE := Lib.hid hXE
      have HXS : Hid (XE.size = 35) := Lib.hid (by rw [hXE]; exact enC_size hwE.1)
      have HXO : Hid (XE.all (·.oneCell') = true) := Lib.hid (by rw [hXE, Array.all_eq_true_iff_forall_mem]; intro x hx; exact encE.one E hwE x (by unfold enC at hx; simpa using hx))
      have HXI : Hid ((Tryz.prog.info? 41).map (·.size) = some XE.size) := Lib.hid (by rw [HXS.out]; exact infoEn)
      have HES := Lib.hid (show off + i * 35 + 35 ≤ cs.size ∧ cs.extract (off + i * 35) (off + i * 35 + 35) = XE from ⟨hsz, hex2⟩)
      have HSE : Hid (0 + 35 ≤ XE.size ∧ XE.extract 0 (0 + 35) = XE) := Lib.hid ⟨by rw [HXS.out]; exact Nat.le_refl _, by rw [show 0 + 35 = XE.size by rw [HXS.out]]; exact Array.extract_size⟩
      obtain ⟨xb, hxb⟩ : ∃ x, x = E.box := ⟨_, rfl⟩
      obtain ⟨xs, hxs⟩ : ∃ x, x = E.slot := ⟨_, rfl⟩
      have HXP : Hid (plE E = (xb, xs)) := Lib.hid (by rw [hxb, hxs]; rfl)
      have hwp : wfP (xb, xs) := by rw [← HXP.out]; exact plE_wf hwE
      obtain ⟨b7, hb7⟩ : ∃ b, b = wr.heap.size := ⟨_, rfl⟩
      have HB7 := Lib.hid hb7
      obtain ⟨W5, hW5⟩ : ∃ W, W = wr.alloc (.cells XE 41) := ⟨_, rfl⟩
      have HW5 := Lib.hid hW5
      have hrow5 := heap_alloc_last wr (.cells XE 41)
      rw [← hW5, ← hb7] at hrow5
      have HR5 := Lib.hid hrow5
      have HK5 : Hid (Kept wr W5) := Lib.hid (by rw [hW5]; exact box_below _ _)
      have CP := placeOf_any E hwE XE hXE (xb, xs) HXP.out.symm W5
      have CP2 : Calls Tryz.prog 19 #[.agg XE] W5 fun e' w' => e' = .returned (.agg #[.int .u32 (xb : Nat), .int .i64 xs]) ∧ Kept W5 w' := CP
      obtain ⟨i1, hi1⟩ : ∃ i1, i1 = i + 1 := ⟨_, rfl⟩
      have v1 : IntKind.i64.wrap ((i : Int) + 1) = (i1 : Int) := by rw [show (i : Int) + 1 = (i1 : Int) by omega]; exact IntWalk.i64_in _ (by have := HL.out; omega)
      have HKK : Hid (i1 = i + 1 ∧ i + gk = n ∧ i < n) := Lib.hid ⟨hi1, hi, hlt⟩
      have HTK : Hid (m.es.take i1 = m.es.take i ++ [E]) := Lib.hid (by rw [hi1]; exact htk)
      have HWP := Lib.hid hwp
      clear hg hsz hex hex2 hmem htk hwE hE hXE hxb hxs hwp hi1 hi hlt hkl hb7 hW5 CP
      go_wp2_with (first
        | (with_reducible refine wpList_load_sub rfl _ _ rfl b (off + i * 35) 35 rfl t cs fr _ g2 Tryz.underlying41 rfl infoEn HES.out.1 XE HES.out.2 ?_)
        | ((with_reducible refine wpList_store_row rfl _ _ _ rfl wr.heap.size XE rfl rfl 41 _ (heap_alloc_last wr _) HXI.out ?hold HXO.out ?_); rotate_left; rw [World.setRow_alloc_new, ← HW5.out, ← HB7.out])
        | (with_reducible refine wpList_load_sub rfl _ _ rfl b7 0 35 rfl 41 XE (0, 0) _ HR5.out Tryz.underlying41 rfl infoEn HSE.out.1 XE HSE.out.2 ?_))
      case hold => rw [HXS.out]; rfl
      refine CP2.mono ?_
      rintro e w6 ⟨rfl, hb6⟩
      have HK6 : Hid (Kept wr w6) := Lib.hid ((show Kept wr W5 from HK5.out).then hb6)
      have HR6 := Lib.hid (Kept.row hb6 HR5.out)
      have HH6 := Lib.hid (HH.out.kept HK6.out)
      obtain ⟨TO, hTO⟩ : ∃ o, o = toF mv (xb, xs) := ⟨_, rfl⟩
      have hlk := HH6.out.mp.look Tryz.underlying81 HWP.out
      obtain ⟨⟨tb, ts⟩, hV⟩ : ∃ V, V = TO.getD (0, 0) := ⟨_, rfl⟩
      obtain ⟨q, hq⟩ : ∃ q, q = TO.isSome := ⟨_, rfl⟩
      rw [← hTO, ← hV, ← hq] at hlk
      have hlk2 : (Instr.lookup 81 (.map (some bm)) (.agg #[.int .u32 (xb : Nat), .int .i64 xs]) true).run Tryz.prog w6 = .ok (.tuple #[.agg #[.int .u32 (tb : Nat), .int .i64 ts], .bool q]) w6 := hlk
      obtain ⟨b11, hb11⟩ : ∃ b, b = w6.heap.size := ⟨_, rfl⟩
      have HB11 := Lib.hid hb11
      obtain ⟨W7, hW7⟩ : ∃ W, W = w6.alloc (.cells #[.int .u32 (tb : Nat), .int .i64 ts] 35) := ⟨_, rfl⟩
      have HW7 := Lib.hid hW7
      have hk7 : Kept w6 W7 := by rw [hW7]; exact box_below _ _
      have hr7 : W7.heap[b11]? = some (.cells #[.int .u32 (tb : Nat), .int .i64 ts] 35 (0, 0)) := by rw [hW7, hb11]; exact heap_alloc_last w6 _
      have HR7 := Lib.hid hr7
      have HE7 := Lib.hid (hk7.row HR6.out)
      have HH7 := Lib.hid (HH6.out.kept hk7)
      have HK7 : Hid (Kept wr W7) := Lib.hid ((show Kept wr w6 from HK6.out).then hk7)
      have HNE : Hid (b7 < b11) := Lib.hid (by rw [hb11]; exact (Array.getElem?_eq_some_iff.1 HR6.out).1)
      have HT7 : Hid (W7.cell? ⟨b11, 0, none⟩ = some (.int .u32 (tb : Nat)) ∧ W7.cell? ⟨b11, 1, none⟩ = some (.int .i64 ts)) := Lib.hid ⟨by rw [cell_of_row _ _ _ _ _ _ hr7]; rfl, by rw [cell_of_row _ _ _ _ _ _ hr7]; rfl⟩
      have HTO := Lib.hid hTO
      have HQ := Lib.hid hq
      have HVV := Lib.hid hV
      have HWT : Hid (wfP (tb, ts)) := Lib.hid (by
        rw [hV, hTO]
        unfold toF
        cases hf : findV mv (xb, xs) with
        | none => exact ⟨by decide, by decide⟩
        | some v => exact (HMW.out v (by unfold findV at hf; exact List.mem_of_find?_eq_some hf)).2)
      clear hb6 hlk hTO hV hq hb11 hW7 hk7 hr7 CP2 g2 HK5 HH6
      cases q with
      | true =>
        have hto : toF mv (plE E) = some (tb, ts) := by
          rw [HXP.out, ← HTO.out]
          have h1 := HQ.out
          have h2 := HVV.out
          cases hT : TO with
          | none => rw [hT] at h1; cases h1
          | some v => rw [hT] at h2; rw [h2]; rfl
        obtain ⟨EN, hEN⟩ : ∃ EN : En, EN = ⟨E.fp, E.len, tb, ts⟩ := ⟨_, rfl⟩
        have HTN : Hid (turnE mv E = EN) := Lib.hid (by rw [hEN]; exact (turnE_some hto).1)
        have HHE : Hid (hitE mv E = true) := Lib.hid (turnE_some hto).2
        have HWN : Hid (wfE EN) := Lib.hid (by rw [hEN]; exact ⟨HWE.out.1, HWE.out.2.1, HWT.out.1, HWT.out.2⟩)
        obtain ⟨XT, hXT⟩ : ∃ X, X = enC EN := ⟨_, rfl⟩
        have HXT := Lib.hid hXT
        have HXX : Hid ((XE.setIfInBounds 33 (.int .u32 (tb : Nat))).setIfInBounds 34 (.int .i64 ts) = XT) := Lib.hid (by rw [hXT, hEN, HXE.out]; exact en_set2 HWE.out.1 _ _)
        obtain ⟨HITS, hh1⟩ : ∃ h, h = hits + 1 := ⟨_, rfl⟩
        have v9 : IntKind.i64.wrap ((hits : Int) + 1) = (HITS : Int) := by rw [show (hits : Int) + 1 = (HITS : Int) by omega]; exact IntWalk.i64_in _ (by have := HL.out; have := HHI.out.2; have := HKK.out; omega)
        have HHN : Hid (HITS = ((m.es.take i1).filter (hitE mv)).length ∧ HITS ≤ i1) := Lib.hid ⟨by rw [hh1, HTK.out, hitsL_snoc, ← HHI.out.1, HHE.out]; rfl, by have := HHI.out.2; have := HKK.out.1; omega⟩
        clear hEN hXT hh1 hto
        have HZX : Hid (XT.size = 35) := Lib.hid (by rw [HXT.out]; exact enC_size HWN.out.1)
        have HSX : Hid (0 + 35 ≤ XT.size ∧ XT.extract 0 (0 + 35) = XT) := Lib.hid ⟨by rw [HZX.out]; exact Nat.le_refl _, by rw [show 0 + 35 = XT.size by rw [HZX.out]]; exact Array.extract_size⟩
        have HONE := Lib.hid (fun (W : World) => flat_rec encE W 41 EN HWN.out XT (by rw [HXT.out]; rfl))
        have HLX : Hid (LI ++ [EN] = (m.es.take i1).map (turnE mv)) := Lib.hid (by rw [HLI.out, HTK.out, List.map_append, ← HTN.out]; rfl)
        have y33 : W7.cell? ⟨b7, 33, none⟩ = some (.int .u32 (E.box : Nat)) := by
          have : W7.cell? ⟨b7, 33, none⟩ = some (.int .u32 (E.box : Nat)) := by rw [cell_of_row _ _ _ _ _ _ HE7.out, HXE.out]; exact enC_b HWE.out.1
          exact this
        have f33 : W7.frozen? ⟨b7, 33, none⟩ = false := frozen_of_row W7 b7 33 _ _ HE7.out
        have rA := heap_setCell_same W7 b7 33 _ _ (.int .u32 (tb : Nat)) HE7.out
        have y34 : (W7.setCell ⟨b7, 33, none⟩ (.int .u32 (tb : Nat))).cell? ⟨b7, 34, none⟩ = some (.int .i64 E.slot) := by
          rw [cell_of_row _ _ _ _ _ _ rA, Array.getElem?_setIfInBounds_ne (by decide), HXE.out]
          exact enC_s HWE.out.1
        have f34 := frozen_of_row _ b7 34 _ _ rA
        have HT8 : Hid ((W7.setCell ⟨b7, 33, none⟩ (.int .u32 (tb : Nat))).cell? ⟨b11, 0, none⟩ = some (.int .u32 (tb : Nat)) ∧ (W7.setCell ⟨b7, 33, none⟩ (.int .u32 (tb : Nat))).cell? ⟨b11, 1, none⟩ = some (.int .i64 ts)) := Lib.hid (by
          have hr : (W7.setCell ⟨b7, 33, none⟩ (.int .u32 (tb : Nat))).heap[b11]? = some (.cells #[.int .u32 (tb : Nat), .int .i64 ts] 35 (0, 0)) := by
            rw [heap_setCell_other _ _ _ _ (by have := HNE.out; show b11 ≠ b7; omega)]; exact HR7.out
          exact ⟨by rw [cell_of_row _ _ _ _ _ _ hr]; rfl, by rw [cell_of_row _ _ _ _ _ _ hr]; rfl⟩)
        have HT9 : Hid (((W7.setCell ⟨b7, 33, none⟩ (.int .u32 (tb : Nat))).setCell ⟨b7, 34, none⟩ (.int .i64 ts)).cell? ⟨b11, 0, none⟩ = some (.int .u32 (tb : Nat)) ∧ ((W7.setCell ⟨b7, 33, none⟩ (.int .u32 (tb : Nat))).setCell ⟨b7, 34, none⟩ (.int .i64 ts)).cell? ⟨b11, 1, none⟩ = some (.int .i64 ts)) := Lib.hid (by
          have hr : ((W7.setCell ⟨b7, 33, none⟩ (.int .u32 (tb : Nat))).setCell ⟨b7, 34, none⟩ (.int .i64 ts)).heap[b11]? = some (.cells #[.int .u32 (tb : Nat), .int .i64 ts] 35 (0, 0)) := by
            rw [heap_setCell_other _ _ _ _ (by have := HNE.out; show b11 ≠ b7; omega), heap_setCell_other _ _ _ _ (by have := HNE.out; show b11 ≠ b7; omega)]; exact HR7.out
          exact ⟨by rw [cell_of_row _ _ _ _ _ _ hr]; rfl, by rw [cell_of_row _ _ _ _ _ _ hr]; rfl⟩)
        have r8 : ((W7.setCell ⟨b7, 33, none⟩ (.int .u32 (tb : Nat))).setCell ⟨b7, 34, none⟩ (.int .i64 ts)).heap[b7]? = some (.cells XT 41 (0, 0)) := by
          have := heap_setCell_same _ b7 34 _ _ (.int .i64 ts) rA
          rw [HXX.out] at this
          exact this
        have HH8 : Hid (MT W0 bm mv b0 b5 B id (.slice pv i cv) LI ((W7.setCell ⟨b7, 33, none⟩ (.int .u32 (tb : Nat))).setCell ⟨b7, 34, none⟩ (.int .i64 ts))) := Lib.hid
          (HH.out.kept (show Kept wr _ from below_set2M HK7.out HK7.out.size (by rw [HB7.out]; exact Nat.le_refl _) _ _))
        have c1 := HH8.out.mi.c1
        have HH9 : Hid (MT W0 bm mv b0 b5 B id (.slice pv i cv) LI ((W7.setCell ⟨b7, 33, none⟩ (.int .u32 (tb : Nat))).setCell ⟨b7, 34, none⟩ (.int .i64 ts)).drew) := Lib.hid (HH8.out.kept ((Below.refl _ _).drew))
        have c1d := HH9.out.mi.c1
        have r8 : ((W7.setCell ⟨b7, 33, none⟩ (.int .u32 (tb : Nat))).setCell ⟨b7, 34, none⟩ (.int .i64 ts)).drew.heap[b7]? = some (.cells XT 41 (0, 0)) := r8
        clear rA
        go_wp2_with fail
        rw [← HB11.out, ← HW7.out]
        refine wp_region_held_drew (S := fun W => W.cell? ⟨b11, 0, none⟩ = some (.int .u32 (tb : Nat)) ∧ W.cell? ⟨b11, 1, none⟩ = some (.int .i64 ts)) (by kernel_rfl) (show W7.drew.cell? ⟨b11, 0, none⟩ = some (.int .u32 (tb : Nat)) ∧ W7.drew.cell? ⟨b11, 1, none⟩ = some (.int .i64 ts) from HT7.out) (fun hHeld => ?_)
        refine wpAnyH_take (i := 0) (v := ?_) rfl (by kernel_rfl) (by kernel_rfl) (by kernel_rfl) (fun _ _ _ h => h) (Or.inl ⟨by first | kernel_rfl | rfl, ?_⟩) (by assumption) ?_
        case refine_2 => intro w hSw; go_simp; try with_reducible rfl
        refine wpAnyH_take (i := 1) (v := ?_) rfl (by kernel_rfl) (by kernel_rfl) (by kernel_rfl) (fun _ _ _ h => h) (Or.inl ⟨by first | kernel_rfl | rfl, ?_⟩) (by assumption) ?_
        case refine_2 => intro w hSw; have e0 := hSw.1; go_simp; try with_reducible rfl
        refine wpAnyH_take (i := 2) (v := ?_) rfl (by kernel_rfl) (by kernel_rfl) (by kernel_rfl) (fun _ _ _ h => h) (Or.inl ⟨by first | kernel_rfl | rfl, ?_⟩) (by assumption) ?_
        case refine_2 => intro w hSw; go_simp; try with_reducible rfl
        refine wpAnyH_take (i := 3) (v := ?_) rfl (by kernel_rfl) (by kernel_rfl) (by kernel_rfl) (fun _ _ _ h => h) (Or.inl ⟨by first | kernel_rfl | rfl, ?_⟩) (by assumption) ?_
        case refine_2 => intro w hSw; have e0 := hSw.2; go_simp; try with_reducible rfl
        refine wpAnyH_take (i := 4) (v := ?_) rfl (by kernel_rfl) (by kernel_rfl) (by kernel_rfl) (fun _ _ _ h => h) (Or.inl ⟨by first | kernel_rfl | rfl, ?_⟩) (by assumption) ?_
        case refine_2 => intro w hSw; go_simp; try with_reducible rfl
        refine wpAnyH_ready (rs := [5]) (by kernel_rfl) (by simp) (AllReadyH.cons rfl (fun K hK => ?_) AllReadyH.nil)
        go_simp
        refine hK.out _ _ (HT8.out) (fun hSn => ?_)
        clear hK K
        refine wpAnyH_take (i := 6) (v := ?_) rfl (by kernel_rfl) (by kernel_rfl) (by kernel_rfl) (fun _ _ _ h => h) (Or.inl ⟨by first | kernel_rfl | rfl, ?_⟩) (by assumption) ?_
        case refine_2 => intro w hSw; go_simp; try with_reducible rfl
        refine wpAnyH_ready (rs := [7]) (by kernel_rfl) (by simp) (AllReadyH.cons rfl (fun K hK => ?_) AllReadyH.nil)
        go_simp
        refine hK.out _ _ (HT9.out) (fun hSn => ?_)
        clear hK K
        refine wpAnyH_done (by kernel_rfl) ?_ _
        go_wp2_with (first
          | (with_reducible refine wpList_load_sub rfl _ _ rfl b7 0 35 rfl 41 XT (0, 0) _ r8 Tryz.underlying41 rfl infoEn HSX.out.1 XT HSX.out.2 ?_)
          | (with_reducible refine wpList_buildR rfl _ _ _ rfl 35 ir z Tryz.underlying23 HIR.out HZ1.out HZ0.out (by decide) (by decide) XT rfl HZX.out ?_)
          | (at_builtin; refine wpList_append_flat rfl _ _ 23 rfl B 41 ir z 35 56 Tryz.underlying23 HIR.out HZ0.out HZ1.out HZ2.out HZS.out (by decide) _ _ _ rfl (HH9.out.mi.own.alloc _) _ 1 (enL EN) rfl (HONE.out _) ?qd2 ?qd3 ?qd4 ?_))
        case qd2 => have := HKK.out; have := HL.out; rw [HLK.out]; unfold maxLen; omega
        case qd3 => have := HKK.out; have := HL.out; rw [HLK.out]; omega
        case qd4 => exact Nat.le_trans HH9.out.mi.size (by simp)
        intro v4 wA hownA hgrowA _
        obtain ⟨hrA, hhA⟩ := HH9.out.app hownA hgrowA
        rw [HLX.out] at hhA
        have x5 : wA.cell? ⟨b5, 1, none⟩ = some (.slice pv i cv) := by rw [cell_of_row _ _ _ _ _ _ hrA]; rfl
        have f5 := frozen_of_row wA b5 1 _ _ hrA
        have HHA := Lib.hid hhA
        obtain ⟨pv', cv', htv', -, -⟩ := own_slice hownA
        rw [HLK.out, ← HKK.out.1] at htv'
        subst htv'
        clear hownA hgrowA hrA hhA c1 r8
        go_wp2
        go_roundg (n - i1)
        · exact ⟨i1, HITS, _, by have := HKK.out; omega, by first | rfl | (congr 1; omega), by first | rfl | (have := HKK.out; congr 1; omega), HHN, HHA⟩
        · have := HKK.out; omega
      | false =>
        have hto : toF mv (plE E) = none := by
          rw [HXP.out, ← HTO.out]
          have h1 := HQ.out
          cases hT : TO with
          | none => rfl
          | some v => rw [hT] at h1; cases h1
        obtain ⟨EN, hEN⟩ : ∃ EN : En, EN = E := ⟨_, rfl⟩
        have HTN : Hid (turnE mv E = EN) := Lib.hid (by rw [hEN]; exact (turnE_none hto).1)
        have HHE : Hid (hitE mv E = false) := Lib.hid (turnE_none hto).2
        have HWN : Hid (wfE EN) := Lib.hid (by rw [hEN]; exact HWE.out)
        obtain ⟨XT, hXT⟩ : ∃ X, X = XE := ⟨_, rfl⟩
        have HXT : Hid (XT = enC EN) := Lib.hid (by rw [hXT, hEN]; exact HXE.out)
        have HHN : Hid (hits = ((m.es.take i1).filter (hitE mv)).length ∧ hits ≤ i1) := Lib.hid ⟨by rw [HTK.out, hitsL_snoc, ← HHI.out.1, HHE.out]; rfl, by have := HHI.out.2; have := HKK.out.1; omega⟩
        have HZX : Hid (XT.size = 35) := Lib.hid (by rw [HXT.out]; exact enC_size HWN.out.1)
        have HSX : Hid (0 + 35 ≤ XT.size ∧ XT.extract 0 (0 + 35) = XT) := Lib.hid ⟨by rw [HZX.out]; exact Nat.le_refl _, by rw [show 0 + 35 = XT.size by rw [HZX.out]]; exact Array.extract_size⟩
        have HONE := Lib.hid (fun (W : World) => flat_rec encE W 41 EN HWN.out XT (by rw [HXT.out]; rfl))
        have HLX : Hid (LI ++ [EN] = (m.es.take i1).map (turnE mv)) := Lib.hid (by rw [HLI.out, HTK.out, List.map_append, ← HTN.out]; rfl)
        have r8 : W7.heap[b7]? = some (.cells XT 41 (0, 0)) := by rw [hXT]; exact HE7.out
        have HH9 := HH7
        have c1 := HH9.out.mi.c1
        rw [HW7.out] at r8 c1
        replace HH9 : Hid (MT W0 bm mv b0 b5 B id (.slice pv i cv) LI (w6.alloc (.cells #[.int .u32 (tb : Nat), .int .i64 ts] 35))) := Lib.hid (by have := HH9.out; rw [HW7.out] at this; exact this)
        clear hEN hXT hto
        go_wp2_with (first
          | (with_reducible refine wpList_load_sub rfl _ _ rfl b7 0 35 rfl 41 XT (0, 0) _ r8 Tryz.underlying41 rfl infoEn HSX.out.1 XT HSX.out.2 ?_)
          | (with_reducible refine wpList_buildR rfl _ _ _ rfl 35 ir z Tryz.underlying23 HIR.out HZ1.out HZ0.out (by decide) (by decide) XT rfl HZX.out ?_)
          | (at_builtin; refine wpList_append_flat rfl _ _ 23 rfl B 41 ir z 35 56 Tryz.underlying23 HIR.out HZ0.out HZ1.out HZ2.out HZS.out (by decide) _ _ _ rfl (HH9.out.mi.own.alloc _) _ 1 (enL EN) rfl (HONE.out _) ?qd2 ?qd3 ?qd4 ?_))
        case qd2 => have := HKK.out; have := HL.out; rw [HLK.out]; unfold maxLen; omega
        case qd3 => have := HKK.out; have := HL.out; rw [HLK.out]; omega
        case qd4 => exact Nat.le_trans HH9.out.mi.size (by simp)
        intro v4 wA hownA hgrowA _
        obtain ⟨hrA, hhA⟩ := HH9.out.app hownA hgrowA
        rw [HLX.out] at hhA
        have x5 : wA.cell? ⟨b5, 1, none⟩ = some (.slice pv i cv) := by rw [cell_of_row _ _ _ _ _ _ hrA]; rfl
        have f5 := frozen_of_row wA b5 1 _ _ hrA
        have HHA := Lib.hid hhA
        obtain ⟨pv', cv', htv', -, -⟩ := own_slice hownA
        rw [HLK.out, ← HKK.out.1] at htv'
        subst htv'
        clear hownA hgrowA hrA hhA c1 r8
        go_wp2
        go_roundg (n - i1)
        · exact ⟨i1, hits, _, by have := HKK.out; omega, by first | rfl | (congr 1; omega), by first | rfl | (have := HKK.out; congr 1; omega), HHN, HHA⟩
        · have := HKK.out; omega
    · have hki : ¬ (i : Int) < n := by omega
      have bk : decide ((i : Int) < (n : Int)) = false := by simpa using hki
      have hin : i = n := by omega
      have hall : m.es.take i = m.es := List.take_of_length_le (by have := HN.out; omega)
      have HLI2 : Hid (LI = m.es.map (turnE mv)) := Lib.hid (by rw [HLI.out, hall])
      have HHI2 : Hid (hits = (m.es.filter (hitE mv)).length) := Lib.hid (by rw [HHI.out.1, hall])
      have c0 := HH.out.mi.c0
      have c1 := HH.out.mi.c1
      have r0 := HH.out.mi.row0
      have g0 : wr.cell? ⟨b0, 0, none⟩ = some (.int .u32 0) := by rw [cell_of_row _ _ _ _ _ _ r0]; rfl
      have g1 : wr.cell? ⟨b0, 1, none⟩ = some (.slice none 0 0) := by rw [cell_of_row _ _ _ _ _ _ r0]; rfl
      have f0 := frozen_of_row wr b0 0 _ _ r0
      have f1 := frozen_of_row wr b0 1 _ _ r0
      clear hin hall hi hlt r0
      go_wp2
      have hok : ∀ e ∈ LI, wfE e := fun e he => by
        rw [HLI2.out] at he
        obtain ⟨a, ha, rfl⟩ := List.mem_map.1 he
        exact turnE_wf (HE.out.good a ha) HMW.out
      have hd := HH.out.mi.done HID.out hok
      refine bodyPost_ret (results_cell_tmp_rowM Tryz.results16 _ _ b0 25 #[.int .u32 (id : Nat), .slice pv i cv] (0, 0) _ rfl (set2_rowM HH.out.mi.row0 _ _) Tryz.underlying25 rfl infoMan) rfl ⟨⟨_, by rw [← HHI2.out]; rfl, ?_⟩, (show Kept w W0 from HK0.out).then hd.2⟩
      rw [← HLI2.out]
      exact hd.1

end Go.Proofs.YteompckehokdoaaGreatDoor
