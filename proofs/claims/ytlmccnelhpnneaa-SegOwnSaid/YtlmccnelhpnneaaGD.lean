/- What stands below, out of what has grown. Compact of fingerprints: the walk of the library's text. Clone, Compact, Set: the walks. Clone, Compact of any slice, Set. Has, the document's Has, Less, Same: the walks. BinarySearchFunc, and what Minus deletes: the walks. What Minus deletes; IndexFunc, DeleteFunc: the walks. Minus, Common, Of: the walks. -/
import Derived.Test.YtlmccnelhpnneaaGC
import Derived.Lib.SliceRun
namespace Go.Proofs.Ytlmccnelhpnneaa
open Go.RowKit

theorem below_of_grown {w w' : World} {row : Option Nat} {B : Nat} (h : w.grownBy w' row) (hB : B ≤ w.heap.size) (hr : ∀ k, row = some k → B ≤ k) : Below B w w' :=
  ⟨h.os, h.tape, h.output, h.size, fun k hk => h.block k (by omega) (fun e => by have := hr k e.symm; omega)⟩

end Go.Proofs.Ytlmccnelhpnneaa
namespace Go.Proofs.Ytlmccnelhpnneaa
open Go.RowKit

section
variable {P : Program} {ops : Array Oper}

/-- The load of a part of a row, in every world of the class. -/
theorem wpQuiet_load_sub {C : World → Prop} {Q : Act → Prop} {a : Act} {o : Oper} {rest : List Oper} (hw : Region.wanted o (yielded ops a.tmps) = true) (ty : TypeId) (x : Operand) (ho : o.op = .load ty x)
    (g off n : Nat) (hx : a.eval x = .pointer (some ⟨g, off, none⟩)) (t : TypeId) (cs : Array Value) (fr : Nat × Nat) (d : TypeDesc) (hg : ∀ W, C W → W.heap[g]? = some (.cells cs t fr))
    (hu : P.underlying ty = some d) (hd : (match d with | .struct _ | .array _ _ => true | _ => false) = true) (hi : (P.info? ty).map (·.size) = some n) (v : Array Value) (hv : off + n ≤ cs.size ∧ cs.extract off (off + n) = v)
    (h : ∀ K : Act → Prop, (∀ a, wpQuiet P ops C Q rest a → K a) → K (a.put o.dst (.agg v))) : wpQuiet P ops C Q (o :: rest) a := by
  obtain ⟨hon, rfl⟩ := hv
  unfold wpQuiet
  rw [if_pos hw]
  refine ⟨.agg (cs.extract off (off + n)), fun W hC => ?_, h _ (fun _ x => x)⟩
  unfold Oper.quietAt execOp
  simp only [ho, hx, Instr.loadAt, Instr.sureAddr, Sem.run_bind, Sem.run_pure, Result.andThen_ok, run_loadVar_sub W g off n t ty cs fr d (hg W hC) hu hd hi hon]
  exact ⟨rfl, rfl⟩
end

theorem sizeFp (w : World) : (Go.sizeOf 37).run Try.prog w = .ok 32 w := Try.sizeOf37 w

/-- The address of an element. -/
theorem idx_at (g o n c k : Nat) (hk : k < n) (w : World) : (Instr.indexAt 22 (.slice (some ⟨g, o, none⟩) n c) (.int .i64 k)).run Try.prog w = .ok (.pointer (some ⟨g, o + k * 32, none⟩)) w := by
  have hk' : (k : Int) < n := by omega
  have h0 : (0 : Int) ≤ k := by omega
  simp [Instr.indexAt, run_underlying Try.underlying22, asIntOf, h0, addr_add]
  intro h
  omega

theorem cut_lo (g o n c k : Nat) (hk : k ≤ n) (hc : k < c) (w : World) : (Instr.sliceAt 22 (.slice (some ⟨g, o, none⟩) n c) (some (.int .i64 k)) none none).run Try.prog w = .ok (.slice (some ⟨g, o + k * 32, none⟩) (n - k) (c - k)) w := by
  have hk' : (k : Int) ≤ n := by omega
  have h0 : (0 : Int) ≤ k := by omega
  have hne : ¬ c = k := by omega
  simp [Instr.sliceAt, Instr.slice, run_underlying Try.underlying22, Instr.sliceBounds, Instr.sliceBound, asIntOf, h0, addr_add, hne]
  intro h
  omega

theorem cut_hi (g o n c k : Nat) (hk : k ≤ c) (hc : 0 < c) (w : World) : (Instr.sliceAt 22 (.slice (some ⟨g, o, none⟩) n c) none (some (.int .i64 k)) none).run Try.prog w = .ok (.slice (some ⟨g, o, none⟩) k c) w := by
  have hk' : (k : Int) ≤ c := by omega
  have h0 : (0 : Int) ≤ k := by omega
  have hne : ¬ c = 0 := by omega
  simp [Instr.sliceAt, Instr.slice, run_underlying Try.underlying22, Instr.sliceBounds, Instr.sliceBound, asIntOf, h0, addr_add, hne]
  intro h
  omega

theorem zeroFp (w : World) : (zeroValue 37).run Try.prog w = .ok (.agg (fpA zeroL)) w := by
  rw [zeroL_cells]
  exact Try.zeroValue37 w

theorem zeros_cells (n : Nat) : (Builtin.zeroCells (Value.agg (fpA zeroL)).cells n).toList = flatL (List.replicate n zeroL) := by
  have hs : (fpA zeroL).size = 32 := by rw [fpA_size]; rfl
  have hall : All32 (List.replicate n zeroL) := fun l hl => by rw [List.eq_of_mem_replicate hl]; rfl
  apply List.ext_getElem?
  intro t
  simp only [Value.cells, Builtin.zeroCells, hs]
  by_cases ht : t < n * 32
  · have hq : t / 32 < n := by omega
    have hd : t = t / 32 * 32 + t % 32 := by omega
    have h1 := rowA_cell (List.replicate n zeroL) [] hall (t / 32) (t % 32) (by rw [List.length_replicate]; exact hq) (by omega)
    rw [← hd, List.getElem_replicate] at h1
    have h2 : (rowA (List.replicate n zeroL) [])[t]? = (flatL (List.replicate n zeroL))[t]? := by simp [rowA]
    have hm : t % 32 < (fpA zeroL).size := by rw [hs]; omega
    rw [← h2, h1, Array.toList_map, List.getElem?_map, Array.toList_range, List.getElem?_range ht, Array.getElem?_eq_getElem hm]
    simp only [Option.map_some]
    rw [getElem!_pos (fpA zeroL) (t % 32) hm]
  · have h1 : (flatL (List.replicate n zeroL)).length = n * 32 := by rw [flatL_len _ hall, List.length_replicate]
    rw [List.getElem?_eq_none (l := flatL _) (by rw [h1]; omega), List.getElem?_eq_none (by simp; omega)]

/-- clear(s[k:]) of a row. -/
theorem clear_at (g n k c : Nat) (ls : List (List UInt8)) (rest : List Value) (w : World) (h : RowAt g ls rest w) (hn : ls.length = n) (hk : k < n) (ty : TypeId) :
    (Builtin.clear_ #[22] ty #[.slice (some ⟨g, k * 32, none⟩) (n - k) c]).run Try.prog w = .ok (.tuple #[]) (w.setRow g (rowA (ls.take k) (flatL (List.replicate (n - k) zeroL) ++ rest))) := by
  subst hn
  have hall : All32 (List.replicate (ls.length - k) zeroL) := fun l hl => by rw [List.eq_of_mem_replicate hl]; rfl
  have hz := zeros_cells (ls.length - k)
  have hl : (flatL (List.replicate (ls.length - k) zeroL)).length = (ls.length - k) * 32 := by rw [flatL_len _ hall, List.length_replicate]
  have hst := run_storeCells_at Try.prog g (k * 32) 37 (flatL (List.replicate (ls.length - k) zeroL)) 0 _ w h.2 (by
    rw [hl, rowA_size _ _ h.1]
    have := Nat.mul_le_mul_right 32 (Nat.le_of_lt hk)
    rw [Nat.sub_mul]; omega) (flatL_one' _)
  have e : ((rowA ls rest).toList.take (k * 32 + 0) ++ flatL (List.replicate (ls.length - k) zeroL) ++ (rowA ls rest).toList.drop (k * 32 + 0 + (flatL (List.replicate (ls.length - k) zeroL)).length)).toArray = rowA (ls.take k) (flatL (List.replicate (ls.length - k) zeroL) ++ rest) := by
    have e0 := take_flat_len h.1 k (by omega)
    rw [hl, Nat.add_zero, Nat.sub_mul, show k * 32 + (ls.length * 32 - k * 32) = ls.length * 32 by omega]
    unfold rowA
    congr 1
    have e1 : flatL ls = flatL (ls.take k) ++ flatL (ls.drop k) := by rw [← flatL_append, List.take_append_drop]
    have e2 : (flatL ls ++ rest).drop (ls.length * 32) = rest := List.drop_left' (flatL_len ls h.1)
    show (flatL ls ++ rest).take (k * 32) ++ _ ++ (flatL ls ++ rest).drop (ls.length * 32) = _
    rw [e2, e1, List.append_assoc (flatL (ls.take k)), List.take_left' e0, List.append_assoc]
  rw [e] at hst
  obtain ⟨m, hm⟩ : ∃ m, ls.length - k = m + 1 := ⟨ls.length - k - 1, by omega⟩
  rw [hm] at hst hz ⊢
  rw [zeroL_cells] at hz
  simp [Builtin.clear_, run_underlying Try.underlying22, hz, hst]

theorem RowAt.set {g : Nat} {ls ms : List (List UInt8)} {rest rest' : List Value} {w : World} (h : RowAt g ls rest w) (hm : All32 ms) : RowAt g ms rest' (w.setRow g (rowA ms rest')) :=
  ⟨hm, setRow_heap _ _ _ _ _ _ h.2⟩

theorem grown_row {w w' : World} {g : Nat} (h : w.grownBy w' (some g)) (cs : Array Value) : w.grownBy (w'.setRow g cs) (some g) :=
  ⟨h.os, h.tape, h.output, by rw [setRow_size]; exact h.size, fun k hk hne => by rw [setRow_other _ _ _ _ (fun e => hne (by rw [e]))]; exact h.block k hk hne⟩

theorem grown_then {w w1 w2 : World} {g : Nat} (h : w.grownBy w1 (some g)) (k : Below w1.heap.size w1 w2) : w.grownBy w2 (some g) :=
  ⟨k.os.trans h.os, k.tape.trans h.tape, k.output.trans h.output, Nat.le_trans h.size k.size, fun j hj hne => (k.block j (Nat.lt_of_lt_of_le hj h.size)).trans (h.block j hj hne)⟩

/-- An element of a row, to be loaded. -/
theorem RowAt.elem {g : Nat} {ls : List (List UInt8)} {rest : List Value} {w : World} (h : RowAt g ls rest w) (i : Nat) (hi : i < ls.length) : i * 32 + 32 ≤ (rowA ls rest).size ∧ (rowA ls rest).extract (i * 32) (i * 32 + 32) = fpA ls[i] :=
  ⟨by rw [rowA_size _ _ h.1]; have := Nat.mul_le_mul_right 32 (show i + 1 ≤ ls.length from hi); omega, rowA_extract ls rest h.1 i hi⟩

end Go.Proofs.Ytlmccnelhpnneaa
namespace Go.Proofs.Ytlmccnelhpnneaa
open Go.RowKit

theorem kept_grown {w w' : World} (h : Kept w w') (row : Option Nat) : w.grownBy w' row := ⟨h.os, h.tape, h.output, h.size, fun k hk _ => h.block k hk⟩

def CompPost (g cap : Nat) (ls : List (List UInt8)) (rest : List Value) (w : World) (e : Ending) (w' : World) : Prop :=
  ∃ ms rest', e = .returned (.slice (some ⟨g, 0, none⟩) ms.length cap) ∧ ms = onceL ls ∧ ms.length ≤ ls.length ∧ RowAt g ms rest' w' ∧ ms.length * 32 + rest'.length = ls.length * 32 + rest.length ∧ w.grownBy w' (some g)

end Go.Proofs.Ytlmccnelhpnneaa
namespace Go.Proofs.Ytlmccnelhpnneaa
open Go.RowKit

theorem info_fp : ∃ i : TypeInfo, Try.prog.info? 37 = some i ∧ i.size = 32 ∧ i.bytes = 32 ∧ ∃ z, i.zero = some z ∧ z.cells.size = 32 := by
  refine ⟨_, rfl, ?_, ?_, _, rfl, ?_⟩ <;> kernel_rfl

set_option maxRecDepth 100000 in
set_option maxHeartbeats 1000000 in
theorem clone_some (a : Addr) (c : Nat) (ls : List (List UInt8)) (hs : ls.length ≤ 1000000) (w : World) (h : FpsAt 32 ls (.slice (some a) ls.length c) w) :
    Calls Try.prog 25 #[.slice (some a) ls.length c] w fun e w' => ∃ v', e = .returned v' ∧ OwnFps w.heap.size ls v' w' ∧ Below w.heap.size w w' := by
  obtain ⟨i, hi, h1, h2, z, hz, hzs⟩ := info_fp
  have q22 : ∀ (w : World) (a : Option Addr) (n c n' c' : Nat), (binOp .eql 22 (.slice a n c) (.slice none n' c')).run Try.prog w = .ok (.bool a.isNone) w := fun w a n c n' c' => Lib.run_eql_slice_nil w _ _ a n c n' c' Try.underlying22
  have HF : Hid (FpsAt 32 ls (.slice (some a) ls.length c) w) := h
  have h32 := Lib.hid h.1
  obtain ⟨n, hn⟩ : ∃ n, n = ls.length := ⟨_, rfl⟩
  have HN := Lib.hid hn
  rw [← hn] at hs HF ⊢
  clear hn h
  go_enter Try.func25, Try.ntmps25
  go_wp2_with (at_builtin; refine wpList_append_fps rfl _ _ 22 rfl w.heap.size 37 i z 32 Try.underlying22 hi hz h1 h2 hzs _ _ _ rfl (World.ownsRow_made w #[] 0 (Nat.le_refl _) (Nat.zero_le _) (by simp)) _ ls rfl ?qc1 ?qc2 ?qc3 ?qc4 ?_)
  case qc1 =>
    have := HF.out.later ((Below.refl _ w).alloc (Nat.le_refl _) (.cells #[] 37))
    exact this
  case qc2 => rw [← HN.out]; unfold maxLen; omega
  case qc3 => rw [← HN.out]; omega
  case qc4 => simp
  intro v' w1 hown hgrow
  go_wp2
  go_ret
  refine ⟨_, rfl, ⟨h32.out, ?_⟩, ?_⟩
  · exact hown
  · exact ((Below.refl _ w).alloc (Nat.le_refl _) _).grown hgrow (by simp) (by intro k hk; simp [Value.ownBlock] at hk; omega)

set_option maxRecDepth 100000 in
theorem clone_none (n c : Nat) (w : World) :
    Calls Try.prog 25 #[.slice none n c] w fun e w' => e = .returned (.slice none 0 0) ∧ w' = w := by
  have q22 : ∀ (w : World) (a : Option Addr) (n c n' c' : Nat), (binOp .eql 22 (.slice a n c) (.slice none n' c')).run Try.prog w = .ok (.bool a.isNone) w := fun w a n c n' c' => Lib.run_eql_slice_nil w _ _ a n c n' c' Try.underlying22
  go_enter Try.func25, Try.ntmps25
  go_wp2
  go_ret
  exact ⟨rfl, rfl⟩

/-- slices.Clone of any slice of fingerprints. -/
theorem clone_any (v : Value) (ls : List (List UInt8)) (hs : ls.length ≤ 1000000) (w : World) (h : FpsAt 32 ls v w) :
    Calls Try.prog 25 #[v] w fun e w' => ∃ v', e = .returned v' ∧ OwnFps w.heap.size ls v' w' ∧ Below w.heap.size w w' := by
  obtain ⟨p, c, rfl, hc⟩ := h.2
  cases p with
  | some a => exact clone_some a c ls hs w h
  | none =>
    have h0 : ls = [] := by
      rcases hc with h0 | ⟨b, off, h0, _⟩
      · exact h0
      · cases h0
    subst h0
    refine (clone_none _ c w).mono ?_
    rintro e w' ⟨he, rfl⟩
    exact ⟨_, he, OwnFps.nil _ _, Below.refl _ _⟩

end Go.Proofs.Ytlmccnelhpnneaa
namespace Go.Proofs.Ytlmccnelhpnneaa
open Go.RowKit

theorem idx_of (p : Addr) (n c k : Nat) (hk : k < n) (w : World) : (Instr.indexAt 22 (.slice (some ⟨p.block, p.off, none⟩) n c) (.int .i64 k)).run Try.prog w = .ok (.pointer (some ⟨p.block, p.off + k * 32, none⟩)) w := idx_at _ _ _ _ _ hk w

theorem any_take (l : List UInt8) (ls : List (List UInt8)) (k : Nat) (hk : k < ls.length) : (ls.take (k + 1)).contains l = ((ls.take k).contains l || l == ls[k]) := by
  rw [Bool.eq_iff_iff, List.contains_iff_mem, List.take_succ_eq_append_getElem hk, List.mem_append, List.mem_singleton, Bool.or_eq_true, List.contains_iff_mem, beq_iff_eq]

set_option maxRecDepth 100000 in
set_option maxHeartbeats 2000000 in
/-- Same fingerprints? -/
theorem same_n (p1 p2 : Option Addr) (c1 c2 n m : Nat) (xs ys : List (List UInt8)) (hn : n = xs.length) (hm : m = ys.length) (hs : n ≤ 1000000) (w : World) (h1 : FpsAt 32 xs (.slice p1 n c1) w) (h2 : FpsAt 32 ys (.slice p2 m c2) w) :
    Calls Try.prog 18 #[.slice p1 n c1, .slice p2 m c2] w fun e w' => e = .returned (.bool (xs == ys)) ∧ Below w.heap.size w w' := by
  by_cases hnm : n = m
  · subst hnm
    have HF1 : Hid (FpsAt 32 xs (.slice p1 xs.length c1) w) := by rw [← hn]; exact h1
    have HF2 : Hid (FpsAt 32 ys (.slice p2 ys.length c2) w) := by rw [← hm]; exact h2
    have HN := Lib.hid hn
    have HM := Lib.hid hm
    clear hn hm h1 h2
    go_enter Try.func18, Try.ntmps18
    go_wp2
    go_loopw [5] (fun x wr => ∃ (k : Nat), k ≤ n ∧ x = .int .i64 k ∧ Hid (xs.take k = ys.take k) ∧ Hid (Kept w wr)) (fun x _ => n - (intOf x).toNat)
    case atStart => exact ⟨0, by omega, rfl, rfl, Kept.refl w⟩
    case round =>
      obtain ⟨k, hkn, rfl, HC, HK⟩ := hrel
      by_cases hlt : k < n
      · have hka : k < xs.length := by rw [← HN.out]; exact hlt
        have hkb : k < ys.length := by rw [← HM.out]; exact hlt
        have hltz : (k : Int) < (n : Int) := by omega
        have bz : decide ((k : Int) < (n : Int)) = true := by simpa using hltz
        obtain ⟨b1, o1, cs1, t1, fr1, hp1, hg1, E1⟩ := HF1.out.elem hka
        obtain ⟨b2, o2, cs2, t2, fr2, hp2, hg2, E2⟩ := HF2.out.elem hkb
        subst hp1 hp2
        have HG1 : Hid (wr.heap[b1]? = some (.cells cs1 t1 fr1)) := HK.out.row hg1
        have HG2 : Hid (wr.heap[b2]? = some (.cells cs2 t2 fr2)) := HK.out.row hg2
        have IX1 := fun w' => idx_at b1 o1 n c1 k hlt w'
        have IX2 := fun w' => idx_at b2 o2 n c2 k hlt w'
        have EQ := fun w' => eq_fp xs[k] ys[k] (HF1.out.1 _ (List.getElem_mem hka)) (HF2.out.1 _ (List.getElem_mem hkb)) w'
        obtain ⟨X, hX⟩ : ∃ X, X = fpA xs[k] := ⟨_, rfl⟩
        obtain ⟨Y, hY⟩ : ∃ Y, Y = fpA ys[k] := ⟨_, rfl⟩
        obtain ⟨q, hq⟩ : ∃ q, q = (xs[k] == ys[k]) := ⟨_, rfl⟩
        rw [← hX] at E1 EQ
        rw [← hY] at E2 EQ
        rw [← hq] at EQ
        have HQ := Lib.hid hq
        clear hX hY hq hg1 hg2
        go_wp2_with fail
        refine wp_region_kept (by kernel_rfl) (by kernel_rfl) ?_
        refine wpQuiet_pure (v := ?_) (by kernel_rfl) ?_ (fun K hK => ?_)
        case refine_2 => intro W _; go_simp; try with_reducible rfl
        go_simp
        refine hK _ ?_; clear hK K
        refine wpQuiet_pure (v := ?_) (by kernel_rfl) ?_ (fun K hK => ?_)
        case refine_2 => intro W _; go_simp; try with_reducible rfl
        go_simp
        refine hK _ ?_; clear hK K
        refine wpQuiet_pure (v := ?_) (by kernel_rfl) ?_ (fun K hK => ?_)
        case refine_2 => intro W _; go_simp; try with_reducible rfl
        go_simp
        refine hK _ ?_; clear hK K
        refine wpQuiet_load_sub (by kernel_rfl) _ _ rfl b1 (o1 + k * 32) 32 rfl t1 cs1 fr1 _ (fun _ h => h.row HG1.out) Try.underlying37 rfl infoFp _ E1 (fun K hK => ?_)
        go_simp
        refine hK _ ?_; clear hK K
        refine wpQuiet_pure (v := ?_) (by kernel_rfl) ?_ (fun K hK => ?_)
        case refine_2 => intro W _; go_simp; try with_reducible rfl
        go_simp
        refine hK _ ?_; clear hK K
        refine wpQuiet_pure (v := ?_) (by kernel_rfl) ?_ (fun K hK => ?_)
        case refine_2 => intro W _; go_simp; try with_reducible rfl
        go_simp
        refine hK _ ?_; clear hK K
        refine wpQuiet_pure (v := ?_) (by kernel_rfl) ?_ (fun K hK => ?_)
        case refine_2 => intro W _; go_simp; try with_reducible rfl
        go_simp
        refine hK _ ?_; clear hK K
        refine wpQuiet_load_sub (by kernel_rfl) _ _ rfl b2 (o2 + k * 32) 32 rfl t2 cs2 fr2 _ (fun _ h => h.row HG2.out) Try.underlying37 rfl infoFp _ E2 (fun K hK => ?_)
        go_simp
        refine hK _ ?_; clear hK K
        refine wpQuiet_pure (by kernel_rfl) (.bool (!q)) (fun W _ => by go_simp) (fun K hK => ?_)
        go_simp
        refine hK _ ?_; clear hK K
        refine wpQuiet_nil ?_
        intro w2 hk2
        have K2 : Hid (Kept w w2) := HK.out.then hk2
        cases q with
        | true =>
          go_wp2
          go_roundw
          case rel => exact ⟨k + 1, by omega, by go_num, by
            have e : xs[k] = ys[k] := eq_of_beq HQ.out.symm
            show xs.take (k + 1) = ys.take (k + 1)
            rw [List.take_succ_eq_append_getElem hka, List.take_succ_eq_append_getElem hkb, HC.out, e], K2⟩
          case measure => simp [intOf]; omega
        | false =>
          clear EQ IX1 IX2 E1 E2 HC
          go_wp2
          go_ret
          refine ⟨?_, K2.out⟩
          have e : (xs == ys) = false := by
            rw [beq_eq_false_iff_ne]
            rintro rfl
            have := HQ.out
            simp at this
          rw [e]
          rfl
      · obtain rfl : k = n := by omega
        have bz : decide ((k : Int) < (k : Int)) = false := by simp
        go_wp2
        go_ret
        refine ⟨?_, HK.out⟩
        have := HC.out
        rw [List.take_of_length_le (by rw [← HN.out]; exact Nat.le_refl _), List.take_of_length_le (by rw [← HM.out]; exact Nat.le_refl _)] at this
        rw [this]
        simp
  · have hne : (xs == ys) = false := by
      rw [beq_eq_false_iff_ne]
      rintro rfl
      exact hnm (by omega)
    have b1 : ((n : Int) == (m : Int)) = false := by rw [beq_eq_false_iff_ne]; omega
    have b2 : (!((n : Int) == (m : Int))) = true := by rw [b1]; rfl
    rw [hne]
    clear hne h1 h2 hn hm
    go_enter Try.func18, Try.ntmps18
    go_wp2
    go_ret
    exact ⟨rfl, Below.refl _ _⟩

theorem same_any (v1 v2 : Value) (xs ys : List (List UInt8)) (hs : xs.length ≤ 1000000) (w : World) (h1 : FpsAt 32 xs v1 w) (h2 : FpsAt 32 ys v2 w) :
    Calls Try.prog 18 #[v1, v2] w fun e w' => e = .returned (.bool (xs == ys)) ∧ Below w.heap.size w w' := by
  obtain ⟨p1, c1, rfl, _⟩ := h1.2
  obtain ⟨p2, c2, rfl, _⟩ := h2.2
  exact same_n p1 p2 c1 c2 _ _ xs ys rfl rfl hs w h1 h2

end Go.Proofs.Ytlmccnelhpnneaa
namespace Go.Proofs.Ytlmccnelhpnneaa
open Go.RowKit

theorem incr_at {ls : List (List UInt8)} (h : Incr ls) (a b : Nat) (hab : a < b) (hb : b < ls.length) : ltB (ls[a]'(by omega)) ls[b] = true := List.pairwise_iff_getElem.1 h a b (by omega) hb hab

/-- All below are less. -/
theorem bs_lo {ls : List (List UInt8)} (hI : Incr ls) (t : List UInt8) (m : Nat) (hm : m < ls.length) (h : ltB ls[m] t = true) (a : Nat) (ha : a < m + 1) : ltB (ls[a]'(by omega)) t = true := by
  by_cases e : a = m
  · subst e; exact h
  · exact ltB_trans _ _ _ (incr_at hI a m (by omega) hm) h

theorem bs_hi {ls : List (List UInt8)} (hI : Incr ls) (t : List UInt8) (m : Nat) (hm : m < ls.length) (h : ltB ls[m] t = false) (a : Nat) (ha : m ≤ a) (hal : a < ls.length) : ltB ls[a] t = false := by
  by_cases e : a = m
  · subst e; exact h
  · cases h2 : ltB ls[a] t with
    | false => rfl
    | true =>
      rw [ltB_trans _ _ _ (incr_at hI m a (by omega) hal) h2] at h
      cases h

theorem bs_end {ls : List (List UInt8)} (hI : Incr ls) (t : List UInt8) (i : Nat) (h1 : ∀ a (h : a < i) (hl : a < ls.length), ltB ls[a] t = true) (h2 : ∀ a (_ : i ≤ a) (hl : a < ls.length), ltB ls[a] t = false) :
    ls.contains t = if h : i < ls.length then ls[i] == t else false := by
  rw [Bool.eq_iff_iff, List.contains_iff_mem]
  constructor
  · intro hm
    obtain ⟨a, ha, rfl⟩ := List.getElem_of_mem hm
    have hge : ¬ a < i := fun h => by
      have := h1 a h ha
      rw [ltB_irrefl] at this; cases this
    have hia : a = i := by
      by_cases e : a = i
      · exact e
      · have h3 := h2 i (Nat.le_refl _) (by omega)
        rw [incr_at hI i a (by omega) ha] at h3
        cases h3
    subst hia
    rw [dif_pos ha]
    simp
  · intro h
    split at h
    · rename_i hi
      rw [← eq_of_beq h]
      exact List.getElem_mem hi
    · cases h

def LoL (ls : List (List UInt8)) (t : List UInt8) (i : Nat) : Prop := ∀ a (_ : a < i) (hl : a < ls.length), ltB ls[a] t = true
def HiL (ls : List (List UInt8)) (t : List UInt8) (j : Nat) : Prop := ∀ a (_ : j ≤ a) (hl : a < ls.length), ltB ls[a] t = false

def FoundPost (r : Bool) (w : World) (e : Ending) (w' : World) : Prop := ∃ i : Int, e = .returned (.tuple #[.int .i64 i, .bool r]) ∧ Below w.heap.size w w'

end Go.Proofs.Ytlmccnelhpnneaa
namespace Go.Proofs.Ytlmccnelhpnneaa
open Go.RowKit

def IdxPost (ls : List (List UInt8)) (p : List UInt8 → Bool) (w : World) (e : Ending) (w' : World) : Prop :=
  ((e = .returned (.int .i64 (-1)) ∧ ∀ l ∈ ls, p l = false) ∨ ∃ k : Nat, ∃ h : k < ls.length, e = .returned (.int .i64 k) ∧ p ls[k] = true ∧ ∀ l ∈ ls.take k, p l = false) ∧ Below w.heap.size w w'

def DelPost (g cap : Nat) (ls : List (List UInt8)) (rest : List Value) (q : List UInt8 → Bool) (w : World) (e : Ending) (w' : World) : Prop :=
  ∃ ms rest', e = .returned (.slice (some ⟨g, 0, none⟩) ms.length cap) ∧ ms = ls.filter (fun x => !q x) ∧ ms.length ≤ ls.length ∧ RowAt g ms rest' w' ∧ ms.length * 32 + rest'.length = ls.length * 32 + rest.length ∧ w.grownBy w' (some g)

def DelIn (g n i j : Nat) (ls ms : List (List UInt8)) (rest : List Value) (q : List UInt8 → Bool) (w : World) : Prop :=
  ms.length = n ∧ ms.drop j = ls.drop j ∧ ms.take i = (ls.take j).filter (fun x => !q x) ∧ RowAt g ms rest w

theorem filter_take (ls : List (List UInt8)) (q : List UInt8 → Bool) (j : Nat) (hj : j < ls.length) : (ls.take (j + 1)).filter (fun x => !q x) = if q ls[j] then (ls.take j).filter (fun x => !q x) else (ls.take j).filter (fun x => !q x) ++ [ls[j]] := by
  rw [List.take_succ_eq_append_getElem hj, List.filter_append]
  cases h : q ls[j] <;> simp [h]

theorem filter_all (ls : List (List UInt8)) (q : List UInt8 → Bool) (h : ∀ l ∈ ls, q l = false) : ls.filter (fun x => !q x) = ls := by
  rw [List.filter_eq_self]
  intro a ha
  rw [h a ha]
  rfl

theorem grown_alloc {w w' : World} {g : Nat} (h : w.grownBy w' (some g)) (o : Obj) : w.grownBy (w'.alloc o) (some g) := grown_then h ((Below.refl _ w').alloc (Nat.le_refl _) o)

end Go.Proofs.Ytlmccnelhpnneaa
namespace Go.Proofs.Ytlmccnelhpnneaa
open Go.RowKit

theorem setL_le (n : Nat) (ls : List (List UInt8)) (h : ∀ y ∈ ls, y.length = n) : (setL ls).length ≤ ls.length := by
  have hw : ∀ (l out : List (List UInt8)), (l.foldl add1 out).length ≤ out.length + l.length := by
    intro l
    induction l with
    | nil => intro out; simp
    | cons x l ih =>
      intro out
      rw [List.foldl_cons]
      have h1 := ih (add1 out x)
      have hi : ∀ o : List (List UInt8), (ins x o).length = o.length + 1 := by
        intro o
        induction o with
        | nil => rfl
        | cons a o ih2 => unfold ins; split <;> simp [ih2]
      have h2 : (add1 out x).length ≤ out.length + 1 := by
        unfold add1
        split
        · omega
        · rw [hi]; exact Nat.le_refl _
      rw [List.length_cons]
      omega
  have := hw ls []
  simpa [setL] using this

theorem minus_set (xs ys : List (List UInt8)) (ha : All32 xs) : (setL xs).filter (fun x => !(setL ys).contains x) = minusL xs ys := by
  have e : (fun x => !(setL ys).contains x) = fun x => !ys.contains x := by
    funext x
    congr 1
    rw [Bool.eq_iff_iff, List.contains_iff_mem, List.contains_iff_mem, setL_mem]
  rw [e]
  exact (setL_filter 32 xs _ ha).symm

theorem minus_len (xs ys : List (List UInt8)) (ha : All32 xs) : (minusL xs ys).length ≤ (setL xs).length := by
  have := (common_both 32 xs ys ha).2
  omega

end Go.Proofs.Ytlmccnelhpnneaa
