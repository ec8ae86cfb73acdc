/- What stands below, out of what has grown. Compact of fingerprints: the walk of the library's text. Clone, Compact, Set: the walks. -/
import Derived.Test.YtaajadmaamjebaaHB
import Derived.Lib.SliceRun
namespace Go.Proofs.Ytaajadmaamjebaa
open Go.RowKit

theorem below_of_grown {w w' : World} {row : Option Nat} {B : Nat} (h : w.grownBy w' row) (hB : B ≤ w.heap.size) (hr : ∀ k, row = some k → B ≤ k) : Below B w w' :=
  ⟨h.os, h.tape, h.output, h.size, fun k hk => h.block k (by omega) (fun e => by have := hr k e.symm; omega)⟩

end Go.Proofs.Ytaajadmaamjebaa
namespace Go.Proofs.Ytaajadmaamjebaa
open Go.RowKit

section
variable {P : Program} {ops : Array Oper}

/-- The load of a part of a row, in every world of the class. -/
theorem wpQuiet_load_sub {C : World → Prop} {Q : Act → Prop} {a : Act} {o : Oper} {rest : List Oper} (hw : Region.wanted o (yielded ops a.tmps) = true) (ty : TypeId) (x : Operand) (ho : o.op = .load ty x)
    (g off n : Nat) (hx : a.eval x = .pointer (some ⟨g, off, none⟩)) (t : TypeId) (cs : Array Value) (fr : Nat × Nat) (d : TypeDesc) (hg : ∀ W, C W → W.heap[g]? = some (.cells cs t fr))
    (hu : P.underlying ty = some d) (hd : (match d with | .struct _ | .array _ _ => true | _ => false) = true) (hi : (P.info? ty).map (·.size) = some n) (v : Array Value) (hv : off + n ≤ cs.size ∧ cs.extract off (off + n) = v)
    (h : ∀ K : Act → Prop, (∀ a, wpQuiet P ops C Q rest a → K a) → K (a.put o.dst (.agg v))) : wpQuiet P ops C Q (o :: rest) a := by
  obtain ⟨hon, rfl⟩ := hv
  unfold wpQuiet
  rw [if_pos hw]
  refine ⟨.agg (cs.extract off (off + n)), fun W hC => ?_, h _ (fun _ x => x)⟩
  unfold Oper.quietAt execOp
  simp only [ho, hx, Instr.loadAt, Instr.sureAddr, Sem.run_bind, Sem.run_pure, Result.andThen_ok, run_loadVar_sub W g off n t ty cs fr d (hg W hC) hu hd hi hon]
  exact ⟨rfl, rfl⟩
end

theorem sizeFp (w : World) : (Go.sizeOf 47).run Try.prog w = .ok 32 w := Try.sizeOf47 w

/-- The address of an element. -/
theorem idx_at (g o n c k : Nat) (hk : k < n) (w : World) : (Instr.indexAt 34 (.slice (some ⟨g, o, none⟩) n c) (.int .i64 k)).run Try.prog w = .ok (.pointer (some ⟨g, o + k * 32, none⟩)) w := by
  have hk' : (k : Int) < n := by omega
  have h0 : (0 : Int) ≤ k := by omega
  simp [Instr.indexAt, run_underlying Try.underlying34, asIntOf, h0, addr_add]
  intro h
  omega

theorem cut_lo (g o n c k : Nat) (hk : k ≤ n) (hc : k < c) (w : World) : (Instr.sliceAt 34 (.slice (some ⟨g, o, none⟩) n c) (some (.int .i64 k)) none none).run Try.prog w = .ok (.slice (some ⟨g, o + k * 32, none⟩) (n - k) (c - k)) w := by
  have hk' : (k : Int) ≤ n := by omega
  have h0 : (0 : Int) ≤ k := by omega
  have hne : ¬ c = k := by omega
  simp [Instr.sliceAt, Instr.slice, run_underlying Try.underlying34, Instr.sliceBounds, Instr.sliceBound, asIntOf, h0, addr_add, hne]
  intro h
  omega

theorem cut_hi (g o n c k : Nat) (hk : k ≤ c) (hc : 0 < c) (w : World) : (Instr.sliceAt 34 (.slice (some ⟨g, o, none⟩) n c) none (some (.int .i64 k)) none).run Try.prog w = .ok (.slice (some ⟨g, o, none⟩) k c) w := by
  have hk' : (k : Int) ≤ c := by omega
  have h0 : (0 : Int) ≤ k := by omega
  have hne : ¬ c = 0 := by omega
  simp [Instr.sliceAt, Instr.slice, run_underlying Try.underlying34, Instr.sliceBounds, Instr.sliceBound, asIntOf, h0, addr_add, hne]
  intro h
  omega

theorem zeroFp (w : World) : (zeroValue 47).run Try.prog w = .ok (.agg (fpA zeroL)) w := by
  rw [zeroL_cells]
  exact Try.zeroValue47 w

theorem zeros_cells (n : Nat) : (Builtin.zeroCells (Value.agg (fpA zeroL)).cells n).toList = flatL (List.replicate n zeroL) := by
  have hs : (fpA zeroL).size = 32 := by rw [fpA_size]; rfl
  have hall : All32 (List.replicate n zeroL) := fun l hl => by rw [List.eq_of_mem_replicate hl]; rfl
  apply List.ext_getElem?
  intro t
  simp only [Value.cells, Builtin.zeroCells, hs]
  by_cases ht : t < n * 32
  · have hq : t / 32 < n := by omega
    have hd : t = t / 32 * 32 + t % 32 := by omega
    have h1 := rowA_cell (List.replicate n zeroL) [] hall (t / 32) (t % 32) (by rw [List.length_replicate]; exact hq) (by omega)
    rw [← hd, List.getElem_replicate] at h1
    have h2 : (rowA (List.replicate n zeroL) [])[t]? = (flatL (List.replicate n zeroL))[t]? := by simp [rowA]
    have hm : t % 32 < (fpA zeroL).size := by rw [hs]; omega
    rw [← h2, h1, Array.toList_map, List.getElem?_map, Array.toList_range, List.getElem?_range ht, Array.getElem?_eq_getElem hm]
    simp only [Option.map_some]
    rw [getElem!_pos (fpA zeroL) (t % 32) hm]
  · have h1 : (flatL (List.replicate n zeroL)).length = n * 32 := by rw [flatL_len _ hall, List.length_replicate]
    rw [List.getElem?_eq_none (l := flatL _) (by rw [h1]; omega), List.getElem?_eq_none (by simp; omega)]

/-- clear(s[k:]) of a row. -/
theorem clear_at (g n k c : Nat) (ls : List (List UInt8)) (rest : List Value) (w : World) (h : RowAt g ls rest w) (hn : ls.length = n) (hk : k < n) (ty : TypeId) :
    (Builtin.clear_ #[34] ty #[.slice (some ⟨g, k * 32, none⟩) (n - k) c]).run Try.prog w = .ok (.tuple #[]) (w.setRow g (rowA (ls.take k) (flatL (List.replicate (n - k) zeroL) ++ rest))) := by
  subst hn
  have hall : All32 (List.replicate (ls.length - k) zeroL) := fun l hl => by rw [List.eq_of_mem_replicate hl]; rfl
  have hz := zeros_cells (ls.length - k)
  have hl : (flatL (List.replicate (ls.length - k) zeroL)).length = (ls.length - k) * 32 := by rw [flatL_len _ hall, List.length_replicate]
  have hst := run_storeCells_at Try.prog g (k * 32) 47 (flatL (List.replicate (ls.length - k) zeroL)) 0 _ w h.2 (by
    rw [hl, rowA_size _ _ h.1]
    have := Nat.mul_le_mul_right 32 (Nat.le_of_lt hk)
    rw [Nat.sub_mul]; omega) (flatL_one' _)
  have e : ((rowA ls rest).toList.take (k * 32 + 0) ++ flatL (List.replicate (ls.length - k) zeroL) ++ (rowA ls rest).toList.drop (k * 32 + 0 + (flatL (List.replicate (ls.length - k) zeroL)).length)).toArray = rowA (ls.take k) (flatL (List.replicate (ls.length - k) zeroL) ++ rest) := by
    have e0 := take_flat_len h.1 k (by omega)
    rw [hl, Nat.add_zero, Nat.sub_mul, show k * 32 + (ls.length * 32 - k * 32) = ls.length * 32 by omega]
    unfold rowA
    congr 1
    have e1 : flatL ls = flatL (ls.take k) ++ flatL (ls.drop k) := by rw [← flatL_append, List.take_append_drop]
    have e2 : (flatL ls ++ rest).drop (ls.length * 32) = rest := List.drop_left' (flatL_len ls h.1)
    show (flatL ls ++ rest).take (k * 32) ++ _ ++ (flatL ls ++ rest).drop (ls.length * 32) = _
    rw [e2, e1, List.append_assoc (flatL (ls.take k)), List.take_left' e0, List.append_assoc]
  rw [e] at hst
  obtain ⟨m, hm⟩ : ∃ m, ls.length - k = m + 1 := ⟨ls.length - k - 1, by omega⟩
  rw [hm] at hst hz ⊢
  rw [zeroL_cells] at hz
  simp [Builtin.clear_, run_underlying Try.underlying34, hz, hst]

theorem RowAt.set {g : Nat} {ls ms : List (List UInt8)} {rest rest' : List Value} {w : World} (h : RowAt g ls rest w) (hm : All32 ms) : RowAt g ms rest' (w.setRow g (rowA ms rest')) :=
  ⟨hm, setRow_heap _ _ _ _ _ _ h.2⟩

theorem grown_row {w w' : World} {g : Nat} (h : w.grownBy w' (some g)) (cs : Array Value) : w.grownBy (w'.setRow g cs) (some g) :=
  ⟨h.os, h.tape, h.output, by rw [setRow_size]; exact h.size, fun k hk hne => by rw [setRow_other _ _ _ _ (fun e => hne (by rw [e]))]; exact h.block k hk hne⟩

theorem grown_then {w w1 w2 : World} {g : Nat} (h : w.grownBy w1 (some g)) (k : Below w1.heap.size w1 w2) : w.grownBy w2 (some g) :=
  ⟨k.os.trans h.os, k.tape.trans h.tape, k.output.trans h.output, Nat.le_trans h.size k.size, fun j hj hne => (k.block j (Nat.lt_of_lt_of_le hj h.size)).trans (h.block j hj hne)⟩

/-- An element of a row, to be loaded. -/
theorem RowAt.elem {g : Nat} {ls : List (List UInt8)} {rest : List Value} {w : World} (h : RowAt g ls rest w) (i : Nat) (hi : i < ls.length) : i * 32 + 32 ≤ (rowA ls rest).size ∧ (rowA ls rest).extract (i * 32) (i * 32 + 32) = fpA ls[i] :=
  ⟨by rw [rowA_size _ _ h.1]; have := Nat.mul_le_mul_right 32 (show i + 1 ≤ ls.length from hi); omega, rowA_extract ls rest h.1 i hi⟩

end Go.Proofs.Ytaajadmaamjebaa
namespace Go.Proofs.Ytaajadmaamjebaa
open Go.RowKit

theorem kept_grown {w w' : World} (h : Kept w w') (row : Option Nat) : w.grownBy w' row := ⟨h.os, h.tape, h.output, h.size, fun k hk _ => h.block k hk⟩

def CompPost (g cap : Nat) (ls : List (List UInt8)) (rest : List Value) (w : World) (e : Ending) (w' : World) : Prop :=
  ∃ ms rest', e = .returned (.slice (some ⟨g, 0, none⟩) ms.length cap) ∧ ms = onceL ls ∧ ms.length ≤ ls.length ∧ RowAt g ms rest' w' ∧ ms.length * 32 + rest'.length = ls.length * 32 + rest.length ∧ w.grownBy w' (some g)

set_option maxRecDepth 100000 in
set_option maxHeartbeats 4000000 in
/-- slices.Compact, at two fingerprints or more. -/
theorem compact_two (g cap : Nat) (ls : List (List UInt8)) (rest : List Value) (hs : ls.length ≤ 1000000) (h2 : 2 ≤ ls.length) (hc : ls.length ≤ cap) (w : World) (h : RowAt g ls rest w) :
    Calls Try.prog 43 #[.slice (some ⟨g, 0, none⟩) ls.length cap] w (CompPost g cap ls rest w) := by
  obtain ⟨n, hn⟩ : ∃ n, n = ls.length := ⟨_, rfl⟩
  have hv : Value.slice (some ⟨g, 0, none⟩) ls.length cap = .slice (some ⟨g, 0, none⟩) n cap := by rw [hn]
  rw [hv]
  rw [← hn] at hs h2 hc
  clear hv
  have HN := Lib.hid hn
  have HR := Lib.hid h
  have h2' : ¬ (n : Int) < 2 := by omega
  have b2 : decide ((n : Int) < 2) = false := by simpa using h2'
  clear hn h
  go_enter Try.func43, Try.ntmps43
  go_wp2
  go_loopw [3] (fun x wr => ∃ (k p : Nat), k = p + 1 ∧ k ≤ n ∧ x = .int .i64 k ∧ Hid (onceL (ls.take k) = ls.take k) ∧ Kept w wr) (fun x _ => n - (intOf x).toNat)
  case atStart => exact ⟨1, 0, rfl, by omega, rfl, by
    have : 0 < ls.length := by rw [← HN.out]; omega
    show onceL (ls.take 1) = ls.take 1
    rw [List.take_succ_eq_append_getElem this]
    rfl, Kept.refl w⟩
  case round =>
    obtain ⟨k, p, hkp, hkn, rfl, HO, HK⟩ := hrel
    have HK' := Lib.hid HK
    by_cases hlt : k < n
    · have hkl : k < ls.length := by rw [← HN.out]; exact hlt
      have hpl : p < ls.length := by omega
      have hltz : (k : Int) < (n : Int) := by omega
      have bz : decide ((k : Int) < (n : Int)) = true := by simpa using hltz
      have HG : Hid (wr.heap[g]? = some (.cells (rowA ls rest) 47 (0, 0))) := (HR.out.kept HK).2
      have E1 := HR.out.elem k hkl
      have E2 := HR.out.elem p hpl
      have IX1 := fun w' => idx_at g 0 n cap k hlt w'
      have IX2 := fun w' => idx_at g 0 n cap p (by omega) w'
      rw [Nat.zero_add] at IX1 IX2
      have e1 : IntKind.i64.wrap ((k : Int) - 1) = (p : Int) := by simp [IntKind.wrap, IntKind.bits, IntKind.signed]; omega
      have EQ := fun w' => eq_fp ls[k] ls[p] (HR.out.1 _ (List.getElem_mem hkl)) (HR.out.1 _ (List.getElem_mem hpl)) w'
      obtain ⟨X, hX⟩ : ∃ X, X = fpA ls[k] := ⟨_, rfl⟩
      obtain ⟨Y, hY⟩ : ∃ Y, Y = fpA ls[p] := ⟨_, rfl⟩
      obtain ⟨b, hb⟩ : ∃ b, b = (ls[k] == ls[p]) := ⟨_, rfl⟩
      rw [← hX] at E1 EQ
      rw [← hY] at E2 EQ
      rw [← hb] at EQ
      have HB := Lib.hid hb
      have hp1 : p + 1 < ls.length := by omega
      have OT := Lib.hid (onceL_take ls p hp1)
      have HKP := Lib.hid hkp
      clear hX hY hb HK hkp
      go_wp2_with fail
      refine wp_region_kept (by kernel_rfl) (by kernel_rfl) ?_
      refine wpQuiet_pure (v := ?_) (by kernel_rfl) ?_ (fun K hK => ?_)
      case refine_2 => intro W _; go_simp; try with_reducible rfl
      go_simp
      refine hK _ ?_; clear hK K
      refine wpQuiet_pure (v := ?_) (by kernel_rfl) ?_ (fun K hK => ?_)
      case refine_2 => intro W _; go_simp; try with_reducible rfl
      go_simp
      refine hK _ ?_; clear hK K
      refine wpQuiet_pure (v := ?_) (by kernel_rfl) ?_ (fun K hK => ?_)
      case refine_2 => intro W _; go_simp; try with_reducible rfl
      go_simp
      refine hK _ ?_; clear hK K
      refine wpQuiet_load_sub (by kernel_rfl) _ _ rfl g (k * 32) 32 rfl 47 _ (0, 0) _ (fun _ h => h.row HG.out) Try.underlying47 rfl infoFp _ E1 (fun K hK => ?_)
      go_simp
      refine hK _ ?_; clear hK K
      refine wpQuiet_pure (v := ?_) (by kernel_rfl) ?_ (fun K hK => ?_)
      case refine_2 => intro W _; go_simp; try with_reducible rfl
      go_simp
      refine hK _ ?_; clear hK K
      refine wpQuiet_pure (v := ?_) (by kernel_rfl) ?_ (fun K hK => ?_)
      case refine_2 => intro W _; go_simp; try with_reducible rfl
      go_simp
      refine hK _ ?_; clear hK K
      refine wpQuiet_pure (v := ?_) (by kernel_rfl) ?_ (fun K hK => ?_)
      case refine_2 => intro W _; go_simp; try with_reducible rfl
      go_simp
      refine hK _ ?_; clear hK K
      refine wpQuiet_pure (v := ?_) (by kernel_rfl) ?_ (fun K hK => ?_)
      case refine_2 => intro W _; go_simp; try with_reducible rfl
      go_simp
      refine hK _ ?_; clear hK K
      refine wpQuiet_load_sub (by kernel_rfl) _ _ rfl g (p * 32) 32 rfl 47 _ (0, 0) _ (fun _ h => h.row HG.out) Try.underlying47 rfl infoFp _ E2 (fun K hK => ?_)
      go_simp
      refine hK _ ?_; clear hK K
      refine wpQuiet_pure (by kernel_rfl) (.bool b) (fun W _ => by go_simp) (fun K hK => ?_)
      go_simp
      refine hK _ ?_; clear hK K
      refine wpQuiet_nil ?_
      intro w2 hk2
      have K2 := HK'.out.then hk2
      cases b with
      | false =>
        go_wp2
        go_roundw
        case rel => exact ⟨k + 1, k, rfl, by omega, by go_num, by
          have h1 := OT.out
          have h2 := HKP.out
          subst h2
          have hne : ¬ ls[p] = ls[p + 1] := fun e => by
            have := HB.out
            rw [e] at this
            simp at this
          rw [if_neg hne] at h1
          show onceL (ls.take (p + 1 + 1)) = ls.take (p + 1 + 1)
          rw [h1, HO.out, ← List.take_succ_eq_append_getElem hkl], K2⟩
        case measure => simp [intOf]; omega
      | true =>
        have RK : RowAt g ls rest w2 := HR.out.kept K2
        have CL := fun w' => cut_lo g 0 n cap k (by omega) (by omega) w'
        rw [Nat.zero_add] at CL
        have HS : Hid (ls.take k = onceL (ls.take (k + 1))) := by
          have h1 := OT.out
          have h2 := HKP.out
          subst h2
          have he : ls[p] = ls[p + 1] := by
            have := HB.out
            have h3 : (ls[p + 1] == ls[p]) = true := this.symm
            exact (eq_of_beq h3).symm
          rw [if_pos he, HO.out] at h1
          exact h1.symm
        have HRK := Lib.hid RK
        have HK2 := Lib.hid K2
        clear IX1 IX2 e1 EQ E1 E2 RK
        go_wp2
        go_loopw [3, 5] (fun x y wq => ∃ (j q r : Nat) (ms : List (List UInt8)), q = r + 1 ∧ k + q ≤ n ∧ 1 ≤ j ∧ j ≤ k + r ∧ x = .int .i64 j ∧ y = .int .i64 q ∧ Hid (ms.length = n ∧ ms.drop (k + r) = ls.drop (k + r) ∧ ms.take j = onceL (ls.take (k + q)) ∧ RowAt g ms rest wq) ∧ w.grownBy wq (some g)) (fun _ y _ => n - (intOf y).toNat)
        case atStart => exact ⟨k, 1, 0, ls, rfl, by omega, by have := HKP.out; omega, by omega, rfl, rfl, ⟨HN.out.symm, rfl, HS.out, HRK.out⟩, kept_grown HK2.out _⟩
        case round =>
          clear HRK HK2 hk2 K2
          obtain ⟨j, q, r, ms, hqr, hqn, hj1, hjr, rfl, rfl, HI, hgr⟩ := hrel
          have hml := HI.out.1
          by_cases hlq : k + q < n
          · have hz1 : (q : Int) < ((n - k : Nat) : Int) := by omega
            have bz1 : decide ((q : Int) < ((n - k : Nat) : Int)) = true := by simpa using hz1
            have hkq : k + q < ms.length := by omega
            have hkr : k + r < ms.length := by omega
            have hkq2 : k + q < ls.length := by rw [← HN.out]; omega
            have hkr2 : k + r < ls.length := by rw [← HN.out]; omega
            have HG : Hid (wr.heap[g]? = some (.cells (rowA ms rest) 47 (0, 0))) := HI.out.2.2.2.2
            have E1 := HI.out.2.2.2.elem (k + q) hkq
            have E2 := HI.out.2.2.2.elem (k + r) hkr
            rw [show (k + q) * 32 = k * 32 + q * 32 by omega] at E1
            rw [show (k + r) * 32 = k * 32 + r * 32 by omega] at E2
            have IX1 := fun w' => idx_at g (k * 32) (n - k) (cap - k) q (by omega) w'
            have IX2 := fun w' => idx_at g (k * 32) (n - k) (cap - k) r (by omega) w'
            have e1 : IntKind.i64.wrap ((q : Int) - 1) = (r : Int) := by simp [IntKind.wrap, IntKind.bits, IntKind.signed]; omega
            have EQ := fun w' => eq_fp ms[k + q] ms[k + r] (HI.out.2.2.2.1 _ (List.getElem_mem hkq)) (HI.out.2.2.2.1 _ (List.getElem_mem hkr)) w'
            have hr1 : k + r + 1 < ls.length := by rw [← HN.out]; omega
            have HX : Hid (ms[k + q] = ls[k + r + 1]'hr1 ∧ ms[k + r] = ls[k + r]'hkr2) := by
              have hd := HI.out.2.1
              have g1 := congrArg (fun l => l[1]?) hd
              have g2 := congrArg (fun l => l[0]?) hd
              simp only [List.getElem?_drop] at g1 g2
              have e9 : k + r + 1 = k + q := by omega
              rw [List.getElem?_eq_getElem hr1] at g1
              have g3 : ms[k + q]? = some (ls[k + r + 1]'hr1) := by rw [← e9]; exact g1
              rw [List.getElem?_eq_getElem hkq] at g3
              rw [Nat.add_zero, List.getElem?_eq_getElem hkr, List.getElem?_eq_getElem hkr2] at g2
              exact ⟨Option.some.inj g3, Option.some.inj g2⟩
            have OT := Lib.hid (onceL_take ls (k + r) hr1)
            have HM := Lib.hid (HI.out.2.2.2.1 _ (List.getElem_mem hkq))
            obtain ⟨X, hX⟩ : ∃ X, X = fpA ms[k + q] := ⟨_, rfl⟩
            obtain ⟨Y, hY⟩ : ∃ Y, Y = fpA ms[k + r] := ⟨_, rfl⟩
            obtain ⟨b, hb⟩ : ∃ b, b = (ms[k + q] == ms[k + r]) := ⟨_, rfl⟩
            rw [← hX] at E1 EQ
            rw [← hY] at E2 EQ
            rw [← hb] at EQ
            have HB := Lib.hid hb
            have HXX := Lib.hid hX
            have HQR := Lib.hid hqr
            have HGR := Lib.hid hgr
            clear hX hY hb hqr hgr
            go_wp2_with fail
            refine wp_region_kept (by kernel_rfl) (by kernel_rfl) ?_
            refine wpQuiet_pure (v := ?_) (by kernel_rfl) ?_ (fun K hK => ?_)
            case refine_2 => intro W _; go_simp; try with_reducible rfl
            go_simp
            refine hK _ ?_; clear hK K
            refine wpQuiet_pure (v := ?_) (by kernel_rfl) ?_ (fun K hK => ?_)
            case refine_2 => intro W _; go_simp; try with_reducible rfl
            go_simp
            refine hK _ ?_; clear hK K
            refine wpQuiet_pure (v := ?_) (by kernel_rfl) ?_ (fun K hK => ?_)
            case refine_2 => intro W _; go_simp; try with_reducible rfl
            go_simp
            refine hK _ ?_; clear hK K
            refine wpQuiet_load_sub (by kernel_rfl) _ _ rfl g (k * 32 + q * 32) 32 rfl 47 _ (0, 0) _ (fun _ h => h.row HG.out) Try.underlying47 rfl infoFp _ E1 (fun K hK => ?_)
            go_simp
            refine hK _ ?_; clear hK K
            refine wpQuiet_pure (v := ?_) (by kernel_rfl) ?_ (fun K hK => ?_)
            case refine_2 => intro W _; go_simp; try with_reducible rfl
            go_simp
            refine hK _ ?_; clear hK K
            refine wpQuiet_pure (v := ?_) (by kernel_rfl) ?_ (fun K hK => ?_)
            case refine_2 => intro W _; go_simp; try with_reducible rfl
            go_simp
            refine hK _ ?_; clear hK K
            refine wpQuiet_pure (v := ?_) (by kernel_rfl) ?_ (fun K hK => ?_)
            case refine_2 => intro W _; go_simp; try with_reducible rfl
            go_simp
            refine hK _ ?_; clear hK K
            refine wpQuiet_pure (v := ?_) (by kernel_rfl) ?_ (fun K hK => ?_)
            case refine_2 => intro W _; go_simp; try with_reducible rfl
            go_simp
            refine hK _ ?_; clear hK K
            refine wpQuiet_load_sub (by kernel_rfl) _ _ rfl g (k * 32 + r * 32) 32 rfl 47 _ (0, 0) _ (fun _ h => h.row HG.out) Try.underlying47 rfl infoFp _ E2 (fun K hK => ?_)
            go_simp
            refine hK _ ?_; clear hK K
            refine wpQuiet_pure (by kernel_rfl) (.bool (!b)) (fun W _ => by go_simp) (fun K hK => ?_)
            go_simp
            refine hK _ ?_; clear hK K
            refine wpQuiet_nil ?_
            intro w2 hk2
            have R2 := HI.out.2.2.2.kept hk2
            have G2 := grown_then HGR.out hk2
            cases b with
            | true =>
              clear IX1 IX2 e1 EQ E1 E2
              have HR2 := Lib.hid R2
              have HG2 := Lib.hid G2
              clear R2 G2 HGR
              go_wp2
              go_roundw
              case rel => exact ⟨j, q + 1, q, ms, rfl, by omega, hj1, by have := HQR.out; omega, rfl, by go_num, by
                have h1 := OT.out
                have e9 : k + q = k + r + 1 := by have := HQR.out; omega
                refine ⟨HI.out.1, ?_, ?_, HR2.out⟩
                · have := congrArg (List.drop 1) HI.out.2.1
                  rw [List.drop_drop, List.drop_drop] at this
                  rw [e9]
                  exact this
                · have he : ls[k + r]'hkr2 = ls[k + r + 1]'hr1 := by
                    have h3 := HB.out
                    have h4 : (ms[k + q] == ms[k + r]) = true := h3.symm
                    rw [← HX.out.1, ← HX.out.2]
                    exact (eq_of_beq h4).symm
                  rw [if_pos he] at h1
                  have h5 := HI.out.2.2.1
                  rw [e9] at h5
                  rw [show k + (q + 1) = k + r + 2 by omega, h1]
                  exact h5, HG2.out⟩
              case measure => simp [intOf]; omega
            | false =>
              have R2' := R2.2
              have EJ := R2.elem j (by omega)
              have hjn : j < n := by omega
              have IX3 := fun w' => idx_at g 0 n cap j hjn w'
              rw [Nat.zero_add] at IX3
              have HR2 := Lib.hid R2
              have HG2 := Lib.hid G2
              have HIN := Lib.hid infoFp
              have HIX : Hid ((Try.prog.info? 47).map (·.size) = some X.size) := by rw [HXX.out, fpA_size, HM.out]; exact infoFp
              have HX1 : Hid (X.all (·.oneCell') = true) := by rw [HXX.out]; exact fpA_one _
              have HFJ : Hid (j * 32 + X.size ≤ (rowA ms rest).size) := by rw [HXX.out, fpA_size, HM.out]; exact EJ.1
              clear IX2 e1 EQ E2 R2 G2 HGR EJ
              go_wp2_with (first
                | (with_reducible refine wpList_load_sub rfl _ _ rfl g (k * 32 + q * 32) 32 rfl 47 _ (0, 0) _ R2' Try.underlying47 rfl HIN.out E1.1 X E1.2 ?_)
                | (with_reducible refine wpList_store_sub rfl _ _ _ rfl g (j * 32) X rfl rfl 47 _ R2' HIX.out HFJ.out HX1.out ?_))
              go_roundw
              case rel => exact ⟨j + 1, q + 1, q, ms.set j ms[k + q], rfl, by omega, by omega, by have := HQR.out; omega, by go_num, by go_num, by
                have h1 := OT.out
                have e9 : k + q = k + r + 1 := by have := HQR.out; omega
                have hset := rowA_set ms rest HI.out.2.2.2.1 j (by omega) ms[k + q] HM.out
                refine ⟨by rw [List.length_set]; exact HI.out.1, ?_, ?_, ?_⟩
                · have := congrArg (List.drop 1) HI.out.2.1
                  rw [List.drop_drop, List.drop_drop] at this
                  rw [List.drop_set_of_lt (by omega), e9]
                  exact this
                · have hne : ¬ ls[k + r]'hkr2 = ls[k + r + 1]'hr1 := fun e => by
                    have h3 := HB.out
                    have h4 : (ms[k + q] == ms[k + r]) = false := h3.symm
                    rw [HX.out.1, HX.out.2] at h4
                    exact absurd e.symm (by simpa using h4)
                  have h5 := HI.out.2.2.1
                  rw [e9] at h5
                  rw [if_neg hne, ← h5] at h1
                  rw [show k + (q + 1) = k + r + 2 by omega, h1, ← HX.out.1, List.take_succ_eq_append_getElem (by rw [List.length_set]; omega), List.getElem_set_self, List.take_set_of_le (Nat.le_refl _)]
                · rw [HXX.out, hset]
                  exact HR2.out.set (all32_set HI.out.2.2.2.1 j _ HM.out), grown_row HG2.out _⟩
              case measure => simp [intOf]; omega
          · have hq : k + q = n := by omega
            have hz1 : ¬ (q : Int) < ((n - k : Nat) : Int) := by omega
            have bz1 : decide ((q : Int) < ((n - k : Nat) : Int)) = false := by simpa using hz1
            have CJ := fun w' => cut_lo g 0 n cap j (by omega) (by omega) w'
            have CH := fun w' => cut_hi g 0 n cap j (by omega) (by omega) w'
            rw [Nat.zero_add] at CJ
            have hjn : j < n := by omega
            have CC := fun ty => clear_at g n j (cap - j) ms rest wr HI.out.2.2.2 hml (by omega) ty
            have HGR := Lib.hid hgr
            have HQ := Lib.hid hq
            clear hgr CL hml hqr hq
            go_wp2
            go_ret
            refine ⟨ms.take j, flatL (List.replicate (n - j) zeroL) ++ rest, ?_, ?_, ?_, ?_, ?_, grown_row HGR.out _⟩
            · rw [List.length_take, HI.out.1, Nat.min_eq_left (by omega)]; rfl
            · rw [HI.out.2.2.1, HQ.out, List.take_of_length_le (by rw [← HN.out]; exact Nat.le_refl _)]
            · rw [List.length_take, HI.out.1]; have := HN.out; omega
            · exact HI.out.2.2.2.set (all32_take HI.out.2.2.2.1 j)
            · rw [List.length_take, HI.out.1, List.length_append, flatL_len _ (fun l hl => by rw [List.eq_of_mem_replicate hl]; rfl), List.length_replicate, Nat.min_eq_left (by omega), Nat.sub_mul]
              have h6 := Nat.mul_le_mul_right 32 (show j ≤ n by omega)
              have h7 := HN.out
              rw [← h7]
              omega
    · obtain rfl : k = n := by omega
      have bz : decide ((k : Int) < (k : Int)) = false := by simp
      clear HK
      go_wp2
      go_ret
      refine ⟨ls, rest, ?_, ?_, Nat.le_refl _, HR.out.kept HK'.out, ?_, kept_grown HK'.out _⟩
      · rw [← HN.out]; rfl
      · have := HO.out
        rw [List.take_of_length_le (by rw [← HN.out]; exact Nat.le_refl _)] at this
        exact this.symm
      · rfl

end Go.Proofs.Ytaajadmaamjebaa
