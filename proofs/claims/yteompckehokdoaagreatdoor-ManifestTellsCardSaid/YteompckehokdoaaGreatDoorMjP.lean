/- slices.Compact of places: the walk of the library's text. -/
import Derived.Test.YteompckehokdoaaGreatDoorGJ
import Derived.Test.YteompckehokdoaaGreatDoorRwk
namespace Go.Proofs.YteompckehokdoaaGreatDoor
open Go.RowKit

abbrev RowPl (g : Nat) (ls : List Pl) (rest : List Value) (w : World) : Prop := RowG plL wfP 35 g ls rest w
theorem infoPl2 : (Tryz.prog.info? 35).map (·.size) = some 2 := by kernel_rfl
theorem pl_one (p : Pl) : (plL p).toArray.all (·.oneCell') = true := by
  rw [Array.all_eq_true_iff_forall_mem]
  intro x hx
  simp only [plL, List.mem_toArray, List.mem_cons, List.not_mem_nil, or_false] at hx
  rcases hx with rfl | rfl <;> rfl
def zeroP : Pl := (0, 0)
theorem zeroP_wf : wfP zeroP := ⟨by decide, by decide⟩
theorem idx_pl (g o n c k : Nat) (hk : k < n) (w : World) : (Instr.indexAt 28 (.slice (some ⟨g, o, none⟩) n c) (.int .i64 k)).run Tryz.prog w = .ok (.pointer (some ⟨g, o + k * 2, none⟩)) w :=
  idx_rec Tryz.underlying28 (fun w => Tryz.sizeOf35 w) g o n c k hk w
theorem cut_loP (g o n c k : Nat) (hk : k ≤ n) (hc : k < c) (w : World) : (Instr.sliceAt 28 (.slice (some ⟨g, o, none⟩) n c) (some (.int .i64 k)) none none).run Tryz.prog w = .ok (.slice (some ⟨g, o + k * 2, none⟩) (n - k) (c - k)) w :=
  cut_loR Tryz.underlying28 (fun w => Tryz.sizeOf35 w) g o n c k hk hc w
theorem cut_hiP (g o n c k : Nat) (hk : k ≤ c) (hc : 0 < c) (w : World) : (Instr.sliceAt 28 (.slice (some ⟨g, o, none⟩) n c) none (some (.int .i64 k)) none).run Tryz.prog w = .ok (.slice (some ⟨g, o, none⟩) k c) w :=
  cut_hiR Tryz.underlying28 (fun w => Tryz.sizeOf35 w) g o n c k hk hc w
set_option maxHeartbeats 1000000 in
set_option maxRecDepth 100000 in
theorem eq_pl (a b : Pl) (w : World) : (Op.equalIn 10000 35 (.agg (plL a).toArray) (.agg (plL b).toArray)).run Tryz.prog w = .ok (a == b) w := by
  have h := run_equalIn_struct (P := Tryz.prog) w 9999 35 (plL a).toArray (plL b).toArray (by kernel_rfl) (by kernel_rfl)
  rw [show (10000 : Nat) = 9999 + 1 from rfl, h]
  obtain ⟨a1, a2⟩ := a
  obtain ⟨b1, b2⟩ := b
  have hd : ((a1, a2) == (b1, b2)) = (((a1 : Int) == (b1 : Int)) && (a2 == b2)) := by
    rw [Bool.eq_iff_iff]
    simp only [beq_iff_eq, Bool.and_eq_true, Prod.mk.injEq]
    omega
  rw [hd]
  obtain ⟨p, hp⟩ : ∃ p : Int, p = (a1 : Int) := ⟨_, rfl⟩
  obtain ⟨q, hq⟩ : ∃ q : Int, q = (b1 : Int) := ⟨_, rfl⟩
  unfold plL
  simp only
  rw [← hp, ← hq]
  clear hp hq h hd
  show (Op.eqFields 9999 #[.int .u32 p, .int .i64 a2] #[.int .u32 q, .int .i64 b2] [_, _]).run Tryz.prog w = _
  cases e1 : (p == q) with
  | false => go_simp
  | true =>
    cases e2 : (a2 == b2) with
    | false => go_simp
    | true => go_simp
theorem zeros_pl (n : Nat) : (Builtin.zeroCells (Value.agg (plL zeroP).toArray).cells n).toList = flatR plL (List.replicate n zeroP) := by
  have hs : (plL zeroP).toArray.size = 2 := rfl
  have hall : ∀ a ∈ List.replicate n zeroP, wfP a := fun l hl => by rw [List.eq_of_mem_replicate hl]; exact zeroP_wf
  apply List.ext_getElem?
  intro t
  simp only [Value.cells, Builtin.zeroCells, hs]
  by_cases ht : t < n * 2
  · have hq : t / 2 < n := by omega
    have hd : t = t / 2 * 2 + t % 2 := by omega
    have h1 := flatR_get encP (List.replicate n zeroP) hall (t / 2) (by rw [List.length_replicate]; exact hq) (t % 2) (by omega)
    rw [← hd, List.getElem_replicate] at h1
    have hm : t % 2 < (plL zeroP).toArray.size := by rw [hs]; omega
    rw [h1, Array.toList_map, List.getElem?_map, Array.toList_range, List.getElem?_range ht]
    simp only [Option.map_some]
    rw [getElem!_pos (plL zeroP).toArray (t % 2) hm, ← List.getElem?_toArray, Array.getElem?_eq_getElem hm]
  · have h1 : (flatR plL (List.replicate n zeroP)).length = n * 2 := by rw [flatR_len encP _ hall, List.length_replicate]
    rw [List.getElem?_eq_none (l := flatR _ _) (by rw [h1]; omega), List.getElem?_eq_none (by simp; omega)]
/-- clear(s[k:]) of a row. -/
theorem clear_pl (g n k c : Nat) (ls : List Pl) (rest : List Value) (w : World) (h : RowPl g ls rest w) (hn : ls.length = n) (hk : k < n) (ty : TypeId) :
    (Builtin.clear_ #[28] ty #[.slice (some ⟨g, k * 2, none⟩) (n - k) c]).run Tryz.prog w = .ok (.tuple #[]) (w.setRow g (rowG plL (ls.take k) (flatR plL (List.replicate (n - k) zeroP) ++ rest))) := by
  subst hn
  have hall : ∀ a ∈ List.replicate (ls.length - k) zeroP, wfP a := fun l hl => by rw [List.eq_of_mem_replicate hl]; exact zeroP_wf
  have hz := zeros_pl (ls.length - k)
  have hl : (flatR plL (List.replicate (ls.length - k) zeroP)).length = (ls.length - k) * 2 := by rw [flatR_len encP _ hall, List.length_replicate]
  have hst := run_storeCells_at Tryz.prog g (k * 2) 35 (flatR plL (List.replicate (ls.length - k) zeroP)) 0 _ w h.row (by
    rw [hl, rowG_size encP _ h.good]
    omega) (flatR_ones encP _ hall)
  have e : ((rowG plL ls rest).toList.take (k * 2 + 0) ++ flatR plL (List.replicate (ls.length - k) zeroP) ++ (rowG plL ls rest).toList.drop (k * 2 + 0 + (flatR plL (List.replicate (ls.length - k) zeroP)).length)).toArray = rowG plL (ls.take k) (flatR plL (List.replicate (ls.length - k) zeroP) ++ rest) := by
    have e0 := flatR_take encP h.good k (by omega)
    rw [hl, Nat.add_zero, show k * 2 + (ls.length - k) * 2 = ls.length * 2 by omega]
    unfold rowG
    congr 1
    have e1 : flatR plL ls = flatR plL (ls.take k) ++ flatR plL (ls.drop k) := by rw [← flatR_append, List.take_append_drop]
    have e2 : (flatR plL ls ++ rest).drop (ls.length * 2) = rest := List.drop_left' (flatR_len encP ls h.good)
    show (flatR plL ls ++ rest).take (k * 2) ++ _ ++ (flatR plL ls ++ rest).drop (ls.length * 2) = _
    rw [e2, e1, List.append_assoc (flatR plL (ls.take k)), List.take_left' e0, List.append_assoc]
  rw [e] at hst
  obtain ⟨m, hm⟩ : ∃ m, ls.length - k = m + 1 := ⟨ls.length - k - 1, by omega⟩
  rw [hm] at hst hz ⊢
  have hz2 : (Builtin.zeroCells (Value.agg #[.int .u32 0, .int .i64 0]).cells (m + 1)).toList = flatR plL (List.replicate (m + 1) zeroP) := hz
  simp [Builtin.clear_, run_underlying Tryz.underlying28, hz2, hst]

def CompPostP (g cap : Nat) (ls : List Pl) (rest : List Value) (w : World) (e : Ending) (w' : World) : Prop :=
  ∃ ms rest', e = .returned (.slice (some ⟨g, 0, none⟩) ms.length cap) ∧ ms = onceG ls ∧ ms.length ≤ ls.length ∧ RowPl g ms rest' w' ∧ ms.length * 2 + rest'.length = ls.length * 2 + rest.length ∧ w.grownBy w' (some g)

set_option maxRecDepth 100000 in
set_option maxHeartbeats 4000000 in
/-- slices.Compact, at two fingerprints or more. -/
theorem compact_twoP (g cap : Nat) (ls : List Pl) (rest : List Value) (hs : ls.length ≤ 1000000) (h2 : 2 ≤ ls.length) (hc : ls.length ≤ cap) (w : World) (h : RowPl g ls rest w) :
    Calls Tryz.prog 25 #[.slice (some ⟨g, 0, none⟩) ls.length cap] w (CompPostP g cap ls rest w) := by
  obtain ⟨n, hn⟩ : ∃ n, n = ls.length := ⟨_, rfl⟩
  have hv : Value.slice (some ⟨g, 0, none⟩) ls.length cap = .slice (some ⟨g, 0, none⟩) n cap := by rw [hn]
  rw [hv]
  rw [← hn] at hs h2 hc
  clear hv
  have HN := Lib.hid hn
  have HR := Lib.hid h
  have h2' : ¬ (n : Int) < 2 := by omega
  have b2 : decide ((n : Int) < 2) = false := by simpa using h2'
  clear hn h
  go_enter Tryz.func25, Tryz.ntmps25
  go_wp2
  go_loopw [3] (fun x wr => ∃ (k p : Nat), k = p + 1 ∧ k ≤ n ∧ x = .int .i64 k ∧ Hid (onceG (ls.take k) = ls.take k) ∧ Kept w wr) (fun x _ => n - (intOf x).toNat)
  case atStart => exact ⟨1, 0, rfl, by omega, rfl, by
    have : 0 < ls.length := by rw [← HN.out]; omega
    show onceG (ls.take 1) = ls.take 1
    rw [List.take_succ_eq_append_getElem this]
    rfl, Kept.refl w⟩
  case round =>
    obtain ⟨k, p, hkp, hkn, rfl, HO, HK⟩ := hrel
    have HK' := Lib.hid HK
    by_cases hlt : k < n
    · have hkl : k < ls.length := by rw [← HN.out]; exact hlt
      have hpl : p < ls.length := by omega
      have hltz : (k : Int) < (n : Int) := by omega
      have bz : decide ((k : Int) < (n : Int)) = true := by simpa using hltz
      have HG : Hid (wr.heap[g]? = some (.cells (rowG plL ls rest) 35 (0, 0))) := (HR.out.kept HK).row
      have E1 := HR.out.elem encP k hkl
      have E2 := HR.out.elem encP p hpl
      have IX1 := fun w' => idx_pl g 0 n cap k hlt w'
      have IX2 := fun w' => idx_pl g 0 n cap p (by omega) w'
      rw [Nat.zero_add] at IX1 IX2
      have e1 : IntKind.i64.wrap ((k : Int) - 1) = (p : Int) := by simp [IntKind.wrap, IntKind.bits, IntKind.signed]; omega
      have EQ := fun w' => eq_pl ls[k] ls[p] w'
      obtain ⟨X, hX⟩ : ∃ X, X = (plL ls[k]).toArray := ⟨_, rfl⟩
      obtain ⟨Y, hY⟩ : ∃ Y, Y = (plL ls[p]).toArray := ⟨_, rfl⟩
      obtain ⟨b, hb⟩ : ∃ b, b = (ls[k] == ls[p]) := ⟨_, rfl⟩
      rw [← hX] at E1 EQ
      rw [← hY] at E2 EQ
      rw [← hb] at EQ
      have HB := Lib.hid hb
      have hp1 : p + 1 < ls.length := by omega
      have OT := Lib.hid (onceG_take ls p hp1)
      have HKP := Lib.hid hkp
      clear hX hY hb HK hkp
      go_wp2_with fail
      refine wp_region_kept (by kernel_rfl) (by kernel_rfl) ?_
      refine wpQuiet_pure (v := ?_) (by kernel_rfl) ?_ (fun K hK => ?_)
      case refine_2 => intro W _; go_simp; try with_reducible rfl
      go_simp
      refine hK _ ?_; clear hK K
      refine wpQuiet_pure (v := ?_) (by kernel_rfl) ?_ (fun K hK => ?_)
      case refine_2 => intro W _; go_simp; try with_reducible rfl
      go_simp
      refine hK _ ?_; clear hK K
      refine wpQuiet_pure (v := ?_) (by kernel_rfl) ?_ (fun K hK => ?_)
      case refine_2 => intro W _; go_simp; try with_reducible rfl
      go_simp
      refine hK _ ?_; clear hK K
      refine wpQuiet_load_part (by kernel_rfl) _ _ rfl g (k * 2) 2 rfl 35 _ (0, 0) _ (fun _ h => h.row HG.out) Tryz.underlying35 rfl infoPl2 _ E1 (fun K hK => ?_)
      go_simp
      refine hK _ ?_; clear hK K
      refine wpQuiet_pure (v := ?_) (by kernel_rfl) ?_ (fun K hK => ?_)
      case refine_2 => intro W _; go_simp; try with_reducible rfl
      go_simp
      refine hK _ ?_; clear hK K
      refine wpQuiet_pure (v := ?_) (by kernel_rfl) ?_ (fun K hK => ?_)
      case refine_2 => intro W _; go_simp; try with_reducible rfl
      go_simp
      refine hK _ ?_; clear hK K
      refine wpQuiet_pure (v := ?_) (by kernel_rfl) ?_ (fun K hK => ?_)
      case refine_2 => intro W _; go_simp; try with_reducible rfl
      go_simp
      refine hK _ ?_; clear hK K
      refine wpQuiet_pure (v := ?_) (by kernel_rfl) ?_ (fun K hK => ?_)
      case refine_2 => intro W _; go_simp; try with_reducible rfl
      go_simp
      refine hK _ ?_; clear hK K
      refine wpQuiet_load_part (by kernel_rfl) _ _ rfl g (p * 2) 2 rfl 35 _ (0, 0) _ (fun _ h => h.row HG.out) Tryz.underlying35 rfl infoPl2 _ E2 (fun K hK => ?_)
      go_simp
      refine hK _ ?_; clear hK K
      refine wpQuiet_pure (by kernel_rfl) (.bool b) (fun W _ => by go_simp) (fun K hK => ?_)
      go_simp
      refine hK _ ?_; clear hK K
      refine wpQuiet_nil ?_
      intro w2 hk2
      have K2 := HK'.out.then hk2
      cases b with
      | false =>
        go_wp2
        go_roundw
        case rel => exact ⟨k + 1, k, rfl, by omega, by go_num, by
          have h1 := OT.out
          have h2 := HKP.out
          subst h2
          have hne : ¬ ls[p] = ls[p + 1] := fun e => by
            have := HB.out
            rw [e] at this
            simp at this
          rw [if_neg hne] at h1
          show onceG (ls.take (p + 1 + 1)) = ls.take (p + 1 + 1)
          rw [h1, HO.out, ← List.take_succ_eq_append_getElem hkl], K2⟩
        case measure => simp [intOf]; omega
      | true =>
        have RK : RowPl g ls rest w2 := HR.out.kept K2
        have CL := fun w' => cut_loP g 0 n cap k (by omega) (by omega) w'
        rw [Nat.zero_add] at CL
        have HS : Hid (ls.take k = onceG (ls.take (k + 1))) := by
          have h1 := OT.out
          have h2 := HKP.out
          subst h2
          have he : ls[p] = ls[p + 1] := by
            have := HB.out
            have h3 : (ls[p + 1] == ls[p]) = true := this.symm
            exact (eq_of_beq h3).symm
          rw [if_pos he, HO.out] at h1
          exact h1.symm
        have HRK := Lib.hid RK
        have HK2 := Lib.hid K2
        clear IX1 IX2 e1 EQ E1 E2 RK
        go_wp2
        go_loopw [3, 5] (fun x y wq => ∃ (j q r : Nat) (ms : List Pl), q = r + 1 ∧ k + q ≤ n ∧ 1 ≤ j ∧ j ≤ k + r ∧ x = .int .i64 j ∧ y = .int .i64 q ∧ Hid (ms.length = n ∧ ms.drop (k + r) = ls.drop (k + r) ∧ ms.take j = onceG (ls.take (k + q)) ∧ RowPl g ms rest wq) ∧ w.grownBy wq (some g)) (fun _ y _ => n - (intOf y).toNat)
        case atStart => exact ⟨k, 1, 0, ls, rfl, by omega, by have := HKP.out; omega, by omega, rfl, rfl, ⟨HN.out.symm, rfl, HS.out, HRK.out⟩, kept_grownG HK2.out _⟩
        case round =>
          clear HRK HK2 hk2 K2
          obtain ⟨j, q, r, ms, hqr, hqn, hj1, hjr, rfl, rfl, HI, hgr⟩ := hrel
          have hml := HI.out.1
          by_cases hlq : k + q < n
          · have hz1 : (q : Int) < ((n - k : Nat) : Int) := by omega
            have bz1 : decide ((q : Int) < ((n - k : Nat) : Int)) = true := by simpa using hz1
            have hkq : k + q < ms.length := by omega
            have hkr : k + r < ms.length := by omega
            have hkq2 : k + q < ls.length := by rw [← HN.out]; omega
            have hkr2 : k + r < ls.length := by rw [← HN.out]; omega
            have HG : Hid (wr.heap[g]? = some (.cells (rowG plL ms rest) 35 (0, 0))) := HI.out.2.2.2.row
            have E1 := HI.out.2.2.2.elem encP (k + q) hkq
            have E2 := HI.out.2.2.2.elem encP (k + r) hkr
            rw [show (k + q) * 2 = k * 2 + q * 2 by omega] at E1
            rw [show (k + r) * 2 = k * 2 + r * 2 by omega] at E2
            have IX1 := fun w' => idx_pl g (k * 2) (n - k) (cap - k) q (by omega) w'
            have IX2 := fun w' => idx_pl g (k * 2) (n - k) (cap - k) r (by omega) w'
            have e1 : IntKind.i64.wrap ((q : Int) - 1) = (r : Int) := by simp [IntKind.wrap, IntKind.bits, IntKind.signed]; omega
            have EQ := fun w' => eq_pl ms[k + q] ms[k + r] w'
            have hr1 : k + r + 1 < ls.length := by rw [← HN.out]; omega
            have HX : Hid (ms[k + q] = ls[k + r + 1]'hr1 ∧ ms[k + r] = ls[k + r]'hkr2) := by
              have hd := HI.out.2.1
              have g1 := congrArg (fun l => l[1]?) hd
              have g2 := congrArg (fun l => l[0]?) hd
              simp only [List.getElem?_drop] at g1 g2
              have e9 : k + r + 1 = k + q := by omega
              rw [List.getElem?_eq_getElem hr1] at g1
              have g3 : ms[k + q]? = some (ls[k + r + 1]'hr1) := by rw [← e9]; exact g1
              rw [List.getElem?_eq_getElem hkq] at g3
              rw [Nat.add_zero, List.getElem?_eq_getElem hkr, List.getElem?_eq_getElem hkr2] at g2
              exact ⟨Option.some.inj g3, Option.some.inj g2⟩
            have OT := Lib.hid (onceG_take ls (k + r) hr1)
            have HM := Lib.hid (HI.out.2.2.2.good _ (List.getElem_mem hkq))
            obtain ⟨X, hX⟩ : ∃ X, X = (plL ms[k + q]).toArray := ⟨_, rfl⟩
            obtain ⟨Y, hY⟩ : ∃ Y, Y = (plL ms[k + r]).toArray := ⟨_, rfl⟩
            obtain ⟨b, hb⟩ : ∃ b, b = (ms[k + q] == ms[k + r]) := ⟨_, rfl⟩
            rw [← hX] at E1 EQ
            rw [← hY] at E2 EQ
            rw [← hb] at EQ
            have HB := Lib.hid hb
            have HXX := Lib.hid hX
            have HQR := Lib.hid hqr
            have HGR := Lib.hid hgr
            clear hX hY hb hqr hgr
            go_wp2_with fail
            refine wp_region_kept (by kernel_rfl) (by kernel_rfl) ?_
            refine wpQuiet_pure (v := ?_) (by kernel_rfl) ?_ (fun K hK => ?_)
            case refine_2 => intro W _; go_simp; try with_reducible rfl
            go_simp
            refine hK _ ?_; clear hK K
            refine wpQuiet_pure (v := ?_) (by kernel_rfl) ?_ (fun K hK => ?_)
            case refine_2 => intro W _; go_simp; try with_reducible rfl
            go_simp
            refine hK _ ?_; clear hK K
            refine wpQuiet_pure (v := ?_) (by kernel_rfl) ?_ (fun K hK => ?_)
            case refine_2 => intro W _; go_simp; try with_reducible rfl
            go_simp
            refine hK _ ?_; clear hK K
            refine wpQuiet_load_part (by kernel_rfl) _ _ rfl g (k * 2 + q * 2) 2 rfl 35 _ (0, 0) _ (fun _ h => h.row HG.out) Tryz.underlying35 rfl infoPl2 _ E1 (fun K hK => ?_)
            go_simp
            refine hK _ ?_; clear hK K
            refine wpQuiet_pure (v := ?_) (by kernel_rfl) ?_ (fun K hK => ?_)
            case refine_2 => intro W _; go_simp; try with_reducible rfl
            go_simp
            refine hK _ ?_; clear hK K
            refine wpQuiet_pure (v := ?_) (by kernel_rfl) ?_ (fun K hK => ?_)
            case refine_2 => intro W _; go_simp; try with_reducible rfl
            go_simp
            refine hK _ ?_; clear hK K
            refine wpQuiet_pure (v := ?_) (by kernel_rfl) ?_ (fun K hK => ?_)
            case refine_2 => intro W _; go_simp; try with_reducible rfl
            go_simp
            refine hK _ ?_; clear hK K
            refine wpQuiet_pure (v := ?_) (by kernel_rfl) ?_ (fun K hK => ?_)
            case refine_2 => intro W _; go_simp; try with_reducible rfl
            go_simp
            refine hK _ ?_; clear hK K
            refine wpQuiet_load_part (by kernel_rfl) _ _ rfl g (k * 2 + r * 2) 2 rfl 35 _ (0, 0) _ (fun _ h => h.row HG.out) Tryz.underlying35 rfl infoPl2 _ E2 (fun K hK => ?_)
            go_simp
            refine hK _ ?_; clear hK K
            refine wpQuiet_pure (by kernel_rfl) (.bool (!b)) (fun W _ => by go_simp) (fun K hK => ?_)
            go_simp
            refine hK _ ?_; clear hK K
            refine wpQuiet_nil ?_
            intro w2 hk2
            have R2 := HI.out.2.2.2.kept hk2
            have G2 := grown_thenG HGR.out hk2
            cases b with
            | true =>
              clear IX1 IX2 e1 EQ E1 E2
              have HR2 := Lib.hid R2
              have HG2 := Lib.hid G2
              clear R2 G2 HGR
              go_wp2
              go_roundw
              case rel => exact ⟨j, q + 1, q, ms, rfl, by omega, hj1, by have := HQR.out; omega, rfl, by go_num, by
                have h1 := OT.out
                have e9 : k + q = k + r + 1 := by have := HQR.out; omega
                refine ⟨HI.out.1, ?_, ?_, HR2.out⟩
                · have := congrArg (List.drop 1) HI.out.2.1
                  rw [List.drop_drop, List.drop_drop] at this
                  rw [e9]
                  exact this
                · have he : ls[k + r]'hkr2 = ls[k + r + 1]'hr1 := by
                    have h3 := HB.out
                    have h4 : (ms[k + q] == ms[k + r]) = true := h3.symm
                    rw [← HX.out.1, ← HX.out.2]
                    exact (eq_of_beq h4).symm
                  rw [if_pos he] at h1
                  have h5 := HI.out.2.2.1
                  rw [e9] at h5
                  rw [show k + (q + 1) = k + r + 2 by omega, h1]
                  exact h5, HG2.out⟩
              case measure => simp [intOf]; omega
            | false =>
              have R2' := R2.row
              have EJ := R2.elem encP j (by omega)
              have hjn : j < n := by omega
              have IX3 := fun w' => idx_pl g 0 n cap j hjn w'
              rw [Nat.zero_add] at IX3
              have HR2 := Lib.hid R2
              have HG2 := Lib.hid G2
              have HIN := Lib.hid infoPl2
              have HIX : Hid ((Tryz.prog.info? 35).map (·.size) = some X.size) := by rw [HXX.out]; exact infoPl2
              have HX1 : Hid (X.all (·.oneCell') = true) := by rw [HXX.out]; exact pl_one _
              have HFJ : Hid (j * 2 + X.size ≤ (rowG plL ms rest).size) := by rw [HXX.out]; exact EJ.1
              clear IX2 e1 EQ E2 R2 G2 HGR EJ
              go_wp2_with (first
                | (with_reducible refine wpList_load_sub rfl _ _ rfl g (k * 2 + q * 2) 2 rfl 35 _ (0, 0) _ R2' Tryz.underlying35 rfl HIN.out E1.1 X E1.2 ?_)
                | (with_reducible refine wpList_store_sub rfl _ _ _ rfl g (j * 2) X rfl rfl 35 _ R2' HIX.out HFJ.out HX1.out ?_))
              go_roundw
              case rel => exact ⟨j + 1, q + 1, q, ms.set j ms[k + q], rfl, by omega, by omega, by have := HQR.out; omega, by go_num, by go_num, by
                have h1 := OT.out
                have e9 : k + q = k + r + 1 := by have := HQR.out; omega
                have hset := rowG_set encP rest HI.out.2.2.2.good j (by omega) ms[k + q] HM.out
                refine ⟨by rw [List.length_set]; exact HI.out.1, ?_, ?_, ?_⟩
                · have := congrArg (List.drop 1) HI.out.2.1
                  rw [List.drop_drop, List.drop_drop] at this
                  rw [List.drop_set_of_lt (by omega), e9]
                  exact this
                · have hne : ¬ ls[k + r]'hkr2 = ls[k + r + 1]'hr1 := fun e => by
                    have h3 := HB.out
                    have h4 : (ms[k + q] == ms[k + r]) = false := h3.symm
                    rw [HX.out.1, HX.out.2] at h4
                    exact absurd e.symm (by simpa using h4)
                  have h5 := HI.out.2.2.1
                  rw [e9] at h5
                  rw [if_neg hne, ← h5] at h1
                  rw [show k + (q + 1) = k + r + 2 by omega, h1, ← HX.out.1, List.take_succ_eq_append_getElem (by rw [List.length_set]; omega), List.getElem_set_self, List.take_set_of_le (Nat.le_refl _)]
                · rw [HXX.out, hset]
                  exact HR2.out.set (ok_set HI.out.2.2.2.good j _ HM.out), grown_rowG HG2.out _⟩
              case measure => simp [intOf]; omega
          · have hq : k + q = n := by omega
            have hz1 : ¬ (q : Int) < ((n - k : Nat) : Int) := by omega
            have bz1 : decide ((q : Int) < ((n - k : Nat) : Int)) = false := by simpa using hz1
            have CJ := fun w' => cut_loP g 0 n cap j (by omega) (by omega) w'
            have CH := fun w' => cut_hiP g 0 n cap j (by omega) (by omega) w'
            rw [Nat.zero_add] at CJ
            have hjn : j < n := by omega
            have CC := fun ty => clear_pl g n j (cap - j) ms rest wr HI.out.2.2.2 hml (by omega) ty
            have HGR := Lib.hid hgr
            have HQ := Lib.hid hq
            clear hgr CL hml hqr hq
            go_wp2
            go_ret
            refine ⟨ms.take j, flatR plL (List.replicate (n - j) zeroP) ++ rest, ?_, ?_, ?_, ?_, ?_, grown_rowG HGR.out _⟩
            · rw [List.length_take, HI.out.1, Nat.min_eq_left (by omega)]; rfl
            · rw [HI.out.2.2.1, HQ.out, List.take_of_length_le (by rw [← HN.out]; exact Nat.le_refl _)]
            · rw [List.length_take, HI.out.1]; have := HN.out; omega
            · exact HI.out.2.2.2.set (ok_take HI.out.2.2.2.good j)
            · rw [List.length_take, HI.out.1, List.length_append, flatR_len encP _ (fun l hl => by rw [List.eq_of_mem_replicate hl]; exact zeroP_wf), List.length_replicate, Nat.min_eq_left (by omega), Nat.sub_mul]
              have h6 := Nat.mul_le_mul_right 2 (show j ≤ n by omega)
              have h7 := HN.out
              rw [← h7]
              omega
    · obtain rfl : k = n := by omega
      have bz : decide ((k : Int) < (k : Int)) = false := by simp
      clear HK
      go_wp2
      go_ret
      refine ⟨ls, rest, ?_, ?_, Nat.le_refl _, HR.out.kept HK'.out, ?_, kept_grownG HK'.out _⟩
      · rw [← HN.out]; rfl
      · have := HO.out
        rw [List.take_of_length_le (by rw [← HN.out]; exact Nat.le_refl _)] at this
        exact this.symm
      · rfl

end Go.Proofs.YteompckehokdoaaGreatDoor
