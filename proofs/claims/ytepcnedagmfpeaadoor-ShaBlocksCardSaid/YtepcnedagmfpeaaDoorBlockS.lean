/- The walk of Block. -/
import Derived.Test.YtepcnedagmfpeaaDoorText
import Derived.Test.YtepcnedagmfpeaaDoorEq
import Derived.Laws.ResultCell
namespace Go.Proofs.YtepcnedagmfpeaaDoor
open Go.RowKit

def zerosB : Array Value := #[Value.int .u8 0, Value.int .u8 0, Value.int .u8 0, Value.int .u8 0, Value.int .u8 0, Value.int .u8 0, Value.int .u8 0, Value.int .u8 0, Value.int .u8 0, Value.int .u8 0, Value.int .u8 0, Value.int .u8 0, Value.int .u8 0, Value.int .u8 0, Value.int .u8 0, Value.int .u8 0, Value.int .u8 0, Value.int .u8 0, Value.int .u8 0, Value.int .u8 0, Value.int .u8 0, Value.int .u8 0, Value.int .u8 0, Value.int .u8 0, Value.int .u8 0, Value.int .u8 0, Value.int .u8 0, Value.int .u8 0, Value.int .u8 0, Value.int .u8 0, Value.int .u8 0, Value.int .u8 0, Value.int .u8 0, Value.int .u8 0, Value.int .u8 0, Value.int .u8 0, Value.int .u8 0, Value.int .u8 0, Value.int .u8 0, Value.int .u8 0, Value.int .u8 0, Value.int .u8 0, Value.int .u8 0, Value.int .u8 0, Value.int .u8 0, Value.int .u8 0, Value.int .u8 0, Value.int .u8 0, Value.int .u8 0, Value.int .u8 0, Value.int .u8 0, Value.int .u8 0, Value.int .u8 0, Value.int .u8 0, Value.int .u8 0, Value.int .u8 0, Value.int .u8 0, Value.int .u8 0, Value.int .u8 0, Value.int .u8 0, Value.int .u8 0, Value.int .u8 0, Value.int .u8 0, Value.int .u8 0]

theorem zeros8_nu : zeros8 = nuA (List.replicate 8 0) := rfl

theorem results_two {P : Program} {fn : Func} {p u : Tmp} {ty : TypeId} (h : fn.results = #[.cell p ty, .tmp u]) (tmps : Array Value) (w : World) (g : Nat) (t : TypeId) (cs : Array Value) (fr : Nat × Nat) (d : TypeDesc) (v : Value)
    (hp : tmps.getD p undef = .pointer (some ⟨g, 0, none⟩)) (hu2 : tmps.getD u undef = v) (hg : w.heap[g]? = some (.cells cs t fr))
    (hu : P.underlying ty = some d) (hd : (match d with | .struct _ | .array _ _ => true | _ => false) = true) (hi : (P.info? ty).map (·.size) = some cs.size) :
    (results fn tmps).run P w = .ok (.tuple #[.agg cs, v]) w := by
  have hp' : tmps[p]?.getD undef = .pointer (some ⟨g, 0, none⟩) := by simpa using hp
  have hu' : tmps[u]?.getD undef = v := by simpa using hu2
  simp [results, h, hp', hu', asAddr, run_loadVar_row w g t ty cs fr d hg hu hd hi]

set_option maxRecDepth 100000 in
set_option maxHeartbeats 4000000 in
theorem block_any (s : St) (hs : s.lo) (x : ByteArray) (hx : x.size = 64) (w : World) (hT : TabAt w) :
    Calls Tryd.prog 15 #[.agg (nuA s.list), .string x] w fun e w' => e = .returned (.tuple #[.agg (nuA (proc s x.data.toList).list), .int .i64 0]) ∧ Below w.heap.size w w' := by
  obtain ⟨l, rfl⟩ : ∃ l, x = str l := ⟨x.data.toList, (str_data x).symm⟩
  rw [str_list]
  have hl : l.length = 64 := by rw [← str_size l]; exact hx
  have PR := processed_any s hs l hl
  have hAi := infoSt s
  have hBi := infoBk l hl
  have hPi := infoSt (proc s l)
  have hP1 := nuA_one (proc s l).list
  have hPs : (nuA (proc s l).list).size = 8 := by rw [nuA_size]; rfl
  have hfb : firstB (str l) 64 = l.map fun c : UInt8 => Value.int .u8 (c.toNat : Int) := by
    unfold firstB
    rw [str_list, List.take_of_length_le (by omega)]
  obtain ⟨A, hA⟩ : ∃ A, A = nuA s.list := ⟨_, rfl⟩
  obtain ⟨B, hB⟩ : ∃ B, B = byA l := ⟨_, rfl⟩
  obtain ⟨R, hR⟩ : ∃ R, R = nuA (proc s l).list := ⟨_, rfl⟩
  have hlay : ∀ Y : Array Value, Y.size = 64 → laidOver Y 0 (firstB (str l) 64) = B := fun Y hY => by
    rw [hfb, hB]
    apply Array.ext'
    simp only [laidOver, byA, List.take_zero, List.nil_append, Nat.zero_add, List.length_map, hl]
    rw [List.drop_of_length_le (by rw [Array.length_toList, hY]; omega), List.append_nil]
  rw [← hA] at PR hAi ⊢
  rw [← hB] at PR hBi
  rw [← hR] at PR hPi hP1 hPs ⊢
  have HAI := Lib.hid hAi
  have HBI := Lib.hid hBi
  have HPI := Lib.hid hPi
  have HP1 := Lib.hid hP1
  have HPS := Lib.hid hPs
  have HLAY := Lib.hid hlay
  have HX : Hid (Nat.min (str l).size 64 = 64) := by
    have : Nat.min (str l).size 64 = 64 := by rw [hx]; rfl
    exact this
  clear hl hAi hBi hPi hP1 hPs hfb hA hB hR hlay
  have hG : (((w.alloc (.cells A 39)).alloc (.cells zeros8 39)).alloc (.cells zerosB 51)).heap[w.heap.size + 1 + 1]? = some (.cells zerosB 51 (0, 0)) := by
    have := heap_alloc2_new (w.alloc (.cells A 39)) (.cells zeros8 39) (.cells zerosB 51)
    simpa using this
  have hY : laidOver zerosB 0 (firstB (str l) 64) = B := HLAY.out zerosB rfl
  have hZf : 0 + 64 ≤ zerosB.size := Nat.le_refl 64
  obtain ⟨W3, hW3⟩ : ∃ W3, W3 = (((w.alloc (.cells A 39)).alloc (.cells zeros8 39)).alloc (.cells zerosB 51)).setRow (w.heap.size + 1 + 1) B := ⟨_, rfl⟩
  have K3 : Below w.heap.size w W3 := by
    rw [hW3]
    exact below_setRow ((((Below.refl _ _).alloc (Nat.le_refl _) _).alloc (by simp) _).alloc (by simp; omega) _) (by omega) _
  have a3 : W3.heap[w.heap.size]? = some (.cells A 39 (0, 0)) := by
    rw [hW3, setRow_other _ _ _ _ (by omega), Below.heap_alloc _ _ _ (by simp; omega)]; exact heap_alloc2_old w _ _
  have z3 : W3.heap[w.heap.size + 1]? = some (.cells zeros8 39 (0, 0)) := by
    rw [hW3, setRow_other _ _ _ _ (by omega), Below.heap_alloc _ _ _ (by simp)]; exact heap_alloc2_new w _ _
  have b3 : W3.heap[w.heap.size + 1 + 1]? = some (.cells B 51 (0, 0)) := by
    rw [hW3]; exact setRow_heap _ _ _ _ _ _ hG
  have hz8 : zeros8.size = R.size := by rw [HPS.out]; rfl
  unfold zeros8 zerosB at hG hW3
  unfold zerosB at hY hZf
  obtain ⟨Z8, hZ8⟩ : ∃ Z8, Z8 = zeros8 := ⟨_, rfl⟩
  rw [← hZ8] at z3 hz8
  have HG := Lib.hid hG
  have HY := Lib.hid hY
  have HZF := Lib.hid hZf
  have HW3 := Lib.hid hW3
  have HZ8 := Lib.hid hz8
  clear hG hY hZf hW3 hz8 hZ8
  go_enter Tryd.func15, Tryd.ntmps15
  go_wp2_with (first
    | ((with_reducible refine wpList_copy_str rfl _ _ _ _ rfl 5 Tryd.underlying60 infoU8 (w.heap.size + 1 + 1) 0 64 64 (str l) rfl rfl _ 51 HG.out 64 HX.out HZF.out B HY.out ?_); rw [← HW3.out])
    | (with_reducible refine wpList_load_row rfl _ _ rfl w.heap.size rfl 39 A (0, 0) _ a3 Tryd.underlying39 rfl HAI.out ?_)
    | (with_reducible refine wpList_load_row rfl _ _ rfl (w.heap.size + 1 + 1) rfl 51 B (0, 0) _ b3 Tryd.underlying51 rfl HBI.out ?_))
  refine (PR _ (hT.later K3)).mono ?_
  rintro e w4 ⟨rfl, hb4⟩
  have K4 := Below.then' K3 hb4 K3.size
  have z4 := (hb4.block _ (Array.getElem?_eq_some_iff.1 z3).1).trans z3
  clear hb4 a3 z3 b3 K3
  go_wp2_with (with_reducible refine wpList_store_row rfl _ _ _ rfl (w.heap.size + 1) R rfl rfl 39 Z8 z4 HPI.out HZ8.out HP1.out ?_)
  refine bodyPost_ret (results_two Tryd.results15 _ _ (w.heap.size + 1) 39 R (0, 0) _ (.int .i64 0) rfl rfl (setRow_heap _ _ _ _ _ _ z4) Tryd.underlying39 rfl HPI.out) rfl ⟨rfl, ?_⟩
  exact below_setRow K4 (by omega) _

theorem built_st : Tryd.prog.built 39 [] = some (nuA (List.replicate 8 0)) := by kernel_rfl

set_option maxRecDepth 100000 in
theorem block_no (s : St) (x : ByteArray) (hx : x.size ≠ 64) (_hxm : x.size ≤ maxLen) (w : World) :
    Calls Tryd.prog 15 #[.agg (nuA s.list), .string x] w fun e w' => e = .returned (.tuple #[.agg (nuA (List.replicate 8 0)), .int .i64 1]) ∧ Below w.heap.size w w' := by
  unfold maxLen at _hxm
  have hx' : (x.size : Int) ≠ 64 := by omega
  have hAi := infoSt s
  obtain ⟨A, hA⟩ : ∃ A, A = nuA s.list := ⟨_, rfl⟩
  have hDi : (Tryd.prog.info? 39).map (·.size) = some (nuA (List.replicate 8 0)).size := infoS8
  have hD1 := nuA_one (List.replicate 8 0)
  have hb := built_st
  obtain ⟨D, hD⟩ : ∃ D, D = nuA (List.replicate 8 0) := ⟨_, rfl⟩
  have hz : zeros8 = D := by rw [hD]; rfl
  rw [← hA] at hAi ⊢
  rw [← hD] at hDi hD1 hb ⊢
  have hG : ((w.alloc (.cells A 39)).alloc (.cells zeros8 39)).heap[w.heap.size + 1]? = some (.cells zeros8 39 (0, 0)) := heap_alloc2_new w _ _
  have hsz : zeros8.size = D.size := by rw [hz]
  have HDI := Lib.hid hDi
  have HD1 := Lib.hid hD1
  have HB := Lib.hid hb
  unfold zeros8 at hG hsz
  have HG := Lib.hid hG
  have HSZ := Lib.hid hsz
  clear hA hD hz hAi hDi hD1 hb hG hsz
  go_enter Tryd.func15, Tryd.ntmps15
  go_wp2_with (first
    | (with_reducible refine wpList_built rfl _ _ rfl [] ?p D HB.out ?_)
    | (with_reducible refine wpList_store_row rfl _ _ _ rfl (w.heap.size + 1) D rfl rfl 39 _ HG.out HDI.out HSZ.out HD1.out ?_))
  refine bodyPost_ret (results_two Tryd.results15 _ _ (w.heap.size + 1) 39 D (0, 0) _ (.int .i64 1) rfl rfl (setRow_heap _ _ _ _ _ _ HG.out) Tryd.underlying39 rfl HDI.out) rfl ⟨rfl, ?_⟩
  exact below_setRow (((Below.refl _ _).alloc (Nat.le_refl _) _).alloc (by simp) _) (by omega) _

end Go.Proofs.YtepcnedagmfpeaaDoor
