/- The statements' own example: the walk of awake. -/
import Derived.Test.YthgjooacapodnaaHkY
import Derived.BigFrame
namespace Go.Proofs.Ythgjooacapodnaa
open Go.RowKit

/-- The load of a whole row, behind whatever guard holds. -/
theorem wpList_load_rowK {P : Program} {ops : Array Oper} {rest : List Oper} {o : Oper} {a : Act} {w : World} {Q : Exit → Act → World → Prop} (hw : Region.wanted o (yielded ops a.tmps) = true) (ty : TypeId) (x : Operand) (ho : o.op = .load ty x)
    (g : Nat) (hx : a.eval x = .pointer (some ⟨g, 0, none⟩)) (t : TypeId) (cs : Array Value) (fr : Nat × Nat) (d : TypeDesc) (hg : w.heap[g]? = some (.cells cs t fr))
    (hu : P.underlying ty = some d) (hd : (match d with | .struct _ | .array _ _ => true | _ => false) = true) (hi : (P.info? ty).map (·.size) = some cs.size)
    (h : ∀ K : Act → World → Prop, (∀ a w, wpList P ops Q rest a w → K a w) → K (a.put o.dst (.agg cs)) w) : wpList P ops Q (o :: rest) a w :=
  BigFrame.wpList_want hw fun K hK => wp_load_row ty x ho g hx t cs fr d hg hu hd hi (h K hK)

theorem wpList_build2K {ops : Array Oper} {rest : List Oper} {o : Oper} {a : Act} {w : World} {Q : Exit → Act → World → Prop} (hw : Region.wanted o (yielded ops a.tmps) = true) (x y : Operand) (ho : o.op = .buildSlice 37 2 #[(0, x), (1, y)]) (X Y : Array Value) (hx : a.eval x = .agg X) (hy : a.eval y = .agg Y) (hX : X.size = 32) (hY : Y.size = 32)
    (h : ∀ K : Act → World → Prop, (∀ a w, wpList Try.prog ops Q rest a w → K a w) → K (a.put o.dst (.slice (some ⟨w.heap.size, 0, none⟩) 2 2)) (w.alloc (.cells (X ++ Y) 23))) : wpList Try.prog ops Q (o :: rest) a w := by
  obtain ⟨i, hi, h1, h2, z, hz, hzs⟩ := info_fp
  refine BigFrame.wpList_want hw fun K hK => wp_buildSlice 37 23 2 _ ho (X ++ Y) i z Try.underlying37 hi hz (by rw [h1]; decide) (by rw [h1]; decide) ?_ (h K hK)
  rw [h1]
  have e : (#[(0, x), (1, y)].map fun (p : Nat × Operand) => (p.1, a.eval p.2)).toList = [(0, Value.agg X), (1, Value.agg Y)] := by simp [hx, hy]
  refine (congrArg _ e).trans (fill_two X Y _ hX hY (by simp))

theorem fps_two (w : World) (l m : List UInt8) (hl : l.length = 32) (hm : m.length = 32) (c : Nat) : FpsAt 32 [l, m] (.slice (some ⟨w.heap.size, 0, none⟩) 2 c) (w.alloc (.cells (fpA l ++ fpA m) 23)) := by
  have h : RowAt w.heap.size [l, m] [] (w.alloc (.cells (fpA l ++ fpA m) 23)) := ⟨(fun x hx => by
    rcases List.mem_cons.1 hx with e | e
    · rw [e]; exact hl
    · rw [List.mem_singleton.1 e]; exact hm), by
    rw [heap_alloc_new]
    have e : rowA [l, m] [] = fpA l ++ fpA m := by
      apply Array.toList_inj.1
      simp [rowA, flatL]
    rw [e]⟩
  exact h.fps

/-- Parse of Text. -/
theorem parse_text (l : List UInt8) (hl : l.length = 32) (w : World) :
    Calls Try.prog 9 #[.string (str (hexL l))] w fun e w' => e = .returned (.tuple #[.agg (fpA l), .int .i64 0]) ∧ Below w.heap.size w w' := by
  refine (parse_any (str (hexL l)) (by rw [str_size, hexL_len, hl]; decide) w).mono ?_
  rintro e w' ⟨h, hb⟩
  have hp : parseL (str (hexL l)).data.toList = some l := by
    rw [str_list]
    unfold parseL
    rw [if_pos (by rw [hexL_len, hl]), unhex_hexL]
  rcases h with ⟨r, hr, he⟩ | ⟨hr, _⟩
  · rw [hp] at hr
    cases hr
    exact ⟨he, hb⟩
  · rw [hp] at hr
    cases hr

def fE : List UInt8 := 0 :: 32 :: List.replicate 30 0
def fN : List UInt8 := 0 :: 0 :: 1 :: 2 :: List.replicate 28 0
theorem fE_cells : fpA fE = #[.int .u8 0, .int .u8 32, .int .u8 0, .int .u8 0, .int .u8 0, .int .u8 0, .int .u8 0, .int .u8 0, .int .u8 0, .int .u8 0, .int .u8 0, .int .u8 0, .int .u8 0, .int .u8 0, .int .u8 0, .int .u8 0, .int .u8 0, .int .u8 0, .int .u8 0, .int .u8 0, .int .u8 0, .int .u8 0, .int .u8 0, .int .u8 0, .int .u8 0, .int .u8 0, .int .u8 0, .int .u8 0, .int .u8 0, .int .u8 0, .int .u8 0, .int .u8 0] := rfl
theorem fN_cells : fpA fN = #[.int .u8 0, .int .u8 0, .int .u8 1, .int .u8 2, .int .u8 0, .int .u8 0, .int .u8 0, .int .u8 0, .int .u8 0, .int .u8 0, .int .u8 0, .int .u8 0, .int .u8 0, .int .u8 0, .int .u8 0, .int .u8 0, .int .u8 0, .int .u8 0, .int .u8 0, .int .u8 0, .int .u8 0, .int .u8 0, .int .u8 0, .int .u8 0, .int .u8 0, .int .u8 0, .int .u8 0, .int .u8 0, .int .u8 0, .int .u8 0, .int .u8 0, .int .u8 0] := rfl
theorem fE_zeros : zerosB fE = 10 := by decide +kernel
theorem fE_is10 : hookB fE 10 = true := by unfold hookB; rw [fE_zeros]; decide
theorem fE_is11 : hookB fE 11 = false := by unfold hookB; rw [fE_zeros]; decide
theorem fN_num : numL fN = 258 := by decide +kernel
theorem fE_less : ltB zeroL fE = true := by decide +kernel
theorem fE_set : (setL [fE, fE]).length = 1 := by decide +kernel

set_option maxRecDepth 100000 in
set_option maxHeartbeats 8000000 in
theorem awake_any (w : World) : Calls Try.prog 13 #[] w (LawPost w) := by
  have TX := fun W => text_any fE rfl W
  have PA := fun W => parse_text fE rfl W
  have ZE := fun W => zeros_any fE rfl W
  have I10 := fun W => is_any fE rfl 10 W
  have I11 := fun W => is_any fE rfl 11 W
  have NU := fun W => num_any fN rfl W
  have LE := fun W => less_any zeroL fE rfl rfl W
  have EQ := fun W => eq_fp fE fE rfl rfl W
  have SE := fun W => set_any (.slice (some ⟨W.heap.size, 0, none⟩) 2 2) [fE, fE] (by decide) _ (fps_two W fE fE rfl rfl 2)
  have beqE : (fE == fE) = true := by simp
  have HI : Hid ((Try.prog.info? 23).map (·.size) = some (fpA fE).size) := fp_info fE rfl
  have H1 : Hid ((fpA fE).all (·.oneCell') = true) := fpA_one fE
  rw [beqE] at EQ
  rw [fE_zeros] at ZE
  rw [fE_is10] at I10
  rw [fE_is11] at I11
  rw [fN_num] at NU
  rw [fE_less] at LE
  rw [fE_cells] at TX PA ZE I10 I11 LE EQ SE HI H1
  rw [fN_cells] at NU
  rw [zeroL_cells] at LE
  obtain ⟨sx, hsx⟩ : ∃ s, s = str (hexL fE) := ⟨_, rfl⟩
  rw [← hsx] at TX PA
  clear beqE hsx
  have HSE : Hid (∀ W : World, Calls Try.prog 22 #[.slice (some ⟨W.heap.size, 0, none⟩) 2 2] (W.alloc (.cells (#[.int .u8 0, .int .u8 32, .int .u8 0, .int .u8 0, .int .u8 0, .int .u8 0, .int .u8 0, .int .u8 0, .int .u8 0, .int .u8 0, .int .u8 0, .int .u8 0, .int .u8 0, .int .u8 0, .int .u8 0, .int .u8 0, .int .u8 0, .int .u8 0, .int .u8 0, .int .u8 0, .int .u8 0, .int .u8 0, .int .u8 0, .int .u8 0, .int .u8 0, .int .u8 0, .int .u8 0, .int .u8 0, .int .u8 0, .int .u8 0, .int .u8 0, .int .u8 0] ++ #[.int .u8 0, .int .u8 32, .int .u8 0, .int .u8 0, .int .u8 0, .int .u8 0, .int .u8 0, .int .u8 0, .int .u8 0, .int .u8 0, .int .u8 0, .int .u8 0, .int .u8 0, .int .u8 0, .int .u8 0, .int .u8 0, .int .u8 0, .int .u8 0, .int .u8 0, .int .u8 0, .int .u8 0, .int .u8 0, .int .u8 0, .int .u8 0, .int .u8 0, .int .u8 0, .int .u8 0, .int .u8 0, .int .u8 0, .int .u8 0, .int .u8 0, .int .u8 0]) 23)) fun e w' => ∃ v', e = .returned v' ∧ OwnFps (W.alloc (.cells (#[.int .u8 0, .int .u8 32, .int .u8 0, .int .u8 0, .int .u8 0, .int .u8 0, .int .u8 0, .int .u8 0, .int .u8 0, .int .u8 0, .int .u8 0, .int .u8 0, .int .u8 0, .int .u8 0, .int .u8 0, .int .u8 0, .int .u8 0, .int .u8 0, .int .u8 0, .int .u8 0, .int .u8 0, .int .u8 0, .int .u8 0, .int .u8 0, .int .u8 0, .int .u8 0, .int .u8 0, .int .u8 0, .int .u8 0, .int .u8 0, .int .u8 0, .int .u8 0] ++ #[.int .u8 0, .int .u8 32, .int .u8 0, .int .u8 0, .int .u8 0, .int .u8 0, .int .u8 0, .int .u8 0, .int .u8 0, .int .u8 0, .int .u8 0, .int .u8 0, .int .u8 0, .int .u8 0, .int .u8 0, .int .u8 0, .int .u8 0, .int .u8 0, .int .u8 0, .int .u8 0, .int .u8 0, .int .u8 0, .int .u8 0, .int .u8 0, .int .u8 0, .int .u8 0, .int .u8 0, .int .u8 0, .int .u8 0, .int .u8 0, .int .u8 0, .int .u8 0]) 23)).heap.size (setL [fE, fE]) v' w' ∧ Below (W.alloc (.cells (#[.int .u8 0, .int .u8 32, .int .u8 0, .int .u8 0, .int .u8 0, .int .u8 0, .int .u8 0, .int .u8 0, .int .u8 0, .int .u8 0, .int .u8 0, .int .u8 0, .int .u8 0, .int .u8 0, .int .u8 0, .int .u8 0, .int .u8 0, .int .u8 0, .int .u8 0, .int .u8 0, .int .u8 0, .int .u8 0, .int .u8 0, .int .u8 0, .int .u8 0, .int .u8 0, .int .u8 0, .int .u8 0, .int .u8 0, .int .u8 0, .int .u8 0, .int .u8 0] ++ #[.int .u8 0, .int .u8 32, .int .u8 0, .int .u8 0, .int .u8 0, .int .u8 0, .int .u8 0, .int .u8 0, .int .u8 0, .int .u8 0, .int .u8 0, .int .u8 0, .int .u8 0, .int .u8 0, .int .u8 0, .int .u8 0, .int .u8 0, .int .u8 0, .int .u8 0, .int .u8 0, .int .u8 0, .int .u8 0, .int .u8 0, .int .u8 0, .int .u8 0, .int .u8 0, .int .u8 0, .int .u8 0, .int .u8 0, .int .u8 0, .int .u8 0, .int .u8 0]) 23)).heap.size (W.alloc (.cells (#[.int .u8 0, .int .u8 32, .int .u8 0, .int .u8 0, .int .u8 0, .int .u8 0, .int .u8 0, .int .u8 0, .int .u8 0, .int .u8 0, .int .u8 0, .int .u8 0, .int .u8 0, .int .u8 0, .int .u8 0, .int .u8 0, .int .u8 0, .int .u8 0, .int .u8 0, .int .u8 0, .int .u8 0, .int .u8 0, .int .u8 0, .int .u8 0, .int .u8 0, .int .u8 0, .int .u8 0, .int .u8 0, .int .u8 0, .int .u8 0, .int .u8 0, .int .u8 0] ++ #[.int .u8 0, .int .u8 32, .int .u8 0, .int .u8 0, .int .u8 0, .int .u8 0, .int .u8 0, .int .u8 0, .int .u8 0, .int .u8 0, .int .u8 0, .int .u8 0, .int .u8 0, .int .u8 0, .int .u8 0, .int .u8 0, .int .u8 0, .int .u8 0, .int .u8 0, .int .u8 0, .int .u8 0, .int .u8 0, .int .u8 0, .int .u8 0, .int .u8 0, .int .u8 0, .int .u8 0, .int .u8 0, .int .u8 0, .int .u8 0, .int .u8 0, .int .u8 0]) 23)) w') := Lib.hid SE
  clear SE
  go_enter Try.func13, Try.ntmps13
  go_wp2_with (first
    | ((with_reducible refine wpList_store_row rfl _ _ _ rfl w.heap.size #[.int .u8 0, .int .u8 32, .int .u8 0, .int .u8 0, .int .u8 0, .int .u8 0, .int .u8 0, .int .u8 0, .int .u8 0, .int .u8 0, .int .u8 0, .int .u8 0, .int .u8 0, .int .u8 0, .int .u8 0, .int .u8 0, .int .u8 0, .int .u8 0, .int .u8 0, .int .u8 0, .int .u8 0, .int .u8 0, .int .u8 0, .int .u8 0, .int .u8 0, .int .u8 0, .int .u8 0, .int .u8 0, .int .u8 0, .int .u8 0, .int .u8 0, .int .u8 0] rfl rfl 23 _ (heap_alloc_last w _) HI.out ?_ H1.out ?_); (· rfl); rw [World.setRow_alloc_new])
    | (with_reducible refine wpList_load_row rfl _ _ rfl w.heap.size rfl 23 #[.int .u8 0, .int .u8 32, .int .u8 0, .int .u8 0, .int .u8 0, .int .u8 0, .int .u8 0, .int .u8 0, .int .u8 0, .int .u8 0, .int .u8 0, .int .u8 0, .int .u8 0, .int .u8 0, .int .u8 0, .int .u8 0, .int .u8 0, .int .u8 0, .int .u8 0, .int .u8 0, .int .u8 0, .int .u8 0, .int .u8 0, .int .u8 0, .int .u8 0, .int .u8 0, .int .u8 0, .int .u8 0, .int .u8 0, .int .u8 0, .int .u8 0, .int .u8 0] (0, 0) _ (heap_alloc_last w _) Try.underlying23 rfl HI.out ?_))
  obtain ⟨F, hF⟩ : ∃ F, F = (#[.int .u8 0, .int .u8 32, .int .u8 0, .int .u8 0, .int .u8 0, .int .u8 0, .int .u8 0, .int .u8 0, .int .u8 0, .int .u8 0, .int .u8 0, .int .u8 0, .int .u8 0, .int .u8 0, .int .u8 0, .int .u8 0, .int .u8 0, .int .u8 0, .int .u8 0, .int .u8 0, .int .u8 0, .int .u8 0, .int .u8 0, .int .u8 0, .int .u8 0, .int .u8 0, .int .u8 0, .int .u8 0, .int .u8 0, .int .u8 0, .int .u8 0, .int .u8 0] : Array Value) := ⟨_, rfl⟩
  rw [← hF] at TX PA ZE I10 I11 LE EQ HSE HI H1 ⊢
  have HFS : Hid (F.size = 32) := by rw [hF]; rfl
  have gF0 := heap_alloc_last w (.cells F 23)
  have KA : Below w.heap.size w (w.alloc (.cells F 23)) := (Below.refl _ _).alloc (Nat.le_refl _) _
  clear hF
  refine (TX _).mono ?_
  rintro e w1 ⟨rfl, hb1⟩
  have gF1 : w1.heap[w.heap.size]? = some (.cells F 23 (0, 0)) := (hb1.block _ (Array.getElem?_eq_some_iff.1 gF0).1).trans gF0
  have K1 := Below.then' KA hb1 KA.size
  clear hb1 KA TX gF0
  go_wp2_with fail
  refine (PA _).mono ?_
  rintro e w2 ⟨rfl, hb2⟩
  have gF2 : w2.heap[w.heap.size]? = some (.cells F 23 (0, 0)) := (hb2.block _ (Array.getElem?_eq_some_iff.1 gF1).1).trans gF1
  have K2 := Below.then' K1 hb2 K1.size
  obtain ⟨b2, hb2e⟩ : ∃ b, b = w2.heap.size := ⟨_, rfl⟩
  have gF : (w2.alloc (.cells F 23)).heap[w.heap.size]? = some (.cells F 23 (0, 0)) := by rw [heap_alloc_old w2 _ (Array.getElem?_eq_some_iff.1 gF2).1]; exact gF2
  have gG : (w2.alloc (.cells F 23)).heap[b2]? = some (.cells F 23 (0, 0)) := by rw [hb2e]; exact heap_alloc_new w2 _
  have HG : Hid (∀ W : World, Below (w2.alloc (.cells F 23)).heap.size (w2.alloc (.cells F 23)) W → W.heap[w.heap.size]? = some (.cells F 23 (0, 0)) ∧ W.heap[b2]? = some (.cells F 23 (0, 0))) := fun W h =>
    ⟨(h.block _ (Array.getElem?_eq_some_iff.1 gF).1).trans gF, (h.block _ (Array.getElem?_eq_some_iff.1 gG).1).trans gG⟩
  have HK2 : Hid (Below w.heap.size w (w2.alloc (.cells F 23))) := K2.alloc K2.size _
  have KG2 := Below.refl (w2.alloc (.cells F 23)).heap.size (w2.alloc (.cells F 23))
  have HST := Lib.hid hb2e
  clear hb2 K1 K2 PA gF1 gF2
  rw [hb2e] at gG
  go_wp2_with (first
    | (with_reducible refine wpList_load_row rfl _ _ rfl w.heap.size rfl 23 F (0, 0) _ gF Try.underlying23 rfl HI.out ?_)
    | (with_reducible refine wpList_load_row rfl _ _ rfl w2.heap.size rfl 23 F (0, 0) _ gG Try.underlying23 rfl HI.out ?_)
    | ((with_reducible refine wpList_store_row rfl _ _ _ rfl w2.heap.size F rfl rfl 23 _ (heap_alloc_last w2 _) HI.out ?_ H1.out ?_); (· rw [HFS.out]; rfl); rw [World.setRow_alloc_new]))
  refine (ZE _).mono ?_
  rintro e w3 ⟨rfl, hb3⟩
  rw [hb2e] at HG
  clear hb2e
  have KG3 := Below.then' KG2 hb3 KG2.size
  have gF := (HG.out _ KG3).1
  have gG := (HG.out _ KG3).2
  clear KG2 hb3
  rename_i hK3
  refine hK3 _ _ ?_
  clear hK3
  refine BigFrame.wpList_want (by kernel_rfl) (fun K hK => ?_)
  go_simp
  refine hK _ _ ?_; clear hK K
  refine BigFrame.wpList_want (by kernel_rfl) (fun K hK => ?_)
  go_simp
  refine hK _ _ ?_; clear hK K
  refine wpList_load_rowK (by kernel_rfl) _ _ rfl w.heap.size rfl 23 F (0, 0) _ gF Try.underlying23 rfl HI.out (fun K hK => ?_)
  go_simp
  refine hK _ _ ?_; clear hK K
  refine BigFrame.wpList_want (by kernel_rfl) (fun K hK => ?_)
  go_simp
  refine (I10 _).mono ?_
  rintro e w4 ⟨rfl, hb4⟩
  have KG4 := Below.then' KG3 hb4 KG3.size
  have gF := (HG.out _ KG4).1
  have gG := (HG.out _ KG4).2
  clear KG3 hb4
  refine hK _ _ ?_; clear hK K
  refine BigFrame.wpList_want (by kernel_rfl) (fun K hK => ?_)
  go_simp
  refine hK _ _ ?_; clear hK K
  refine BigFrame.wpList_want (by kernel_rfl) (fun K hK => ?_)
  go_simp
  refine hK _ _ ?_; clear hK K
  refine wpList_load_rowK (by kernel_rfl) _ _ rfl w.heap.size rfl 23 F (0, 0) _ gF Try.underlying23 rfl HI.out (fun K hK => ?_)
  go_simp
  refine hK _ _ ?_; clear hK K
  refine BigFrame.wpList_want (by kernel_rfl) (fun K hK => ?_)
  go_simp
  refine (I11 _).mono ?_
  rintro e w5 ⟨rfl, hb5⟩
  have KG5 := Below.then' KG4 hb5 KG4.size
  have gF := (HG.out _ KG5).1
  have gG := (HG.out _ KG5).2
  clear KG4 hb5
  refine hK _ _ ?_; clear hK K
  refine BigFrame.wpList_want (by kernel_rfl) (fun K hK => ?_)
  go_simp
  refine hK _ _ ?_; clear hK K
  refine BigFrame.wpList_want (by kernel_rfl) (fun K hK => ?_)
  go_simp
  refine hK _ _ ?_; clear hK K
  refine BigFrame.wpList_want (by kernel_rfl) (fun K hK => ?_)
  go_simp
  refine hK _ _ ?_; clear hK K
  refine BigFrame.wpList_want (by kernel_rfl) (fun K hK => ?_)
  go_simp
  refine hK _ _ ?_; clear hK K
  refine BigFrame.wpList_want (by kernel_rfl) (fun K hK => ?_)
  go_simp
  refine (NU _).mono ?_
  rintro e w6 ⟨rfl, hb6⟩
  have KG6 := Below.then' KG5 hb6 KG5.size
  have gF := (HG.out _ KG6).1
  have gG := (HG.out _ KG6).2
  clear KG5 hb6
  refine hK _ _ ?_; clear hK K
  refine BigFrame.wpList_want (by kernel_rfl) (fun K hK => ?_)
  go_simp
  refine hK _ _ ?_; clear hK K
  refine BigFrame.wpList_want (by kernel_rfl) (fun K hK => ?_)
  go_simp
  refine hK _ _ ?_; clear hK K
  refine BigFrame.wpList_want (by kernel_rfl) (fun K hK => ?_)
  go_simp
  refine hK _ _ ?_; clear hK K
  refine BigFrame.wpList_want (by kernel_rfl) (fun K hK => ?_)
  go_simp
  refine hK _ _ ?_; clear hK K
  refine BigFrame.wpList_want (by kernel_rfl) (fun K hK => ?_)
  go_simp
  refine hK _ _ ?_; clear hK K
  refine BigFrame.wpList_want (by kernel_rfl) (fun K hK => ?_)
  go_simp
  refine hK _ _ ?_; clear hK K
  refine BigFrame.wpList_want (by kernel_rfl) (fun K hK => ?_)
  go_simp
  refine hK _ _ ?_; clear hK K
  refine wpList_load_rowK (by kernel_rfl) _ _ rfl w2.heap.size rfl 23 F (0, 0) _ gG Try.underlying23 rfl HI.out (fun K hK => ?_)
  go_simp
  refine hK _ _ ?_; clear hK K
  refine wpList_load_rowK (by kernel_rfl) _ _ rfl w.heap.size rfl 23 F (0, 0) _ gF Try.underlying23 rfl HI.out (fun K hK => ?_)
  go_simp
  refine hK _ _ ?_; clear hK K
  refine BigFrame.wpList_want (by kernel_rfl) (fun K hK => ?_)
  go_simp
  refine hK _ _ ?_; clear hK K
  refine BigFrame.wpList_want (by kernel_rfl) (fun K hK => ?_)
  go_simp
  refine hK _ _ ?_; clear hK K
  refine BigFrame.wpList_want (by kernel_rfl) (fun K hK => ?_)
  go_simp
  refine hK _ _ ?_; clear hK K
  refine BigFrame.wpList_want (by kernel_rfl) (fun K hK => ?_)
  go_simp
  refine hK _ _ ?_; clear hK K
  refine wpList_load_rowK (by kernel_rfl) _ _ rfl w.heap.size rfl 23 F (0, 0) _ gF Try.underlying23 rfl HI.out (fun K hK => ?_)
  go_simp
  refine hK _ _ ?_; clear hK K
  refine BigFrame.wpList_want (by kernel_rfl) (fun K hK => ?_)
  go_simp
  refine (LE _).mono ?_
  rintro e w7 ⟨rfl, hb7⟩
  have KG7 := Below.then' KG6 hb7 KG6.size
  have gF := (HG.out _ KG7).1
  have gG := (HG.out _ KG7).2
  clear KG6 hb7
  refine hK _ _ ?_; clear hK K
  refine BigFrame.wpList_want (by kernel_rfl) (fun K hK => ?_)
  go_simp
  refine hK _ _ ?_; clear hK K
  refine BigFrame.wpList_want (by kernel_rfl) (fun K hK => ?_)
  go_simp
  refine hK _ _ ?_; clear hK K
  refine wpList_load_rowK (by kernel_rfl) _ _ rfl w.heap.size rfl 23 F (0, 0) _ gF Try.underlying23 rfl HI.out (fun K hK => ?_)
  go_simp
  refine hK _ _ ?_; clear hK K
  refine wpList_load_rowK (by kernel_rfl) _ _ rfl w.heap.size rfl 23 F (0, 0) _ gF Try.underlying23 rfl HI.out (fun K hK => ?_)
  go_simp
  refine hK _ _ ?_; clear hK K
  refine wpList_build2K (by kernel_rfl) _ _ rfl F F rfl rfl HFS.out HFS.out (fun K hK => ?_)
  go_simp
  refine hK _ _ ?_; clear hK K
  refine BigFrame.wpList_want (by kernel_rfl) (fun K hK => ?_)
  go_simp
  refine (HSE.out _).mono ?_
  rintro e w8 ⟨v, rfl, ho, hb8⟩
  obtain ⟨p, c, hv, -⟩ := ho.fps.2
  rw [fE_set] at hv
  subst hv
  have KG8 := Below.then' (KG7.alloc KG7.size _) hb8 (by have := KG7.size; simp only [World.size_alloc] at *; omega)
  clear KG7 ho hb8
  refine hK _ _ ?_; clear hK K
  refine BigFrame.wpList_want (by kernel_rfl) (fun K hK => ?_)
  go_simp
  refine hK _ _ ?_; clear hK K
  refine BigFrame.wpList_want (by kernel_rfl) (fun K hK => ?_)
  go_simp
  refine hK _ _ ?_; clear hK K
  refine BigFrame.wpList_want (by kernel_rfl) (fun K hK => ?_)
  go_simp
  refine hK _ _ ?_; clear hK K
  go_wp2
  go_ret
  exact ⟨rfl, Below.then' HK2.out KG8 HK2.out.size⟩

end Go.Proofs.Ythgjooacapodnaa
