/- Acts on an index in memory; the first hook of an act. -/
import Derived.Test.YtaajadmaamjebaaSxA
namespace Go.Proofs.Ytaajadmaamjebaa
open Go.RowKit

/-- An act on an index. -/
structure AcS where
  kind : Int
  man : Nat
  hooks : List (List UInt8)
def AcS.zero : AcS := ⟨0, 0, []⟩
def acL (a : AcS × Value) : List Value := [.int .i64 a.1.kind, .int .u32 (a.1.man : Nat), a.2]
def okAc (a : AcS × Value) : Prop := a.2.oneCell' = true
theorem encAc : Enc acL 3 okAc := ⟨fun _ _ => rfl, fun p hp x hx => by
  simp only [acL, List.mem_cons, List.not_mem_nil, or_false] at hx
  rcases hx with rfl | rfl | rfl
  · rfl
  · rfl
  · exact hp, by decide⟩
structure AcAt (a : AcS) (tv : Value) (w : World) : Prop where
  hooks : FpsAt 32 a.hooks tv w
  man : a.man < 4294967296
  kind : -9223372036854775808 ≤ a.kind ∧ a.kind ≤ 9223372036854775807
theorem AcAt.later {a : AcS} {tv : Value} {w w' : World} (h : AcAt a tv w) (k : Kept w w') : AcAt a tv w' := ⟨h.hooks.later k, h.man, h.kind⟩
structure AcsIn (A : List (AcS × Value)) (v : Value) (w : World) : Prop where
  each : ∀ a ∈ A, AcAt a.1 a.2 w
  rows : RowsAt acL 3 okAc A v w
theorem AcsIn.later {A : List (AcS × Value)} {v : Value} {w w' : World} (h : AcsIn A v w) (k : Kept w w') : AcsIn A v w' := ⟨fun a ha => (h.each a ha).later k, h.rows.later k⟩
/-- A slice of acts. -/
def AcsAt (l : List AcS) (v : Value) (w : World) : Prop := ∃ A : List (AcS × Value), A.map Prod.fst = l ∧ AcsIn A v w
theorem AcsAt.later {l : List AcS} {v : Value} {w w' : World} (h : AcsAt l v w) (k : Kept w w') : AcsAt l v w' := by
  obtain ⟨A, e, h⟩ := h
  exact ⟨A, e, h.later k⟩
theorem infoAc : (Try.prog.info? 36).map (·.size) = some 3 := by kernel_rfl
theorem FpsAt.oneS {n : Nat} {ls : List (List UInt8)} {v : Value} {w : World} (h : FpsAt n ls v w) : v.oneCell' = true := by
  obtain ⟨-, p, c, rfl, -⟩ := h
  rfl

def zeroF : List UInt8 := List.replicate 32 0
def firstF (a : AcS) : List UInt8 := a.hooks.headD zeroF
theorem firstF_len {a : AcS} (h : ∀ l ∈ a.hooks, l.length = 32) : (firstF a).length = 32 := by
  unfold firstF
  cases e : a.hooks with
  | nil => rfl
  | cons x l => exact h x (by rw [e]; exact List.mem_cons_self ..)
def Z32 : Array Value := #[.int .u8 0, .int .u8 0, .int .u8 0, .int .u8 0, .int .u8 0, .int .u8 0, .int .u8 0, .int .u8 0, .int .u8 0, .int .u8 0, .int .u8 0, .int .u8 0, .int .u8 0, .int .u8 0, .int .u8 0, .int .u8 0, .int .u8 0, .int .u8 0, .int .u8 0, .int .u8 0, .int .u8 0, .int .u8 0, .int .u8 0, .int .u8 0, .int .u8 0, .int .u8 0, .int .u8 0, .int .u8 0, .int .u8 0, .int .u8 0, .int .u8 0, .int .u8 0]
theorem Z32_eq : Z32 = fpA zeroF := rfl
theorem head_of {α : Type} (z : α) : ∀ (l : List α) (h : 0 < l.length), l[0] = l.headD z
  | [], h => by cases h
  | _ :: _, _ => rfl
theorem built_fp0 : Try.prog.built 47 [] = some Z32 := by kernel_rfl

set_option maxRecDepth 100000 in
set_option maxHeartbeats 16000000 in
theorem first17_any (a : AcS) (tv : Value) (w : World) (H : AcAt a tv w) :
    Calls Try.prog 20 #[.agg (acL (a, tv)).toArray] w fun e w' => e = .returned (.agg (fpA (firstF a))) ∧ Kept w w' := by
  obtain ⟨kd, hkd⟩ : ∃ k, k = a.kind := ⟨_, rfl⟩
  obtain ⟨mn, hmn⟩ : ∃ k, k = a.man := ⟨_, rfl⟩
  have hF := H.hooks
  obtain ⟨h32, p, c, rfl, -⟩ := H.hooks
  obtain ⟨n, hn⟩ : ∃ n, n = a.hooks.length := ⟨_, rfl⟩
  have hX : (acL (a, Value.slice p a.hooks.length c)).toArray = #[.int .i64 kd, .int .u32 (mn : Nat), .slice p n c] := by rw [hkd, hmn, hn]; rfl
  rw [hX]
  obtain ⟨F, hFF⟩ : ∃ F, F = fpA (firstF a) := ⟨_, rfl⟩
  rw [← hFF]
  have HF32 : Hid (F.size = 32 ∧ F.all (·.oneCell') = true) := Lib.hid ⟨by rw [hFF, fpA_size]; exact firstF_len h32, by rw [hFF]; exact fpA_one _⟩
  obtain ⟨W1, hW1⟩ : ∃ W, W = (w.alloc (.cells #[.int .i64 kd, .int .u32 (mn : Nat), .slice p n c] 36)).alloc (.cells #[.int .u8 0, .int .u8 0, .int .u8 0, .int .u8 0, .int .u8 0, .int .u8 0, .int .u8 0, .int .u8 0, .int .u8 0, .int .u8 0, .int .u8 0, .int .u8 0, .int .u8 0, .int .u8 0, .int .u8 0, .int .u8 0, .int .u8 0, .int .u8 0, .int .u8 0, .int .u8 0, .int .u8 0, .int .u8 0, .int .u8 0, .int .u8 0, .int .u8 0, .int .u8 0, .int .u8 0, .int .u8 0, .int .u8 0, .int .u8 0, .int .u8 0, .int .u8 0] 47) := ⟨_, rfl⟩
  have hk1 : Kept w W1 := by rw [hW1]; exact (show Kept w _ from box_below _ _).then (box_below _ _)
  have hr0 : W1.heap[w.heap.size]? = some (.cells #[.int .i64 kd, .int .u32 (mn : Nat), .slice p n c] 36 (0, 0)) := by rw [hW1]; exact Kept.row (box_below _ _) (heap_alloc_last w _)
  have hr1 : W1.heap[w.heap.size + 1]? = some (.cells Z32 47 (0, 0)) := by
    have := heap_alloc_last (w.alloc (.cells #[.int .i64 kd, .int .u32 (mn : Nat), .slice p n c] 36)) (.cells Z32 47)
    rw [show (w.alloc (.cells #[.int .i64 kd, .int .u32 (mn : Nat), .slice p n c] 36)).heap.size = w.heap.size + 1 by simp] at this
    rw [hW1]; exact this
  have HW1 := Lib.hid hW1
  have HK1 := Lib.hid hk1
  have HR1 := Lib.hid hr1
  have c2 : W1.cell? ⟨w.heap.size, 2, none⟩ = some (.slice p n c) := by rw [cell_of_row _ _ _ _ _ _ hr0]; rfl
  have HC2 := Lib.hid c2
  obtain ⟨W2, hW2⟩ : ∃ W, W = W1.setRow (w.heap.size + 1) F := ⟨_, rfl⟩
  have HFIN : Hid (Kept w W2 ∧ W2.heap[w.heap.size + 1]? = some (.cells F 47 (0, 0))) := Lib.hid ⟨by rw [hW2]; exact below_setRow (show Below w.heap.size w W1 from hk1) (by omega) F, by rw [hW2]; exact setRow_heap _ _ _ _ _ _ hr1⟩
  have HW2 := Lib.hid hW2
  have HXI : Hid ((Try.prog.info? 47).map (·.size) = some F.size) := Lib.hid (by rw [HF32.out.1]; exact infoFp)
  by_cases h0 : a.hooks = []
  · have hn0 : n = 0 := by rw [hn, h0]; rfl
    subst hn0
    have HB0 : Hid (Try.prog.built 47 [] = some F) := Lib.hid (by
      have e : F = Z32 := by rw [hFF, Z32_eq]; unfold firstF; rw [h0]; rfl
      rw [e]; exact built_fp0)
    clear hF h32 hn hX hFF hk1 hW2 hr0 hr1 hW1 hkd hmn H h0
    go_enter Try.func20, Try.ntmps20
    go_wp2_with (with_reducible refine wpList_halt (d := 3) rfl ?_)
    unfold Halted
    rw [← HW1.out]
    clear c2
    have c2 := HC2.out
    go_wp2_with (first
      | (with_reducible refine wpList_built rfl _ _ rfl [] ?hps F HB0.out ?_)
      | (with_reducible refine wpList_store_row rfl _ _ _ rfl (w.heap.size + 1) F rfl rfl 47 _ HR1.out HXI.out ?hold HF32.out.2 ?_; rotate_left; rw [← HW2.out]))
    try case hps => rfl
    case hold => rw [HF32.out.1]; rfl
    refine bodyPost_ret (results_cell_row Try.results20 _ _ (w.heap.size + 1) 47 F (0, 0) _ rfl HFIN.out.2 Try.underlying47 rfl HXI.out) rfl ⟨rfl, HFIN.out.1⟩
  · have hn1 : 0 < n := by rw [hn]; exact List.length_pos_iff.2 h0
    have b0 : ((n : Int) == 0) = false := beq_eq_false_iff_ne.2 (by omega)
    obtain ⟨b, off, cs, t, fr, hp, hg, hsz, hex⟩ := hF.elem (i := 0) (by rw [← hn]; exact hn1)
    subst hp
    have hff : a.hooks[0]'(by rw [← hn]; exact hn1) = firstF a := head_of zeroF a.hooks (by rw [← hn]; exact hn1)
    rw [hff, ← hFF] at hex
    simp only [Nat.zero_mul, Nat.add_zero] at hex hsz
    have g2 := hk1.row hg
    have HES : Hid (off + 32 ≤ cs.size ∧ cs.extract off (off + 32) = F) := Lib.hid ⟨hsz, hex⟩
    have IX : ∀ W, (Instr.indexAt 34 (.slice (some ⟨b, off, none⟩) n c) (.int .i64 0)).run Try.prog W = .ok (.pointer (some ⟨b, off, none⟩)) W := fun W => by
      have h := idx_rec (P := Try.prog) (k := 32) Try.underlying34 (fun w => Try.sizeOf47 w) b off n c 0 hn1 W
      rw [Nat.zero_mul, Nat.add_zero] at h
      exact h
    clear hF h32 hn hX hFF hk1 hW2 hr0 hr1 hW1 hkd hmn H h0 hff hg hsz hex hn1
    go_enter Try.func20, Try.ntmps20
    go_wp2_with (with_reducible refine wpList_halt (d := 3) rfl ?_)
    unfold Halted
    rw [← HW1.out]
    clear c2
    have c2 := HC2.out
    go_wp2_with (first
      | (with_reducible refine wpList_load_sub rfl _ _ rfl b off 32 rfl t cs fr _ g2 Try.underlying47 rfl infoFp HES.out.1 F HES.out.2 ?_)
      | (with_reducible refine wpList_store_row rfl _ _ _ rfl (w.heap.size + 1) F rfl rfl 47 _ HR1.out HXI.out ?hold HF32.out.2 ?_; rotate_left; rw [← HW2.out]))
    case hold => rw [HF32.out.1]; rfl
    refine bodyPost_ret (results_cell_row Try.results20 _ _ (w.heap.size + 1) 47 F (0, 0) _ rfl HFIN.out.2 Try.underlying47 rfl HXI.out) rfl ⟨rfl, HFIN.out.1⟩

end Go.Proofs.Ytaajadmaamjebaa
