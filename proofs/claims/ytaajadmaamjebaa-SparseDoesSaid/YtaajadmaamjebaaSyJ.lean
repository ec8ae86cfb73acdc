/- The landed index: newList, Len, Peek, Look, Hooks. -/
import Derived.Test.YtaajadmaamjebaaGK
import Derived.Test.YtaajadmaamjebaaSxD
import Derived.Test.YtaajadmaamjebaaHE
import Derived.Lib.Builder
namespace Go.Proofs.Ytaajadmaamjebaa
open Go.RowKit

/-- The landed index, whatever lies where. -/
def IxP (B bx : Nat) (per most : Int) (R : List SRow) (Bs : Nat → Prop) (w : World) : Prop := ∃ bm be L σ f, Full B bx bm be per most L σ f R Bs w
theorem IxP.later {B bx : Nat} {per most : Int} {R : List SRow} {Bs : Nat → Prop} {w w' : World} (h : IxP B bx per most R Bs w) (k : Kept w w') : IxP B bx per most R Bs w' := by
  obtain ⟨bm, be, L, σ, f, h⟩ := h
  exact ⟨bm, be, L, σ, f, h.later k⟩

/-! ### Rows by their hooks -/
theorem at_split {R1 R2 : List SRow} {h : List UInt8} {ms : List Nat} (h1 : ∀ r ∈ R1, r.1 ≠ h) : idxS (R1 ++ (h, ms) :: R2) h = some R1.length := by
  unfold idxS
  rw [List.findIdx?_eq_some_iff_getElem]
  refine ⟨by simp, by simp, fun j hj => ?_⟩
  rw [List.getElem_append_left hj]
  have := h1 _ (List.getElem_mem hj)
  simpa using this
theorem at_split_all {R1 R2 : List SRow} {h : List UInt8} {ms : List Nat} (h1 : ∀ r ∈ R1, r.1 ≠ h) : cutS (R1 ++ (h, ms) :: R2) (atS (R1 ++ (h, ms) :: R2) h) = R1 ++ R2 ∧ peekS (R1 ++ (h, ms) :: R2) h = ms ∧ lookS (R1 ++ (h, ms) :: R2) h = R1 ++ R2 ++ [(h, ms)] := by
  have e := at_split (R2 := R2) (ms := ms) h1
  have ea : atS (R1 ++ (h, ms) :: R2) h = (R1.length : Int) := by unfold atS; rw [e]
  have eg : (R1 ++ (h, ms) :: R2).getD R1.length ([], []) = (h, ms) := by
    rw [List.getD_eq_getElem?_getD, List.getElem?_append_right (Nat.le_refl _), Nat.sub_self]; rfl
  have ec : cutS (R1 ++ (h, ms) :: R2) (R1.length : Int) = R1 ++ R2 := by
    unfold cutS
    rw [if_neg (by omega), Int.toNat_natCast, List.eraseIdx_append_of_length_le (Nat.le_refl _), Nat.sub_self]; rfl
  refine ⟨by rw [ea]; exact ec, by unfold peekS; rw [e]; show (_ : SRow).2 = _; rw [eg], ?_⟩
  unfold lookS
  rw [e]
  show lastS _ _ _ = _
  unfold lastS
  rw [ec, eg]
theorem at_none_all {R : List SRow} {h : List UInt8} (h1 : ∀ r ∈ R, r.1 ≠ h) : cutS R (atS R h) = R ∧ peekS R h = [] ∧ lookS R h = R := by
  have e : idxS R h = none := by
    unfold idxS
    rw [List.findIdx?_eq_none_iff]
    intro r hr
    simpa using h1 r hr
  refine ⟨by unfold atS; rw [e]; rfl, peek_none h1, by unfold lookS; rw [e]⟩
theorem nodup_front {R1 R2 : List SRow} {h : List UInt8} {ms : List Nat} (hn : ((R1 ++ (h, ms) :: R2).map Prod.fst).Nodup) : ∀ r ∈ R1, r.1 ≠ h := fun r hr e => by
  rw [List.map_append, List.map_cons] at hn
  exact (List.nodup_append.1 hn).2.2 r.1 (List.mem_map_of_mem hr) h (List.mem_cons_self ..) e

section
variable {B bx bm be : Nat} {per most : Int} {L : List Nat} {σ : Ring} {f : List UInt8 → Option Nat} {R : List SRow} {Bs : Nat → Prop} {w w' : World}
/-- The list of a hook. -/
theorem Full.found (H : Full B bx bm be per most L σ f R Bs w) {h : List UInt8} {b : Nat} (hf : f h = some b) : ∃ L1 L2 R1 R2 d, L = L1 ++ b :: L2 ∧ R = R1 ++ (h, d.ms) :: R2 ∧ L1.length = R1.length ∧ σ b = some d ∧ d.h = h := by
  obtain ⟨hb, hk⟩ := (H.fm h b).1 hf
  obtain ⟨L1, L2, rfl⟩ := List.append_of_mem hb
  unfold hkR at hk
  obtain ⟨d, hd, hdh⟩ := Option.map_eq_some_iff.1 hk
  have hr := H.rows
  rw [List.map_append, List.map_cons] at hr
  obtain ⟨R1, R', rfl, e1, e2⟩ := List.map_eq_append_iff.1 hr.symm
  obtain ⟨r, R2, rfl, e3, e4⟩ := List.map_eq_cons_iff.1 e2
  have hlen : L1.length = R1.length := by
    have := congrArg List.length e1
    rw [List.length_map, List.length_map] at this
    exact this.symm
  refine ⟨L1, L2, R1, R2, d, rfl, ?_, hlen, hd, hdh⟩
  have : some r = some (d.h, d.ms) := by rw [e3]; unfold rwR; rw [hd]; rfl
  rw [Option.some.inj this, hdh]
theorem Full.absent (H : Full B bx bm be per most L σ f R Bs w) {h : List UInt8} (hf : f h = none) : ∀ r ∈ R, r.1 ≠ h := fun r hr e => by
  have h1 : some r ∈ L.map (rwR σ) := by rw [H.rows]; exact List.mem_map_of_mem hr
  obtain ⟨b, hb, h2⟩ := List.mem_map.1 h1
  unfold rwR at h2
  obtain ⟨d, hd, h3⟩ := Option.map_eq_some_iff.1 h2
  have := H.hk hb hd
  have e2 : d.h = h := by rw [← e, ← h3]
  rw [e2, hf] at this
  cases this
end

/-! ### newList -/
theorem built_ndL (x0 x1 x2 x3 x4 x5 x6 x7 x8 x9 x10 x11 x12 x13 x14 x15 x16 x17 x18 x19 x20 x21 x22 x23 x24 x25 x26 x27 x28 x29 x30 x31 : Value) : Try.prog.built 67 [(0, .agg #[x0, x1, x2, x3, x4, x5, x6, x7, x8, x9, x10, x11, x12, x13, x14, x15, x16, x17, x18, x19, x20, x21, x22, x23, x24, x25, x26, x27, x28, x29, x30, x31])] = some #[x0, x1, x2, x3, x4, x5, x6, x7, x8, x9, x10, x11, x12, x13, x14, x15, x16, x17, x18, x19, x20, x21, x22, x23, x24, x25, x26, x27, x28, x29, x30, x31, .slice none 0 0, .pointer none, .pointer none] := by kernel_rfl
theorem built_nd (C : Array Value) (hC : C.size = 32) : Try.prog.built 67 [(0, .agg C)] = some (C ++ #[.slice none 0 0, .pointer none, .pointer none]) := by
  obtain ⟨l⟩ := C
  match l, hC with
  | [x0, x1, x2, x3, x4, x5, x6, x7, x8, x9, x10, x11, x12, x13, x14, x15, x16, x17, x18, x19, x20, x21, x22, x23, x24, x25, x26, x27, x28, x29, x30, x31], _ => exact built_ndL x0 x1 x2 x3 x4 x5 x6 x7 x8 x9 x10 x11 x12 x13 x14 x15 x16 x17 x18 x19 x20 x21 x22 x23 x24 x25 x26 x27 x28 x29 x30 x31
def newNd (h : List UInt8) (l : Nat) : Nd := ⟨h, [], .slice none 0 0, l, l⟩

set_option maxRecDepth 100000 in
set_option maxHeartbeats 2000000 in
theorem newList_any (h : List UInt8) (h32 : h.length = 32) (w : World) :
    Calls Try.prog 18 #[.agg (fpA h)] w fun e w' => ∃ l, e = .returned (.pointer (some ⟨l, 0, none⟩)) ∧ w.heap.size ≤ l ∧ w'.heap[l]? = some (.cells (ndA (newNd h l)) 67 (0, 0)) ∧ Kept w w' := by
  have HI := Lib.hid (fp_info h h32)
  have hFs : (fpA h).size = 32 := by rw [fpA_size, h32]
  have HBU := Lib.hid (built_nd (fpA h) hFs)
  have g0 := heap_alloc_last w (.cells (fpA h) 47)
  have hK0 := box_below w (.cells (fpA h) 47)
  obtain ⟨X, hX⟩ : ∃ X, X = fpA h ++ #[.slice none 0 0, .pointer none, .pointer none] := ⟨_, rfl⟩
  rw [← hX] at HBU
  have hX1 : X.all (·.oneCell') = true := by
    rw [hX, Array.all_append, fpA_one]; simp [Value.oneCell']
  have x33 : X[33]? = some (.pointer none) := by rw [hX, Array.getElem?_append_right (by omega), hFs]; rfl
  have x34 : X[34]? = some (.pointer none) := by rw [hX, Array.getElem?_append_right (by omega), hFs]; rfl
  have HS : Hid (∀ v : Value, (X.setIfInBounds 33 v).setIfInBounds 34 v = fpA h ++ #[.slice none 0 0, v, v]) := Lib.hid (fun v => by rw [hX, (set_tail hFs v).2.1, (set_tail hFs v).2.2])
  have s1 : (w.alloc (.cells (fpA h) 47)).heap.size = w.heap.size + 1 := by simp
  have HG3 : Hid (∀ C : Array Value, ((w.alloc (.cells (fpA h) 47)).alloc (.cells C 67)).heap[w.heap.size + 1]? = some (.cells C 67 (0, 0))) := Lib.hid (fun C => by
    have := heap_alloc_last (w.alloc (.cells (fpA h) 47)) (.cells C 67)
    rw [s1] at this; exact this)
  have HK3 : Hid (∀ C : Array Value, Kept w ((w.alloc (.cells (fpA h) 47)).alloc (.cells C 67))) := Lib.hid (fun C => (show Kept w _ from hK0).then (box_below _ _))
  obtain ⟨F, hFF⟩ : ∃ F, F = fpA h := ⟨_, rfl⟩
  have HF := Lib.hid hFF
  rw [← hFF] at HI HBU g0 HG3 HK3 HS ⊢
  clear hX hX1 s1 hFF hFs hK0 h32
  go_enter Try.func18, Try.ntmps18
  go_wp2_with (first
    | (with_reducible refine wpList_load_row rfl _ _ rfl w.heap.size rfl 47 F (0, 0) _ g0 Try.underlying47 rfl HI.out ?_)
    | (with_reducible refine wpList_built rfl _ _ rfl [(0, .agg F)] ?hpsL X HBU.out ?_))
  go_ret
  refine ⟨_, rfl, by omega, ?_, HK3.out _⟩
  rw [HS.out]
  have e := HG3.out (F ++ #[.slice none 0 0, pB (w.heap.size + 1), pB (w.heap.size + 1)])
  rw [HF.out] at e ⊢
  exact e

end Go.Proofs.Ytaajadmaamjebaa
