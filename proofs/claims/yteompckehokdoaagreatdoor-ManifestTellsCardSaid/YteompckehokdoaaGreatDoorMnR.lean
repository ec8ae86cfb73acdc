/- Entries and manifests in memory; slices of places, of moves. -/
import Derived.Test.YteompckehokdoaaGreatDoorRows
import Derived.Test.YteompckehokdoaaGreatDoorGA
import Derived.Test.YteompckehokdoaaGreatDoorRws
import Derived.Test.YteompckehokdoaaGreatDoorZFp
namespace Go.Proofs.YteompckehokdoaaGreatDoor
open Go.RowKit

def enL (e : En) : List Value := (fpA e.fp).toList ++ [.int .i64 e.len, .int .u32 (e.box : Nat), .int .i64 e.slot]
def enC (e : En) : Array Value := (enL e).toArray
theorem enL_len {e : En} (h : e.fp.length = 32) : (enL e).length = 35 := by unfold enL; simp [fpA_size, h]
theorem enC_size {e : En} (h : e.fp.length = 32) : (enC e).size = 35 := by unfold enC; simpa using enL_len h
theorem encE : Enc enL 35 wfE := ⟨fun e h => enL_len h.1, fun e _ x hx => by
  rcases List.mem_append.1 hx with h | h
  · exact (Array.all_eq_true_iff_forall_mem.1 (fpA_one e.fp)) x (by simpa using h)
  · simp only [List.mem_cons, List.not_mem_nil, or_false] at h
    rcases h with rfl | rfl | rfl <;> rfl, by decide⟩
theorem enL_fp {e : En} (h : e.fp.length = 32) (j : Nat) (hj : j < 32) : (enL e)[j]? = some (.int .u8 ((e.fp.getD j 0).toNat : Int)) := by
  unfold enL
  rw [List.getElem?_append_left (by simp [fpA_size, h]; omega), Array.getElem?_toList, fpA_get _ _ (by omega)]
theorem enL_tail {e : En} (h : e.fp.length = 32) (j : Nat) : (enL e)[32 + j]? = ([Value.int .i64 e.len, .int .u32 (e.box : Nat), .int .i64 e.slot] : List Value)[j]? := by
  unfold enL
  rw [List.getElem?_append_right (by simp [fpA_size, h])]
  simp [fpA_size, h]
theorem enL_n {e : En} (h : e.fp.length = 32) : (enL e)[32]? = some (.int .i64 e.len) := enL_tail h 0
theorem enL_b {e : En} (h : e.fp.length = 32) : (enL e)[33]? = some (.int .u32 (e.box : Nat)) := enL_tail h 1
theorem enL_s {e : En} (h : e.fp.length = 32) : (enL e)[34]? = some (.int .i64 e.slot) := enL_tail h 2
theorem enC_n {e : En} (h : e.fp.length = 32) : (enC e)[32]? = some (.int .i64 e.len) := by unfold enC; rw [List.getElem?_toArray]; exact enL_n h
theorem enC_b {e : En} (h : e.fp.length = 32) : (enC e)[33]? = some (.int .u32 (e.box : Nat)) := by unfold enC; rw [List.getElem?_toArray]; exact enL_b h
theorem enC_s {e : En} (h : e.fp.length = 32) : (enC e)[34]? = some (.int .i64 e.slot) := by unfold enC; rw [List.getElem?_toArray]; exact enL_s h
theorem enC_inj {a b : En} (ha : a.fp.length = 32) (hb : b.fp.length = 32) (h : enC a = enC b) : a = b := by
  have h0 := congrArg Array.toList h
  unfold enC enL at h0
  simp only at h0
  have h1 := List.append_inj h0 (by simp [fpA_size, ha, hb])
  have h2 := fpA_inj (Array.toList_inj.1 h1.1)
  have h3 := h1.2
  simp only [List.cons.injEq, Value.int.injEq, true_and, and_true] at h3
  rw [En.ext_iff']
  exact ⟨h2, h3.1, by omega, h3.2.2⟩
abbrev EntsAt (l : List En) (v : Value) (w : World) : Prop := RowsAt enL 35 wfE l v w
/-- A manifest, as a value. -/
def ManIs (m : Mf) (v : Value) (w : World) : Prop := m.id < 4294967296 ∧ ∃ sv, v = .agg #[.int .u32 (m.id : Nat), sv] ∧ EntsAt m.es sv w
theorem ManIs.later {m : Mf} {v : Value} {w w' : World} (H : ManIs m v w) (k : Kept w w') : ManIs m v w' := by
  obtain ⟨h, sv, e, H⟩ := H
  exact ⟨h, sv, e, H.later k⟩
theorem ManIs.zero (w : World) : ManIs Mf.zero (.agg #[.int .u32 0, .slice none 0 0]) w := ⟨by show (0 : Nat) < _; omega, _, rfl, RowsAt.nil w 0⟩
theorem ManIs.wf {m : Mf} {v : Value} {w : World} (H : ManIs m v w) : wfM m := ⟨H.1, by obtain ⟨_, sv, _, H⟩ := H; exact H.good⟩

def plL (p : Pl) : List Value := [.int .u32 (p.1 : Nat), .int .i64 p.2]
def wfP (p : Pl) : Prop := p.1 < 4294967296 ∧ isI p.2
theorem encP : Enc plL 2 wfP := ⟨fun _ _ => rfl, fun p _ x hx => by
  simp only [plL, List.mem_cons, List.not_mem_nil, or_false] at hx
  rcases hx with rfl | rfl <;> rfl, by decide⟩
abbrev PlsAt (l : List Pl) (v : Value) (w : World) : Prop := RowsAt plL 2 wfP l v w
def mvL (m : Mv) : List Value := [.int .u32 (m.1.1 : Nat), .int .i64 m.1.2, .int .u32 (m.2.1 : Nat), .int .i64 m.2.2]
def wfV (m : Mv) : Prop := wfP m.1 ∧ wfP m.2
theorem encV : Enc mvL 4 wfV := ⟨fun _ _ => rfl, fun p _ x hx => by
  simp only [mvL, List.mem_cons, List.not_mem_nil, or_false] at hx
  rcases hx with rfl | rfl | rfl | rfl <;> rfl, by decide⟩
abbrev MvsAt (l : List Mv) (v : Value) (w : World) : Prop := RowsAt mvL 4 wfV l v w

theorem plE_wf {e : En} (h : wfE e) : wfP (plE e) := ⟨h.2.2.1, h.2.2.2⟩
theorem psetL_wf {l : List Pl} (h : ∀ p ∈ l, wfP p) : ∀ p ∈ psetL l, wfP p := fun p hp => h p ((psetL_mem l p).1 hp)

theorem info_en : ∃ i : TypeInfo, Tryz.prog.info? 41 = some i ∧ i.size = 35 ∧ i.bytes = 56 ∧ ∃ z, i.zero = some z ∧ z.cells.size = 35 := by
  have h : (Tryz.prog.info? 41).map (fun i => (i.size, i.bytes, i.zero.map (fun z => z.cells.size))) = some (35, 56, some 35) := by kernel_rfl
  obtain ⟨i, hi, h⟩ := Option.map_eq_some_iff.1 h
  rw [Prod.mk.injEq, Prod.mk.injEq] at h
  obtain ⟨h1, h2, h3⟩ := h
  obtain ⟨z, hz, h4⟩ := Option.map_eq_some_iff.1 h3
  exact ⟨i, hi, h1, h2, z, hz, h4⟩
theorem infoEn : (Tryz.prog.info? 41).map (·.size) = some 35 := by kernel_rfl
theorem infoMan : (Tryz.prog.info? 25).map (·.size) = some (#[Value.int .u32 0, Value.slice none 0 0] : Array Value).size := by kernel_rfl
theorem info_pl : (Tryz.prog.info? 35).map (fun i => (i.zero, i.size, i.bytes)) = some (some (.agg #[.int .u32 0, .int .i64 0]), 2, 16) := by kernel_rfl
theorem info_mv : (Tryz.prog.info? 50).map (fun i => (i.zero, i.size, i.bytes)) = some (some (.agg #[.int .u32 0, .int .i64 0, .int .u32 0, .int .i64 0]), 4, 32) := by kernel_rfl

end Go.Proofs.YteompckehokdoaaGreatDoor
