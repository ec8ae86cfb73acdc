/- What the landed manifests' reader reads; its walk over an entry. The landed manifests' reader, Get. The landed manifests' Get. -/
import Derived.Test.YteompckehokdoaaGreatDoorGU
import Derived.Test.YteompckehokdoaaGreatDoorArr
import Derived.Test.YteompckehokdoaaGreatDoorGD
import Derived.Test.YteompckehokdoaaGreatDoorMjC
namespace Go.Proofs.YteompckehokdoaaGreatDoor
open Go.RowKit

/-! ### What is read -/
def padF (f : List UInt8) : List UInt8 := f ++ List.replicate (32 - f.length) 0
theorem padF_len {f : List UInt8} (h : f.length ≤ 32) : (padF f).length = 32 := by unfold padF; simp; omega
def fpR (s : RdSt) : List UInt8 := (takeR s 32).1
def lnR (s : RdSt) : Nat × RdSt := numR (takeR s 32).2 2
def bxR (s : RdSt) : Nat × RdSt := numR (lnR s).2 4
def stR (s : RdSt) : Nat × RdSt := numR (bxR s).2 2
def entR (s : RdSt) : En × RdSt := (⟨padF (fpR s), ((lnR s).1 : Int), (bxR s).1, ((stR s).1 : Int)⟩, (stR s).2)
def entsR : Nat → RdSt → List En → List En × RdSt
  | 0, s, acc => (acc, s)
  | k + 1, s, acc => entsR k (entR s).2 (acc ++ [(entR s).1])
def manL (t : List UInt8) : Mf := ⟨(idRM t).1, (entsR (min (cnRM t).1 256) (cnRM t).2 []).1⟩
theorem fpR_len (s : RdSt) : (fpR s).length ≤ 32 := takeR_le s 32
theorem entR_wf (s : RdSt) : wfE (entR s).1 := by
  have h1 := numR_lt2 (takeR s 32).2 2
  have h2 := numR_lt2 (lnR s).2 4
  have h3 := numR_lt2 (bxR s).2 2
  refine ⟨padF_len (fpR_len s), ?_, ?_, ?_⟩
  · show isI ((lnR s).1 : Int)
    unfold isI lnR; omega
  · show (bxR s).1 < _
    unfold bxR; omega
  · show isI ((stR s).1 : Int)
    unfold isI stR; omega
theorem entR_short (s : RdSt) : (entR s).2.1.length ≤ s.1.length :=
  Nat.le_trans (numR_len _ _) (Nat.le_trans (numR_len _ _) (Nat.le_trans (numR_len _ _) (takeR_len _ _)))
theorem entR_fits {L : List UInt8} (h : 40 ≤ L.length) : entR (L, 0) = (readE L, (L.drop 40, 0)) := by
  have e1 : takeR (L, 0) 32 = (L.take 32, (L.drop 32, 0)) := takeR_fits (k := 32) (by omega)
  have e2 : lnR (L, 0) = (ofLE ((L.drop 32).take 2), (L.drop 34, 0)) := by
    unfold lnR
    rw [e1, numR_fits (by rw [List.length_drop]; omega), List.drop_drop]
  have e3 : bxR (L, 0) = (ofLE ((L.drop 34).take 4), (L.drop 38, 0)) := by
    unfold bxR
    rw [e2, numR_fits (by rw [List.length_drop]; omega), List.drop_drop]
  have e4 : stR (L, 0) = (ofLE ((L.drop 38).take 2), (L.drop 40, 0)) := by
    unfold stR
    rw [e3, numR_fits (by rw [List.length_drop]; omega), List.drop_drop]
  have e5 : padF (fpR (L, 0)) = L.take 32 := by
    unfold fpR
    rw [e1]
    unfold padF
    have : (L.take 32).length = 32 := by rw [List.length_take]; omega
    rw [this]; simp
  unfold entR
  rw [e2, e3, e4, e5]
  rfl
theorem entsR_len : ∀ (k : Nat) (s : RdSt) (acc : List En), (entsR k s acc).1.length = acc.length + k
  | 0, _, _ => rfl
  | k + 1, s, acc => by
    show (entsR k _ _).1.length = _
    rw [entsR_len k]; simp; omega
theorem entsR_wf : ∀ (k : Nat) (s : RdSt) (acc : List En), (∀ e ∈ acc, wfE e) → ∀ e ∈ (entsR k s acc).1, wfE e
  | 0, _, _, h => h
  | k + 1, s, acc, h => entsR_wf k _ _ (fun e he => by
    rcases List.mem_append.1 he with x | x
    · exact h e x
    · rw [List.mem_singleton.1 x]; exact entR_wf s)
theorem entsR_fits : ∀ (k : Nat) (L : List UInt8) (acc : List En), 40 * k ≤ L.length → (entsR k (L, 0) acc).1 = acc ++ readEs k L
  | 0, _, acc, _ => by show acc = acc ++ []; rw [List.append_nil]
  | k + 1, L, acc, h => by
    show (entsR k (entR (L, 0)).2 (acc ++ [(entR (L, 0)).1])).1 = _
    rw [entR_fits (by omega)]
    show (entsR k (L.drop 40, 0) (acc ++ [readE L])).1 = _
    rw [entsR_fits k _ _ (by rw [List.length_drop]; omega), List.append_assoc]
    rfl
theorem manL_wf (t : List UInt8) : wfM (manL t) := ⟨by
  have := numR_lt2 (takeR (t, 0) 4).2 4
  show (idRM t).1 < _
  unfold idRM; omega, entsR_wf _ _ _ (fun e he => by cases he)⟩
theorem manL_len (t : List UInt8) : (manL t).es.length ≤ 256 := by
  show (entsR _ _ _).1.length ≤ _
  rw [entsR_len]
  show 0 + _ ≤ _
  omega
theorem manL_ok {t : List UInt8} (h : okM t) : manL t = readM t := by
  obtain ⟨⟨h1, h2⟩, h3, -⟩ := h
  obtain ⟨e1, e2⟩ := cnRM_fits (S := t) (by omega)
  unfold manL readM
  rw [e1, e2, Nat.min_eq_left h2, entsR_fits _ _ _ (by rw [List.length_drop]; omega)]
  rfl
/-- Which bytes the program accepts. -/
theorem getM_land (t : List UInt8) : getM t = if mayM (manL t) ∧ manB (manL t) = t then some (manL t) else none := by
  by_cases h : okM t
  · have e := manL_ok h
    have h1 : mayM (manL t) ∧ manB (manL t) = t := by rw [e]; exact h.2.2
    rw [if_pos h1]
    unfold getM
    rw [if_pos h, e]
  · by_cases h1 : mayM (manL t) ∧ manB (manL t) = t
    · rw [if_pos h1]
      have := getM_manB h1.1 (manL_wf t)
      rw [h1.2] at this
      exact this
    · rw [if_neg h1]
      unfold getM
      rw [if_neg h]

/-! ### In memory -/
theorem wp_copy_str {P : Program} {o : Oper} {a : Act} {w : World} {K : Act → World → Prop} {Q : Exit → Act → World → Prop} (d x : Operand) (dT sT : TypeId)
    (ho : o.op = .call { callee := .builtin .copy, args := #[d, x], argTypes := #[dT, sT] }) (elem : TypeId) (hu : P.underlying dT = some (.slice elem)) (hsz : (P.info? elem).map (·.size) = some 1)
    (g off dLen dCap : Nat) (s : ByteArray) (hd : a.eval d = .slice (some ⟨g, off, none⟩) dLen dCap) (hx : a.eval x = .string s)
    (cur : Array Value) (t : TypeId) (hg : w.heap[g]? = some (.cells cur t (0, 0))) (k : Nat) (hk : Nat.min s.size dLen = k) (hfit : off + dLen ≤ cur.size)
    (new : Array Value) (hnew : laidOver cur off (firstB s k) = new)
    (h : K (a.put o.dst (goInt k)) (w.setRow g new)) : o.wp P a w K Q := by
  subst hnew
  have hrun := run_copy_str (P := P) w dT sT o.type elem g off dLen dCap s cur t k hu hsz hk hg hfit
  unfold Oper.wp
  simp [execOp, ho, resolve, invoke, builtin, hd, hx, hrun, Result.andThen]
  exact h
theorem wp_buildR {P : Program} {o : Oper} {a : Act} {w : World} {K : Act → World → Prop} {Q : Exit → Act → World → Prop} (S T : TypeId) (x : Operand) (ho : o.op = .buildSlice S 1 #[(0, x)]) (n : Nat)
    (i : TypeInfo) (z : Value) (hS : P.underlying S = some (.slice T)) (hi : P.info? T = some i) (hsz : i.size = n) (hz : i.zero = some z) (hn : n ≤ 1000000) (hn0 : 0 < n) (X : Array Value) (hx : a.eval x = .agg X) (hX : X.size = n)
    (h : K (a.put o.dst (.slice (some ⟨w.heap.size, 0, none⟩) 1 1)) (w.alloc (.cells X T))) : o.wp P a w K Q := by
  refine wp_buildSlice S T 1 _ ho X i z hS hi hz (by rw [hsz]; omega) (by omega) ?_ h
  rw [hsz]
  have e : (#[(0, x)].map fun (p : Nat × Operand) => (p.1, a.eval p.2)).toList = [(0, Value.agg X)] := by simp [hx]
  exact (congrArg _ e).trans (fill_rec n X _ hX (by simp))
def en0 : En := ⟨List.replicate 32 0, 0, 0, 0⟩
theorem en0_cells : enC en0 = #[.int .u8 0, .int .u8 0, .int .u8 0, .int .u8 0, .int .u8 0, .int .u8 0, .int .u8 0, .int .u8 0, .int .u8 0, .int .u8 0, .int .u8 0, .int .u8 0, .int .u8 0, .int .u8 0, .int .u8 0, .int .u8 0, .int .u8 0, .int .u8 0, .int .u8 0, .int .u8 0, .int .u8 0, .int .u8 0, .int .u8 0, .int .u8 0, .int .u8 0, .int .u8 0, .int .u8 0, .int .u8 0, .int .u8 0, .int .u8 0, .int .u8 0, .int .u8 0, .int .i64 0, .int .u32 0, .int .i64 0] := rfl
theorem lay_fpR {f R : List UInt8} (h : f.length ≤ R.length) : laidOver (enC ⟨R, 0, 0, 0⟩) 0 (firstB (str f) f.length) = enC ⟨f ++ R.drop f.length, 0, 0, 0⟩ := by
  unfold laidOver enC enL firstB fpA
  simp [str_list, List.drop_append, h]
theorem lay_fp {f : List UInt8} (h : f.length ≤ 32) : laidOver (enC en0) 0 (firstB (str f) f.length) = enC ⟨padF f, 0, 0, 0⟩ := by
  have := lay_fpR (f := f) (R := List.replicate 32 0) (by rw [List.length_replicate]; exact h)
  rw [List.drop_replicate] at this
  exact this
theorem en_set32 {e : En} (h : e.fp.length = 32) (a : Int) : (enC e).setIfInBounds 32 (.int .i64 a) = enC ⟨e.fp, a, e.box, e.slot⟩ := by
  apply Array.toList_inj.1
  unfold enC enL
  simp only [Array.toList_setIfInBounds]
  rw [List.set_append_right _ _ (by simp [fpA_size, h])]
  simp [fpA_size, h]
theorem en_set33 {e : En} (h : e.fp.length = 32) (q : Nat) : (enC e).setIfInBounds 33 (.int .u32 (q : Nat)) = enC ⟨e.fp, e.len, q, e.slot⟩ := by
  apply Array.toList_inj.1
  unfold enC enL
  simp only [Array.toList_setIfInBounds]
  rw [List.set_append_right _ _ (by simp [fpA_size, h])]
  simp [fpA_size, h]
theorem en_set34 {e : En} (h : e.fp.length = 32) (s : Int) : (enC e).setIfInBounds 34 (.int .i64 s) = enC ⟨e.fp, e.len, e.box, s⟩ := by
  apply Array.toList_inj.1
  unfold enC enL
  simp only [Array.toList_setIfInBounds]
  rw [List.set_append_right _ _ (by simp [fpA_size, h])]
  simp [fpA_size, h]
theorem infoU8M : (Tryz.prog.info? 5).map (·.size) = some 1 := by kernel_rfl

/-- What lies while an entry is read. -/
structure EJ (w0 : World) (b b1 b2 b3 : Nat) (s : RdSt) (Z C : Array Value) (w : World) : Prop where
  grk : w0.grownBy w (some b)
  xk : w.heap[b1]? = some (.cells #[.pointer (some ⟨b, 0, none⟩)] 78 (0, 0))
  zk : w.heap[b2]? = some (.cells Z 41 (0, 0))
  rk : RdAt b s w
  ck : w.heap[b3]? = some (.cells C 41 (0, 0))
  hk : b < w0.heap.size ∧ w0.heap.size ≤ b1 ∧ b1 < b2 ∧ b2 < b3
theorem RdAt.stayM {b : Nat} {s : RdSt} {w w' : World} (h : RdAt b s w) (hk : w'.heap[b]? = w.heap[b]?) : RdAt b s w' := by
  unfold RdAt at *
  rw [hk]; exact h
theorem EJ.read {w0 : World} {b b1 b2 b3 : Nat} {s s' : RdSt} {Z C : Array Value} {w w' : World} (h : EJ w0 b b1 b2 b3 s Z C w) (hr : RdAt b s' w') (hg : w.grownBy w' (some b)) : EJ w0 b b1 b2 b3 s' Z C w' where
  grk := grown_trans h.grk hg
  xk := by rw [hg.block b1 (Array.getElem?_eq_some_iff.1 h.xk).1 (fun e => by have := Option.some.inj e; have := h.hk; omega)]; exact h.xk
  zk := by rw [hg.block b2 (Array.getElem?_eq_some_iff.1 h.zk).1 (fun e => by have := Option.some.inj e; have := h.hk; omega)]; exact h.zk
  rk := hr
  ck := by rw [hg.block b3 (Array.getElem?_eq_some_iff.1 h.ck).1 (fun e => by have := Option.some.inj e; have := h.hk; omega)]; exact h.ck
  hk := h.hk
theorem EJ.setC {w0 : World} {b b1 b2 b3 : Nat} {s : RdSt} {Z C : Array Value} {w : World} (h : EJ w0 b b1 b2 b3 s Z C w) (k : Nat) (v : Value) (D : Array Value) (hD : C.setIfInBounds k v = D) : EJ w0 b b1 b2 b3 s Z D (w.setCell ⟨b3, k, none⟩ v) where
  grk := ⟨h.grk.os, h.grk.tape, h.grk.output, by rw [World.size_setCell]; exact h.grk.size, fun i hi hn => by
    rw [heap_setCell_other _ _ _ _ (by have := h.hk; show i ≠ b3; omega)]; exact h.grk.block i hi hn⟩
  xk := by rw [heap_setCell_other _ _ _ _ (by have := h.hk; show b1 ≠ b3; omega)]; exact h.xk
  zk := by rw [heap_setCell_other _ _ _ _ (by have := h.hk; show b2 ≠ b3; omega)]; exact h.zk
  rk := h.rk.stayM (heap_setCell_other _ _ _ _ (by have := h.hk; show b ≠ b3; omega))
  ck := by rw [← hD]; exact heap_setCell_same _ _ _ _ _ _ h.ck
  hk := h.hk
theorem EJ.setR {w0 : World} {b b1 b2 b3 : Nat} {s : RdSt} {Z C : Array Value} {w : World} (h : EJ w0 b b1 b2 b3 s Z C w) (D : Array Value) : EJ w0 b b1 b2 b3 s Z D (w.setRow b3 D) where
  grk := ⟨h.grk.os, h.grk.tape, h.grk.output, by rw [setRow_size]; exact h.grk.size, fun i hi hn => by
    rw [setRow_other _ _ _ _ (by have := h.hk; omega)]; exact h.grk.block i hi hn⟩
  xk := by rw [setRow_other _ _ _ _ (by have := h.hk; omega)]; exact h.xk
  zk := by rw [setRow_other _ _ _ _ (by have := h.hk; omega)]; exact h.zk
  rk := h.rk.stayM (setRow_other _ _ _ _ (by have := h.hk; omega))
  ck := setRow_heap _ _ _ _ _ _ h.ck
  hk := h.hk
/-- Handed back, in the block of the result. -/
theorem EJ.fin {w0 : World} {b b1 b2 b3 : Nat} {s : RdSt} {Z C : Array Value} {w : World} (h : EJ w0 b b1 b2 b3 s Z C w) (D : Array Value) : (w.setRow b2 D).heap[b2]? = some (.cells D 41 (0, 0)) ∧ RdAt b s (w.setRow b2 D) ∧ w0.grownBy (w.setRow b2 D) (some b) :=
  ⟨setRow_heap _ _ _ _ _ _ h.zk, h.rk.stayM (setRow_other _ _ _ _ (by have := h.hk; omega)), ⟨h.grk.os, h.grk.tape, h.grk.output, by rw [setRow_size]; exact h.grk.size, fun i hi hn => by
    rw [setRow_other _ _ _ _ (by have := h.hk; omega)]; exact h.grk.block i hi hn⟩⟩
theorem EJ.cx {w0 : World} {b b1 b2 b3 : Nat} {s : RdSt} {Z C : Array Value} {w : World} (h : EJ w0 b b1 b2 b3 s Z C w) : w.cell? ⟨b1, 0, none⟩ = some (.pointer (some ⟨b, 0, none⟩)) := by rw [cell_of_row _ _ _ _ _ _ h.xk]; rfl
theorem mtake (b : Nat) (s : RdSt) (k : Int) (w : World) (h : RdAt b s w) (hl : s.1.length ≤ 1000000) (T : ByteArray) (hT : T = str (takeR s k).1) (t : RdSt) (ht : t = (takeR s k).2) :
    Calls Tryz.prog 52 #[.pointer (some ⟨b, 0, none⟩), .int .i64 k] w (RdPost b (.string T) t w) := by
  subst hT ht; exact take_any b s k w h hl
theorem mu16 (b : Nat) (s : RdSt) (w : World) (h : RdAt b s w) (hl : s.1.length ≤ 1000000) (n : Nat) (hn : n = (numR s 2).1) (t : RdSt) (ht : t = (numR s 2).2) :
    Calls Tryz.prog 54 #[.pointer (some ⟨b, 0, none⟩)] w (RdPost b (.int .u16 n) t w) := by
  subst hn ht; exact u16r_any b s w h hl
theorem mu32 (b : Nat) (s : RdSt) (w : World) (h : RdAt b s w) (hl : s.1.length ≤ 1000000) (n : Nat) (hn : n = (numR s 4).1) (t : RdSt) (ht : t = (numR s 4).2) :
    Calls Tryz.prog 53 #[.pointer (some ⟨b, 0, none⟩)] w (RdPost b (.int .u32 n) t w) := by
  subst hn ht; exact u32r_any b s w h hl

set_option maxRecDepth 100000 in
set_option maxHeartbeats 16000000 in
theorem mentry_any (b : Nat) (s : RdSt) (w : World) (h : RdAt b s w) (hl : s.1.length ≤ 1000000) (X : Array Value) (hX : X = enC (entR s).1) (sE : RdSt) (hsE : sE = (entR s).2) :
    Calls Tryz.prog 55 #[.agg #[.pointer (some ⟨b, 0, none⟩)]] w fun e w' => e = .returned (.agg X) ∧ RdAt b sE w' ∧ w.grownBy w' (some b) := by
  have hbw := h.lt
  obtain ⟨Z, hZ⟩ : ∃ Z, Z = enC en0 := ⟨_, rfl⟩
  obtain ⟨WA, hWA⟩ : ∃ WA, WA = w.alloc (.cells #[.pointer (some ⟨b, 0, none⟩)] 78) := ⟨_, rfl⟩
  have hkA : Kept w WA := by rw [hWA]; exact box_below _ _
  have zA : WA.heap.size = w.heap.size + 1 := by rw [hWA]; simp
  have rA : WA.heap[w.heap.size]? = some (.cells #[.pointer (some ⟨b, 0, none⟩)] 78 (0, 0)) := by rw [hWA]; exact heap_alloc_last w _
  obtain ⟨WB, hWB⟩ : ∃ WB, WB = WA.alloc (.cells Z 41) := ⟨_, rfl⟩
  have hkB : Kept WA WB := by rw [hWB]; exact box_below _ _
  have zB : WB.heap.size = w.heap.size + 1 + 1 := by rw [hWB]; simp [zA]
  have rB : WB.heap[w.heap.size + 1]? = some (.cells Z 41 (0, 0)) := by rw [hWB, ← zA]; exact heap_alloc_last WA _
  obtain ⟨W1, hW1⟩ : ∃ W1, W1 = WB.alloc (.cells Z 41) := ⟨_, rfl⟩
  have hkC : Kept WB W1 := by rw [hW1]; exact box_below _ _
  have rC : W1.heap[w.heap.size + 1 + 1]? = some (.cells Z 41 (0, 0)) := by rw [hW1, ← zB]; exact heap_alloc_last WB _
  have HW1 : Hid (W1 = ((w.alloc (.cells #[.pointer (some ⟨b, 0, none⟩)] 78)).alloc (.cells #[.int .u8 0, .int .u8 0, .int .u8 0, .int .u8 0, .int .u8 0, .int .u8 0, .int .u8 0, .int .u8 0, .int .u8 0, .int .u8 0, .int .u8 0, .int .u8 0, .int .u8 0, .int .u8 0, .int .u8 0, .int .u8 0, .int .u8 0, .int .u8 0, .int .u8 0, .int .u8 0, .int .u8 0, .int .u8 0, .int .u8 0, .int .u8 0, .int .u8 0, .int .u8 0, .int .u8 0, .int .u8 0, .int .u8 0, .int .u8 0, .int .u8 0, .int .u8 0, .int .i64 0, .int .u32 0, .int .i64 0] 41)).alloc (.cells #[.int .u8 0, .int .u8 0, .int .u8 0, .int .u8 0, .int .u8 0, .int .u8 0, .int .u8 0, .int .u8 0, .int .u8 0, .int .u8 0, .int .u8 0, .int .u8 0, .int .u8 0, .int .u8 0, .int .u8 0, .int .u8 0, .int .u8 0, .int .u8 0, .int .u8 0, .int .u8 0, .int .u8 0, .int .u8 0, .int .u8 0, .int .u8 0, .int .u8 0, .int .u8 0, .int .u8 0, .int .u8 0, .int .u8 0, .int .u8 0, .int .u8 0, .int .u8 0, .int .i64 0, .int .u32 0, .int .i64 0] 41)) := Lib.hid (by rw [hW1, hWB, hWA, hZ, en0_cells])
  have HE0 : Hid (EJ w b w.heap.size (w.heap.size + 1) (w.heap.size + 1 + 1) s Z Z W1.drew) := Lib.hid
    ⟨grown_below ((show Kept w W1 from (hkA.then hkB).then hkC).then (show Kept W1 W1.drew from (Below.refl _ W1).drew)) _, (hkB.then hkC).row rA, hkC.row rB, Kept.row ((hkA.then hkB).then hkC) h, rC, by omega⟩
  obtain ⟨F, hF⟩ : ∃ F, F = fpR s := ⟨_, rfl⟩
  have hF32 : F.length ≤ 32 := by rw [hF]; exact fpR_len s
  obtain ⟨FT, hFT⟩ : ∃ T, T = str F := ⟨_, rfl⟩
  obtain ⟨s0, hs0⟩ : ∃ t, t = (takeR s 32).2 := ⟨_, rfl⟩
  have C0 := fun W h => mtake b s 32 W h hl FT (by rw [hFT, hF]; rfl) s0 hs0
  have l0 : s0.1.length ≤ 1000000 := by rw [hs0]; exact Nat.le_trans (takeR_len _ _) hl
  obtain ⟨q1, hq1⟩ : ∃ q, q = (lnR s).1 := ⟨_, rfl⟩
  obtain ⟨s1, hs1⟩ : ∃ t, t = (lnR s).2 := ⟨_, rfl⟩
  have C1 := fun W h => mu16 b s0 W h l0 q1 (by rw [hq1, hs0]; rfl) s1 (by rw [hs1, hs0]; rfl)
  have l1 : s1.1.length ≤ 1000000 := by rw [hs1]; exact Nat.le_trans (numR_len _ _) (by rw [← hs0]; exact l0)
  obtain ⟨q2, hq2⟩ : ∃ q, q = (bxR s).1 := ⟨_, rfl⟩
  obtain ⟨s2, hs2⟩ : ∃ t, t = (bxR s).2 := ⟨_, rfl⟩
  have C2 := fun W h => mu32 b s1 W h l1 q2 (by rw [hq2, hs1]; rfl) s2 (by rw [hs2, hs1]; rfl)
  have l2 : s2.1.length ≤ 1000000 := by rw [hs2]; exact Nat.le_trans (numR_len _ _) (by rw [← hs1]; exact l1)
  obtain ⟨q3, hq3⟩ : ∃ q, q = (stR s).1 := ⟨_, rfl⟩
  have C3 := fun W h => mu16 b s2 W h l2 q3 (by rw [hq3, hs2]; rfl) sE (by rw [hsE, hs2]; rfl)
  have b1 : q1 < 256 ^ 2 := by rw [hq1]; exact numR_lt2 _ 2
  have b3 : q3 < 256 ^ 2 := by rw [hq3]; exact numR_lt2 _ 2
  have u1 : IntKind.i64.wrap (q1 : Int) = (q1 : Int) := IntWalk.i64_in _ (by omega)
  have u3 : IntKind.i64.wrap (q3 : Int) = (q3 : Int) := IntWalk.i64_in _ (by omega)
  have hp := padF_len hF32
  obtain ⟨X0, hX0⟩ : ∃ X, X = enC ⟨padF F, 0, 0, 0⟩ := ⟨_, rfl⟩
  obtain ⟨X1, hX1⟩ : ∃ X, X = enC ⟨padF F, (q1 : Int), 0, 0⟩ := ⟨_, rfl⟩
  obtain ⟨X2, hX2⟩ : ∃ X, X = enC ⟨padF F, (q1 : Int), q2, 0⟩ := ⟨_, rfl⟩
  have H32 : Hid (X0[32]? = some (.int .i64 0)) := Lib.hid (by rw [hX0]; exact enC_n hp)
  have H33 : Hid (X1[33]? = some (.int .u32 0)) := Lib.hid (by rw [hX1]; exact enC_b hp)
  have H34 : Hid (X2[34]? = some (.int .i64 0)) := Lib.hid (by rw [hX2]; exact enC_s hp)
  have HX1 : Hid (X0.setIfInBounds 32 (.int .i64 (q1 : Nat)) = X1) := Lib.hid (by rw [hX0, hX1]; exact en_set32 hp _)
  have HX2 : Hid (X1.setIfInBounds 33 (.int .u32 (q2 : Nat)) = X2) := Lib.hid (by rw [hX1, hX2]; exact en_set33 hp _)
  have HX3 : Hid (X2.setIfInBounds 34 (.int .i64 (q3 : Nat)) = X) := Lib.hid (by rw [hX2, hX, entR, hq1, hq2, hq3, hF]; exact en_set34 (by rw [← hF]; exact hp) _)
  have HXS : Hid (X.size = 35) := Lib.hid (by rw [hX]; exact enC_size (entR_wf s).1)
  have HXO : Hid (X.all (·.oneCell') = true) := Lib.hid (by rw [hX, Array.all_eq_true_iff_forall_mem]; intro x hx; exact encE.one _ (entR_wf s) x (by unfold enC at hx; simpa using hx))
  have HXI : Hid ((Tryz.prog.info? 41).map (·.size) = some X.size) := Lib.hid (by rw [HXS.out]; exact infoEn)
  have HSX : Hid (0 + 35 ≤ X.size ∧ X.extract 0 (0 + 35) = X) := Lib.hid ⟨by rw [HXS.out]; exact Nat.le_refl _, by rw [show 0 + 35 = X.size by rw [HXS.out]]; exact Array.extract_size⟩
  have HZS : Hid (Z.size = 35) := Lib.hid (by rw [hZ]; exact enC_size (by decide))
  have HLF : Hid (Nat.min FT.size 32 = F.length ∧ laidOver Z 0 (firstB FT F.length) = X0) := Lib.hid ⟨by rw [hFT, str_size]; exact Nat.min_eq_left hF32, by rw [hZ, hX0, hFT]; exact lay_fp hF32⟩
  have HC1 := Lib.hid C1
  have HC2 := Lib.hid C2
  have HC3 := Lib.hid C3
  have HBW := Lib.hid hbw
  clear hZ hWA hkA zA rA hWB hkB zB rB hW1 hkC rC hF hF32 hFT hs0 l0 hq1 hs1 l1 hq2 hs2 l2 hq3 b1 b3 hp hX0 hX1 hX2 hX hsE C1 C2 C3 h hl hbw
  clear WA WB
  go_enter Tryz.func55, Tryz.ntmps55
  go_wp2_with fail
  rw [← HW1.out]
  obtain ⟨bx, hbx⟩ : ∃ x, x = w.heap.size := ⟨_, rfl⟩
  obtain ⟨b2, hb2⟩ : ∃ x, x = w.heap.size + 1 := ⟨_, rfl⟩
  obtain ⟨b3, hb3⟩ : ∃ x, x = w.heap.size + 1 + 1 := ⟨_, rfl⟩
  rw [← hb3, ← hb2, ← hbx] at HE0
  have c0 := HE0.out.cx
  try rw [← hb3]
  try rw [← hb2]
  try rw [← hbx]
  clear hbx hb2 hb3
  refine wp_region_held_drew (S := fun _ => True) (by kernel_rfl) trivial (fun hHeld => ?_)
  refine wpAnyH_take (i := 0) (v := ?_) rfl (by kernel_rfl) (by kernel_rfl) (by kernel_rfl) (fun _ _ _ h => h) (Or.inl ⟨by first | kernel_rfl | rfl, ?_⟩) (by assumption) ?_
  case refine_2 => intro w hSw; go_simp; try with_reducible rfl
  refine wpAnyH_take (i := 1) (v := ?_) rfl (by kernel_rfl) (by kernel_rfl) (by kernel_rfl) (fun _ _ _ h => h) (Or.inl ⟨by first | kernel_rfl | rfl, ?_⟩) (by assumption) ?_
  case refine_2 => intro w hSw; go_simp; try with_reducible rfl
  refine wpAnyH_take (i := 2) (v := ?_) rfl (by kernel_rfl) (by kernel_rfl) (by kernel_rfl) (fun _ _ _ h => h) (Or.inl ⟨by first | kernel_rfl | rfl, ?_⟩) (by assumption) ?_
  case refine_2 => intro w hSw; go_simp; try with_reducible rfl
  refine wpAnyH_ready (rs := [3]) (by kernel_rfl) (by simp) (AllReadyH.cons rfl (fun K hK => ?_) AllReadyH.nil)
  go_simp
  refine hK.out _ _ trivial (fun _ => ?_)
  clear hK K
  refine wpAnyH_ready (rs := [4]) (by kernel_rfl) (by simp) (AllReadyH.cons rfl (fun K hK => ?_) AllReadyH.nil)
  go_simp
  refine (C0 _ HE0.out.rk).mono ?_
  rintro e w2 ⟨rfl, hr2, hg2⟩
  have HE2 := Lib.hid (HE0.out.read hr2 hg2)
  clear hr2 hg2 HE0 c0
  refine hK.out _ _ trivial (fun _ => ?_)
  clear hK K
  refine wpAnyH_ready (rs := [5]) (by kernel_rfl) (by simp) (AllReadyH.cons rfl (fun K hK => ?_) AllReadyH.nil)
  rw [if_pos (by rfl)]
  refine wp_copy_str _ _ _ _ rfl 5 Tryz.underlying62 infoU8M b3 0 32 32 FT rfl rfl Z 41 HE2.out.ck F.length HLF.out.1 (by rw [HZS.out]; decide) X0 HLF.out.2 ?_
  obtain ⟨W3, hW3⟩ : ∃ W, W = w2.setRow b3 X0 := ⟨_, rfl⟩
  have HE3 : Hid (EJ w b bx b2 b3 s0 Z X0 W3) := Lib.hid (by rw [hW3]; exact HE2.out.setR X0)
  rw [← hW3]
  have c3 := HE3.out.cx
  clear hW3 HE2
  refine hK.out _ _ trivial (fun _ => ?_)
  clear hK K
  refine wpAnyH_done (by kernel_rfl) ?_ _
  go_wp2_with fail
  refine (HC1.out _ HE3.out.rk).mono ?_
  rintro e w4 ⟨rfl, hr4, hg4⟩
  have HE4 := Lib.hid (HE3.out.read hr4 hg4)
  have f4 := frozen_of_row w4 b3 32 _ _ HE4.out.ck
  have y4 : w4.cell? ⟨b3, 32, none⟩ = some (.int .i64 0) := by rw [cell_of_row _ _ _ _ _ _ HE4.out.ck]; exact H32.out
  have HE5 := Lib.hid (HE4.out.setC 32 (.int .i64 (q1 : Nat)) X1 HX1.out)
  have c5 := HE5.out.cx
  clear hr4 hg4 HE3 c3 HE4 HC1
  go_wp2_with fail
  refine (HC2.out _ HE5.out.rk).mono ?_
  rintro e w6 ⟨rfl, hr6, hg6⟩
  have HE6 := Lib.hid (HE5.out.read hr6 hg6)
  have f6 := frozen_of_row w6 b3 33 _ _ HE6.out.ck
  have y6 : w6.cell? ⟨b3, 33, none⟩ = some (.int .u32 0) := by rw [cell_of_row _ _ _ _ _ _ HE6.out.ck]; exact H33.out
  have HE7 := Lib.hid (HE6.out.setC 33 (.int .u32 (q2 : Nat)) X2 HX2.out)
  have c7 := HE7.out.cx
  clear hr6 hg6 HE5 c5 HE6 HC2 y4 f4
  go_wp2_with fail
  refine (HC3.out _ HE7.out.rk).mono ?_
  rintro e w8 ⟨rfl, hr8, hg8⟩
  have HE8 := Lib.hid (HE7.out.read hr8 hg8)
  have f8 := frozen_of_row w8 b3 34 _ _ HE8.out.ck
  have y8 : w8.cell? ⟨b3, 34, none⟩ = some (.int .i64 0) := by rw [cell_of_row _ _ _ _ _ _ HE8.out.ck]; exact H34.out
  have HE9 := Lib.hid (HE8.out.setC 34 (.int .i64 (q3 : Nat)) X HX3.out)
  have r9 := HE9.out.ck
  have z9 := HE9.out.zk
  clear hr8 hg8 HE7 c7 HE8 HC3 y6 f6
  go_wp2_with (first
    | (with_reducible refine wpList_load_sub rfl _ _ rfl b3 0 35 rfl 41 X (0, 0) _ r9 Tryz.underlying41 rfl infoEn HSX.out.1 X HSX.out.2 ?_)
    | ((with_reducible refine wpList_store_row rfl _ _ _ rfl b2 X rfl rfl 41 Z z9 HXI.out ?hold HXO.out ?_); rotate_left))
  case hold => rw [HXS.out, HZS.out]
  have hf := HE9.out.fin X
  refine bodyPost_ret (results_cell_row Tryz.results55 _ _ b2 41 X (0, 0) _ rfl hf.1 Tryz.underlying41 rfl HXI.out) rfl ⟨rfl, hf.2.1, hf.2.2⟩

end Go.Proofs.YteompckehokdoaaGreatDoor
namespace Go.Proofs.YteompckehokdoaaGreatDoor
open Go.RowKit

theorem wpList_minM {P : Program} {ops : Array Oper} {rest : List Oper} {o : Oper} {a : Act} {w : World} {Q : Exit → Act → World → Prop} (hgd : o.guard = none) (x y : Operand) (t u : TypeId)
    (ho : o.op = .call { callee := .builtin .min, args := #[x, y], argTypes := #[t, u] }) (k k' : IntKind) (m n r : Int) (hx : a.eval x = .int k m) (hy : a.eval y = .int k' n) (hr : (if n < m then n else m) = r)
    (h : wpList P ops Q rest (a.put o.dst (.int k r)) w) : wpList P ops Q (o :: rest) a w := by
  refine wpList_plain hgd fun K hK => ?_
  subst hr
  unfold Oper.wp execOp
  simp only [ho, resolve, invoke, builtin, Sem.run_bind, Sem.run_pure, Result.andThen_ok, List.map_toArray, List.map_cons, List.map_nil, hx, hy, run_min_int2]
  exact hK _ _ h

/-- A manifest in the making, its reader, and the box of the reader's struct. -/
structure MR (w0 : World) (br b1 b0 b5 base id : Nat) (tv : Value) (l : List En) (s : RdSt) (wx : World) : Prop where
  mi : MI w0 b0 b5 base id tv l wx
  rd : RdAt br s wx
  rx : wx.heap[b1]? = some (.cells #[.pointer (some ⟨br, 0, none⟩)] 78 (0, 0))
  lt : w0.heap.size ≤ br ∧ br < b1 ∧ b1 < b0
theorem MR.cx {w0 wx : World} {br b1 b0 b5 base id : Nat} {tv : Value} {l : List En} {s : RdSt} (h : MR w0 br b1 b0 b5 base id tv l s wx) : wx.cell? ⟨b1, 0, none⟩ = some (.pointer (some ⟨br, 0, none⟩)) := by rw [cell_of_row _ _ _ _ _ _ h.rx]; rfl
theorem MR.read {w0 wx wy : World} {br b1 b0 b5 base id : Nat} {tv : Value} {l : List En} {s s' : RdSt} (h : MR w0 br b1 b0 b5 base id tv l s wx) (hr : RdAt br s' wy) (hg : wx.grownBy wy (some br)) : MR w0 br b1 b0 b5 base id tv l s' wy where
  mi := h.mi.grown hg (by have := h.lt; have := h.mi.ord; omega)
  rd := hr
  rx := by rw [hg.block b1 (Array.getElem?_eq_some_iff.1 h.rx).1 (fun e => by have := Option.some.inj e; have := h.lt; omega)]; exact h.rx
  lt := h.lt
theorem MR.kept {w0 wx wy : World} {br b1 b0 b5 base id : Nat} {tv : Value} {l : List En} {s : RdSt} (h : MR w0 br b1 b0 b5 base id tv l s wx) (k : Kept wx wy) : MR w0 br b1 b0 b5 base id tv l s wy where
  mi := h.mi.later k
  rd := Kept.row k h.rd
  rx := k.row h.rx
  lt := h.lt
theorem MR.app {w0 wd w6 : World} {br b1 b0 b5 base id : Nat} {tv v' : Value} {l : List En} {s : RdSt} {e : En} {XA : Array Value} (h : MR w0 br b1 b0 b5 base id tv l s wd)
    (ho6 : w6.ownsRow base 41 35 v' (l.length + 1) (flatR enL l ++ enL e)) (hg : (wd.alloc (.cells XA 41)).grownBy w6 tv.ownBlock) :
    w6.heap[b5]? = some (.cells #[.int .u32 (id : Nat), tv] 25 (0, 0)) ∧ w6.cell? ⟨b1, 0, none⟩ = some (.pointer (some ⟨br, 0, none⟩)) ∧ MR w0 br b1 b0 b5 base id v' (l ++ [e]) s (w6.setCell ⟨b5, 1, none⟩ v') := by
  obtain ⟨h5, -, hmi⟩ := h.mi.app ho6 hg
  have ka : Kept wd (wd.alloc (.cells XA 41)) := box_below _ _
  have hlt := h.lt
  have hord := h.mi.ord
  have hb : ∀ m, m < base → m < wd.heap.size → w6.heap[m]? = wd.heap[m]? := fun m hm hl =>
    (hg.block m (Nat.lt_of_lt_of_le hl ka.size) (fun e => by have := (h.mi.own.lt m e.symm).1; omega)).trans (ka.block m hl)
  have hx : w6.heap[b1]? = some (.cells #[.pointer (some ⟨br, 0, none⟩)] 78 (0, 0)) := by
    rw [hb b1 (by omega) (Array.getElem?_eq_some_iff.1 h.rx).1]; exact h.rx
  refine ⟨h5, by rw [cell_of_row _ _ _ _ _ _ hx]; rfl, hmi, ?_, ?_, hlt⟩
  · exact (h.rd.stayM (hb br (by omega) h.rd.lt)).stayM (heap_setCell_other _ _ _ _ (by show br ≠ b5; omega))
  · rw [heap_setCell_other _ _ _ _ (by show b1 ≠ b5; omega)]; exact hx

set_option maxRecDepth 100000 in
set_option maxHeartbeats 32000000 in
theorem mman_any (w0 : World) (br : Nat) (S : List UInt8) (w : World) (hk0 : Kept w0 w) (hb0 : w0.heap.size ≤ br) (h : RdAt br (S, 0) w) (hSl : S.length ≤ 1000000) :
    Calls Tryz.prog 36 #[.agg #[.pointer (some ⟨br, 0, none⟩)]] w fun e w' => ∃ v, e = .returned v ∧ (∀ W : World, (∀ k, w.heap.size ≤ k → k < w'.heap.size → W.heap[k]? = w'.heap[k]?) → ManIs (manL S) v W) ∧ Kept w0 w' := by
  obtain ⟨ir, z, hx1, hx2, hx3, hx4, hx5⟩ := infoEnF
  have HIR := Lib.hid hx1
  have HZ0 := Lib.hid hx2
  have HZ1 := Lib.hid hx3
  have HZ2 := Lib.hid hx4
  have HZS := Lib.hid hx5
  have hbw := h.lt
  obtain ⟨WA, hWA⟩ : ∃ WA, WA = w.alloc (.cells #[.pointer (some ⟨br, 0, none⟩)] 78) := ⟨_, rfl⟩
  have hkA : Kept w WA := by rw [hWA]; exact box_below _ _
  have zA : WA.heap.size = w.heap.size + 1 := by rw [hWA]; simp
  have rA : WA.heap[w.heap.size]? = some (.cells #[.pointer (some ⟨br, 0, none⟩)] 78 (0, 0)) := by rw [hWA]; exact heap_alloc_last w _
  obtain ⟨W1, hW1⟩ : ∃ W1, W1 = WA.alloc (.cells #[.int .u32 0, .slice none 0 0] 25) := ⟨_, rfl⟩
  have hkB : Kept WA W1 := by rw [hW1]; exact box_below _ _
  have rB : W1.heap[w.heap.size + 1]? = some (.cells #[.int .u32 0, .slice none 0 0] 25 (0, 0)) := by rw [hW1, ← zA]; exact heap_alloc_last WA _
  have HW1 : Hid (W1 = (w.alloc (.cells #[.pointer (some ⟨br, 0, none⟩)] 78)).alloc (.cells #[.int .u32 0, .slice none 0 0] 25)) := Lib.hid (by rw [hW1, hWA])
  have HX1 : Hid (W1.heap[w.heap.size]? = some (.cells #[.pointer (some ⟨br, 0, none⟩)] 78 (0, 0))) := Lib.hid (hkB.row rA)
  have HB1 := Lib.hid rB
  have HR1 : Hid (RdAt br (S, 0) W1) := Lib.hid (Kept.row (hkA.then hkB) h)
  have HK1 : Hid (Kept w0 W1) := Lib.hid (hk0.then (hkA.then hkB))
  have HLT : Hid (w0.heap.size ≤ br ∧ br < w.heap.size) := Lib.hid ⟨hb0, hbw⟩
  obtain ⟨sA, hsA⟩ : ∃ s, s = (takeR (S, 0) 4).2 := ⟨_, rfl⟩
  obtain ⟨TA, hTA⟩ : ∃ s, s = str (takeR (S, 0) 4).1 := ⟨_, rfl⟩
  obtain ⟨id, hid⟩ : ∃ n, n = (idRM S).1 := ⟨_, rfl⟩
  obtain ⟨sB, hsB⟩ : ∃ s, s = (idRM S).2 := ⟨_, rfl⟩
  obtain ⟨n, hn⟩ : ∃ n, n = (cnRM S).1 := ⟨_, rfl⟩
  obtain ⟨sC, hsC⟩ : ∃ s, s = (cnRM S).2 := ⟨_, rfl⟩
  have lA : sA.1.length ≤ 1000000 := by rw [hsA]; exact Nat.le_trans (takeR_len _ _) hSl
  have lB : sB.1.length ≤ 1000000 := by rw [hsB]; exact Nat.le_trans (numR_len _ _) (by rw [← hsA]; exact lA)
  have HLC : Hid (sC.1.length ≤ 1000000) := Lib.hid (by rw [hsC]; exact Nat.le_trans (numR_len _ _) (by rw [← hsB]; exact lB))
  have CT := mtake br (S, 0) 4 W1 HR1.out hSl TA hTA sA hsA
  have HCI := Lib.hid (fun W h => mu32 br sA W h lA id (by rw [hid, hsA]; rfl) sB (by rw [hsB, hsA]; rfl))
  have HCN := Lib.hid (fun W h => mu16 br sB W h lB n (by rw [hn, hsB]; rfl) sC (by rw [hsC, hsB]; rfl))
  have hidl : id < 256 ^ 4 := by rw [hid]; exact numR_lt2 _ _
  have HIDL : Hid (id < 4294967296) := Lib.hid (by omega)
  obtain ⟨m, hm⟩ : ∃ m, m = min n 256 := ⟨_, rfl⟩
  have hm256 : m ≤ 256 := by omega
  have HMN : Hid ((if (256 : Int) < (n : Int) then (256 : Int) else (n : Int)) = m) := Lib.hid (by split <;> omega)
  obtain ⟨FIN, hFIN⟩ : ∃ F, F = entsR m sC [] := ⟨_, rfl⟩
  have HFIN : Hid (entsR m sC [] = FIN) := Lib.hid hFIN.symm
  have HML : Hid (manL S = ⟨id, FIN.1⟩) := Lib.hid (by rw [hFIN, hm, hn, hsC, hid]; rfl)
  have HWF := Lib.hid (manL_wf S)
  clear hx1 hx2 hx3 hx4 hx5 hbw hWA hkA zA rA hW1 hkB rB hsA hTA hid hsB hn hsC lA lB hidl hm hFIN h hSl hk0 hb0
  clear WA
  go_enter Tryz.func36, Tryz.ntmps36
  go_wp2_with fail
  rw [← HW1.out]
  obtain ⟨b1, hb1⟩ : ∃ x, x = w.heap.size := ⟨_, rfl⟩
  obtain ⟨b0, hb0⟩ : ∃ x, x = w.heap.size + 1 := ⟨_, rfl⟩
  have HBB : Hid (b1 = w.heap.size ∧ b0 = b1 + 1) := Lib.hid ⟨hb1, by omega⟩
  rw [← hb0] at HB1
  rw [← hb1] at HX1 HLT
  try rw [← hb0]
  try rw [← hb1]
  clear hb1 hb0
  refine CT.mono ?_
  rintro e W2 ⟨rfl, hr2, hg2⟩
  have HR2 := Lib.hid hr2
  have HX2 : Hid (W2.heap[b1]? = some (.cells #[.pointer (some ⟨br, 0, none⟩)] 78 (0, 0))) := Lib.hid (by rw [hg2.block _ (Array.getElem?_eq_some_iff.1 HX1.out).1 (fun e => by have := Option.some.inj e; have := HLT.out; omega)]; exact HX1.out)
  have HB2 : Hid (W2.heap[b0]? = some (.cells #[.int .u32 0, .slice none 0 0] 25 (0, 0))) := Lib.hid (by rw [hg2.block _ (Array.getElem?_eq_some_iff.1 HB1.out).1 (fun e => by have := Option.some.inj e; have := HLT.out; have := HBB.out; omega)]; exact HB1.out)
  have HK2 : Hid (Kept w0 W2) := Lib.hid (below_touch (show Below w0.heap.size w0 W1 from HK1.out) hg2 HK1.out.size HLT.out.1)
  have c2 : W2.cell? ⟨b1, 0, none⟩ = some (.pointer (some ⟨br, 0, none⟩)) := by rw [cell_of_row _ _ _ _ _ _ HX2.out]; rfl
  clear hr2 hg2 HR1 HX1 HB1 HK1 CT
  go_wp2_with fail
  refine (HCI.out _ HR2.out).mono ?_
  rintro e W3 ⟨rfl, hr3, hg3⟩
  have hx3 : W3.heap[b1]? = some (.cells #[.pointer (some ⟨br, 0, none⟩)] 78 (0, 0)) := by rw [hg3.block _ (Array.getElem?_eq_some_iff.1 HX2.out).1 (fun e => by have := Option.some.inj e; have := HLT.out; omega)]; exact HX2.out
  have hb3 : W3.heap[b0]? = some (.cells #[.int .u32 0, .slice none 0 0] 25 (0, 0)) := by rw [hg3.block _ (Array.getElem?_eq_some_iff.1 HB2.out).1 (fun e => by have := Option.some.inj e; have := HLT.out; have := HBB.out; omega)]; exact HB2.out
  have hk3 : Kept w0 W3 := below_touch (show Below w0.heap.size w0 W2 from HK2.out) hg3 HK2.out.size HLT.out.1
  obtain ⟨b5, hb5⟩ : ∃ b5, b5 = W3.heap.size := ⟨_, rfl⟩
  have HB5 := Lib.hid hb5
  obtain ⟨W5, hW5⟩ : ∃ W5, W5 = W3.alloc (.cells #[.int .u32 (id : Nat), .slice none 0 0] 25) := ⟨_, rfl⟩
  have HW5 := Lib.hid hW5
  have hk5 : Kept W3 W5 := by rw [hW5]; exact box_below _ _
  obtain ⟨B, hB⟩ : ∃ B, B = b5 + 1 := ⟨_, rfl⟩
  have hb05 : b0 < b5 := by rw [hb5]; exact (Array.getElem?_eq_some_iff.1 hb3).1
  have HI5 : Hid (MR w0 br b1 b0 b5 B id (.slice none 0 0) [] sB W5) := Lib.hid (by
    refine ⟨⟨hk3.then hk5, by rw [hB, hW5, hb5]; simp, hk5.row hb3, by rw [hW5, hb5]; exact heap_alloc_last W3 _, World.ownsRow_nil _ _ _ _, ?_⟩, Kept.row hk5 hr3, hk5.row hx3, ?_⟩
    · have := HLT.out; have := HBB.out; omega
    · have := HLT.out; have := HBB.out; omega)
  have HBL : Hid (b1 < B) := Lib.hid (by have := HBB.out; omega)
  have c5 := HI5.out.cx
  rw [hW5] at c5
  have C3 := HCN.out W5 HI5.out.rd
  clear hr3 hg3 hx3 hb3 hk3 hb5 hW5 hk5 hB hb05 HR2 HX2 HB2 HK2 c2 HCI HCN
  go_wp2_with fail
  try rw [← HB5.out]
  rw [← HW5.out]
  refine C3.mono ?_
  rintro e W6 ⟨rfl, hr6, hg6⟩
  have HI6 := Lib.hid (HI5.out.read hr6 hg6)
  clear hr6 hg6 HI5 C3 c5
  go_wp2_with (with_reducible refine wpList_minM rfl _ _ _ _ rfl .u16 .u16 n 256 m rfl rfl HMN.out ?_)
  go_loopg [15] m (fun gh y wr => ∃ (k : Nat) (l : List En) (tv : Value) (s' : RdSt), k + gh = m ∧ y = .int .u16 k ∧ l.length = k ∧ Hid (MR w0 br b1 b0 b5 B id tv l s' wr) ∧ Hid (entsR gh s' l = FIN) ∧ Hid (s'.1.length ≤ 1000000))
  case atStart => exact ⟨0, [], _, _, by omega, rfl, rfl, HI6, HFIN, HLC⟩
  case round =>
    clear HI6 HFIN HLC
    obtain ⟨k, l, tv, s', hk, rfl, hlk, HH, HSF, HL⟩ := hrel
    obtain ⟨pv, cv, htv, -, -⟩ := own_slice HH.out.mi.own
    subst htv
    by_cases hlt : k < m
    · have hki : (k : Int) < m := by omega
      have bk : decide ((k : Int) < (m : Int)) = true := by simpa using hki
      obtain ⟨gk', hgk'⟩ : ∃ g, gk = g + 1 := ⟨gk - 1, by omega⟩
      subst hgk'
      obtain ⟨EN, hEN⟩ : ∃ E, E = (entR s').1 := ⟨_, rfl⟩
      obtain ⟨sE, hsE⟩ : ∃ t, t = (entR s').2 := ⟨_, rfl⟩
      obtain ⟨X, hX⟩ : ∃ X, X = enC EN := ⟨_, rfl⟩
      have hwe : wfE EN := by rw [hEN]; exact entR_wf s'
      have CE := Lib.hid (fun W h => mentry_any br s' W h HL.out X (by rw [hX, hEN]) sE hsE)
      have HXS : Hid (X.size = 35) := Lib.hid (by rw [hX]; exact enC_size hwe.1)
      have HONE := Lib.hid (fun (W : World) => flat_rec encE W 41 EN hwe X hX)
      have HL2 : Hid (sE.1.length ≤ 1000000) := Lib.hid (by rw [hsE]; exact Nat.le_trans (entR_short _) HL.out)
      have hsf := HSF.out
      rw [entsR, ← hEN, ← hsE] at hsf
      replace HSF : Hid (entsR gk' sE (l ++ [EN]) = FIN) := Lib.hid hsf
      obtain ⟨k1, hk1⟩ : ∃ k1, k1 = k + 1 := ⟨_, rfl⟩
      have v1 : IntKind.u16.wrap ((k : Int) + 1) = (k1 : Int) := by rw [show (k : Int) + 1 = (k1 : Int) by omega]; exact wrap_u16 (by omega)
      have HK1 := Lib.hid hk1
      have HKLT : Hid (k < 300 ∧ l.length = k) := Lib.hid ⟨by omega, hlk⟩
      have HKL1 : Hid (l.length + 1 = k1) := Lib.hid (by omega)
      have HGK : Hid (k + (gk' + 1) = m) := Lib.hid hk
      have c1 := HH.out.mi.c1
      have HD : Hid (MR w0 br b1 b0 b5 B id (.slice pv l.length cv) l s' wr.drew) := Lib.hid (HH.out.kept (show Kept wr wr.drew from (Below.refl _ wr).drew))
      clear hEN hsE hX hwe hsf hk1 hlk hk HH HL
      go_wp2_with fail
      refine wp_region_held_drew (S := fun W => W.cell? ⟨b1, 0, none⟩ = some (.pointer (some ⟨br, 0, none⟩))) (by kernel_rfl) HD.out.cx (fun hHeld => ?_)
      refine wpAnyH_take (i := 0) (v := ?_) rfl (by kernel_rfl) (by kernel_rfl) (by kernel_rfl) (fun _ _ _ h => h) (Or.inl ⟨by first | kernel_rfl | rfl, ?_⟩) (by assumption) ?_
      case refine_2 => intro w hSw; have e0 : w.cell? ⟨b1, 0, none⟩ = some (.pointer (some ⟨br, 0, none⟩)) := hSw; go_simp; try with_reducible rfl
      refine wpAnyH_take (i := 2) (v := ?_) rfl (by kernel_rfl) (by kernel_rfl) (by kernel_rfl) (fun _ _ _ h => h) (Or.inl ⟨by first | kernel_rfl | rfl, ?_⟩) (by assumption) ?_
      case refine_2 => intro w hSw; have e0 : w.cell? ⟨b1, 0, none⟩ = some (.pointer (some ⟨br, 0, none⟩)) := hSw; go_simp; try with_reducible rfl
      refine wpAnyH_ready (rs := [1, 3]) (by kernel_rfl) (by simp) (AllReadyH.cons rfl (fun K hK => ?_) (AllReadyH.cons rfl (fun K hK => ?_) AllReadyH.nil))
      · go_simp
        refine hK.out _ _ (HD.out.cx) (fun hSn => ?_)
        clear hK K
        refine wpAnyH_ready (rs := [3]) (by kernel_rfl) (by simp) (AllReadyH.cons rfl (fun K hK => ?_) AllReadyH.nil)
        go_simp
        refine (CE.out _ HD.out.rd).mono ?_
        rintro e w3 ⟨rfl, hr3, hb3⟩
        have HH3 := Lib.hid (HD.out.read hr3 hb3)
        have c3 := HH3.out.mi.c1
        clear hr3 hb3
        refine hK.out _ _ (HH3.out.cx) (fun hSn => ?_)
        clear hK K
        refine wpAnyH_ready (rs := [4]) (by kernel_rfl) (by simp) (AllReadyH.cons rfl (fun K hK => ?_) AllReadyH.nil)
        rw [if_pos (by rfl)]
        refine wp_buildR _ _ _ rfl 35 ir z Tryz.underlying23 HIR.out HZ1.out HZ0.out (by decide) (by decide) X rfl HXS.out ?_
        have HH4 := Lib.hid (HH3.out.kept (box_below w3 (.cells X 41)))
        have c4 := HH4.out.mi.c1
        refine hK.out _ _ (HH4.out.cx) (fun hSn => ?_)
        clear hK K
        refine wpAnyH_ready (rs := [5]) (by kernel_rfl) (by simp) (AllReadyH.cons rfl (fun K hK => ?_) AllReadyH.nil)
        rw [if_pos (by rfl)]
        refine wp_append_flat _ _ 23 rfl B 41 ir z 35 56 Tryz.underlying23 HIR.out HZ0.out HZ1.out HZ2.out HZS.out (by decide) _ l.length (flatR enL l) ?q0 HH4.out.mi.own _ 1 (enL EN) rfl (HONE.out w3) ?q1 ?q2 ?q3 ?_
        case q0 => rfl
        case q1 => have := HKLT.out; unfold maxLen; omega
        case q2 => have := HKLT.out; omega
        case q3 => exact HH4.out.mi.size
        intro v' w6 hown6 hg6 _
        obtain ⟨hr6, hx6, hh6⟩ := HH3.out.app hown6 hg6
        have x5 : w6.cell? ⟨b5, 1, none⟩ = some (.slice pv l.length cv) := by rw [cell_of_row _ _ _ _ _ _ hr6]; rfl
        have f5 := frozen_of_row w6 b5 1 _ _ hr6
        have HH6 := Lib.hid hh6
        have HX6 := Lib.hid hx6
        obtain ⟨pv', cv', htv', -, -⟩ := own_slice hown6
        rw [HKL1.out] at htv'
        subst htv'
        clear hown6 hg6 hr6 hx6 hh6
        refine hK.out _ _ (HX6.out) (fun hSn => ?_)
        clear hK K
        refine wpAnyH_take (i := 6) (v := ?_) rfl (by kernel_rfl) (by kernel_rfl) (by kernel_rfl) (fun _ _ _ h => h) (Or.inl ⟨by first | kernel_rfl | rfl, ?_⟩) (by assumption) ?_
        case refine_2 => intro w hSw; have e0 : w.cell? ⟨b1, 0, none⟩ = some (.pointer (some ⟨br, 0, none⟩)) := hSw; go_simp; try with_reducible rfl
        refine wpAnyH_ready (rs := [7]) (by kernel_rfl) (by simp) (AllReadyH.cons rfl (fun K hK => ?_) AllReadyH.nil)
        go_simp
        refine hK.out _ _ (HH6.out.cx) (fun hSn => ?_)
        clear hK K
        refine wpAnyH_done (by kernel_rfl) ?_ _
        go_wp2
        go_roundg gk'
        · exact ⟨k1, l ++ [EN], _, sE, by have := HK1.out; have := HGK.out; omega, by first | rfl | (have := HK1.out; simp; omega), by have := HK1.out; have := HKLT.out; simp; omega, HH6, HSF, HL2⟩
        · have := HGK.out; omega
      · go_simp
        refine (CE.out _ HD.out.rd).mono ?_
        rintro e w3 ⟨rfl, hr3, hb3⟩
        have HH3 := Lib.hid (HD.out.read hr3 hb3)
        have c3 := HH3.out.mi.c1
        clear hr3 hb3
        refine hK.out _ _ (HH3.out.cx) (fun hSn => ?_)
        clear hK K
        refine wpAnyH_ready (rs := [1, 4]) (by kernel_rfl) (by simp) (AllReadyH.cons rfl (fun K hK => ?_) (AllReadyH.cons rfl (fun K hK => ?_) AllReadyH.nil))
        · go_simp
          refine hK.out _ _ (HH3.out.cx) (fun hSn => ?_)
          clear hK K
          refine wpAnyH_ready (rs := [4]) (by kernel_rfl) (by simp) (AllReadyH.cons rfl (fun K hK => ?_) AllReadyH.nil)
          rw [if_pos (by rfl)]
          refine wp_buildR _ _ _ rfl 35 ir z Tryz.underlying23 HIR.out HZ1.out HZ0.out (by decide) (by decide) X rfl HXS.out ?_
          have HH4 := Lib.hid (HH3.out.kept (box_below w3 (.cells X 41)))
          have c4 := HH4.out.mi.c1
          refine hK.out _ _ (HH4.out.cx) (fun hSn => ?_)
          clear hK K
          refine wpAnyH_ready (rs := [5]) (by kernel_rfl) (by simp) (AllReadyH.cons rfl (fun K hK => ?_) AllReadyH.nil)
          rw [if_pos (by rfl)]
          refine wp_append_flat _ _ 23 rfl B 41 ir z 35 56 Tryz.underlying23 HIR.out HZ0.out HZ1.out HZ2.out HZS.out (by decide) _ l.length (flatR enL l) ?q0 HH4.out.mi.own _ 1 (enL EN) rfl (HONE.out w3) ?q1 ?q2 ?q3 ?_
          case q0 => rfl
          case q1 => have := HKLT.out; unfold maxLen; omega
          case q2 => have := HKLT.out; omega
          case q3 => exact HH4.out.mi.size
          intro v' w6 hown6 hg6 _
          obtain ⟨hr6, hx6, hh6⟩ := HH3.out.app hown6 hg6
          have x5 : w6.cell? ⟨b5, 1, none⟩ = some (.slice pv l.length cv) := by rw [cell_of_row _ _ _ _ _ _ hr6]; rfl
          have f5 := frozen_of_row w6 b5 1 _ _ hr6
          have HH6 := Lib.hid hh6
          have HX6 := Lib.hid hx6
          obtain ⟨pv', cv', htv', -, -⟩ := own_slice hown6
          rw [HKL1.out] at htv'
          subst htv'
          clear hown6 hg6 hr6 hx6 hh6
          refine hK.out _ _ (HX6.out) (fun hSn => ?_)
          clear hK K
          refine wpAnyH_take (i := 6) (v := ?_) rfl (by kernel_rfl) (by kernel_rfl) (by kernel_rfl) (fun _ _ _ h => h) (Or.inl ⟨by first | kernel_rfl | rfl, ?_⟩) (by assumption) ?_
          case refine_2 => intro w hSw; have e0 : w.cell? ⟨b1, 0, none⟩ = some (.pointer (some ⟨br, 0, none⟩)) := hSw; go_simp; try with_reducible rfl
          refine wpAnyH_ready (rs := [7]) (by kernel_rfl) (by simp) (AllReadyH.cons rfl (fun K hK => ?_) AllReadyH.nil)
          go_simp
          refine hK.out _ _ (HH6.out.cx) (fun hSn => ?_)
          clear hK K
          refine wpAnyH_done (by kernel_rfl) ?_ _
          go_wp2
          go_roundg gk'
          · exact ⟨k1, l ++ [EN], _, sE, by have := HK1.out; have := HGK.out; omega, by first | rfl | (have := HK1.out; simp; omega), by have := HK1.out; have := HKLT.out; simp; omega, HH6, HSF, HL2⟩
          · have := HGK.out; omega
        · rw [if_pos (by rfl)]
          refine wp_buildR _ _ _ rfl 35 ir z Tryz.underlying23 HIR.out HZ1.out HZ0.out (by decide) (by decide) X rfl HXS.out ?_
          have HH4 := Lib.hid (HH3.out.kept (box_below w3 (.cells X 41)))
          have c4 := HH4.out.mi.c1
          refine hK.out _ _ (HH4.out.cx) (fun hSn => ?_)
          clear hK K
          refine wpAnyH_ready (rs := [1]) (by kernel_rfl) (by simp) (AllReadyH.cons rfl (fun K hK => ?_) AllReadyH.nil)
          go_simp
          refine hK.out _ _ (HH4.out.cx) (fun hSn => ?_)
          clear hK K
          refine wpAnyH_ready (rs := [5]) (by kernel_rfl) (by simp) (AllReadyH.cons rfl (fun K hK => ?_) AllReadyH.nil)
          rw [if_pos (by rfl)]
          refine wp_append_flat _ _ 23 rfl B 41 ir z 35 56 Tryz.underlying23 HIR.out HZ0.out HZ1.out HZ2.out HZS.out (by decide) _ l.length (flatR enL l) ?q0 HH4.out.mi.own _ 1 (enL EN) rfl (HONE.out w3) ?q1 ?q2 ?q3 ?_
          case q0 => rfl
          case q1 => have := HKLT.out; unfold maxLen; omega
          case q2 => have := HKLT.out; omega
          case q3 => exact HH4.out.mi.size
          intro v' w6 hown6 hg6 _
          obtain ⟨hr6, hx6, hh6⟩ := HH3.out.app hown6 hg6
          have x5 : w6.cell? ⟨b5, 1, none⟩ = some (.slice pv l.length cv) := by rw [cell_of_row _ _ _ _ _ _ hr6]; rfl
          have f5 := frozen_of_row w6 b5 1 _ _ hr6
          have HH6 := Lib.hid hh6
          have HX6 := Lib.hid hx6
          obtain ⟨pv', cv', htv', -, -⟩ := own_slice hown6
          rw [HKL1.out] at htv'
          subst htv'
          clear hown6 hg6 hr6 hx6 hh6
          refine hK.out _ _ (HX6.out) (fun hSn => ?_)
          clear hK K
          refine wpAnyH_take (i := 6) (v := ?_) rfl (by kernel_rfl) (by kernel_rfl) (by kernel_rfl) (fun _ _ _ h => h) (Or.inl ⟨by first | kernel_rfl | rfl, ?_⟩) (by assumption) ?_
          case refine_2 => intro w hSw; have e0 : w.cell? ⟨b1, 0, none⟩ = some (.pointer (some ⟨br, 0, none⟩)) := hSw; go_simp; try with_reducible rfl
          refine wpAnyH_ready (rs := [7]) (by kernel_rfl) (by simp) (AllReadyH.cons rfl (fun K hK => ?_) AllReadyH.nil)
          go_simp
          refine hK.out _ _ (HH6.out.cx) (fun hSn => ?_)
          clear hK K
          refine wpAnyH_done (by kernel_rfl) ?_ _
          go_wp2
          go_roundg gk'
          · exact ⟨k1, l ++ [EN], _, sE, by have := HK1.out; have := HGK.out; omega, by first | rfl | (have := HK1.out; simp; omega), by have := HK1.out; have := HKLT.out; simp; omega, HH6, HSF, HL2⟩
          · have := HGK.out; omega
    · have hki : ¬ (k : Int) < m := by omega
      have bk : decide ((k : Int) < (m : Int)) = false := by simpa using hki
      obtain rfl : gk = 0 := by omega
      have hfin : FIN.1 = l := by rw [← HSF.out]; rfl
      have HML2 : Hid (manL S = ⟨id, l⟩) := Lib.hid (by rw [HML.out, hfin])
      have c0 := HH.out.mi.c0
      have c1 := HH.out.mi.c1
      have r0 := HH.out.mi.row0
      have g0 : wr.cell? ⟨b0, 0, none⟩ = some (.int .u32 0) := by rw [cell_of_row _ _ _ _ _ _ r0]; rfl
      have g1 : wr.cell? ⟨b0, 1, none⟩ = some (.slice none 0 0) := by rw [cell_of_row _ _ _ _ _ _ r0]; rfl
      have f0 := frozen_of_row wr b0 0 _ _ r0
      have f1 := frozen_of_row wr b0 1 _ _ r0
      clear hlk hk hlt hfin r0 HSF HL HML
      go_wp2
      have hwf := HWF.out
      rw [HML2.out] at hwf
      refine bodyPost_ret (results_cell_row Tryz.results36 _ _ b0 25 #[.int .u32 (id : Nat), .slice pv l.length cv] (0, 0) _ rfl (set2_rowM HH.out.mi.row0 _ _) Tryz.underlying25 rfl infoMan) rfl ⟨_, rfl, fun W hW => ?_, below_set2M HH.out.mi.kept HH.out.mi.kept.size HH.out.mi.ord.1 _ _⟩
      rw [HML2.out]
      have ho := own_set2M HH.out.mi.own HH.out.mi.ord.2.1 (.int .u32 (id : Nat)) (.slice pv l.length cv)
      exact ⟨hwf.1, _, rfl, RowsAt.own encE hwf.2 (own_stay ho (fun j hj => hW j (by have := (ho.lt j hj).1; have := HBL.out; have := HBB.out; omega) (ho.lt j hj).2))⟩

end Go.Proofs.YteompckehokdoaaGreatDoor
namespace Go.Proofs.YteompckehokdoaaGreatDoor
open Go.RowKit

set_option maxRecDepth 100000 in
set_option maxHeartbeats 32000000 in
theorem getOkM : MGetOk := by
  intro t w ht hT
  obtain ⟨S, hS⟩ : ∃ S, S = t.data.toList := ⟨_, rfl⟩
  have hSl : S.length ≤ 1000000 := by rw [hS, data_len]; omega
  have hts : t = str S := by rw [hS, str_data]
  rw [← hS]
  have HT := Lib.hid hT
  obtain ⟨G, hG⟩ : ∃ G, G = getM S := ⟨_, rfl⟩
  obtain ⟨M, hM⟩ : ∃ M, M = manL S := ⟨_, rfl⟩
  have HG : Hid (G = if mayM M ∧ manB M = S then some M else none) := Lib.hid (by rw [hG, hM]; exact getM_land S)
  obtain ⟨gv, hgv⟩ : ∃ x, x = getV S := ⟨_, rfl⟩
  have HGV : Hid (gv = if G.isSome then 0 else 110) := Lib.hid (by rw [hgv, hG]; rfl)
  rw [← hgv, ← hG]
  have HML : Hid (M.es.length ≤ 256) := Lib.hid (by rw [hM]; exact manL_len S)
  have HTS := Lib.hid hts
  obtain ⟨W1, hW1⟩ : ∃ W1, W1 = w.alloc (.cells #[.int .u32 0, .slice none 0 0] 25) := ⟨_, rfl⟩
  have HW1 := Lib.hid hW1
  have hrow := heap_alloc_last w (.cells #[.int .u32 0, .slice none 0 0] 25)
  rw [← hW1] at hrow
  have HROW := Lib.hid hrow
  have HK1 : Hid (Kept w W1) := Lib.hid (by rw [hW1]; exact box_below _ _)
  have HZ1 : Hid (W1.heap.size = w.heap.size + 1) := Lib.hid (by rw [hW1]; simp)
  have CR := read_any t W1
  rw [← hS] at CR
  have CM := Lib.hid (fun br W (k : Kept W1 W) (h1 : W1.heap.size ≤ br) (h : RdAt br (S, 0) W) => mman_any W1 br S W k h1 h hSl)
  rw [← hM] at CM
  clear hS hSl hts hT hG hM hgv hW1 hrow ht
  go_enter Tryz.func15, Tryz.ntmps15
  go_wp2_with fail
  rw [← HW1.out]
  refine CR.mono ?_
  rintro e w2 ⟨rfl, hr2, hb2⟩
  have C2 := CM.out _ w2 hb2 (Nat.le_refl _) hr2
  have HZ2 : Hid (W1.heap.size ≤ w2.heap.size) := Lib.hid hb2.size
  clear hb2 hr2 CR CM
  go_wp2_with fail
  refine C2.mono ?_
  rintro e w3 ⟨v, rfl, hman, hk3⟩
  have HK3 := Lib.hid hk3
  obtain ⟨-, sv, hv, he⟩ := hman w3 (fun _ _ _ => rfl)
  obtain ⟨p, c, hsv, -, -⟩ := he.out encE
  obtain ⟨n, hn⟩ : ∃ n, n = M.es.length := ⟨_, rfl⟩
  obtain ⟨id, hid⟩ : ∃ n, n = M.id := ⟨_, rfl⟩
  rw [← hn] at hsv
  rw [← hid] at hv
  subst hsv
  subst hv
  have HMAN := Lib.hid hman
  obtain ⟨W4, hW4⟩ : ∃ W, W = w3.alloc (.cells #[.int .u32 (id : Nat), .slice p n c] 25) := ⟨_, rfl⟩
  have HW4 := Lib.hid hW4
  have hk4 : Kept w3 W4 := by rw [hW4]; exact box_below _ _
  have HK4 := Lib.hid hk4
  have hr4 : W4.heap[w3.heap.size]? = some (.cells #[.int .u32 (id : Nat), .slice p n c] 25 (0, 0)) := by rw [hW4]; exact heap_alloc_last w3 _
  have HR4 := Lib.hid hr4
  have e0 : W4.cell? ⟨w3.heap.size, 0, none⟩ = some (.int .u32 (id : Nat)) := by rw [cell_of_row _ _ _ _ _ _ hr4]; rfl
  have e1 : W4.cell? ⟨w3.heap.size, 1, none⟩ = some (.slice p n c) := by rw [cell_of_row _ _ _ _ _ _ hr4]; rfl
  rw [hW4] at e0 e1
  have CP := putOkM M _ W4 (HMAN.out W4 (fun k _ hk => hk4.block k hk)) (by have := HML.out; omega) (HT.out.later (((show Kept w W1 from HK1.out).then hk3).then hk4))
  have HFIN : Hid (∀ w5 x y, Kept W4 w5 → ManIs M (.agg #[.int .u32 (id : Nat), .slice p n c]) ((w5.setCell ⟨w.heap.size, 0, none⟩ x).setCell ⟨w.heap.size, 1, none⟩ y)) := Lib.hid (fun w5 x y hk5 => HMAN.out _ (fun k h1 h2 => by
    have hne : k ≠ w.heap.size := by have := HZ1.out; have := HZ2.out; omega
    rw [heap_setCell_other _ _ _ _ hne, heap_setCell_other _ _ _ _ hne, hk5.block k (Nat.lt_of_lt_of_le h2 hk4.size), hk4.block k h2]))
  have HRW : Hid (∀ w5, Kept W4 w5 → w5.heap[w.heap.size]? = some (.cells #[.int .u32 0, .slice none 0 0] 25 (0, 0)) ∧ Kept w w5) := Lib.hid (fun w5 hk5 => ⟨((show Kept W1 w3 from hk3).then hk4).then hk5 |>.row HROW.out, (((show Kept w W1 from HK1.out).then hk3).then hk4).then hk5⟩)
  clear hman hk3 he hn hid hW4 hk4 hr4 C2 HMAN
  by_cases hm : mayM M
  · rw [if_pos hm] at CP
    unfold putV at CP
    rw [if_pos hm] at CP
    obtain ⟨RES, hRES⟩ : ∃ R, R = str (manB M) := ⟨_, rfl⟩
    rw [← hRES] at CP
    by_cases hb : manB M = S
    · obtain rfl : RES = t := by rw [hRES, hb, HTS.out]
      have hg : G = some M := by rw [HG.out, if_pos ⟨hm, hb⟩]
      obtain rfl : gv = 0 := by rw [HGV.out, hg]; rfl
      subst hg
      clear hRES hm hb HTS
      go_wp2_with fail
      rw [← HW4.out]
      refine CP.mono ?_
      rintro e w5 ⟨rfl, hb5⟩
      have hr5 := Kept.row hb5 HR4.out
      have d0 : w5.cell? ⟨w3.heap.size, 0, none⟩ = some (.int .u32 (id : Nat)) := by rw [cell_of_row _ _ _ _ _ _ hr5]; rfl
      have d1 : w5.cell? ⟨w3.heap.size, 1, none⟩ = some (.slice p n c) := by rw [cell_of_row _ _ _ _ _ _ hr5]; rfl
      obtain ⟨hrr, hkk⟩ := HRW.out w5 hb5
      have HRR := Lib.hid hrr
      have HKK := Lib.hid hkk
      have HF := Lib.hid (fun x y => HFIN.out w5 x y hb5)
      have g0 : w5.cell? ⟨w.heap.size, 0, none⟩ = some (.int .u32 0) := by rw [cell_of_row _ _ _ _ _ _ hrr]; rfl
      have g1 : w5.cell? ⟨w.heap.size, 1, none⟩ = some (.slice none 0 0) := by rw [cell_of_row _ _ _ _ _ _ hrr]; rfl
      have f0 := frozen_of_row w5 w.heap.size 0 _ _ hrr
      have f1 := frozen_of_row w5 w.heap.size 1 _ _ hrr
      clear hb5 hr5 hrr hkk CP e0 e1
      go_wp2
      refine bodyPost_ret (results_cell_tmp_rowM Tryz.results15 _ _ w.heap.size 25 #[.int .u32 (id : Nat), .slice p n c] (0, 0) _ rfl (set2_rowM HRR.out _ _) Tryz.underlying25 rfl infoMan) rfl ⟨⟨_, rfl, HF.out _ _⟩, below_set2M HKK.out HKK.out.size (Nat.le_refl _) _ _⟩
    · have hRt : RES ≠ t := fun e => hb (by
        have h := congrArg (fun b : ByteArray => b.data.toList) (show str (manB M) = str S by rw [← hRES, e, HTS.out])
        simp only [str_list] at h
        exact h)
      have tn := text_neM hRt
      have tn2 : (!(RES.toList == t.toList)) = true := by rw [tn]; rfl
      have tn3 : (RES.toList != t.toList) = true := tn2
      have hg : G = none := by rw [HG.out, if_neg (fun h => hb h.2)]
      obtain rfl : gv = 110 := by rw [HGV.out, hg]; rfl
      subst hg
      clear hRES hm hb HTS hRt
      go_wp2_with fail
      rw [← HW4.out]
      refine CP.mono ?_
      rintro e w5 ⟨rfl, hb5⟩
      obtain ⟨hrr, hkk⟩ := HRW.out w5 hb5
      have HRR := Lib.hid hrr
      have HKK := Lib.hid hkk
      have g0 : w5.cell? ⟨w.heap.size, 0, none⟩ = some (.int .u32 0) := by rw [cell_of_row _ _ _ _ _ _ hrr]; rfl
      have g1 : w5.cell? ⟨w.heap.size, 1, none⟩ = some (.slice none 0 0) := by rw [cell_of_row _ _ _ _ _ _ hrr]; rfl
      have f0 := frozen_of_row w5 w.heap.size 0 _ _ hrr
      have f1 := frozen_of_row w5 w.heap.size 1 _ _ hrr
      clear hb5 hrr hkk CP e0 e1
      go_wp2
      refine bodyPost_ret (results_cell_tmp_rowM Tryz.results15 _ _ w.heap.size 25 #[.int .u32 0, .slice none 0 0] (0, 0) _ rfl (set2_rowM HRR.out _ _) Tryz.underlying25 rfl infoMan) rfl ⟨⟨_, rfl, ManIs.zero _⟩, below_set2M HKK.out HKK.out.size (Nat.le_refl _) _ _⟩
  · rw [if_neg hm] at CP
    unfold putV at CP
    rw [if_neg hm] at CP
    have hg : G = none := by rw [HG.out, if_neg (fun h => hm h.1)]
    obtain rfl : gv = 110 := by rw [HGV.out, hg]; rfl
    subst hg
    clear hm HTS
    go_wp2_with fail
    rw [← HW4.out]
    refine CP.mono ?_
    rintro e w5 ⟨rfl, hb5⟩
    obtain ⟨hrr, hkk⟩ := HRW.out w5 hb5
    have HRR := Lib.hid hrr
    have HKK := Lib.hid hkk
    have g0 : w5.cell? ⟨w.heap.size, 0, none⟩ = some (.int .u32 0) := by rw [cell_of_row _ _ _ _ _ _ hrr]; rfl
    have g1 : w5.cell? ⟨w.heap.size, 1, none⟩ = some (.slice none 0 0) := by rw [cell_of_row _ _ _ _ _ _ hrr]; rfl
    have f0 := frozen_of_row w5 w.heap.size 0 _ _ hrr
    have f1 := frozen_of_row w5 w.heap.size 1 _ _ hrr
    clear hb5 hrr hkk CP e0 e1
    go_wp2
    refine bodyPost_ret (results_cell_tmp_rowM Tryz.results15 _ _ w.heap.size 25 #[.int .u32 0, .slice none 0 0] (0, 0) _ rfl (set2_rowM HRR.out _ _) Tryz.underlying25 rfl infoMan) rfl ⟨⟨_, rfl, ManIs.zero _⟩, below_set2M HKK.out HKK.out.size (Nat.le_refl _) _ _⟩

end Go.Proofs.YteompckehokdoaaGreatDoor
