/- Contracts of boxes by name, whatever they are made of; few, room, the document's same lists, the page's example. -/
import Derived.Test.YtdmbebafpamgfaaDoorBxJ
import Derived.Test.YtdmbebafpamgfaaDoorMore
namespace Go.Proofs.YtdmbebafpamgfaaDoor
open Go.RowKit

/-! ### Contracts -/
/-- A slice that has room for what it holds. -/
def CapB (v : Value) : Prop := ∀ p n c, v = .slice p n c → n ≤ c
/-- Texts in such a slice. -/
def StrAtC (L : List ByteArray) (v : Value) (w : World) : Prop := StrAt L v w ∧ CapB v
def BCheckOk : Prop := ∀ (id : Nat) (L : List ByteArray) (v : Value) (w : World), id < 4294967296 → StrAt L v w → L.length ≤ 1000 → (∀ s ∈ L, s.size ≤ 100000) →
  Calls Tryd.prog 11 #[.int .u32 (id : Nat), v] w fun e w' => e = .returned (.int .i64 (if mayC id L then 0 else 1)) ∧ Kept w w'
def buildV (id : Nat) (L : List ByteArray) : ByteArray := if mayC id L then str (boxB id L) else ⟨#[]⟩
def BBuildOk : Prop := ∀ (id : Nat) (L : List ByteArray) (v : Value) (w : World), id < 4294967296 → StrAtC L v w → L.length ≤ 1000 → (∀ s ∈ L, s.size ≤ 100000) → TabAt w →
  Calls Tryd.prog 10 #[.int .u32 (id : Nat), v] w fun e w' => e = .returned (.tuple #[.string (buildV id L), .int .i64 (if mayC id L then 0 else 1)]) ∧ Kept w w'
def headE (t : List UInt8) : Int := if (headG t).isSome then 0 else 110
def BHeadOk : Prop := ∀ (t : ByteArray) (w : World), t.size ≤ 100000 → TabAt w →
  Calls Tryd.prog 14 #[.string t] w fun e w' => (∃ v, e = .returned (.tuple #[v, .int .i64 (headE t.data.toList)]) ∧ HeadIs ((headG t.data.toList).getD Hd.zero) v w') ∧ Kept w w'
def BWhereOk : Prop := ∀ (h : Hd) (i : Nat) (v : Value) (w : World), goodH h → i < h.slots.length → HeadIs h v w →
  Calls Tryd.prog 39 #[v, .int .i64 i] w fun e w' => e = .returned (.tuple #[.int .i64 (atH h i : Nat), .int .i64 (lenK h i : Nat), .int .i64 0]) ∧ Kept w w'
def BSizeOk : Prop := ∀ (h : Hd) (v : Value) (w : World), goodH h → HeadIs h v w →
  Calls Tryd.prog 40 #[v] w fun e w' => e = .returned (.int .i64 (sizeH h : Nat)) ∧ Kept w w'
/-- The error of Chunk. -/
def chunkE (t : List UInt8) (k : Int) : Int :=
  match headG t with
  | none => 110
  | some h => if ¬ (0 ≤ k ∧ k < h.slots.length) then 5 else if rightK t h k.toNat then 0 else 110
def BChunkOk : Prop := ∀ (t : ByteArray) (k : Int) (w : World), t.size ≤ 100000 → (Lit.int .i64 k).wf = true → TabAt w →
  Calls Tryd.prog 21 #[.string t, .int .i64 k] w fun e w' => e = .returned (.tuple #[.string (str ((chunkG t.data.toList k).getD [])), .int .i64 (chunkE t.data.toList k)]) ∧ Kept w w'
def chunksE (t : List UInt8) : Int := if (chunksG t).isSome then 0 else 110
def BChunksOk : Prop := ∀ (t : ByteArray) (w : World), t.size ≤ 100000 → TabAt w →
  Calls Tryd.prog 15 #[.string t] w fun e w' => (∃ v, e = .returned (.tuple #[v, .int .i64 (chunksE t.data.toList)]) ∧ StrAtC (((chunksG t.data.toList).getD []).map str) v w') ∧ Kept w w'

/-- What Add answers, and leaves. -/
def addE (slots bytes : Nat) (L : List ByteArray) (c : ByteArray) : Int := if c.size < 1 ∨ 4096 < c.size then 1 else if L.length < slots ∧ (lensC L).sum + c.size ≤ bytes then 0 else 100
def addL (slots bytes : Nat) (L : List ByteArray) (c : ByteArray) : List ByteArray := if addE slots bytes L c = 0 then L ++ [c] else L
def addI (slots bytes : Nat) (L : List ByteArray) (c : ByteArray) : Nat := if addE slots bytes L c = 0 then L.length else 0
/-- What a builder is to keep, for some predicate on its chunks and its blocks. -/
structure BdOk (B : Nat) (x : Value) (id slots bytes : Nat) (P : List ByteArray → (Nat → Prop) → World → Prop) : Prop where
  above : ∀ L Bs w, P L Bs w → ∀ k, Bs k → B ≤ k ∧ k < w.heap.size
  stay : ∀ L Bs w w', P L Bs w → w.heap.size ≤ w'.heap.size → (∀ k, Bs k → w'.heap[k]? = w.heap[k]?) → P L Bs w'
  add : ∀ L Bs w (c : ByteArray), P L Bs w → c.size ≤ 100000 → Calls Tryd.prog 26 #[x, .string c] w fun e w' =>
    e = .returned (.tuple #[.int .i64 (addI slots bytes L c : Nat), .int .i64 (addE slots bytes L c)]) ∧ (∃ Bs', P (addL slots bytes L c) Bs' w' ∧ ∀ k, Bs' k → Bs k ∨ w.heap.size ≤ k) ∧ ButBy Bs w w'
  len : ∀ L Bs w, P L Bs w → Calls Tryd.prog 28 #[x] w fun e w' => e = .returned (.int .i64 (L.length : Nat)) ∧ Kept w w'
  chunk : ∀ L Bs w (k : Int), P L Bs w → (Lit.int .i64 k).wf = true → Calls Tryd.prog 30 #[x, .int .i64 k] w fun e w' =>
    e = .returned (.tuple #[.string (if 0 ≤ k ∧ k < L.length then L.getD k.toNat ⟨#[]⟩ else ⟨#[]⟩), .int .i64 (if 0 ≤ k ∧ k < L.length then 0 else 5)]) ∧ Kept w w'
  shut : ∀ L Bs w, P L Bs w → TabAt w → Calls Tryd.prog 29 #[x] w fun e w' =>
    e = .returned (.tuple #[.string (if L = [] then ⟨#[]⟩ else str (boxB id L)), .int .i64 (if L = [] then 6 else 0)]) ∧ Kept w w'
def newOk (id : Nat) (slots bytes : Int) : Prop := idOk id ∧ (1 ≤ slots ∧ slots ≤ 256) ∧ 1 ≤ bytes ∧ bytes ≤ 65536
instance (id : Nat) (slots bytes : Int) : Decidable (newOk id slots bytes) := by unfold newOk; infer_instance
def BNewOk : Prop := ∀ (id : Nat) (slots bytes : Int) (w : World), id < 4294967296 → (Lit.int .i64 slots).wf = true → (Lit.int .i64 bytes).wf = true →
  Calls Tryd.prog 24 #[.int .u32 (id : Nat), .int .i64 slots, .int .i64 bytes] w fun e w' => Kept w w' ∧
    ((¬ newOk id slots bytes ∧ e = .returned (.tuple #[.pointer none, .int .i64 1])) ∨
     (newOk id slots bytes ∧ ∃ ad P Bs, e = .returned (.tuple #[.pointer (some ad), .int .i64 0]) ∧ BdOk w.heap.size (.pointer (some ad)) id slots.toNat bytes.toNat P ∧ P [] Bs w'))
/-- A builder that is nil. -/
structure BdNil : Prop where
  add : ∀ (c : ByteArray) (w : World), c.size ≤ maxLen → Calls Tryd.prog 26 #[.pointer none, .string c] w fun e w' => e = .returned (.tuple #[.int .i64 0, .int .i64 4]) ∧ Kept w w'
  len : ∀ (w : World), Calls Tryd.prog 28 #[.pointer none] w fun e w' => e = .returned (.int .i64 0) ∧ Kept w w'
  chunk : ∀ (k : Int) (w : World), (Lit.int .i64 k).wf = true → Calls Tryd.prog 30 #[.pointer none, .int .i64 k] w fun e w' => e = .returned (.tuple #[.string ⟨#[]⟩, .int .i64 4]) ∧ Kept w w'
  shut : ∀ (w : World), Calls Tryd.prog 29 #[.pointer none] w fun e w' => e = .returned (.tuple #[.string ⟨#[]⟩, .int .i64 4]) ∧ Kept w w'

/-! ### few, the document's same lists, room -/
def bV (L : List ByteArray) : List Value := L.map fun s => Value.string s
theorem bV_get (L : List ByteArray) (j : Nat) (h : j < L.length) : (bV L)[j]? = some (.string L[j]) := by simp [bV, h]
theorem bV_snoc (L : List ByteArray) (s : ByteArray) : bV L ++ [Value.string s] = bV (L ++ [s]) := by simp [bV]
theorem strAt_ownX {w : World} {base : Nat} {e : TypeId} {v : Value} {L : List ByteArray} (h : w.ownsRow base e 1 v L.length (bV L)) : StrAt L v w := by
  obtain ⟨p, c, rfl, -, hc⟩ := own_slice h
  refine ⟨p, c, rfl, ?_⟩
  rcases hc with h0 | ⟨g, hp, -, hc⟩
  · exact Or.inl (List.length_eq_zero_iff.1 h0)
  · exact Or.inr ⟨g, 0, hp, fun i hi => by rw [Nat.zero_add]; exact hc i _ (bV_get L i hi)⟩
theorem own_capX {w : World} {base : Nat} {e : TypeId} {size n : Nat} {v : Value} {xs : List Value} (h : w.ownsRow base e size v n xs) : CapB v := by
  obtain ⟨p, c, rfl, hc, -⟩ := own_slice h
  intro p' n' c' e
  simp only [Value.slice.injEq] at e
  omega
theorem strAtC_ownX {w : World} {base : Nat} {e : TypeId} {v : Value} {L : List ByteArray} (h : w.ownsRow base e 1 v L.length (bV L)) : StrAtC L v w := ⟨strAt_ownX h, own_capX h⟩
def cut1 (s : ByteArray) : ByteArray := if 4100 < s.size then s.extract 0 4100 else s
theorem cut1_size (s : ByteArray) : (cut1 s).size ≤ 4100 := by
  unfold cut1
  split
  · rw [ByteArray.size_extract]; omega
  · omega
def fewC (L : List ByteArray) : List ByteArray := (L.take 260).map cut1
theorem fewC_len (L : List ByteArray) : (fewC L).length ≤ 260 := by unfold fewC; rw [List.length_map, List.length_take]; omega
theorem fewC_size (L : List ByteArray) : ∀ s ∈ fewC L, s.size ≤ 4100 := fun s hs => by
  obtain ⟨t, _, rfl⟩ := List.mem_map.1 hs
  exact cut1_size t

set_option maxRecDepth 100000 in
set_option maxHeartbeats 4000000 in
theorem few14_any (L : List ByteArray) (v : Value) (w : World) (h : StrAt L v w) :
    Calls Tryd.prog 9 #[v] w fun e w' => (∃ u, e = .returned u ∧ StrAtC (fewC L) u w') ∧ Kept w w' := by
  obtain ⟨ir, hir, hx⟩ := Option.map_eq_some_iff.1 infoStr
  simp only [Prod.mk.injEq] at hx
  obtain ⟨hz0, hz1, hz2⟩ := hx
  have HIR := Lib.hid hir
  have HZ0 := Lib.hid hz0
  have HZ1 := Lib.hid hz1
  have HZ2 := Lib.hid hz2
  obtain ⟨p, c, rfl, hc⟩ := h
  have HC := Lib.hid hc
  obtain ⟨n, hn⟩ : ∃ n, n = L.length := ⟨_, rfl⟩
  have HN := Lib.hid hn
  rw [← hn]
  obtain ⟨m, hm⟩ : ∃ m, m = min n 260 := ⟨_, rfl⟩
  obtain ⟨FL, hFL⟩ : ∃ F, F = fewC L := ⟨_, rfl⟩
  rw [← hFL]
  have HFM : Hid (FL.length = m) := Lib.hid (by rw [hFL]; unfold fewC; rw [List.length_map, List.length_take]; omega)
  have HFT : Hid (∀ k (hk : k < L.length), k < 260 → FL.take (k + 1) = FL.take k ++ [cut1 L[k]]) := Lib.hid (fun k hk hk2 => by
    have hk' : k < FL.length := by rw [HFM.out]; omega
    rw [List.take_succ_eq_append_getElem hk']
    congr 2
    simp only [hFL]
    unfold fewC
    rw [List.getElem_map, List.getElem_take])
  have hm260 : m ≤ 260 := by omega
  clear hir hz0 hz1 hz2 hc hn hFL
  go_enter Tryd.func9, Tryd.ntmps9
  go_wp2
  go_loopg [3, 4] m (fun gh a y wr => ∃ (k : Nat), k + gh = m ∧ Hid (wr.ownsRow w.heap.size 9 1 a k (bV (FL.take k))) ∧ y = .int .i64 k ∧ Hid (Kept w wr))
  case atStart => exact ⟨0, by omega, Lib.hid (World.ownsRow_nil _ _ _ _), rfl, Lib.hid (Below.refl _ _)⟩
  case round =>
    obtain ⟨k, hk, HO, rfl, HKW⟩ := hrel
    obtain ⟨pv, cv, hv, -, -⟩ := own_slice HO.out
    subst hv
    by_cases hlt : k < m
    · have hki : (k : Int) < n := by omega
      have bk : decide ((k : Int) < (n : Int)) = true := by simpa using hki
      have hki3 : (k : Int) < 260 := by omega
      have bk3 : decide ((k : Int) < 260) = true := by simpa using hki3
      have hki0 : (0 : Int) ≤ k := by omega
      rcases HC.out with h0 | ⟨b, off, rfl, hcell⟩
      · have := HN.out; rw [h0] at this; simp at this; omega
      have hkl : k < L.length := by have := HN.out; omega
      have e1 := Kept.cell HKW.out (hcell k hkl)
      have htk := HFT.out k hkl (by omega)
      obtain ⟨S, hS⟩ : ∃ S, S = L[k] := ⟨_, rfl⟩
      rw [← hS] at e1 htk
      obtain ⟨k1, hk1⟩ : ∃ k1, k1 = k + 1 := ⟨_, rfl⟩
      have v1 : IntKind.i64.wrap ((k : Int) + 1) = (k1 : Int) := by rw [show (k : Int) + 1 = (k1 : Int) by omega]; exact IntWalk.i64_in _ (by omega)
      have HK1 := Lib.hid hk1
      have HK260 : Hid (k < 260 ∧ k < m) := Lib.hid ⟨by omega, hlt⟩
      obtain ⟨Z, hZ⟩ : ∃ Z, Z = cut1 S := ⟨_, rfl⟩
      have HX : Hid (FL.take k ++ [Z] = FL.take k1) := Lib.hid (by rw [hZ, hk1]; exact htk.symm)
      have HFLT := Lib.hid (flat_strX wr Z)
      by_cases hbig : 4100 < S.size
      · have hb1 : decide ((S.size : Int) > 4100) = true := by simp; omega
        have hb2 : (4100 : Int) ≤ S.size := by omega
        have hex : S.extract 0 4100 = Z := by rw [hZ]; unfold cut1; rw [if_pos hbig]
        clear hcell htk hS hk1 hZ hm hlt
        go_wp2_with (at_builtin; refine wpList_append_flat rfl _ _ 23 rfl w.heap.size 9 ir (.string ⟨#[]⟩) 1 16 Tryd.underlying23 HIR.out HZ0.out HZ1.out HZ2.out rfl (by decide) _ _ _ rfl (HO.out.alloc _) _ 1 [Value.string Z] rfl HFLT.out ?wa1 ?wa2 ?wa3 ?_)
        case wa1 => have := HK260.out; unfold maxLen; omega
        case wa2 => have := HK260.out; omega
        case wa3 => have := HKW.out.size; simp; omega
        intro v' w4 hown4 hg4 _
        have H6 : Hid (w4.ownsRow w.heap.size 9 1 v' k1 (bV (FL.take k1))) := Lib.hid (by
          have h := hown4
          rw [bV_snoc, HX.out] at h
          rw [HK1.out] at h ⊢
          exact h)
        have H7 : Hid (Kept w w4) := Lib.hid (append_keptX (show Kept w wr from HKW.out) (Nat.le_refl _) HO.out hg4)
        clear hown4 hg4 HO HFLT HKW
        go_wp2
        go_roundg (m - k1)
        · exact ⟨k1, by have := HK1.out; have := HK260.out; omega, H6, by first | rfl | (have := HK1.out; simp; omega), H7⟩
        · have := HK1.out; have := HK260.out; omega
      · have hb1 : decide ((S.size : Int) > 4100) = false := by simp; omega
        have hex : S = Z := by rw [hZ]; unfold cut1; rw [if_neg hbig]
        subst hex
        clear hcell htk hS hk1 hZ hm hlt
        go_wp2_with (at_builtin; refine wpList_append_flat rfl _ _ 23 rfl w.heap.size 9 ir (.string ⟨#[]⟩) 1 16 Tryd.underlying23 HIR.out HZ0.out HZ1.out HZ2.out rfl (by decide) _ _ _ rfl (HO.out.alloc _) _ 1 [Value.string S] rfl HFLT.out ?wa1 ?wa2 ?wa3 ?_)
        case wa1 => have := HK260.out; unfold maxLen; omega
        case wa2 => have := HK260.out; omega
        case wa3 => have := HKW.out.size; simp; omega
        intro v' w4 hown4 hg4 _
        have H6 : Hid (w4.ownsRow w.heap.size 9 1 v' k1 (bV (FL.take k1))) := Lib.hid (by
          have h := hown4
          rw [bV_snoc, HX.out] at h
          rw [HK1.out] at h ⊢
          exact h)
        have H7 : Hid (Kept w w4) := Lib.hid (append_keptX (show Kept w wr from HKW.out) (Nat.le_refl _) HO.out hg4)
        clear hown4 hg4 HO HFLT HKW
        go_wp2
        go_roundg (m - k1)
        · exact ⟨k1, by have := HK1.out; have := HK260.out; omega, H6, by first | rfl | (have := HK1.out; simp; omega), H7⟩
        · have := HK1.out; have := HK260.out; omega
    · have hcs : (¬ (k : Int) < n) ∨ ((k : Int) < n ∧ ¬ (k : Int) < 260) := by omega
      have hkm : k = m := by omega
      have HA : Hid (StrAtC FL (.slice pv k cv) wr) := Lib.hid (by
        have h := HO.out
        rw [hkm, List.take_of_length_le (by rw [HFM.out]; exact Nat.le_refl _)] at h
        rw [hkm]
        exact strAtC_ownX (L := FL) (by rw [HFM.out]; exact h))
      clear hkm hm HO HC hlt
      rcases hcs with ht1 | ⟨ht1, ht2⟩
      all_goals
        go_wp2
        go_ret
        exact ⟨⟨_, rfl, HA.out⟩, HKW.out⟩

set_option maxRecDepth 100000 in
set_option maxHeartbeats 1000000 in
theorem rsame01_any (ss : List ByteArray) (hzl : ss.length ≤ 1000000) (v u : Value) (w : World) (hv : StrAt ss v w) (hu : StrAt ss u w) :
    Calls Tryd.prog 19 #[v, u] w fun e w' => e = .returned (.bool true) ∧ Kept w w' := by
  obtain ⟨p, c, rfl, hc⟩ := hv
  obtain ⟨p2, c2, rfl, hc2⟩ := hu
  have HC := Lib.hid hc
  have HC2 := Lib.hid hc2
  clear hc hc2
  go_enter Tryd.func19, Tryd.ntmps19
  go_wp2
  go_loopw [5] (fun x wr => ∃ (i : Nat), i ≤ ss.length ∧ x = .int .i64 i ∧ Below w.heap.size w wr) (fun x _ => ss.length - (intOf x).toNat)
  case atStart => exact ⟨0, Nat.zero_le _, rfl, Below.refl _ _⟩
  case round =>
    obtain ⟨i, hi, rfl, K⟩ := hrel
    by_cases hlt : i < ss.length
    · rcases HC.out with h | ⟨b, off, rfl, hcell⟩
      · rw [h] at hlt; simp at hlt
      rcases HC2.out with h | ⟨b2, off2, rfl, hcell2⟩
      · rw [h] at hlt; simp at hlt
      have k1 : wr.cell? ⟨b, off + i, none⟩ = some (.string ss[i]) := (K.cell (World.block_lt_of_cell? _ _ (hcell i hlt))).trans (hcell i hlt)
      have k2 : wr.cell? ⟨b2, off2 + i, none⟩ = some (.string ss[i]) := (K.cell (World.block_lt_of_cell? _ _ (hcell2 i hlt))).trans (hcell2 i hlt)
      obtain ⟨z, hz⟩ : ∃ z, ss[i] = z := ⟨_, rfl⟩
      rw [hz] at k1 k2
      clear hcell hcell2 hz HC HC2
      go_wp2
      go_quiet (fail)
      go_wp2
      go_roundw
      case rel => exact ⟨i + 1, by omega, by go_num, (show Below w.heap.size w wr from K).trans ((below_drewN (Below.refl _ wr) _).mono K.size)⟩
      case measure => simp [intOf]; omega
    · obtain rfl : i = ss.length := by omega
      go_wp2
      go_ret
      exact ⟨rfl, K⟩

/-! ### The page's example -/
def exL : List ByteArray := [⟨#[104, 101, 108, 108, 111]⟩]
theorem ex_may : mayC 7 exL := by decide +kernel
theorem ex_at : atH (headC 7 exL) 0 = 20 := by decide +kernel
theorem ex_len : lenK (headC 7 exL) 0 = 5 := by decide +kernel
theorem ex_size : sizeH (headC 7 exL) = 25 := by
  rw [sizeH_good ((goodH_headC 7 exL).2 ex_may), lensH_headC]
  decide +kernel
theorem ex_box : (boxB 7 exL).length = 25 := by
  rw [boxB_len]
  decide +kernel
def AwakeB : Prop := ∀ w, TabAt w → Calls Tryd.prog 12 #[] w fun e w' => e = .returned (.bool true) ∧ Kept w w'

set_option maxRecDepth 100000 in
set_option maxHeartbeats 8000000 in
theorem bawake_of (CB : BBuildOk) (CH : BHeadOk) (CW : BWhereOk) (CZ : BSizeOk) : AwakeB := by
  intro w hT
  obtain ⟨W1, hW1⟩ : ∃ W, W = w.alloc (.cells #[.string ⟨#[104, 101, 108, 108, 111]⟩] 9) := ⟨_, rfl⟩
  have hk1 : Kept w W1 := by rw [hW1]; exact box_below _ _
  have hs : StrAtC exL (.slice (some ⟨w.heap.size, 0, none⟩) 1 1) W1 := by
    refine ⟨?_, fun p n c e => by simp only [Value.slice.injEq] at e; omega⟩
    refine ⟨_, 1, rfl, Or.inr ⟨w.heap.size, 0, rfl, fun i hi => ?_⟩⟩
    obtain rfl : i = 0 := by have : i < 1 := hi; omega
    rw [hW1, cell_of_row _ _ _ _ _ _ (heap_alloc_last w _)]
    rfl
  have C1 := CB 7 exL (.slice (some ⟨w.heap.size, 0, none⟩) 1 1) W1 (by omega) hs (by decide) (fun s hs => by simp only [exL, List.mem_singleton] at hs; subst hs; decide) (hT.later hk1)
  rw [if_pos ex_may] at C1
  unfold buildV at C1
  rw [if_pos ex_may] at C1
  have HHG : Hid (headG (boxB 7 exL) = some (headC 7 exL)) := Lib.hid (headG_boxB ex_may)
  have HGD : Hid (goodH (headC 7 exL)) := Lib.hid ((goodH_headC 7 exL).2 ex_may)
  have HSL : Hid ((headC 7 exL).slots.length = 1) := Lib.hid (by rw [headC_len]; rfl)
  obtain ⟨T, hTT⟩ : ∃ T, T = str (boxB 7 exL) := ⟨_, rfl⟩
  have hTs : T.size = 25 := by rw [hTT, str_size, ex_box]
  have hTl : T.data.toList = boxB 7 exL := by rw [hTT, str_list]
  rw [← hTT] at C1
  have C2 := fun W (k : Kept w W) => CH T W (by omega) (hT.later k)
  rw [hTl] at C2
  unfold headE at C2
  rw [HHG.out] at C2
  have C3 := fun (v : Value) W (H : HeadIs (headC 7 exL) v W) => CW (headC 7 exL) 0 v W HGD.out (by rw [HSL.out]; omega) H
  rw [ex_at, ex_len] at C3
  have C4 := fun (v : Value) W (H : HeadIs (headC 7 exL) v W) => CZ (headC 7 exL) v W HGD.out H
  rw [ex_size] at C4
  obtain ⟨h, hh⟩ : ∃ h, h = headC 7 exL := ⟨_, rfl⟩
  rw [← hh] at C2 C3 C4 HSL
  have HK1 := Lib.hid hk1
  have HW1 := Lib.hid hW1
  rw [hW1] at C1
  have b1 : ((T.size : Int) == 25) = true := by rw [hTs]; rfl
  clear hW1 hk1 hs HHG HGD hTT hTs hTl hh CB CH CW CZ
  go_enter Tryd.func12, Tryd.ntmps12
  go_wp2_with fail
  refine C1.mono ?_
  rintro e w2 ⟨rfl, hb2⟩
  rw [← HW1.out] at hb2
  have HK2 : Hid (Kept w w2) := Lib.hid ((show Kept w W1 from HK1.out).then hb2)
  have C22 := C2 w2 HK2.out
  clear hb2 C1 C2
  go_wp2_with fail
  refine C22.mono ?_
  rintro e w3 ⟨⟨v, rfl, hv⟩, hb3⟩
  have HV := Lib.hid hv
  obtain ⟨sv, rfl, hsl⟩ := hv
  obtain ⟨p, c, rfl, -, -⟩ := hsl.out
  obtain ⟨id, hid⟩ : ∃ i, i = ((some h).getD Hd.zero).id := ⟨_, rfl⟩
  obtain ⟨n, hn⟩ : ∃ i, i = ((some h).getD Hd.zero).slots.length := ⟨_, rfl⟩
  rw [← hid, ← hn] at HV
  rw [← hid, ← hn]
  have hk4 : Kept w3 (w3.alloc (.cells #[.int .u32 (id : Nat), .slice p n c] 33)) := box_below _ _
  have hr4 := heap_alloc_last w3 (.cells #[.int .u32 (id : Nat), .slice p n c] 33)
  have C32 := C3 _ _ (HeadIs.later HV.out hk4)
  obtain ⟨b6, hb6⟩ : ∃ b, b = w3.heap.size := ⟨_, rfl⟩
  have HB6 := Lib.hid hb6
  obtain ⟨W4, hW4⟩ : ∃ W, W = w3.alloc (.cells #[.int .u32 (id : Nat), .slice p n c] 33) := ⟨_, rfl⟩
  have HW4 := Lib.hid hW4
  rw [← hb6, ← hW4] at hr4
  rw [← hW4] at C32 hk4
  have HR4 := Lib.hid hr4
  have HK4 : Hid (Kept w W4) := Lib.hid (((show Kept w w2 from HK2.out).then hb3).then hk4)
  have HV4 := Lib.hid (HeadIs.later HV.out hk4)
  clear C22 C3 hb3 hsl hid hn hk4 hr4 hb6 hW4 HV
  go_wp2_with fail
  try rw [← HB6.out]
  rw [← HW4.out]
  refine C32.mono ?_
  rintro e w5 ⟨rfl, hb5⟩
  have HV5 := HeadIs.later HV4.out hb5
  have C42 := C4 _ _ HV5
  have HK5 : Hid (Kept w w5) := Lib.hid ((show Kept w W4 from HK4.out).then hb5)
  have hr5 := Kept.row hb5 HR4.out
  have e0 : w5.cell? ⟨b6, 0, none⟩ = some (.int .u32 (id : Nat)) := by rw [cell_of_row _ _ _ _ _ _ hr5]; rfl
  have e1 : w5.cell? ⟨b6, 1, none⟩ = some (.slice p n c) := by rw [cell_of_row _ _ _ _ _ _ hr5]; rfl
  clear hb5 C32 HV5 C4 hr5
  go_wp2_with fail
  refine C42.mono ?_
  rintro e w6 ⟨rfl, hb6⟩
  have HK6 : Hid (Kept w w6) := Lib.hid ((show Kept w w5 from HK5.out).then hb6)
  clear hb6 C42
  go_wp2
  go_ret
  exact ⟨rfl, HK6.out⟩

end Go.Proofs.YtdmbebafpamgfaaDoor
