/- The contracts that the statements lean on, by name; the statements' own example, out of them. -/
import Derived.Test.YtlmccnelhpnneaaSegF
import Derived.Laws.MakeOwn
import Derived.BigFrame
namespace Go.Proofs.Ytlmccnelhpnneaa
open Go.RowKit

/-- The load of a whole row, behind whatever guard holds. -/
theorem wpList_load_rowS {P : Program} {ops : Array Oper} {rest : List Oper} {o : Oper} {a : Act} {w : World} {Q : Exit → Act → World → Prop} (hw : Region.wanted o (yielded ops a.tmps) = true) (ty : TypeId) (x : Operand) (ho : o.op = .load ty x)
    (g : Nat) (hx : a.eval x = .pointer (some ⟨g, 0, none⟩)) (t : TypeId) (cs : Array Value) (fr : Nat × Nat) (d : TypeDesc) (hg : w.heap[g]? = some (.cells cs t fr))
    (hu : P.underlying ty = some d) (hd : (match d with | .struct _ | .array _ _ => true | _ => false) = true) (hi : (P.info? ty).map (·.size) = some cs.size)
    (h : ∀ K : Act → World → Prop, (∀ a w, wpList P ops Q rest a w → K a w) → K (a.put o.dst (.agg cs)) w) : wpList P ops Q (o :: rest) a w :=
  BigFrame.wpList_want hw fun K hK => wp_load_row ty x ho g hx t cs fr d hg hu hd hi (h K hK)

def MayOk : Prop := ∀ (C : Array Value) (a b d : Int), IsSeg C a b d → ∀ w, Calls Try.prog 9 #[.agg C] w fun e w' => e = .returned (.bool (decide (MayS a b d))) ∧ Below w.heap.size w w'
def CutOk : Prop := ∀ (p : Option Addr) (c n : Nat) (ls : List (List UInt8)), n = ls.length → n ≤ 1000000 → n ≤ c → ∀ (C : Array Value) (a b d : Int), IsSeg C a b d → ∀ w, FpsAt 32 ls (.slice p n c) w →
  Calls Try.prog 11 #[.slice p n c, .agg C] w fun e w' => e = .returned (.int .i64 (segI a b d ls : Nat)) ∧ Below w.heap.size w w'
def AllOk : Prop := ∀ (p : Option Addr) (c n : Nat) (ls : List (List UInt8)), n = ls.length → n ≤ 1000000 → n ≤ c → ∀ (C : Array Value) (a b d : Int), IsSeg C a b d → ∀ w, FpsAt 32 ls (.slice p n c) w →
  Calls Try.prog 14 #[.slice p n c, .agg C] w fun e w' => ∃ v, e = .returned v ∧ I64At ((allS a b d ls).map List.length) v w' ∧ Below w.heap.size w w'

theorem infoFpZ : (Try.prog.info? 37).map (fun i => (i.zero, i.size, i.bytes)) = some (some (.agg (fpA zeroL)), 32, 32) := by rw [zeroL_cells]; kernel_rfl

/-- A new slice of fingerprints. -/
theorem make_fps (n : Nat) (hn : n ≤ 500000) (w : World) : (Instr.makeSlice 22 (.int .i64 n) (.int .i64 n)).run Try.prog w = .ok (.slice (some ⟨w.heap.size, 0, none⟩) n n) (w.alloc (.cells (rowA (List.replicate n zeroL) []) 37)) := by
  have h := infoFpZ
  cases hq : Try.prog.info? 37 with
  | none => simp [hq] at h
  | some i =>
    simp only [hq, Option.map_some, Option.some.injEq, Prod.mk.injEq] at h
    obtain ⟨h1, h2, h3⟩ := h
    have hr := run_makeSlice (P := Try.prog) w 22 37 i (.agg (fpA zeroL)) Try.underlying22 hq h1 .i64 .i64 n n (by omega) (by omega) (by rw [h2]; omega) (by rw [h3]; omega) (by omega)
    rw [Int.toNat_natCast, h2] at hr
    rw [hr]
    have e : madeCells (Value.agg (fpA zeroL)).cells (n * 32) = rowA (List.replicate n zeroL) [] := by
      apply Array.toList_inj.1
      have hz := zeros_cells n
      simp only [rowA, List.append_nil]
      rw [← hz]
      rfl
    rw [e]

theorem all32_zeros (n : Nat) : All32 (List.replicate n zeroL) := fun l hl => by rw [List.eq_of_mem_replicate hl]; rfl

def cA : Array Value := #[.int .i64 0, .int .i64 0, .int .i64 0, .int .i64 0, .int .i64 1, .int .i64 3, .int .i64 1, .int .i64 0, .int .i64 0, .int .i64 0, .int .i64 0, .int .i64 0, .int .i64 0]
def cB : Array Value := #[.int .i64 0, .int .i64 0, .int .i64 0, .int .i64 0, .int .i64 3, .int .i64 3, .int .i64 1, .int .i64 0, .int .i64 0, .int .i64 0, .int .i64 0, .int .i64 0, .int .i64 0]
theorem cA_seg : IsSeg cA 1 3 1 := ⟨rfl, rfl, rfl, rfl, by simp [cA, Value.oneCell']⟩
theorem cB_seg : IsSeg cB 3 3 1 := ⟨rfl, rfl, rfl, rfl, by simp [cB, Value.oneCell']⟩
theorem sevenA : ((allS 1 3 1 (List.replicate 7 zeroL)).map List.length).length = 7 := by
  unfold allS; rw [if_pos (by decide), ← segsN_eq 7 _ (by simp)]; decide +kernel
theorem sevenB : ((allS 3 3 1 (List.replicate 7 zeroL)).map List.length).length = 3 := by
  unfold allS; rw [if_pos (by decide), ← segsN_eq 7 _ (by simp)]; decide +kernel
theorem cutB : segI 3 3 1 (List.replicate 7 zeroL) = 3 := by decide +kernel


set_option maxRecDepth 100000 in
set_option maxHeartbeats 2000000 in
theorem awakes_of (HM : MayOk) (HC : CutOk) (HA : AllOk) (w : World) : Calls Try.prog 13 #[] w (LawPost w) := by
  have MK : ∀ W, (Instr.makeSlice 22 (.int .i64 7) (.int .i64 7)).run Try.prog W = .ok (.slice (some ⟨W.heap.size, 0, none⟩) 7 7) (W.alloc (.cells (rowA (List.replicate 7 zeroL) []) 37)) := fun W => make_fps 7 (by omega) W
  obtain ⟨Z, hZ⟩ : ∃ Z, Z = List.replicate 7 zeroL := ⟨_, rfl⟩
  have hz7 : 7 = Z.length := by rw [hZ]; rfl
  have hz32 : All32 Z := by rw [hZ]; exact all32_zeros 7
  have CA := fun W h => HA (some ⟨w.heap.size, 0, none⟩) 7 7 Z hz7 (by omega) (by omega) cA 1 3 1 cA_seg W h
  have CB := fun W h => HA (some ⟨w.heap.size, 0, none⟩) 7 7 Z hz7 (by omega) (by omega) cB 3 3 1 cB_seg W h
  have CC := fun W h => HC (some ⟨w.heap.size, 0, none⟩) 7 7 Z hz7 (by omega) (by omega) cB 3 3 1 cB_seg W h
  have CM := fun W => HM cA 1 3 1 cA_seg W
  have lA := sevenA
  have lB := sevenB
  have lC := cutB
  rw [← hZ] at lA lB lC MK
  rw [lC] at CC
  rw [show decide (MayS 1 3 1) = true by decide] at CM
  obtain ⟨SA, hSA⟩ : ∃ S, S = (allS 1 3 1 Z).map List.length := ⟨_, rfl⟩
  obtain ⟨SB, hSB⟩ : ∃ S, S = (allS 3 3 1 Z).map List.length := ⟨_, rfl⟩
  rw [← hSA] at CA lA
  rw [← hSB] at CB lB
  have HLA := Lib.hid lA
  have HLB := Lib.hid lB
  have HZL := Lib.hid hz7
  have H32 := Lib.hid hz32
  have HCAS : Hid ((Try.prog.info? 24).map (·.size) = some cA.size) := info_conf
  have HCBS : Hid ((Try.prog.info? 24).map (·.size) = some cB.size) := info_conf
  have HCA1 : Hid (cA.all (·.oneCell') = true) := cA_seg.one
  have HCB1 : Hid (cB.all (·.oneCell') = true) := cB_seg.one
  obtain ⟨R, hR⟩ : ∃ R, R = rowA Z [] := ⟨_, rfl⟩
  rw [← hR] at MK
  have HR := Lib.hid hR
  clear hR hSA hSB lA lB lC hz7 hz32 hZ HA HC HM
  go_enter Try.func13, Try.ntmps13
  go_wp2_with fail
  have eA : (#[.int .i64 0, .int .i64 0, .int .i64 0, .int .i64 0, .int .i64 1, .int .i64 3, .int .i64 1, .int .i64 0, .int .i64 0, .int .i64 0, .int .i64 0, .int .i64 0, .int .i64 0] : Array Value) = cA := rfl
  have eB : (#[.int .i64 0, .int .i64 0, .int .i64 0, .int .i64 0, .int .i64 3, .int .i64 3, .int .i64 1, .int .i64 0, .int .i64 0, .int .i64 0, .int .i64 0, .int .i64 0, .int .i64 0] : Array Value) = cB := rfl
  rw [eA, eB]
  clear eA eB
  obtain ⟨A, hA⟩ : ∃ A, A = cA := ⟨_, rfl⟩
  obtain ⟨B, hB⟩ : ∃ B, B = cB := ⟨_, rfl⟩
  rw [← hA] at CA CM HCAS HCA1 ⊢
  rw [← hB] at CB CC HCBS HCB1 ⊢
  clear hA hB
  obtain ⟨W, hW⟩ : ∃ W, W = ((w.alloc (.cells R 37)).alloc (.cells A 24)).alloc (.cells B 24) := ⟨_, rfl⟩
  have z1 : (w.alloc (.cells R 37)).heap.size = w.heap.size + 1 := by simp
  have z2 : ((w.alloc (.cells R 37)).alloc (.cells A 24)).heap.size = w.heap.size + 1 + 1 := by simp
  have gZ : W.heap[w.heap.size]? = some (.cells R 37 (0, 0)) := by
    rw [hW, heap_alloc_old _ _ (by rw [z2]; omega), heap_alloc_old _ _ (by rw [z1]; omega), heap_alloc_new]
  have gA : W.heap[w.heap.size + 1]? = some (.cells A 24 (0, 0)) := by
    rw [hW, heap_alloc_old _ _ (by rw [z2]; omega), ← z1, heap_alloc_new]
  have gB : W.heap[w.heap.size + 1 + 1]? = some (.cells B 24 (0, 0)) := by
    rw [hW, ← z2, heap_alloc_new]
  have K0 : Hid (Kept w W) := by
    rw [hW]
    exact (((Below.refl _ w).alloc (Nat.le_refl _) _).alloc (by rw [z1]; omega) _).alloc (by rw [z2]; omega) _
  have HFZ : Hid (FpsAt 32 Z (.slice (some ⟨w.heap.size, 0, none⟩) 7 7) W) := by
    have h : RowAt w.heap.size Z [] W := ⟨H32.out, by rw [gZ, HR.out]⟩
    have h2 := h.fps (cap := 7)
    rw [← HZL.out] at h2
    exact h2
  have HA := Lib.hid gA
  have HB := Lib.hid gB
  rw [← hW]
  clear hW gZ z1 z2 MK gA gB
  refine (CA W HFZ.out).mono ?_
  rintro e w1 ⟨v1, rfl, ⟨p1, c1, rfl, -⟩, hk1⟩
  rw [HLA.out]
  have K1 : Kept W w1 := hk1
  clear hk1
  have gA := K1.row HA.out
  have gB := K1.row HB.out
  have HF := HFZ.out.later K1
  rename_i hK3
  refine hK3 _ _ ?_
  clear hK3
  refine BigFrame.wpList_want (by kernel_rfl) (fun K hK => ?_)
  go_simp
  refine hK _ _ ?_; clear hK K
  refine BigFrame.wpList_want (by kernel_rfl) (fun K hK => ?_)
  go_simp
  refine hK _ _ ?_; clear hK K
  refine BigFrame.wpList_want (by kernel_rfl) (fun K hK => ?_)
  go_simp
  refine hK _ _ ?_; clear hK K
  refine BigFrame.wpList_want (by kernel_rfl) (fun K hK => ?_)
  go_simp
  refine hK _ _ ?_; clear hK K
  refine wpList_load_rowS (by kernel_rfl) _ _ rfl (w.heap.size + 1 + 1) rfl 24 B (0, 0) _ gB Try.underlying24 rfl HCBS.out (fun K hK => ?_)
  go_simp
  refine hK _ _ ?_; clear hK K
  refine BigFrame.wpList_want (by kernel_rfl) (fun K hK => ?_)
  go_simp
  refine (CB w1 HF).mono ?_
  rintro e w2 ⟨v2, rfl, ⟨p2, c2, rfl, -⟩, hb2⟩
  have K2 := K1.then hb2
  have gA := K2.row HA.out
  have gB := K2.row HB.out
  have HF := HFZ.out.later K2
  rw [HLB.out]
  refine hK _ _ ?_; clear hK K
  refine BigFrame.wpList_want (by kernel_rfl) (fun K hK => ?_)
  go_simp
  refine hK _ _ ?_; clear hK K
  refine BigFrame.wpList_want (by kernel_rfl) (fun K hK => ?_)
  go_simp
  refine hK _ _ ?_; clear hK K
  refine BigFrame.wpList_want (by kernel_rfl) (fun K hK => ?_)
  go_simp
  refine hK _ _ ?_; clear hK K
  refine BigFrame.wpList_want (by kernel_rfl) (fun K hK => ?_)
  go_simp
  refine hK _ _ ?_; clear hK K
  refine BigFrame.wpList_want (by kernel_rfl) (fun K hK => ?_)
  go_simp
  refine hK _ _ ?_; clear hK K
  refine wpList_load_rowS (by kernel_rfl) _ _ rfl (w.heap.size + 1 + 1) rfl 24 B (0, 0) _ gB Try.underlying24 rfl HCBS.out (fun K hK => ?_)
  go_simp
  refine hK _ _ ?_; clear hK K
  refine BigFrame.wpList_want (by kernel_rfl) (fun K hK => ?_)
  go_simp
  refine (CC w2 HF).mono ?_
  rintro e w3 ⟨rfl, hb3⟩
  have K3 := K2.then hb3
  have gA := K3.row HA.out
  have gB := K3.row HB.out
  have HF := HFZ.out.later K3
  refine hK _ _ ?_; clear hK K
  refine BigFrame.wpList_want (by kernel_rfl) (fun K hK => ?_)
  go_simp
  refine hK _ _ ?_; clear hK K
  refine BigFrame.wpList_want (by kernel_rfl) (fun K hK => ?_)
  go_simp
  refine hK _ _ ?_; clear hK K
  refine BigFrame.wpList_want (by kernel_rfl) (fun K hK => ?_)
  go_simp
  refine hK _ _ ?_; clear hK K
  refine wpList_load_rowS (by kernel_rfl) _ _ rfl (w.heap.size + 1) rfl 24 A (0, 0) _ gA Try.underlying24 rfl HCAS.out (fun K hK => ?_)
  go_simp
  refine hK _ _ ?_; clear hK K
  refine BigFrame.wpList_want (by kernel_rfl) (fun K hK => ?_)
  go_simp
  refine (CM w3).mono ?_
  rintro e w4 ⟨rfl, hb4⟩
  have K4 := K3.then hb4
  have gA := K4.row HA.out
  have gB := K4.row HB.out
  have HF := HFZ.out.later K4
  refine hK _ _ ?_; clear hK K
  go_wp2
  go_ret
  exact ⟨rfl, K0.out.then K4⟩

end Go.Proofs.Ytlmccnelhpnneaa
