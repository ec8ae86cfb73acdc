/- The program's disk: the walks of Flush, Power. -/
import Derived.Test.YtpnnlpmkgglgdaaDtS
namespace Go.Proofs.Ytpnnlpmkgglgdaa
open Go.RowKit

section
variable {B g b c m : Nat} {s : Dk} {vp : Value} {w : World} (h : DAt B g b c m s vp w)
include h

set_option maxRecDepth 100000 in
set_option maxHeartbeats 1000000 in
theorem dflush_any (hok : s.ok) (hlo : s.ops ≤ 4294967295) : Calls Try.prog 22 #[.pointer (some ⟨g, 0, none⟩)] w (DsPost B g b c m s.flushS vp (.int .i64 s.flushE) w) := by
  have RD := dready_any h
  have H := Lib.hid h
  by_cases hd : s.down = true
  · have e1 : s.flushE = 90 := by unfold Dk.flushE; rw [if_pos hd]
    have e2 : s.flushS = s := by unfold Dk.flushS; rw [if_pos hd]
    rw [e1, e2]
    rw [if_pos hd] at RD
    clear h hok e1 e2 hd
    go_enter Try.func22, Try.ntmps22
    go_wp2_with fail
    refine RD.mono ?_
    rintro e w1 ⟨rfl, rfl⟩
    go_wp2
    go_ret
    exact ⟨rfl, vp, H.out, fun k hk => Or.inl hk, but_refl _ _⟩
  · rw [if_neg hd] at RD
    have CT := dcut_any h (Nat.le_trans hlo (by omega)) hok.fz
    by_cases h0 : s.fuse = 0
    · have e1 : s.flushE = 90 := by unfold Dk.flushE; rw [if_neg hd, if_pos h0]
      have e2 : s.flushS = s.cut := by unfold Dk.flushS; rw [if_neg hd, if_pos h0]
      rw [e1, e2]
      rw [if_pos h0] at CT
      clear h hok e1 e2 hd h0
      go_enter Try.func22, Try.ntmps22
      go_wp2_with fail
      refine RD.mono ?_
      rintro e w1 ⟨rfl, rfl⟩
      go_wp2_with fail
      refine CT.mono ?_
      rintro e w1 ⟨rfl, r1, b1⟩
      have R1 := Lib.hid r1
      have B1 := Lib.hid b1
      clear r1 b1
      go_wp2
      go_ret
      exact ⟨rfl, vp, R1.out, fun k hk => Or.inl hk, B1.out.mono (fun j hj => Or.inl hj)⟩
    · have e1 : s.flushE = 0 := by unfold Dk.flushE; rw [if_neg hd, if_neg h0]
      have e2 : s.flushS = s.cut.stand keepAll := by unfold Dk.flushS; rw [if_neg hd, if_neg h0]
      rw [e1, e2]
      rw [if_neg h0] at CT
      have ST := fun (w1 : World) (r1 : DAt B g b c m s.cut vp w1) => dsettle_any r1 hok.cut (Nat.le_trans (Nat.succ_le_succ hlo) (by omega)) keepAll _ (Or.inl ⟨rfl, rfl⟩)
      clear h hok e1 e2 hd h0
      go_enter Try.func22, Try.ntmps22
      go_wp2_with fail
      refine RD.mono ?_
      rintro e w1 ⟨rfl, rfl⟩
      go_wp2_with fail
      refine CT.mono ?_
      rintro e w1 ⟨rfl, r1, b1⟩
      have S1 := ST w1 r1
      have B1 := Lib.hid b1
      clear r1 b1 ST CT
      go_wp2_with fail
      refine S1.mono ?_
      rintro e w2 ⟨rfl, vp', r2, hs2, b2⟩
      have R2 := Lib.hid r2
      have B2 := Lib.hid b2
      have HS2 := Lib.hid hs2
      clear r2 b2 hs2 S1
      go_wp2
      go_ret
      exact ⟨rfl, vp', R2.out, fun k e => (HS2.out k e).imp id (fun x => Nat.le_trans B1.out.size x), (B1.out.mono (fun j hj => Or.inl hj)).trans B2.out⟩

set_option maxRecDepth 100000 in
set_option maxHeartbeats 1000000 in
theorem dpower_any (hok : s.ok) (hlo : s.ops ≤ 4294967296) (l : List Bool) (kv : Value) (hkv : ∀ w', w.heap.size ≤ w'.heap.size → (∀ k, k < B → k < w.heap.size → w'.heap[k]? = w.heap[k]?) → BoolAt l kv w') :
    Calls Try.prog 23 #[.pointer (some ⟨g, 0, none⟩), kv] w (DsPost B g b c m (s.powerS l) vp (.tuple #[]) w) := by
  have M := dmade_any h
  have hbl := h.dur.lt
  obtain ⟨pk, ck, hkve, -⟩ := hkv w (Nat.le_refl _) (fun _ _ _ => rfl)
  have KB := keptBy_any kv pk l.length ck hkve w
  have K0 := box_below w (.cells #[kv] 30)
  have h1 := h.kept K0
  have ST := dsettle_any h1 hok hlo (keepL l) (keptV w.heap.size) (Or.inr ⟨w.heap.size, l, kv, rfl, rfl, by omega, heap_alloc_last w _, fun w' hs hk => hkv w' (Nat.le_trans K0.size hs) (fun k hB hl => (hk k hB (Nat.lt_of_lt_of_le hl K0.size)).trans (K0.block k hl))⟩)
  obtain ⟨W, hW⟩ : ∃ W, W = w.alloc (.cells #[kv] 30) := ⟨_, rfl⟩
  rw [← hW] at ST KB K0
  have HK0 := Lib.hid K0
  subst hkve
  clear h h1 hok hlo hkv hW hbl K0
  go_enter Try.func23, Try.ntmps23
  go_wp2_with fail
  refine M.mono ?_
  rintro e w1 ⟨rfl, rfl⟩
  go_wp2_with fail
  refine KB.mono ?_
  rintro e w1 ⟨rfl, rfl⟩
  go_wp2_with fail
  refine ST.mono ?_
  rintro e w2 ⟨rfl, vp', r2, hs2, b2⟩
  have c4 : w2.cell? ⟨g, 4, none⟩ = some (.int .i64 (fzI s.fuse)) := r2.cell 4 _ rfl
  have f4 := r2.froz 4
  have rr1 := r2.setRow 4 (.int .i64 (-1))
  obtain ⟨W1, hW1⟩ : ∃ W1, W1 = w2.setCell ⟨g, 4, none⟩ (.int .i64 (-1)) := ⟨_, rfl⟩
  rw [← hW1] at rr1
  have c6 : W1.cell? ⟨g, 6, none⟩ = some (.bool s.down) := by rw [cell_of_row _ _ _ _ _ _ rr1]; rfl
  have f6 := frozen_of_row W1 g 6 _ _ rr1
  have fin : DsPost B g b c m (s.powerS l) vp (.tuple #[]) w (.returned (.tuple #[])) (W1.setCell ⟨g, 6, none⟩ (.bool false)) := by
    refine ⟨rfl, vp', r2.fields ?_ (fun k hk hn => ?_) rfl rfl, fun k e => (hs2 k e).imp id (fun x => Nat.le_trans HK0.out.size x), ?_⟩
    · rw [heap_setCell_same _ _ _ _ _ _ rr1]; rfl
    · rw [set_other _ _ _ _ _ hn, hW1, set_other _ _ _ _ _ hn]
    · rw [hW1]
      exact (((ButBy.below HK0.out).trans b2).setCell g 4 _ (Or.inl rfl)).setCell g 6 _ (Or.inl rfl)
  have FIN := Lib.hid fin
  rw [hW1] at c6 f6 FIN
  clear fin rr1 hW1 W1 r2 hs2 b2 ST
  go_wp2
  first | go_ret | go_end0
  exact FIN.out
end

end Go.Proofs.Ytpnnlpmkgglgdaa
