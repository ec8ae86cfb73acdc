/- The landed journal's reader of a transaction's records. The landed journal's reader of a transaction. -/
import Derived.Test.YtoigembmbajopaaDoorGW
import Derived.Test.YtoigembmbajopaaDoorGU
namespace Go.Proofs.YtoigembmbajopaaDoor
open Go.RowKit

theorem oneL_short (s : RdSt) : (oneL s).2.1.length ≤ s.1.length := by
  have hI : (oneI s).2.1.length ≤ s.1.length := by
    unfold oneI
    split
    · exact Nat.le_trans (numR_short _ _) (numR_short _ _)
    · exact numR_short _ _
  have hN : (oneN s).2.1.length ≤ s.1.length := by
    unfold oneN
    split
    · exact Nat.le_trans (textR_len _) hI
    · exact hI
  unfold oneL
  simp only
  unfold oneBL
  split
  · simp only
    unfold runsLd
    exact Nat.le_trans (runsL_short _ _ _) (Nat.le_trans (numR_short _ _) (Nat.le_trans (numR_short _ _) hN))
  · exact hN
theorem oneL_wf {s : RdSt} (h : s.1.length ≤ 1000000) : (oneL s).1.wf ∧ wfR (oneL s).1.runs := by
  have hI : (oneI s).1 < 4294967296 ∧ (oneI s).2.1.length ≤ 1000000 := by
    unfold oneI
    have := numR_short s 1
    split
    · have h1 := numR_lt (numR s 1).2 4
      have h2 := numR_short (numR s 1).2 4
      exact ⟨h1, by omega⟩
    · exact ⟨by simp, by simp only; omega⟩
  have hN : (oneN s).1.length ≤ 1000000 := by
    unfold oneN
    split
    · exact Nat.le_trans (textR_short _) hI.2
    · exact Nat.zero_le _
  have hB : ∀ k t, (0 ≤ (oneBL k t).1.1 ∧ (oneBL k t).1.1 < 4294967296) ∧ wfR (oneBL k t).1.2 := fun k t => by
    unfold oneBL
    split
    · have h1 := numR_lt t 4
      refine ⟨by simp only; omega, ?_⟩
      simp only
      unfold runsLd
      exact runsL_wf _ _ _ wfR_nil
    · exact ⟨by simp, wfR_nil⟩
  have hk := numR_lt s 1
  unfold oneL
  simp only
  have hb := hB ((numR s 1).1 : Nat) (oneN s).2
  refine ⟨⟨?_, hI.1, ?_, ?_⟩, hb.2⟩
  · unfold I64; simp only; omega
  · simp only; unfold maxLen; omega
  · have := hb.1; unfold I64; simp only; omega
/-- Behind the last record. -/
def finL (F : Option (List Rc × RdSt)) : Option (List Rc) := match F with
  | none => none
  | some (l, s) => if shutR s = 0 then some l else none
theorem finL_none : finL none = none := rfl
theorem finL_some (l : List Rc) (s : RdSt) : finL (some (l, s)) = if shutR s = 0 then some l else none := rfl
theorem jend (b : Nat) (s : RdSt) (w : World) (h : RdAt b s w) :
    Calls Tryd.prog 115 #[.pointer (some ⟨b, 0, none⟩)] w fun e w' => e = .returned (.int .i64 (shutR s)) ∧ w = w' := end_any b s w h

def JRecsPost (b : Nat) (t : List UInt8) (w : World) (e : Ending) (w' : World) : Prop := w.grownBy w' (some b) ∧ ((recordsL t = none ∧ e = .returned (.tuple #[.slice none 0 0, .bool false])) ∨ ∃ A v, recordsL t = some (A.map Prod.fst) ∧ e = .returned (.tuple #[v, .bool true]) ∧ RecsOwn w.heap.size A v w')

set_option maxRecDepth 100000 in
set_option maxHeartbeats 16000000 in
theorem jrecords_any (b : Nat) (S : List UInt8) (hSl : S.length ≤ 1000000) (w : World) (h : RdAt b (S, 0) w) :
    Calls Tryd.prog 91 #[.agg #[.pointer (some ⟨b, 0, none⟩)]] w (JRecsPost b S w) := by
  obtain ⟨ir, hir, hx⟩ := Option.map_eq_some_iff.1 infoRcJ
  simp only [Prod.mk.injEq] at hx
  obtain ⟨hz0, hz1, hz2⟩ := hx
  have HIR := Lib.hid hir
  have HZ0 := Lib.hid hz0
  have HZ1 := Lib.hid hz1
  have HZ2 := Lib.hid hz2
  have hblt := h.lt
  obtain ⟨W1, hW1⟩ : ∃ W1, W1 = w.alloc (.cells #[.pointer (some ⟨b, 0, none⟩)] 99) := ⟨_, rfl⟩
  have HW1 := Lib.hid hW1
  have HI0 : Hid (RJ w b w.heap.size (S, 0) W1) := Lib.hid (by
    rw [hW1]
    exact ⟨grown_below (box_below _ _) _, Kept.row (box_below _ _) h, heap_alloc_last w _⟩)
  have HSZ0 : Hid (W1.heap.size = w.heap.size + 1) := Lib.hid (by rw [hW1]; simp)
  have HNE : Hid (w.heap.size ≠ b ∧ b < w.heap.size) := Lib.hid (by omega)
  obtain ⟨n, hn⟩ : ∃ n, n = (numR (S, 0) 2).1 := ⟨_, rfl⟩
  obtain ⟨s0, hs0⟩ : ∃ t, t = (numR (S, 0) 2).2 := ⟨_, rfl⟩
  have C0 := ju16 b (S, 0) W1 HI0.out.rdj hSl n hn s0 hs0
  have hn16 : n < 65536 := by rw [hn]; exact numR_lt (S, 0) 2
  have HREC : Hid (recordsL S = if n < 1 ∨ 8192 < n then none else finL (recsL n s0 [])) := Lib.hid (by unfold recordsL; rw [← hn, ← hs0]; rfl)
  obtain ⟨FIN, hFIN⟩ : ∃ F, F = recsL n s0 [] := ⟨_, rfl⟩
  rw [← hFIN] at HREC
  have HFIN : Hid (recsL n s0 [] = FIN) := Lib.hid hFIN.symm
  have HL0 : Hid (s0.1.length ≤ 1000000) := Lib.hid (by rw [hs0]; exact Nat.le_trans (numR_short _ _) hSl)
  clear hir hz0 hz1 hz2 hW1 h hn hs0 hFIN hSl hblt
  by_cases q1 : n < 1
  · have b1 : decide ((n : Int) < 1) = true := decide_eq_true (by omega)
    have HR : Hid (recordsL S = none) := Lib.hid (by rw [HREC.out, if_pos (Or.inl q1)])
    go_enter Tryd.func91, Tryd.ntmps91
    go_wp2_with fail
    rw [← HW1.out]
    refine C0.mono ?_
    rintro e w1 ⟨rfl, hr1, hg1⟩
    have HI1 := Lib.hid (HI0.out.read HNE.out.1 hr1 hg1)
    clear C0 hr1 hg1
    go_wp2
    first | go_ret | go_ret2
    exact ⟨HI1.out.grj, Or.inl ⟨HR.out, rfl⟩⟩
  · have b1 : decide ((n : Int) < 1) = false := decide_eq_false (by omega)
    by_cases q2 : (n : Int) > 8192
    · have b2 : decide ((n : Int) > 8192) = true := decide_eq_true q2
      have HR : Hid (recordsL S = none) := Lib.hid (by rw [HREC.out, if_pos (Or.inr (by omega))])
      go_enter Tryd.func91, Tryd.ntmps91
      go_wp2_with fail
      rw [← HW1.out]
      refine C0.mono ?_
      rintro e w1 ⟨rfl, hr1, hg1⟩
      have HI1 := Lib.hid (HI0.out.read HNE.out.1 hr1 hg1)
      clear C0 hr1 hg1
      go_wp2
      first | go_ret | go_ret2
      exact ⟨HI1.out.grj, Or.inl ⟨HR.out, rfl⟩⟩
    · have b2 : decide ((n : Int) > 8192) = false := decide_eq_false q2
      have HREC2 : Hid (recordsL S = finL FIN) := Lib.hid (by rw [HREC.out, if_neg (by omega)])
      have hn8 : n ≤ 8192 := by omega
      clear q1 q2 HREC hn16
      go_enter Tryd.func91, Tryd.ntmps91
      go_wp2_with fail
      rw [← HW1.out]
      refine C0.mono ?_
      rintro e w1 ⟨rfl, hr1, hg1⟩
      have HI1 := Lib.hid (HI0.out.read HNE.out.1 hr1 hg1)
      have HSZ1 : Hid (w.heap.size + 1 ≤ w1.heap.size) := Lib.hid (by have := hg1.size; have := HSZ0.out; omega)
      clear C0 hr1 hg1 HI0 HSZ0 HW1
      go_wp2
      go_loopg [5, 17] n (fun gh v y wr => ∃ (k : Nat) (A : List (Rc × Value)) (s' : RdSt), k + gh = n ∧ y = .int .u16 k ∧ Hid (A.length = k) ∧ Hid (RecsOwn (w.heap.size + 1) A v wr) ∧ Hid (RJ w b w.heap.size s' wr) ∧ Hid (w.heap.size + 1 ≤ wr.heap.size) ∧ Hid (recsL gh s' (A.map Prod.fst) = FIN) ∧ Hid (s'.1.length ≤ 1000000))
      case atStart => exact ⟨0, [], s0, by omega, rfl, Lib.hid rfl, Lib.hid (RecsOwn.nil _ _), HI1, HSZ1, HFIN, HL0⟩
      case round =>
        clear HI1 HSZ1 HFIN HL0
        obtain ⟨k, A, s', hk, rfl, HA, HO, HI, HBS, HG, HL⟩ := hrel
        obtain ⟨pv, cv, hv, -, -⟩ := own_slice HO.out.1
        subst hv
        have x0 : wr.cell? ⟨w.heap.size, 0, none⟩ = some (.pointer (some ⟨b, 0, none⟩)) := HI.out.cx
        by_cases hlt : k < n
        · have hki : (k : Int) < n := by omega
          have bk : decide ((k : Int) < (n : Int)) = true := by simpa using hki
          have hwf := oneL_wf (s := s') HL.out
          have hsh := oneL_short s'
          have ON := jone_any b s' wr HI.out.rdj HL.out
          unfold JOnePost at ON
          obtain ⟨x, hx⟩ : ∃ x, x = (oneL s').1 := ⟨_, rfl⟩
          obtain ⟨t', ht'⟩ : ∃ t, t = (oneL s').2 := ⟨_, rfl⟩
          rw [← hx, ← ht'] at ON
          rw [← hx] at hwf
          rw [← ht'] at hsh
          obtain ⟨g, rfl⟩ : ∃ g, gk = g + 1 := ⟨gk - 1, by omega⟩
          have HS : Hid ((mayR x → recsL g t' (A.map Prod.fst ++ [x]) = FIN) ∧ (¬ mayR x → FIN = none)) := Lib.hid (by
            have h := HG.out
            rw [recsL, ← hx, ← ht'] at h
            exact ⟨fun hm => by rw [if_pos hm] at h; exact h, fun hm => by rw [if_neg hm] at h; exact h.symm⟩)
          obtain ⟨k1, hk1⟩ : ∃ k1, k1 = k + 1 := ⟨_, rfl⟩
          have v3 : IntKind.u16.wrap ((k : Int) + 1) = (k1 : Int) := by rw [show (k : Int) + 1 = (k1 : Int) by omega]; exact wrap_u16 (by omega)
          have HKK : Hid (k1 = k + 1 ∧ k + (g + 1) = n) := Lib.hid ⟨hk1, hk⟩
          have HWF := Lib.hid hwf
          have HL2 : Hid (t'.1.length ≤ 1000000) := Lib.hid (Nat.le_trans hsh HL.out)
          clear hx ht' HG hk1 hwf hk hsh HL
          go_wp2_with fail
          refine ON.mono ?_
          rintro e w2 ⟨tv, rfl, ho, h3, h4⟩
          obtain ⟨pt, ct, htv, -, -⟩ := own_slice ho
          have HO2 := Lib.hid (HO.out.grown h4 (by have := HNE.out.2; omega))
          have HT2 : Hid (OwnRuns (w.heap.size + 1) x.runs tv w2) := Lib.hid (own_base ho HBS.out)
          have HI2 := Lib.hid (HI.out.read HNE.out.1 h3 h4)
          have HBS2 : Hid (w.heap.size + 1 ≤ w2.heap.size) := Lib.hid (Nat.le_trans HBS.out h4.size)
          have HRA : Hid (RecAt x tv w2) := Lib.hid ⟨ho.at_ HWF.out.2, HWF.out.1⟩
          have CM := fun W (kk : Kept w2 W) => jcheck_any x tv W (HRA.out.later kk)
          subst htv
          clear ON ho h3 h4 HO HBS HI x0
          obtain ⟨rl, hrl⟩ : ∃ rl, rl = x.runs.length := ⟨_, rfl⟩
          obtain ⟨xk, hxk⟩ : ∃ q, q = x.kind := ⟨_, rfl⟩
          obtain ⟨xi, hxi⟩ : ∃ q, q = x.id := ⟨_, rfl⟩
          obtain ⟨xn, hxn⟩ : ∃ q, q = str x.name := ⟨_, rfl⟩
          obtain ⟨xz, hxz⟩ : ∃ q, q = x.size := ⟨_, rfl⟩
          unfold recV recC at CM ⊢
          rw [← hrl] at HT2 HRA
          rw [← hrl, ← hxk, ← hxi, ← hxn, ← hxz] at CM ⊢
          have HC : Hid ((recC x (.slice pt rl ct)).toList = [.int .i64 xk, .int .u32 (xi : Nat), .string xn, .int .i64 xz, .slice pt rl ct]) := Lib.hid (by unfold recC; rw [hxk, hxi, hxn, hxz])
          have KA2 : Kept w2 (w2.alloc (.cells #[.int .i64 xk, .int .u32 (xi : Nat), .string xn, .int .i64 xz, .slice pt rl ct] 30)) := box_below _ _
          have HROW : Hid ((w2.alloc (.cells #[.int .i64 xk, .int .u32 (xi : Nat), .string xn, .int .i64 xz, .slice pt rl ct] 30)).heap[w2.heap.size]? = some (.cells #[.int .i64 xk, .int .u32 (xi : Nat), .string xn, .int .i64 xz, .slice pt rl ct] 30 (0, 0))) := Lib.hid (heap_alloc_last w2 _)
          have CM2 := CM _ KA2
          have HKA := Lib.hid KA2
          clear hrl hxk hxi hxn hxz KA2 CM
          by_cases hm : mayR x
          · rw [if_pos hm] at CM2
            have HS2a := Lib.hid (HS.out.1 hm)
            clear HS hm
            go_wp2_with fail
            refine CM2.mono ?_
            rintro e w3 ⟨rfl, hb3⟩
            have hr3 := (show Kept _ w3 from hb3).row HROW.out
            have e0 : w3.cell? ⟨w2.heap.size, 0, none⟩ = some (.int .i64 xk) := by rw [cell_of_row _ _ _ _ _ _ hr3]; rfl
            have e1 : w3.cell? ⟨w2.heap.size, 1, none⟩ = some (.int .u32 (xi : Nat)) := by rw [cell_of_row _ _ _ _ _ _ hr3]; rfl
            have e2 : w3.cell? ⟨w2.heap.size, 2, none⟩ = some (.string xn) := by rw [cell_of_row _ _ _ _ _ _ hr3]; rfl
            have e3 : w3.cell? ⟨w2.heap.size, 3, none⟩ = some (.int .i64 xz) := by rw [cell_of_row _ _ _ _ _ _ hr3]; rfl
            have e4 : w3.cell? ⟨w2.heap.size, 4, none⟩ = some (.slice pt rl ct) := by rw [cell_of_row _ _ _ _ _ _ hr3]; rfl
            have K23 : Hid (Kept w2 w3) := Lib.hid ((show Kept w2 _ from HKA.out).then hb3)
            clear CM2 hb3 hr3 HROW
            have HO3 := Lib.hid (HO2.out.kept K23.out)
            have HT3 : Hid (OwnRuns (w.heap.size + 1) x.runs (.slice pt rl ct) w3) := Lib.hid (own_stay HT2.out (fun m hm => K23.out.block m (HT2.out.lt m hm).2))
            have HFL : Hid (FlatAt 5 1 (cellsA [(x, Value.slice pt rl ct)]) (.slice (some ⟨w3.heap.size, 0, none⟩) 1 1) (w3.alloc (.cells #[.int .i64 xk, .int .u32 (xi : Nat), .string xn, .int .i64 xz, .slice pt rl ct] 30))) := Lib.hid (by
              have h := FlatAt.new w3 30 5 1 1 #[.int .i64 xk, .int .u32 (xi : Nat), .string xn, .int .i64 xz, .slice pt rl ct] rfl (by intro y hy; simp at hy; rcases hy with rfl | rfl | rfl | rfl | rfl <;> rfl)
              have hc : cellsA [(x, Value.slice pt rl ct)] = [.int .i64 xk, .int .u32 (xi : Nat), .string xn, .int .i64 xz, .slice pt rl ct] := by
                show (recC x (.slice pt rl ct)).toList ++ [] = _
                rw [HC.out]; rfl
              rw [hc]
              exact h)
            have HI3 := Lib.hid (HI2.out.kept K23.out)
            have HBS3 : Hid (w.heap.size + 1 ≤ w3.heap.size) := Lib.hid (Nat.le_trans HBS2.out K23.out.size)
            clear HO2 HT2 HRA HI2 HBS2 HKA
            go_wp2_with (at_builtin; refine wpList_append_flat rfl _ _ 22 rfl (w.heap.size + 1) 30 ir (.agg #[.int .i64 0, .int .u32 0, .string ⟨#[]⟩, .int .i64 0, .slice none 0 0]) 5 64 Tryd.underlying22 HIR.out HZ0.out HZ1.out HZ2.out rfl (by decide) _ _ _ rfl (HO3.out.1.alloc _) _ 1 (cellsA [(x, Value.slice pt rl ct)]) rfl HFL.out ?wa1 ?wa2 ?wa3 ?_)
            case wa1 => have := HKK.out; have := HA.out; unfold maxLen; omega
            case wa2 => have := HKK.out; have := HA.out; omega
            case wa3 => have := HBS3.out; simp; omega
            intro v' w4 hown4 hg4 _
            have HO4 : Hid (RecsOwn (w.heap.size + 1) (A ++ [(x, Value.slice pt rl ct)]) v' w4) := Lib.hid (HO3.out.app ⟨HT3.out, HWF.out.1, HWF.out.2⟩ hown4 hg4)
            have HI4 : Hid (RJ w b w.heap.size t' w4) := Lib.hid ((HI3.out.kept (box_below w3 _)).own (by have := HNE.out.2; omega) (by omega) (by omega) (HO3.out.1.alloc _) hg4)
            have HBS4 : Hid (w.heap.size + 1 ≤ w4.heap.size) := Lib.hid (by have := hg4.size; have := HBS3.out; simp at *; omega)
            have HS4 : Hid (recsL g t' ((A ++ [(x, Value.slice pt rl ct)]).map Prod.fst) = FIN) := Lib.hid (by rw [List.map_append]; exact HS2a.out)
            have HA4 : Hid ((A ++ [(x, Value.slice pt rl ct)]).length = k1) := Lib.hid (by rw [List.length_append, HA.out, HKK.out.1]; rfl)
            clear hown4 hg4 HO3 HT3 HFL HI3 HBS3 e0 e1 e2 e3 e4 HS2a
            go_wp2
            go_roundg g
            case measure => omega
            case rel => exact ⟨k1, _, t', by have := HKK.out; omega, by first | rfl | (have := HKK.out; simp; omega), HA4, HO4, HI4, HBS4, HS4, HL2⟩
          · rw [if_neg hm] at CM2
            have HR : Hid (recordsL S = none) := Lib.hid (by rw [HREC2.out, HS.out.2 hm, finL_none])
            clear HS hm
            go_wp2_with fail
            refine CM2.mono ?_
            rintro e w3 ⟨rfl, hb3⟩
            have K23 : Hid (Kept w2 w3) := Lib.hid ((show Kept w2 _ from HKA.out).then hb3)
            clear CM2 hb3
            go_wp2
            first | go_ret | go_ret2
            exact ⟨grown_trans HI2.out.grj (grown_below K23.out _), Or.inl ⟨HR.out, rfl⟩⟩
        · have hki : ¬ (k : Int) < n := by omega
          have bk : decide ((k : Int) < (n : Int)) = false := by simpa using hki
          have HS : Hid (FIN = some (A.map Prod.fst, s')) := Lib.hid (by
            have h := HG.out
            rw [show gk = 0 by omega] at h
            exact h.symm)
          obtain ⟨q, hq⟩ : ∃ q, q = shutR s' := ⟨_, rfl⟩
          have EN := jend b s' wr HI.out.rdj
          rw [← hq] at EN
          have HQ : Hid (recordsL S = if q = 0 then some (A.map Prod.fst) else none) := Lib.hid (by rw [HREC2.out, HS.out, finL_some, hq])
          clear HG hq
          by_cases q0 : q = 0
          · have b3 : (q != 0) = false := by rw [bne_eq_false_iff_eq]; exact q0
            have HR : Hid (recordsL S = some (A.map Prod.fst)) := Lib.hid (by rw [HQ.out, if_pos q0])
            clear q0
            go_wp2_with fail
            refine EN.mono ?_
            rintro e w2 ⟨rfl, hw2⟩
            subst hw2
            have HO2 := Lib.hid (HO.out.base (C := w.heap.size) (by omega))
            clear EN HO x0
            go_wp2
            first | go_ret | go_ret2
            exact ⟨HI.out.grj, Or.inr ⟨A, _, HR.out, rfl, HO2.out⟩⟩
          · have b3 : (q != 0) = true := by rw [bne_iff_ne]; exact q0
            have HR : Hid (recordsL S = none) := Lib.hid (by rw [HQ.out, if_neg q0])
            clear q0
            go_wp2_with fail
            refine EN.mono ?_
            rintro e w2 ⟨rfl, hw2⟩
            subst hw2
            clear EN x0
            go_wp2
            first | go_ret | go_ret2
            exact ⟨HI.out.grj, Or.inl ⟨HR.out, rfl⟩⟩

end Go.Proofs.YtoigembmbajopaaDoor
namespace Go.Proofs.YtoigembmbajopaaDoor
open Go.RowKit

theorem jtake (b : Nat) (s : RdSt) (w : World) (h : RdAt b s w) (hl : s.1.length ≤ 1000000) (k : Nat) (x : ByteArray) (hx : x = str (takeR s (k : Nat)).1) (t : RdSt) (ht : t = (takeR s (k : Nat)).2) :
    Calls Tryd.prog 89 #[.pointer (some ⟨b, 0, none⟩), .int .i64 (k : Nat)] w (RdPost b (.string x) t w) := by
  subst hx ht; exact take_any b s k w h hl
theorem grown_fresh {w w1 w2 : World} {b c : Nat} (h : w.grownBy w1 (some b)) (k : w1.grownBy w2 (some c)) (hc : w.heap.size ≤ c) : w.grownBy w2 (some b) :=
  ⟨k.os.trans h.os, k.tape.trans h.tape, k.output.trans h.output, Nat.le_trans h.size k.size, fun i hi hn => by
    rw [k.block i (Nat.lt_of_lt_of_le hi h.size) (fun e => by have := Option.some.inj e; omega)]
    exact h.block i hi hn⟩
theorem TabAt.rd {w w' : World} {b : Nat} {s : RdSt} (h : TabAt w) (hr : RdAt b s w) (hg : w.grownBy w' (some b)) : TabAt w' := fun i hi => by
  have h0 := h 0 (by omega)
  have hne : 0 ≠ b := fun e => by
    have c := hr.c0
    rw [← e, h0] at c
    cases c
  have hi' := h i hi
  have hl := World.block_lt_of_cell? _ _ hi'
  have hb := hg.block 0 hl (fun e => hne (Option.some.inj e))
  unfold World.cell? at hi' ⊢
  simp only at hi' ⊢
  rw [hb]
  exact hi'

def JTransPost (b : Nat) (X : List UInt8) (t3 : RdSt) (c : Nat) (w : World) (e : Ending) (w' : World) : Prop := w.grownBy w' (some b) ∧ RdAt b t3 w' ∧
  (((t3.2 ≠ 0 ∨ c ≠ moreN 0 X ∨ recordsL X = none) ∧ e = .returned (.tuple #[.slice none 0 0, .bool false])) ∨
   (t3.2 = 0 ∧ c = moreN 0 X ∧ ∃ A v, recordsL X = some (A.map Prod.fst) ∧ e = .returned (.tuple #[v, .bool true]) ∧ RecsOwn w.heap.size A v w'))

set_option maxRecDepth 100000 in
set_option maxHeartbeats 16000000 in
theorem jtrans_any (b : Nat) (T : List UInt8) (hT : T.length ≤ 1000000) (w : World) (h : RdAt b (T, 0) w) (hTab : TabAt w)
    (a : Nat) (t1 : RdSt) (h1 : numR (T, 0) 4 = (a, t1)) (c : Nat) (t2 : RdSt) (h2 : numR t1 4 = (c, t2)) (X : List UInt8) (t3 : RdSt) (h3 : takeR t2 (a : Nat) = (X, t3)) :
    Calls Tryd.prog 55 #[.agg #[.pointer (some ⟨b, 0, none⟩)]] w (JTransPost b X t3 c w) := by
  have hblt := h.lt
  obtain ⟨W0, hW0⟩ : ∃ W0, W0 = w.alloc (.cells #[.pointer (some ⟨b, 0, none⟩)] 99) := ⟨_, rfl⟩
  have HI0 : Hid (RJ w b w.heap.size (T, 0) W0) := Lib.hid (by
    rw [hW0]
    exact ⟨grown_below (box_below _ _) _, Kept.row (box_below _ _) h, heap_alloc_last w _⟩)
  have HW0 := Lib.hid hW0
  have HNE : Hid (w.heap.size ≠ b ∧ b < w.heap.size) := Lib.hid (by omega)
  have HTAB0 : Hid (TabAt w ∧ RdAt b (T, 0) w) := Lib.hid ⟨hTab, h⟩
  have l1 : t1.1.length ≤ 1000000 := by have := numR_short (T, 0) 4; rw [h1] at this; simp only at this; omega
  have l2 : t2.1.length ≤ 1000000 := by have := numR_short t1 4; rw [h2] at this; simp only at this; omega
  have hxl : X.length ≤ 1000000 := by have := (takeR_short t2 (a : Nat)).1; rw [h3] at this; simp only at this; omega
  have ha : a < 4294967296 := by have := numR_lt (T, 0) 4; rw [h1] at this; exact this
  have hc : c < 4294967296 := by have := numR_lt t1 4; rw [h2] at this; exact this
  have C1 := ju32 b (T, 0) W0 HI0.out.rdj hT a (by rw [h1]) t1 (by rw [h1])
  have C2 := fun W (hW : RdAt b t1 W) => ju32 b t1 W hW l1 c (by rw [h2]) t2 (by rw [h2])
  obtain ⟨x, hx⟩ : ∃ x, x = str X := ⟨_, rfl⟩
  have C3 := fun W (hW : RdAt b t2 W) => jtake b t2 W hW l2 a x (by rw [h3, hx]) t3 (by rw [h3])
  have C4 := fun W (hW : RdAt b t3 W) => err_any b t3 W hW
  have hxz : x.size ≤ 1000000 := by rw [hx, str_size]; exact hxl
  have hxd : x.data.toList = X := by rw [hx, str_list]
  have C5 := fun W (hW : TabAt W) => sum_any x (by unfold maxLen; omega) W hW
  rw [hxd] at C5
  obtain ⟨m, hm⟩ : ∃ m, m = moreN 0 X := ⟨_, rfl⟩
  rw [← hm] at C5
  have HM := Lib.hid hm
  have C6 := fun W => read_any x W
  rw [hxd] at C6
  have C7 := fun b' W (hW : RdAt b' (X, 0) W) => jrecords_any b' X hxl W hW
  have va : IntKind.i64.wrap (a : Int) = a := IntWalk.i64_in _ (by omega)
  obtain ⟨e3, he3⟩ : ∃ e3, e3 = t3.2 := ⟨_, rfl⟩
  rw [← he3] at C4
  have HE3 := Lib.hid he3
  clear hblt hW0 h hTab l1 l2 hxl ha hc h1 h2 h3 hx hxz hxd hm he3 hT
  go_enter Tryd.func55, Tryd.ntmps55
  go_wp2_with fail
  rw [← HW0.out]
  refine C1.mono ?_
  rintro e w1 ⟨rfl, hr, hg⟩
  have HI1 := Lib.hid (HI0.out.read HNE.out.1 hr hg)
  have x0 := HI1.out.cx
  have D2 := C2 w1 HI1.out.rdj
  clear hr hg C1 HI0 C2
  go_wp2_with fail
  refine D2.mono ?_
  rintro e w2 ⟨rfl, hr, hg⟩
  have HI2 := Lib.hid (HI1.out.read HNE.out.1 hr hg)
  clear x0
  have x0 := HI2.out.cx
  have D3 := C3 w2 HI2.out.rdj
  clear hr hg D2 HI1 C3
  go_wp2_with fail
  refine D3.mono ?_
  rintro e w3 ⟨rfl, hr, hg⟩
  have HI3 := Lib.hid (HI2.out.read HNE.out.1 hr hg)
  clear x0
  have x0 := HI3.out.cx
  have D4 := C4 w3 HI3.out.rdj
  have HT3 : Hid (TabAt w3) := Lib.hid (HTAB0.out.1.rd HTAB0.out.2 HI3.out.grj)
  have D5 := C5 w3 HT3.out
  clear hr hg D3 HI2 C4 C5
  go_wp2_with fail
  refine D4.mono ?_
  rintro e w4 ⟨rfl, hw4⟩
  subst hw4
  clear D4
  by_cases q0 : e3 = 0
  · have b3 : (e3 != 0) = false := by rw [bne_eq_false_iff_eq]; exact q0
    by_cases q1 : m = c
    · have b4 : ((m : Int) != (c : Int)) = false := by rw [bne_eq_false_iff_eq, q1]
      have HQ : Hid (t3.2 = 0 ∧ c = moreN 0 X) := Lib.hid ⟨HE3.out.symm.trans q0, by rw [← q1, HM.out]⟩
      clear q0 q1
      go_wp2_with fail
      refine D5.mono ?_
      rintro e w5 ⟨rfl, hw5⟩
      subst hw5
      have D6 := C6 w3
      clear D5 C6
      go_wp2_with fail
      refine D6.mono ?_
      rintro e w6 ⟨rfl, hr6, hb6⟩
      have D7 := C7 w3.heap.size w6 hr6
      have HI6 := Lib.hid (HI3.out.kept hb6)
      have HS6 : Hid (w.heap.size ≤ w3.heap.size ∧ w3.heap.size ≤ w6.heap.size ∧ b < w3.heap.size) := Lib.hid ⟨HI3.out.grj.size, hb6.size, HI3.out.rdj.lt⟩
      unfold JRecsPost at D7
      clear D6 C7 hr6 hb6
      go_wp2_with fail
      refine D7.mono ?_
      rintro e w7 ⟨hg7, hcs⟩
      have HG7 : Hid (w.grownBy w7 (some b)) := Lib.hid (grown_fresh HI6.out.grj hg7 HS6.out.1)
      have HR7 : Hid (RdAt b t3 w7) := Lib.hid (HI6.out.rdj.later hg7 (fun e => by have := Option.some.inj e; have := HS6.out.2.2; omega))
      rcases hcs with ⟨hn, rfl⟩ | ⟨A, v, hs, rfl, ho⟩
      · have HN := Lib.hid hn
        clear D7 hg7 hn
        go_wp2
        first | go_ret | go_ret2
        exact ⟨HG7.out, HR7.out, Or.inl ⟨Or.inr (Or.inr HN.out), rfl⟩⟩
      · have HN := Lib.hid hs
        have HO : Hid (RecsOwn w.heap.size A v w7) := Lib.hid (ho.base (Nat.le_trans HS6.out.1 HS6.out.2.1))
        obtain ⟨pv, cv, hv, -, -⟩ := own_slice ho.1
        clear D7 hg7 hs ho
        subst hv
        go_wp2
        first | go_ret | go_ret2
        exact ⟨HG7.out, HR7.out, Or.inr ⟨HQ.out.1, HQ.out.2, A, _, HN.out, rfl, HO.out⟩⟩
    · have b4 : ((m : Int) != (c : Int)) = true := by rw [bne_iff_ne]; omega
      have HQ : Hid (c ≠ moreN 0 X) := Lib.hid (fun y => q1 (HM.out.trans y.symm))
      clear q0 q1
      go_wp2_with fail
      refine D5.mono ?_
      rintro e w5 ⟨rfl, hw5⟩
      subst hw5
      clear D5
      go_wp2
      first | go_ret | go_ret2
      exact ⟨HI3.out.grj, HI3.out.rdj, Or.inl ⟨Or.inr (Or.inl HQ.out), rfl⟩⟩
  · have b3 : (e3 != 0) = true := by rw [bne_iff_ne]; exact q0
    have HQ : Hid (t3.2 ≠ 0) := Lib.hid (fun y => q0 (HE3.out.trans y))
    clear q0 D5
    go_wp2
    first | go_ret | go_ret2
    exact ⟨HI3.out.grj, HI3.out.rdj, Or.inl ⟨Or.inl HQ.out, rfl⟩⟩

end Go.Proofs.YtoigembmbajopaaDoor
