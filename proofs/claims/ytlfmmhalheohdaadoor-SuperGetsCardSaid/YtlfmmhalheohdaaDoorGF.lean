/- The contracts of the program's calls, by name, whatever they are made of; superblocks in cells; few, the statements' example. The laws SuperNeeds, SuperGets, SuperPicks out of the contracts. The law SuperPuts out of the contracts. -/
import Derived.Test.YtlfmmhalheohdaaDoorGE
import Derived.Test.YtlfmmhalheohdaaDoorGD
namespace Go.Proofs.YtlfmmhalheohdaaDoor
open Go.RowKit

def chkE (s : Sb) : Int := if mayS s then 0 else 1
def putV (s : Sb) : ByteArray := str (if mayS s then putS s else [])
def YCheckOk : Prop := ∀ (s : Sb) (v : Value) (w : World), SbAt s v w → s.runs.length ≤ 65536 → Calls Tryd.prog 12 #[v] w fun e w' => e = .returned (.int .i64 (chkE s)) ∧ Kept w w'
def YPutOk : Prop := ∀ (s : Sb) (v : Value) (w : World), SbAt s v w → s.runs.length ≤ 65536 → TabAt w → Calls Tryd.prog 10 #[v] w fun e w' => e = .returned (.tuple #[.string (putV s), .int .i64 (chkE s)]) ∧ Kept w w'
def YGetOk : Prop := ∀ (t : ByteArray) (w : World), t.size ≤ 1000 → TabAt w → Calls Tryd.prog 15 #[.string t] w fun e w' => (∃ v, e = .returned (.tuple #[v, .int .i64 (getE t.data.toList)]) ∧ SbAt (getD t.data.toList) v w') ∧ Kept w w'
def YPickOk : Prop := ∀ (a b : ByteArray) (w : World), a.size ≤ 1000 → b.size ≤ 1000 → TabAt w → Calls Tryd.prog 18 #[.string a, .string b] w fun e w' => (∃ v, e = .returned (.tuple #[v, .int .i64 (pickE a.data.toList b.data.toList)]) ∧ SbAt (pickD a.data.toList b.data.toList) v w') ∧ Kept w w'
def YNextOk : Prop := ∀ (s : Sb) (v : Value) (w : World), SbAt s v w → s.runs.length ≤ 65536 → Calls Tryd.prog 20 #[v] w fun e w' => (∃ v', e = .returned v' ∧ SbAt (nextS s) v' w') ∧ Kept w w'
def YSameOk : Prop := ∀ (s o : Sb) (u v : Value) (w : World), SbAt s u w → SbAt o v w → s.runs.length ≤ 65536 → o.runs.length ≤ 65536 → Calls Tryd.prog 13 #[u, v] w fun e w' => e = .returned (.bool (decide (s = o))) ∧ Kept w w'
def YNeedOk : Prop := ∀ (n : Int) (w : World), I64 n → Calls Tryd.prog 22 #[.int .i64 n] w fun e w' => e = .returned (.int .i64 (needN n)) ∧ Kept w w'
def YSlotOk : Prop := ∀ (q : Nat) (w : World), q < 2 ^ 64 → Calls Tryd.prog 21 #[.int .u64 q] w fun e w' => e = .returned (.int .i64 (q % 2 : Nat)) ∧ Kept w w'

/-- A superblock in a block of its own. -/
structure BoxAt (s : Sb) (b : Nat) (tv : Value) (w : World) : Prop where
  row : w.heap[b]? = some (.cells (sbC s tv) 25 (0, 0))
  runs : RunsAt s.runs tv w
  wf : s.wf
theorem BoxAt.later {s : Sb} {b : Nat} {tv : Value} {w w' : World} (h : BoxAt s b tv w) (k : Kept w w') : BoxAt s b tv w' := ⟨k.row h.row, h.runs.later k, h.wf⟩
theorem BoxAt.at_ {s : Sb} {b : Nat} {tv : Value} {w : World} (h : BoxAt s b tv w) : SbAt s (sbV s tv) w := ⟨tv, rfl, h.runs, h.wf⟩
theorem BoxAt.cell {s : Sb} {b : Nat} {tv : Value} {w : World} (h : BoxAt s b tv w) (j : Nat) : w.cell? ⟨b, j, none⟩ = (sbC s tv)[j]? := cell_of_row _ _ _ _ _ _ h.row
theorem BoxAt.new {s : Sb} {tv : Value} {w : World} (hr : RunsAt s.runs tv w) (hw : s.wf) : BoxAt s w.heap.size tv (w.alloc (.cells (sbC s tv) 25)) ∧ Kept w (w.alloc (.cells (sbC s tv) 25)) :=
  ⟨⟨heap_alloc_last w _, hr.later (box_below _ _), hw⟩, box_below _ _⟩
theorem RunsAt.sliced {l : List (Int × Int)} {v : Value} {w : World} (h : RunsAt l v w) : ∃ p n c, v = .slice p n c := by
  obtain ⟨p, c, e, -, -⟩ := h.out
  exact ⟨p, _, c, e⟩

set_option maxRecDepth 100000 in
theorem few11_any (s : Sb) (v : Value) (w : World) (h : SbAt s v w) :
    Calls Tryd.prog 8 #[v] w fun e w' => e = .returned (.bool (decide (s.runs.length ≤ 30))) ∧ Kept w w' := by
  obtain ⟨tv, rfl, hr, -⟩ := h
  obtain ⟨p, c, rfl, -, -⟩ := hr.out
  obtain ⟨q, se, jo, us, si, rn⟩ := s
  simp only
  obtain ⟨n, hn⟩ : ∃ n, n = rn.length := ⟨_, rfl⟩
  unfold sbV sbC
  simp only
  rw [← hn]
  by_cases h1 : n ≤ 30
  · have h2 : (n : Int) ≤ 30 := by omega
    rw [decide_eq_true h1]
    clear hr hn h1
    go_enter Tryd.func8, Tryd.ntmps8
    go_wp2
    go_ret
    exact ⟨rfl, box_below _ _⟩
  · have h2 : ¬ (n : Int) ≤ 30 := by omega
    rw [decide_eq_false h1]
    clear hr hn h1
    go_enter Tryd.func8, Tryd.ntmps8
    go_wp2
    go_ret
    exact ⟨rfl, box_below _ _⟩

def s0 : Sb := ⟨5, 20, 3, 7, 130, [(9, 2)]⟩
theorem s0_may : maySP s0 := by decide
theorem s0_wf : s0.wf := ⟨by decide, by decide, by decide, by decide, by decide⟩
theorem s0_put : mayS s0 = true := decide_eq_true s0_may
theorem s0_get : getS (putS s0) = some s0 := getS_putS s0_may s0_wf
theorem s0_pick : pickE [] (putS s0) = 0 ∧ pickD [] (putS s0) = s0 := by
  have h := pick_y (A := []) (B := putS s0) (by rw [s0_get]; rfl) (by unfold getD; rw [s0_get]; rfl) (fun y => by
    have : getS [] = none := by unfold getS; rw [if_neg (fun z => absurd z.1 (by decide))]
    rw [this] at y; simp at y)
  refine ⟨by unfold pickE; rw [if_pos h.1], ?_⟩
  rw [h.2]
  unfold getD
  rw [s0_get]
  rfl
theorem zero_may : mayS Sb.zero = false := decide_eq_false (fun h => absurd h.seq (by decide))

set_option maxRecDepth 100000 in
set_option maxHeartbeats 8000000 in
theorem sawake_any (HC : YCheckOk) (HP : YPutOk) (HG : YGetOk) (HK : YPickOk) (HX : YNextOk) (HS : YSameOk) (HN : YNeedOk) (HL : YSlotOk) (w : World) (hT : TabAt w) :
    Calls Tryd.prog 9 #[] w fun e w' => e = .returned (.bool true) ∧ Kept w w' := by
  have HT := Lib.hid hT
  have HCH := Lib.hid HC
  have HPH := Lib.hid HP
  have HGH := Lib.hid HG
  have HKH := Lib.hid HK
  have HXH := Lib.hid HX
  have HSH := Lib.hid HS
  have HNH := Lib.hid HN
  have HLH := Lib.hid HL
  obtain ⟨T, hTT⟩ : ∃ T, T = str (putS s0) := ⟨_, rfl⟩
  have HTT := Lib.hid hTT
  have zT : T.size = 128 := by rw [hTT, str_size]; exact putS_len s0 s0_may.len
  have HTL : Hid (T.data.toList = putS s0) := Lib.hid (by rw [hTT, str_list])
  have hkr : Kept w (w.alloc (.cells #[.int .i64 9, .int .i64 2] 48)) := box_below _ _
  have hrr : RunsAt [(9, 2)] (.slice (some ⟨w.heap.size, 0, none⟩) 1 1) (w.alloc (.cells #[.int .i64 9, .int .i64 2] 48)) :=
    RunsAt.of_cells (by intro r hr; simp at hr; subst hr; decide) _ _ (Nat.le_refl _) (Or.inr ⟨w.heap.size, 0, rfl, fun j x hx => by
      rw [Nat.zero_add, cell_of_row _ _ _ _ _ _ (heap_alloc_last w _), ← Array.getElem?_toList]; exact hx⟩)
  obtain ⟨Wr, hWr⟩ : ∃ Wr, Wr = w.alloc (.cells #[.int .i64 9, .int .i64 2] 48) := ⟨_, rfl⟩
  rw [← hWr] at hkr hrr
  have hb1 := BoxAt.new (s := s0) hrr s0_wf
  obtain ⟨W1, hW1⟩ : ∃ W1, W1 = Wr.alloc (.cells (sbC s0 (.slice (some ⟨w.heap.size, 0, none⟩) 1 1)) 25) := ⟨_, rfl⟩
  rw [← hW1] at hb1
  have hrs : Wr.heap.size = w.heap.size + 1 := by rw [hWr]; simp
  rw [hrs] at hb1
  have B1 := Lib.hid hb1.1
  have K := Lib.hid (hkr.then hb1.2)
  have HW1 : Hid (W1 = (w.alloc (.cells #[.int .i64 9, .int .i64 2] 48)).alloc (.cells #[.int .u64 5, .int .i64 20, .int .i64 3, .int .i64 7, .int .i64 130, .slice (some ⟨w.heap.size, 0, none⟩) 1 1] 25)) := Lib.hid (by rw [hW1, hWr]; rfl)
  clear hT HC HP HG HK HX HS HN HL hTT hkr hrr hWr hb1 hW1 hrs
  go_enter Tryd.func9, Tryd.ntmps9
  go_wp2_with fail
  rw [← HW1.out]
  refine (HPH.out s0 _ W1 B1.out.at_ (by decide) (HT.out.later K.out)).mono ?_
  rintro e W2 ⟨rfl, hb⟩
  rw [show putV s0 = T by unfold putV; rw [s0_put, HTT.out]; rfl, show chkE s0 = 0 by unfold chkE; rw [s0_put]; rfl]
  replace B1 := Lib.hid (B1.out.later hb)
  replace K := Lib.hid (K.out.then hb)
  clear hb
  go_wp2_with fail
  refine (HGH.out T W2 (by omega) (HT.out.later K.out)).mono ?_
  rintro e W3 ⟨⟨v2, rfl, h2⟩, hb⟩
  rw [show getE T.data.toList = 0 by unfold getE; rw [HTL.out, s0_get]; rfl]
  rw [show getD T.data.toList = s0 by unfold getD; rw [HTL.out, s0_get]; rfl] at h2
  obtain ⟨tv2, rfl, hr2, hw2⟩ := h2
  obtain ⟨p2, n2, cp2, rfl⟩ := hr2.sliced
  have hb2 := BoxAt.new (s := s0) hr2 hw2
  obtain ⟨W4, hW4⟩ : ∃ W4, W4 = W3.alloc (.cells (sbC s0 (.slice p2 n2 cp2)) 25) := ⟨_, rfl⟩
  obtain ⟨b4, h4⟩ : ∃ b, b = W3.heap.size := ⟨_, rfl⟩
  rw [← hW4, ← h4] at hb2
  have B4 := Lib.hid hb2.1
  have hb3 := hb2.2
  have HW4 : Hid (W4 = W3.alloc (.cells #[.int .u64 5, .int .i64 20, .int .i64 3, .int .i64 7, .int .i64 130, .slice p2 n2 cp2] 25)) := Lib.hid hW4
  have H4 := Lib.hid h4
  replace B1 := Lib.hid ((B1.out.later hb).later hb3)
  replace K := Lib.hid ((K.out.then hb).then hb3)
  clear hb hb2 hb3 hr2 hw2 hW4 h4
  unfold sbV sbC s0
  go_wp2_with fail
  rw [← H4.out]
  rw [← HW4.out]
  refine (HKH.out ⟨#[]⟩ T W4 (by decide) (by omega) (HT.out.later K.out)).mono ?_
  rintro e W5 ⟨⟨v3, rfl, h3⟩, hb⟩
  have hpk := s0_pick
  rw [← HTL.out] at hpk
  rw [show pickE (⟨#[]⟩ : ByteArray).data.toList T.data.toList = 0 from hpk.1]
  rw [show pickD (⟨#[]⟩ : ByteArray).data.toList T.data.toList = s0 from hpk.2] at h3
  obtain ⟨tv3, rfl, hr3, hw3⟩ := h3
  obtain ⟨p3, n3, cp3, rfl⟩ := hr3.sliced
  have hb2 := BoxAt.new (s := s0) hr3 hw3
  obtain ⟨W6, hW6⟩ : ∃ W6, W6 = W5.alloc (.cells (sbC s0 (.slice p3 n3 cp3)) 25) := ⟨_, rfl⟩
  obtain ⟨b6, h6⟩ : ∃ b, b = W5.heap.size := ⟨_, rfl⟩
  rw [← hW6, ← h6] at hb2
  have B6 := Lib.hid hb2.1
  have hb3 := hb2.2
  have HW6 : Hid (W6 = W5.alloc (.cells #[.int .u64 5, .int .i64 20, .int .i64 3, .int .i64 7, .int .i64 130, .slice p3 n3 cp3] 25)) := Lib.hid hW6
  have H6 := Lib.hid h6
  replace B1 := Lib.hid ((B1.out.later hb).later hb3)
  replace B4 := Lib.hid ((B4.out.later hb).later hb3)
  replace K := Lib.hid ((K.out.then hb).then hb3)
  clear hb hb2 hb3 hr3 hw3 hW6 h6 hpk
  unfold sbV sbC s0
  go_wp2_with fail
  rw [← H6.out]
  rw [← HW6.out]
  refine (HNH.out 128 W6 (by unfold I64; decide)).mono ?_
  rintro e W7 ⟨rfl, hb⟩
  rw [show needN 128 = 1 from rfl]
  replace B1 := Lib.hid (B1.out.later hb)
  replace B4 := Lib.hid (B4.out.later hb)
  replace B6 := Lib.hid (B6.out.later hb)
  replace K := Lib.hid (K.out.then hb)
  clear hb
  go_wp2_with fail
  refine (HNH.out 129 W7 (by unfold I64; decide)).mono ?_
  rintro e W8 ⟨rfl, hb⟩
  rw [show needN 129 = 2 from rfl]
  replace B1 := Lib.hid (B1.out.later hb)
  replace B4 := Lib.hid (B4.out.later hb)
  replace B6 := Lib.hid (B6.out.later hb)
  replace K := Lib.hid (K.out.then hb)
  clear hb
  go_wp2_with fail
  refine (HLH.out 5 W8 (by decide)).mono ?_
  rintro e W9 ⟨rfl, hb⟩
  rw [show ((5 % 2 : Nat) : Int) = 1 from rfl]
  replace B1 := Lib.hid (B1.out.later hb)
  replace B4 := Lib.hid (B4.out.later hb)
  replace B6 := Lib.hid (B6.out.later hb)
  replace K := Lib.hid (K.out.then hb)
  clear hb
  have c0 : W9.cell? ⟨w.heap.size + 1, 0, none⟩ = some (.int .u64 5) := by rw [B1.out.cell]; rfl
  have c1 : W9.cell? ⟨w.heap.size + 1, 1, none⟩ = some (.int .i64 20) := by rw [B1.out.cell]; rfl
  have c2 : W9.cell? ⟨w.heap.size + 1, 2, none⟩ = some (.int .i64 3) := by rw [B1.out.cell]; rfl
  have c3 : W9.cell? ⟨w.heap.size + 1, 3, none⟩ = some (.int .i64 7) := by rw [B1.out.cell]; rfl
  have c4 : W9.cell? ⟨w.heap.size + 1, 4, none⟩ = some (.int .i64 130) := by rw [B1.out.cell]; rfl
  have c5 : W9.cell? ⟨w.heap.size + 1, 5, none⟩ = some (.slice (some ⟨w.heap.size, 0, none⟩) 1 1) := by rw [B1.out.cell]; rfl
  have d0 : W9.cell? ⟨b4, 0, none⟩ = some (.int .u64 5) := by rw [B4.out.cell]; rfl
  have d1 : W9.cell? ⟨b4, 1, none⟩ = some (.int .i64 20) := by rw [B4.out.cell]; rfl
  have d2 : W9.cell? ⟨b4, 2, none⟩ = some (.int .i64 3) := by rw [B4.out.cell]; rfl
  have d3 : W9.cell? ⟨b4, 3, none⟩ = some (.int .i64 7) := by rw [B4.out.cell]; rfl
  have d4 : W9.cell? ⟨b4, 4, none⟩ = some (.int .i64 130) := by rw [B4.out.cell]; rfl
  have d5 : W9.cell? ⟨b4, 5, none⟩ = some (.slice p2 n2 cp2) := by rw [B4.out.cell]; rfl
  go_wp2_with fail
  refine (HSH.out s0 s0 _ _ W9 B1.out.at_ B4.out.at_ (by decide) (by decide)).mono ?_
  rintro e W10 ⟨rfl, hb⟩
  rw [decide_eq_true (rfl : s0 = s0)]
  replace B1 := Lib.hid (B1.out.later hb)
  replace B4 := Lib.hid (B4.out.later hb)
  replace B6 := Lib.hid (B6.out.later hb)
  replace K := Lib.hid (K.out.then hb)
  clear hb
  clear c0 c1 c2 c3 c4 c5 d0 d1 d2 d3 d4 d5
  have c0 : W10.cell? ⟨w.heap.size + 1, 0, none⟩ = some (.int .u64 5) := by rw [B1.out.cell]; rfl
  have c1 : W10.cell? ⟨w.heap.size + 1, 1, none⟩ = some (.int .i64 20) := by rw [B1.out.cell]; rfl
  have c2 : W10.cell? ⟨w.heap.size + 1, 2, none⟩ = some (.int .i64 3) := by rw [B1.out.cell]; rfl
  have c3 : W10.cell? ⟨w.heap.size + 1, 3, none⟩ = some (.int .i64 7) := by rw [B1.out.cell]; rfl
  have c4 : W10.cell? ⟨w.heap.size + 1, 4, none⟩ = some (.int .i64 130) := by rw [B1.out.cell]; rfl
  have c5 : W10.cell? ⟨w.heap.size + 1, 5, none⟩ = some (.slice (some ⟨w.heap.size, 0, none⟩) 1 1) := by rw [B1.out.cell]; rfl
  have d0 : W10.cell? ⟨b6, 0, none⟩ = some (.int .u64 5) := by rw [B6.out.cell]; rfl
  have d1 : W10.cell? ⟨b6, 1, none⟩ = some (.int .i64 20) := by rw [B6.out.cell]; rfl
  have d2 : W10.cell? ⟨b6, 2, none⟩ = some (.int .i64 3) := by rw [B6.out.cell]; rfl
  have d3 : W10.cell? ⟨b6, 3, none⟩ = some (.int .i64 7) := by rw [B6.out.cell]; rfl
  have d4 : W10.cell? ⟨b6, 4, none⟩ = some (.int .i64 130) := by rw [B6.out.cell]; rfl
  have d5 : W10.cell? ⟨b6, 5, none⟩ = some (.slice p3 n3 cp3) := by rw [B6.out.cell]; rfl
  go_wp2_with fail
  refine (HXH.out s0 _ W10 B1.out.at_ (by decide)).mono ?_
  rintro e W11 ⟨⟨v4, rfl, tv4, rfl, hr4, -⟩, hb⟩
  obtain ⟨p4, n4, cp4, rfl⟩ := hr4.sliced
  clear hr4
  have hfd : ∀ w : World, (Instr.field 25 (.agg #[.int .u64 6, .int .i64 20, .int .i64 3, .int .i64 7, .int .i64 130, .slice p4 n4 cp4]) 0).run Tryd.prog w = .ok (.int .u64 6) w := fun _ => by kernel_rfl
  replace K := Lib.hid (K.out.then hb)
  clear hb
  unfold sbV sbC nextS s0
  simp only
  go_wp2_with fail
  refine (HCH.out Sb.zero (.agg zeroC) W11 (zero_at W11 W11).at_ (by decide)).mono ?_
  rintro e W12 ⟨rfl, hb⟩
  rw [show chkE Sb.zero = 1 by unfold chkE; rw [zero_may]; rfl]
  replace K := Lib.hid (K.out.then hb)
  clear hb
  go_wp2
  go_ret
  exact ⟨rfl, K.out⟩

end Go.Proofs.YtlfmmhalheohdaaDoor
namespace Go.Proofs.YtlfmmhalheohdaaDoor
open Go.RowKit

set_option maxRecDepth 100000 in
set_option maxHeartbeats 4000000 in
theorem superNeeds_of (HC : YCheckOk) (HP : YPutOk) (HG : YGetOk) (HK : YPickOk) (HX : YNextOk) (HS : YSameOk) (HN : YNeedOk) (HL : YSlotOk) (n : Int) (hn : I64 n) (q : Nat) (hq : q < 2 ^ 64) (w : World) (hT : TabAt w) :
    Calls Tryd.prog 7 #[.int .i64 n, .int .u64 q] w (LawPost w) := by
  have HT := Lib.hid hT
  have AW := Lib.hid (fun W (h : TabAt W) => sawake_any HC HP HG HK HX HS HN HL W h)
  have N1 := HN n w hn
  have N2 := fun W => rneed_kept n hn W
  have L1 := fun W => HL q W hq
  obtain ⟨m, hm⟩ : ∃ m, m = needN n := ⟨_, rfl⟩
  obtain ⟨r, hr⟩ : ∃ r, r = q % 2 := ⟨_, rfl⟩
  rw [← hm] at N1 N2
  rw [← hr] at L1
  have r1 : (q : Int).tmod 2 = (r : Int) := by rw [Int.tmod_eq_emod_of_nonneg (by omega)]; omega
  have r2 : IntKind.i64.wrap (r : Int) = r := IntWalk.i64_in _ (by omega)
  have r3 : (q : Int) % 2 = (r : Int) := by omega
  have bm : (m == m) = true := by simp
  have br : ((r : Int) == (r : Int)) = true := by simp
  clear hT HC HP HG HK HX HS HN HL hm hr hn hq
  go_enter Tryd.func7, Tryd.ntmps7
  go_wp2_with fail
  refine N1.mono ?_
  rintro e W1 ⟨rfl, hb⟩
  have K : Hid (Kept w W1) := Lib.hid hb
  clear hb N1
  go_wp2_with fail
  refine (N2 W1).mono ?_
  rintro e W2 ⟨rfl, hb⟩
  replace K := Lib.hid (K.out.then hb)
  clear hb N2
  go_wp2_with fail
  refine (L1 W2).mono ?_
  rintro e W3 ⟨rfl, hb⟩
  replace K := Lib.hid (K.out.then hb)
  clear hb L1
  go_wp2_with fail
  refine (AW.out W3 (HT.out.later K.out)).mono ?_
  rintro e W4 ⟨rfl, hb⟩
  replace K := Lib.hid (K.out.then hb)
  clear hb
  go_wp2
  go_ret
  exact ⟨rfl, K.out⟩

set_option maxRecDepth 100000 in
set_option maxHeartbeats 8000000 in
theorem superGets_of (HC : YCheckOk) (HP : YPutOk) (HG : YGetOk) (HK : YPickOk) (HX : YNextOk) (HS : YSameOk) (HN : YNeedOk) (HL : YSlotOk) (t : ByteArray) (w : World) (hT : TabAt w) :
    Calls Tryd.prog 4 #[.string t] w (LawPost w) := by
  have HT := Lib.hid hT
  have AW := Lib.hid (fun W (h : TabAt W) => sawake_any HC HP HG HK HX HS HN HL W h)
  by_cases z0 : (t.size : Int) > 1000
  · clear hT HC HP HG HK HX HS HN HL
    go_enter Tryd.func4, Tryd.ntmps4
    go_wp2_with fail
    refine (AW.out w HT.out).mono ?_
    rintro e W1 ⟨rfl, hb⟩
    have K := Lib.hid hb
    clear hb
    go_wp2
    go_ret
    exact ⟨rfl, K.out⟩

  have C1 := fun W h => HG t W (by omega) h
  have C2 := fun W => rget11_any t W
  obtain ⟨er, her⟩ : ∃ x, x = getE t.data.toList := ⟨_, rfl⟩
  obtain ⟨is, his⟩ : ∃ x, x = (getS t.data.toList).isSome := ⟨_, rfl⟩
  obtain ⟨D, hD⟩ : ∃ x, x = getD t.data.toList := ⟨_, rfl⟩
  have hdl : D.runs.length ≤ 65536 := by rw [hD]; have := (getD_wf t.data.toList).2.2; omega
  rw [← her, ← hD] at C1
  rw [← his, ← hD] at C2
  have HE : Hid (er = if is then 0 else 110) := Lib.hid (by rw [her, his]; rfl)
  have HDL := Lib.hid hdl
  clear hT HC HP HG HK HX HS HN HL her his hD hdl
  obtain ⟨dq, d1, d2, d3, d4, dr⟩ := D
  go_enter Tryd.func4, Tryd.ntmps4
  go_wp2_with fail
  refine (C1 w HT.out).mono ?_
  rintro e W1 ⟨⟨v1, rfl, tv1, rfl, hr1, hw1⟩, hb⟩
  obtain ⟨p1, n1, cp1, rfl⟩ := hr1.sliced
  have hb2 := BoxAt.new hr1 hw1
  obtain ⟨W2, hW2⟩ : ∃ W, W = W1.alloc (.cells #[.int .u64 dq, .int .i64 d1, .int .i64 d2, .int .i64 d3, .int .i64 d4, .slice p1 n1 cp1] 25) := ⟨_, rfl⟩
  obtain ⟨b1, h1⟩ : ∃ b, b = W1.heap.size := ⟨_, rfl⟩
  have B1 : Hid (BoxAt ⟨dq, d1, d2, d3, d4, dr⟩ b1 (.slice p1 n1 cp1) W2) := Lib.hid (by rw [hW2, h1]; exact hb2.1)
  have hb3 : Kept W1 W2 := by rw [hW2]; exact hb2.2
  have K : Hid (Kept w W2) := Lib.hid ((show Kept w W1 from hb).then hb3)
  have HW2 := Lib.hid hW2
  have H1 := Lib.hid h1
  clear hb hb2 hb3 hr1 hw1 hW2 h1 C1
  unfold sbV sbC
  go_wp2_with fail
  rw [← H1.out]
  rw [← HW2.out]
  refine (C2 W2).mono ?_
  rintro e W3 ⟨⟨v3, rfl, h3⟩, hb⟩
  obtain ⟨tv3, rfl, hr3, hw3⟩ := h3.at_
  obtain ⟨p3, n3, cp3, rfl⟩ := hr3.sliced
  have hb2 := BoxAt.new hr3 hw3
  obtain ⟨W4, hW4⟩ : ∃ W, W = W3.alloc (.cells #[.int .u64 dq, .int .i64 d1, .int .i64 d2, .int .i64 d3, .int .i64 d4, .slice p3 n3 cp3] 25) := ⟨_, rfl⟩
  obtain ⟨b3, h3'⟩ : ∃ b, b = W3.heap.size := ⟨_, rfl⟩
  have B3 : Hid (BoxAt ⟨dq, d1, d2, d3, d4, dr⟩ b3 (.slice p3 n3 cp3) W4) := Lib.hid (by rw [hW4, h3']; exact hb2.1)
  have hb3 : Kept W3 W4 := by rw [hW4]; exact hb2.2
  replace B1 := Lib.hid ((B1.out.later hb).later hb3)
  replace K := Lib.hid ((K.out.then hb).then hb3)
  have HW4 := Lib.hid hW4
  have H3 := Lib.hid h3'
  have c0 : W4.cell? ⟨b1, 0, none⟩ = some (.int .u64 dq) := by rw [B1.out.cell]; rfl
  have c1 : W4.cell? ⟨b1, 1, none⟩ = some (.int .i64 d1) := by rw [B1.out.cell]; rfl
  have c2 : W4.cell? ⟨b1, 2, none⟩ = some (.int .i64 d2) := by rw [B1.out.cell]; rfl
  have c3 : W4.cell? ⟨b1, 3, none⟩ = some (.int .i64 d3) := by rw [B1.out.cell]; rfl
  have c4 : W4.cell? ⟨b1, 4, none⟩ = some (.int .i64 d4) := by rw [B1.out.cell]; rfl
  have c5 : W4.cell? ⟨b1, 5, none⟩ = some (.slice p1 n1 cp1) := by rw [B1.out.cell]; rfl
  have e0 : W4.cell? ⟨b3, 0, none⟩ = some (.int .u64 dq) := by rw [B3.out.cell]; rfl
  have e1 : W4.cell? ⟨b3, 1, none⟩ = some (.int .i64 d1) := by rw [B3.out.cell]; rfl
  have e2 : W4.cell? ⟨b3, 2, none⟩ = some (.int .i64 d2) := by rw [B3.out.cell]; rfl
  have e3 : W4.cell? ⟨b3, 3, none⟩ = some (.int .i64 d3) := by rw [B3.out.cell]; rfl
  have e4 : W4.cell? ⟨b3, 4, none⟩ = some (.int .i64 d4) := by rw [B3.out.cell]; rfl
  have e5 : W4.cell? ⟨b3, 5, none⟩ = some (.slice p3 n3 cp3) := by rw [B3.out.cell]; rfl

  rw [HW4.out] at c0 c1 c2 c3 c4 c5 e0 e1 e2 e3 e4 e5
  rw [H3.out] at e0 e1 e2 e3 e4 e5
  clear hb hb2 hb3 h3 hr3 hw3 hW4 h3' C2 HW2 H1
  unfold sbV sbC
  go_wp2_with fail
  rw [← HW4.out]
  refine (rsame11_any _ _ _ _ W4 B1.out.at_ B3.out.at_ (Nat.le_trans HDL.out (by omega))).mono ?_
  rw [decide_eq_true rfl]
  rintro e W5 ⟨rfl, hb⟩
  replace K := Lib.hid (K.out.then hb)
  clear hb c0 c1 c2 c3 c4 c5 e0 e1 e2 e3 e4 e5
  cases is with
  | false =>
    obtain rfl : er = 110 := HE.out
    go_wp2_with fail
    refine (AW.out W5 (HT.out.later K.out)).mono ?_
    rintro e W6 ⟨rfl, hb⟩
    replace K := Lib.hid (K.out.then hb)
    clear hb
    go_wp2
    go_ret
    exact ⟨rfl, K.out⟩
  | true =>
    obtain rfl : er = 0 := HE.out
    go_wp2_with fail
    refine (AW.out W5 (HT.out.later K.out)).mono ?_
    rintro e W6 ⟨rfl, hb⟩
    replace K := Lib.hid (K.out.then hb)
    clear hb
    go_wp2
    go_ret
    exact ⟨rfl, K.out⟩

set_option maxRecDepth 100000 in
set_option maxHeartbeats 8000000 in
theorem superPicks_of (HC : YCheckOk) (HP : YPutOk) (HG : YGetOk) (HK : YPickOk) (HX : YNextOk) (HS : YSameOk) (HN : YNeedOk) (HL : YSlotOk) (a b : ByteArray) (w : World) (hT : TabAt w) :
    Calls Tryd.prog 5 #[.string a, .string b] w (LawPost w) := by
  have HT := Lib.hid hT
  have AW := Lib.hid (fun W (h : TabAt W) => sawake_any HC HP HG HK HX HS HN HL W h)
  by_cases z0 : (a.size : Int) > 1000
  · clear hT HC HP HG HK HX HS HN HL
    go_enter Tryd.func5, Tryd.ntmps5
    go_wp2_with fail
    refine (AW.out w HT.out).mono ?_
    rintro e W1 ⟨rfl, hb⟩
    have K := Lib.hid hb
    clear hb
    go_wp2
    go_ret
    exact ⟨rfl, K.out⟩

  by_cases z1 : (b.size : Int) > 1000
  · clear hT HC HP HG HK HX HS HN HL
    go_enter Tryd.func5, Tryd.ntmps5
    go_wp2_with fail
    refine (AW.out w HT.out).mono ?_
    rintro e W1 ⟨rfl, hb⟩
    have K := Lib.hid hb
    clear hb
    go_wp2
    go_ret
    exact ⟨rfl, K.out⟩

  have C1 := fun W h => HK a b W (by omega) (by omega) h
  have C2 := fun W => rpick11_any a b W
  obtain ⟨er, her⟩ : ∃ x, x = pickE a.data.toList b.data.toList := ⟨_, rfl⟩
  obtain ⟨is, his⟩ : ∃ x, x = (pickS a.data.toList b.data.toList).isSome := ⟨_, rfl⟩
  obtain ⟨D, hD⟩ : ∃ x, x = pickD a.data.toList b.data.toList := ⟨_, rfl⟩
  have hdl : D.runs.length ≤ 65536 := by rw [hD]; have := (pickD_wf a.data.toList b.data.toList).2.2; omega
  rw [← her, ← hD] at C1
  rw [← his, ← hD] at C2
  have HE : Hid (er = if is then 0 else 110) := Lib.hid (by rw [her, his]; rfl)
  have HDL := Lib.hid hdl
  clear hT HC HP HG HK HX HS HN HL her his hD hdl
  obtain ⟨dq, d1, d2, d3, d4, dr⟩ := D
  go_enter Tryd.func5, Tryd.ntmps5
  go_wp2_with fail
  refine (C1 w HT.out).mono ?_
  rintro e W1 ⟨⟨v1, rfl, tv1, rfl, hr1, hw1⟩, hb⟩
  obtain ⟨p1, n1, cp1, rfl⟩ := hr1.sliced
  have hb2 := BoxAt.new hr1 hw1
  obtain ⟨W2, hW2⟩ : ∃ W, W = W1.alloc (.cells #[.int .u64 dq, .int .i64 d1, .int .i64 d2, .int .i64 d3, .int .i64 d4, .slice p1 n1 cp1] 25) := ⟨_, rfl⟩
  obtain ⟨b1, h1⟩ : ∃ b, b = W1.heap.size := ⟨_, rfl⟩
  have B1 : Hid (BoxAt ⟨dq, d1, d2, d3, d4, dr⟩ b1 (.slice p1 n1 cp1) W2) := Lib.hid (by rw [hW2, h1]; exact hb2.1)
  have hb3 : Kept W1 W2 := by rw [hW2]; exact hb2.2
  have K : Hid (Kept w W2) := Lib.hid ((show Kept w W1 from hb).then hb3)
  have HW2 := Lib.hid hW2
  have H1 := Lib.hid h1
  clear hb hb2 hb3 hr1 hw1 hW2 h1 C1
  unfold sbV sbC
  go_wp2_with fail
  rw [← H1.out]
  rw [← HW2.out]
  refine (C2 W2).mono ?_
  rintro e W3 ⟨⟨v3, rfl, h3⟩, hb⟩
  obtain ⟨tv3, rfl, hr3, hw3⟩ := h3.at_
  obtain ⟨p3, n3, cp3, rfl⟩ := hr3.sliced
  have hb2 := BoxAt.new hr3 hw3
  obtain ⟨W4, hW4⟩ : ∃ W, W = W3.alloc (.cells #[.int .u64 dq, .int .i64 d1, .int .i64 d2, .int .i64 d3, .int .i64 d4, .slice p3 n3 cp3] 25) := ⟨_, rfl⟩
  obtain ⟨b3, h3'⟩ : ∃ b, b = W3.heap.size := ⟨_, rfl⟩
  have B3 : Hid (BoxAt ⟨dq, d1, d2, d3, d4, dr⟩ b3 (.slice p3 n3 cp3) W4) := Lib.hid (by rw [hW4, h3']; exact hb2.1)
  have hb3 : Kept W3 W4 := by rw [hW4]; exact hb2.2
  replace B1 := Lib.hid ((B1.out.later hb).later hb3)
  replace K := Lib.hid ((K.out.then hb).then hb3)
  have HW4 := Lib.hid hW4
  have H3 := Lib.hid h3'
  have c0 : W4.cell? ⟨b1, 0, none⟩ = some (.int .u64 dq) := by rw [B1.out.cell]; rfl
  have c1 : W4.cell? ⟨b1, 1, none⟩ = some (.int .i64 d1) := by rw [B1.out.cell]; rfl
  have c2 : W4.cell? ⟨b1, 2, none⟩ = some (.int .i64 d2) := by rw [B1.out.cell]; rfl
  have c3 : W4.cell? ⟨b1, 3, none⟩ = some (.int .i64 d3) := by rw [B1.out.cell]; rfl
  have c4 : W4.cell? ⟨b1, 4, none⟩ = some (.int .i64 d4) := by rw [B1.out.cell]; rfl
  have c5 : W4.cell? ⟨b1, 5, none⟩ = some (.slice p1 n1 cp1) := by rw [B1.out.cell]; rfl
  have e0 : W4.cell? ⟨b3, 0, none⟩ = some (.int .u64 dq) := by rw [B3.out.cell]; rfl
  have e1 : W4.cell? ⟨b3, 1, none⟩ = some (.int .i64 d1) := by rw [B3.out.cell]; rfl
  have e2 : W4.cell? ⟨b3, 2, none⟩ = some (.int .i64 d2) := by rw [B3.out.cell]; rfl
  have e3 : W4.cell? ⟨b3, 3, none⟩ = some (.int .i64 d3) := by rw [B3.out.cell]; rfl
  have e4 : W4.cell? ⟨b3, 4, none⟩ = some (.int .i64 d4) := by rw [B3.out.cell]; rfl
  have e5 : W4.cell? ⟨b3, 5, none⟩ = some (.slice p3 n3 cp3) := by rw [B3.out.cell]; rfl

  rw [HW4.out] at c0 c1 c2 c3 c4 c5 e0 e1 e2 e3 e4 e5
  rw [H3.out] at e0 e1 e2 e3 e4 e5
  clear hb hb2 hb3 h3 hr3 hw3 hW4 h3' C2 HW2 H1
  unfold sbV sbC
  go_wp2_with fail
  rw [← HW4.out]
  refine (rsame11_any _ _ _ _ W4 B1.out.at_ B3.out.at_ (Nat.le_trans HDL.out (by omega))).mono ?_
  rw [decide_eq_true rfl]
  rintro e W5 ⟨rfl, hb⟩
  replace K := Lib.hid (K.out.then hb)
  clear hb c0 c1 c2 c3 c4 c5 e0 e1 e2 e3 e4 e5
  cases is with
  | false =>
    obtain rfl : er = 110 := HE.out
    go_wp2_with fail
    refine (AW.out W5 (HT.out.later K.out)).mono ?_
    rintro e W6 ⟨rfl, hb⟩
    replace K := Lib.hid (K.out.then hb)
    clear hb
    go_wp2
    go_ret
    exact ⟨rfl, K.out⟩
  | true =>
    obtain rfl : er = 0 := HE.out
    go_wp2_with fail
    refine (AW.out W5 (HT.out.later K.out)).mono ?_
    rintro e W6 ⟨rfl, hb⟩
    replace K := Lib.hid (K.out.then hb)
    clear hb
    go_wp2
    go_ret
    exact ⟨rfl, K.out⟩

end Go.Proofs.YtlfmmhalheohdaaDoor
namespace Go.Proofs.YtlfmmhalheohdaaDoor
open Go.RowKit

set_option maxRecDepth 100000 in
set_option maxHeartbeats 8000000 in
theorem superPuts_of (HC : YCheckOk) (HP : YPutOk) (HG : YGetOk) (HK : YPickOk) (HX : YNextOk) (HS : YSameOk) (HN : YNeedOk) (HL : YSlotOk) (s o : Sb) (u v : Value) (w : World) (hu : SbAt s u w) (hv : SbAt o v w) (hT : TabAt w) :
    Calls Tryd.prog 3 #[u, v] w (LawPost w) := by
  have HT := Lib.hid hT
  have AW := Lib.hid (fun W (h : TabAt W) => sawake_any HC HP HG HK HX HS HN HL W h)
  have HCH := Lib.hid HC
  have HPH := Lib.hid HP
  have HGH := Lib.hid HG
  have HSH := Lib.hid HS
  obtain ⟨tvs, rfl, hrs, hws⟩ := hu
  obtain ⟨tvo, rfl, hro, hwo⟩ := hv
  obtain ⟨ps, ns, cs, rfl⟩ := hrs.sliced
  obtain ⟨po, no, co, rfl⟩ := hro.sliced
  have hb1 := BoxAt.new hrs hws
  obtain ⟨W1, hW1⟩ : ∃ W, W = w.alloc (.cells (sbC s (.slice ps ns cs)) 25) := ⟨_, rfl⟩
  rw [← hW1] at hb1
  have hb2 := BoxAt.new (hro.later hb1.2) hwo
  have hs1 : W1.heap.size = w.heap.size + 1 := by rw [hW1]; simp
  rw [hs1] at hb2
  obtain ⟨W2, hW2⟩ : ∃ W, W = W1.alloc (.cells (sbC o (.slice po no co)) 25) := ⟨_, rfl⟩
  rw [← hW2] at hb2
  have B1 := Lib.hid (hb1.1.later hb2.2)
  have B2 := Lib.hid hb2.1
  have K := Lib.hid (hb1.2.then hb2.2)
  have HWS := Lib.hid hws
  obtain ⟨fs, hfs⟩ : ∃ x, x = decide (s.runs.length ≤ 30) := ⟨_, rfl⟩
  obtain ⟨fo, hfo⟩ : ∃ x, x = decide (o.runs.length ≤ 30) := ⟨_, rfl⟩
  have HFS := Lib.hid hfs
  have HFO := Lib.hid hfo
  obtain ⟨may, hmay⟩ : ∃ x, x = mayS s := ⟨_, rfl⟩
  have HMAY := Lib.hid hmay
  obtain ⟨ce, hce⟩ : ∃ x, x = chkE s := ⟨_, rfl⟩
  have HCE : Hid (ce = if may then 0 else 1) := Lib.hid (by rw [hce, hmay]; rfl)
  have HCE2 := Lib.hid hce
  obtain ⟨T, hTT⟩ : ∃ x, x = putV s := ⟨_, rfl⟩
  have HTT := Lib.hid hTT
  clear hT HC HP HG HK HX HS HN HL hrs hws hro hwo hfs hfo hmay hce hTT
  obtain ⟨sq, s1, s2, s3, s4, sr⟩ := s
  obtain ⟨oq, o1, o2, o3, o4, orr⟩ := o
  have HW2 : Hid (W2 = (w.alloc (.cells #[.int .u64 sq, .int .i64 s1, .int .i64 s2, .int .i64 s3, .int .i64 s4, .slice ps ns cs] 25)).alloc (.cells #[.int .u64 oq, .int .i64 o1, .int .i64 o2, .int .i64 o3, .int .i64 o4, .slice po no co] 25)) := Lib.hid (by rw [hW2, hW1]; rfl)
  clear hb1 hb2 hs1 hW1 hW2
  unfold sbV sbC
  go_enter Tryd.func3, Tryd.ntmps3
  go_wp2_with fail
  rw [← HW2.out]
  refine (few11_any _ _ W2 B1.out.at_).mono ?_
  rintro e W3 ⟨rfl, hb⟩
  rw [← HFS.out]
  replace B1 := Lib.hid (B1.out.later hb)
  replace B2 := Lib.hid (B2.out.later hb)
  replace K := Lib.hid (K.out.then hb)
  clear hb HW2
  cases fs with
  | false =>
    go_wp2_with fail
    refine (AW.out W3 (HT.out.later K.out)).mono ?_
    rintro e W9 ⟨rfl, hb⟩
    replace K := Lib.hid (K.out.then hb)
    clear hb
    go_wp2
    go_ret
    exact ⟨rfl, K.out⟩
  | true =>
    have c0 : W3.cell? ⟨w.heap.size + 1, 0, none⟩ = some (.int .u64 oq) := by rw [B2.out.cell]; rfl
    have c1 : W3.cell? ⟨w.heap.size + 1, 1, none⟩ = some (.int .i64 o1) := by rw [B2.out.cell]; rfl
    have c2 : W3.cell? ⟨w.heap.size + 1, 2, none⟩ = some (.int .i64 o2) := by rw [B2.out.cell]; rfl
    have c3 : W3.cell? ⟨w.heap.size + 1, 3, none⟩ = some (.int .i64 o3) := by rw [B2.out.cell]; rfl
    have c4 : W3.cell? ⟨w.heap.size + 1, 4, none⟩ = some (.int .i64 o4) := by rw [B2.out.cell]; rfl
    have c5 : W3.cell? ⟨w.heap.size + 1, 5, none⟩ = some (.slice po no co) := by rw [B2.out.cell]; rfl
    go_wp2_with fail
    refine (few11_any _ _ W3 B2.out.at_).mono ?_
    rintro e W4 ⟨rfl, hb⟩
    rw [← HFO.out]
    replace B1 := Lib.hid (B1.out.later hb)
    replace B2 := Lib.hid (B2.out.later hb)
    replace K := Lib.hid (K.out.then hb)
    clear hb c0 c1 c2 c3 c4 c5
    cases fo with
    | false =>
      go_wp2_with fail
      refine (AW.out W4 (HT.out.later K.out)).mono ?_
      rintro e W9 ⟨rfl, hb⟩
      replace K := Lib.hid (K.out.then hb)
      clear hb
      go_wp2
      go_ret
      exact ⟨rfl, K.out⟩
    | true =>
      have hls : sr.length ≤ 30 := of_decide_eq_true HFS.out.symm
      have hlo : orr.length ≤ 30 := of_decide_eq_true HFO.out.symm
      have HLS : Hid (sr.length ≤ 65536) := Lib.hid (by omega)
      have HLO : Hid (orr.length ≤ 65536) := Lib.hid (by omega)
      have HLS2 : Hid (sr.length ≤ 1048576) := Lib.hid (by omega)
      clear hls hlo
      have c0 : W4.cell? ⟨w.heap.size, 0, none⟩ = some (.int .u64 sq) := by rw [B1.out.cell]; rfl
      have c1 : W4.cell? ⟨w.heap.size, 1, none⟩ = some (.int .i64 s1) := by rw [B1.out.cell]; rfl
      have c2 : W4.cell? ⟨w.heap.size, 2, none⟩ = some (.int .i64 s2) := by rw [B1.out.cell]; rfl
      have c3 : W4.cell? ⟨w.heap.size, 3, none⟩ = some (.int .i64 s3) := by rw [B1.out.cell]; rfl
      have c4 : W4.cell? ⟨w.heap.size, 4, none⟩ = some (.int .i64 s4) := by rw [B1.out.cell]; rfl
      have c5 : W4.cell? ⟨w.heap.size, 5, none⟩ = some (.slice ps ns cs) := by rw [B1.out.cell]; rfl

      go_wp2_with fail
      refine (HPH.out ⟨sq, s1, s2, s3, s4, sr⟩ _ W4 B1.out.at_ HLS.out (HT.out.later K.out)).mono ?_
      rintro e W5 ⟨rfl, hb⟩
      rw [← HTT.out, ← HCE2.out]
      replace B1 := Lib.hid (B1.out.later hb)
      replace B2 := Lib.hid (B2.out.later hb)
      replace K := Lib.hid (K.out.then hb)
      clear hb c0 c1 c2 c3 c4 c5
      have c0 : W5.cell? ⟨w.heap.size, 0, none⟩ = some (.int .u64 sq) := by rw [B1.out.cell]; rfl
      have c1 : W5.cell? ⟨w.heap.size, 1, none⟩ = some (.int .i64 s1) := by rw [B1.out.cell]; rfl
      have c2 : W5.cell? ⟨w.heap.size, 2, none⟩ = some (.int .i64 s2) := by rw [B1.out.cell]; rfl
      have c3 : W5.cell? ⟨w.heap.size, 3, none⟩ = some (.int .i64 s3) := by rw [B1.out.cell]; rfl
      have c4 : W5.cell? ⟨w.heap.size, 4, none⟩ = some (.int .i64 s4) := by rw [B1.out.cell]; rfl
      have c5 : W5.cell? ⟨w.heap.size, 5, none⟩ = some (.slice ps ns cs) := by rw [B1.out.cell]; rfl

      go_wp2_with fail
      refine (rmay11_any ⟨sq, s1, s2, s3, s4, sr⟩ _ W5 B1.out.at_ HLS2.out).mono ?_
      rintro e W6 ⟨rfl, hb⟩
      rw [← HMAY.out]
      replace B1 := Lib.hid (B1.out.later hb)
      replace B2 := Lib.hid (B2.out.later hb)
      replace K := Lib.hid (K.out.then hb)
      clear hb c0 c1 c2 c3 c4 c5
      have C1 : ∀ W, Kept W6 W → Calls Tryd.prog 12 #[.agg #[.int .u64 sq, .int .i64 s1, .int .i64 s2, .int .i64 s3, .int .i64 s4, .slice ps ns cs]] W fun e w' => e = .returned (.int .i64 ce) ∧ Below W.heap.size W w' := fun W k => by
        rw [HCE2.out]; exact HCH.out ⟨sq, s1, s2, s3, s4, sr⟩ _ W (B1.out.later k).at_ HLS.out
      obtain ⟨sm, hsm⟩ : ∃ x, x = decide ((⟨sq, s1, s2, s3, s4, sr⟩ : Sb) = ⟨oq, o1, o2, o3, o4, orr⟩) := ⟨_, rfl⟩
      have C2 : ∀ W, Kept W6 W → Calls Tryd.prog 13 #[.agg #[.int .u64 sq, .int .i64 s1, .int .i64 s2, .int .i64 s3, .int .i64 s4, .slice ps ns cs], .agg #[.int .u64 oq, .int .i64 o1, .int .i64 o2, .int .i64 o3, .int .i64 o4, .slice po no co]] W fun e w' => e = .returned (.bool sm) ∧ Below W.heap.size W w' := fun W k => by
        rw [hsm]; exact HSH.out ⟨sq, s1, s2, s3, s4, sr⟩ ⟨oq, o1, o2, o3, o4, orr⟩ _ _ W (B1.out.later k).at_ (B2.out.later k).at_ HLS.out HLO.out
      have C3 : ∀ W, Kept W6 W → Calls Tryd.prog 14 #[.agg #[.int .u64 sq, .int .i64 s1, .int .i64 s2, .int .i64 s3, .int .i64 s4, .slice ps ns cs], .agg #[.int .u64 oq, .int .i64 o1, .int .i64 o2, .int .i64 o3, .int .i64 o4, .slice po no co]] W fun e w' => e = .returned (.bool sm) ∧ Below W.heap.size W w' := fun W k => by
        rw [hsm]; exact rsame11_any ⟨sq, s1, s2, s3, s4, sr⟩ ⟨oq, o1, o2, o3, o4, orr⟩ _ _ W (B1.out.later k).at_ (B2.out.later k).at_ HLS2.out
      have C4 : ∀ W, Kept W6 W → Calls Tryd.prog 13 #[.agg #[.int .u64 sq, .int .i64 s1, .int .i64 s2, .int .i64 s3, .int .i64 s4, .slice ps ns cs], .agg #[.int .u64 sq, .int .i64 s1, .int .i64 s2, .int .i64 s3, .int .i64 s4, .slice ps ns cs]] W fun e w' => e = .returned (.bool true) ∧ Below W.heap.size W w' := fun W k => by
        have h := HSH.out ⟨sq, s1, s2, s3, s4, sr⟩ ⟨sq, s1, s2, s3, s4, sr⟩ _ _ W (B1.out.later k).at_ (B1.out.later k).at_ HLS.out HLS.out
        rw [decide_eq_true rfl] at h
        exact h
      clear hsm
      have hrow1 := B1.out.row
      have hrow2 := B2.out.row
      have bsm : (sm != sm) = false := by simp
      cases may with
      | false =>
        obtain rfl : ce = 1 := HCE.out
        go_wp2_with fail
        refine wp_region_kept (by kernel_rfl) (by kernel_rfl) ?_
        refine wpQuiet_load_row (by kernel_rfl) _ _ rfl w.heap.size rfl 25 #[.int .u64 sq, .int .i64 s1, .int .i64 s2, .int .i64 s3, .int .i64 s4, .slice ps ns cs] (0, 0) _ (fun _ h => h.row hrow1) Tryd.underlying25 rfl infoSb (fun K hK => ?_)
        go_simp
        refine hK _ ?_; clear hK K
        refine wpQuiet_call (by kernel_rfl) _ _ _ (fun W => by go_simp) (fun W h => Calls.kept_of h (C1 W h)) (fun K hK => ?_)
        go_simp
        refine hK _ ?_; clear hK K
        refine wpQuiet_pure (v := ?_) (by kernel_rfl) ?_ (fun K hK => ?_)
        case refine_2 => intro W _; go_simp; try with_reducible rfl
        go_simp
        refine hK _ ?_; clear hK K
        refine wpQuiet_pure (v := ?_) (by kernel_rfl) ?_ (fun K hK => ?_)
        case refine_2 => intro W _; go_simp; try with_reducible rfl
        go_simp
        refine hK _ ?_; clear hK K
        refine wpQuiet_pure (v := ?_) (by kernel_rfl) ?_ (fun K hK => ?_)
        case refine_2 => intro W _; go_simp; try with_reducible rfl
        go_simp
        refine hK _ ?_; clear hK K
        refine wpQuiet_pure (v := ?_) (by kernel_rfl) ?_ (fun K hK => ?_)
        case refine_2 => intro W _; go_simp; try with_reducible rfl
        go_simp
        refine hK _ ?_; clear hK K
        refine wpQuiet_load_row (by kernel_rfl) _ _ rfl w.heap.size rfl 25 #[.int .u64 sq, .int .i64 s1, .int .i64 s2, .int .i64 s3, .int .i64 s4, .slice ps ns cs] (0, 0) _ (fun _ h => h.row hrow1) Tryd.underlying25 rfl infoSb (fun K hK => ?_)
        go_simp
        refine hK _ ?_; clear hK K
        refine wpQuiet_load_row (by kernel_rfl) _ _ rfl (w.heap.size + 1) rfl 25 #[.int .u64 oq, .int .i64 o1, .int .i64 o2, .int .i64 o3, .int .i64 o4, .slice po no co] (0, 0) _ (fun _ h => h.row hrow2) Tryd.underlying25 rfl infoSb (fun K hK => ?_)
        go_simp
        refine hK _ ?_; clear hK K
        refine wpQuiet_call (by kernel_rfl) _ _ _ (fun W => by go_simp) (fun W h => Calls.kept_of h (C2 W h)) (fun K hK => ?_)
        go_simp
        refine hK _ ?_; clear hK K
        refine wpQuiet_load_row (by kernel_rfl) _ _ rfl w.heap.size rfl 25 #[.int .u64 sq, .int .i64 s1, .int .i64 s2, .int .i64 s3, .int .i64 s4, .slice ps ns cs] (0, 0) _ (fun _ h => h.row hrow1) Tryd.underlying25 rfl infoSb (fun K hK => ?_)
        go_simp
        refine hK _ ?_; clear hK K
        refine wpQuiet_load_row (by kernel_rfl) _ _ rfl (w.heap.size + 1) rfl 25 #[.int .u64 oq, .int .i64 o1, .int .i64 o2, .int .i64 o3, .int .i64 o4, .slice po no co] (0, 0) _ (fun _ h => h.row hrow2) Tryd.underlying25 rfl infoSb (fun K hK => ?_)
        go_simp
        refine hK _ ?_; clear hK K
        refine wpQuiet_call (by kernel_rfl) _ _ _ (fun W => by go_simp) (fun W h => Calls.kept_of h (C3 W h)) (fun K hK => ?_)
        go_simp
        refine hK _ ?_; clear hK K
        refine wpQuiet_pure (v := ?_) (by kernel_rfl) ?_ (fun K hK => ?_)
        case refine_2 => intro W _; go_simp; try with_reducible rfl
        go_simp
        refine hK _ ?_; clear hK K
        refine wpQuiet_pure (v := ?_) (by kernel_rfl) ?_ (fun K hK => ?_)
        case refine_2 => intro W _; go_simp; try with_reducible rfl
        go_simp
        refine hK _ ?_; clear hK K
        refine wpQuiet_pure (v := ?_) (by kernel_rfl) ?_ (fun K hK => ?_)
        case refine_2 => intro W _; go_simp; try with_reducible rfl
        go_simp
        refine hK _ ?_; clear hK K
        refine wpQuiet_load_row (by kernel_rfl) _ _ rfl w.heap.size rfl 25 #[.int .u64 sq, .int .i64 s1, .int .i64 s2, .int .i64 s3, .int .i64 s4, .slice ps ns cs] (0, 0) _ (fun _ h => h.row hrow1) Tryd.underlying25 rfl infoSb (fun K hK => ?_)
        go_simp
        refine hK _ ?_; clear hK K
        refine wpQuiet_load_row (by kernel_rfl) _ _ rfl w.heap.size rfl 25 #[.int .u64 sq, .int .i64 s1, .int .i64 s2, .int .i64 s3, .int .i64 s4, .slice ps ns cs] (0, 0) _ (fun _ h => h.row hrow1) Tryd.underlying25 rfl infoSb (fun K hK => ?_)
        go_simp
        refine hK _ ?_; clear hK K
        refine wpQuiet_call (by kernel_rfl) _ _ _ (fun W => by go_simp) (fun W h => Calls.kept_of h (C4 W h)) (fun K hK => ?_)
        go_simp
        refine hK _ ?_; clear hK K
        refine wpQuiet_pure (v := ?_) (by kernel_rfl) ?_ (fun K hK => ?_)
        case refine_2 => intro W _; go_simp; try with_reducible rfl
        go_simp
        refine hK _ ?_; clear hK K
        refine wpQuiet_pure (v := ?_) (by kernel_rfl) ?_ (fun K hK => ?_)
        case refine_2 => intro W _; go_simp; try with_reducible rfl
        go_simp
        refine hK _ ?_; clear hK K
        refine wpQuiet_nil ?_
        intro w7 hk7

        replace B1 := Lib.hid (B1.out.later hk7)
        replace K := Lib.hid (K.out.then hk7)
        have C5 := fun W k => C1 W ((show Kept W6 w7 from hk7).then k)
        have hTe : T = ⟨#[]⟩ := by rw [HTT.out]; unfold putV; rw [← HMAY.out]; rfl
        subst hTe
        clear C1 C2 C3 C4 hk7 hrow1 hrow2 HTT
        have c0 : w7.cell? ⟨w.heap.size, 0, none⟩ = some (.int .u64 sq) := by rw [B1.out.cell]; rfl
        have c1 : w7.cell? ⟨w.heap.size, 1, none⟩ = some (.int .i64 s1) := by rw [B1.out.cell]; rfl
        have c2 : w7.cell? ⟨w.heap.size, 2, none⟩ = some (.int .i64 s2) := by rw [B1.out.cell]; rfl
        have c3 : w7.cell? ⟨w.heap.size, 3, none⟩ = some (.int .i64 s3) := by rw [B1.out.cell]; rfl
        have c4 : w7.cell? ⟨w.heap.size, 4, none⟩ = some (.int .i64 s4) := by rw [B1.out.cell]; rfl
        have c5 : w7.cell? ⟨w.heap.size, 5, none⟩ = some (.slice ps ns cs) := by rw [B1.out.cell]; rfl

        go_wp2_with fail
        refine (C5 w7 (Below.refl _ _)).mono ?_
        rintro e W8 ⟨rfl, hb⟩
        replace K := Lib.hid (K.out.then hb)
        clear hb C5
        go_wp2_with fail
        refine (AW.out W8 (HT.out.later K.out)).mono ?_
        rintro e W9 ⟨rfl, hb⟩
        replace K := Lib.hid (K.out.then hb)
        clear hb
        go_wp2
        go_ret
        exact ⟨rfl, K.out⟩
      | true =>
        obtain rfl : ce = 0 := HCE.out
        go_wp2_with fail
        refine wp_region_kept (by kernel_rfl) (by kernel_rfl) ?_
        refine wpQuiet_load_row (by kernel_rfl) _ _ rfl w.heap.size rfl 25 #[.int .u64 sq, .int .i64 s1, .int .i64 s2, .int .i64 s3, .int .i64 s4, .slice ps ns cs] (0, 0) _ (fun _ h => h.row hrow1) Tryd.underlying25 rfl infoSb (fun K hK => ?_)
        go_simp
        refine hK _ ?_; clear hK K
        refine wpQuiet_call (by kernel_rfl) _ _ _ (fun W => by go_simp) (fun W h => Calls.kept_of h (C1 W h)) (fun K hK => ?_)
        go_simp
        refine hK _ ?_; clear hK K
        refine wpQuiet_pure (v := ?_) (by kernel_rfl) ?_ (fun K hK => ?_)
        case refine_2 => intro W _; go_simp; try with_reducible rfl
        go_simp
        refine hK _ ?_; clear hK K
        refine wpQuiet_pure (v := ?_) (by kernel_rfl) ?_ (fun K hK => ?_)
        case refine_2 => intro W _; go_simp; try with_reducible rfl
        go_simp
        refine hK _ ?_; clear hK K
        refine wpQuiet_pure (v := ?_) (by kernel_rfl) ?_ (fun K hK => ?_)
        case refine_2 => intro W _; go_simp; try with_reducible rfl
        go_simp
        refine hK _ ?_; clear hK K
        refine wpQuiet_pure (v := ?_) (by kernel_rfl) ?_ (fun K hK => ?_)
        case refine_2 => intro W _; go_simp; try with_reducible rfl
        go_simp
        refine hK _ ?_; clear hK K
        refine wpQuiet_load_row (by kernel_rfl) _ _ rfl w.heap.size rfl 25 #[.int .u64 sq, .int .i64 s1, .int .i64 s2, .int .i64 s3, .int .i64 s4, .slice ps ns cs] (0, 0) _ (fun _ h => h.row hrow1) Tryd.underlying25 rfl infoSb (fun K hK => ?_)
        go_simp
        refine hK _ ?_; clear hK K
        refine wpQuiet_load_row (by kernel_rfl) _ _ rfl (w.heap.size + 1) rfl 25 #[.int .u64 oq, .int .i64 o1, .int .i64 o2, .int .i64 o3, .int .i64 o4, .slice po no co] (0, 0) _ (fun _ h => h.row hrow2) Tryd.underlying25 rfl infoSb (fun K hK => ?_)
        go_simp
        refine hK _ ?_; clear hK K
        refine wpQuiet_call (by kernel_rfl) _ _ _ (fun W => by go_simp) (fun W h => Calls.kept_of h (C2 W h)) (fun K hK => ?_)
        go_simp
        refine hK _ ?_; clear hK K
        refine wpQuiet_load_row (by kernel_rfl) _ _ rfl w.heap.size rfl 25 #[.int .u64 sq, .int .i64 s1, .int .i64 s2, .int .i64 s3, .int .i64 s4, .slice ps ns cs] (0, 0) _ (fun _ h => h.row hrow1) Tryd.underlying25 rfl infoSb (fun K hK => ?_)
        go_simp
        refine hK _ ?_; clear hK K
        refine wpQuiet_load_row (by kernel_rfl) _ _ rfl (w.heap.size + 1) rfl 25 #[.int .u64 oq, .int .i64 o1, .int .i64 o2, .int .i64 o3, .int .i64 o4, .slice po no co] (0, 0) _ (fun _ h => h.row hrow2) Tryd.underlying25 rfl infoSb (fun K hK => ?_)
        go_simp
        refine hK _ ?_; clear hK K
        refine wpQuiet_call (by kernel_rfl) _ _ _ (fun W => by go_simp) (fun W h => Calls.kept_of h (C3 W h)) (fun K hK => ?_)
        go_simp
        refine hK _ ?_; clear hK K
        refine wpQuiet_pure (v := ?_) (by kernel_rfl) ?_ (fun K hK => ?_)
        case refine_2 => intro W _; go_simp; try with_reducible rfl
        go_simp
        refine hK _ ?_; clear hK K
        refine wpQuiet_pure (v := ?_) (by kernel_rfl) ?_ (fun K hK => ?_)
        case refine_2 => intro W _; go_simp; try with_reducible rfl
        go_simp
        refine hK _ ?_; clear hK K
        refine wpQuiet_pure (v := ?_) (by kernel_rfl) ?_ (fun K hK => ?_)
        case refine_2 => intro W _; go_simp; try with_reducible rfl
        go_simp
        refine hK _ ?_; clear hK K
        refine wpQuiet_load_row (by kernel_rfl) _ _ rfl w.heap.size rfl 25 #[.int .u64 sq, .int .i64 s1, .int .i64 s2, .int .i64 s3, .int .i64 s4, .slice ps ns cs] (0, 0) _ (fun _ h => h.row hrow1) Tryd.underlying25 rfl infoSb (fun K hK => ?_)
        go_simp
        refine hK _ ?_; clear hK K
        refine wpQuiet_load_row (by kernel_rfl) _ _ rfl w.heap.size rfl 25 #[.int .u64 sq, .int .i64 s1, .int .i64 s2, .int .i64 s3, .int .i64 s4, .slice ps ns cs] (0, 0) _ (fun _ h => h.row hrow1) Tryd.underlying25 rfl infoSb (fun K hK => ?_)
        go_simp
        refine hK _ ?_; clear hK K
        refine wpQuiet_call (by kernel_rfl) _ _ _ (fun W => by go_simp) (fun W h => Calls.kept_of h (C4 W h)) (fun K hK => ?_)
        go_simp
        refine hK _ ?_; clear hK K
        refine wpQuiet_pure (v := ?_) (by kernel_rfl) ?_ (fun K hK => ?_)
        case refine_2 => intro W _; go_simp; try with_reducible rfl
        go_simp
        refine hK _ ?_; clear hK K
        refine wpQuiet_pure (v := ?_) (by kernel_rfl) ?_ (fun K hK => ?_)
        case refine_2 => intro W _; go_simp; try with_reducible rfl
        go_simp
        refine hK _ ?_; clear hK K
        refine wpQuiet_nil ?_
        intro w7 hk7

        replace B1 := Lib.hid (B1.out.later hk7)
        replace K := Lib.hid (K.out.then hk7)
        have hm : maySP ⟨sq, s1, s2, s3, s4, sr⟩ := of_decide_eq_true HMAY.out.symm
        have hTe : T = str (putS ⟨sq, s1, s2, s3, s4, sr⟩) := by rw [HTT.out]; unfold putV; rw [← HMAY.out]; rfl
        have hTz : T.size = 128 := by rw [hTe, str_size]; exact putS_len _ hm.len
        have hgs : getS T.data.toList = some ⟨sq, s1, s2, s3, s4, sr⟩ := by rw [hTe, str_list]; exact getS_putS hm HWS.out
        have HE0 : Hid (getE T.data.toList = 0) := Lib.hid (by unfold getE; rw [hgs]; rfl)
        have HD0 : Hid (getD T.data.toList = ⟨sq, s1, s2, s3, s4, sr⟩) := Lib.hid (by unfold getD; rw [hgs]; rfl)
        have HM := Lib.hid hm
        have HTE := Lib.hid hTe
        clear C1 C2 C3 C4 hk7 hrow1 hrow2 HTT hm hTe hgs
        go_wp2_with fail
        refine (HGH.out T w7 (by omega) (HT.out.later K.out)).mono ?_
        rintro e W8 ⟨⟨v8, rfl, h8⟩, hb⟩
        rw [HE0.out]
        rw [HD0.out] at h8
        obtain ⟨tv8, rfl, hr8, hw8⟩ := h8
        obtain ⟨p8, n8, cp8, rfl⟩ := hr8.sliced
        have hb2 := BoxAt.new hr8 hw8
        obtain ⟨WA, hWA⟩ : ∃ W, W = W8.alloc (.cells #[.int .u64 sq, .int .i64 s1, .int .i64 s2, .int .i64 s3, .int .i64 s4, .slice p8 n8 cp8] 25) := ⟨_, rfl⟩
        obtain ⟨b8, h8⟩ : ∃ b, b = W8.heap.size := ⟨_, rfl⟩
        have B8 : Hid (BoxAt ⟨sq, s1, s2, s3, s4, sr⟩ b8 (.slice p8 n8 cp8) WA) := Lib.hid (by rw [hWA, h8]; exact hb2.1)
        have hb3 : Kept W8 WA := by rw [hWA]; exact hb2.2
        replace B1 := Lib.hid ((B1.out.later hb).later hb3)
        replace K := Lib.hid ((K.out.then hb).then hb3)
        have HWA := Lib.hid hWA
        have H8 := Lib.hid h8
        have c0 : WA.cell? ⟨w.heap.size, 0, none⟩ = some (.int .u64 sq) := by rw [B1.out.cell]; rfl
        have c1 : WA.cell? ⟨w.heap.size, 1, none⟩ = some (.int .i64 s1) := by rw [B1.out.cell]; rfl
        have c2 : WA.cell? ⟨w.heap.size, 2, none⟩ = some (.int .i64 s2) := by rw [B1.out.cell]; rfl
        have c3 : WA.cell? ⟨w.heap.size, 3, none⟩ = some (.int .i64 s3) := by rw [B1.out.cell]; rfl
        have c4 : WA.cell? ⟨w.heap.size, 4, none⟩ = some (.int .i64 s4) := by rw [B1.out.cell]; rfl
        have c5 : WA.cell? ⟨w.heap.size, 5, none⟩ = some (.slice ps ns cs) := by rw [B1.out.cell]; rfl

        rw [HWA.out] at c0 c1 c2 c3 c4 c5
        clear hb hb2 hb3 hr8 hw8 hWA h8
        unfold sbV sbC
        go_wp2_with fail
        rw [← H8.out]
        rw [← HWA.out]
        refine (rput11_any ⟨sq, s1, s2, s3, s4, sr⟩ _ WA B1.out.at_ HM.out).mono ?_
        rintro e WB ⟨rfl, hb⟩
        rw [← HTE.out]
        have bT : (T.toList == T.toList) = true := by simp
        replace B1 := Lib.hid (B1.out.later hb)
        replace B8 := Lib.hid (B8.out.later hb)
        replace K := Lib.hid (K.out.then hb)
        clear hb c0 c1 c2 c3 c4 c5
        have c0 : WB.cell? ⟨w.heap.size, 0, none⟩ = some (.int .u64 sq) := by rw [B1.out.cell]; rfl
        have c1 : WB.cell? ⟨w.heap.size, 1, none⟩ = some (.int .i64 s1) := by rw [B1.out.cell]; rfl
        have c2 : WB.cell? ⟨w.heap.size, 2, none⟩ = some (.int .i64 s2) := by rw [B1.out.cell]; rfl
        have c3 : WB.cell? ⟨w.heap.size, 3, none⟩ = some (.int .i64 s3) := by rw [B1.out.cell]; rfl
        have c4 : WB.cell? ⟨w.heap.size, 4, none⟩ = some (.int .i64 s4) := by rw [B1.out.cell]; rfl
        have c5 : WB.cell? ⟨w.heap.size, 5, none⟩ = some (.slice ps ns cs) := by rw [B1.out.cell]; rfl
        have e0 : WB.cell? ⟨b8, 0, none⟩ = some (.int .u64 sq) := by rw [B8.out.cell]; rfl
        have e1 : WB.cell? ⟨b8, 1, none⟩ = some (.int .i64 s1) := by rw [B8.out.cell]; rfl
        have e2 : WB.cell? ⟨b8, 2, none⟩ = some (.int .i64 s2) := by rw [B8.out.cell]; rfl
        have e3 : WB.cell? ⟨b8, 3, none⟩ = some (.int .i64 s3) := by rw [B8.out.cell]; rfl
        have e4 : WB.cell? ⟨b8, 4, none⟩ = some (.int .i64 s4) := by rw [B8.out.cell]; rfl
        have e5 : WB.cell? ⟨b8, 5, none⟩ = some (.slice p8 n8 cp8) := by rw [B8.out.cell]; rfl

        go_wp2_with fail
        refine (rsame11_any ⟨sq, s1, s2, s3, s4, sr⟩ ⟨sq, s1, s2, s3, s4, sr⟩ _ _ WB B8.out.at_ B1.out.at_ HLS2.out).mono ?_
        rw [decide_eq_true rfl]
        rintro e WC ⟨rfl, hb⟩
        replace K := Lib.hid (K.out.then hb)
        clear hb c0 c1 c2 c3 c4 c5 e0 e1 e2 e3 e4 e5
        go_wp2_with fail
        refine (AW.out WC (HT.out.later K.out)).mono ?_
        rintro e W9 ⟨rfl, hb⟩
        replace K := Lib.hid (K.out.then hb)
        clear hb
        go_wp2
        go_ret
        exact ⟨rfl, K.out⟩


end Go.Proofs.YtlfmmhalheohdaaDoor
