/- The landed super's Need, Slot, lies, overlaps. The landed super's Check: validNumbers, validRuns. The landed super's Same and Next: slices.Equal, slices.Clone of runs. -/
import Derived.Test.YtlfmmhalheohdaaDoorGF
import Derived.Deep.LoopGhost
import Derived.Deep.CutBlock
namespace Go.Proofs.YtlfmmhalheohdaaDoor
open Go.RowKit

theorem need_any (n : Int) (hn : -9223372036854775808 ≤ n ∧ n ≤ 9223372036854775807) (w : World) :
    Calls Tryd.prog 22 #[.int .i64 n] w fun e w' => e = .returned (.int .i64 (needN n)) ∧ w = w' := by
  by_cases h1 : n < 1
  · have e1 : needN n = 0 := if_pos h1
    rw [e1]
    go_enter Tryd.func22, Tryd.ntmps22
    go_wp2
    go_ret
    exact ⟨rfl, rfl⟩
  · have e1 : needN n = (n - 1) / 128 + 1 := if_neg h1
    obtain ⟨d, hd⟩ : ∃ d, d = n - 1 := ⟨_, rfl⟩
    have hd0 : 0 ≤ d ∧ d ≤ 9223372036854775806 := by omega
    have v1 : IntKind.i64.wrap (n - 1) = d := by rw [← hd]; exact IntWalk.i64_in _ (by omega)
    have v2 : IntKind.i64.wrap (d.tdiv 128) = d / 128 := by rw [Int.tdiv_eq_ediv_of_nonneg hd0.1]; exact IntWalk.i64_in _ (by omega)
    have v3 : IntKind.i64.wrap (d / 128 + 1) = d / 128 + 1 := IntWalk.i64_in _ (by omega)
    have v4 : IntKind.i64.wrap (d / 128) = d / 128 := IntWalk.i64_in _ (by omega)
    rw [e1, ← hd]
    have V5 : Hid (wrap64 (wrap64 (d.tdiv 128) + 1) = d / 128 + 1) := Lib.hid (by rw [← IntWalk.i64_left, ← IntWalk.i64_left, v2, v3])
    clear hd hd0 v2 v3 v4
    go_enter Tryd.func22, Tryd.ntmps22
    go_wp2
    go_ret
    exact ⟨congrArg (fun z => Ending.returned (Value.int .i64 z)) V5.out, rfl⟩
theorem needOk : YNeedOk := fun n w hn => (need_any n hn w).mono fun _ _ ⟨a, b⟩ => ⟨a, b ▸ Kept.refl _⟩

theorem slot_any (q : Nat) (hq : q < 2 ^ 64) (w : World) :
    Calls Tryd.prog 21 #[.int .u64 q] w fun e w' => e = .returned (.int .i64 (q % 2 : Nat)) ∧ w = w' := by
  obtain ⟨r, hr⟩ : ∃ r, r = q % 2 := ⟨_, rfl⟩
  have t : (q : Int).tmod 2 = (r : Int) := by rw [Int.tmod_eq_emod_of_nonneg (by omega)]; omega
  have v : IntKind.i64.wrap (r : Int) = r := IntWalk.i64_in _ (by omega)
  have u : IntKind.u64.wrap (r : Int) = r := IntWalk.u64_in _ (by omega)
  rw [← hr]
  clear hr hq
  go_enter Tryd.func21, Tryd.ntmps21
  go_wp2
  go_ret
  exact ⟨by first | rfl | simp [v, u], rfl⟩
theorem slotOk : YSlotOk := fun q w hq => (slot_any q hq w).mono fun _ _ ⟨a, b⟩ => ⟨a, b ▸ Kept.refl _⟩

set_option maxRecDepth 100000 in
set_option maxHeartbeats 1000000 in
/-- Does a run lie where it may? -/
theorem slies_any (a n fr te : Int) (ha : I64 a) (hn : I64 n) (hf : 0 ≤ fr ∧ fr ≤ 100000) (ht : 0 ≤ te ∧ te ≤ 100000) (w : World) :
    Calls Tryd.prog 58 #[.agg #[.int .i64 a, .int .i64 n], .int .i64 fr, .int .i64 te] w fun e w' => e = .returned (.bool (decide (fitR fr te (a, n)))) ∧ Below w.heap.size w w' := by
  have ha1 := ha.1
  have ha2 := ha.2
  have hn1 := hn.1
  have hn2 := hn.2
  obtain ⟨r, hr⟩ : ∃ r, r = decide (fitR fr te (a, n)) := ⟨_, rfl⟩
  rw [← hr]
  unfold fitR at hr
  simp only at hr
  by_cases h1 : a ≥ fr
  · by_cases h2 : n ≥ 1
    · obtain ⟨d, hd⟩ : ∃ d, d = te - a := ⟨_, rfl⟩
      have v1 : IntKind.i64.wrap (te - a) = d := by rw [← hd]; exact IntWalk.i64_in _ (by omega)
      by_cases h3 : n ≤ d
      · obtain rfl : r = true := by rw [hr]; exact decide_eq_true ⟨h1, h2, by omega⟩
        have b3 : decide (n ≤ d) = true := decide_eq_true h3
        clear hr hd ha hn hf ht ha1 ha2 hn1 hn2
        go_enter Tryd.func58, Tryd.ntmps58
        go_wp2
        go_ret
        exact ⟨rfl, box_below _ _⟩
      · obtain rfl : r = false := by rw [hr]; exact decide_eq_false (fun y => h3 (by omega))
        have b3 : decide (n ≤ d) = false := decide_eq_false h3
        clear hr hd ha hn hf ht ha1 ha2 hn1 hn2
        go_enter Tryd.func58, Tryd.ntmps58
        go_wp2
        go_ret
        exact ⟨rfl, box_below _ _⟩
    · obtain rfl : r = false := by rw [hr]; exact decide_eq_false (fun y => h2 y.2.1)
      clear hr ha hn hf ht ha1 ha2 hn1 hn2
      go_enter Tryd.func58, Tryd.ntmps58
      go_wp2
      go_ret
      exact ⟨rfl, box_below _ _⟩
  · obtain rfl : r = false := by rw [hr]; exact decide_eq_false (fun y => h1 y.1)
    clear hr ha hn hf ht ha1 ha2 hn1 hn2
    go_enter Tryd.func58, Tryd.ntmps58
    go_wp2
    go_ret
    exact ⟨rfl, box_below _ _⟩

/-- Two runs that share a sector. -/
def meetR (r o : Int × Int) : Bool := decide (r.1 < o.1 + o.2) && decide (o.1 < r.1 + r.2)
/-- Numbers whose sums are numbers. -/
def smallR (r : Int × Int) : Prop := (-100000 ≤ r.1 ∧ r.1 ≤ 100000) ∧ (-100000 ≤ r.2 ∧ r.2 ≤ 100000)

set_option maxRecDepth 100000 in
set_option maxHeartbeats 1000000 in
theorem over1_any (r o : Int × Int) (hr : smallR r) (ho : smallR o) (bx : Nat) (w : World) (c0 : w.cell? ⟨bx, 0, none⟩ = some (.int .i64 r.1)) (c1 : w.cell? ⟨bx, 1, none⟩ = some (.int .i64 r.2)) :
    Calls Tryd.prog 75 #[.agg #[.int .i64 o.1, .int .i64 o.2], .pointer (some ⟨bx, 0, none⟩)] w fun e w' => e = .returned (.bool (meetR r o)) ∧ Below w.heap.size w w' := by
  obtain ⟨a, m⟩ := r
  obtain ⟨x, y⟩ := o
  unfold smallR at hr ho
  simp only at hr ho c0 c1
  obtain ⟨res, hres⟩ : ∃ res, res = meetR (a, m) (x, y) := ⟨_, rfl⟩
  have HRES : Hid (res = (decide (a < x + y) && decide (x < a + m))) := Lib.hid hres
  rw [← hres]
  simp only
  obtain ⟨s1, hs1⟩ : ∃ s1, s1 = x + y := ⟨_, rfl⟩
  obtain ⟨s2, hs2⟩ : ∃ s2, s2 = a + m := ⟨_, rfl⟩
  have v1 : IntKind.i64.wrap (x + y) = s1 := by rw [← hs1]; exact IntWalk.i64_in _ (by omega)
  have v2 : IntKind.i64.wrap (a + m) = s2 := by rw [← hs2]; exact IntWalk.i64_in _ (by omega)
  rw [← hs1, ← hs2] at HRES
  clear hres hs1 hs2 hr ho
  have K := box_below w (.cells #[.int .i64 x, .int .i64 y] 48)
  have e0 := Kept.cell K c0
  have e1 := Kept.cell K c1
  have HK := Lib.hid K
  by_cases h1 : a < s1
  · have b1 : decide (a < s1) = true := decide_eq_true h1
    by_cases h2 : x < s2
    · have b2 : decide (x < s2) = true := decide_eq_true h2
      obtain rfl : res = true := by rw [HRES.out, b1, b2]; rfl
      clear c0 c1 K
      go_enter Tryd.func75, Tryd.ntmps75
      go_wp2
      go_ret
      exact ⟨rfl, HK.out⟩
    · have b2 : decide (x < s2) = false := decide_eq_false h2
      obtain rfl : res = false := by rw [HRES.out, b1, b2]; rfl
      clear c0 c1 K
      go_enter Tryd.func75, Tryd.ntmps75
      go_wp2
      go_ret
      exact ⟨rfl, HK.out⟩
  · have b1 : decide (a < s1) = false := decide_eq_false h1
    obtain rfl : res = false := by rw [HRES.out, b1]; rfl
    clear c0 c1 K
    go_enter Tryd.func75, Tryd.ntmps75
    go_wp2
    go_ret
    exact ⟨rfl, HK.out⟩

def IdxS (l : List (Int × Int)) (q : Int × Int → Bool) (w : World) (e : Ending) (w' : World) : Prop :=
  ∃ i : Int, e = .returned (.int .i64 i) ∧ decide (i ≥ 0) = l.any q ∧ Below w.heap.size w w'

set_option maxRecDepth 100000 in
set_option maxHeartbeats 4000000 in
theorem sidx_any (q : Int × Int → Bool) (bx : Nat) (p : Option Addr) (c n : Nat) (l : List (Int × Int)) (hn : n = l.length) (hs : n ≤ 1048576) (w : World) (h : RunsAt l (.slice p n c) w)
    (hd : ∀ W, Kept w W → ∀ r ∈ l, Calls Tryd.prog 75 #[.agg #[.int .i64 r.1, .int .i64 r.2], .pointer (some ⟨bx, 0, none⟩)] W fun e w' => e = .returned (.bool (q r)) ∧ Below W.heap.size W w') :
    Calls Tryd.prog 84 #[.slice p n c, .func (.func 75) #[] #[.pointer (some ⟨bx, 0, none⟩)]] w (IdxS l q w) := by
  have hout := h.out
  rw [hn] at hout
  obtain ⟨p', c', he, hcap, hc⟩ := hout
  simp only [Value.slice.injEq] at he
  obtain ⟨rfl, -, rfl⟩ := he
  have HC := Lib.hid hc
  have HN := Lib.hid hn
  have HD := Lib.hid hd
  clear hn h hd hc hcap
  go_enter Tryd.func84, Tryd.ntmps84
  go_wp2
  go_loopg [8] n (fun gh s8 wx => ∃ k : Nat, k + gh = n ∧ s8 = .int .i64 k ∧ Hid (∀ r ∈ l.take k, q r = false) ∧ Hid (Kept w wx))
  case atStart => exact ⟨0, by omega, rfl, Lib.hid (fun r hr => by simp at hr), Lib.hid (Kept.refl w)⟩
  case round =>
    obtain ⟨k, hk, rfl, HQ, HK⟩ := hrel
    obtain ⟨k1, hk1⟩ : ∃ k1, k1 = k + 1 := ⟨_, rfl⟩
    have v1 : IntKind.i64.wrap ((k : Int) + 1) = (k1 : Int) := by rw [show (k : Int) + 1 = (k1 : Int) by omega]; exact IntWalk.i64_in _ (by omega)
    by_cases hlt : k < n
    · have hki : (k : Int) < n := by omega
      have bk : decide ((k : Int) < (n : Int)) = true := by simpa using hki
      have hki0 : (0 : Int) ≤ k := by omega
      have hkl : k < l.length := by rw [← HN.out]; exact hlt
      rcases HC.out with h0 | ⟨b, off, rfl, hcell⟩
      · omega
      have d1 := HK.out.cell (hcell k hkl).1
      have d2 := HK.out.cell (hcell k hkl).2
      have CL := HD.out wr HK.out l[k] (List.getElem_mem hkl)
      have HNX : Hid (q l[k] = false → ∀ r ∈ l.take k1, q r = false) := Lib.hid (fun h0 r hr => by
        rw [hk1, List.take_succ_eq_append_getElem hkl] at hr
        rcases List.mem_append.1 hr with h | h
        · exact HQ.out r h
        · rw [List.mem_singleton.1 h]; exact h0)
      have HFD : Hid (q l[k] = true → l.any q = true) := Lib.hid (fun h0 => List.any_eq_true.2 ⟨_, List.getElem_mem hkl, h0⟩)
      obtain ⟨t, ht⟩ : ∃ t, t = q l[k] := ⟨_, rfl⟩
      obtain ⟨r, hr⟩ : ∃ r, r = l[k] := ⟨_, rfl⟩
      rw [← ht] at CL HNX HFD
      rw [← hr] at CL d1 d2
      obtain ⟨x, y⟩ := r
      simp only at CL d1 d2
      clear ht hr hkl hcell
      cases t with
      | false =>
        have HN2 := Lib.hid (HNX.out rfl)
        clear HNX HFD
        go_wp2_with fail
        refine CL.mono ?_
        rintro e w2 ⟨rfl, hb⟩
        have HK2 := Lib.hid (HK.out.then hb)
        clear CL hb d1 d2
        go_wp2
        go_roundg (n - k1)
        case measure => omega
        case rel => exact ⟨k1, by omega, by first | rfl | (congr 1; omega), HN2, HK2⟩
      | true =>
        have HT := Lib.hid (HFD.out rfl)
        clear HNX HFD
        go_wp2_with fail
        refine CL.mono ?_
        rintro e w2 ⟨rfl, hb⟩
        have HK2 := Lib.hid (HK.out.then hb)
        clear CL hb d1 d2
        go_wp2
        go_ret
        exact ⟨_, rfl, by rw [HT.out]; exact decide_eq_true (by omega), HK2.out⟩
    · have hki : ¬ (k : Int) < n := by omega
      have bk : decide ((k : Int) < (n : Int)) = false := by simpa using hki
      have HA : Hid (l.any q = false) := Lib.hid (by
        rw [List.any_eq_false]
        intro r hr
        rw [HQ.out r (by rw [List.take_of_length_le (by rw [← HN.out]; omega)]; exact hr)]
        decide)
      go_wp2
      go_ret
      exact ⟨_, rfl, by rw [HA.out]; rfl, HK.out⟩

set_option maxRecDepth 100000 in
set_option maxHeartbeats 1000000 in
theorem scontains_any (q : Int × Int → Bool) (bx : Nat) (p : Option Addr) (c n : Nat) (l : List (Int × Int)) (hn : n = l.length) (hs : n ≤ 1048576) (w : World) (h : RunsAt l (.slice p n c) w)
    (hd : ∀ W, Kept w W → ∀ r ∈ l, Calls Tryd.prog 75 #[.agg #[.int .i64 r.1, .int .i64 r.2], .pointer (some ⟨bx, 0, none⟩)] W fun e w' => e = .returned (.bool (q r)) ∧ Below W.heap.size W w') :
    Calls Tryd.prog 74 #[.slice p n c, .func (.func 75) #[] #[.pointer (some ⟨bx, 0, none⟩)]] w fun e w' => e = .returned (.bool (l.any q)) ∧ Below w.heap.size w w' := by
  have IX := sidx_any q bx p c n l hn hs w h hd
  obtain ⟨t, ht⟩ : ∃ t, t = l.any q := ⟨_, rfl⟩
  rw [← ht]
  have HT := Lib.hid ht
  clear hn hs h hd ht
  go_enter Tryd.func74, Tryd.ntmps74
  go_wp2_with fail
  refine IX.mono ?_
  rintro e w1 ⟨i, rfl, hi, hb⟩
  rw [← HT.out] at hi
  have HB := Lib.hid hb
  clear IX hb HT
  go_wp2
  go_ret
  exact ⟨rfl, HB.out⟩


set_option maxRecDepth 100000 in
set_option maxHeartbeats 1000000 in
theorem overlaps_any (r : Int × Int) (hr : smallR r) (l : List (Int × Int)) (hl : ∀ o ∈ l, smallR o) (hs : l.length ≤ 1048576) (v : Value) (w : World) (h : RunsAt l v w) :
    Calls Tryd.prog 59 #[.agg #[.int .i64 r.1, .int .i64 r.2], v] w fun e w' => e = .returned (.bool (l.any (meetR r))) ∧ Below w.heap.size w w' := by
  obtain ⟨p, c, hv, -, -⟩ := h.out
  obtain ⟨n, hn⟩ : ∃ n, n = l.length := ⟨_, rfl⟩
  rw [← hn] at hv
  subst hv
  have K1 := box_below w (.cells #[.int .i64 r.1, .int .i64 r.2] 48)
  have hrow := heap_alloc_last w (.cells #[.int .i64 r.1, .int .i64 r.2] 48)
  have hc0 : (w.alloc (.cells #[.int .i64 r.1, .int .i64 r.2] 48)).cell? ⟨w.heap.size, 0, none⟩ = some (.int .i64 r.1) := by rw [cell_of_row _ _ _ _ _ _ hrow]; rfl
  have hc1 : (w.alloc (.cells #[.int .i64 r.1, .int .i64 r.2] 48)).cell? ⟨w.heap.size, 1, none⟩ = some (.int .i64 r.2) := by rw [cell_of_row _ _ _ _ _ _ hrow]; rfl
  have CF := scontains_any (meetR r) w.heap.size p c n l hn (by omega) _ (h.later K1) (fun W k o ho => over1_any r o hr (hl o ho) w.heap.size W (k.cell hc0) (k.cell hc1))
  obtain ⟨t, ht⟩ : ∃ t, t = l.any (meetR r) := ⟨_, rfl⟩
  rw [← ht] at CF ⊢
  have HK1 := Lib.hid K1
  obtain ⟨a, m⟩ := r
  simp only at CF HK1 ⊢
  clear h hn hl K1 hrow hc0 hc1 ht hr
  go_enter Tryd.func59, Tryd.ntmps59
  go_wp2_with fail
  refine CF.mono ?_
  rintro e w1 ⟨rfl, hb⟩
  have HK2 : Hid (Kept w w1) := Lib.hid ((show Kept w _ from HK1.out).then hb)
  clear CF hb
  go_wp2
  go_ret
  exact ⟨rfl, HK2.out⟩

end Go.Proofs.YtlfmmhalheohdaaDoor
namespace Go.Proofs.YtlfmmhalheohdaaDoor
open Go.RowKit

theorem infoRnS : (Tryd.prog.info? 48).map (·.size) = some 2 := by kernel_rfl

def numP (s : Sb) : Prop := 1 ≤ s.seq ∧ (4 ≤ s.sec ∧ s.sec ≤ 8192) ∧ (1 ≤ s.jou ∧ s.jou ≤ s.sec - 2) ∧ (0 ≤ s.use ∧ s.use ≤ s.jou * 128) ∧ (0 ≤ s.siz ∧ s.siz ≤ 1048576)
instance (s : Sb) : Decidable (numP s) := by unfold numP; infer_instance
def runsP (s : Sb) : Prop := s.runs.length ≤ 16 ∧ validL (2 + s.jou) s.sec s.runs ∧ sumR s.runs = needN s.siz
instance (s : Sb) : Decidable (runsP s) := by unfold runsP; infer_instance
theorem maySP_two (s : Sb) : maySP s ↔ numP s ∧ runsP s :=
  ⟨fun h => ⟨⟨h.seq, h.sec, h.jou, h.use, h.siz⟩, h.len, h.runs, h.sum⟩, fun ⟨⟨a, b, c, d, e⟩, f, g, h⟩ => ⟨a, b, c, d, e, f, g, h⟩⟩

set_option maxRecDepth 100000 in
set_option maxHeartbeats 4000000 in
theorem vnum_any (s : Sb) (v : Value) (w : World) (h : SbAt s v w) :
    Calls Tryd.prog 31 #[v] w fun e w' => e = .returned (.bool (decide (numP s))) ∧ Below w.heap.size w w' := by
  obtain ⟨tv, rfl, hr, hwf⟩ := h
  obtain ⟨p, c, htv, -, -⟩ := hr.out
  subst htv
  obtain ⟨q, se, jo, us, si, rn⟩ := s
  obtain ⟨-, hse, hjo, hus, hsi⟩ := hwf
  simp only at hse hjo hus hsi
  obtain ⟨res, hres⟩ : ∃ res, res = decide (numP ⟨q, se, jo, us, si, rn⟩) := ⟨_, rfl⟩
  rw [← hres]
  have HFA : Hid (¬ (1 ≤ q ∧ (4 ≤ se ∧ se ≤ 8192) ∧ (1 ≤ jo ∧ jo ≤ se - 2) ∧ (0 ≤ us ∧ us ≤ jo * 128) ∧ (0 ≤ si ∧ si ≤ 1048576)) → res = false) := Lib.hid (fun x => by rw [hres]; exact decide_eq_false x)
  have HTR : Hid ((1 ≤ q ∧ (4 ≤ se ∧ se ≤ 8192) ∧ (1 ≤ jo ∧ jo ≤ se - 2) ∧ (0 ≤ us ∧ us ≤ jo * 128) ∧ (0 ≤ si ∧ si ≤ 1048576)) → res = true) := Lib.hid (fun x => by rw [hres]; exact decide_eq_true x)
  clear hres
  unfold sbV sbC
  simp only
  obtain ⟨n, hn⟩ : ∃ n, n = rn.length := ⟨_, rfl⟩
  rw [← hn]
  clear hr hn
  by_cases h0 : (q : Int) ≥ 1
  case neg =>
    have HF : Hid (res = false) := Lib.hid (HFA.out (fun y => by have y1 := y.1; omega))
    have b0 : decide ((q : Int) ≥ 1) = false := decide_eq_false h0
    clear hse hjo hus hsi HFA HTR
    go_enter Tryd.func31, Tryd.ntmps31
    go_wp2
    go_ret
    exact ⟨by rw [HF.out]; rfl, box_below _ _⟩
  have b0 : decide ((q : Int) ≥ 1) = true := decide_eq_true h0
  by_cases h1 : 4 ≤ se
  case neg =>
    have HF : Hid (res = false) := Lib.hid (HFA.out (fun y => by have y1 := y.2.1.1; omega))
    have b1 : decide (4 ≤ se) = false := decide_eq_false h1
    clear hse hjo hus hsi HFA HTR
    go_enter Tryd.func31, Tryd.ntmps31
    go_wp2
    go_ret
    exact ⟨by rw [HF.out]; rfl, box_below _ _⟩
  have b1 : decide (4 ≤ se) = true := decide_eq_true h1
  by_cases h2 : se ≤ 8192
  case neg =>
    have HF : Hid (res = false) := Lib.hid (HFA.out (fun y => by have y1 := y.2.1.2; omega))
    have b2 : decide (se ≤ 8192) = false := decide_eq_false h2
    clear hse hjo hus hsi HFA HTR
    go_enter Tryd.func31, Tryd.ntmps31
    go_wp2
    go_ret
    exact ⟨by rw [HF.out]; rfl, box_below _ _⟩
  have b2 : decide (se ≤ 8192) = true := decide_eq_true h2
  by_cases h3 : 1 ≤ jo
  case neg =>
    have HF : Hid (res = false) := Lib.hid (HFA.out (fun y => by have y1 := y.2.2.1.1; omega))
    have b3 : decide (1 ≤ jo) = false := decide_eq_false h3
    clear hse hjo hus hsi HFA HTR
    go_enter Tryd.func31, Tryd.ntmps31
    go_wp2
    go_ret
    exact ⟨by rw [HF.out]; rfl, box_below _ _⟩
  have b3 : decide (1 ≤ jo) = true := decide_eq_true h3
  obtain ⟨d, hd⟩ : ∃ d, d = se - 2 := ⟨_, rfl⟩
  have vd : IntKind.i64.wrap (se - 2) = d := by rw [← hd]; exact IntWalk.i64_in _ (by omega)
  by_cases h4 : jo ≤ d
  case neg =>
    have HF : Hid (res = false) := Lib.hid (HFA.out (fun y => by have y1 := y.2.2.1.2; omega))
    have b4 : decide (jo ≤ d) = false := decide_eq_false h4
    clear hse hjo hus hsi HFA HTR hd
    go_enter Tryd.func31, Tryd.ntmps31
    go_wp2
    go_ret
    exact ⟨by rw [HF.out]; rfl, box_below _ _⟩
  have b4 : decide (jo ≤ d) = true := decide_eq_true h4
  by_cases h5 : 0 ≤ us
  case neg =>
    have HF : Hid (res = false) := Lib.hid (HFA.out (fun y => by have y1 := y.2.2.2.1.1; omega))
    have b5 : decide (0 ≤ us) = false := decide_eq_false h5
    clear hse hjo hus hsi HFA HTR hd
    go_enter Tryd.func31, Tryd.ntmps31
    go_wp2
    go_ret
    exact ⟨by rw [HF.out]; rfl, box_below _ _⟩
  have b5 : decide (0 ≤ us) = true := decide_eq_true h5
  obtain ⟨e, he⟩ : ∃ e, e = jo * 128 := ⟨_, rfl⟩
  have ve : IntKind.i64.wrap (jo * 128) = e := by rw [← he]; exact IntWalk.i64_in _ (by omega)
  by_cases h6 : us ≤ e
  case neg =>
    have HF : Hid (res = false) := Lib.hid (HFA.out (fun y => by have y1 := y.2.2.2.1.2; omega))
    have b6 : decide (us ≤ e) = false := decide_eq_false h6
    clear hse hjo hus hsi HFA HTR hd he
    go_enter Tryd.func31, Tryd.ntmps31
    go_wp2
    go_ret
    exact ⟨by rw [HF.out]; rfl, box_below _ _⟩
  have b6 : decide (us ≤ e) = true := decide_eq_true h6
  by_cases h7 : 0 ≤ si
  case neg =>
    have HF : Hid (res = false) := Lib.hid (HFA.out (fun y => by have y1 := y.2.2.2.2.1; omega))
    have b7 : decide (0 ≤ si) = false := decide_eq_false h7
    clear hse hjo hus hsi HFA HTR hd he
    go_enter Tryd.func31, Tryd.ntmps31
    go_wp2
    go_ret
    exact ⟨by rw [HF.out]; rfl, box_below _ _⟩
  have b7 : decide (0 ≤ si) = true := decide_eq_true h7
  by_cases h8 : si ≤ 1048576
  case neg =>
    have HF : Hid (res = false) := Lib.hid (HFA.out (fun y => by have y1 := y.2.2.2.2.2; omega))
    have b8 : decide (si ≤ 1048576) = false := decide_eq_false h8
    clear hse hjo hus hsi HFA HTR hd he
    go_enter Tryd.func31, Tryd.ntmps31
    go_wp2
    go_ret
    exact ⟨by rw [HF.out]; rfl, box_below _ _⟩
  have b8 : decide (si ≤ 1048576) = true := decide_eq_true h8
  have HF : Hid (res = true) := Lib.hid (HTR.out ⟨by omega, ⟨by omega, by omega⟩, ⟨by omega, by omega⟩, ⟨by omega, by omega⟩, ⟨by omega, by omega⟩⟩)
  clear hse hjo hus hsi HFA HTR hd he
  go_enter Tryd.func31, Tryd.ntmps31
  go_wp2
  go_ret
  exact ⟨by rw [HF.out]; rfl, box_below _ _⟩

theorem RunsAt.takeN {l : List (Int × Int)} {p : Option Addr} {n c : Nat} {w : World} (h : RunsAt l (.slice p n c) w) (k : Nat) (hk : k ≤ n) : RunsAt (l.take k) (.slice p k c) w := by
  obtain ⟨p', c', he, hcap, -⟩ := h.out
  simp only [Value.slice.injEq] at he
  obtain ⟨rfl, rfl, rfl⟩ := he
  obtain ⟨hl, h1, p', c', he, hc⟩ := h.at_
  simp only [Value.slice.injEq] at he
  obtain ⟨rfl, -, rfl⟩ := he
  have hlt : (l.take k).length = k := by rw [List.length_take]; omega
  have := RunsAt.of_cells (l := l.take k) (w := w) (wfR_take h.wf k) p c (by omega) (by
    rcases hc with h0 | ⟨b, off, rfl, hcell⟩
    · exact Or.inl (by omega)
    · exact Or.inr ⟨b, off, rfl, fun j x hx => hcell j x (by
        rw [runC_take, List.getElem?_take] at hx
        split at hx
        · exact hx
        · cases hx)⟩)
  rw [hlt] at this
  exact this

theorem getD_at {l : List (Int × Int)} {k : Nat} (h : k < l.length) : l.getD k (0, 0) = l[k] := by rw [List.getD_eq_getElem?_getD, List.getElem?_eq_getElem h]; rfl
theorem small_of_fit {fr te : Int} (hf : 0 ≤ fr) (ht : te ≤ 8192) {r : Int × Int} (h : fitR fr te r) : smallR r := by
  unfold fitR at h; unfold smallR; omega
theorem small_of_valid {fr te : Int} {l : List (Int × Int)} {k : Nat} (hf : 0 ≤ fr) (ht : te ≤ 8192) (hk : k ≤ l.length) (h : validK fr te l k) : ∀ o ∈ l.take k, smallR o := by
  intro o ho
  obtain ⟨i, hi, rfl⟩ := List.mem_iff_getElem.1 ho
  rw [List.length_take] at hi
  have hv := (h i (by omega)).1
  rw [getD_at (by omega)] at hv
  rw [List.getElem_take]
  exact small_of_fit hf ht hv
theorem valid_step {fr te : Int} {l : List (Int × Int)} {k : Nat} (hk : k < l.length) (h : validK fr te l k) (hf : fitR fr te l[k]) (ha : (l.take k).any (meetR l[k]) = false) : validK fr te l (k + 1) := by
  intro j hj
  by_cases hjk : j < k
  · exact h j hjk
  · obtain rfl : j = k := by omega
    rw [getD_at hk]
    refine ⟨hf, fun i hi => ?_⟩
    rw [List.any_eq_false] at ha
    have hil : i < l.length := by omega
    have hm := ha l[i] (List.mem_iff_getElem.2 ⟨i, by rw [List.length_take]; omega, List.getElem_take⟩)
    rw [getD_at hil]
    have hi1 := (h i hi).1
    rw [getD_at hil] at hi1
    have hov := over_iff l[j].1 l[j].2 l[i].1 l[i].2 hf.2.1 hi1.2.1
    have hn : ¬ (l[j].1 < l[i].1 + l[i].2 ∧ l[i].1 < l[j].1 + l[j].2) := by
      intro x
      apply hm
      unfold meetR
      rw [decide_eq_true x.1, decide_eq_true x.2]
      rfl
    have hno := fun x => hn (hov.1 x)
    exact ⟨fun x => hno (Or.inl x), fun x => hno (Or.inr x)⟩
theorem valid_not {fr te : Int} {l : List (Int × Int)} {k : Nat} (hk : k < l.length) (ha : (l.take k).any (meetR l[k]) = true) : ¬ validL fr te l := by
  intro h
  obtain ⟨o, ho, hm⟩ := List.any_eq_true.1 ha
  obtain ⟨i, hi, rfl⟩ := List.mem_iff_getElem.1 ho
  rw [List.length_take] at hi
  rw [List.getElem_take] at hm
  have hil : i < l.length := by omega
  have h1 := h k hk
  have h2 := (h i hil).1
  have h3 := h1.2 i (by omega)
  have hfk := h1.1
  rw [getD_at hk, getD_at hil] at h3
  rw [getD_at hk] at hfk
  rw [getD_at hil] at h2
  have hov := (over_iff l[k].1 l[k].2 l[i].1 l[i].2 hfk.2.1 h2.2.1).2 (by
    unfold meetR at hm
    rw [Bool.and_eq_true, decide_eq_true_eq, decide_eq_true_eq] at hm
    exact hm)
  rcases hov with x | x
  · exact h3.1 x
  · exact h3.2 x

set_option maxRecDepth 100000 in
set_option maxHeartbeats 16000000 in
theorem vruns_any (s : Sb) (v : Value) (w : World) (h : SbAt s v w) (hnum : numP s) :
    Calls Tryd.prog 32 #[v] w fun e w' => e = .returned (.bool (decide (runsP s))) ∧ Below w.heap.size w w' := by
  obtain ⟨tv, rfl, hr, hwf⟩ := h
  obtain ⟨p, c, htv, hcap, hcell⟩ := hr.out
  subst htv
  obtain ⟨q, se, jo, us, si, rn⟩ := s
  unfold numP at hnum
  simp only at hr hcap hcell hnum
  obtain ⟨res, hres⟩ : ∃ res, res = decide (runsP ⟨q, se, jo, us, si, rn⟩) := ⟨_, rfl⟩
  rw [← hres]
  have HRES : Hid (res = decide (rn.length ≤ 16 ∧ validL (2 + jo) se rn ∧ sumR rn = needN si)) := Lib.hid hres
  clear hres
  unfold sbV sbC
  simp only
  have HWF := Lib.hid hr.wf
  have HC := Lib.hid hcell
  have hr0 := hr
  obtain ⟨n, hn⟩ : ∃ n, n = rn.length := ⟨_, rfl⟩
  have HN := Lib.hid hn
  rw [← hn] at hcap hr ⊢
  have HR := Lib.hid hr
  have HCAP := Lib.hid hcap
  have HNUM := Lib.hid hnum
  obtain ⟨W0, hW0⟩ : ∃ W0, W0 = w.alloc (.cells #[.int .u64 q, .int .i64 se, .int .i64 jo, .int .i64 us, .int .i64 si, .slice p n c] 25) := ⟨_, rfl⟩
  have HROW : Hid (W0.heap[w.heap.size]? = some (.cells #[.int .u64 q, .int .i64 se, .int .i64 jo, .int .i64 us, .int .i64 si, .slice p n c] 25 (0, 0))) := Lib.hid (by rw [hW0]; exact heap_alloc_last w _)
  have HW0 := Lib.hid hW0
  have HK0 : Hid (Kept w W0) := Lib.hid (by rw [hW0]; exact box_below _ _)
  have HFA : Hid (¬ (rn.length ≤ 16 ∧ validL (2 + jo) se rn ∧ sumR rn = needN si) → res = false) := Lib.hid (fun x => by rw [HRES.out]; exact decide_eq_false x)
  clear hr hr0 hn hW0 hcell hcap hnum hwf
  by_cases h16 : (n : Int) > 16
  · have HF : Hid (res = false) := Lib.hid (HFA.out (fun y => by have y1 := y.1; have := HN.out; omega))
    clear HFA HRES HWF HC HN HR HCAP HNUM HROW HW0 HK0
    go_enter Tryd.func32, Tryd.ntmps32
    go_wp2
    go_ret
    exact ⟨by rw [HF.out]; rfl, box_below _ _⟩
  · have V0 : Hid (validK (2 + jo) se rn 0) := Lib.hid (fun j hj => by omega)
    have K0 : Hid (Kept W0 W0) := Lib.hid (Kept.refl W0)
    have hn16 : n ≤ 16 := by omega
    have HN16 := Lib.hid hn16
    go_enter Tryd.func32, Tryd.ntmps32
    go_wp2
    rw [← HW0.out]
    go_loopg [3, 13] n (fun gh s3 s13 wx => ∃ (k : Nat) (z : Int), k + gh = n ∧ s3 = .int .i64 z ∧ s13 = .int .i64 k ∧ Hid (z = sumR (rn.take k)) ∧ Hid (0 ≤ z ∧ z ≤ 8192 * k) ∧ Hid (validK (2 + jo) se rn k) ∧ Hid (Kept W0 wx))
    case atStart => exact ⟨0, 0, by omega, rfl, rfl, Lib.hid rfl, Lib.hid (by omega), V0, K0⟩
    case round =>
      clear V0 K0
      obtain ⟨k, z, hk, rfl, rfl, HZ, HZB, HV, HK⟩ := hrel
      have hrow := HK.out.row HROW.out
      by_cases hkn : k < n
      · have hki : (k : Int) < n := by omega
        have bk : decide ((k : Int) < (n : Int)) = true := by simpa using hki
        have hki0 : (0 : Int) ≤ k := by omega
        have hka : k < rn.length := by rw [← HN.out]; exact hkn
        have hkc : (k : Int) ≤ c := by have := HCAP.out; omega
        have hzk : ((k : Int)).toNat = k := by omega
        rcases HC.out with h0 | ⟨ba, oa, rfl, hcell⟩
        · omega
        have hkw : Kept w wr := (show Kept w W0 from HK0.out).then HK.out
        have d1 := hkw.cell (hcell k hka).1
        have d2 := hkw.cell (hcell k hka).2
        have hwr := HWF.out _ (List.getElem_mem hka)
        have hst := sumR_take rn k hka
        have HTK : Hid (RunsAt (rn.take k) (.slice (some ⟨ba, oa, none⟩) k c) wr) := Lib.hid ((HR.out.later hkw).takeN k (by omega))
        have hnum := HNUM.out
        have HSM := Lib.hid (small_of_valid (fr := 2 + jo) (te := se) (l := rn) (by omega) (by omega) (by omega) HV.out)
        have HST : Hid (fitR (2 + jo) se rn[k] → (rn.take k).any (meetR rn[k]) = false → validK (2 + jo) se rn (k + 1)) := Lib.hid (fun x y => valid_step hka HV.out x y)
        have HNF : Hid (¬ fitR (2 + jo) se rn[k] → res = false) := Lib.hid (fun hf => HFA.out (fun y => hf (by have h := y.2.1 k hka; rw [getD_at hka] at h; exact h.1)))
        have HNM : Hid ((rn.take k).any (meetR rn[k]) = true → res = false) := Lib.hid (fun hf => HFA.out (fun y => valid_not hka hf y.2.1))
        have HLT : Hid ((rn.take k).length ≤ 1048576) := Lib.hid (by rw [List.length_take]; have := HN16.out; omega)
        obtain ⟨r, hrr⟩ : ∃ r, r = rn[k] := ⟨_, rfl⟩
        rw [← hrr] at d1 d2 hwr hst HST HNF HNM
        obtain ⟨a, m⟩ := r
        simp only at d1 d2 hwr hst
        obtain ⟨k1, hk1⟩ : ∃ k1, k1 = k + 1 := ⟨_, rfl⟩
        rw [← hk1] at HST hst
        have vk1 : IntKind.i64.wrap ((k : Int) + 1) = (k1 : Int) := by rw [show (k : Int) + 1 = (k1 : Int) by omega]; exact IntWalk.i64_in _ (by have := HN16.out; omega)
        obtain ⟨fr, hfr⟩ : ∃ fr, fr = 2 + jo := ⟨_, rfl⟩
        have vfr : IntKind.i64.wrap (2 + jo) = fr := by rw [← hfr]; exact IntWalk.i64_in _ (by omega)
        have HFR := Lib.hid hfr
        have CL := fun W => slies_any a m fr se hwr.1 hwr.2 (by omega) (by omega) W
        rw [hfr] at CL
        rw [← hfr] at HST HNF CL
        have g1 : (wr.alloc (.cells #[.int .i64 a, .int .i64 m] 48)).cell? ⟨w.heap.size, 1, none⟩ = some (.int .i64 se) := Kept.cell (box_below _ _) (by rw [cell_of_row _ _ _ _ _ _ hrow]; rfl)
        have g2 : (wr.alloc (.cells #[.int .i64 a, .int .i64 m] 48)).cell? ⟨w.heap.size, 2, none⟩ = some (.int .i64 jo) := Kept.cell (box_below _ _) (by rw [cell_of_row _ _ _ _ _ _ hrow]; rfl)
        have g5 : (wr.alloc (.cells #[.int .i64 a, .int .i64 m] 48)).cell? ⟨w.heap.size, 5, none⟩ = some (.slice (some ⟨ba, oa, none⟩) n c) := Kept.cell (box_below _ _) (by rw [cell_of_row _ _ _ _ _ _ hrow]; rfl)
        have hrow1 := heap_alloc_last wr (.cells #[.int .i64 a, .int .i64 m] 48)
        obtain ⟨W1, hW1⟩ : ∃ W1, W1 = wr.alloc (.cells #[.int .i64 a, .int .i64 m] 48) := ⟨_, rfl⟩
        have HK1 : Hid (Kept wr W1) := Lib.hid (by rw [hW1]; exact box_below _ _)
        rw [← hW1] at g1 g2 g5 hrow1
        have HW1 := Lib.hid hW1
        have HW01 : Hid (Kept W0 W1) := Lib.hid (HK.out.then HK1.out)
        have HROW1 := Lib.hid hrow1
        have hm64 := hwr.2
        have hzb := HZB.out
        clear hrow hkw hcell hwr hrr hnum hW1 hfr
        by_cases hfit : fitR fr se (a, m)
        · rw [decide_eq_true hfit] at CL
          have hsm : smallR (a, m) := by unfold fitR at hfit; unfold smallR; have := HNUM.out; have := HFR.out; simp only at hfit ⊢; omega
          have CO := fun W (hW : Kept W1 W) => overlaps_any (a, m) hsm (rn.take k) HSM.out HLT.out _ W (HTK.out.later (HK1.out.then hW))
          simp only at CO
          have hm8 : 1 ≤ m ∧ m ≤ 8192 := by unfold fitR at hfit; have := HNUM.out; have := HFR.out; simp only at hfit; omega
          have HST2 := Lib.hid (HST.out hfit)
          clear HST HNF HSM HLT hfit hsm
          cases han : (rn.take k).any (meetR (a, m)) with
          | true =>
            rw [han] at CO
            have HF := Lib.hid (HNM.out han)
            clear HST2 HNM han hst hm64 hzb hm8
            go_wp2_with fail
            rw [← HW1.out]
            refine wp_region_kept (by kernel_rfl) (by kernel_rfl) ?_
            refine wpQuiet_load_row (by kernel_rfl) _ _ rfl wr.heap.size rfl 48 #[.int .i64 a, .int .i64 m] (0, 0) _ (fun _ h => h.row hrow1) Tryd.underlying48 rfl infoRnS (fun K hK => ?_)
            go_simp
            refine hK _ ?_; clear hK K
            refine wpQuiet_pure (v := ?_) (by kernel_rfl) ?_ (fun K hK => ?_)
            case refine_2 => intro W _; go_simp; try with_reducible rfl
            go_simp
            refine hK _ ?_; clear hK K
            refine wpQuiet_pure (v := ?_) (by kernel_rfl) ?_ (fun K hK => ?_)
            case refine_2 => intro W hW; have e0 := hW.cell g2; go_simp; try with_reducible rfl
            go_simp
            refine hK _ ?_; clear hK K
            refine wpQuiet_pure (v := ?_) (by kernel_rfl) ?_ (fun K hK => ?_)
            case refine_2 => intro W _; go_simp; try with_reducible rfl
            go_simp
            refine hK _ ?_; clear hK K
            refine wpQuiet_pure (v := ?_) (by kernel_rfl) ?_ (fun K hK => ?_)
            case refine_2 => intro W _; go_simp; try with_reducible rfl
            go_simp
            refine hK _ ?_; clear hK K
            refine wpQuiet_pure (v := ?_) (by kernel_rfl) ?_ (fun K hK => ?_)
            case refine_2 => intro W hW; have e0 := hW.cell g1; go_simp; try with_reducible rfl
            go_simp
            refine hK _ ?_; clear hK K
            refine wpQuiet_call (by kernel_rfl) _ _ _ (fun W => by go_simp) (fun W h => Calls.kept_of h (CL W)) (fun K hK => ?_)
            go_simp
            refine hK _ ?_; clear hK K
            refine wpQuiet_pure (v := ?_) (by kernel_rfl) ?_ (fun K hK => ?_)
            case refine_2 => intro W _; go_simp; try with_reducible rfl
            go_simp
            refine hK _ ?_; clear hK K
            refine wpQuiet_pure (v := ?_) (by kernel_rfl) ?_ (fun K hK => ?_)
            case refine_2 => intro W _; go_simp; try with_reducible rfl
            go_simp
            refine hK _ ?_; clear hK K
            refine wpQuiet_load_row (by kernel_rfl) _ _ rfl wr.heap.size rfl 48 #[.int .i64 a, .int .i64 m] (0, 0) _ (fun _ h => h.row hrow1) Tryd.underlying48 rfl infoRnS (fun K hK => ?_)
            go_simp
            refine hK _ ?_; clear hK K
            refine wpQuiet_pure (v := ?_) (by kernel_rfl) ?_ (fun K hK => ?_)
            case refine_2 => intro W _; go_simp; try with_reducible rfl
            go_simp
            refine hK _ ?_; clear hK K
            refine wpQuiet_pure (v := ?_) (by kernel_rfl) ?_ (fun K hK => ?_)
            case refine_2 => intro W hW; have e0 := hW.cell g5; go_simp; try with_reducible rfl
            go_simp
            refine hK _ ?_; clear hK K
            refine wpQuiet_pure (v := ?_) (by kernel_rfl) ?_ (fun K hK => ?_)
            case refine_2 => intro W _; go_simp; try with_reducible rfl
            go_simp
            refine hK _ ?_; clear hK K
            refine wpQuiet_pure (v := ?_) (by kernel_rfl) ?_ (fun K hK => ?_)
            case refine_2 => intro W _; go_simp; try with_reducible rfl
            go_simp
            refine hK _ ?_; clear hK K
            refine wpQuiet_call (by kernel_rfl) _ _ _ (fun W => by go_simp) (fun W h => Calls.kept_of h (CO W h)) (fun K hK => ?_)
            go_simp
            refine hK _ ?_; clear hK K
            refine wpQuiet_pure (v := ?_) (by kernel_rfl) ?_ (fun K hK => ?_)
            case refine_2 => intro W _; go_simp; try with_reducible rfl
            go_simp
            refine hK _ ?_; clear hK K
            refine wpQuiet_nil ?_
            intro w1 hk1

            go_wp2
            go_ret
            exact ⟨by rw [HF.out]; rfl, ((show Kept w W0 from HK0.out).then HW01.out).then hk1⟩
          | false =>
            rw [han] at CO
            have HST3 := Lib.hid (HST2.out han)
            obtain ⟨z1, hz1⟩ : ∃ z1, z1 = z + m := ⟨_, rfl⟩
            have vz : IntKind.i64.wrap (z + m) = z1 := by rw [← hz1]; exact IntWalk.i64_in _ (by have := HN16.out; omega)
            have HZ1 : Hid (z1 = sumR (rn.take k1)) := Lib.hid (by rw [hst, hz1, HZ.out])
            have HZB1 : Hid (0 ≤ z1 ∧ z1 ≤ 8192 * k1) := Lib.hid (by omega)
            have hk1n : k1 ≤ n := by omega
            clear HST2 HNM han hst hm64 hzb hm8 hz1 HZ HZB
            go_wp2_with fail
            rw [← HW1.out]
            refine wp_region_kept (by kernel_rfl) (by kernel_rfl) ?_
            refine wpQuiet_load_row (by kernel_rfl) _ _ rfl wr.heap.size rfl 48 #[.int .i64 a, .int .i64 m] (0, 0) _ (fun _ h => h.row hrow1) Tryd.underlying48 rfl infoRnS (fun K hK => ?_)
            go_simp
            refine hK _ ?_; clear hK K
            refine wpQuiet_pure (v := ?_) (by kernel_rfl) ?_ (fun K hK => ?_)
            case refine_2 => intro W _; go_simp; try with_reducible rfl
            go_simp
            refine hK _ ?_; clear hK K
            refine wpQuiet_pure (v := ?_) (by kernel_rfl) ?_ (fun K hK => ?_)
            case refine_2 => intro W hW; have e0 := hW.cell g2; go_simp; try with_reducible rfl
            go_simp
            refine hK _ ?_; clear hK K
            refine wpQuiet_pure (v := ?_) (by kernel_rfl) ?_ (fun K hK => ?_)
            case refine_2 => intro W _; go_simp; try with_reducible rfl
            go_simp
            refine hK _ ?_; clear hK K
            refine wpQuiet_pure (v := ?_) (by kernel_rfl) ?_ (fun K hK => ?_)
            case refine_2 => intro W _; go_simp; try with_reducible rfl
            go_simp
            refine hK _ ?_; clear hK K
            refine wpQuiet_pure (v := ?_) (by kernel_rfl) ?_ (fun K hK => ?_)
            case refine_2 => intro W hW; have e0 := hW.cell g1; go_simp; try with_reducible rfl
            go_simp
            refine hK _ ?_; clear hK K
            refine wpQuiet_call (by kernel_rfl) _ _ _ (fun W => by go_simp) (fun W h => Calls.kept_of h (CL W)) (fun K hK => ?_)
            go_simp
            refine hK _ ?_; clear hK K
            refine wpQuiet_pure (v := ?_) (by kernel_rfl) ?_ (fun K hK => ?_)
            case refine_2 => intro W _; go_simp; try with_reducible rfl
            go_simp
            refine hK _ ?_; clear hK K
            refine wpQuiet_pure (v := ?_) (by kernel_rfl) ?_ (fun K hK => ?_)
            case refine_2 => intro W _; go_simp; try with_reducible rfl
            go_simp
            refine hK _ ?_; clear hK K
            refine wpQuiet_load_row (by kernel_rfl) _ _ rfl wr.heap.size rfl 48 #[.int .i64 a, .int .i64 m] (0, 0) _ (fun _ h => h.row hrow1) Tryd.underlying48 rfl infoRnS (fun K hK => ?_)
            go_simp
            refine hK _ ?_; clear hK K
            refine wpQuiet_pure (v := ?_) (by kernel_rfl) ?_ (fun K hK => ?_)
            case refine_2 => intro W _; go_simp; try with_reducible rfl
            go_simp
            refine hK _ ?_; clear hK K
            refine wpQuiet_pure (v := ?_) (by kernel_rfl) ?_ (fun K hK => ?_)
            case refine_2 => intro W hW; have e0 := hW.cell g5; go_simp; try with_reducible rfl
            go_simp
            refine hK _ ?_; clear hK K
            refine wpQuiet_pure (v := ?_) (by kernel_rfl) ?_ (fun K hK => ?_)
            case refine_2 => intro W _; go_simp; try with_reducible rfl
            go_simp
            refine hK _ ?_; clear hK K
            refine wpQuiet_pure (v := ?_) (by kernel_rfl) ?_ (fun K hK => ?_)
            case refine_2 => intro W _; go_simp; try with_reducible rfl
            go_simp
            refine hK _ ?_; clear hK K
            refine wpQuiet_call (by kernel_rfl) _ _ _ (fun W => by go_simp) (fun W h => Calls.kept_of h (CO W h)) (fun K hK => ?_)
            go_simp
            refine hK _ ?_; clear hK K
            refine wpQuiet_pure (v := ?_) (by kernel_rfl) ?_ (fun K hK => ?_)
            case refine_2 => intro W _; go_simp; try with_reducible rfl
            go_simp
            refine hK _ ?_; clear hK K
            refine wpQuiet_nil ?_
            intro w1 hk1

            have e1 : w1.cell? ⟨wr.heap.size, 1, none⟩ = some (.int .i64 m) := by rw [cell_of_row _ _ _ _ _ _ (Kept.row hk1 HROW1.out)]; rfl
            have HKN : Hid (Kept W0 w1) := Lib.hid (HW01.out.then hk1)
            clear hk1 CO CL d1 d2 g1 g2 g5 hrow1
            go_wp2
            go_roundg (n - k1)
            case measure => omega
            case rel => exact ⟨k1, z1, by omega, rfl, by first | rfl | (congr 1; omega), HZ1, HZB1, Lib.hid (by have h3 := HST3.out; rw [HFR.out] at h3; exact h3), HKN⟩
        · rw [decide_eq_false hfit] at CL
          have HF := Lib.hid (HNF.out hfit)
          clear HST HNF HNM HSM HLT HTK hfit hst hm64 hzb
          go_wp2_with fail
          rw [← HW1.out]
          refine wp_region_kept (by kernel_rfl) (by kernel_rfl) ?_
          refine wpQuiet_load_row (by kernel_rfl) _ _ rfl wr.heap.size rfl 48 #[.int .i64 a, .int .i64 m] (0, 0) _ (fun _ h => h.row hrow1) Tryd.underlying48 rfl infoRnS (fun K hK => ?_)
          go_simp
          refine hK _ ?_; clear hK K
          refine wpQuiet_pure (v := ?_) (by kernel_rfl) ?_ (fun K hK => ?_)
          case refine_2 => intro W _; go_simp; try with_reducible rfl
          go_simp
          refine hK _ ?_; clear hK K
          refine wpQuiet_pure (v := ?_) (by kernel_rfl) ?_ (fun K hK => ?_)
          case refine_2 => intro W hW; have e0 := hW.cell g2; go_simp; try with_reducible rfl
          go_simp
          refine hK _ ?_; clear hK K
          refine wpQuiet_pure (v := ?_) (by kernel_rfl) ?_ (fun K hK => ?_)
          case refine_2 => intro W _; go_simp; try with_reducible rfl
          go_simp
          refine hK _ ?_; clear hK K
          refine wpQuiet_pure (v := ?_) (by kernel_rfl) ?_ (fun K hK => ?_)
          case refine_2 => intro W _; go_simp; try with_reducible rfl
          go_simp
          refine hK _ ?_; clear hK K
          refine wpQuiet_pure (v := ?_) (by kernel_rfl) ?_ (fun K hK => ?_)
          case refine_2 => intro W hW; have e0 := hW.cell g1; go_simp; try with_reducible rfl
          go_simp
          refine hK _ ?_; clear hK K
          refine wpQuiet_call (by kernel_rfl) _ _ _ (fun W => by go_simp) (fun W h => Calls.kept_of h (CL W)) (fun K hK => ?_)
          go_simp
          refine hK _ ?_; clear hK K
          refine wpQuiet_pure (v := ?_) (by kernel_rfl) ?_ (fun K hK => ?_)
          case refine_2 => intro W _; go_simp; try with_reducible rfl
          go_simp
          refine hK _ ?_; clear hK K
          refine wpQuiet_pure (v := ?_) (by kernel_rfl) ?_ (fun K hK => ?_)
          case refine_2 => intro W _; go_simp; try with_reducible rfl
          go_simp
          refine hK _ ?_; clear hK K
          go_big_quiet_skip
          go_big_quiet_skip
          go_big_quiet_skip
          go_big_quiet_skip
          go_big_quiet_skip
          go_big_quiet_skip
          refine wpQuiet_pure (v := ?_) (by kernel_rfl) ?_ (fun K hK => ?_)
          case refine_2 => intro W _; go_simp; try with_reducible rfl
          go_simp
          refine hK _ ?_; clear hK K
          refine wpQuiet_nil ?_
          intro w1 hk1

          go_wp2
          go_ret
          exact ⟨by rw [HF.out]; rfl, ((show Kept w W0 from HK0.out).then HW01.out).then hk1⟩
      · have hki : ¬ (k : Int) < n := by omega
        have bk : decide ((k : Int) < (n : Int)) = false := by simpa using hki
        obtain rfl : k = n := by omega
        have g4 : wr.cell? ⟨w.heap.size, 4, none⟩ = some (.int .i64 si) := by rw [cell_of_row _ _ _ _ _ _ hrow]; rfl
        have hsi := HNUM.out.2.2.2.2
        have CN := fun W => need_any si (by omega) W
        obtain ⟨nd, hnd⟩ : ∃ nd, nd = needN si := ⟨_, rfl⟩
        have HEQ : Hid (res = decide (z = nd)) := Lib.hid (by
          rw [HRES.out, hnd]
          have hz := HZ.out
          rw [List.take_of_length_le (by rw [← HN.out]; exact Nat.le_refl _)] at hz
          refine decide_eq_decide.2 ⟨fun y => by rw [hz]; exact y.2.2, fun y => ⟨by rw [← HN.out]; exact HN16.out, ?_, by rw [← hz]; exact y⟩⟩
          have hv := HV.out
          rw [HN.out] at hv
          exact hv)
        rw [← hnd] at CN
        have HKW : Hid (Kept w wr) := Lib.hid ((show Kept w W0 from HK0.out).then HK.out)
        clear hrow hnd hsi HZ HZB HV HK HFA HRES
        by_cases hz : z = nd
        · have bz : (z == nd) = true := by simpa using hz
          have HF : Hid (res = true) := Lib.hid (by rw [HEQ.out]; exact decide_eq_true hz)
          clear hz HEQ
          go_wp2_with (go_at_call 22; refine (CN _).mono ?_; rintro e w9 ⟨rfl, rfl⟩)
          go_ret
          exact ⟨by rw [HF.out]; rfl, HKW.out⟩
        · have bz : (z == nd) = false := by simpa using hz
          have HF : Hid (res = false) := Lib.hid (by rw [HEQ.out]; exact decide_eq_false hz)
          clear hz HEQ
          go_wp2_with (go_at_call 22; refine (CN _).mono ?_; rintro e w9 ⟨rfl, rfl⟩)
          go_ret
          exact ⟨by rw [HF.out]; rfl, HKW.out⟩

set_option maxRecDepth 100000 in
set_option maxHeartbeats 4000000 in
theorem checkOk : YCheckOk := by
  intro s v w h _
  obtain ⟨tv, rfl, hr, hwf⟩ := h
  obtain ⟨p, n, c, rfl⟩ := hr.sliced
  have hat : SbAt s (sbV s (.slice p n c)) w := ⟨_, rfl, hr, hwf⟩
  obtain ⟨W0, hW0⟩ : ∃ W0, W0 = w.alloc (.cells (sbC s (.slice p n c)) 25) := ⟨_, rfl⟩
  have hk0 : Kept w W0 := by rw [hW0]; exact box_below _ _
  have HROW : Hid (W0.heap[w.heap.size]? = some (.cells (sbC s (.slice p n c)) 25 (0, 0))) := Lib.hid (by rw [hW0]; exact heap_alloc_last w _)
  have CV := vnum_any s _ W0 (hat.later hk0)
  have CR : Hid (numP s → ∀ W, Kept W0 W → Calls Tryd.prog 32 #[sbV s (.slice p n c)] W fun e w' => e = .returned (.bool (decide (runsP s))) ∧ Below W.heap.size W w') := Lib.hid (fun hnum W k => vruns_any s _ W ((hat.later hk0).later k) hnum)
  have HK0 := Lib.hid hk0
  have hm := maySP_two s
  obtain ⟨res, hres⟩ : ∃ res, res = chkE s := ⟨_, rfl⟩
  have HRES : Hid (res = if decide (numP s ∧ runsP s) then 0 else 1) := Lib.hid (by rw [hres]; unfold chkE mayS; rw [decide_eq_decide.2 hm])
  rw [← hres]
  clear hat hk0 hr hwf hm hres
  obtain ⟨q, se, jo, us, si, rn⟩ := s
  unfold sbV sbC at *
  simp only at *
  have HW0 := Lib.hid hW0
  have cf : ∀ W, Kept W0 W → True := fun _ _ => trivial
  clear hW0 cf
  by_cases hnum : numP ⟨q, se, jo, us, si, rn⟩
  · rw [decide_eq_true hnum] at CV
    have CR2 := CR.out hnum
    by_cases hrun : runsP ⟨q, se, jo, us, si, rn⟩
    · rw [decide_eq_true hrun] at CR2
      obtain rfl : res = 0 := by rw [HRES.out, decide_eq_true ⟨hnum, hrun⟩]; rfl
      clear CR HRES hnum hrun
      go_enter Tryd.func12, Tryd.ntmps12
      go_wp2_with fail
      rw [← HW0.out]
      refine CV.mono ?_
      rintro e w1 ⟨rfl, hb1⟩
      have hrow := Kept.row hb1 HROW.out
      have g0 : w1.cell? ⟨w.heap.size, 0, none⟩ = some (.int .u64 q) := by rw [cell_of_row _ _ _ _ _ _ hrow]; rfl
      have g1 : w1.cell? ⟨w.heap.size, 1, none⟩ = some (.int .i64 se) := by rw [cell_of_row _ _ _ _ _ _ hrow]; rfl
      have g2 : w1.cell? ⟨w.heap.size, 2, none⟩ = some (.int .i64 jo) := by rw [cell_of_row _ _ _ _ _ _ hrow]; rfl
      have g3 : w1.cell? ⟨w.heap.size, 3, none⟩ = some (.int .i64 us) := by rw [cell_of_row _ _ _ _ _ _ hrow]; rfl
      have g4 : w1.cell? ⟨w.heap.size, 4, none⟩ = some (.int .i64 si) := by rw [cell_of_row _ _ _ _ _ _ hrow]; rfl
      have g5 : w1.cell? ⟨w.heap.size, 5, none⟩ = some (.slice p n c) := by rw [cell_of_row _ _ _ _ _ _ hrow]; rfl
      have HK1 := Lib.hid hb1
      clear hrow CV hb1
      go_wp2_with fail
      refine (CR2 w1 HK1.out).mono ?_
      rintro e w2 ⟨rfl, hb2⟩
      go_wp2
      go_ret
      exact ⟨rfl, (HK0.out.then HK1.out).then hb2⟩
    · rw [decide_eq_false hrun] at CR2
      obtain rfl : res = 1 := by rw [HRES.out, decide_eq_false (fun x => hrun x.2)]; rfl
      clear CR HRES hnum hrun
      go_enter Tryd.func12, Tryd.ntmps12
      go_wp2_with fail
      rw [← HW0.out]
      refine CV.mono ?_
      rintro e w1 ⟨rfl, hb1⟩
      have hrow := Kept.row hb1 HROW.out
      have g0 : w1.cell? ⟨w.heap.size, 0, none⟩ = some (.int .u64 q) := by rw [cell_of_row _ _ _ _ _ _ hrow]; rfl
      have g1 : w1.cell? ⟨w.heap.size, 1, none⟩ = some (.int .i64 se) := by rw [cell_of_row _ _ _ _ _ _ hrow]; rfl
      have g2 : w1.cell? ⟨w.heap.size, 2, none⟩ = some (.int .i64 jo) := by rw [cell_of_row _ _ _ _ _ _ hrow]; rfl
      have g3 : w1.cell? ⟨w.heap.size, 3, none⟩ = some (.int .i64 us) := by rw [cell_of_row _ _ _ _ _ _ hrow]; rfl
      have g4 : w1.cell? ⟨w.heap.size, 4, none⟩ = some (.int .i64 si) := by rw [cell_of_row _ _ _ _ _ _ hrow]; rfl
      have g5 : w1.cell? ⟨w.heap.size, 5, none⟩ = some (.slice p n c) := by rw [cell_of_row _ _ _ _ _ _ hrow]; rfl
      have HK1 := Lib.hid hb1
      clear hrow CV hb1
      go_wp2_with fail
      refine (CR2 w1 HK1.out).mono ?_
      rintro e w2 ⟨rfl, hb2⟩
      go_wp2
      go_ret
      exact ⟨rfl, (HK0.out.then HK1.out).then hb2⟩
  · rw [decide_eq_false hnum] at CV
    obtain rfl : res = 1 := by rw [HRES.out, decide_eq_false (fun x => hnum x.1)]; rfl
    clear CR HRES hnum
    go_enter Tryd.func12, Tryd.ntmps12
    go_wp2_with fail
    rw [← HW0.out]
    refine CV.mono ?_
    rintro e w1 ⟨rfl, hb1⟩
    have HK1 := Lib.hid hb1
    clear CV hb1
    go_wp2
    go_ret
    exact ⟨rfl, HK0.out.then HK1.out⟩

end Go.Proofs.YtlfmmhalheohdaaDoor
namespace Go.Proofs.YtlfmmhalheohdaaDoor
open Go.RowKit

set_option maxRecDepth 100000 in
set_option maxHeartbeats 1000000 in
/-- Are two lists the same? -/
theorem sequal_any (la lb : List (Int × Int)) (u v : Value) (w : World) (ha : RunsAt la u w) (hb : RunsAt lb v w) (hla : la.length ≤ 1048576) :
    Calls Tryd.prog 33 #[u, v] w fun e w' => e = .returned (.bool (decide (la = lb))) ∧ Below w.heap.size w w' := by
  obtain ⟨pa, ca, rfl, -, hca⟩ := ha.out
  obtain ⟨pb, cb, rfl, -, hcb⟩ := hb.out
  by_cases hlen : la.length = lb.length
  · have b1 : ((la.length : Int) != (lb.length : Int)) = false := by rw [bne_eq_false_iff_eq]; omega
    have HCA := Lib.hid hca
    have HCB := Lib.hid hcb
    have HLEN := Lib.hid hlen
    obtain ⟨n, hn⟩ : ∃ n, n = la.length := ⟨_, rfl⟩
    have hm : lb.length = n := by omega
    rw [← hn] at b1 hla ⊢
    rw [hm] at b1 ⊢
    have HN := Lib.hid hn
    clear ha hb hca hcb hlen hn hm
    go_enter Tryd.func33, Tryd.ntmps33
    go_wp2
    go_loopg [13] n (fun gh s5 wx => ∃ k : Nat, k + gh = n ∧ s5 = .int .i64 k ∧ Hid (la.take k = lb.take k) ∧ Hid (Kept w wx))
    case atStart => exact ⟨0, by omega, rfl, Lib.hid rfl, Lib.hid (Kept.refl w)⟩
    case round =>
      obtain ⟨k, hk, rfl, HE, HK⟩ := hrel
      by_cases hkn : k < n
      · have hki : (k : Int) < n := by omega
        have bk : decide ((k : Int) < (n : Int)) = true := by simpa using hki
        have hki0 : (0 : Int) ≤ k := by omega
        have hka : k < la.length := by rw [← HN.out]; exact hkn
        have hkb : k < lb.length := by rw [← HLEN.out]; exact hka
        rcases HCA.out with h0 | ⟨ba, oa, rfl, hcella⟩
        · omega
        rcases HCB.out with h0 | ⟨bb, ob, rfl, hcellb⟩
        · omega
        have d1 := HK.out.cell (hcella k hka).1
        have d2 := HK.out.cell (hcella k hka).2
        have d3 := HK.out.cell (hcellb k hkb).1
        have d4 := HK.out.cell (hcellb k hkb).2
        have hne := neq_run la[k].1 la[k].2 lb[k].1 lb[k].2
        have htk := List.take_succ_eq_append_getElem hka
        have htl := List.take_succ_eq_append_getElem hkb
        have hd : (decide (la[k].1 = lb[k].1) && decide (la[k].2 = lb[k].2)) = decide (la[k] = lb[k]) := by
          rw [Bool.eq_iff_iff]; simp only [Bool.and_eq_true, decide_eq_true_eq, Prod.ext_iff]
        rw [hd] at hne
        obtain ⟨a1, ha1⟩ : ∃ a1, a1 = la[k].1 := ⟨_, rfl⟩
        obtain ⟨a2, ha2⟩ : ∃ a2, a2 = la[k].2 := ⟨_, rfl⟩
        obtain ⟨b1', hb1⟩ : ∃ b1', b1' = lb[k].1 := ⟨_, rfl⟩
        obtain ⟨b2', hb2⟩ : ∃ b2', b2' = lb[k].2 := ⟨_, rfl⟩
        rw [← ha1] at d1 hne
        rw [← ha2] at d2 hne
        rw [← hb1] at d3 hne
        rw [← hb2] at d4 hne
        obtain ⟨k1, hk1⟩ : ∃ k1, k1 = k + 1 := ⟨_, rfl⟩
        have v1 : IntKind.i64.wrap ((k : Int) + 1) = (k1 : Int) := by rw [show (k : Int) + 1 = (k1 : Int) by omega]; exact IntWalk.i64_in _ (by omega)
        by_cases heq : la[k] = lb[k]
        · have hnx : Hid (la.take k1 = lb.take k1) := Lib.hid (by rw [hk1, htk, htl, HE.out, heq])
          rw [decide_eq_true heq, Bool.not_true] at hne
          have HK2 : Hid (∀ j, Kept w (wr.drewN j)) := Lib.hid (fun j => HK.out.then (below_drewN (Below.refl _ wr) j))
          clear ha1 ha2 hb1 hb2 hd htk htl heq hcella hcellb
          go_wp2
          go_quiet (fail)
          go_wp2
          go_roundg (n - k1)
          case measure => omega
          case rel => exact ⟨k1, by omega, by first | rfl | (congr 1; omega), hnx, Lib.hid (HK2.out _)⟩
        · have hne2 : Hid (decide (la = lb) = false) := Lib.hid (decide_eq_false (fun e => heq (by subst e; rfl)))
          rw [decide_eq_false heq, Bool.not_false] at hne
          have HK2 : Hid (∀ j, Kept w (wr.drewN j)) := Lib.hid (fun j => HK.out.then (below_drewN (Below.refl _ wr) j))
          clear ha1 ha2 hb1 hb2 hd htk htl heq hcella hcellb
          go_wp2
          go_quiet (fail)
          go_wp2
          go_ret
          exact ⟨by rw [hne2.out]; rfl, HK2.out _⟩
      · have hki : ¬ (k : Int) < n := by omega
        have bk : decide ((k : Int) < (n : Int)) = false := by simpa using hki
        have hee : Hid (decide (la = lb) = true) := Lib.hid (decide_eq_true (by
          have h := HE.out
          rw [List.take_of_length_le (by rw [← HN.out]; omega), List.take_of_length_le (by rw [← HLEN.out, ← HN.out]; omega)] at h
          exact h))
        go_wp2
        go_ret
        exact ⟨by rw [hee.out]; rfl, HK.out⟩
  · have b1 : ((la.length : Int) != (lb.length : Int)) = true := by rw [bne_iff_ne]; omega
    have hne2 : Hid (decide (la = lb) = false) := Lib.hid (decide_eq_false (fun e => hlen (by rw [e])))
    obtain ⟨n, hn⟩ : ∃ n, n = la.length := ⟨_, rfl⟩
    obtain ⟨m, hm⟩ : ∃ m, m = lb.length := ⟨_, rfl⟩
    rw [← hn, ← hm] at b1 ⊢
    clear ha hb hca hcb hlen hn hm hla
    go_enter Tryd.func33, Tryd.ntmps33
    go_wp2
    go_ret
    exact ⟨by rw [hne2.out]; rfl, Below.refl _ _⟩


set_option maxRecDepth 100000 in
set_option maxHeartbeats 4000000 in
theorem ssame_any (s o : Sb) (u v : Value) (w : World) (h : SbAt s u w) (k : SbAt o v w) (hl : s.runs.length ≤ 1048576) :
    Calls Tryd.prog 13 #[u, v] w fun e w' => e = .returned (.bool (decide (s = o))) ∧ Below w.heap.size w w' := by
  obtain ⟨tu, rfl, hr, -⟩ := h
  obtain ⟨tv, rfl, kr, -⟩ := k
  obtain ⟨q, se, jo, us, si, rn⟩ := s
  obtain ⟨q', se', jo', us', si', rn'⟩ := o
  simp only at hr kr hl
  obtain ⟨p, c, htu, -, -⟩ := hr.out
  obtain ⟨p', c', htv, -, -⟩ := kr.out
  subst htu htv
  have HR := Lib.hid hr
  have KR := Lib.hid kr
  obtain ⟨res, hres⟩ : ∃ res, res = decide ((⟨q, se, jo, us, si, rn⟩ : Sb) = ⟨q', se', jo', us', si', rn'⟩) := ⟨_, rfl⟩
  have HRES := Lib.hid hres
  rw [← hres]
  have HFA : Hid (¬ (q = q' ∧ se = se' ∧ jo = jo' ∧ us = us' ∧ si = si' ∧ rn = rn') → res = false) := Lib.hid (fun x => by rw [hres]; exact decide_eq_false (fun y => x ((Sb.ext_iff' _ _).1 y)))
  have HTR : Hid (q = q' → se = se' → jo = jo' → us = us' → si = si' → res = decide (rn = rn')) := Lib.hid (fun h0 h1 h2 h3 h4 => by
    rw [hres]; refine decide_eq_decide.2 ⟨fun y => ((Sb.ext_iff' _ _).1 y).2.2.2.2.2, fun y => (Sb.ext_iff' _ _).2 ⟨h0, h1, h2, h3, h4, y⟩⟩)
  clear hres
  unfold sbV sbC
  simp only
  obtain ⟨n, hn⟩ : ∃ n, n = rn.length := ⟨_, rfl⟩
  obtain ⟨n', hn'⟩ : ∃ n', n' = rn'.length := ⟨_, rfl⟩
  rw [← hn] at HR ⊢
  rw [← hn'] at KR ⊢
  have HN := Lib.hid hn
  clear hr kr hn hn'
  have HKA : ∀ A B : Array Value, Hid (Kept w ((w.alloc (.cells A 25)).alloc (.cells B 25))) := fun A B => Lib.hid ((show Kept w _ from box_below w _).then (box_below _ _))
  by_cases c0 : q = q'
  case neg =>
    have b0 : ((q : Int) == (q' : Int)) = false := by rw [beq_eq_false_iff_ne]; omega
    have HF : Hid (res = false) := Lib.hid (HFA.out (fun y => c0 y.1))
    clear c0 HFA HTR HR KR HN HRES hl
    go_enter Tryd.func13, Tryd.ntmps13
    go_wp2
    go_ret
    exact ⟨by rw [HF.out]; rfl, (HKA _ _).out⟩
  obtain rfl := c0
  by_cases c1 : se = se'
  case neg =>
    have b1 : ((se : Int) == (se' : Int)) = false := by rw [beq_eq_false_iff_ne]; omega
    have HF : Hid (res = false) := Lib.hid (HFA.out (fun y => c1 y.2.1))
    clear c1 HFA HTR HR KR HN HRES hl
    go_enter Tryd.func13, Tryd.ntmps13
    go_wp2
    go_ret
    exact ⟨by rw [HF.out]; rfl, (HKA _ _).out⟩
  obtain rfl := c1
  by_cases c2 : jo = jo'
  case neg =>
    have b2 : ((jo : Int) == (jo' : Int)) = false := by rw [beq_eq_false_iff_ne]; omega
    have HF : Hid (res = false) := Lib.hid (HFA.out (fun y => c2 y.2.2.1))
    clear c2 HFA HTR HR KR HN HRES hl
    go_enter Tryd.func13, Tryd.ntmps13
    go_wp2
    go_ret
    exact ⟨by rw [HF.out]; rfl, (HKA _ _).out⟩
  obtain rfl := c2
  by_cases c3 : us = us'
  case neg =>
    have b3 : ((us : Int) == (us' : Int)) = false := by rw [beq_eq_false_iff_ne]; omega
    have HF : Hid (res = false) := Lib.hid (HFA.out (fun y => c3 y.2.2.2.1))
    clear c3 HFA HTR HR KR HN HRES hl
    go_enter Tryd.func13, Tryd.ntmps13
    go_wp2
    go_ret
    exact ⟨by rw [HF.out]; rfl, (HKA _ _).out⟩
  obtain rfl := c3
  by_cases c4 : si = si'
  case neg =>
    have b4 : ((si : Int) == (si' : Int)) = false := by rw [beq_eq_false_iff_ne]; omega
    have HF : Hid (res = false) := Lib.hid (HFA.out (fun y => c4 y.2.2.2.2.1))
    clear c4 HFA HTR HR KR HN HRES hl
    go_enter Tryd.func13, Tryd.ntmps13
    go_wp2
    go_ret
    exact ⟨by rw [HF.out]; rfl, (HKA _ _).out⟩
  obtain rfl := c4
  have CS := fun W (k : Kept w W) => sequal_any rn rn' _ _ W (HR.out.later k) (KR.out.later k) hl
  have HF := Lib.hid (HTR.out rfl rfl rfl rfl rfl)
  clear HFA HTR HR KR HN HRES hl
  go_enter Tryd.func13, Tryd.ntmps13
  go_wp2_with (go_at_call 33; refine (CS _ (HKA _ _).out).mono ?_; rintro e w9 ⟨rfl, hb9⟩)
  go_ret
  exact ⟨by rw [HF.out]; rfl, (show Kept w _ from (HKA _ _).out).then hb9⟩

set_option maxRecDepth 100000 in
set_option maxHeartbeats 1000000 in
theorem sclone_some (a : Addr) (c : Nat) (l : List (Int × Int)) (hs : l.length ≤ 1048576) (w : World) (h : RunsAt l (.slice (some a) l.length c) w) :
    Calls Tryd.prog 42 #[.slice (some a) l.length c] w fun e w' => ∃ v', e = .returned v' ∧ OwnRuns w.heap.size l v' w' ∧ Below w.heap.size w w' := by
  obtain ⟨ir, hir, hx⟩ := Option.map_eq_some_iff.1 infoRn
  simp only [Prod.mk.injEq] at hx
  obtain ⟨hz0, hz1, hz2⟩ := hx
  have HIR := Lib.hid hir
  have HZ0 := Lib.hid hz0
  have HZ1 := Lib.hid hz1
  have HZ2 := Lib.hid hz2
  have q22 : ∀ (w : World) (a : Option Addr) (n c n' c' : Nat), (binOp .eql 23 (.slice a n c) (.slice none n' c')).run Tryd.prog w = .ok (.bool a.isNone) w := fun w a n c n' c' => Lib.run_eql_slice_nil w _ _ a n c n' c' Tryd.underlying23
  have HF : Hid (FlatAt 2 l.length (runC l) (.slice (some a) l.length c) (w.alloc (.cells #[] 48))) := Lib.hid (h.at_.later (box_below w _))
  have HK1 := Lib.hid (box_below w (.cells #[] 48))
  obtain ⟨n, hn⟩ : ∃ n, n = l.length := ⟨_, rfl⟩
  have HN := Lib.hid hn
  rw [← hn] at hs HF ⊢
  clear hn h hir hz0 hz1 hz2
  go_enter Tryd.func42, Tryd.ntmps42
  go_wp2_with (at_builtin; refine wpList_append_flat rfl _ _ 23 rfl w.heap.size 48 ir (.agg #[.int .i64 0, .int .i64 0]) 2 16 Tryd.underlying23 HIR.out HZ0.out HZ1.out HZ2.out rfl (by decide) _ _ _ rfl (World.ownsRow_made w #[] 0 (Nat.le_refl _) (Nat.zero_le _) (by simp)) _ n (runC l) rfl HF.out ?wa1 ?wa2 ?wa3 ?_)
  case wa1 => unfold maxLen; omega
  case wa2 => omega
  try case wa3 => simp
  intro v1 w1 hown1 hgr1 _
  have K2 : Kept w w1 := Below.grown (show Kept w _ from HK1.out) hgr1 (by simp) (fun j hj => by
    have h2 : (Value.slice (some ⟨w.heap.size, 0, none⟩) 0 0).ownBlock = some j := hj
    have h3 := Option.some.inj h2
    exact Nat.le_of_eq h3)
  have HO1 : Hid (w1.ownsRow w.heap.size 48 2 v1 n (runC l)) := Lib.hid (by simpa using hown1)
  clear hown1 hgr1
  go_wp2
  go_ret
  exact ⟨_, rfl, by show w1.ownsRow _ _ _ _ l.length _; rw [← HN.out]; exact HO1.out, K2⟩

set_option maxRecDepth 100000 in
theorem sclone_none (n c : Nat) (w : World) :
    Calls Tryd.prog 42 #[.slice none n c] w fun e w' => e = .returned (.slice none 0 0) ∧ w = w' := by
  have q22 : ∀ (w : World) (a : Option Addr) (n c n' c' : Nat), (binOp .eql 23 (.slice a n c) (.slice none n' c')).run Tryd.prog w = .ok (.bool a.isNone) w := fun w a n c n' c' => Lib.run_eql_slice_nil w _ _ a n c n' c' Tryd.underlying23
  go_enter Tryd.func42, Tryd.ntmps42
  go_wp2
  go_ret
  exact ⟨rfl, rfl⟩

/-- slices.Clone of any slice of runs. -/
theorem sclone_any (v : Value) (l : List (Int × Int)) (hs : l.length ≤ 1048576) (w : World) (h : RunsAt l v w) :
    Calls Tryd.prog 42 #[v] w fun e w' => ∃ v', e = .returned v' ∧ OwnRuns w.heap.size l v' w' ∧ Below w.heap.size w w' := by
  obtain ⟨p, c, rfl, -, hc⟩ := h.out
  cases p with
  | some a => exact sclone_some a c l hs w h
  | none =>
    have h0 : l = [] := by
      rcases hc with h0 | ⟨b, off, h0, _⟩
      · exact List.eq_nil_of_length_eq_zero h0
      · cases h0
    subst h0
    refine (sclone_none _ c w).mono ?_
    rintro e w' ⟨he, rfl⟩
    exact ⟨_, he, World.ownsRow_nil _ _ _ _, Below.refl _ _⟩


theorem sameOk : YSameOk := fun s o u v w h k hl _ => ssame_any s o u v w h k (by omega)


set_option maxRecDepth 100000 in
set_option maxHeartbeats 8000000 in
theorem nextOk : YNextOk := by
  intro s v w h hl
  obtain ⟨tv, rfl, hr, hwf⟩ := h
  obtain ⟨p, n, c, rfl⟩ := hr.sliced
  obtain ⟨q, se, jo, us, si, rn⟩ := s
  simp only at hr hl
  obtain ⟨q1, hq1⟩ : ∃ q1, q1 = (q + 1) % 2 ^ 64 := ⟨_, rfl⟩
  have vq : IntKind.u64.wrap ((q : Int) + 1) = (q1 : Int) := by
    rw [hq1]
    simp only [IntKind.wrap, IntKind.bits, IntKind.signed]
    simp
  have HW2 : Hid ((nextS ⟨q, se, jo, us, si, rn⟩).wf) := Lib.hid (nextS_wf hwf)
  have HNX : Hid (nextS ⟨q, se, jo, us, si, rn⟩ = ⟨q1, se, jo, us, si, rn⟩) := Lib.hid (by unfold nextS; rw [hq1])
  unfold sbV sbC
  simp only
  have HR := Lib.hid hr
  have CC := fun W (k : Kept w W) => sclone_any (.slice p n c) rn (by omega) W (hr.later k)
  obtain ⟨W1, hW1⟩ : ∃ W1, W1 = (w.alloc (.cells #[.int .u64 q1, .int .i64 se, .int .i64 jo, .int .i64 us, .int .i64 si, .slice p n c] 25)).alloc (.cells #[.int .u64 0, .int .i64 0, .int .i64 0, .int .i64 0, .int .i64 0, .slice none 0 0] 25) := ⟨_, rfl⟩
  have hk1 : Kept w W1 := by rw [hW1]; exact (show Kept w _ from box_below w _).then (box_below _ _)
  have hr1 : W1.heap[w.heap.size]? = some (.cells #[.int .u64 q1, .int .i64 se, .int .i64 jo, .int .i64 us, .int .i64 si, .slice p n c] 25 (0, 0)) := by rw [hW1]; exact heap_alloc2_old w _ _
  have hr2 : W1.heap[w.heap.size + 1]? = some (.cells #[.int .u64 0, .int .i64 0, .int .i64 0, .int .i64 0, .int .i64 0, .slice none 0 0] 25 (0, 0)) := by rw [hW1]; exact heap_alloc2_new w _ _
  have HK1 := Lib.hid hk1
  have HR1 := Lib.hid hr1
  have HR2 := Lib.hid hr2
  have HW1 := Lib.hid hW1
  clear hr hl hq1 hk1 hr1 hr2 hW1 hwf
  go_enter Tryd.func20, Tryd.ntmps20
  go_wp2_with fail
  first | rw [← HW1.out] | (trace_state; fail)
  refine (CC _ HK1.out).mono ?_
  rintro e w2 ⟨v', rfl, hown, hb⟩
  obtain ⟨p', c', rfl, hc', hcell'⟩ := own_slice hown
  obtain ⟨m, hm⟩ : ∃ m, m = rn.length := ⟨_, rfl⟩
  have hrow1 := Kept.row hb HR1.out
  have hrow2 := Kept.row hb HR2.out
  have c0 : w2.cell? ⟨w.heap.size, 0, none⟩ = some (.int .u64 q1) := by rw [cell_of_row _ _ _ _ _ _ hrow1]; rfl
  have d0 : w2.cell? ⟨w.heap.size + 1, 0, none⟩ = some (.int .u64 0) := by rw [cell_of_row _ _ _ _ _ _ hrow2]; rfl
  have f0 := frozen_of_row w2 (w.heap.size + 1) 0 _ _ hrow2
  have c1 : w2.cell? ⟨w.heap.size, 1, none⟩ = some (.int .i64 se) := by rw [cell_of_row _ _ _ _ _ _ hrow1]; rfl
  have d1 : w2.cell? ⟨w.heap.size + 1, 1, none⟩ = some (.int .i64 0) := by rw [cell_of_row _ _ _ _ _ _ hrow2]; rfl
  have f1 := frozen_of_row w2 (w.heap.size + 1) 1 _ _ hrow2
  have c2 : w2.cell? ⟨w.heap.size, 2, none⟩ = some (.int .i64 jo) := by rw [cell_of_row _ _ _ _ _ _ hrow1]; rfl
  have d2 : w2.cell? ⟨w.heap.size + 1, 2, none⟩ = some (.int .i64 0) := by rw [cell_of_row _ _ _ _ _ _ hrow2]; rfl
  have f2 := frozen_of_row w2 (w.heap.size + 1) 2 _ _ hrow2
  have c3 : w2.cell? ⟨w.heap.size, 3, none⟩ = some (.int .i64 us) := by rw [cell_of_row _ _ _ _ _ _ hrow1]; rfl
  have d3 : w2.cell? ⟨w.heap.size + 1, 3, none⟩ = some (.int .i64 0) := by rw [cell_of_row _ _ _ _ _ _ hrow2]; rfl
  have f3 := frozen_of_row w2 (w.heap.size + 1) 3 _ _ hrow2
  have c4 : w2.cell? ⟨w.heap.size, 4, none⟩ = some (.int .i64 si) := by rw [cell_of_row _ _ _ _ _ _ hrow1]; rfl
  have d4 : w2.cell? ⟨w.heap.size + 1, 4, none⟩ = some (.int .i64 0) := by rw [cell_of_row _ _ _ _ _ _ hrow2]; rfl
  have f4 := frozen_of_row w2 (w.heap.size + 1) 4 _ _ hrow2
  have c5 : w2.cell? ⟨w.heap.size, 5, none⟩ = some (.slice p n c) := by rw [cell_of_row _ _ _ _ _ _ hrow1]; rfl
  have d5 : w2.cell? ⟨w.heap.size + 1, 5, none⟩ = some (.slice none 0 0) := by rw [cell_of_row _ _ _ _ _ _ hrow2]; rfl
  have f5 := frozen_of_row w2 (w.heap.size + 1) 5 _ _ hrow2
  have f15 := frozen_of_row w2 w.heap.size 5 _ _ hrow1
  have hrow2' : (w2.setCell ⟨w.heap.size, 5, none⟩ (.slice p' m c')).heap[w.heap.size + 1]? = some (.cells #[.int .u64 0, .int .i64 0, .int .i64 0, .int .i64 0, .int .i64 0, .slice none 0 0] 25 (0, 0)) := by rw [heap_setCell_other _ _ _ _ (by dsimp only; omega)]; exact hrow2
  have HROW := Lib.hid hrow2'
  have HKW : Hid (Kept w (w2.setCell ⟨w.heap.size, 5, none⟩ (.slice p' m c'))) := Lib.hid (below_touch (HK1.out.then hb) (grown_set _ _ _ _) (HK1.out.then hb).size (Nat.le_refl _))
  have hapart : ∀ k, (Value.slice p' m c').ownBlock = some k → W1.heap.size ≤ k := fun k hk => (hown.lt k (by rw [← hm]; exact hk)).1
  have HSZ : Hid (w.heap.size + 1 < W1.heap.size) := Lib.hid (Array.getElem?_eq_some_iff.1 HR2.out).1
  have HOWN : Hid (OwnRuns W1.heap.size rn (.slice p' m c') w2) := Lib.hid (by rw [hm]; exact hown)
  have HAP := Lib.hid hapart
  rw [← hm]
  clear hown hcell' hc' hm hrow1 hrow2 hrow2' hapart hb CC
  go_wp2
  refine bodyPost_ret (results_cell_row Tryd.results20 _ _ (w.heap.size + 1) 25 #[.int .u64 q1, .int .i64 se, .int .i64 jo, .int .i64 us, .int .i64 si, .slice p' m c'] (0, 0) _ rfl (set6_row HROW.out _ _ _ _ _ _) Tryd.underlying25 rfl infoSb) rfl ⟨⟨_, rfl, ?_⟩, below_set6 HKW.out (by omega) _ _ _ _ _ _⟩
  rw [HNX.out]
  refine ⟨_, rfl, ?_, by rw [← HNX.out]; exact HW2.out⟩
  refine OwnRuns.at_ (B := W1.heap.size) ?_ HR.out.wf
  refine own_stay HOWN.out (fun k hk => ?_)
  have hk1 := HAP.out k hk
  have hs := HSZ.out
  rw [heap_setCell_other _ _ _ _ (by dsimp only; omega), heap_setCell_other _ _ _ _ (by dsimp only; omega), heap_setCell_other _ _ _ _ (by dsimp only; omega), heap_setCell_other _ _ _ _ (by dsimp only; omega), heap_setCell_other _ _ _ _ (by dsimp only; omega), heap_setCell_other _ _ _ _ (by dsimp only; omega), heap_setCell_other _ _ _ _ (by dsimp only; omega)]

end Go.Proofs.YtlfmmhalheohdaaDoor
