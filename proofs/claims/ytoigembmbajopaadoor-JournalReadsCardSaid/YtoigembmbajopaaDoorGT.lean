/- The landed journal's fieldsOf, lies, overlap, and the search for an overlap. The landed journal's fit: runs that lie where they may, apart, of so many sectors. The landed journal's Check: validKey, validBlob. -/
import Derived.Test.YtoigembmbajopaaDoorGE
import Derived.Test.YtoigembmbajopaaDoorGS
namespace Go.Proofs.YtoigembmbajopaaDoor
open Go.RowKit

/-- What fieldsOf tells of a kind. -/
def fldC (a b c : Bool) : Array Value := #[.bool a, .bool b, .bool c]
def fldV (k : Int) : Value := .agg (fldC (idK k) (nameK k) (blobK k))
theorem infoFld : (Tryd.prog.info? 78).map (·.size) = some 3 := by kernel_rfl
theorem all3 (a b c : Bool) : (#[.bool a, .bool b, .bool c] : Array Value).all (·.oneCell') = true := by simp [Value.oneCell']
theorem wpList_store_namedP {P : Program} {ops : Array Oper} {rest : List Oper} {o : Oper} {a : Act} {w : World} {Q : Exit → Act → World → Prop} (hgd : o.guard = none) (ty : TypeId) (x y : Operand) (ho : o.op = .store ty x y)
    (g : Nat) (X : Array Value) (hx : a.eval x = .pointer (some ⟨g, 0, none⟩)) (hy : a.eval y = .agg X) (t : TypeId) (old : Array Value) (hg : w.heap[g]? = some (.cells old t (0, 0))) (hi : (P.info? ty).map (·.size) = some X.size)
    (hold : old.size = X.size) (h1 : X.all (·.oneCell') = true) (W : World) (hW : W = w.setRow g X) (h : wpList P ops Q rest (a.put o.dst undef) W) : wpList P ops Q (o :: rest) a w := by
  subst hW
  exact wpList_store_row hgd ty x y ho g X hx hy t old hg hi hold h1 h
theorem setRow_kept {w W WE : World} {X : Array Value} (h : Kept w W) (hW : WE = W.setRow w.heap.size X) : Kept w WE := by
  subst hW
  exact ⟨h.os, h.tape, h.output, by rw [setRow_size]; exact h.size, fun k hk => by rw [setRow_other _ _ _ _ (by omega)]; exact h.block k hk⟩

set_option maxRecDepth 100000 in
set_option maxHeartbeats 4000000 in
theorem fieldsOf_any (k : Int) (w : World) :
    Calls Tryd.prog 42 #[.int .i64 k] w fun e w' => e = .returned (fldV k) ∧ Kept w w' := by
  by_cases h1 : k = 1
  · subst h1
    go_enter Tryd.func42, Tryd.ntmps42
    go_wp2
    refine bodyPost_ret (results_cell_row Tryd.results42 _ _ w.heap.size 78 #[.bool true, .bool false, .bool true] (0, 0) _ rfl (heap_alloc_last w _) Tryd.underlying78 rfl infoFld) rfl ⟨rfl, box_below _ _⟩
  by_cases h2 : k = 2
  · subst h2
    go_enter Tryd.func42, Tryd.ntmps42
    go_wp2
    refine bodyPost_ret (results_cell_row Tryd.results42 _ _ w.heap.size 78 #[.bool true, .bool false, .bool true] (0, 0) _ rfl (heap_alloc_last w _) Tryd.underlying78 rfl infoFld) rfl ⟨rfl, box_below _ _⟩
  by_cases h3 : k = 3
  · subst h3
    go_enter Tryd.func42, Tryd.ntmps42
    go_wp2
    refine bodyPost_ret (results_cell_row Tryd.results42 _ _ w.heap.size 78 #[.bool false, .bool true, .bool true] (0, 0) _ rfl (heap_alloc_last w _) Tryd.underlying78 rfl infoFld) rfl ⟨rfl, box_below _ _⟩
  by_cases h4 : k = 4
  · subst h4
    go_enter Tryd.func42, Tryd.ntmps42
    go_wp2
    refine bodyPost_ret (results_cell_row Tryd.results42 _ _ w.heap.size 78 #[.bool true, .bool false, .bool false] (0, 0) _ rfl (heap_alloc_last w _) Tryd.underlying78 rfl infoFld) rfl ⟨rfl, box_below _ _⟩
  by_cases h5 : k = 5
  · subst h5
    go_enter Tryd.func42, Tryd.ntmps42
    go_wp2
    refine bodyPost_ret (results_cell_row Tryd.results42 _ _ w.heap.size 78 #[.bool true, .bool false, .bool false] (0, 0) _ rfl (heap_alloc_last w _) Tryd.underlying78 rfl infoFld) rfl ⟨rfl, box_below _ _⟩
  by_cases h6 : k = 6
  · subst h6
    go_enter Tryd.func42, Tryd.ntmps42
    go_wp2
    refine bodyPost_ret (results_cell_row Tryd.results42 _ _ w.heap.size 78 #[.bool false, .bool true, .bool false] (0, 0) _ rfl (heap_alloc_last w _) Tryd.underlying78 rfl infoFld) rfl ⟨rfl, box_below _ _⟩
  have e1 : (k == 1) = false := by simpa using h1
  have e2 : (k == 2) = false := by simpa using h2
  have e3 : (k == 3) = false := by simpa using h3
  have e4 : (k == 4) = false := by simpa using h4
  have e5 : (k == 5) = false := by simpa using h5
  have e6 : (k == 6) = false := by simpa using h6
  have HI : Hid (fldV k = .agg #[.bool false, .bool false, .bool false]) := Lib.hid (by unfold fldV fldC idK nameK blobK; rw [e1, e2, e3, e4, e5, e6]; rfl)
  clear h1 h2 h3 h4 h5 h6
  go_enter Tryd.func42, Tryd.ntmps42
  go_wp2
  refine bodyPost_ret (results_cell_row Tryd.results42 _ _ w.heap.size 78 #[.bool false, .bool false, .bool false] (0, 0) _ rfl (heap_alloc_last w _) Tryd.underlying78 rfl infoFld) rfl ⟨by rw [HI.out], box_below _ _⟩

set_option maxRecDepth 100000 in
set_option maxHeartbeats 1000000 in
/-- Does a run lie where it may? -/
theorem jlies_any (a n : Int) (ha : I64 a) (hn : I64 n) (w : World) :
    Calls Tryd.prog 105 #[.agg #[.int .i64 a, .int .i64 n]] w fun e w' => e = .returned (.bool (decide (fitR 0 8192 (a, n)))) ∧ Below w.heap.size w w' := by
  have ha1 := ha.1
  have ha2 := ha.2
  have hn1 := hn.1
  have hn2 := hn.2
  obtain ⟨r, hr⟩ : ∃ r, r = decide (fitR 0 8192 (a, n)) := ⟨_, rfl⟩
  rw [← hr]
  unfold fitR at hr
  simp only at hr
  by_cases h1 : a ≥ 0
  · by_cases h2 : n ≥ 1
    · obtain ⟨d, hd⟩ : ∃ d, d = 8192 - a := ⟨_, rfl⟩
      have v1 : IntKind.i64.wrap (8192 - a) = d := by rw [← hd]; exact IntWalk.i64_in _ (by omega)
      by_cases h3 : n ≤ d
      · obtain rfl : r = true := by rw [hr]; exact decide_eq_true ⟨h1, h2, by omega⟩
        have b3 : decide (n ≤ d) = true := decide_eq_true h3
        clear hr hd ha hn ha1 ha2 hn1 hn2
        go_enter Tryd.func105, Tryd.ntmps105
        go_wp2
        go_ret
        exact ⟨rfl, box_below _ _⟩
      · obtain rfl : r = false := by rw [hr]; exact decide_eq_false (fun y => h3 (by omega))
        have b3 : decide (n ≤ d) = false := decide_eq_false h3
        clear hr hd ha hn ha1 ha2 hn1 hn2
        go_enter Tryd.func105, Tryd.ntmps105
        go_wp2
        go_ret
        exact ⟨rfl, box_below _ _⟩
    · obtain rfl : r = false := by rw [hr]; exact decide_eq_false (fun y => h2 y.2.1)
      clear hr ha hn ha1 ha2 hn1 hn2
      go_enter Tryd.func105, Tryd.ntmps105
      go_wp2
      go_ret
      exact ⟨rfl, box_below _ _⟩
  · obtain rfl : r = false := by rw [hr]; exact decide_eq_false (fun y => h1 y.1)
    clear hr ha hn ha1 ha2 hn1 hn2
    go_enter Tryd.func105, Tryd.ntmps105
    go_wp2
    go_ret
    exact ⟨rfl, box_below _ _⟩

set_option maxRecDepth 100000 in
set_option maxHeartbeats 1000000 in
theorem joverlap_any (r o : Int × Int) (hr : smallR r) (ho : smallR o) (w : World) :
    Calls Tryd.prog 108 #[.agg #[.int .i64 r.1, .int .i64 r.2], .agg #[.int .i64 o.1, .int .i64 o.2]] w fun e w' => e = .returned (.bool (meetR r o)) ∧ Below w.heap.size w w' := by
  obtain ⟨a, m⟩ := r
  obtain ⟨x, y⟩ := o
  unfold smallR at hr ho
  simp only at hr ho
  obtain ⟨res, hres⟩ : ∃ res, res = meetR (a, m) (x, y) := ⟨_, rfl⟩
  have HRES : Hid (res = (decide (a < x + y) && decide (x < a + m))) := Lib.hid hres
  rw [← hres]
  simp only
  obtain ⟨s1, hs1⟩ : ∃ s1, s1 = x + y := ⟨_, rfl⟩
  obtain ⟨s2, hs2⟩ : ∃ s2, s2 = a + m := ⟨_, rfl⟩
  have v1 : IntKind.i64.wrap (x + y) = s1 := by rw [← hs1]; exact IntWalk.i64_in _ (by omega)
  have v2 : IntKind.i64.wrap (a + m) = s2 := by rw [← hs2]; exact IntWalk.i64_in _ (by omega)
  rw [← hs1, ← hs2] at HRES
  clear hres hs1 hs2 hr ho
  have HKA : ∀ A B : Array Value, Hid (Kept w ((w.alloc (.cells A 83)).alloc (.cells B 83))) := fun A B => Lib.hid ((show Kept w _ from box_below w _).then (box_below _ _))
  by_cases h1 : a < s1
  · have b1 : decide (a < s1) = true := decide_eq_true h1
    by_cases h2 : x < s2
    · have b2 : decide (x < s2) = true := decide_eq_true h2
      obtain rfl : res = true := by rw [HRES.out, b1, b2]; rfl
      go_enter Tryd.func108, Tryd.ntmps108
      go_wp2
      go_ret
      exact ⟨rfl, (HKA _ _).out⟩
    · have b2 : decide (x < s2) = false := decide_eq_false h2
      obtain rfl : res = false := by rw [HRES.out, b1, b2]; rfl
      go_enter Tryd.func108, Tryd.ntmps108
      go_wp2
      go_ret
      exact ⟨rfl, (HKA _ _).out⟩
  · have b1 : decide (a < s1) = false := decide_eq_false h1
    obtain rfl : res = false := by rw [HRES.out, b1]; rfl
    go_enter Tryd.func108, Tryd.ntmps108
    go_wp2
    go_ret
    exact ⟨rfl, (HKA _ _).out⟩

set_option maxRecDepth 100000 in
set_option maxHeartbeats 1000000 in
theorem jover1_any (r o : Int × Int) (hr : smallR r) (ho : smallR o) (bx : Nat) (w : World) (c0 : w.cell? ⟨bx, 0, none⟩ = some (.int .i64 r.1)) (c1 : w.cell? ⟨bx, 1, none⟩ = some (.int .i64 r.2)) :
    Calls Tryd.prog 107 #[.agg #[.int .i64 o.1, .int .i64 o.2], .pointer (some ⟨bx, 0, none⟩)] w fun e w' => e = .returned (.bool (meetR r o)) ∧ Below w.heap.size w w' := by
  have CO := fun W => joverlap_any r o hr ho W
  have K := box_below w (.cells #[.int .i64 o.1, .int .i64 o.2] 83)
  have e0 := Kept.cell K c0
  have e1 := Kept.cell K c1
  have HK := Lib.hid K
  obtain ⟨res, hres⟩ : ∃ res, res = meetR r o := ⟨_, rfl⟩
  rw [← hres] at CO ⊢
  obtain ⟨a, m⟩ := r
  obtain ⟨x, y⟩ := o
  simp only at CO e0 e1 HK ⊢
  clear hres hr ho K c0 c1
  go_enter Tryd.func107, Tryd.ntmps107
  go_wp2_with fail
  refine (CO _).mono ?_
  rintro e w1 ⟨rfl, hb⟩
  have HK2 := Lib.hid ((show Kept w _ from HK.out).then hb)
  clear CO hb e0 e1
  go_wp2
  go_ret
  exact ⟨rfl, HK2.out⟩

def IdxJ (l : List (Int × Int)) (q : Int × Int → Bool) (w : World) (e : Ending) (w' : World) : Prop :=
  ∃ i : Int, e = .returned (.int .i64 i) ∧ decide (i ≥ 0) = l.any q ∧ Below w.heap.size w w'

set_option maxRecDepth 100000 in
set_option maxHeartbeats 4000000 in
theorem jidx_any (q : Int × Int → Bool) (bx : Nat) (p : Option Addr) (c n : Nat) (l : List (Int × Int)) (hn : n = l.length) (hs : n ≤ 1048576) (w : World) (h : RunsAt l (.slice p n c) w)
    (hd : ∀ W, Kept w W → ∀ r ∈ l, Calls Tryd.prog 107 #[.agg #[.int .i64 r.1, .int .i64 r.2], .pointer (some ⟨bx, 0, none⟩)] W fun e w' => e = .returned (.bool (q r)) ∧ Below W.heap.size W w') :
    Calls Tryd.prog 119 #[.slice p n c, .func (.func 107) #[] #[.pointer (some ⟨bx, 0, none⟩)]] w (IdxJ l q w) := by
  have hout := h.out
  rw [hn] at hout
  obtain ⟨p', c', he, hcap, hc⟩ := hout
  simp only [Value.slice.injEq] at he
  obtain ⟨rfl, -, rfl⟩ := he
  have HC := Lib.hid hc
  have HN := Lib.hid hn
  have HD := Lib.hid hd
  clear hn h hd hc hcap
  go_enter Tryd.func119, Tryd.ntmps119
  go_wp2
  go_loopg [8] n (fun gh s8 wx => ∃ k : Nat, k + gh = n ∧ s8 = .int .i64 k ∧ Hid (∀ r ∈ l.take k, q r = false) ∧ Hid (Kept w wx))
  case atStart => exact ⟨0, by omega, rfl, Lib.hid (fun r hr => by simp at hr), Lib.hid (Kept.refl w)⟩
  case round =>
    obtain ⟨k, hk, rfl, HQ, HK⟩ := hrel
    obtain ⟨k1, hk1⟩ : ∃ k1, k1 = k + 1 := ⟨_, rfl⟩
    have v1 : IntKind.i64.wrap ((k : Int) + 1) = (k1 : Int) := by rw [show (k : Int) + 1 = (k1 : Int) by omega]; exact IntWalk.i64_in _ (by omega)
    by_cases hlt : k < n
    · have hki : (k : Int) < n := by omega
      have bk : decide ((k : Int) < (n : Int)) = true := by simpa using hki
      have hki0 : (0 : Int) ≤ k := by omega
      have hkl : k < l.length := by rw [← HN.out]; exact hlt
      rcases HC.out with h0 | ⟨b, off, rfl, hcell⟩
      · omega
      have d1 := HK.out.cell (hcell k hkl).1
      have d2 := HK.out.cell (hcell k hkl).2
      have CL := HD.out wr HK.out l[k] (List.getElem_mem hkl)
      have HNX : Hid (q l[k] = false → ∀ r ∈ l.take k1, q r = false) := Lib.hid (fun h0 r hr => by
        rw [hk1, List.take_succ_eq_append_getElem hkl] at hr
        rcases List.mem_append.1 hr with h | h
        · exact HQ.out r h
        · rw [List.mem_singleton.1 h]; exact h0)
      have HFD : Hid (q l[k] = true → l.any q = true) := Lib.hid (fun h0 => List.any_eq_true.2 ⟨_, List.getElem_mem hkl, h0⟩)
      obtain ⟨t, ht⟩ : ∃ t, t = q l[k] := ⟨_, rfl⟩
      obtain ⟨r, hr⟩ : ∃ r, r = l[k] := ⟨_, rfl⟩
      rw [← ht] at CL HNX HFD
      rw [← hr] at CL d1 d2
      obtain ⟨x, y⟩ := r
      simp only at CL d1 d2
      clear ht hr hkl hcell
      cases t with
      | false =>
        have HN2 := Lib.hid (HNX.out rfl)
        clear HNX HFD
        go_wp2_with fail
        refine CL.mono ?_
        rintro e w2 ⟨rfl, hb⟩
        have HK2 := Lib.hid (HK.out.then hb)
        clear CL hb d1 d2
        go_wp2
        go_roundg (n - k1)
        case measure => omega
        case rel => exact ⟨k1, by omega, by first | rfl | (congr 1; omega), HN2, HK2⟩
      | true =>
        have HT := Lib.hid (HFD.out rfl)
        clear HNX HFD
        go_wp2_with fail
        refine CL.mono ?_
        rintro e w2 ⟨rfl, hb⟩
        have HK2 := Lib.hid (HK.out.then hb)
        clear CL hb d1 d2
        go_wp2
        go_ret
        exact ⟨_, rfl, by rw [HT.out]; exact decide_eq_true (by omega), HK2.out⟩
    · have hki : ¬ (k : Int) < n := by omega
      have bk : decide ((k : Int) < (n : Int)) = false := by simpa using hki
      have HA : Hid (l.any q = false) := Lib.hid (by
        rw [List.any_eq_false]
        intro r hr
        rw [HQ.out r (by rw [List.take_of_length_le (by rw [← HN.out]; omega)]; exact hr)]
        decide)
      go_wp2
      go_ret
      exact ⟨_, rfl, by rw [HA.out]; rfl, HK.out⟩

set_option maxRecDepth 100000 in
set_option maxHeartbeats 1000000 in
theorem jcontains_any (q : Int × Int → Bool) (bx : Nat) (p : Option Addr) (c n : Nat) (l : List (Int × Int)) (hn : n = l.length) (hs : n ≤ 1048576) (w : World) (h : RunsAt l (.slice p n c) w)
    (hd : ∀ W, Kept w W → ∀ r ∈ l, Calls Tryd.prog 107 #[.agg #[.int .i64 r.1, .int .i64 r.2], .pointer (some ⟨bx, 0, none⟩)] W fun e w' => e = .returned (.bool (q r)) ∧ Below W.heap.size W w') :
    Calls Tryd.prog 106 #[.slice p n c, .func (.func 107) #[] #[.pointer (some ⟨bx, 0, none⟩)]] w fun e w' => e = .returned (.bool (l.any q)) ∧ Below w.heap.size w w' := by
  have IX := jidx_any q bx p c n l hn hs w h hd
  obtain ⟨t, ht⟩ : ∃ t, t = l.any q := ⟨_, rfl⟩
  rw [← ht]
  have HT := Lib.hid ht
  clear hn hs h hd ht
  go_enter Tryd.func106, Tryd.ntmps106
  go_wp2_with fail
  refine IX.mono ?_
  rintro e w1 ⟨i, rfl, hi, hb⟩
  rw [← HT.out] at hi
  have HB := Lib.hid hb
  clear IX hb HT
  go_wp2
  go_ret
  exact ⟨rfl, HB.out⟩

end Go.Proofs.YtoigembmbajopaaDoor
namespace Go.Proofs.YtoigembmbajopaaDoor
open Go.RowKit

/-- Runs that fit. -/
def fitP (l : List (Int × Int)) (z : Int) : Prop := l.length ≤ 16 ∧ validL 0 8192 l ∧ sumR l = z
instance (l : List (Int × Int)) (z : Int) : Decidable (fitP l z) := by unfold fitP; infer_instance

set_option maxRecDepth 100000 in
set_option maxHeartbeats 16000000 in
theorem jfit_any (rn : List (Int × Int)) (v : Value) (z : Int) (hz : 0 ≤ z ∧ z ≤ 100000) (w : World) (h : RunsAt rn v w) :
    Calls Tryd.prog 81 #[v, .int .i64 z] w fun e w' => e = .returned (.bool (decide (fitP rn z))) ∧ Below w.heap.size w w' := by
  obtain ⟨p, c, htv, hcap, hcell⟩ := h.out
  subst htv
  obtain ⟨res, hres⟩ : ∃ res, res = decide (fitP rn z) := ⟨_, rfl⟩
  rw [← hres]
  have HRES : Hid (res = decide (rn.length ≤ 16 ∧ validL 0 8192 rn ∧ sumR rn = z)) := Lib.hid hres
  have HFA : Hid (¬ (rn.length ≤ 16 ∧ validL 0 8192 rn ∧ sumR rn = z) → res = false) := Lib.hid (fun x => by rw [HRES.out]; exact decide_eq_false x)
  have HWF := Lib.hid h.wf
  have HC := Lib.hid hcell
  obtain ⟨n, hn⟩ : ∃ n, n = rn.length := ⟨_, rfl⟩
  have HN := Lib.hid hn
  rw [← hn] at hcap h ⊢
  have HR := Lib.hid h
  have HCAP := Lib.hid hcap
  have HZB := Lib.hid hz
  clear h hn hcell hcap hz hres
  by_cases h16 : (n : Int) > 16
  · have HF : Hid (res = false) := Lib.hid (HFA.out (fun y => by have y1 := y.1; have := HN.out; omega))
    clear HFA HRES HWF HC HN HR HCAP
    go_enter Tryd.func81, Tryd.ntmps81
    go_wp2
    go_ret
    exact ⟨by rw [HF.out]; rfl, Below.refl _ _⟩
  · have V0 : Hid (validK 0 8192 rn 0) := Lib.hid (fun j hj => by omega)
    have K0 : Hid (Kept w w) := Lib.hid (Kept.refl w)
    have Z0 : Hid (z = z - sumR (rn.take 0)) := Lib.hid (by show z = z - 0; omega)
    have ZB0 : Hid (z - 8192 * ((0 : Nat) : Int) ≤ z ∧ z ≤ z) := Lib.hid (by omega)
    have hn16 : n ≤ 16 := by omega
    have HN16 := Lib.hid hn16
    go_enter Tryd.func81, Tryd.ntmps81
    go_wp2
    go_loopg [1, 12] n (fun gh s1 s12 wx => ∃ (k : Nat) (y : Int), k + gh = n ∧ s1 = .int .i64 y ∧ s12 = .int .i64 k ∧ Hid (y = z - sumR (rn.take k)) ∧ Hid (z - 8192 * (k : Int) ≤ y ∧ y ≤ z) ∧ Hid (validK 0 8192 rn k) ∧ Hid (Kept w wx))
    case atStart => exact ⟨0, z, by omega, rfl, rfl, Z0, ZB0, V0, K0⟩
    case round =>
      clear V0 K0 Z0 ZB0
      obtain ⟨k, y, hk, rfl, rfl, HY, HYB, HV, HK⟩ := hrel
      by_cases hkn : k < n
      · have hki : (k : Int) < n := by omega
        have bk : decide ((k : Int) < (n : Int)) = true := by simpa using hki
        have hki0 : (0 : Int) ≤ k := by omega
        have hka : k < rn.length := by rw [← HN.out]; exact hkn
        have hkc : (k : Int) ≤ c := by have := HCAP.out; omega
        have hzk : ((k : Int)).toNat = k := by omega
        rcases HC.out with h0 | ⟨ba, oa, rfl, hcell⟩
        · omega
        have d1 := HK.out.cell (hcell k hka).1
        have d2 := HK.out.cell (hcell k hka).2
        have hwr := HWF.out _ (List.getElem_mem hka)
        have hst := sumR_take rn k hka
        have HTK : Hid (RunsAt (rn.take k) (.slice (some ⟨ba, oa, none⟩) k c) wr) := Lib.hid ((HR.out.later HK.out).takeN k (by omega))
        have HSM := Lib.hid (small_of_valid (fr := 0) (te := 8192) (l := rn) (by omega) (by omega) (by omega) HV.out)
        have HST : Hid (fitR 0 8192 rn[k] → (rn.take k).any (meetR rn[k]) = false → validK 0 8192 rn (k + 1)) := Lib.hid (fun x y => valid_step hka HV.out x y)
        have HNF : Hid (¬ fitR 0 8192 rn[k] → res = false) := Lib.hid (fun hf => HFA.out (fun y => hf (by have h := y.2.1 k hka; rw [getD_at hka] at h; exact h.1)))
        have HNM : Hid ((rn.take k).any (meetR rn[k]) = true → res = false) := Lib.hid (fun hf => HFA.out (fun y => valid_not hka hf y.2.1))
        have HLT : Hid ((rn.take k).length = k) := Lib.hid (by rw [List.length_take]; omega)
        obtain ⟨r, hrr⟩ : ∃ r, r = rn[k] := ⟨_, rfl⟩
        rw [← hrr] at d1 d2 hwr hst HST HNF HNM
        obtain ⟨a, m⟩ := r
        simp only at d1 d2 hwr hst
        obtain ⟨k1, hk1⟩ : ∃ k1, k1 = k + 1 := ⟨_, rfl⟩
        rw [← hk1] at HST hst
        have vk1 : IntKind.i64.wrap ((k : Int) + 1) = (k1 : Int) := by rw [show (k : Int) + 1 = (k1 : Int) by omega]; exact IntWalk.i64_in _ (by have := HN16.out; omega)
        have CL := fun W => jlies_any a m hwr.1 hwr.2 W
        have hrow1 := heap_alloc_last wr (.cells #[.int .i64 a, .int .i64 m] 83)
        have hk1w : Kept wr (wr.alloc (.cells #[.int .i64 a, .int .i64 m] 83)) := box_below _ _
        obtain ⟨W1, hW1⟩ : ∃ W1, W1 = wr.alloc (.cells #[.int .i64 a, .int .i64 m] 83) := ⟨_, rfl⟩
        rw [← hW1] at hrow1 hk1w
        have HW1 := Lib.hid hW1
        have HK1 := Lib.hid hk1w
        have HROW1 := Lib.hid hrow1
        have hm64 := hwr.2
        have HYB2 := HYB.out
        clear hcell hwr hrr hW1 hrow1 hk1w
        by_cases hfit : fitR 0 8192 (a, m)
        · rw [decide_eq_true hfit] at CL
          have hsm : smallR (a, m) := by unfold fitR at hfit; unfold smallR; simp only at hfit ⊢; omega
          have CO := fun W (hW : Kept W1 W) => jcontains_any (meetR (a, m)) wr.heap.size (some ⟨ba, oa, none⟩) c k (rn.take k) HLT.out.symm (by have := HN16.out; omega) W (HTK.out.later (HK1.out.then hW)) (fun W2 k2 o ho => jover1_any (a, m) o hsm (HSM.out o ho) wr.heap.size W2 (Kept.cell (hW.then k2) (by rw [cell_of_row _ _ _ _ _ _ HROW1.out]; rfl)) (Kept.cell (hW.then k2) (by rw [cell_of_row _ _ _ _ _ _ HROW1.out]; rfl)))
          have hm8 : 1 ≤ m ∧ m ≤ 8192 := by unfold fitR at hfit; simp only at hfit; omega
          have HST2 := Lib.hid (HST.out hfit)
          clear HST HNF HSM HLT hfit hsm
          cases han : (rn.take k).any (meetR (a, m)) with
          | true =>
            rw [han] at CO
            have HF := Lib.hid (HNM.out han)
            clear HST2 HNM han hst hm64 hm8 HYB2 HTK
            go_wp2_with fail
            rw [← HW1.out]
            refine (CL _).mono ?_
            rintro e w1 ⟨rfl, hb1⟩
            have K1 := Lib.hid hb1
            have CO1 := CO w1 hb1
            clear CL hb1 CO
            go_wp2_with fail
            refine CO1.mono ?_
            rintro e w2 ⟨rfl, hb2⟩
            have K2 := Lib.hid ((show Kept w wr from HK.out).then ((show Kept wr W1 from HK1.out).then ((show Kept W1 w1 from K1.out).then hb2)))
            clear CO1 hb2
            go_wp2
            go_ret
            exact ⟨by rw [HF.out]; rfl, K2.out⟩
          | false =>
            rw [han] at CO
            have HST3 := Lib.hid (HST2.out han)
            obtain ⟨y1, hy1⟩ : ∃ y1, y1 = y - m := ⟨_, rfl⟩
            have vy : IntKind.i64.wrap (y - m) = y1 := by rw [← hy1]; exact IntWalk.i64_in _ (by have := HN16.out; have := HZB.out; omega)
            have HY1 : Hid (y1 = z - sumR (rn.take k1)) := Lib.hid (by rw [hst, hy1, HY.out]; omega)
            have HYB1 : Hid (z - 8192 * (k1 : Int) ≤ y1 ∧ y1 ≤ z) := Lib.hid (by omega)
            have HKK : Hid (k1 = k + 1 ∧ k + gk = n) := Lib.hid ⟨hk1, hk⟩
            clear HST2 HNM han hst hm64 hm8 hy1 HY HYB HYB2 HTK hk1 hk
            go_wp2_with fail
            rw [← HW1.out]
            refine (CL _).mono ?_
            rintro e w1 ⟨rfl, hb1⟩
            have K1 := Lib.hid hb1
            have CO1 := CO w1 hb1
            clear CL hb1 CO
            go_wp2_with fail
            refine CO1.mono ?_
            rintro e w2 ⟨rfl, hb2⟩
            have K12 : Kept W1 w2 := (show Kept W1 w1 from K1.out).then hb2
            have e1 : w2.cell? ⟨wr.heap.size, 1, none⟩ = some (.int .i64 m) := K12.cell (by rw [cell_of_row _ _ _ _ _ _ HROW1.out]; rfl)
            have K2 := Lib.hid ((show Kept w wr from HK.out).then ((show Kept wr W1 from HK1.out).then K12))
            clear CO1 hb2 K12
            go_wp2
            go_roundg (n - k1)
            case measure => have := HKK.out; omega
            case rel => exact ⟨k1, y1, by have := HKK.out; omega, rfl, by first | rfl | (congr 1; have := HKK.out; omega), HY1, HYB1, HST3, K2⟩
        · rw [decide_eq_false hfit] at CL
          have HF := Lib.hid (HNF.out hfit)
          clear HST HNF HSM HLT hfit HNM hst hm64 HYB2 HTK
          go_wp2_with fail
          rw [← HW1.out]
          refine (CL _).mono ?_
          rintro e w1 ⟨rfl, hb1⟩
          have K2 := Lib.hid ((show Kept w wr from HK.out).then ((show Kept wr W1 from HK1.out).then hb1))
          clear CL hb1
          go_wp2
          go_ret
          exact ⟨by rw [HF.out]; rfl, K2.out⟩
      · have hki : ¬ (k : Int) < n := by omega
        have bk : decide ((k : Int) < (n : Int)) = false := by simpa using hki
        have hke : k = n := by omega
        have HV2 : Hid (validL 0 8192 rn) := Lib.hid (by
          have h := HV.out
          rw [hke, HN.out] at h
          exact h)
        have HE : Hid ((y == 0) = res) := Lib.hid (by
          rw [HRES.out, HY.out, List.take_of_length_le (by rw [← HN.out]; omega)]
          by_cases hs : sumR rn = z
          · rw [decide_eq_true ⟨by rw [← HN.out]; exact HN16.out, HV2.out, hs⟩, beq_iff_eq]; omega
          · rw [decide_eq_false (fun x => hs x.2.2), beq_eq_false_iff_ne]; omega)
        clear hke
        go_wp2
        go_ret
        exact ⟨by rw [← HE.out]; rfl, HK.out⟩

end Go.Proofs.YtoigembmbajopaaDoor
namespace Go.Proofs.YtoigembmbajopaaDoor
open Go.RowKit

def keyP (ib nb : Bool) (r : Rc) : Prop := (ib = true ↔ 1 ≤ r.id) ∧ r.id ≤ 4294967294 ∧ (nb = true ↔ 1 ≤ r.name.length) ∧ r.name.length ≤ 48
instance (ib nb : Bool) (r : Rc) : Decidable (keyP ib nb r) := by unfold keyP; infer_instance

set_option maxRecDepth 100000 in
set_option maxHeartbeats 8000000 in
theorem vkey_any (ib nb bb : Bool) (r : Rc) (tv : Value) (w : World) (h : RecAt r tv w) :
    Calls Tryd.prog 43 #[.agg (fldC ib nb bb), recV r tv] w fun e w' => e = .returned (.bool (decide (keyP ib nb r))) ∧ Kept w w' := by
  obtain ⟨p, c, htv, -, -⟩ := h.runs.out
  subst htv
  obtain ⟨k, n, N, z, rn⟩ := r
  obtain ⟨-, hn, hN, -⟩ := h.wf
  simp only at hn hN
  obtain ⟨res, hres⟩ : ∃ res, res = decide (keyP ib nb ⟨k, n, N, z, rn⟩) := ⟨_, rfl⟩
  rw [← hres]
  have HRES : Hid (res = decide ((ib = true ↔ 1 ≤ n) ∧ n ≤ 4294967294 ∧ (nb = true ↔ 1 ≤ N.length) ∧ N.length ≤ 48)) := Lib.hid hres
  unfold recV recC fldC
  simp only
  obtain ⟨B, hB⟩ : ∃ B, B = str N := ⟨_, rfl⟩
  have hBs : B.size = N.length := by rw [hB, str_size]
  rw [← hB]
  obtain ⟨nl, hnl⟩ : ∃ nl, nl = N.length := ⟨_, rfl⟩
  obtain ⟨rl, hrl⟩ : ∃ rl, rl = rn.length := ⟨_, rfl⟩
  rw [← hrl]
  rw [← hnl] at HRES hBs hN
  obtain ⟨i1, hi1⟩ : ∃ i1, i1 = decide (1 ≤ n) := ⟨_, rfl⟩
  have x1 : ((n : Int) != 0) = i1 := by
    rw [hi1, Bool.eq_iff_iff, decide_eq_true_eq, bne_iff_ne]; omega
  obtain ⟨n1, hn1⟩ : ∃ n1, n1 = decide (1 ≤ nl) := ⟨_, rfl⟩
  have x2 : (!B.toList.isEmpty) = n1 := by
    have e : B.toList = N := by rw [hB, ByteArray.toList_eq, str_list]
    rw [hn1, e, hnl]
    cases N with
    | nil => rfl
    | cons a t => simp
  have HKA : ∀ A C : Array Value, Hid (Kept w ((w.alloc (.cells A 78)).alloc (.cells C 30))) := fun A C => Lib.hid ((show Kept w _ from box_below w _).then (box_below _ _))
  have hcase : ((ib == i1) = false ∧ res = false) ∨ ((ib == i1) = true ∧ decide ((n : Int) ≤ 4294967294) = false ∧ res = false) ∨ ((ib == i1) = true ∧ decide ((n : Int) ≤ 4294967294) = true ∧ (nb == n1) = false ∧ res = false) ∨ ((ib == i1) = true ∧ decide ((n : Int) ≤ 4294967294) = true ∧ (nb == n1) = true ∧ decide ((nl : Int) ≤ 48) = res) := by
    have e1 : (ib = true ↔ 1 ≤ n) ↔ (ib == i1) = true := by rw [hi1]; cases ib <;> simp
    have e2 : (nb = true ↔ 1 ≤ nl) ↔ (nb == n1) = true := by rw [hn1]; cases nb <;> simp
    have hr := HRES.out
    by_cases g1 : (ib == i1) = true
    · by_cases g2 : n ≤ 4294967294
      · by_cases g3 : (nb == n1) = true
        · refine Or.inr (Or.inr (Or.inr ⟨g1, decide_eq_true (by omega), g3, ?_⟩))
          rw [hr]
          refine decide_eq_decide.2 ⟨fun y => ⟨e1.2 g1, g2, e2.2 g3, by omega⟩, fun y => by have := y.2.2.2; omega⟩
        · exact Or.inr (Or.inr (Or.inl ⟨g1, decide_eq_true (by omega), by simpa using g3, by rw [hr]; exact decide_eq_false (fun y => g3 (e2.1 y.2.2.1))⟩))
      · exact Or.inr (Or.inl ⟨g1, decide_eq_false (by omega), by rw [hr]; exact decide_eq_false (fun y => g2 y.2.1)⟩)
    · exact Or.inl ⟨by simpa using g1, by rw [hr]; exact decide_eq_false (fun y => g1 (e1.1 y.1))⟩
  clear hres HRES hB hnl hrl hi1 hn1 h hn hN
  go_enter Tryd.func43, Tryd.ntmps43
  rcases hcase with ⟨b1, b5⟩ | ⟨b1, b2, b5⟩ | ⟨b1, b2, b3, b5⟩ | ⟨b1, b2, b3, b4⟩
  all_goals (
    go_wp2
    first | go_ret | go_ret2
    refine ⟨?_, (HKA _ _).out⟩
    first | rfl | (rw [b5]; rfl) | (simp only [b4]; rfl) | (rw [← b4]; rfl))

/-- What a record's blob is to be. -/
def blobP (bb : Bool) (r : Rc) : Prop := (bb = true ∨ r.size = 0) ∧ 0 ≤ r.size ∧ r.size ≤ 1048576 ∧ fitP r.runs (needN r.size)
instance (bb : Bool) (r : Rc) : Decidable (blobP bb r) := by unfold blobP; infer_instance

set_option maxRecDepth 100000 in
set_option maxHeartbeats 16000000 in
theorem vblob_any (ib nb bb : Bool) (r : Rc) (tv : Value) (w : World) (h : RecAt r tv w) :
    Calls Tryd.prog 44 #[.agg (fldC ib nb bb), recV r tv] w fun e w' => e = .returned (.bool (decide (blobP bb r))) ∧ Kept w w' := by
  obtain ⟨p, c, htv, -, -⟩ := h.runs.out
  subst htv
  have hruns := h.runs
  obtain ⟨k, n, N, z, rn⟩ := r
  obtain ⟨-, -, -, hz⟩ := h.wf
  simp only at hz hruns
  obtain ⟨res, hres⟩ : ∃ res, res = decide (blobP bb ⟨k, n, N, z, rn⟩) := ⟨_, rfl⟩
  rw [← hres]
  have HRES : Hid (res = decide ((bb = true ∨ z = 0) ∧ 0 ≤ z ∧ z ≤ 1048576 ∧ fitP rn (needN z))) := Lib.hid hres
  unfold recV recC fldC
  simp only
  obtain ⟨B, hB⟩ : ∃ B, B = str N := ⟨_, rfl⟩
  rw [← hB]
  obtain ⟨rl, hrl⟩ : ∃ rl, rl = rn.length := ⟨_, rfl⟩
  rw [← hrl] at hruns ⊢
  obtain ⟨W0, hW0⟩ : ∃ W0, W0 = (w.alloc (.cells #[.bool ib, .bool nb, .bool bb] 78)).alloc (.cells #[.int .i64 k, .int .u32 (n : Nat), .string B, .int .i64 z, .slice p rl c] 30) := ⟨_, rfl⟩
  have HW0 := Lib.hid hW0
  have HK0 : Hid (Kept w W0) := Lib.hid (by rw [hW0]; exact (show Kept w _ from box_below w _).then (box_below _ _))
  have r2 : W0.heap[w.heap.size]? = some (.cells #[.bool ib, .bool nb, .bool bb] 78 (0, 0)) := by rw [hW0]; exact heap_alloc2_old w _ _
  have r3 : W0.heap[w.heap.size + 1]? = some (.cells #[.int .i64 k, .int .u32 (n : Nat), .string B, .int .i64 z, .slice p rl c] 30 (0, 0)) := by rw [hW0]; exact heap_alloc2_new w _ _
  have C2 : Hid (W0.cell? ⟨w.heap.size, 2, none⟩ = some (.bool bb)) := Lib.hid (by rw [cell_of_row _ _ _ _ _ _ r2]; rfl)
  have C3 : Hid (W0.cell? ⟨w.heap.size + 1, 3, none⟩ = some (.int .i64 z)) := Lib.hid (by rw [cell_of_row _ _ _ _ _ _ r3]; rfl)
  have C4 : Hid (W0.cell? ⟨w.heap.size + 1, 4, none⟩ = some (.slice p rl c)) := Lib.hid (by rw [cell_of_row _ _ _ _ _ _ r3]; rfl)
  have CN := fun W => needOk z W hz
  have CF : 0 ≤ z ∧ z ≤ 1048576 → ∀ W, Kept W0 W → Calls Tryd.prog 81 #[.slice p rl c, .int .i64 (needN z)] W fun e w' => e = .returned (.bool (decide (fitP rn (needN z)))) ∧ Below W.heap.size W w' := fun hb W hW => jfit_any rn _ (needN z) (by unfold needN; split <;> omega) W (hruns.later ((show Kept w W0 from HK0.out).then hW))
  obtain ⟨d, hd⟩ : ∃ d, d = needN z := ⟨_, rfl⟩
  obtain ⟨fb, hfb⟩ : ∃ fb, fb = decide (fitP rn d) := ⟨_, rfl⟩
  rw [← hd] at CN CF HRES
  rw [← hfb] at CF
  have HFB := Lib.hid hfb
  clear hres hB hrl hW0 r2 r3 hz hruns h hd hfb
  cases bb with
  | true =>
    by_cases g0 : 0 ≤ z
    · have b0 : decide ((0 : Int) ≤ z) = true := decide_eq_true g0
      by_cases g1 : z ≤ 1048576
      · have b1 : decide (z ≤ (1048576 : Int)) = true := decide_eq_true g1
        have HF : Hid (res = fb) := Lib.hid (by rw [HRES.out, HFB.out]; exact decide_eq_decide.2 ⟨fun y => y.2.2.2, fun y => ⟨Or.inl rfl, g0, g1, y⟩⟩)
        replace CF := CF ⟨g0, g1⟩
        clear g0 g1
        go_enter Tryd.func44, Tryd.ntmps44
        go_wp2_with fail
        rw [← HW0.out]
        refine wp_region_kept (by kernel_rfl) (by kernel_rfl) ?_
        refine wpQuiet_pure (v := ?_) (by kernel_rfl) ?_ (fun K hK => ?_)
        case refine_2 => intro W _; go_simp; try with_reducible rfl
        go_simp
        refine hK _ ?_; clear hK K
        refine wpQuiet_load_cell (by kernel_rfl) _ _ rfl ⟨w.heap.size, 2, none⟩ rfl _ Tryd.underlying4 rfl _ (fun _ h => h.cell C2.out) (fun K hK => ?_)
        go_simp
        refine hK _ ?_; clear hK K
        refine wpQuiet_pure (v := ?_) (by kernel_rfl) ?_ (fun K hK => ?_)
        case refine_2 => intro W _; go_simp; try with_reducible rfl
        go_simp
        refine hK _ ?_; clear hK K
        go_big_quiet_skip
        go_big_quiet_skip
        go_big_quiet_skip
        refine wpQuiet_pure (v := ?_) (by kernel_rfl) ?_ (fun K hK => ?_)
        case refine_2 => intro W _; go_simp; try with_reducible rfl
        go_simp
        refine hK _ ?_; clear hK K
        refine wpQuiet_pure (v := ?_) (by kernel_rfl) ?_ (fun K hK => ?_)
        case refine_2 => intro W _; go_simp; try with_reducible rfl
        go_simp
        refine hK _ ?_; clear hK K
        refine wpQuiet_pure (v := ?_) (by kernel_rfl) ?_ (fun K hK => ?_)
        case refine_2 => intro W _; go_simp; try with_reducible rfl
        go_simp
        refine hK _ ?_; clear hK K
        refine wpQuiet_load_cell (by kernel_rfl) _ _ rfl ⟨w.heap.size + 1, 3, none⟩ rfl _ Tryd.underlying3 rfl _ (fun _ h => h.cell C3.out) (fun K hK => ?_)
        go_simp
        refine hK _ ?_; clear hK K
        refine wpQuiet_pure (by kernel_rfl) (.bool true) (fun W _ => by go_simp) (fun K hK => ?_)
        go_simp
        refine hK _ ?_; clear hK K
        refine wpQuiet_pure (v := ?_) (by kernel_rfl) ?_ (fun K hK => ?_)
        case refine_2 => intro W _; go_simp; try with_reducible rfl
        go_simp
        refine hK _ ?_; clear hK K
        refine wpQuiet_pure (v := ?_) (by kernel_rfl) ?_ (fun K hK => ?_)
        case refine_2 => intro W _; go_simp; try with_reducible rfl
        go_simp
        refine hK _ ?_; clear hK K
        refine wpQuiet_pure (v := ?_) (by kernel_rfl) ?_ (fun K hK => ?_)
        case refine_2 => intro W _; go_simp; try with_reducible rfl
        go_simp
        refine hK _ ?_; clear hK K
        refine wpQuiet_load_cell (by kernel_rfl) _ _ rfl ⟨w.heap.size + 1, 3, none⟩ rfl _ Tryd.underlying3 rfl _ (fun _ h => h.cell C3.out) (fun K hK => ?_)
        go_simp
        refine hK _ ?_; clear hK K
        refine wpQuiet_pure (by kernel_rfl) (.bool true) (fun W _ => by go_simp) (fun K hK => ?_)
        go_simp
        refine hK _ ?_; clear hK K
        refine wpQuiet_pure (v := ?_) (by kernel_rfl) ?_ (fun K hK => ?_)
        case refine_2 => intro W _; go_simp; try with_reducible rfl
        go_simp
        refine hK _ ?_; clear hK K
        refine wpQuiet_pure (v := ?_) (by kernel_rfl) ?_ (fun K hK => ?_)
        case refine_2 => intro W _; go_simp; try with_reducible rfl
        go_simp
        refine hK _ ?_; clear hK K
        refine wpQuiet_pure (v := ?_) (by kernel_rfl) ?_ (fun K hK => ?_)
        case refine_2 => intro W _; go_simp; try with_reducible rfl
        go_simp
        refine hK _ ?_; clear hK K
        refine wpQuiet_load_cell (by kernel_rfl) _ _ rfl ⟨w.heap.size + 1, 4, none⟩ rfl _ Tryd.underlying28 rfl _ (fun _ h => h.cell C4.out) (fun K hK => ?_)
        go_simp
        refine hK _ ?_; clear hK K
        refine wpQuiet_pure (v := ?_) (by kernel_rfl) ?_ (fun K hK => ?_)
        case refine_2 => intro W _; go_simp; try with_reducible rfl
        go_simp
        refine hK _ ?_; clear hK K
        refine wpQuiet_load_cell (by kernel_rfl) _ _ rfl ⟨w.heap.size + 1, 3, none⟩ rfl _ Tryd.underlying3 rfl _ (fun _ h => h.cell C3.out) (fun K hK => ?_)
        go_simp
        refine hK _ ?_; clear hK K
        refine wpQuiet_call (by kernel_rfl) _ _ _ (fun W => by go_simp) (fun W h => Calls.kept_of h (CN W)) (fun K hK => ?_)
        go_simp
        refine hK _ ?_; clear hK K
        refine wpQuiet_call (by kernel_rfl) _ _ _ (fun W => by go_simp) (fun W h => Calls.kept_of h (CF W h)) (fun K hK => ?_)
        go_simp
        refine hK _ ?_; clear hK K
        refine wpQuiet_pure (v := ?_) (by kernel_rfl) ?_ (fun K hK => ?_)
        case refine_2 => intro W _; go_simp; try with_reducible rfl
        go_simp
        refine hK _ ?_; clear hK K
        refine wpQuiet_pure (v := ?_) (by kernel_rfl) ?_ (fun K hK => ?_)
        case refine_2 => intro W _; go_simp; try with_reducible rfl
        go_simp
        refine hK _ ?_; clear hK K
        refine wpQuiet_nil ?_
        intro w9 hk9
        have K9 := Lib.hid ((show Kept w W0 from HK0.out).then hk9)
        clear hk9
        go_wp2
        go_ret
        exact ⟨by rw [HF.out]; rfl, K9.out⟩
      · have b1 : decide (z ≤ (1048576 : Int)) = false := decide_eq_false g1
        have HF : Hid (res = false) := Lib.hid (by rw [HRES.out]; exact decide_eq_false (fun y => g1 y.2.2.1))
        clear CF g0 g1
        go_enter Tryd.func44, Tryd.ntmps44
        go_wp2_with fail
        rw [← HW0.out]
        refine wp_region_kept (by kernel_rfl) (by kernel_rfl) ?_
        refine wpQuiet_pure (v := ?_) (by kernel_rfl) ?_ (fun K hK => ?_)
        case refine_2 => intro W _; go_simp; try with_reducible rfl
        go_simp
        refine hK _ ?_; clear hK K
        refine wpQuiet_load_cell (by kernel_rfl) _ _ rfl ⟨w.heap.size, 2, none⟩ rfl _ Tryd.underlying4 rfl _ (fun _ h => h.cell C2.out) (fun K hK => ?_)
        go_simp
        refine hK _ ?_; clear hK K
        refine wpQuiet_pure (v := ?_) (by kernel_rfl) ?_ (fun K hK => ?_)
        case refine_2 => intro W _; go_simp; try with_reducible rfl
        go_simp
        refine hK _ ?_; clear hK K
        go_big_quiet_skip
        go_big_quiet_skip
        go_big_quiet_skip
        refine wpQuiet_pure (v := ?_) (by kernel_rfl) ?_ (fun K hK => ?_)
        case refine_2 => intro W _; go_simp; try with_reducible rfl
        go_simp
        refine hK _ ?_; clear hK K
        refine wpQuiet_pure (v := ?_) (by kernel_rfl) ?_ (fun K hK => ?_)
        case refine_2 => intro W _; go_simp; try with_reducible rfl
        go_simp
        refine hK _ ?_; clear hK K
        refine wpQuiet_pure (v := ?_) (by kernel_rfl) ?_ (fun K hK => ?_)
        case refine_2 => intro W _; go_simp; try with_reducible rfl
        go_simp
        refine hK _ ?_; clear hK K
        refine wpQuiet_load_cell (by kernel_rfl) _ _ rfl ⟨w.heap.size + 1, 3, none⟩ rfl _ Tryd.underlying3 rfl _ (fun _ h => h.cell C3.out) (fun K hK => ?_)
        go_simp
        refine hK _ ?_; clear hK K
        refine wpQuiet_pure (by kernel_rfl) (.bool true) (fun W _ => by go_simp) (fun K hK => ?_)
        go_simp
        refine hK _ ?_; clear hK K
        refine wpQuiet_pure (v := ?_) (by kernel_rfl) ?_ (fun K hK => ?_)
        case refine_2 => intro W _; go_simp; try with_reducible rfl
        go_simp
        refine hK _ ?_; clear hK K
        refine wpQuiet_pure (v := ?_) (by kernel_rfl) ?_ (fun K hK => ?_)
        case refine_2 => intro W _; go_simp; try with_reducible rfl
        go_simp
        refine hK _ ?_; clear hK K
        refine wpQuiet_pure (v := ?_) (by kernel_rfl) ?_ (fun K hK => ?_)
        case refine_2 => intro W _; go_simp; try with_reducible rfl
        go_simp
        refine hK _ ?_; clear hK K
        refine wpQuiet_load_cell (by kernel_rfl) _ _ rfl ⟨w.heap.size + 1, 3, none⟩ rfl _ Tryd.underlying3 rfl _ (fun _ h => h.cell C3.out) (fun K hK => ?_)
        go_simp
        refine hK _ ?_; clear hK K
        refine wpQuiet_pure (by kernel_rfl) (.bool false) (fun W _ => by go_simp) (fun K hK => ?_)
        go_simp
        refine hK _ ?_; clear hK K
        refine wpQuiet_pure (v := ?_) (by kernel_rfl) ?_ (fun K hK => ?_)
        case refine_2 => intro W _; go_simp; try with_reducible rfl
        go_simp
        refine hK _ ?_; clear hK K
        refine wpQuiet_pure (v := ?_) (by kernel_rfl) ?_ (fun K hK => ?_)
        case refine_2 => intro W _; go_simp; try with_reducible rfl
        go_simp
        refine hK _ ?_; clear hK K
        go_big_quiet_skip
        go_big_quiet_skip
        go_big_quiet_skip
        go_big_quiet_skip
        go_big_quiet_skip
        go_big_quiet_skip
        refine wpQuiet_pure (v := ?_) (by kernel_rfl) ?_ (fun K hK => ?_)
        case refine_2 => intro W _; go_simp; try with_reducible rfl
        go_simp
        refine hK _ ?_; clear hK K
        refine wpQuiet_pure (v := ?_) (by kernel_rfl) ?_ (fun K hK => ?_)
        case refine_2 => intro W _; go_simp; try with_reducible rfl
        go_simp
        refine hK _ ?_; clear hK K
        refine wpQuiet_nil ?_
        intro w9 hk9
        have K9 := Lib.hid ((show Kept w W0 from HK0.out).then hk9)
        clear hk9
        go_wp2
        go_ret
        exact ⟨by rw [HF.out]; rfl, K9.out⟩
    · have b0 : decide ((0 : Int) ≤ z) = false := decide_eq_false g0
      have HF : Hid (res = false) := Lib.hid (by rw [HRES.out]; exact decide_eq_false (fun y => g0 y.2.1))
      clear CF g0
      go_enter Tryd.func44, Tryd.ntmps44
      go_wp2_with fail
      rw [← HW0.out]
      refine wp_region_kept (by kernel_rfl) (by kernel_rfl) ?_
      refine wpQuiet_pure (v := ?_) (by kernel_rfl) ?_ (fun K hK => ?_)
      case refine_2 => intro W _; go_simp; try with_reducible rfl
      go_simp
      refine hK _ ?_; clear hK K
      refine wpQuiet_load_cell (by kernel_rfl) _ _ rfl ⟨w.heap.size, 2, none⟩ rfl _ Tryd.underlying4 rfl _ (fun _ h => h.cell C2.out) (fun K hK => ?_)
      go_simp
      refine hK _ ?_; clear hK K
      refine wpQuiet_pure (v := ?_) (by kernel_rfl) ?_ (fun K hK => ?_)
      case refine_2 => intro W _; go_simp; try with_reducible rfl
      go_simp
      refine hK _ ?_; clear hK K
      go_big_quiet_skip
      go_big_quiet_skip
      go_big_quiet_skip
      refine wpQuiet_pure (v := ?_) (by kernel_rfl) ?_ (fun K hK => ?_)
      case refine_2 => intro W _; go_simp; try with_reducible rfl
      go_simp
      refine hK _ ?_; clear hK K
      refine wpQuiet_pure (v := ?_) (by kernel_rfl) ?_ (fun K hK => ?_)
      case refine_2 => intro W _; go_simp; try with_reducible rfl
      go_simp
      refine hK _ ?_; clear hK K
      refine wpQuiet_pure (v := ?_) (by kernel_rfl) ?_ (fun K hK => ?_)
      case refine_2 => intro W _; go_simp; try with_reducible rfl
      go_simp
      refine hK _ ?_; clear hK K
      refine wpQuiet_load_cell (by kernel_rfl) _ _ rfl ⟨w.heap.size + 1, 3, none⟩ rfl _ Tryd.underlying3 rfl _ (fun _ h => h.cell C3.out) (fun K hK => ?_)
      go_simp
      refine hK _ ?_; clear hK K
      refine wpQuiet_pure (by kernel_rfl) (.bool false) (fun W _ => by go_simp) (fun K hK => ?_)
      go_simp
      refine hK _ ?_; clear hK K
      refine wpQuiet_pure (v := ?_) (by kernel_rfl) ?_ (fun K hK => ?_)
      case refine_2 => intro W _; go_simp; try with_reducible rfl
      go_simp
      refine hK _ ?_; clear hK K
      refine wpQuiet_pure (v := ?_) (by kernel_rfl) ?_ (fun K hK => ?_)
      case refine_2 => intro W _; go_simp; try with_reducible rfl
      go_simp
      refine hK _ ?_; clear hK K
      go_big_quiet_skip
      go_big_quiet_skip
      go_big_quiet_skip
      refine wpQuiet_pure (v := ?_) (by kernel_rfl) ?_ (fun K hK => ?_)
      case refine_2 => intro W _; go_simp; try with_reducible rfl
      go_simp
      refine hK _ ?_; clear hK K
      refine wpQuiet_pure (v := ?_) (by kernel_rfl) ?_ (fun K hK => ?_)
      case refine_2 => intro W _; go_simp; try with_reducible rfl
      go_simp
      refine hK _ ?_; clear hK K
      go_big_quiet_skip
      go_big_quiet_skip
      go_big_quiet_skip
      go_big_quiet_skip
      go_big_quiet_skip
      go_big_quiet_skip
      refine wpQuiet_pure (v := ?_) (by kernel_rfl) ?_ (fun K hK => ?_)
      case refine_2 => intro W _; go_simp; try with_reducible rfl
      go_simp
      refine hK _ ?_; clear hK K
      refine wpQuiet_pure (v := ?_) (by kernel_rfl) ?_ (fun K hK => ?_)
      case refine_2 => intro W _; go_simp; try with_reducible rfl
      go_simp
      refine hK _ ?_; clear hK K
      refine wpQuiet_nil ?_
      intro w9 hk9
      have K9 := Lib.hid ((show Kept w W0 from HK0.out).then hk9)
      clear hk9
      go_wp2
      go_ret
      exact ⟨by rw [HF.out]; rfl, K9.out⟩
  | false =>
    by_cases g2 : z = 0
    · subst g2
      have b0 : decide ((0 : Int) ≤ 0) = true := decide_eq_true (by omega)
      have b1 : decide ((0 : Int) ≤ (1048576 : Int)) = true := decide_eq_true (by omega)
      have HF : Hid (res = fb) := Lib.hid (by rw [HRES.out, HFB.out]; exact decide_eq_decide.2 ⟨fun y => y.2.2.2, fun y => ⟨Or.inr rfl, by omega, by omega, y⟩⟩)
      replace CF := CF ⟨by omega, by omega⟩
      go_enter Tryd.func44, Tryd.ntmps44
      go_wp2_with fail
      rw [← HW0.out]
      refine wp_region_kept (by kernel_rfl) (by kernel_rfl) ?_
      refine wpQuiet_pure (v := ?_) (by kernel_rfl) ?_ (fun K hK => ?_)
      case refine_2 => intro W _; go_simp; try with_reducible rfl
      go_simp
      refine hK _ ?_; clear hK K
      refine wpQuiet_load_cell (by kernel_rfl) _ _ rfl ⟨w.heap.size, 2, none⟩ rfl _ Tryd.underlying4 rfl _ (fun _ h => h.cell C2.out) (fun K hK => ?_)
      go_simp
      refine hK _ ?_; clear hK K
      refine wpQuiet_pure (v := ?_) (by kernel_rfl) ?_ (fun K hK => ?_)
      case refine_2 => intro W _; go_simp; try with_reducible rfl
      go_simp
      refine hK _ ?_; clear hK K
      refine wpQuiet_pure (v := ?_) (by kernel_rfl) ?_ (fun K hK => ?_)
      case refine_2 => intro W _; go_simp; try with_reducible rfl
      go_simp
      refine hK _ ?_; clear hK K
      refine wpQuiet_load_cell (by kernel_rfl) _ _ rfl ⟨w.heap.size + 1, 3, none⟩ rfl _ Tryd.underlying3 rfl _ (fun _ h => h.cell C3.out) (fun K hK => ?_)
      go_simp
      refine hK _ ?_; clear hK K
      refine wpQuiet_pure (by kernel_rfl) (.bool true) (fun W _ => by go_simp) (fun K hK => ?_)
      go_simp
      refine hK _ ?_; clear hK K
      refine wpQuiet_pure (v := ?_) (by kernel_rfl) ?_ (fun K hK => ?_)
      case refine_2 => intro W _; go_simp; try with_reducible rfl
      go_simp
      refine hK _ ?_; clear hK K
      refine wpQuiet_pure (v := ?_) (by kernel_rfl) ?_ (fun K hK => ?_)
      case refine_2 => intro W _; go_simp; try with_reducible rfl
      go_simp
      refine hK _ ?_; clear hK K
      refine wpQuiet_pure (v := ?_) (by kernel_rfl) ?_ (fun K hK => ?_)
      case refine_2 => intro W _; go_simp; try with_reducible rfl
      go_simp
      refine hK _ ?_; clear hK K
      refine wpQuiet_load_cell (by kernel_rfl) _ _ rfl ⟨w.heap.size + 1, 3, none⟩ rfl _ Tryd.underlying3 rfl _ (fun _ h => h.cell C3.out) (fun K hK => ?_)
      go_simp
      refine hK _ ?_; clear hK K
      refine wpQuiet_pure (by kernel_rfl) (.bool true) (fun W _ => by go_simp) (fun K hK => ?_)
      go_simp
      refine hK _ ?_; clear hK K
      refine wpQuiet_pure (v := ?_) (by kernel_rfl) ?_ (fun K hK => ?_)
      case refine_2 => intro W _; go_simp; try with_reducible rfl
      go_simp
      refine hK _ ?_; clear hK K
      refine wpQuiet_pure (v := ?_) (by kernel_rfl) ?_ (fun K hK => ?_)
      case refine_2 => intro W _; go_simp; try with_reducible rfl
      go_simp
      refine hK _ ?_; clear hK K
      refine wpQuiet_pure (v := ?_) (by kernel_rfl) ?_ (fun K hK => ?_)
      case refine_2 => intro W _; go_simp; try with_reducible rfl
      go_simp
      refine hK _ ?_; clear hK K
      refine wpQuiet_load_cell (by kernel_rfl) _ _ rfl ⟨w.heap.size + 1, 3, none⟩ rfl _ Tryd.underlying3 rfl _ (fun _ h => h.cell C3.out) (fun K hK => ?_)
      go_simp
      refine hK _ ?_; clear hK K
      refine wpQuiet_pure (by kernel_rfl) (.bool true) (fun W _ => by go_simp) (fun K hK => ?_)
      go_simp
      refine hK _ ?_; clear hK K
      refine wpQuiet_pure (v := ?_) (by kernel_rfl) ?_ (fun K hK => ?_)
      case refine_2 => intro W _; go_simp; try with_reducible rfl
      go_simp
      refine hK _ ?_; clear hK K
      refine wpQuiet_pure (v := ?_) (by kernel_rfl) ?_ (fun K hK => ?_)
      case refine_2 => intro W _; go_simp; try with_reducible rfl
      go_simp
      refine hK _ ?_; clear hK K
      refine wpQuiet_pure (v := ?_) (by kernel_rfl) ?_ (fun K hK => ?_)
      case refine_2 => intro W _; go_simp; try with_reducible rfl
      go_simp
      refine hK _ ?_; clear hK K
      refine wpQuiet_load_cell (by kernel_rfl) _ _ rfl ⟨w.heap.size + 1, 4, none⟩ rfl _ Tryd.underlying28 rfl _ (fun _ h => h.cell C4.out) (fun K hK => ?_)
      go_simp
      refine hK _ ?_; clear hK K
      refine wpQuiet_pure (v := ?_) (by kernel_rfl) ?_ (fun K hK => ?_)
      case refine_2 => intro W _; go_simp; try with_reducible rfl
      go_simp
      refine hK _ ?_; clear hK K
      refine wpQuiet_load_cell (by kernel_rfl) _ _ rfl ⟨w.heap.size + 1, 3, none⟩ rfl _ Tryd.underlying3 rfl _ (fun _ h => h.cell C3.out) (fun K hK => ?_)
      go_simp
      refine hK _ ?_; clear hK K
      refine wpQuiet_call (by kernel_rfl) _ _ _ (fun W => by go_simp) (fun W h => Calls.kept_of h (CN W)) (fun K hK => ?_)
      go_simp
      refine hK _ ?_; clear hK K
      refine wpQuiet_call (by kernel_rfl) _ _ _ (fun W => by go_simp) (fun W h => Calls.kept_of h (CF W h)) (fun K hK => ?_)
      go_simp
      refine hK _ ?_; clear hK K
      refine wpQuiet_pure (v := ?_) (by kernel_rfl) ?_ (fun K hK => ?_)
      case refine_2 => intro W _; go_simp; try with_reducible rfl
      go_simp
      refine hK _ ?_; clear hK K
      refine wpQuiet_pure (v := ?_) (by kernel_rfl) ?_ (fun K hK => ?_)
      case refine_2 => intro W _; go_simp; try with_reducible rfl
      go_simp
      refine hK _ ?_; clear hK K
      refine wpQuiet_nil ?_
      intro w9 hk9
      have K9 := Lib.hid ((show Kept w W0 from HK0.out).then hk9)
      clear hk9
      go_wp2
      go_ret
      exact ⟨by rw [HF.out]; rfl, K9.out⟩
    · have b2 : (z == 0) = false := by simpa using g2
      have HF : Hid (res = false) := Lib.hid (by rw [HRES.out]; exact decide_eq_false (fun y => g2 (y.1.resolve_left (by decide))))
      clear CF g2
      go_enter Tryd.func44, Tryd.ntmps44
      go_wp2_with fail
      rw [← HW0.out]
      refine wp_region_kept (by kernel_rfl) (by kernel_rfl) ?_
      refine wpQuiet_pure (v := ?_) (by kernel_rfl) ?_ (fun K hK => ?_)
      case refine_2 => intro W _; go_simp; try with_reducible rfl
      go_simp
      refine hK _ ?_; clear hK K
      refine wpQuiet_load_cell (by kernel_rfl) _ _ rfl ⟨w.heap.size, 2, none⟩ rfl _ Tryd.underlying4 rfl _ (fun _ h => h.cell C2.out) (fun K hK => ?_)
      go_simp
      refine hK _ ?_; clear hK K
      refine wpQuiet_pure (v := ?_) (by kernel_rfl) ?_ (fun K hK => ?_)
      case refine_2 => intro W _; go_simp; try with_reducible rfl
      go_simp
      refine hK _ ?_; clear hK K
      refine wpQuiet_pure (v := ?_) (by kernel_rfl) ?_ (fun K hK => ?_)
      case refine_2 => intro W _; go_simp; try with_reducible rfl
      go_simp
      refine hK _ ?_; clear hK K
      refine wpQuiet_load_cell (by kernel_rfl) _ _ rfl ⟨w.heap.size + 1, 3, none⟩ rfl _ Tryd.underlying3 rfl _ (fun _ h => h.cell C3.out) (fun K hK => ?_)
      go_simp
      refine hK _ ?_; clear hK K
      refine wpQuiet_pure (by kernel_rfl) (.bool false) (fun W _ => by go_simp) (fun K hK => ?_)
      go_simp
      refine hK _ ?_; clear hK K
      refine wpQuiet_pure (v := ?_) (by kernel_rfl) ?_ (fun K hK => ?_)
      case refine_2 => intro W _; go_simp; try with_reducible rfl
      go_simp
      refine hK _ ?_; clear hK K
      refine wpQuiet_pure (v := ?_) (by kernel_rfl) ?_ (fun K hK => ?_)
      case refine_2 => intro W _; go_simp; try with_reducible rfl
      go_simp
      refine hK _ ?_; clear hK K
      go_big_quiet_skip
      go_big_quiet_skip
      go_big_quiet_skip
      refine wpQuiet_pure (v := ?_) (by kernel_rfl) ?_ (fun K hK => ?_)
      case refine_2 => intro W _; go_simp; try with_reducible rfl
      go_simp
      refine hK _ ?_; clear hK K
      refine wpQuiet_pure (v := ?_) (by kernel_rfl) ?_ (fun K hK => ?_)
      case refine_2 => intro W _; go_simp; try with_reducible rfl
      go_simp
      refine hK _ ?_; clear hK K
      go_big_quiet_skip
      go_big_quiet_skip
      go_big_quiet_skip
      refine wpQuiet_pure (v := ?_) (by kernel_rfl) ?_ (fun K hK => ?_)
      case refine_2 => intro W _; go_simp; try with_reducible rfl
      go_simp
      refine hK _ ?_; clear hK K
      refine wpQuiet_pure (v := ?_) (by kernel_rfl) ?_ (fun K hK => ?_)
      case refine_2 => intro W _; go_simp; try with_reducible rfl
      go_simp
      refine hK _ ?_; clear hK K
      go_big_quiet_skip
      go_big_quiet_skip
      go_big_quiet_skip
      go_big_quiet_skip
      go_big_quiet_skip
      go_big_quiet_skip
      refine wpQuiet_pure (v := ?_) (by kernel_rfl) ?_ (fun K hK => ?_)
      case refine_2 => intro W _; go_simp; try with_reducible rfl
      go_simp
      refine hK _ ?_; clear hK K
      refine wpQuiet_pure (v := ?_) (by kernel_rfl) ?_ (fun K hK => ?_)
      case refine_2 => intro W _; go_simp; try with_reducible rfl
      go_simp
      refine hK _ ?_; clear hK K
      refine wpQuiet_nil ?_
      intro w9 hk9
      have K9 := Lib.hid ((show Kept w W0 from HK0.out).then hk9)
      clear hk9
      go_wp2
      go_ret
      exact ⟨by rw [HF.out]; rfl, K9.out⟩

end Go.Proofs.YtoigembmbajopaaDoor
