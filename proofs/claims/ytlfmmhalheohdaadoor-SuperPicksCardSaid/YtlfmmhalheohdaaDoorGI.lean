/- The landed super's fields: closures that say the parts of a sector. The landed super's fields, all of them. The landed super's Put. -/
import Derived.Test.YtlfmmhalheohdaaDoorSvW
namespace Go.Proofs.YtlfmmhalheohdaaDoor
open Go.RowKit

/-- The parts of a sector ahead of its zero bytes. -/
def partsS (s : Sb) : List (List UInt8) := [magicB, leB 8 s.seq, leB 4 s.sec.toNat, leB 4 s.jou.toNat, leB 4 s.use.toNat, leB 4 s.siz.toNat, leB 2 s.runs.length, leB 2 0] ++ s.runs.map runB
theorem partsS_len (s : Sb) : (partsS s).length = 8 + s.runs.length := by unfold partsS; simp; omega
theorem partsS_head (s : Sb) (h : s.runs.length ≤ 16) : (partsS s).flatten = headS s := by
  have e4 : leB 4 s.runs.length = leB 2 s.runs.length ++ leB 2 0 := by
    show [_, _, _, _] = [_, _] ++ [_, _]
    simp only [List.cons_append, List.nil_append, List.cons.injEq, and_true, true_and]
    have : s.runs.length / 256 / 256 = 0 := by omega
    rw [this]
    exact ⟨rfl, rfl⟩
  unfold partsS headS runsB
  rw [e4, List.flatMap_def]
  simp only [List.flatten_append, List.flatten_cons, List.flatten_nil, List.append_nil, List.append_assoc]

def fnV (f : FuncId) (caps : Array Value) : Value := .func (.func f) #[] caps
def boxP (b : Nat) : Value := .pointer (some ⟨b, 0, none⟩)
/-- The closures: eight, and one for each run. -/
def fns8 (bs : Nat) : List Value := [fnV 43 #[], fnV 44 #[boxP bs], fnV 46 #[boxP bs], fnV 48 #[boxP bs], fnV 49 #[boxP bs], fnV 50 #[boxP bs], fnV 51 #[boxP bs], fnV 53 #[]]
def fnsR (Br : List Nat) : List Value := Br.map fun b => fnV 54 #[boxP b]
/-- What the closures read. -/
structure FldAt (s : Sb) (tv : Value) (bs : Nat) (Br : List Nat) (w : World) : Prop where
  row : w.heap[bs]? = some (.cells (sbC s tv) 25 (0, 0))
  runs : ∀ i (h : i < Br.length) (k : i < s.runs.length), w.heap[Br[i]]? = some (.cells #[.int .i64 s.runs[i].1, .int .i64 s.runs[i].2] 48 (0, 0))
theorem FldAt.later {s : Sb} {tv : Value} {bs : Nat} {Br : List Nat} {w w' : World} (h : FldAt s tv bs Br w) (k : Kept w w') : FldAt s tv bs Br w' := ⟨k.row h.row, fun i hi hk => k.row (h.runs i hi hk)⟩

/-- A function of the program's own. -/
def OwnFn (f : FuncId) : Prop := ∀ (args : Array Value) (w : World), (callFunc f args).run Tryd.prog w = .ok (.enter f args) w
theorem ownFn_of {f : FuncId} {fn : Func} {c : Code} (hf : Tryd.prog.funcs[f]? = some fn) (hname : (fn.name == "runtime.NumGoroutine") = false) (hb : fn.body = some c) : OwnFn f := by
  intro args w
  have h1 : fn.name ≠ "runtime.NumGoroutine" := by simpa using hname
  simp [callFunc, hf, h1, hb]

/-- What one of them says. -/
def SaysF (f : FuncId) (caps : Array Value) (t : List UInt8) (w : World) : Prop := Calls Tryd.prog f caps w fun e w' => e = .returned (.string (str t)) ∧ Below w.heap.size w w'

set_option maxRecDepth 100000 in
theorem fld1_any (w : World) : SaysF 43 #[] magicB w := by
  unfold SaysF
  go_enter Tryd.func43, Tryd.ntmps43
  go_wp2
  go_ret
  exact ⟨rfl, Below.refl _ _⟩
set_option maxRecDepth 100000 in
theorem fld8_any (w : World) : SaysF 53 #[] (leB 2 0) w := by
  unfold SaysF
  go_enter Tryd.func53, Tryd.ntmps53
  go_wp2_with fail
  refine (u16_any 0 (by decide) (by decide) _).mono ?_
  rintro e w' ⟨rfl, hb⟩
  go_wp2
  go_ret
  exact ⟨rfl, hb⟩
set_option maxRecDepth 100000 in
theorem fld2_any (q : Nat) (bs : Nat) (w : World) (c0 : w.cell? ⟨bs, 0, none⟩ = some (.int .u64 q)) : SaysF 44 #[boxP bs] (leB 8 q) w := by
  have CU := u64_any q (by omega) w
  rw [Int.toNat_natCast] at CU
  unfold SaysF boxP
  go_enter Tryd.func44, Tryd.ntmps44
  go_wp2_with fail
  refine CU.mono ?_
  rintro e w' ⟨rfl, hb⟩
  go_wp2
  go_ret
  exact ⟨rfl, hb⟩
set_option maxRecDepth 100000 in
theorem fld3_any (x : Int) (hx : 0 ≤ x ∧ x ≤ 4294967295) (bs : Nat) (w : World) (c0 : w.cell? ⟨bs, 1, none⟩ = some (.int .i64 x)) : SaysF 46 #[boxP bs] (leB 4 x.toNat) w := by
  have CU := u32_any x hx.1 hx.2 w
  have v : IntKind.u32.wrap x = x := by simp [IntKind.wrap, IntKind.bits, IntKind.signed]; omega
  unfold SaysF boxP
  clear hx
  go_enter Tryd.func46, Tryd.ntmps46
  go_wp2_with fail
  refine CU.mono ?_
  rintro e w' ⟨rfl, hb⟩
  go_wp2
  go_ret
  exact ⟨rfl, hb⟩
set_option maxRecDepth 100000 in
theorem fld4_any (x : Int) (hx : 0 ≤ x ∧ x ≤ 4294967295) (bs : Nat) (w : World) (c0 : w.cell? ⟨bs, 2, none⟩ = some (.int .i64 x)) : SaysF 48 #[boxP bs] (leB 4 x.toNat) w := by
  have CU := u32_any x hx.1 hx.2 w
  have v : IntKind.u32.wrap x = x := by simp [IntKind.wrap, IntKind.bits, IntKind.signed]; omega
  unfold SaysF boxP
  clear hx
  go_enter Tryd.func48, Tryd.ntmps48
  go_wp2_with fail
  refine CU.mono ?_
  rintro e w' ⟨rfl, hb⟩
  go_wp2
  go_ret
  exact ⟨rfl, hb⟩
set_option maxRecDepth 100000 in
theorem fld5_any (x : Int) (hx : 0 ≤ x ∧ x ≤ 4294967295) (bs : Nat) (w : World) (c0 : w.cell? ⟨bs, 3, none⟩ = some (.int .i64 x)) : SaysF 49 #[boxP bs] (leB 4 x.toNat) w := by
  have CU := u32_any x hx.1 hx.2 w
  have v : IntKind.u32.wrap x = x := by simp [IntKind.wrap, IntKind.bits, IntKind.signed]; omega
  unfold SaysF boxP
  clear hx
  go_enter Tryd.func49, Tryd.ntmps49
  go_wp2_with fail
  refine CU.mono ?_
  rintro e w' ⟨rfl, hb⟩
  go_wp2
  go_ret
  exact ⟨rfl, hb⟩
set_option maxRecDepth 100000 in
theorem fld6_any (x : Int) (hx : 0 ≤ x ∧ x ≤ 4294967295) (bs : Nat) (w : World) (c0 : w.cell? ⟨bs, 4, none⟩ = some (.int .i64 x)) : SaysF 50 #[boxP bs] (leB 4 x.toNat) w := by
  have CU := u32_any x hx.1 hx.2 w
  have v : IntKind.u32.wrap x = x := by simp [IntKind.wrap, IntKind.bits, IntKind.signed]; omega
  unfold SaysF boxP
  clear hx
  go_enter Tryd.func50, Tryd.ntmps50
  go_wp2_with fail
  refine CU.mono ?_
  rintro e w' ⟨rfl, hb⟩
  go_wp2
  go_ret
  exact ⟨rfl, hb⟩
set_option maxRecDepth 100000 in
theorem fld7_any (n : Nat) (hn : n ≤ 16) (p : Option Addr) (c : Nat) (bs : Nat) (w : World) (c0 : w.cell? ⟨bs, 5, none⟩ = some (.slice p n c)) : SaysF 51 #[boxP bs] (leB 2 n) w := by
  have CU := u16_any n (by omega) (by omega) w
  have v : IntKind.u16.wrap (n : Int) = n := by simp [IntKind.wrap, IntKind.bits, IntKind.signed]; omega
  rw [Int.toNat_natCast] at CU
  unfold SaysF boxP
  clear hn
  go_enter Tryd.func51, Tryd.ntmps51
  go_wp2_with fail
  refine CU.mono ?_
  rintro e w' ⟨rfl, hb⟩
  go_wp2
  go_ret
  exact ⟨rfl, hb⟩
set_option maxRecDepth 100000 in
set_option maxHeartbeats 1000000 in
theorem fld9_any (a m : Nat) (ha : a ≤ 65535) (hm : m ≤ 65535) (b : Nat) (w : World) (c0 : w.cell? ⟨b, 0, none⟩ = some (.int .i64 a)) (c1 : w.cell? ⟨b, 1, none⟩ = some (.int .i64 m)) : SaysF 54 #[boxP b] (leB 2 a ++ leB 2 m) w := by
  have C0 := fun W => u16_any a (by omega) (by omega) W
  have C1 := fun W => u16_any m (by omega) (by omega) W
  have v0 : IntKind.u16.wrap (a : Int) = a := by simp [IntKind.wrap, IntKind.bits, IntKind.signed]; omega
  have v1 : IntKind.u16.wrap (m : Int) = m := by simp [IntKind.wrap, IntKind.bits, IntKind.signed]; omega
  simp only [Int.toNat_natCast] at C0 C1
  unfold SaysF boxP
  rw [← str_append]
  obtain ⟨N0, h0⟩ : ∃ N, N = str (leB 2 a) := ⟨_, rfl⟩
  obtain ⟨N1, h1⟩ : ∃ N, N = str (leB 2 m) := ⟨_, rfl⟩
  have z0 : N0.size = 2 := by rw [h0, str_size, leB_len]
  have z1 : N1.size = 2 := by rw [h1, str_size, leB_len]
  rw [← h0] at C0 ⊢
  rw [← h1] at C1 ⊢
  clear ha hm h0 h1
  go_enter Tryd.func54, Tryd.ntmps54
  go_wp2_with fail
  refine wp_region_kept (by kernel_rfl) (by kernel_rfl) ?_
  refine wpQuiet_pure (v := ?_) (by kernel_rfl) ?_ (fun K hK => ?_)
  case refine_2 => intro W _; go_simp; try with_reducible rfl
  go_simp
  refine hK _ ?_; clear hK K
  refine wpQuiet_pure (v := ?_) (by kernel_rfl) ?_ (fun K hK => ?_)
  case refine_2 => intro W hW; have e0 := hW.cell c0; go_simp; try with_reducible rfl
  go_simp
  refine hK _ ?_; clear hK K
  refine wpQuiet_pure (v := ?_) (by kernel_rfl) ?_ (fun K hK => ?_)
  case refine_2 => intro W _; go_simp; try with_reducible rfl
  go_simp
  refine hK _ ?_; clear hK K
  refine wpQuiet_call (by kernel_rfl) _ _ _ (fun W => by go_simp) (fun W h => Calls.kept_of h (C0 W)) (fun K hK => ?_)
  go_simp
  refine hK _ ?_; clear hK K
  refine wpQuiet_pure (v := ?_) (by kernel_rfl) ?_ (fun K hK => ?_)
  case refine_2 => intro W _; go_simp; try with_reducible rfl
  go_simp
  refine hK _ ?_; clear hK K
  refine wpQuiet_pure (v := ?_) (by kernel_rfl) ?_ (fun K hK => ?_)
  case refine_2 => intro W hW; have e0 := hW.cell c1; go_simp; try with_reducible rfl
  go_simp
  refine hK _ ?_; clear hK K
  refine wpQuiet_pure (v := ?_) (by kernel_rfl) ?_ (fun K hK => ?_)
  case refine_2 => intro W _; go_simp; try with_reducible rfl
  go_simp
  refine hK _ ?_; clear hK K
  refine wpQuiet_call (by kernel_rfl) _ _ _ (fun W => by go_simp) (fun W h => Calls.kept_of h (C1 W)) (fun K hK => ?_)
  go_simp
  refine hK _ ?_; clear hK K
  refine wpQuiet_pure (v := ?_) (by kernel_rfl) ?_ (fun K hK => ?_)
  case refine_2 => intro W _; go_simp; try with_reducible rfl
  go_simp
  refine hK _ ?_; clear hK K
  refine wpQuiet_pure (v := ?_) (by kernel_rfl) ?_ (fun K hK => ?_)
  case refine_2 => intro W _; go_simp; try with_reducible rfl
  go_simp
  refine hK _ ?_; clear hK K
  refine wpQuiet_nil ?_
  intro w1 hk1

  go_wp2
  go_ret
  exact ⟨rfl, hk1⟩

theorem fns_get (bs : Nat) (Br : List Nat) (i : Nat) (h : i < (fns8 bs ++ fnsR Br).length) : ∃ f caps, (fns8 bs ++ fnsR Br)[i] = fnV f caps := by
  have : ∀ x ∈ fns8 bs ++ fnsR Br, ∃ f caps, x = fnV f caps := by
    intro x hx
    rcases List.mem_append.1 hx with hx | hx
    · unfold fns8 at hx
      simp only [List.mem_cons, List.not_mem_nil, or_false] at hx
      rcases hx with rfl | rfl | rfl | rfl | rfl | rfl | rfl | rfl <;> exact ⟨_, _, rfl⟩
    · obtain ⟨b, _, rfl⟩ := List.mem_map.1 hx
      exact ⟨_, _, rfl⟩
  exact this _ (List.getElem_mem h)

/-- Each closure says its part. -/
theorem fns_say (s : Sb) (hm : maySP s) (p : Option Addr) (c bs : Nat) (Br : List Nat) (hl : Br.length = s.runs.length) (w : World) (h : FldAt s (.slice p s.runs.length c) bs Br w) (i : Nat) (hi : i < 8 + s.runs.length) :
    ∃ f caps, (fns8 bs ++ fnsR Br)[i]? = some (fnV f caps) ∧ OwnFn f ∧ SaysF f caps ((partsS s)[i]'(by rw [partsS_len]; exact hi)) w := by
  have m1 := hm.sec
  have m2 := hm.jou
  have m3 := hm.use
  have m4 := hm.siz
  have m5 := hm.len
  have cl : ∀ j, w.cell? ⟨bs, j, none⟩ = (sbC s (.slice p s.runs.length c))[j]? := fun j => cell_of_row _ _ _ _ _ _ h.row
  match i, hi with
  | 0, _ => exact ⟨_, _, rfl, ownFn_of Tryd.func43 (by kernel_rfl) rfl, fld1_any w⟩
  | 1, _ => exact ⟨_, _, rfl, ownFn_of Tryd.func44 (by kernel_rfl) rfl, fld2_any s.seq bs w (by rw [cl]; rfl)⟩
  | 2, _ => exact ⟨_, _, rfl, ownFn_of Tryd.func46 (by kernel_rfl) rfl, fld3_any s.sec (by omega) bs w (by rw [cl]; rfl)⟩
  | 3, _ => exact ⟨_, _, rfl, ownFn_of Tryd.func48 (by kernel_rfl) rfl, fld4_any s.jou (by omega) bs w (by rw [cl]; rfl)⟩
  | 4, _ => exact ⟨_, _, rfl, ownFn_of Tryd.func49 (by kernel_rfl) rfl, fld5_any s.use (by omega) bs w (by rw [cl]; rfl)⟩
  | 5, _ => exact ⟨_, _, rfl, ownFn_of Tryd.func50 (by kernel_rfl) rfl, fld6_any s.siz (by omega) bs w (by rw [cl]; rfl)⟩
  | 6, _ => exact ⟨_, _, rfl, ownFn_of Tryd.func51 (by kernel_rfl) rfl, fld7_any s.runs.length m5 p c bs w (by rw [cl]; rfl)⟩
  | 7, _ => exact ⟨_, _, rfl, ownFn_of Tryd.func53 (by kernel_rfl) rfl, fld8_any w⟩
  | k + 8, hi =>
    have hk : k < s.runs.length := by omega
    have hkb : k < Br.length := by omega
    have hv := (hm.runs k hk).1
    rw [getD_at hk] at hv
    have hr := h.runs k hkb hk
    have hp : (partsS s)[k + 8]'(by rw [partsS_len]; omega) = runB s.runs[k] := by
      unfold partsS
      rw [List.getElem_append_right (by simp)]
      simp
    rw [hp]
    obtain ⟨r, hrr⟩ : ∃ r, r = s.runs[k] := ⟨_, rfl⟩
    rw [← hrr] at hv hr ⊢
    obtain ⟨a, m⟩ := r
    unfold fitR at hv
    simp only at hv hr
    obtain ⟨a, rfl⟩ : ∃ k : Nat, a = k := ⟨a.toNat, by omega⟩
    obtain ⟨m, rfl⟩ : ∃ k : Nat, m = k := ⟨m.toNat, by omega⟩
    refine ⟨54, #[boxP Br[k]], ?_, ownFn_of Tryd.func54 (by kernel_rfl) rfl, ?_⟩
    · rw [List.getElem?_append_right (by unfold fns8; simp)]
      unfold fns8 fnsR
      simp [hkb]
    · have := fld9_any a m (by omega) (by omega) Br[k] w (by rw [cell_of_row _ _ _ _ _ _ hr]; rfl) (by rw [cell_of_row _ _ _ _ _ _ hr]; rfl)
      unfold runB
      simpa using this

end Go.Proofs.YtlfmmhalheohdaaDoor
namespace Go.Proofs.YtlfmmhalheohdaaDoor
open Go.RowKit

theorem infoFn : (Tryd.prog.info? 55).map (fun i => (i.zero, i.size, i.bytes)) = some (some .nilFunc, 1, 8) := by kernel_rfl

/-- What fields returns. -/
def FldPost (s : Sb) (p : Option Addr) (c : Nat) (w : World) (e : Ending) (w' : World) : Prop :=
  ∃ u bs Br, e = .returned u ∧ Br.length = s.runs.length ∧ w'.ownsRow w.heap.size 55 1 u (8 + s.runs.length) (fns8 bs ++ fnsR Br) ∧ FldAt s (.slice p s.runs.length c) bs Br w' ∧ Below w.heap.size w w'

theorem fns_one (bs : Nat) (Br : List Nat) : ∀ x ∈ fns8 bs ++ fnsR Br, x.oneCell' = true := by
  intro x hx
  rcases List.mem_append.1 hx with hx | hx
  · unfold fns8 at hx
    simp only [List.mem_cons, List.not_mem_nil, or_false] at hx
    rcases hx with rfl | rfl | rfl | rfl | rfl | rfl | rfl | rfl <;> rfl
  · obtain ⟨b, _, rfl⟩ := List.mem_map.1 hx
    rfl

theorem FldAt.grow {s : Sb} {tv : Value} {bs B m : Nat} {Br : List Nat} {u : Value} {xs : List Value} {w w' : World} (h : FldAt s tv bs Br w) (ho : w.ownsRow B 55 1 u m xs) (hg : w.grownBy w' u.ownBlock) : FldAt s tv bs Br w' := by
  have key : ∀ (g : Nat) (cs : Array Value) (T : TypeId), T ≠ 55 → w.heap[g]? = some (.cells cs T (0, 0)) → w'.heap[g]? = some (.cells cs T (0, 0)) := by
    intro g cs T hT hr
    rw [hg.block g (Array.getElem?_eq_some_iff.1 hr).1 (fun e => by
      obtain ⟨cur, hc⟩ := own_typ ho g e.symm
      rw [hr] at hc
      injection hc with hc
      injection hc with _ e2 _
      exact hT e2)]
    exact hr
  exact ⟨key _ _ _ (by decide) h.row, fun i hi hk => key _ _ _ (by decide) (h.runs i hi hk)⟩

set_option maxRecDepth 100000 in
set_option maxHeartbeats 8000000 in
theorem fields_any (s : Sb) (p : Option Addr) (c : Nat) (w : World) (hr : RunsAt s.runs (.slice p s.runs.length c) w) (hl : s.runs.length ≤ 16) :
    Calls Tryd.prog 24 #[sbV s (.slice p s.runs.length c)] w (FldPost s p c w) := by
  obtain ⟨p', c', he, hcap, hc⟩ := hr.out
  simp only [Value.slice.injEq, true_and] at he
  obtain ⟨rfl, rfl⟩ := he
  obtain ⟨i0, hi, hz0⟩ := Option.map_eq_some_iff.1 infoFn
  simp only [Prod.mk.injEq] at hz0
  obtain ⟨hz0, hz1, hz2⟩ := hz0
  have HI := Lib.hid hi
  have HZ0 := Lib.hid hz0
  have HZ1 := Lib.hid hz1
  have HZ2 := Lib.hid hz2
  obtain ⟨q, se, jo, us, si, rn⟩ := s
  simp only at hr hl hc
  have HC := Lib.hid hc
  obtain ⟨s, hs⟩ : ∃ s : Sb, s = ⟨q, se, jo, us, si, rn⟩ := ⟨_, rfl⟩
  have HS := Lib.hid hs
  rw [← hs]
  rw [show sbV s (.slice p s.runs.length c) = .agg #[.int .u64 q, .int .i64 se, .int .i64 jo, .int .i64 us, .int .i64 si, .slice p rn.length c] by rw [hs]; rfl]
  have HRN : Hid (s.runs = rn) := Lib.hid (by rw [hs])
  obtain ⟨n, hn⟩ : ∃ n, n = rn.length := ⟨_, rfl⟩
  have HN := Lib.hid hn
  rw [← hn] at hl ⊢
  obtain ⟨W0, hW0⟩ : ∃ W0, W0 = w.alloc (.cells #[.int .u64 q, .int .i64 se, .int .i64 jo, .int .i64 us, .int .i64 si, .slice p n c] 25) := ⟨_, rfl⟩
  have hr0 : W0.heap[w.heap.size]? = some (.cells (sbC s (.slice p s.runs.length c)) 25 (0, 0)) := by rw [hW0, hs, hn]; exact heap_alloc_last w _
  have hk0 : Kept w W0 := by rw [hW0]; exact box_below _ _
  have hz0 : W0.heap.size = w.heap.size + 1 := by rw [hW0]; simp
  obtain ⟨W1, hW1⟩ : ∃ W1, W1 = W0.alloc (.cells (fns8 w.heap.size).toArray 55) := ⟨_, rfl⟩
  have hk1 : Kept W0 W1 := by rw [hW1]; exact box_below _ _
  have hown1 : W1.ownsRow w.heap.size 55 1 (.slice (some ⟨w.heap.size + 1, 0, none⟩) 8 8) 8 (fns8 w.heap.size ++ fnsR []) := by
    refine ⟨rfl, Or.inr ⟨w.heap.size + 1, 8, (fns8 w.heap.size).toArray, rfl, by omega, ?_, by omega, by unfold maxLen; omega, rfl, rfl⟩⟩
    rw [hW1, ← hz0]; exact heap_alloc_last W0 _
  have HF1 : Hid (FldAt s (.slice p s.runs.length c) w.heap.size [] W1) := Lib.hid ⟨hk1.row hr0, fun i hi => by simp at hi⟩
  have HO1 := Lib.hid hown1
  have HK1 : Hid (Kept w W1) := Lib.hid (hk0.then hk1)
  have HSZ1 : Hid (W1.heap.size = w.heap.size + 2) := Lib.hid (by rw [hW1]; simp [hz0])
  have HW1 : Hid (W1 = (w.alloc (.cells #[.int .u64 q, .int .i64 se, .int .i64 jo, .int .i64 us, .int .i64 si, .slice p n c] 25)).alloc (.cells #[.func (.func 43) #[] #[], .func (.func 44) #[] #[.pointer (some ⟨w.heap.size, 0, none⟩)], .func (.func 46) #[] #[.pointer (some ⟨w.heap.size, 0, none⟩)], .func (.func 48) #[] #[.pointer (some ⟨w.heap.size, 0, none⟩)], .func (.func 49) #[] #[.pointer (some ⟨w.heap.size, 0, none⟩)], .func (.func 50) #[] #[.pointer (some ⟨w.heap.size, 0, none⟩)], .func (.func 51) #[] #[.pointer (some ⟨w.heap.size, 0, none⟩)], .func (.func 53) #[] #[]] 55)) := Lib.hid (by rw [hW1, hW0]; rfl)
  clear hi hz0 hz1 hz2 hr hc hs hn hr0 hk0 hW0 hk1 hown1 hW1
  go_enter Tryd.func24, Tryd.ntmps24
  go_wp2
  rw [← HW1.out]
  go_loopg [3, 16] n (fun gh s3 s16 wx => ∃ (k : Nat) (Br : List Nat), k + gh = n ∧ s16 = .int .i64 k ∧ Br.length = k ∧ Hid (wx.ownsRow w.heap.size 55 1 s3 (8 + k) (fns8 w.heap.size ++ fnsR Br)) ∧ Hid (FldAt s (.slice p s.runs.length c) w.heap.size Br wx) ∧ Hid (Kept w wx))
  case atStart => exact ⟨0, [], by omega, rfl, rfl, HO1, HF1, HK1⟩
  case round =>
    clear HO1 HF1
    obtain ⟨k, Br, hk, rfl, hbr, HO, HF, HK⟩ := hrel
    by_cases hkn : k < n
    · have hki : (k : Int) < n := by omega
      have bk : decide ((k : Int) < (n : Int)) = true := by simpa using hki
      have hki0 : (0 : Int) ≤ k := by omega
      have hka : k < rn.length := by rw [← HN.out]; exact hkn
      rcases HC.out with h0 | ⟨ba, oa, rfl, hcell⟩
      · omega
      have d1 := HK.out.cell (hcell k hka).1
      have d2 := HK.out.cell (hcell k hka).2
      obtain ⟨r, hrr⟩ : ∃ r, r = rn[k] := ⟨_, rfl⟩
      have HRR := Lib.hid hrr
      rw [← hrr] at d1 d2
      obtain ⟨a, m⟩ := r
      simp only at d1 d2
      obtain ⟨k1, hk1⟩ : ∃ k1, k1 = k + 1 := ⟨_, rfl⟩
      have vk1 : IntKind.i64.wrap ((k : Int) + 1) = (k1 : Int) := by rw [show (k : Int) + 1 = (k1 : Int) by omega]; exact IntWalk.i64_in _ (by omega)
      obtain ⟨WB, hWB⟩ : ∃ WB, WB = wr.alloc (.cells #[.int .i64 a, .int .i64 m] 48) := ⟨_, rfl⟩
      have hkB : Kept wr WB := by rw [hWB]; exact box_below _ _
      have hrB : WB.heap[wr.heap.size]? = some (.cells #[.int .i64 a, .int .i64 m] 48 (0, 0)) := by rw [hWB]; exact heap_alloc_last wr _
      have hzB : WB.heap.size = wr.heap.size + 1 := by rw [hWB]; simp
      obtain ⟨WT, hWT⟩ : ∃ WT, WT = WB.alloc (.cells #[fnV 54 #[boxP wr.heap.size]] 55) := ⟨_, rfl⟩
      have hkT : Kept WB WT := by rw [hWT]; exact box_below _ _
      have hkwT : Kept wr WT := hkB.then hkT
      have HOT : Hid (WT.ownsRow w.heap.size 55 1 u3 (8 + k) (fns8 w.heap.size ++ fnsR Br)) := Lib.hid (own_stay HO.out (fun j hj => hkwT.block j (HO.out.lt j hj).2))
      have HFT : Hid (FlatAt 1 1 [fnV 54 #[boxP wr.heap.size]] (.slice (some ⟨wr.heap.size + 1, 0, none⟩) 1 1) WT) := Lib.hid (by
        rw [← hzB, hWT]
        exact FlatAt.new WB _ 1 1 1 #[fnV 54 #[boxP wr.heap.size]] rfl (by intro x hx; simp at hx; subst hx; rfl))
      have HFD : Hid (FldAt s (.slice (some ⟨ba, oa, none⟩) s.runs.length c) w.heap.size (Br ++ [wr.heap.size]) WT) := Lib.hid (by
        have hf := HF.out.later hkwT
        refine ⟨hf.row, fun i hi hki => ?_⟩
        by_cases hib : i < Br.length
        · rw [List.getElem_append_left hib]; exact hf.runs i hib hki
        · have hie : i = Br.length := by rw [List.length_append] at hi; simp at hi; omega
          subst hie
          rw [List.getElem_append_right (Nat.le_refl _)]
          simp only [Nat.sub_self, List.getElem_cons_zero]
          have e1 : s.runs[Br.length] = (a, m) := by
            rw [HRR.out]
            have := HRN.out
            subst this
            congr 1
          rw [e1]
          exact hkT.row hrB)
      have HKT : Hid (Kept w WT) := Lib.hid (HK.out.then hkwT)
      have HZT : Hid (w.heap.size ≤ WT.heap.size) := Lib.hid (HK.out.then hkwT).size
      have HWT : Hid (WT = (wr.alloc (.cells #[.int .i64 a, .int .i64 m] 48)).alloc (.cells #[.func (.func 54) #[] #[.pointer (some ⟨wr.heap.size, 0, none⟩)]] 55)) := Lib.hid (by rw [hWT, hWB]; rfl)
      have HBR := Lib.hid hbr
      have hk16 : k1 ≤ n := by omega
      clear hcell hrr hWB hkB hrB hzB hWT hkT hkwT hbr HF HO HK
      go_wp2_with (at_builtin; rw [← HWT.out]; refine wpList_append_flat rfl _ _ 53 rfl w.heap.size 55 i0 .nilFunc 1 8 Tryd.underlying53 HI.out HZ0.out HZ1.out HZ2.out rfl (by decide) _ _ _ rfl HOT.out _ 1 [fnV 54 #[boxP wr.heap.size]] rfl HFT.out ?wa1 ?wa2 ?wa3 ?_)
      case wa1 => unfold maxLen; omega
      case wa2 => omega
      case wa3 => exact HZT.out
      intro v1 w1 hown1 hgr1 _
      have K1 : Hid (Kept w w1) := Lib.hid (Below.grown (show Kept w _ from HKT.out) hgr1 HZT.out (fun j hj => (HOT.out.lt j hj).1))
      have HF1 : Hid (FldAt s (.slice (some ⟨ba, oa, none⟩) s.runs.length c) w.heap.size (Br ++ [wr.heap.size]) w1) := Lib.hid (HFD.out.grow HOT.out hgr1)
      have HO1 : Hid (w1.ownsRow w.heap.size 55 1 v1 (8 + k1) (fns8 w.heap.size ++ fnsR (Br ++ [wr.heap.size]))) := Lib.hid (by
        have e1 : fns8 w.heap.size ++ fnsR (Br ++ [wr.heap.size]) = fns8 w.heap.size ++ fnsR Br ++ [fnV 54 #[boxP wr.heap.size]] := by
          unfold fnsR; rw [List.map_append, List.append_assoc]; rfl
        rw [e1, hk1, ← Nat.add_assoc]
        exact hown1)
      clear hown1 hgr1 HOT HFT HFD HKT HZT HWT
      go_wp2
      go_roundg (n - k1)
      case measure => omega
      case rel => exact ⟨k1, Br ++ [wr.heap.size], by omega, by first | rfl | (congr 1; omega), by rw [List.length_append, HBR.out]; simp; omega, HO1, HF1, K1⟩
    · have hki : ¬ (k : Int) < n := by omega
      have bk : decide ((k : Int) < (n : Int)) = false := by simpa using hki
      obtain rfl : k = n := by omega
      have HBR : Hid (Br.length = s.runs.length) := Lib.hid (by rw [HRN.out, ← HN.out]; exact hbr)
      clear hbr
      go_wp2
      go_ret
      exact ⟨_, w.heap.size, Br, rfl, HBR.out, by rw [HRN.out, ← HN.out]; exact HO.out, HF.out, HK.out⟩

end Go.Proofs.YtlfmmhalheohdaaDoor
namespace Go.Proofs.YtlfmmhalheohdaaDoor
open Go.RowKit

theorem flat_take (L : List (List UInt8)) (k : Nat) (h : k < L.length) : (L.take (k + 1)).flatten = (L.take k).flatten ++ L[k] := by
  rw [List.take_succ_eq_append_getElem h, List.flatten_append]; simp
theorem flat_le (L : List (List UInt8)) (k : Nat) : ((L.take k).flatten).length ≤ L.flatten.length := by
  conv => rhs; rw [← List.take_append_drop k L]
  rw [List.flatten_append, List.length_append]; omega
theorem FldAt.but {s : Sb} {tv : Value} {bs b : Nat} {Br : List Nat} {C : Array Value} {w w' : World} (h : FldAt s tv bs Br w) (hb : w.heap[b]? = some (.cells C 52 (0, 0))) (k : KeptBut b w w') : FldAt s tv bs Br w' := by
  have key : ∀ (g : Nat) (cs : Array Value) (T : TypeId), T ≠ 52 → T ≠ 5 → w.heap[g]? = some (.cells cs T (0, 0)) → w'.heap[g]? = some (.cells cs T (0, 0)) := by
    intro g cs T hT hU hr
    refine k.heap hr (fun e => ?_) hU
    subst e
    rw [hr] at hb
    injection hb with hb
    injection hb with _ e2 _
    exact hT e2
  exact ⟨key _ _ _ (by decide) (by decide) h.row, fun i hi hk => key _ _ _ (by decide) (by decide) (h.runs i hi hk)⟩
theorem fill_put (l : List UInt8) : fillB (str l) 124 = str (fillL l 124) := by
  unfold fillB fillL
  rw [str_append, str_size]
  congr 3
  omega

set_option maxRecDepth 100000 in
set_option maxHeartbeats 16000000 in
theorem putOk : YPutOk := by
  intro s v w h hl hT
  obtain ⟨tv, rfl, hr, hwf⟩ := h
  obtain ⟨p, c, htv, -, -⟩ := hr.out
  subst htv
  obtain ⟨W0, hW0⟩ : ∃ W0, W0 = w.alloc (.cells (sbC s (.slice p s.runs.length c)) 25) := ⟨_, rfl⟩
  have hk0 : Kept w W0 := by rw [hW0]; exact box_below _ _
  have hrow0 : W0.heap[w.heap.size]? = some (.cells (sbC s (.slice p s.runs.length c)) 25 (0, 0)) := by rw [hW0]; exact heap_alloc_last w _
  have CK := checkOk s (sbV s (.slice p s.runs.length c)) W0 ⟨_, rfl, hr.later hk0, hwf⟩ hl
  obtain ⟨res, hres⟩ : ∃ res, res = putV s := ⟨_, rfl⟩
  have HRES : Hid (res = str (if mayS s then putS s else [])) := Lib.hid hres
  rw [← hres]
  obtain ⟨ce, hce⟩ : ∃ ce, ce = chkE s := ⟨_, rfl⟩
  have HCE : Hid (ce = if mayS s then 0 else 1) := Lib.hid hce
  rw [← hce] at CK ⊢
  have HK0 := Lib.hid hk0
  have HROW0 := Lib.hid hrow0
  have HR := Lib.hid hr
  have HT := Lib.hid hT
  have CF : Hid (s.runs.length ≤ 16 → ∀ W, Kept w W → Calls Tryd.prog 24 #[sbV s (.slice p s.runs.length c)] W (FldPost s p c W)) := Lib.hid (fun h16 W k => fields_any s p c W (hr.later k) h16)
  obtain ⟨vs, hvs⟩ : ∃ vs, vs = Value.slice p s.runs.length c := ⟨_, rfl⟩
  have CS : Hid (maySP s → ∀ bs Br W i, Br.length = s.runs.length → FldAt s vs bs Br W → (hi : i < 8 + s.runs.length) → ∃ f caps, (fns8 bs ++ fnsR Br)[i]? = some (fnV f caps) ∧ OwnFn f ∧ SaysF f caps ((partsS s)[i]'(by rw [partsS_len]; exact hi)) W) := Lib.hid (fun hm bs Br W i hbr hf hi => fns_say s hm p c bs Br hbr W (by rw [← hvs]; exact hf) i hi)
  have CF2 : Hid (s.runs.length ≤ 16 → ∀ W, Kept w W → Calls Tryd.prog 24 #[sbV s vs] W fun e w' => ∃ u bs Br, e = .returned u ∧ Br.length = s.runs.length ∧ w'.ownsRow W.heap.size 55 1 u (8 + s.runs.length) (fns8 bs ++ fnsR Br) ∧ FldAt s vs bs Br w' ∧ Below W.heap.size W w') := Lib.hid (by rw [hvs]; exact CF.out)
  rw [← hvs] at CK HROW0 hW0 ⊢
  obtain ⟨sp, sn, sc, hsv⟩ : ∃ sp sn sc, vs = Value.slice sp sn sc := ⟨_, _, _, hvs⟩
  have HW0 := Lib.hid hW0
  clear hr hwf hk0 hrow0 hres hce hT hl CF hvs hW0
  obtain ⟨PS, hPS⟩ : ∃ PS, PS = partsS s := ⟨_, rfl⟩
  have HPL : Hid (PS.length = 8 + s.runs.length) := Lib.hid (by rw [hPS, partsS_len])
  have HPF : Hid (s.runs.length ≤ 16 → PS.flatten = headS s) := Lib.hid (by rw [hPS]; exact partsS_head s)
  have HPQ := Lib.hid hPS
  clear hPS
  have HHL := Lib.hid (headS_len s)
  obtain ⟨N, hN⟩ : ∃ N, N = 8 + s.runs.length := ⟨_, rfl⟩
  have HN := Lib.hid hN
  clear hN
  cases hmay : mayS s with
  | false =>
    obtain rfl : ce = 1 := by rw [HCE.out, hmay]; rfl
    obtain rfl : res = ⟨#[]⟩ := by rw [HRES.out, hmay]; rfl
    clear hmay HCE HRES CF2 CS HPL HPF HPQ HHL HN HT HR
    subst hsv
    unfold sbV sbC at CK ⊢
    unfold sbC at HROW0 HW0
    go_enter Tryd.func10, Tryd.ntmps10
    go_wp2_with fail
    rw [← HW0.out]
    refine CK.mono ?_
    rintro e w1 ⟨rfl, hb1⟩
    go_wp2
    go_ret2
    exact ⟨rfl, HK0.out.then hb1⟩
  | true =>
    have hm : maySP s := of_decide_eq_true hmay
    obtain rfl : ce = 0 := by rw [HCE.out, hmay]; rfl
    have HRS : Hid (res = str (putS s)) := Lib.hid (by rw [HRES.out, hmay]; rfl)
    have hl16 := hm.len
    have CF3 := Lib.hid (CF2.out hl16)
    have CS3 := Lib.hid (CS.out hm)
    have HPH := Lib.hid (HPF.out hl16)
    have hN24 : N ≤ 24 := by rw [HN.out]; omega
    have HBL : Hid (PS.flatten.length ≤ 100) := Lib.hid (by rw [HPH.out, HHL.out]; omega)
    clear hmay hm hl16 HCE HRES CF2 CS HPF
    subst hsv
    unfold sbV sbC at CK CF3 ⊢
    unfold sbC at HROW0 HW0
    go_enter Tryd.func10, Tryd.ntmps10
    go_wp2_with fail
    rw [← HW0.out]
    refine CK.mono ?_
    rintro e w1 ⟨rfl, hb1⟩
    have hrow1 := Kept.row hb1 HROW0.out
    obtain ⟨WB, hWB⟩ : ∃ WB, WB = w1.alloc (.cells #[.pointer none, .slice none 0 0] 52) := ⟨_, rfl⟩
    have hkB : Kept w1 WB := by rw [hWB]; exact box_below _ _
    have hrB := hkB.row hrow1
    have hkw : Kept w WB := ((HK0.out.then hb1)).then hkB
    have g0 : WB.cell? ⟨w.heap.size, 0, none⟩ = some (.int .u64 s.seq) := by rw [cell_of_row _ _ _ _ _ _ hrB]; rfl
    have g1 : WB.cell? ⟨w.heap.size, 1, none⟩ = some (.int .i64 s.sec) := by rw [cell_of_row _ _ _ _ _ _ hrB]; rfl
    have g2 : WB.cell? ⟨w.heap.size, 2, none⟩ = some (.int .i64 s.jou) := by rw [cell_of_row _ _ _ _ _ _ hrB]; rfl
    have g3 : WB.cell? ⟨w.heap.size, 3, none⟩ = some (.int .i64 s.use) := by rw [cell_of_row _ _ _ _ _ _ hrB]; rfl
    have g4 : WB.cell? ⟨w.heap.size, 4, none⟩ = some (.int .i64 s.siz) := by rw [cell_of_row _ _ _ _ _ _ hrB]; rfl
    have g5 : WB.cell? ⟨w.heap.size, 5, none⟩ = some (.slice sp sn sc) := by rw [cell_of_row _ _ _ _ _ _ hrB]; rfl
    have HBD : Hid (BldAt w1.heap.size w1.heap.size [] WB) := Lib.hid (by rw [hWB]; exact Lib.fresh_isBuilder _ _ w1)
    have HKW := Lib.hid hkw
    have HWB := Lib.hid hWB
    have HK1 : Hid (Kept w w1) := Lib.hid (HK0.out.then hb1)
    rw [hWB] at g0 g1 g2 g3 g4 g5
    clear hrow1 hkB hrB hkw hWB hb1 CK
    go_wp2_with fail
    rw [← HWB.out]
    refine (CF3.out WB HKW.out).mono ?_
    rintro e w2 ⟨u, bs, Br, rfl, hbr, hown, hfd, hb2⟩
    obtain ⟨pu, cu, rfl, hcu, hcell⟩ := own_slice hown
    rcases hcell with h0 | ⟨g, rfl, hgb, hcell⟩
    · omega
    obtain ⟨cur, hcur⟩ := own_typ hown g rfl
    have HGC : Hid (∀ j x, (fns8 bs ++ fnsR Br)[j]? = some x → cur[j]? = some x) := Lib.hid (fun j x hx => by
      have h1 := hcell j x hx
      rwa [cell_of_row _ _ _ _ _ _ hcur] at h1)
    have HGR0 := Lib.hid hcur
    have HFD0 := Lib.hid hfd
    have HBR := Lib.hid hbr
    have HBD0 : Hid (BldAt w1.heap.size w1.heap.size ((PS.take 0).flatten) w2) := Lib.hid (HBD.out.later hb2)
    have HKW0 : Hid (Kept w w2) := Lib.hid (HKW.out.then hb2)
    have hszB : w1.heap.size ≤ WB.heap.size := by rw [HWB.out]; simp
    have hsz1 : w1.heap.size ≤ w2.heap.size := by have := hb2.size; omega
    have HSZ0 := Lib.hid hsz1
    rw [← HN.out] at hcu ⊢
    clear hbr hown hfd hb2 hcell hcur g0 g1 g2 g3 g4 g5 HBD HWB CF3 HKW hsz1 hszB hgb
    go_wp2
    go_loopg [16] N (fun gh s16 wx => ∃ k : Nat, k + gh = N ∧ s16 = .int .i64 k ∧ Hid (BldAt w1.heap.size w1.heap.size ((PS.take k).flatten) wx) ∧ Hid (FldAt s (.slice sp sn sc) bs Br wx) ∧ Hid (wx.heap[g]? = some (.cells cur 55 (0, 0))) ∧ Hid (Kept w wx) ∧ Hid (w1.heap.size ≤ wx.heap.size))
    case atStart => exact ⟨0, by omega, rfl, HBD0, HFD0, HGR0, HKW0, HSZ0⟩
    case round =>
      clear HBD0 HFD0 HGR0 HKW0 HSZ0
      obtain ⟨k, hk, rfl, HBD, HFD, HGR, HKW, HSZ⟩ := hrel
      by_cases hkn : k < N
      · have hki : (k : Int) < N := by omega
        have bk : decide ((k : Int) < (N : Int)) = true := by simpa using hki
        have hki0 : (0 : Int) ≤ k := by omega
        have hkp : k < PS.length := by rw [HPL.out, ← HN.out]; exact hkn
        obtain ⟨f, caps, hfn, hent, hsay⟩ := CS3.out bs Br wr k HBR.out HFD.out (by rw [← HN.out]; exact hkn)
        have d0 : wr.cell? ⟨g, k, none⟩ = some (.func (.func f) #[] caps) := by rw [cell_of_row _ _ _ _ _ _ HGR.out]; exact HGC.out _ _ hfn
        obtain ⟨k1, hk1⟩ : ∃ k1, k1 = k + 1 := ⟨_, rfl⟩
        have vk1 : IntKind.i64.wrap ((k : Int) + 1) = (k1 : Int) := by rw [show (k : Int) + 1 = (k1 : Int) by omega]; exact IntWalk.i64_in _ (by omega)
        have hft := flat_take PS k hkp
        have hfl := flat_le PS k1
        rw [← hk1] at hft
        have hpe : (partsS s)[k]'(by rw [partsS_len, ← HN.out]; exact hkn) = PS[k] := by
          have := HPQ.out
          subst this
          rfl
        rw [hpe] at hsay
        obtain ⟨T, hTe⟩ : ∃ T, T = PS[k] := ⟨_, rfl⟩
        rw [← hTe] at hsay hft
        have hlen : ((PS.take k).flatten).length + T.length ≤ 100 := by
          have := HBL.out
          rw [hft, List.length_append] at hfl
          omega
        obtain ⟨TS, hTS⟩ : ∃ TS, TS = str T := ⟨_, rfl⟩
        have HNXT : Hid ((PS.take k).flatten ++ TS.data.toList = (PS.take k1).flatten) := Lib.hid (by rw [hft, hTS, str_list])
        have hTz : TS.size = T.length := by rw [hTS, str_size]
        unfold SaysF at hsay
        rw [← hTS] at hsay
        have HLN : Hid (((PS.take k).flatten).length + TS.size ≤ 1000000) := Lib.hid (by omega)
        clear hft hfl hpe hTe hTS hTz hlen hfn hkp
        have HENT := Lib.hid (hent caps wr)
        clear hent
        go_wp2_with fail
        rw [HENT.out, Oper.upon_enter]
        refine hsay.mono ?_
        rintro e w3 ⟨rfl, hb3⟩
        have CW := bwrite_any w1.heap.size w1.heap.size _ TS w3 HLN.out (by have := hb3.size; have := HSZ.out; omega) (HBD.out.later hb3)
        obtain ⟨pb, vb, -, hrb, -⟩ := (HBD.out.later hb3).row
        have HRB := Lib.hid hrb
        have HFD3 : Hid (FldAt s (.slice sp sn sc) bs Br w3) := Lib.hid (HFD.out.later hb3)
        have HGR3 : Hid (w3.heap[g]? = some (.cells cur 55 (0, 0))) := Lib.hid (Kept.row hb3 HGR.out)
        have HKW3 : Hid (Kept w w3) := Lib.hid (HKW.out.then hb3)
        have HSZ3 : Hid (w1.heap.size ≤ w3.heap.size) := Lib.hid (by have := hb3.size; have := HSZ.out; omega)
        rw [HNXT.out] at CW
        clear hrb hsay hb3 HFD HGR HKW HSZ HENT HBD HNXT
        go_wp2_with fail
        refine CW.mono ?_
        rintro e w4 ⟨rfl, hbd, hb4, hk4⟩
        have HBD4 := Lib.hid hbd
        have HFD4 : Hid (FldAt s (.slice sp sn sc) bs Br w4) := Lib.hid (HFD3.out.but HRB.out hk4)
        have HGR4 : Hid (w4.heap[g]? = some (.cells cur 55 (0, 0))) := Lib.hid (hk4.heap HGR3.out (fun e => by
          have h1 := HGR3.out
          have h2 := HRB.out
          rw [e] at h1
          rw [h1] at h2
          injection h2 with h2
          injection h2 with _ e2 _
          exact absurd e2 (by decide)) (by decide))
        have HKW4 : Hid (Kept w w4) := Lib.hid (Below.trans HKW3.out (hb4.mono HK1.out.size))
        have HSZ4 : Hid (w1.heap.size ≤ w4.heap.size) := Lib.hid (by have := hb4.size; have := HSZ3.out; omega)
        clear hbd hb4 hk4 CW HRB HFD3 HGR3 HKW3 HSZ3 d0
        go_wp2
        go_roundg (N - k1)
        case measure => omega
        case rel => exact ⟨k1, by omega, by first | rfl | (congr 1; omega), HBD4, HFD4, HGR4, HKW4, HSZ4⟩
      · have hki : ¬ (k : Int) < N := by omega
        have bk : decide ((k : Int) < (N : Int)) = false := by simpa using hki
        obtain rfl : k = N := by omega
        have hfin : (PS.take k).flatten = headS s := by rw [List.take_of_length_le (by rw [HPL.out, ← HN.out]; exact Nat.le_refl _), HPH.out]
        have hbd := HBD.out
        rw [hfin] at hbd
        have CST := Tryd.Builder_String_any w1.heap.size w1.heap.size (headS s) wr hbd HSZ.out
        obtain ⟨H, hH⟩ : ∃ H, H = str (headS s) := ⟨_, rfl⟩
        have CST2 : Calls Tryd.prog 28 #[.pointer (some ⟨w1.heap.size, 0, none⟩)] wr fun e w' => e = .returned (.string H) ∧ Below w1.heap.size wr w' := by rw [hH]; exact CST
        have CFL := fun W => fill_any H 124 (by omega) W
        rw [hH, fill_put, ← hH] at CFL
        obtain ⟨BD, hBD⟩ : ∃ BD, BD = str (fillL (headS s) 124) := ⟨_, rfl⟩
        have hBz : BD.size ≤ 4294967295 := by rw [hBD, str_size]; unfold fillL; rw [List.length_append, List.length_replicate]; have := HHL.out; have := HN.out; omega
        have CSE := fun W hTW => seal_any BD hBz W hTW
        have HSE : Hid (sealed BD = res) := Lib.hid (by
          rw [HRS.out]
          unfold sealed putS bodyS
          rw [hBD, str_append, str_list])
        rw [HSE.out] at CSE
        rw [← hBD] at CFL
        have HKWE := HKW
        clear hfin hbd CST hH hBD hBz HBD HFD HGR
        go_wp2_with fail
        refine CST2.mono ?_
        rintro e w5 ⟨rfl, hb5⟩
        have HK5 : Hid (Kept w w5) := Lib.hid (Below.trans HKWE.out (hb5.mono HK1.out.size))
        clear hb5
        go_wp2_with fail
        refine (CFL w5).mono ?_
        rintro e w6 ⟨rfl, hb6⟩
        have HK6 : Hid (Kept w w6) := Lib.hid (HK5.out.then hb6)
        clear hb6
        go_wp2_with fail
        refine (CSE w6 (HT.out.later HK6.out)).mono ?_
        rintro e w7 ⟨rfl, hb7⟩
        have HK7 : Hid (Kept w w7) := Lib.hid (HK6.out.then hb7)
        clear hb7
        go_wp2
        go_ret2
        exact ⟨rfl, HK7.out⟩

end Go.Proofs.YtlfmmhalheohdaaDoor
