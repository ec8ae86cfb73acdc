/- The walk of the document's All (segments); what a list is cut to. -/
import Derived.Test.YtlmccnelhpnneaaSegR
namespace Go.Proofs.Ytlmccnelhpnneaa
open Go.RowKit Go.ChangeShapes Go.WideShapes

/-- No slice is longer than its room. -/
def CapOkF (v : Value) : Prop := ∀ p n c, v = .slice p n c → n ≤ c

section
variable {H : Type} {enc : TypeId × Value → H} {P : Program} {w : World} {base : Nat} {spare : Nat → Bool} {held : Bool}
/-- A slice of fingerprints that came in, with its room. -/
theorem open_fpsc {S T E n fuel : Nat} {cs : List Value} {x : DataW H × List MemPlace} (hS : P.underlying S = some (.slice T)) (hT : P.underlying T = some (.array n E)) (hE : P.underlying E = some (.int .u8)) (hc : P.cellsOf E = 1)
    (hC : P.cellsOf T = n) (h0 : 0 < n) (h : DataW.trod enc P w base spare held fuel S cs = some x) :
    ∃ (v : Value) (ls : List (List UInt8)), cs = [v] ∧ (FpsAt n ls v w ∧ CapOkF v) ∧ ls.length ≤ maxLen := by
  obtain ⟨v, ls, e, h1, h2⟩ := open_fps hS hT hE hc hC h0 h
  refine ⟨v, ls, e, ⟨h1, fun p k c hv => ?_⟩, h2⟩
  rcases DataW.trod_slice hS h with ⟨e2, _⟩ | ⟨a, len, cap, elems, rest, m, _, e2, _, _, hl, _⟩
  · rw [e, hv] at e2
    simp only [List.cons.injEq, Value.slice.injEq, and_true] at e2
    omega
  · rw [e, hv] at e2
    simp only [List.cons.injEq, Value.slice.injEq, and_true] at e2
    omega
end

theorem idx_drop (ls : List (List UInt8)) (k i : Nat) (h : i < (ls.drop k).length) : ∃ h2 : k + i < ls.length, (ls.drop k)[i] = ls[k + i] := by
  rw [List.length_drop] at h
  exact ⟨by omega, List.getElem_drop⟩

/-- A slice without its first elements. -/
theorem fps_drop {ls : List (List UInt8)} {p : Option Addr} {n c : Nat} {w : World} (h : FpsAt 32 ls (.slice p n c) w) (hn : n = ls.length) (hc : n ≤ c) (k : Nat) (hk : k ≤ n) :
    ∃ p2, (∀ w', (Instr.sliceAt 22 (.slice p n c) (some (.int .i64 k)) none none).run Try.prog w' = .ok (.slice p2 (n - k) (c - k)) w') ∧ FpsAt 32 (ls.drop k) (.slice p2 (n - k) (c - k)) w := by
  have h0 : (0 : Int) ≤ k := by omega
  refine ⟨if c = k then p else p.map (·.add (k * 32)), fun w' => ?_, fun l hl => h.1 l (List.mem_of_mem_drop hl), _, c - k, by rw [List.length_drop, hn], ?_⟩
  · simp [Instr.sliceAt, Instr.slice, run_underlying Try.underlying22, Instr.sliceBounds, Instr.sliceBound, asIntOf, h0]
    try omega
  · obtain ⟨_, p', c', e, hcell⟩ := h
    simp only [Value.slice.injEq] at e
    obtain ⟨rfl, _, rfl⟩ := e
    rcases hcell with rfl | ⟨b, off, rfl, hcell⟩
    · exact Or.inl (by simp)
    · by_cases hck : c = k
      · exact Or.inl (List.drop_eq_nil_of_le (by omega))
      · right
        rw [if_neg hck]
        refine ⟨b, off + k * 32, by simp [addr_add], fun i hi j hj => ?_⟩
        obtain ⟨h2, e2⟩ := idx_drop ls k i hi
        rw [e2, show off + k * 32 + (i * 32 + j) = off + ((k + i) * 32 + j) by omega]
        exact hcell (k + i) h2 j hj

/-- The first elements of a slice. -/
theorem fps_take {ls : List (List UInt8)} {p : Option Addr} {n c : Nat} {w : World} (h : FpsAt 32 ls (.slice p n c) w) (hn : n = ls.length) (hc : n ≤ c) (k : Nat) (hk : k ≤ n) (hk0 : 0 < k) :
    (∀ w', (Instr.sliceAt 22 (.slice p n c) none (some (.int .i64 k)) none).run Try.prog w' = .ok (.slice p k c) w') ∧ FpsAt 32 (ls.take k) (.slice p k c) w := by
  have h0 : (0 : Int) ≤ k := by omega
  have hne : ¬ c = 0 := by omega
  obtain ⟨h32, p', c', e, hcell⟩ := h
  simp only [Value.slice.injEq] at e
  obtain ⟨rfl, _, rfl⟩ := e
  rcases hcell with rfl | ⟨b, off, rfl, hcell⟩
  · simp at hn; omega
  refine ⟨fun w' => ?_, fun l hl => h32 l (List.mem_of_mem_take hl), _, c, by rw [List.length_take, Nat.min_eq_left (by omega)], Or.inr ⟨b, off, rfl, fun i hi j hj => ?_⟩⟩
  · simp [Instr.sliceAt, Instr.slice, run_underlying Try.underlying22, Instr.sliceBounds, Instr.sliceBound, asIntOf, h0, addr_add, hne]
    try omega
  · rw [List.length_take] at hi
    rw [List.getElem_take]
    exact hcell i (by omega) j hj

/-- All segments, where the settings can divide; none, where not. -/
def allS (a b d : Int) (l : List (List UInt8)) : List (List (List UInt8)) := if MayS a b d then segs (segI a b d) l else []

theorem inlS_snoc (l : List Nat) (n : Nat) : inL (l ++ [n]) = inL l ++ [.int .i64 n] := by simp [inL]
theorem ownS_later {w w' : World} {base : Nat} {e : TypeId} {size n : Nat} {v : Value} {xs : List Value} (h : w.ownsRow base e size v n xs) (hb : Below w.heap.size w w') : w'.ownsRow base e size v n xs :=
  h.kept (row := none) (grown_below hb none) (Classical.em _)

set_option maxRecDepth 100000 in
set_option maxHeartbeats 1000000 in
/-- The document's All. -/
theorem ralls_any (p : Option Addr) (c n0 : Nat) (ls : List (List UInt8)) (hn0 : n0 = ls.length) (hs : n0 ≤ 1000000) (hcap : n0 ≤ c) (C : Array Value) (a b d : Int) (hC : IsSeg C a b d) (w : World) (h : FpsAt 32 ls (.slice p n0 c) w) :
    Calls Try.prog 17 #[.slice p n0 c, .agg C] w fun e w' => ∃ v, e = .returned v ∧ I64At ((allS a b d ls).map List.length) v w' ∧ Below w.heap.size w w' := by
  have MA := rmays_any C a b d hC
  have HLI : Hid ((Try.prog.info? 24).map (·.size) = some C.size) := by rw [hC.size]; exact info_conf
  have gC := heap_alloc_last w (.cells C 24)
  have K0 := box_below w (.cells C 24)
  by_cases hM : MayS a b d
  · rw [decide_eq_true hM] at MA
    obtain ⟨i0, hi, hz0, hz1, hz2⟩ := info_of infoInt
    have HI := Lib.hid hi
    have HZ0 := Lib.hid hz0
    have HZ1 := Lib.hid hz1
    have HZ2 := Lib.hid hz2
    have hall : allS a b d ls = segs (segI a b d) ls := by unfold allS; rw [if_pos hM]
    rw [hall]
    have hle := segI_le a b d
    have CU := fun p c n (l : List (List UInt8)) (hn : n = l.length) (hs : n ≤ 1000000) w h => rcuts_any p c n l hn hs C a b d hC w h
    obtain ⟨f, hf⟩ : ∃ f, f = segI a b d := ⟨_, rfl⟩
    rw [← hf] at hle ⊢
    have CU' : ∀ p c n (l : List (List UInt8)), n = l.length → n ≤ 1000000 → ∀ w, FpsAt 32 l (.slice p n c) w → Calls Try.prog 12 #[.slice p n c, .agg C] w fun e w' => e = .returned (.int .i64 (f l : Nat)) ∧ Below w.heap.size w w' := fun p c n l hn hs w h => by rw [hf]; exact CU p c n l hn hs w h
    obtain ⟨w0, hw0⟩ : ∃ w0, w0 = w.alloc (.cells C 24) := ⟨_, rfl⟩
    have g0 : w0.heap[w.heap.size]? = some (.cells C 24 (0, 0)) := by rw [hw0]; exact gC
    have K0' : Hid (Below w.heap.size w w0) := by rw [hw0]; exact K0
    have HF : Hid (FpsAt 32 ls (.slice p n0 c) w0) := by rw [hw0]; exact h.later K0
    have HW0 := Lib.hid hw0
    have HLE := Lib.hid hle
    have HN := Lib.hid hn0
    clear hM hall hle CU hf hw0 hi hz0 hz1 hz2 hC h hn0
    go_enter Try.func17, Try.ntmps17
    go_wp2_with (with_reducible refine wpList_load_row rfl _ _ rfl w.heap.size rfl 24 C (0, 0) _ gC Try.underlying24 rfl HLI.out ?_)
    refine (MA _).mono ?_
    rintro e w1 ⟨rfl, hb1⟩
    rw [← HW0.out] at hb1
    have K1 : Hid (Kept w0 w1) := hb1
    clear gC K0 HW0 MA hb1
    go_wp2
    go_loopw [0, 5] (fun x v wr => ∃ (k : Nat) (p1 : Option Addr) (c1 : Nat) (ns : List Nat), k ≤ n0 ∧ n0 - k ≤ c1 ∧ x = .slice p1 (n0 - k) c1 ∧ Hid (FpsAt 32 (ls.drop k) (.slice p1 (n0 - k) c1) w0) ∧ ns.length ≤ k ∧ Hid (ns ++ (segs f (ls.drop k)).map List.length = (segs f ls).map List.length) ∧ Hid (wr.ownsRow w0.heap.size 3 1 v ns.length (inL ns)) ∧ Hid (Kept w0 wr)) (fun x _ _ => match x with | .slice _ n _ => n | _ => 0)
    case atStart => exact ⟨0, p, c, [], by omega, by omega, rfl, HF, by simp, Lib.hid rfl, Lib.hid (World.ownsRow_nil _ _ _ _), K1⟩
    case round =>
      clear K1
      obtain ⟨k, p1, c1, ns, hk, hc1, rfl, HF1, hns, HSP, HO, K⟩ := hrel
      have gw : wr.heap[w.heap.size]? = some (.cells C 24 (0, 0)) := K.out.row g0
      obtain ⟨L, hL⟩ : ∃ L, L = ls.drop k := ⟨_, rfl⟩
      rw [← hL] at HF1 HSP
      have HL := Lib.hid hL
      have hLn : n0 - k = L.length := by rw [hL, List.length_drop, ← HN.out]
      obtain ⟨n1, hn1⟩ : ∃ n1, n1 = n0 - k := ⟨_, rfl⟩
      rw [← hn1] at HF1 hc1 hLn ⊢
      have HLN := Lib.hid hLn
      have HN1 := Lib.hid hn1
      have hle1 : n1 ≤ 1000000 := by omega
      clear hL hLn hn1
      by_cases h0 : 0 < n1
      · have hti : (0 : Int) < n1 := by omega
        have HFW : Hid (FpsAt 32 L (.slice p1 n1 c1) wr) := HF1.out.later K.out
        go_wp2_with (with_reducible refine wpList_load_row rfl _ _ rfl w.heap.size rfl 24 C (0, 0) _ gw Try.underlying24 rfl HLI.out ?_)
        refine (CU' p1 c1 n1 L HLN.out hle1 _ HFW.out).mono ?_
        rintro e w2 ⟨rfl, hb2⟩
        have K2 : Hid (Kept w0 w2) := K.out.then hb2
        have HO2 : Hid (w2.ownsRow w0.heap.size 3 1 _ ns.length (inL ns)) := ownS_later HO.out hb2
        have hLne : L ≠ [] := by intro e; have := HLN.out; rw [e] at this; simp at this; omega
        have hq0 := offN_pos (f := f) hLne
        have hq1 := offN_le (f := f) L
        have hq3 := segs_cons (f := f) hLne
        have hq2 : f L = 0 ∧ offN f L = n1 ∨ f L ≠ 0 ∧ offN f L = f L := by
          have := HLE.out L
          have h2 := HLN.out
          unfold offN
          by_cases hz : f L = 0
          · left; rw [if_pos hz]; exact ⟨hz, h2.symm⟩
          · right; rw [if_neg hz]; exact ⟨hz, by omega⟩
        obtain ⟨q, hq⟩ : ∃ q, q = offN f L := ⟨_, rfl⟩
        rw [← hq] at hq0 hq1 hq2 hq3
        rw [← HLN.out] at hq1
        have htk : (L.take q).length = q := by rw [List.length_take, ← HLN.out]; omega
        have hdd : L.drop q = ls.drop (k + q) := by rw [HL.out, List.drop_drop]
        have HNEW : Hid ((ns ++ [q]) ++ (segs f (ls.drop (k + q))).map List.length = (segs f ls).map List.length) := Lib.hid (by
          rw [← HSP.out, hq3, hdd]
          simp only [List.map_cons, htk, List.append_assoc, List.singleton_append])
        obtain ⟨p2, hcutr, hF2⟩ := fps_drop HF1.out HLN.out hc1 q hq1
        rw [hdd] at hF2
        have hn1 := HN1.out
        rw [show n1 - q = n0 - (k + q) by omega] at hF2 hcutr
        have HF2 := Lib.hid hF2
        have HK2 := Lib.hid (by omega : n0 - (k + q) ≤ c1 - q)
        obtain ⟨n, hn⟩ : ∃ n, n = f L := ⟨_, rfl⟩
        rw [← hn] at hq2 ⊢
        have hkw : w0.heap.size ≤ w2.heap.size := K2.out.size
        have HINS : Hid (inL (ns ++ [q]) = inL ns ++ [.int .i64 q]) := inlS_snoc _ _
        have hlls : ns.length ≤ 1000000 := by omega
        have HKQ := Lib.hid (by omega : k + q ≤ n0)
        have HMS := Lib.hid (by omega : n0 - (k + q) < n1)
        clear hq3 htk hdd hF2 hn gw hb2 K HO HSP hLne hq HFW hn1
        rcases hq2 with ⟨rfl, rfl⟩ | ⟨hnz, rfl⟩
        · go_wp2_with (at_builtin; refine wpList_append_own _ rfl _ _ 30 rfl w0.heap.size 3 i0 (.int .i64 0) 1 8 Try.underlying30 HI.out HZ0.out HZ1.out HZ2.out rfl (by decide) _ _ _ rfl (HO2.out.alloc _) ⟨w2.heap.size, 0, none⟩ 1 1 [.int .i64 (q : Nat)] rfl rfl ?c1 ?c2 ?c3 ?c4 ?c5 ?_)
          case c1 => exact cell_one_new _ _ _
          case c2 => first | rfl | (intro u hu; simp only [List.mem_singleton] at hu; subst hu; rfl)
          case c3 => unfold maxLen; omega
          case c4 => omega
          case c5 => first | omega | (simp; omega)
          intro v' w4 hown4 hg4 _
          have h6 : Hid (Kept w0 w4) := Below.grown (Below.alloc K2.out hkw _) hg4 (by simp; omega) (fun k hk => (HO2.out.lt k hk).1)
          have HO4 := Lib.hid hown4
          clear hown4 hg4 K2
          go_wp2
          go_roundw
          case rel => exact ⟨k + q, p2, c1 - q, ns ++ [q], HKQ.out, HK2.out, rfl, HF2, by simp; omega, HNEW, Lib.hid (by rw [HINS.out, List.length_append]; exact HO4.out), h6⟩
          case measure => exact HMS.out
        · have hnb : ((q : Int) == 0) = false := by simpa using hnz
          go_wp2_with (at_builtin; refine wpList_append_own _ rfl _ _ 30 rfl w0.heap.size 3 i0 (.int .i64 0) 1 8 Try.underlying30 HI.out HZ0.out HZ1.out HZ2.out rfl (by decide) _ _ _ rfl (HO2.out.alloc _) ⟨w2.heap.size, 0, none⟩ 1 1 [.int .i64 (q : Nat)] rfl rfl ?c1 ?c2 ?c3 ?c4 ?c5 ?_)
          case c1 => exact cell_one_new _ _ _
          case c2 => first | rfl | (intro u hu; simp only [List.mem_singleton] at hu; subst hu; rfl)
          case c3 => unfold maxLen; omega
          case c4 => omega
          case c5 => first | omega | (simp; omega)
          intro v' w4 hown4 hg4 _
          have h6 : Hid (Kept w0 w4) := Below.grown (Below.alloc K2.out hkw _) hg4 (by simp; omega) (fun k hk => (HO2.out.lt k hk).1)
          have HO4 := Lib.hid hown4
          clear hown4 hg4 K2
          go_wp2
          go_roundw
          case rel => exact ⟨k + q, p2, c1 - q, ns ++ [q], HKQ.out, HK2.out, rfl, HF2, by simp; omega, HNEW, Lib.hid (by rw [HINS.out, List.length_append]; exact HO4.out), h6⟩
          case measure => exact HMS.out
      · have hn0 : ¬ (0 : Int) < n1 := by omega
        have HU : Hid (I64At ((segs f ls).map List.length) u5 wr) := by
          have h1 : L = [] := List.length_eq_zero_iff.1 (by rw [← HLN.out]; omega)
          have h2 := HSP.out
          rw [h1, segs_nil, List.map_nil, List.append_nil] at h2
          rw [← h2]
          exact i64At_own HO.out
        go_wp2
        go_ret
        exact ⟨_, rfl, HU.out, Below.then' K0'.out K.out K0'.out.size⟩
  · have hall : allS a b d ls = [] := by unfold allS; rw [if_neg hM]
    rw [hall]
    rw [decide_eq_false hM] at MA
    clear hall hC
    go_enter Try.func17, Try.ntmps17
    go_wp2_with (with_reducible refine wpList_load_row rfl _ _ rfl w.heap.size rfl 24 C (0, 0) _ gC Try.underlying24 rfl HLI.out ?_)
    refine (MA _).mono ?_
    rintro e w1 ⟨rfl, hb1⟩
    go_wp2
    go_ret
    exact ⟨_, rfl, ⟨none, 0, rfl, Or.inl rfl⟩, Below.then' K0 hb1 K0.size⟩

end Go.Proofs.Ytlmccnelhpnneaa
