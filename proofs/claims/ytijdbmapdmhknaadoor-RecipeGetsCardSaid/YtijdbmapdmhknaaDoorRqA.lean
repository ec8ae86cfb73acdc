/- Contracts of recipes by name, whatever they are made of; few and cut of the laws; the page's example. -/
import Derived.Test.YtijdbmapdmhknaaDoorRqJ
import Derived.Test.YtijdbmapdmhknaaDoorGH
import Derived.Test.YtijdbmapdmhknaaDoorGG
import Derived.Test.YtijdbmapdmhknaaDoorGE
import Derived.Test.YtijdbmapdmhknaaDoorGC
namespace Go.Proofs.YtijdbmapdmhknaaDoor
open Go.RowKit

/-! ### Contracts -/
def RCheckOk : Prop := ∀ (r : Rp) (v : Value) (w : World), RpIs r v w → r.mans.length ≤ 100000 →
  Calls Tryd.prog 10 #[v] w fun e w' => e = .returned (.int .i64 (if mayQ r then 0 else 1)) ∧ Kept w w'
def sizeVQ (k : Nat) (n : Int) : Int := if (1 ≤ k ∧ k ≤ 48) ∧ 0 ≤ n ∧ n ≤ 1024 then 26 + k + 4 * n else 0
def RSizeOk : Prop := ∀ (s : ByteArray) (n : Int) (w : World), s.size ≤ 1000000 → (Lit.int .i64 n).wf = true →
  Calls Tryd.prog 18 #[.string s, .int .i64 n] w fun e w' => e = .returned (.int .i64 (sizeVQ s.size n)) ∧ Kept w w'
def putVQ (r : Rp) : ByteArray := if mayQ r then str (recpB r) else ⟨#[]⟩
def RPutOk : Prop := ∀ (r : Rp) (v : Value) (w : World), RpIs r v w → r.mans.length ≤ 100000 → TabAt w →
  Calls Tryd.prog 9 #[v] w fun e w' => e = .returned (.tuple #[.string (putVQ r), .int .i64 (if mayQ r then 0 else 1)]) ∧ Kept w w'
def getVQ (t : List UInt8) : Int := if (getQ t).isSome then 0 else 110
def RGetOk : Prop := ∀ (t : ByteArray) (w : World), t.size ≤ 100000 → TabAt w →
  Calls Tryd.prog 16 #[.string t] w fun e w' => (∃ v, e = .returned (.tuple #[v, .int .i64 (getVQ t.data.toList)]) ∧ RpIs ((getQ t.data.toList).getD Rp.zero) v w') ∧ Kept w w'
def RSameOk : Prop := ∀ (a b : Rp) (u v : Value) (w : World), RpIs a u w → RpIs b v w → a.mans.length ≤ 100000 → b.mans.length ≤ 100000 →
  Calls Tryd.prog 11 #[u, v] w fun e w' => e = .returned (.bool (decide (a = b))) ∧ Kept w w'
/-- A recipe's weight as a complex number. -/
def wzV (r : Rp) : Value := if mayQ r then .complex .f64 (flt r.re) (flt r.im) else .complex .f64 0 0
def RWeightOk : Prop := ∀ (r : Rp) (v : Value) (w : World), RpIs r v w → r.mans.length ≤ 100000 →
  Calls Tryd.prog 15 #[v] w fun e w' => e = .returned (wzV r) ∧ Kept w w'
def okV (o : Option Rp) : Int := if o.isSome then 0 else 1
/-- W has the blocks that are new in w'. -/
def OnNew (w w' W : World) : Prop := ∀ j, w.heap.size ≤ j → j < w'.heap.size → W.heap[j]? = w'.heap[j]?
/-- What Of hands back lies in new blocks, and where the manifests lie that it was given. -/
def ROfOk : Prop := ∀ (name : List UInt8) (t : ByteArray) (l : List Nat) (v : Value) (w : World), name.length ≤ 1000 → t.size ≤ 100000 → UsAt l v w → l.length ≤ 100000 →
  Calls Tryd.prog 21 #[.string (str name), .string t, v] w fun e w' => (∃ u, e = .returned (.tuple #[u, .int .i64 (okV (ofQ name t.data.toList l))]) ∧ ∀ W, OnNew w w' W → UsAt l v W → RpIs ((ofQ name t.data.toList l).getD Rp.zero) u W) ∧ Kept w w'
def ROfAt : Prop := ∀ (name : List UInt8) (t : ByteArray) (l : List Nat) (v : Value) (w : World), name.length ≤ 1000 → t.size ≤ 100000 → UsAt l v w → l.length ≤ 100000 →
  Calls Tryd.prog 21 #[.string (str name), .string t, v] w fun e w' => (∃ u, e = .returned (.tuple #[u, .int .i64 (okV (ofQ name t.data.toList l))]) ∧ RpIs ((ofQ name t.data.toList l).getD Rp.zero) u w') ∧ Kept w w'
theorem ROfOk.at (C : ROfOk) : ROfAt := fun name t l v w h1 h2 h3 h4 => (C name t l v w h1 h2 h3 h4).mono fun _ w' ⟨⟨u, hu, hr⟩, hk⟩ => ⟨⟨u, hu, hr w' (fun _ _ _ => rfl) (h3.later hk)⟩, hk⟩
def RFitsOk : Prop := ∀ (r : Rp) (v : Value) (t : ByteArray) (w : World), RpIs r v w → r.mans.length ≤ 100000 → t.size ≤ 100000 →
  Calls Tryd.prog 23 #[v, .string t] w fun e w' => e = .returned (.bool (decide (fitsQ r t.data.toList))) ∧ Kept w w'
def RJoinOk : Prop := ∀ (name : List UInt8) (l : List Rp) (v : Value) (w : World), name.length ≤ 1000 → RpsAt l v w → l.length ≤ 100 → (∀ r ∈ l, r.mans.length ≤ 10000) →
  Calls Tryd.prog 25 #[.string (str name), v] w fun e w' => (∃ u, e = .returned (.tuple #[u, .int .i64 (okV (joinQ name l))]) ∧ RpIs ((joinQ name l).getD Rp.zero) u w') ∧ Kept w w'

/-! ### few, cut -/
def fewQ (r : Rp) : Rp := ⟨r.name.take 60, r.size, r.re, r.im, r.mans.take 1030⟩
theorem fewQ_mans (r : Rp) : (fewQ r).mans.length ≤ 1030 := by
  unfold fewQ
  rw [List.length_take]; omega
theorem UsAt.takeQ {l : List Nat} {p : Option Addr} {c : Nat} {w : World} (h : UsAt l (.slice p l.length c) w) (i : Nat) (hi : i ≤ l.length) : UsAt (l.take i) (.slice p i c) w := by
  obtain ⟨hcap, hgood, h1, h2, p', c', e, hc⟩ := h
  simp only [Value.slice.injEq, true_and] at e
  obtain ⟨rfl, rfl⟩ := e
  have hil : (l.take i).length = i := by rw [List.length_take]; omega
  have hfl : flatR uL l = flatR uL (l.take i) ++ flatR uL (l.drop i) := by rw [← flatR_append, List.take_append_drop]
  have hlc := hcap _ _ _ rfl
  refine ⟨fun q n c e => by simp only [Value.slice.injEq] at e; omega, fun a ha => hgood a (List.mem_of_mem_take ha), flatR_len encU _ (fun a ha => hgood a (List.mem_of_mem_take ha)), flatR_ones encU _ (fun a ha => hgood a (List.mem_of_mem_take ha)), p, c, by rw [hil], ?_⟩
  rcases hc with h0 | ⟨b, off, hp, hcl⟩
  · exact Or.inl (by omega)
  · exact Or.inr ⟨b, off, hp, fun j x hx => hcl j x (by rw [hfl, List.getElem?_append_left (List.getElem?_eq_some_iff.1 hx).1]; exact hx)⟩
theorem UsAt.takeV {l : List Nat} {v : Value} {w : World} (h : UsAt l v w) {i : Nat} (hi : i < l.length) :
    ∃ b off c, v = .slice (some ⟨b, off, none⟩) l.length c ∧ l.length ≤ c ∧ UsAt (l.take i) (.slice (some ⟨b, off, none⟩) i c) w := by
  obtain ⟨p, c, rfl, hc, hcl⟩ := h.out encU
  rcases hcl with h0 | ⟨b, off, rfl, -⟩
  · omega
  · exact ⟨b, off, c, rfl, hc, h.takeQ i (Nat.le_of_lt hi)⟩
theorem str_takeQ (l : List UInt8) (i : Nat) : (str l).extract 0 i = str (l.take i) := by
  have h := str_mid l 0 i
  rw [Nat.zero_add, List.drop_zero] at h
  exact h

set_option maxRecDepth 100000 in
set_option maxHeartbeats 16000000 in
theorem few16_any (r : Rp) (v : Value) (w0 w : World) (H : RpIs r v w0) :
    Calls Tryd.prog 8 #[v] w fun e w' => ∃ u, e = .returned u ∧ (∀ W, Kept w0 W → RpIs (fewQ r) u W) ∧ Kept w w' := by
  obtain ⟨tv, rfl, hm, hwf⟩ := H
  obtain ⟨p, c, rfl, hcap, -⟩ := hm.out encU
  have hss : (str r.name).size = r.name.length := str_size _
  have hnl := hwf.name
  have HRES : Hid (∀ (nm : ByteArray) (p' : Option Addr) (n' c' : Nat) (w' : World), nm = str (r.name.take 60) → UsAt (r.mans.take 1030) (.slice p' n' c') w' → RpIs (fewQ r) (.agg #[.string nm, .int .i64 r.size, .int .i64 r.re, .int .i64 r.im, .slice p' n' c']) w') := Lib.hid (fun nm p' n' c' w' h1 h2 =>
    ⟨_, by rw [h1]; rfl, h2, ⟨by show (r.name.take 60).length ≤ _; rw [List.length_take]; omega, hwf.size, hwf.re, hwf.im⟩⟩)
  have HM := Lib.hid hm
  unfold rpC
  obtain ⟨s, hs⟩ : ∃ s, s = str r.name := ⟨_, rfl⟩
  obtain ⟨z, hz⟩ : ∃ z, z = r.size := ⟨_, rfl⟩
  obtain ⟨x, hx⟩ : ∃ x, x = r.re := ⟨_, rfl⟩
  obtain ⟨y, hy⟩ : ∃ y, y = r.im := ⟨_, rfl⟩
  obtain ⟨n, hn⟩ : ∃ n, n = r.mans.length := ⟨_, rfl⟩
  rw [← hs] at hss ⊢
  rw [← hz, ← hx, ← hy] at HRES
  rw [← hz, ← hx, ← hy, ← hn]
  rw [← hn] at HM hcap
  have hs1 : (w.alloc (.cells #[.string s, .int .i64 z, .int .i64 x, .int .i64 y, .slice p n c] 24)).heap.size = w.heap.size + 1 := by simp
  obtain ⟨W1, hW1⟩ : ∃ W, W = (w.alloc (.cells #[.string s, .int .i64 z, .int .i64 x, .int .i64 y, .slice p n c] 24)).alloc (.cells #[.string ⟨#[]⟩, .int .i64 0, .int .i64 0, .int .i64 0, .slice none 0 0] 24) := ⟨_, rfl⟩
  have hk1 : Kept w W1 := by rw [hW1]; exact (show Kept w _ from box_below _ _).then (box_below _ _)
  have hr0 : Row5 w.heap.size (.string s) (.int .i64 z) (.int .i64 x) (.int .i64 y) (.slice p n c) W1 := ⟨by rw [hW1]; exact Kept.row (box_below _ _) (heap_alloc_last w _)⟩
  have hr1 : Row5 (w.heap.size + 1) (.string ⟨#[]⟩) (.int .i64 0) (.int .i64 0) (.int .i64 0) (.slice none 0 0) W1 := ⟨by
    have := heap_alloc_last (w.alloc (.cells #[.string s, .int .i64 z, .int .i64 x, .int .i64 y, .slice p n c] 24)) (.cells #[.string ⟨#[]⟩, .int .i64 0, .int .i64 0, .int .i64 0, .slice none 0 0] 24)
    rw [hs1] at this
    rw [hW1]; exact this⟩
  have HB : Hid (∀ (t : ByteArray) (p' : Option Addr) (n' : Nat) (w' : World), (ButBy (fun m => m = w.heap.size ∨ m = w.heap.size + 1) W1 w') → Kept w w') := Lib.hid (fun t p' n' w' h => ButBy.kept h (fun m hm => by omega) hk1 hk1.size)
  have HN : Hid (n = r.mans.length ∧ s = str r.name ∧ s.size = r.name.length) := Lib.hid ⟨hn, hs, hss⟩
  have HW1 := Lib.hid hW1
  have HR0 := Lib.hid hr0
  have HR1 := Lib.hid hr1
  -- what stands behind: the row that is read, the row that is handed back
  have END : ∀ (nm : ByteArray) (p' : Option Addr) (n' c' : Nat) (w1 : World), nm = str (r.name.take 60) → (∀ w', Kept w0 w' → UsAt (r.mans.take 1030) (.slice p' n' c') w') →
      ButBy (fun m => m = w.heap.size ∨ m = w.heap.size + 1) W1 w1 → Row5 (w.heap.size + 1) (.string ⟨#[]⟩) (.int .i64 0) (.int .i64 0) (.int .i64 0) (.slice none 0 0) w1 →
      (∀ W, Kept w0 W → RpIs (fewQ r) (.agg #[.string nm, .int .i64 z, .int .i64 x, .int .i64 y, .slice p' n' c']) W) ∧
      Kept w (((((w1.setCell ⟨w.heap.size + 1, 0, none⟩ (.string nm)).setCell ⟨w.heap.size + 1, 1, none⟩ (.int .i64 z)).setCell ⟨w.heap.size + 1, 2, none⟩ (.int .i64 x)).setCell ⟨w.heap.size + 1, 3, none⟩ (.int .i64 y)).setCell ⟨w.heap.size + 1, 4, none⟩ (.slice p' n' c')) := fun nm p' n' c' w1 h1 h2 h3 _ => by
    have h4 := h3.trans ((but_set5Q (w := w1) (g := w.heap.size + 1) (.string nm) (.int .i64 z) (.int .i64 x) (.int .i64 y) (.slice p' n' c')).mono (fun k hk => Or.inr hk))
    exact ⟨fun W hW => HRES.out nm p' n' c' _ h1 (h2 _ hW), HB.out nm p' n' _ h4⟩
  have HE := Lib.hid END
  have hu0 : ButBy (fun m => m = w.heap.size ∨ m = w.heap.size + 1) W1 W1 := but_refl _ _
  have HU0 := Lib.hid hu0
  have HIX : Hid (∀ (b off : Nat), p = some ⟨b, off, none⟩ → 1030 ≤ c → 0 < c → ∀ W, (Instr.sliceAt 22 (.slice p n c) none (some (.int .i64 1030)) none).run Tryd.prog W = .ok (.slice p 1030 c) W) := Lib.hid (fun b off h h1 h2 W => by
    rw [h]
    exact cut_hiR (P := Tryd.prog) Tryd.underlying22 (fun w => Tryd.sizeOf53 w) b off n c 1030 h1 h2 W)
  clear hm hwf hs hz hx hy hn hs1 hW1 hk1 hr0 hr1 END hu0 hnl
  by_cases h1 : 1030 < n
  · obtain ⟨b, off, c2, e, hnc, htk⟩ := (HN.out.1 ▸ HM.out : UsAt r.mans (.slice p r.mans.length c) w0).takeV (i := 1030) (by rw [← HN.out.1]; exact h1)
    simp only [Value.slice.injEq] at e
    obtain ⟨rfl, -, rfl⟩ := e
    have CUT := HIX.out b off rfl (by have := HN.out.1; omega) (by have := HN.out.1; omega)
    obtain ⟨p, hp⟩ : ∃ p, p = some (⟨b, off, none⟩ : Addr) := ⟨_, rfl⟩
    clear HIX
    rw [← hp] at CUT htk HW1 HR0 ⊢
    have b1 : decide ((n : Int) > 1030) = true := decide_eq_true (by omega)
    have b1i : (1030 : Int) < n := by omega
    have HTK := Lib.hid htk
    clear htk hnc h1 hp
    by_cases h2 : 60 < s.size
    · obtain ⟨s2, hs2⟩ : ∃ s2, s2 = s.extract 0 60 := ⟨_, rfl⟩
      have ex2 : s.extract 0 60 = s2 := hs2.symm
      have HSN : Hid (s2 = str (r.name.take 60)) := Lib.hid (by rw [hs2, HN.out.2.1, str_takeQ])
      have b2 : decide ((s.size : Int) > 60) = true := decide_eq_true (by omega)
      have b2i : (60 : Int) < s.size := by omega
      have b2j : (60 : Int) ≤ s.size := by omega
      clear hs2 h2
      have x4 := HR0.out.c4
      have y4 := HR0.out.fz 4
      have ra : Row5 w.heap.size (.string s) (.int .i64 z) (.int .i64 x) (.int .i64 y) (.slice p 1030 c) (W1.setCell ⟨w.heap.size, 4, none⟩ (.slice p 1030 c)) := ⟨heap_setCell_same _ _ _ _ _ _ HR0.out.row⟩
      have rA : Row5 (w.heap.size + 1) (.string ⟨#[]⟩) (.int .i64 0) (.int .i64 0) (.int .i64 0) (.slice none 0 0) (W1.setCell ⟨w.heap.size, 4, none⟩ (.slice p 1030 c)) := ⟨(heap_setCell_other _ _ _ _ (by show w.heap.size + 1 ≠ w.heap.size; omega)).trans HR1.out.row⟩
      have ba : ButBy (fun m => m = w.heap.size ∨ m = w.heap.size + 1) W1 (W1.setCell ⟨w.heap.size, 4, none⟩ (.slice p 1030 c)) := HU0.out.setCell _ _ _ (Or.inl rfl)
      have x0 := ra.c0
      have y0 := ra.fz 0
      have rb : Row5 w.heap.size (.string s2) (.int .i64 z) (.int .i64 x) (.int .i64 y) (.slice p 1030 c) ((W1.setCell ⟨w.heap.size, 4, none⟩ (.slice p 1030 c)).setCell ⟨w.heap.size, 0, none⟩ (.string s2)) := ⟨heap_setCell_same _ _ _ _ _ _ ra.row⟩
      have rB : Row5 (w.heap.size + 1) (.string ⟨#[]⟩) (.int .i64 0) (.int .i64 0) (.int .i64 0) (.slice none 0 0) ((W1.setCell ⟨w.heap.size, 4, none⟩ (.slice p 1030 c)).setCell ⟨w.heap.size, 0, none⟩ (.string s2)) := ⟨(heap_setCell_other _ _ _ _ (by show w.heap.size + 1 ≠ w.heap.size; omega)).trans rA.row⟩
      have bb : ButBy (fun m => m = w.heap.size ∨ m = w.heap.size + 1) W1 ((W1.setCell ⟨w.heap.size, 4, none⟩ (.slice p 1030 c)).setCell ⟨w.heap.size, 0, none⟩ (.string s2)) := ba.setCell _ _ _ (Or.inl rfl)
      have RB := Lib.hid rb
      have RBB := Lib.hid rB
      have BB := Lib.hid bb
      clear ra rA ba rb rB bb HR0 HR1
      go_enter Tryd.func8, Tryd.ntmps8
      go_wp2_with (with_reducible refine wpList_halt (d := 3) rfl ?_)
      unfold Halted
      rw [← HW1.out]
      go_wp2_with (with_reducible refine wpList_halt (d := 19) rfl ?_)
      unfold Halted
      obtain ⟨WB, hWB⟩ : ∃ W, W = ((W1.setCell ⟨w.heap.size, 4, none⟩ (.slice p 1030 c)).setCell ⟨w.heap.size, 0, none⟩ (.string s2)) := ⟨_, rfl⟩
      rw [← hWB] at RB RBB BB ⊢
      clear hWB x4 y4 x0 y0
      have d0 := RB.out.c0
      have g0 := RBB.out.c0
      have f0 := RBB.out.fz 0
      have d1 := RB.out.c1
      have g1 := RBB.out.c1
      have f1 := RBB.out.fz 1
      have d2 := RB.out.c2
      have g2 := RBB.out.c2
      have f2 := RBB.out.fz 2
      have d3 := RB.out.c3
      have g3 := RBB.out.c3
      have f3 := RBB.out.fz 3
      have d4 := RB.out.c4
      have g4 := RBB.out.c4
      have f4 := RBB.out.fz 4
      have hend := HE.out s2 p 1030 c _ HSN.out (fun w' kw => HTK.out.later kw) BB.out RBB.out
      have hrow := set5_rowQ RBB.out.row (.string s2) (.int .i64 z) (.int .i64 x) (.int .i64 y) (.slice p 1030 c)
      have HEND := Lib.hid hend
      have HROW := Lib.hid hrow
      clear hend hrow
      go_wp2
      refine bodyPost_ret (results_cell_row Tryd.results8 _ _ (w.heap.size + 1) 24 #[.string s2, .int .i64 z, .int .i64 x, .int .i64 y, .slice p 1030 c] (0, 0) _ rfl HROW.out Tryd.underlying24 rfl infoRp) rfl ⟨_, rfl, HEND.out⟩
    · have HSN : Hid (s = str (r.name.take 60)) := Lib.hid (by rw [List.take_of_length_le (by rw [← HN.out.2.2]; omega)]; exact HN.out.2.1)
      have b2 : decide ((s.size : Int) > 60) = false := decide_eq_false (by omega)
      have b2i : ¬ (60 : Int) < s.size := by omega
      clear h2
      have x4 := HR0.out.c4
      have y4 := HR0.out.fz 4
      have ra : Row5 w.heap.size (.string s) (.int .i64 z) (.int .i64 x) (.int .i64 y) (.slice p 1030 c) (W1.setCell ⟨w.heap.size, 4, none⟩ (.slice p 1030 c)) := ⟨heap_setCell_same _ _ _ _ _ _ HR0.out.row⟩
      have rA : Row5 (w.heap.size + 1) (.string ⟨#[]⟩) (.int .i64 0) (.int .i64 0) (.int .i64 0) (.slice none 0 0) (W1.setCell ⟨w.heap.size, 4, none⟩ (.slice p 1030 c)) := ⟨(heap_setCell_other _ _ _ _ (by show w.heap.size + 1 ≠ w.heap.size; omega)).trans HR1.out.row⟩
      have ba : ButBy (fun m => m = w.heap.size ∨ m = w.heap.size + 1) W1 (W1.setCell ⟨w.heap.size, 4, none⟩ (.slice p 1030 c)) := HU0.out.setCell _ _ _ (Or.inl rfl)
      have x0 := ra.c0
      have rb := ra
      have rB := rA
      have bb := ba
      have RB := Lib.hid rb
      have RBB := Lib.hid rB
      have BB := Lib.hid bb
      clear ra rA ba rb rB bb HR0 HR1
      go_enter Tryd.func8, Tryd.ntmps8
      go_wp2_with (with_reducible refine wpList_halt (d := 3) rfl ?_)
      unfold Halted
      rw [← HW1.out]
      go_wp2_with (with_reducible refine wpList_halt (d := 19) rfl ?_)
      unfold Halted
      obtain ⟨WB, hWB⟩ : ∃ W, W = (W1.setCell ⟨w.heap.size, 4, none⟩ (.slice p 1030 c)) := ⟨_, rfl⟩
      rw [← hWB] at RB RBB BB ⊢
      clear hWB x4 y4 x0
      have d0 := RB.out.c0
      have g0 := RBB.out.c0
      have f0 := RBB.out.fz 0
      have d1 := RB.out.c1
      have g1 := RBB.out.c1
      have f1 := RBB.out.fz 1
      have d2 := RB.out.c2
      have g2 := RBB.out.c2
      have f2 := RBB.out.fz 2
      have d3 := RB.out.c3
      have g3 := RBB.out.c3
      have f3 := RBB.out.fz 3
      have d4 := RB.out.c4
      have g4 := RBB.out.c4
      have f4 := RBB.out.fz 4
      have hend := HE.out s p 1030 c _ HSN.out (fun w' kw => HTK.out.later kw) BB.out RBB.out
      have hrow := set5_rowQ RBB.out.row (.string s) (.int .i64 z) (.int .i64 x) (.int .i64 y) (.slice p 1030 c)
      have HEND := Lib.hid hend
      have HROW := Lib.hid hrow
      clear hend hrow
      go_wp2
      refine bodyPost_ret (results_cell_row Tryd.results8 _ _ (w.heap.size + 1) 24 #[.string s, .int .i64 z, .int .i64 x, .int .i64 y, .slice p 1030 c] (0, 0) _ rfl HROW.out Tryd.underlying24 rfl infoRp) rfl ⟨_, rfl, HEND.out⟩
  · have b1 : decide ((n : Int) > 1030) = false := decide_eq_false (by omega)
    have b1i : ¬ (1030 : Int) < n := by omega
    have HTK : Hid (UsAt (r.mans.take 1030) (.slice p n c) w0) := Lib.hid (by rw [List.take_of_length_le (by rw [← HN.out.1]; omega)]; exact HM.out)
    clear HIX h1
    by_cases h2 : 60 < s.size
    · obtain ⟨s2, hs2⟩ : ∃ s2, s2 = s.extract 0 60 := ⟨_, rfl⟩
      have ex2 : s.extract 0 60 = s2 := hs2.symm
      have HSN : Hid (s2 = str (r.name.take 60)) := Lib.hid (by rw [hs2, HN.out.2.1, str_takeQ])
      have b2 : decide ((s.size : Int) > 60) = true := decide_eq_true (by omega)
      have b2i : (60 : Int) < s.size := by omega
      have b2j : (60 : Int) ≤ s.size := by omega
      clear hs2 h2
      have x4 := HR0.out.c4
      have ra := HR0.out
      have rA := HR1.out
      have ba := HU0.out
      have x0 := ra.c0
      have y0 := ra.fz 0
      have rb : Row5 w.heap.size (.string s2) (.int .i64 z) (.int .i64 x) (.int .i64 y) (.slice p n c) (W1.setCell ⟨w.heap.size, 0, none⟩ (.string s2)) := ⟨heap_setCell_same _ _ _ _ _ _ ra.row⟩
      have rB : Row5 (w.heap.size + 1) (.string ⟨#[]⟩) (.int .i64 0) (.int .i64 0) (.int .i64 0) (.slice none 0 0) (W1.setCell ⟨w.heap.size, 0, none⟩ (.string s2)) := ⟨(heap_setCell_other _ _ _ _ (by show w.heap.size + 1 ≠ w.heap.size; omega)).trans rA.row⟩
      have bb : ButBy (fun m => m = w.heap.size ∨ m = w.heap.size + 1) W1 (W1.setCell ⟨w.heap.size, 0, none⟩ (.string s2)) := ba.setCell _ _ _ (Or.inl rfl)
      have RB := Lib.hid rb
      have RBB := Lib.hid rB
      have BB := Lib.hid bb
      clear ra rA ba rb rB bb HR0 HR1
      go_enter Tryd.func8, Tryd.ntmps8
      go_wp2_with (with_reducible refine wpList_halt (d := 3) rfl ?_)
      unfold Halted
      rw [← HW1.out]
      go_wp2_with (with_reducible refine wpList_halt (d := 19) rfl ?_)
      unfold Halted
      obtain ⟨WB, hWB⟩ : ∃ W, W = (W1.setCell ⟨w.heap.size, 0, none⟩ (.string s2)) := ⟨_, rfl⟩
      rw [← hWB] at RB RBB BB ⊢
      clear hWB x4 x0 y0
      have d0 := RB.out.c0
      have g0 := RBB.out.c0
      have f0 := RBB.out.fz 0
      have d1 := RB.out.c1
      have g1 := RBB.out.c1
      have f1 := RBB.out.fz 1
      have d2 := RB.out.c2
      have g2 := RBB.out.c2
      have f2 := RBB.out.fz 2
      have d3 := RB.out.c3
      have g3 := RBB.out.c3
      have f3 := RBB.out.fz 3
      have d4 := RB.out.c4
      have g4 := RBB.out.c4
      have f4 := RBB.out.fz 4
      have hend := HE.out s2 p n c _ HSN.out (fun w' kw => HTK.out.later kw) BB.out RBB.out
      have hrow := set5_rowQ RBB.out.row (.string s2) (.int .i64 z) (.int .i64 x) (.int .i64 y) (.slice p n c)
      have HEND := Lib.hid hend
      have HROW := Lib.hid hrow
      clear hend hrow
      go_wp2
      refine bodyPost_ret (results_cell_row Tryd.results8 _ _ (w.heap.size + 1) 24 #[.string s2, .int .i64 z, .int .i64 x, .int .i64 y, .slice p n c] (0, 0) _ rfl HROW.out Tryd.underlying24 rfl infoRp) rfl ⟨_, rfl, HEND.out⟩
    · have HSN : Hid (s = str (r.name.take 60)) := Lib.hid (by rw [List.take_of_length_le (by rw [← HN.out.2.2]; omega)]; exact HN.out.2.1)
      have b2 : decide ((s.size : Int) > 60) = false := decide_eq_false (by omega)
      have b2i : ¬ (60 : Int) < s.size := by omega
      clear h2
      have x4 := HR0.out.c4
      have ra := HR0.out
      have rA := HR1.out
      have ba := HU0.out
      have x0 := ra.c0
      have rb := ra
      have rB := rA
      have bb := ba
      have RB := Lib.hid rb
      have RBB := Lib.hid rB
      have BB := Lib.hid bb
      clear ra rA ba rb rB bb HR0 HR1
      go_enter Tryd.func8, Tryd.ntmps8
      go_wp2_with (with_reducible refine wpList_halt (d := 3) rfl ?_)
      unfold Halted
      rw [← HW1.out]
      go_wp2_with (with_reducible refine wpList_halt (d := 19) rfl ?_)
      unfold Halted
      clear x4 x0
      have d0 := RB.out.c0
      have g0 := RBB.out.c0
      have f0 := RBB.out.fz 0
      have d1 := RB.out.c1
      have g1 := RBB.out.c1
      have f1 := RBB.out.fz 1
      have d2 := RB.out.c2
      have g2 := RBB.out.c2
      have f2 := RBB.out.fz 2
      have d3 := RB.out.c3
      have g3 := RBB.out.c3
      have f3 := RBB.out.fz 3
      have d4 := RB.out.c4
      have g4 := RBB.out.c4
      have f4 := RBB.out.fz 4
      have hend := HE.out s p n c _ HSN.out (fun w' kw => HTK.out.later kw) BB.out RBB.out
      have hrow := set5_rowQ RBB.out.row (.string s) (.int .i64 z) (.int .i64 x) (.int .i64 y) (.slice p n c)
      have HEND := Lib.hid hend
      have HROW := Lib.hid hrow
      clear hend hrow
      go_wp2
      refine bodyPost_ret (results_cell_row Tryd.results8 _ _ (w.heap.size + 1) 24 #[.string s, .int .i64 z, .int .i64 x, .int .i64 y, .slice p n c] (0, 0) _ rfl HROW.out Tryd.underlying24 rfl infoRp) rfl ⟨_, rfl, HEND.out⟩

theorem cut16_any (s : ByteArray) (w : World) :
    Calls Tryd.prog 20 #[.string s] w fun e w' => e = .returned (.string (s.extract 0 400)) ∧ w = w' := by
  by_cases h : 400 < s.size
  · have b1 : decide ((s.size : Int) > 400) = true := decide_eq_true (by omega)
    have b1i : (400 : Int) < s.size := by omega
    have b2 : (400 : Int) ≤ s.size := by omega
    clear h
    go_enter Tryd.func20, Tryd.ntmps20
    go_wp2
    go_ret
    exact ⟨rfl, rfl⟩
  · have b1 : decide ((s.size : Int) > 400) = false := decide_eq_false (by omega)
    have b1i : ¬ (400 : Int) < s.size := by omega
    have hx : s.extract 0 400 = s := by
      have e : str s.data.toList = s := str_data s
      rw [← e, str_takeQ, List.take_of_length_le (by rw [data_len]; omega)]
    rw [hx]
    clear h hx
    go_enter Tryd.func20, Tryd.ntmps20
    go_wp2
    go_ret
    exact ⟨rfl, rfl⟩

end Go.Proofs.YtijdbmapdmhknaaDoor
