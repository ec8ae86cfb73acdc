/- The landed blob's fill: bytes copied into a part of a row, by jumps. The landed journal's Read: a loop by goto. -/
import Derived.Test.YtoigembmbajopaaDoorGO
import Derived.Test.YtoigembmbajopaaDoorGB
import Derived.ScopeJumps
import Derived.Scope
import Derived.Test.YtoigembmbajopaaDoorGX
import Derived.Test.YtoigembmbajopaaDoorGF
namespace Go.Proofs.YtoigembmbajopaaDoor
open Go.RowKit

/-- A scope through which the run comes back to one label, a measure falling. -/
theorem wp_scope_back {P : Program} {a : Act} {w : World} {Q : Exit → Act → World → Prop} {c rest : Code} (l : Nat) (J : Act → World → Prop) (μ : Act → World → Nat) (hf : findLabel c l = some (Code.skip.seq rest))
    (enter : ∀ Q', (∀ a w, J a w → rest.wp P Q' a w) → c.wp P Q' a w)
    (pass : ∀ a w, J a w → rest.wp P (Exit.jump l (fun a' w' => J a' w' ∧ μ a' w' < μ a w) Q) a w) : (Code.scope c).wp P Q a w := by
  refine wp_scope_jumps l J μ hf (enter _ fun a w h => wp_mono (pass a w h) ?_) (fun a w h => wp_seq (wp_skip (pass a w h)))
  intro e a w hq
  cases e with
  | goto l' => exact ⟨hq.1, hq.2.1⟩
  | _ => exact hq

/-- A block that is a row of bytes, whatever its type is called. -/
def RowB (b : Nat) (T : TypeId) (bs : List UInt8) (w : World) : Prop := w.heap[b]? = some (.cells (bs.map u8V).toArray T (0, 0))
theorem RowB.lt {b : Nat} {T : TypeId} {bs : List UInt8} {w : World} (h : RowB b T bs w) : b < w.heap.size := (Array.getElem?_eq_some_iff.1 h).1
theorem RowB.kept {b : Nat} {T : TypeId} {bs : List UInt8} {w w' : World} (h : RowB b T bs w) (k : Kept w w') : RowB b T bs w' := Kept.row k h
theorem RowB.stay {b : Nat} {T : TypeId} {bs : List UInt8} {w w' : World} (h : RowB b T bs w) (k : w'.heap[b]? = w.heap[b]?) : RowB b T bs w' := k.trans h
theorem RowB.cell {b : Nat} {T : TypeId} {bs : List UInt8} {w : World} (h : RowB b T bs w) (i : Nat) (hi : i < bs.length) : w.cell? ⟨b, i, none⟩ = some (u8V bs[i]) := by
  rw [cell_of_row _ _ i _ _ _ h]
  simp [hi]
theorem RowB.frozen {b : Nat} {T : TypeId} {bs : List UInt8} {w : World} (h : RowB b T bs w) (i : Nat) : w.frozen? ⟨b, i, none⟩ = false := frozen_of_row _ _ _ _ _ h
theorem RowB.set {b : Nat} {T : TypeId} {bs : List UInt8} {w : World} (h : RowB b T bs w) (i : Nat) (x : UInt8) : RowB b T (bs.set i x) (w.setCell ⟨b, i, none⟩ (u8V x)) := by
  have := heap_setCell_same w b i _ _ (u8V x) h
  rw [RowB, this]
  simp
/-- 'string(b[a:e])' -/
theorem RowB.conv {b : Nat} {T : TypeId} {bs : List UInt8} {w : World} (h : RowB b T bs w) (a n c : Nat) (hn : a + n ≤ bs.length) :
    (convert 46 9 (.slice (some ⟨b, a, none⟩) n c)).run Tryd.prog w = .ok (.string (str ((bs.drop a).take n))) w := by
  have hl : ((bs.drop a).take n).length = n := by rw [List.length_take, List.length_drop]; omega
  have h1 := run_convert_bytes_back (P := Tryd.prog) w 46 9 5 ⟨b, a, none⟩ c ((bs.drop a).take n) Tryd.underlying46 Tryd.underlying5 Tryd.underlying9 (fun j hj => by
    rw [addr_add]
    have hj2 : j < n := by rw [hl] at hj; exact hj
    rw [h.cell (a + j) (by omega)]
    simp [u8V])
  rw [hl] at h1
  exact h1
theorem patch_snoc (x : UInt8) : ∀ (vs bs : List UInt8) (o : Nat), patch bs o (vs ++ [x]) = (patch bs o vs).set (o + vs.length) x
  | [], bs, o => rfl
  | v :: r, bs, o => by
    show patch (bs.set o v) (o + 1) (r ++ [x]) = (patch (bs.set o v) (o + 1) r).set (o + (r.length + 1)) x
    rw [patch_snoc x r, show o + 1 + r.length = o + (r.length + 1) by omega]

/-- The frame at the label: so many bytes are copied. -/
def FillAt (b o n c : Nat) (T : TypeId) (bs : List UInt8) (s : ByteArray) (w0 : World) (a : Act) (w : World) : Prop :=
  ∃ (i : Nat) (u6 u7 u8 u9 u10 u11 u12 u13 u14 u15 u16 u17 u18 u19 u20 u21 u22 u23 u24 : Value), a = { tmps := (.slice (some ⟨b, o, none⟩) n c :: .string s :: undef :: undef :: .int .i64 0 :: .int .i64 i :: u6 :: u7 :: u8 :: u9 :: u10 :: u11 :: u12 :: u13 :: u14 :: u15 :: u16 :: u17 :: u18 :: u19 :: u20 :: u21 :: u22 :: u23 :: u24 :: []).toArray, defers := [] } ∧ i ≤ n ∧ i ≤ s.size ∧
    Hid (RowB b T (patch bs o (s.data.toList.take i)) w) ∧ Hid (ButBy (fun k => k = b) w0 w ∧ w.heap.size = w0.heap.size)

end Go.Proofs.YtoigembmbajopaaDoor
namespace Go.Proofs.YtoigembmbajopaaDoor
open Go.RowKit

/-- How much a reader has left. -/
def lenAt (b : Nat) (w : World) : Nat := match w.cell? ⟨b, 0, none⟩ with
  | some (.string s) => s.size
  | _ => 0
theorem lenAt_rd {b : Nat} {s : RdSt} {w : World} (h : RdAt b s w) : lenAt b w = s.1.length := by
  unfold lenAt
  rw [h.c0]
  exact str_size _
theorem grown_keep {w w' : World} {b : Nat} (h : w.grownBy w' (some b)) (hb : w.heap.size ≤ b) : Kept w w' :=
  ⟨h.os, h.tape, h.output, h.size, fun k hk => h.block k hk (fun e => by have := Option.some.inj e; omega)⟩

/-- The frame at the label. -/
def ReadAt (t : ByteArray) (w0 : World) (br n : Nat) (FIN : Option (List (List Rc))) (a : Act) (w : World) : Prop :=
  ∃ (bx B : Nat) (v u1 u6 u7 u8 u9 u10 u11 u12 u13 u14 u15 u16 u17 u18 u19 u20 u21 u22 u23 u24 u25 u26 : Value) (T : List UInt8) (E : List (List (Rc × Value) × Value)) (f : Nat), a = { tmps := (.string t :: u1 :: .slice none 0 0 :: .int .i64 0 :: v :: .pointer (some ⟨bx, 0, none⟩) :: u6 :: u7 :: u8 :: u9 :: u10 :: u11 :: u12 :: u13 :: u14 :: u15 :: u16 :: u17 :: u18 :: u19 :: u20 :: u21 :: u22 :: u23 :: u24 :: u25 :: u26 :: []).toArray, defers := [] } ∧ Hid (br < bx ∧ bx < B ∧ w0.heap.size ≤ br) ∧
    Hid (T.length < f ∧ E.length + T.length ≤ n) ∧ Hid (TxsOwn B E v w) ∧ Hid (RJ w0 br bx (T, 0) w) ∧ Hid (B ≤ w.heap.size) ∧ Hid (readG n f T (txsOf E) = FIN)

set_option maxRecDepth 100000 in
set_option maxHeartbeats 16000000 in
theorem readOk : JReadOk := by
  intro t w ht hTab
  obtain ⟨ir, hir, hx⟩ := Option.map_eq_some_iff.1 infoRcs
  simp only [Prod.mk.injEq] at hx
  obtain ⟨hz0, hz1, hz2⟩ := hx
  have HIR := Lib.hid hir
  have HZ0 := Lib.hid hz0
  have HZ1 := Lib.hid hz1
  have HZ2 := Lib.hid hz2
  have C0 := read_any t w
  obtain ⟨S, hS⟩ : ∃ S, S = t.data.toList := ⟨_, rfl⟩
  obtain ⟨n, hn⟩ : ∃ n, n = t.size := ⟨_, rfl⟩
  have hSl : S.length = n := by rw [hS, data_len, hn]
  rw [← hn] at ht
  rw [← hS] at C0 ⊢
  obtain ⟨FIN, hFIN⟩ : ∃ F, F = readG n (n + 1) S [] := ⟨_, rfl⟩
  have HFIN : Hid (readG n (n + 1) S [] = FIN) := Lib.hid hFIN.symm
  have HJ : Hid (∀ L, FIN = some L ↔ JRd S L) := Lib.hid (fun L => by rw [hFIN, ← hSl]; exact readG_iff S L)
  have HSL : Hid (S.length = n) := Lib.hid hSl
  have HNB := Lib.hid ht
  have HTAB := Lib.hid hTab
  obtain ⟨br, hbr⟩ : ∃ br, br = w.heap.size := ⟨_, rfl⟩
  have HBR := Lib.hid hbr
  rw [← hbr] at C0
  clear hir hz0 hz1 hz2 hFIN hS hSl hn ht hTab hbr
  obtain ⟨JR, hJR⟩ : ∃ J, J = JReadPost S w := ⟨_, rfl⟩
  rw [← hJR]
  have HPOST := Lib.hid hJR
  have HBAD : Hid (∀ w', Kept w w' → FIN = none → JR (.returned (.tuple #[.slice none 0 0, .int .i64 110])) w') := Lib.hid (fun w' k hf => by
    rw [hJR]
    refine ⟨k, Or.inl ⟨fun ⟨L, hL⟩ => ?_, none, 0, rfl⟩⟩
    have := (HJ.out L).2 hL
    rw [hf] at this; cases this)
  have HGOOD : Hid (∀ w' v B E, Kept w w' → FIN = some (txsOf E) → TxsOwn B E v w' → JR (.returned (.tuple #[v, .int .i64 0])) w') := Lib.hid (fun w' v B E k hf ho => by
    rw [hJR]
    exact ⟨k, Or.inr ⟨_, v, (HJ.out _).1 hf, rfl, ho.at_⟩⟩)
  clear hJR
  go_enter Tryd.func16, Tryd.ntmps16
  go_wp2
  refine wp_scope_back 0 (ReadAt t w br n FIN) (fun _ w' => lenAt br w') rfl ?_ ?_
  · intro Q' hq
    have HQ := Lib.hid hq
    clear hq
    go_wp2_with fail
    refine C0.mono ?_
    rintro e w6 ⟨rfl, hr6, hb6⟩
    obtain ⟨W7, hW7⟩ : ∃ W7, W7 = w6.alloc (.cells #[.pointer (some ⟨br, 0, none⟩)] 99) := ⟨_, rfl⟩
    have hk7 : Kept w6 W7 := by rw [hW7]; exact box_below _ _
    have hb0 : Kept w w6 := by rw [HBR.out] at hb6; exact hb6
    have HI7 : Hid (RJ w br w6.heap.size (S, 0) W7) := Lib.hid ⟨grown_below (hb0.then hk7) _, Kept.row hk7 hr6, by rw [hW7]; exact heap_alloc_last w6 _⟩
    have HB7 : Hid (br < w6.heap.size ∧ w6.heap.size < W7.heap.size) := Lib.hid ⟨hr6.lt, by rw [hW7]; simp⟩
    have HW7 := Lib.hid hW7
    clear hr6 hb6 hW7 hk7 hb0 C0
    go_wp2
    go_step3
    rename_i K hK
    rw [← HW7.out]
    exact hK _ _ (HQ.out _ _ ⟨w6.heap.size, W7.heap.size, _, _, _, _, _, _, _, _, _, _, _, _, _, _, _, _, _, _, _, _, _, _, _, S, [], n + 1, rfl, Lib.hid ⟨HB7.out.1, HB7.out.2, Nat.le_of_eq HBR.out.symm⟩, Lib.hid ⟨by rw [HSL.out]; omega, by rw [HSL.out]; simp⟩, Lib.hid (TxsOwn.nil _ _), HI7, Lib.hid (Nat.le_refl _), HFIN⟩)
  · rintro a' w' ⟨bx, B, v, u1, u6, u7, u8, u9, u10, u11, u12, u13, u14, u15, u16, u17, u18, u19, u20, u21, u22, u23, u24, u25, u26, T, E, f, rfl, HBX, HTF, HO, HI, HBS, HG⟩
    obtain ⟨pv, cv, hv, -, -⟩ := own_slice HO.out.1
    subst hv
    have hlen : lenAt br w' = T.length := lenAt_rd HI.out.rdj
    have x0 : w'.cell? ⟨bx, 0, none⟩ = some (.pointer (some ⟨br, 0, none⟩)) := HI.out.cx
    have LF := left_any br (T, 0) w' HI.out.rdj
    simp only at LF
    obtain ⟨tl, htl⟩ : ∃ tl, tl = T.length := ⟨_, rfl⟩
    rw [← htl] at LF hlen
    have HTL := Lib.hid htl
    have HLEN := Lib.hid hlen
    have HKW : Hid (Kept w w') := Lib.hid (grown_keep HI.out.grj HBX.out.2.2)
    obtain ⟨g, hfg⟩ : ∃ g, f = g + 1 := ⟨f - 1, by have := HTF.out.1; omega⟩
    subst hfg
    by_cases h0 : tl = 0
    · have b0 : ((tl : Int) == 0) = true := by rw [beq_iff_eq]; omega
      have HF : Hid (FIN = some (txsOf E)) := Lib.hid (by
        have h := HG.out
        rw [readG, if_pos (by rw [← htl]; exact h0)] at h
        exact h.symm)
      clear htl HG h0 hlen
      go_wp2_with fail
      refine LF.mono ?_
      rintro e w2 ⟨rfl, hw2⟩
      subst hw2
      clear LF
      go_wp2
      exact HGOOD.out _ _ _ _ HKW.out HF.out HO.out
    · have b0 : ((tl : Int) == 0) = false := by rw [beq_eq_false_iff_ne]; omega
      obtain ⟨a, ha⟩ : ∃ a, a = (numR (T, 0) 4).1 := ⟨_, rfl⟩
      obtain ⟨t1, ht1⟩ : ∃ t, t = (numR (T, 0) 4).2 := ⟨_, rfl⟩
      have p1 : numR (T, 0) 4 = (a, t1) := by rw [ha, ht1]
      obtain ⟨c, hc⟩ : ∃ c, c = (numR t1 4).1 := ⟨_, rfl⟩
      obtain ⟨t2, ht2⟩ : ∃ t, t = (numR t1 4).2 := ⟨_, rfl⟩
      have p2 : numR t1 4 = (c, t2) := by rw [hc, ht2]
      obtain ⟨X, hX⟩ : ∃ X, X = (takeR t2 (a : Nat)).1 := ⟨_, rfl⟩
      obtain ⟨t3, ht3⟩ : ∃ t, t = (takeR t2 (a : Nat)).2 := ⟨_, rfl⟩
      have p3 : takeR t2 (a : Nat) = (X, t3) := by rw [hX, ht3]
      have hst := readG_step n g T (txsOf E) (by rw [← htl]; exact h0) a t1 p1 c t2 p2 X t3 p3
      have HST : Hid (FIN = if n < a then none else match recordsR X with | none => none | some l => if t3.2 ≠ 0 ∨ c ≠ moreN 0 X then none else readG n g t3.1 (txsOf E ++ [l])) := Lib.hid (HG.out.symm.trans hst)
      have HLS : Hid (t3.2 = 0 → t3.1.length + 8 ≤ tl) := Lib.hid (fun h => by rw [htl]; exact readG_less p1 p2 p3 h)
      have HAN : Hid (t3.2 = 0 → ¬ n < a) := Lib.hid (fun h => by
        obtain ⟨-, -, g2, g3⟩ := takeR_ok (s := t2) (n := (a : Nat)) (x := X) (l := t3.1) (by rw [p3, ← h])
        have h5 := numR_short (T, 0) 4
        have h6 := numR_short t1 4
        rw [p1] at h5
        rw [p2] at h6
        simp only at h5 h6
        have h7 : t2.1.length = X.length + t3.1.length := by rw [g2, List.length_append]
        have h8 := HTF.out.2
        omega)
      have TR := jtrans_any br T (by have := HTF.out.2; have := HNB.out; omega) w' HI.out.rdj (HTAB.out.later HKW.out) a t1 p1 c t2 p2 X t3 p3
      unfold JTransPost at TR
      clear ha ht1 hc ht2 hX ht3 htl p1 p2 p3 hst HG h0 hlen
      go_wp2_with fail
      refine LF.mono ?_
      rintro e w2 ⟨rfl, hw2⟩
      subst hw2
      clear LF
      go_wp2_with fail
      refine TR.mono ?_
      rintro e w3 ⟨hg3, hr3, hcs⟩
      have HI3 := Lib.hid (HI.out.read (by have := HBX.out; omega) hr3 hg3)
      have HO3 := Lib.hid (HO.out.grown hg3 (by have := HBX.out; omega))
      have HBS3 : Hid (B ≤ w3.heap.size) := Lib.hid (Nat.le_trans HBS.out hg3.size)
      have HKW3 : Hid (Kept w w3) := Lib.hid (grown_keep HI3.out.grj HBX.out.2.2)
      rcases hcs with ⟨hbad, rfl⟩ | ⟨h30, hcm, A, vA, hrs, rfl, hro⟩
      · have HF : Hid (FIN = none) := Lib.hid (by
          rw [HST.out]
          split
          · rfl
          · split
            · rfl
            · rename_i l hl
              rw [if_pos]
              rcases hbad with h | h | h
              · exact Or.inl h
              · exact Or.inr h
              · rw [recordsL_eq, hl] at h; cases h)
        clear TR hg3 hr3 hbad HST x0 HO HI
        go_wp2
        exact HBAD.out _ HKW3.out HF.out
      · have HF : Hid (readG n g t3.1 (txsOf E ++ [A.map Prod.fst]) = FIN) := Lib.hid (by
          rw [HST.out, if_neg (HAN.out h30), ← recordsL_eq, hrs]
          simp only
          rw [if_neg]
          rintro (h | h)
          · exact h h30
          · exact h hcm)
        have HTT : Hid (t3 = (t3.1, 0)) := Lib.hid (by rw [← h30])
        have HL8 := Lib.hid (HLS.out h30)
        have HA : Hid (RecsOwn B A vA w3) := Lib.hid (hro.base HBS.out)
        obtain ⟨pw, cw, hw, -, -⟩ := own_slice hro.1
        clear TR hg3 hr3 hrs hro h30 hcm HST HLS HAN x0 HO HI
        subst hw
        have HFL : Hid (FlatAt 1 1 [Value.slice pw A.length cw] (.slice (some ⟨w3.heap.size, 0, none⟩) 1 1) (w3.alloc (.cells #[.slice pw A.length cw] 22))) := Lib.hid (FlatAt.new w3 22 1 1 1 #[.slice pw A.length cw] rfl (by intro y hy; simp at hy; subst hy; rfl))
        go_wp2_with (at_builtin; refine wpList_append_flat rfl _ _ 36 rfl B 22 ir (.slice none 0 0) 1 24 Tryd.underlying36 HIR.out HZ0.out HZ1.out HZ2.out rfl (by decide) _ _ _ rfl (HO3.out.1.alloc _) _ 1 [Value.slice pw A.length cw] rfl HFL.out ?wa1 ?wa2 ?wa3 ?_)
        case wa1 => have := HTF.out.2; have := HNB.out; unfold maxLen; omega
        case wa2 => have := HTF.out.2; have := HNB.out; omega
        case wa3 => have := HBS3.out; simp; omega
        intro v' w8 hown8 hg8 _
        have HO8 : Hid (TxsOwn B (E ++ [(A, Value.slice pw A.length cw)]) v' w8) := Lib.hid (HO3.out.app HA.out hown8 hg8)
        have HI8 : Hid (RJ w br bx t3 w8) := Lib.hid ((HI3.out.kept (box_below w3 _)).own (by have := HBX.out; omega) (by have := HBX.out; omega) (by have := HBX.out; omega) (HO3.out.1.alloc _) hg8)
        have HBS8 : Hid (B ≤ w8.heap.size) := Lib.hid (by have := hg8.size; have := HBS3.out; simp at *; omega)
        have HF8 : Hid (readG n g t3.1 (txsOf (E ++ [(A, Value.slice pw A.length cw)])) = FIN) := Lib.hid (by unfold txsOf at HF ⊢; rw [List.map_append]; exact HF.out)
        have HTF8 : Hid (t3.1.length < g ∧ (E ++ [(A, Value.slice pw A.length cw)]).length + t3.1.length ≤ n) := Lib.hid (by
          have := HL8.out; have := HTF.out; have := HTL.out
          simp only [List.length_append, List.length_cons, List.length_nil]
          omega)
        have HLT : Hid (lenAt br w8 < lenAt br w') := Lib.hid (by
          rw [HLEN.out, lenAt_rd HI8.out.rdj]
          have := HL8.out
          omega)
        have HI9 : Hid (RJ w br bx (t3.1, 0) w8) := Lib.hid (by rw [← HTT.out]; exact HI8.out)
        clear hown8 hg8 HO3 HA HFL HI3 HBS3 HF HI8
        go_wp2
        go_step3
        exact ⟨rfl, ⟨bx, B, v', _, _, _, _, _, _, _, _, _, _, _, _, _, _, _, _, _, _, _, _, _, _, t3.1, E ++ [(A, Value.slice pw A.length cw)], g, rfl, HBX, HTF8, HO8, HI9, HBS8, HF8⟩, HLT.out⟩

end Go.Proofs.YtoigembmbajopaaDoor
