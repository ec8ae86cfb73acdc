/- The landed blob's fill: bytes copied into a part of a row, by jumps. -/
import Derived.Test.YtppbknlhknadbaaGD
import Derived.Test.YtppbknlhknadbaaGB
import Derived.ScopeJumps
import Derived.Scope
namespace Go.Proofs.Ytppbknlhknadbaa
open Go.RowKit

/-- A scope through which the run comes back to one label, a measure falling. -/
theorem wp_scope_back {P : Program} {a : Act} {w : World} {Q : Exit → Act → World → Prop} {c rest : Code} (l : Nat) (J : Act → World → Prop) (μ : Act → World → Nat) (hf : findLabel c l = some (Code.skip.seq rest))
    (enter : ∀ Q', (∀ a w, J a w → rest.wp P Q' a w) → c.wp P Q' a w)
    (pass : ∀ a w, J a w → rest.wp P (Exit.jump l (fun a' w' => J a' w' ∧ μ a' w' < μ a w) Q) a w) : (Code.scope c).wp P Q a w := by
  refine wp_scope_jumps l J μ hf (enter _ fun a w h => wp_mono (pass a w h) ?_) (fun a w h => wp_seq (wp_skip (pass a w h)))
  intro e a w hq
  cases e with
  | goto l' => exact ⟨hq.1, hq.2.1⟩
  | _ => exact hq

/-- A block that is a row of bytes, whatever its type is called. -/
def RowB (b : Nat) (T : TypeId) (bs : List UInt8) (w : World) : Prop := w.heap[b]? = some (.cells (bs.map u8V).toArray T (0, 0))
theorem RowB.lt {b : Nat} {T : TypeId} {bs : List UInt8} {w : World} (h : RowB b T bs w) : b < w.heap.size := (Array.getElem?_eq_some_iff.1 h).1
theorem RowB.kept {b : Nat} {T : TypeId} {bs : List UInt8} {w w' : World} (h : RowB b T bs w) (k : Kept w w') : RowB b T bs w' := Kept.row k h
theorem RowB.stay {b : Nat} {T : TypeId} {bs : List UInt8} {w w' : World} (h : RowB b T bs w) (k : w'.heap[b]? = w.heap[b]?) : RowB b T bs w' := k.trans h
theorem RowB.cell {b : Nat} {T : TypeId} {bs : List UInt8} {w : World} (h : RowB b T bs w) (i : Nat) (hi : i < bs.length) : w.cell? ⟨b, i, none⟩ = some (u8V bs[i]) := by
  rw [cell_of_row _ _ i _ _ _ h]
  simp [hi]
theorem RowB.frozen {b : Nat} {T : TypeId} {bs : List UInt8} {w : World} (h : RowB b T bs w) (i : Nat) : w.frozen? ⟨b, i, none⟩ = false := frozen_of_row _ _ _ _ _ h
theorem RowB.set {b : Nat} {T : TypeId} {bs : List UInt8} {w : World} (h : RowB b T bs w) (i : Nat) (x : UInt8) : RowB b T (bs.set i x) (w.setCell ⟨b, i, none⟩ (u8V x)) := by
  have := heap_setCell_same w b i _ _ (u8V x) h
  rw [RowB, this]
  simp
/-- 'string(b[a:e])' -/
theorem RowB.conv {b : Nat} {T : TypeId} {bs : List UInt8} {w : World} (h : RowB b T bs w) (a n c : Nat) (hn : a + n ≤ bs.length) :
    (convert 49 9 (.slice (some ⟨b, a, none⟩) n c)).run Try.prog w = .ok (.string (str ((bs.drop a).take n))) w := by
  have hl : ((bs.drop a).take n).length = n := by rw [List.length_take, List.length_drop]; omega
  have h1 := run_convert_bytes_back (P := Try.prog) w 49 9 5 ⟨b, a, none⟩ c ((bs.drop a).take n) Try.underlying49 Try.underlying5 Try.underlying9 (fun j hj => by
    rw [addr_add]
    have hj2 : j < n := by rw [hl] at hj; exact hj
    rw [h.cell (a + j) (by omega)]
    simp [u8V])
  rw [hl] at h1
  exact h1
theorem patch_snoc (x : UInt8) : ∀ (vs bs : List UInt8) (o : Nat), patch bs o (vs ++ [x]) = (patch bs o vs).set (o + vs.length) x
  | [], bs, o => rfl
  | v :: r, bs, o => by
    show patch (bs.set o v) (o + 1) (r ++ [x]) = (patch (bs.set o v) (o + 1) r).set (o + (r.length + 1)) x
    rw [patch_snoc x r, show o + 1 + r.length = o + (r.length + 1) by omega]

/-- The frame at the label: so many bytes are copied. -/
def FillAt (b o n c : Nat) (T : TypeId) (bs : List UInt8) (s : ByteArray) (w0 : World) (a : Act) (w : World) : Prop :=
  ∃ (i : Nat) (u6 u7 u8 u9 u10 u11 u12 u13 u14 u15 u16 u17 u18 u19 u20 u21 u22 u23 u24 : Value), a = { tmps := (.slice (some ⟨b, o, none⟩) n c :: .string s :: undef :: undef :: .int .i64 0 :: .int .i64 i :: u6 :: u7 :: u8 :: u9 :: u10 :: u11 :: u12 :: u13 :: u14 :: u15 :: u16 :: u17 :: u18 :: u19 :: u20 :: u21 :: u22 :: u23 :: u24 :: []).toArray, defers := [] } ∧ i ≤ n ∧ i ≤ s.size ∧
    Hid (RowB b T (patch bs o (s.data.toList.take i)) w) ∧ Hid (ButBy (fun k => k = b) w0 w ∧ w.heap.size = w0.heap.size)

set_option maxRecDepth 100000 in
set_option maxHeartbeats 2000000 in
theorem bfill_any (b o n c : Nat) (T : TypeId) (bs : List UInt8) (s : ByteArray) (w : World) (h : RowB b T bs w) (hn : o + n ≤ bs.length) (hb : bs.length ≤ 1073741824) (hs : s.size ≤ 1073741824) :
    Calls Try.prog 48 #[.slice (some ⟨b, o, none⟩) n c, .string s] w fun e w' => e = .returned (.int .i64 ((min n s.size : Nat) : Int)) ∧ RowB b T (patch bs o (s.data.toList.take n)) w' ∧ ButBy (fun k => k = b) w w' ∧ w'.heap.size = w.heap.size := by
  have HH := Lib.hid h
  have HN := Lib.hid hn
  have HB := Lib.hid hb
  clear h hn hb
  go_enter Try.func48, Try.ntmps48
  go_wp2
  refine wp_scope_back 0 (FillAt b o n c T bs s w) (fun a' _ => n - (intOf (a'.tmps.getD 5 undef)).toNat) rfl ?_ ?_
  · intro Q' hq
    have HQ := Lib.hid hq
    clear hq
    go_wp2
    go_step3
    rename_i K hK
    exact hK _ _ (HQ.out _ _ ⟨0, _, _, _, _, _, _, _, _, _, _, _, _, _, _, _, _, _, _, _, rfl, Nat.zero_le _, Nat.zero_le _, HH, Lib.hid ⟨but_refl _ _, rfl⟩⟩)
  · rintro a' w' ⟨i, u6, u7, u8, u9, u10, u11, u12, u13, u14, u15, u16, u17, u18, u19, u20, u21, u22, u23, u24, rfl, hi, his, HR, HK⟩
    have hD := data_len s
    by_cases hin : i = n
    · have b1 : ((i : Int) == (n : Int)) = true := by rw [beq_iff_eq]; omega
      have HE : Hid (min n s.size = i ∧ s.data.toList.take n = s.data.toList.take i) := Lib.hid ⟨by omega, by rw [hin]⟩
      clear hin hD
      go_wp2
      simp only [Exit.jump]
      go_ret
      exact ⟨by rw [HE.out.1]; rfl, by rw [HE.out.2]; exact HR.out, HK.out⟩
    · have b1 : ((i : Int) == (n : Int)) = false := by rw [beq_eq_false_iff_ne]; omega
      by_cases hisz : i = s.size
      · have b2 : ((i : Int) == (s.size : Int)) = true := by rw [beq_iff_eq]; omega
        have HE : Hid (min n s.size = i ∧ s.data.toList.take n = s.data.toList.take i) := Lib.hid ⟨by omega, by
          rw [List.take_of_length_le (by omega), List.take_of_length_le (by omega)]⟩
        clear hin hisz hD
        go_wp2
        simp only [Exit.jump]
        go_ret
        exact ⟨by rw [HE.out.1]; rfl, by rw [HE.out.2]; exact HR.out, HK.out⟩
      · have b2 : ((i : Int) == (s.size : Int)) = false := by rw [beq_eq_false_iff_ne]; omega
        have hii : (i : Int) < s.size := by omega
        have hil : i < s.size := by omega
        have hinn : (i : Int) < n := by omega
        have hti := List.take_succ_eq_append_getElem (l := s.data.toList) (i := i) (by omega)
        obtain ⟨x, hx⟩ : ∃ x : UInt8, x = s.data.toList[i]'(by omega) := ⟨_, rfl⟩
        rw [← hx] at hti
        have hxs : s[i] = x := by rw [hx]; rfl
        obtain ⟨q, hq⟩ : ∃ q, q = x.toNat := ⟨_, rfl⟩
        have hxq : s[i].toNat = q := by rw [hxs, hq]
        obtain ⟨i1, hi1⟩ : ∃ i1, i1 = i + 1 := ⟨_, rfl⟩
        have v1 : IntKind.i64.wrap ((i : Int) + 1) = (i1 : Int) := by rw [show (i : Int) + 1 = (i1 : Int) by omega]; exact IntWalk.i64_in _ (by have := HN.out; have := HB.out; omega)
        obtain ⟨oi, hoi⟩ : ∃ oi, oi = o + i := ⟨_, rfl⟩
        have hlt : oi < (patch bs o (s.data.toList.take i)).length := by rw [patch_len]; have := HN.out; omega
        have hcell := HR.out.cell oi hlt
        have hfz := HR.out.frozen oi
        have hset := HR.out.set oi x
        have e : (patch bs o (s.data.toList.take i)).set oi x = patch bs o (s.data.toList.take i1) := by
          rw [hi1, hti, patch_snoc, List.length_take, hD, Nat.min_eq_left (by omega), hoi]
        rw [e] at hset
        unfold u8V at hset hcell
        rw [← hq] at hset
        have HS := Lib.hid hset
        have HK2 : Hid (ButBy (fun k => k = b) w (w'.setCell ⟨b, oi, none⟩ (.int .u8 (q : Int))) ∧ (w'.setCell ⟨b, oi, none⟩ (.int .u8 (q : Int))).heap.size = w.heap.size) := Lib.hid ⟨HK.out.1.setCell b oi _ rfl, by rw [World.size_setCell]; exact HK.out.2⟩
        have HI1 := Lib.hid hi1
        generalize (patch bs o (s.data.toList.take i))[oi] = y at hcell
        have hoi2 : o + i = oi := hoi.symm
        clear hset e hti hx hxs hq hlt HR HK hi1 hD hoi
        go_wp2
        go_step3
        refine ⟨rfl, ⟨i1, _, _, _, _, _, _, _, _, _, _, _, _, _, _, _, _, _, _, _, rfl, by have := HI1.out; omega, by have := HI1.out; omega, HS, HK2⟩, ?_⟩
        have := HI1.out
        simp [intOf]
        omega

end Go.Proofs.Ytppbknlhknadbaa
