/- What the landed recipes' reader reads; signed, read. -/
import Derived.Test.YtijdbmapdmhknaaDoorRyE
import Derived.Test.YtijdbmapdmhknaaDoorRqG
import Derived.Test.YtijdbmapdmhknaaDoorGD
namespace Go.Proofs.YtijdbmapdmhknaaDoor
open Go.RowKit

theorem lsigned_any (n : Nat) (hn : n < 4294967296) (w : World) :
    Calls Tryd.prog 59 #[.int .u32 (n : Nat)] w fun e w' => e = .returned (.int .i64 (sgnQ n)) ∧ w = w' := by
  have hs := sgnQ_is n hn
  have u1 : IntKind.i32.wrap (n : Int) = sgnQ n := by
    unfold sgnQ
    simp [IntKind.wrap, IntKind.bits, IntKind.signed]
    split <;> split <;> omega
  have u2 := IntWalk.i64_in (sgnQ n) (by omega)
  obtain ⟨s, hs2⟩ : ∃ s, s = sgnQ n := ⟨_, rfl⟩
  rw [← hs2] at u1 u2 ⊢
  clear hs hs2 hn
  go_enter Tryd.func59, Tryd.ntmps59
  go_wp2
  go_ret
  exact ⟨rfl, rfl⟩

/-! ### What is read -/
def rlM (t : List UInt8) : List Nat × RdSt := mansR (min (rqC t).1 1024) (rqC t).2 []
def recL (t : List UInt8) : Rp := ⟨(rqN t).1, ((rqZ t).1 : Int), sgnQ (rqR t).1, sgnQ (rqI t).1, (rlM t).1⟩
theorem recL_len (t : List UInt8) : (recL t).mans.length ≤ 1024 := by
  show (mansR _ _ _).1.length ≤ _
  rw [mansR_len]
  show 0 + _ ≤ _
  omega
/-- Which bytes the program accepts. -/
theorem getQ_land (t : List UInt8) : getQ t = if mayQ (recL t) ∧ recpB (recL t) = t then some (recL t) else none := by
  by_cases h : mayQ (recL t) ∧ recpB (recL t) = t
  · rw [if_pos h]
    exact (getQ_iff t _).2 h
  · rw [if_neg h]
    cases hg : getQ t with
    | none => rfl
    | some r =>
      obtain ⟨h1, h2⟩ := getQ_ok hg
      have h3 := (readQ_recpB h1).1
      rw [h2] at h3
      have h4 : (rqM t).1 = r.mans := by rw [← h3]; rfl
      have h5 : (rqC t).1 = r.mans.length := by
        rw [← h4]
        show _ = (mansR _ _ _).1.length
        rw [mansR_len]
        show _ = 0 + _
        omega
      have h6 : recL t = r := by
        rw [← h3]
        unfold recL readQ rlM
        rw [Nat.min_eq_left (by rw [h5]; exact h1.2.2.2.1)]
        rfl
      rw [h6] at h
      exact absurd ⟨h1, h2⟩ h
theorem qtake (b : Nat) (s : RdSt) (k : Int) (w : World) (h : RdAt b s w) (hl : s.1.length ≤ 1000000) (T : ByteArray) (hT : T = str (takeR s k).1) (t : RdSt) (ht : t = (takeR s k).2) :
    Calls Tryd.prog 57 #[.pointer (some ⟨b, 0, none⟩), .int .i64 k] w (RdPost b (.string T) t w) := by
  subst hT ht; exact take_any b s k w h hl
theorem qu16 (b : Nat) (s : RdSt) (w : World) (h : RdAt b s w) (hl : s.1.length ≤ 1000000) (n : Nat) (hn : n = (numR s 2).1) (t : RdSt) (ht : t = (numR s 2).2) :
    Calls Tryd.prog 61 #[.pointer (some ⟨b, 0, none⟩)] w (RdPost b (.int .u16 n) t w) := by
  subst hn ht; exact u16r_any b s w h hl
theorem qu32 (b : Nat) (s : RdSt) (w : World) (h : RdAt b s w) (hl : s.1.length ≤ 1000000) (n : Nat) (hn : n = (numR s 4).1) (t : RdSt) (ht : t = (numR s 4).2) :
    Calls Tryd.prog 58 #[.pointer (some ⟨b, 0, none⟩)] w (RdPost b (.int .u32 n) t w) := by
  subst hn ht; exact u32r_any b s w h hl
theorem qtext (b : Nat) (s : RdSt) (w : World) (h : RdAt b s w) (hl : s.1.length ≤ 1000000) (T : ByteArray) (hT : T = str (textR s).1) (t : RdSt) (ht : t = (textR s).2) :
    Calls Tryd.prog 60 #[.pointer (some ⟨b, 0, none⟩)] w (RdPost b (.string T) t w) := by
  subst hT ht; exact textr_any b s w h hl
theorem wpList_minQ {P : Program} {ops : Array Oper} {rest : List Oper} {o : Oper} {a : Act} {w : World} {Q : Exit → Act → World → Prop} (hgd : o.guard = none) (x y : Operand) (t u : TypeId)
    (ho : o.op = .call { callee := .builtin .min, args := #[x, y], argTypes := #[t, u] }) (k k' : IntKind) (m n r : Int) (hx : a.eval x = .int k m) (hy : a.eval y = .int k' n) (hr : (if n < m then n else m) = r)
    (h : wpList P ops Q rest (a.put o.dst (.int k r)) w) : wpList P ops Q (o :: rest) a w := by
  refine wpList_plain hgd fun K hK => ?_
  subst hr
  unfold Oper.wp execOp
  simp only [ho, resolve, invoke, builtin, Sem.run_bind, Sem.run_pure, Result.andThen_ok, List.map_toArray, List.map_cons, List.map_nil, hx, hy, run_min_int2]
  exact hK _ _ h

/-- A recipe in the making, in the block b5, its reader, the result's block b0. -/
structure QJ (w0 : World) (br b0 b5 base : Nat) (x0 x1 x2 x3 tv : Value) (l : List Nat) (s : RdSt) (wx : World) : Prop where
  kept : Kept w0 wx
  size : base ≤ wx.heap.size
  row0 : Row5 b0 (.string ⟨#[]⟩) (.int .i64 0) (.int .i64 0) (.int .i64 0) (.slice none 0 0) wx
  row5 : Row5 b5 x0 x1 x2 x3 tv wx
  rd : RdAt br s wx
  own : wx.ownsRow base 53 1 tv l.length (flatR uL l)
  ord : w0.heap.size ≤ br ∧ br < b0 ∧ b0 < b5 ∧ b5 < base
theorem RdAt.stayQ {b : Nat} {s : RdSt} {w w' : World} (h : RdAt b s w) (hk : w'.heap[b]? = w.heap[b]?) : RdAt b s w' := by
  unfold RdAt at *
  rw [hk]; exact h
section
variable {w0 wx wy wd w6 : World} {br b0 b5 base : Nat} {x0 x1 x2 x3 tv v' : Value} {l : List Nat} {s s' : RdSt} {XA : Array Value} {q : Nat}
theorem QJ.later (h : QJ w0 br b0 b5 base x0 x1 x2 x3 tv l s wx) (k : Kept wx wy) : QJ w0 br b0 b5 base x0 x1 x2 x3 tv l s wy :=
  ⟨h.kept.then k, Nat.le_trans h.size k.size, h.row0.later k, h.row5.later k, Kept.row k h.rd, own_stay h.own (fun m hm => k.block m (h.own.lt m hm).2), h.ord⟩
theorem QJ.read (h : QJ w0 br b0 b5 base x0 x1 x2 x3 tv l s wx) (hr : RdAt br s' wy) (k : wx.grownBy wy (some br)) : QJ w0 br b0 b5 base x0 x1 x2 x3 tv l s' wy := by
  have h0 := (Array.getElem?_eq_some_iff.1 h.row0.row).1
  have h5 := (Array.getElem?_eq_some_iff.1 h.row5.row).1
  have ho := h.ord
  refine ⟨below_touch h.kept k h.kept.size (by omega), Nat.le_trans h.size k.size, ⟨?_⟩, ⟨?_⟩, hr, own_stay h.own (fun m hm => k.block m (h.own.lt m hm).2 (fun e => by have := (h.own.lt m hm).1; have := Option.some.inj e; omega)), h.ord⟩
  · rw [k.block _ h0 (fun e => by have := Option.some.inj e; omega)]; exact h.row0.row
  · rw [k.block _ h5 (fun e => by have := Option.some.inj e; omega)]; exact h.row5.row
theorem QJ.set (h : QJ w0 br b0 b5 base x0 x1 x2 x3 tv l s wx) (j : Nat) (y : Value) {y0 y1 y2 y3 : Value} (hr : Row5 b5 y0 y1 y2 y3 tv (wx.setCell ⟨b5, j, none⟩ y)) : QJ w0 br b0 b5 base y0 y1 y2 y3 tv l s (wx.setCell ⟨b5, j, none⟩ y) := by
  have hord := h.ord
  refine ⟨below_touch h.kept (grown_set _ _ _ _) h.kept.size (by omega), ?_, ⟨?_⟩, hr, h.rd.stayQ (heap_setCell_other _ _ _ _ (by show br ≠ b5; omega)), own_stay h.own (fun m hm => heap_setCell_other _ _ _ _ (by show m ≠ b5; have := (h.own.lt m hm).1; omega)), hord⟩
  · have := h.size
    show base ≤ (wx.heap.modify _ _).size
    rw [Array.size_modify]; omega
  · rw [heap_setCell_other _ _ _ _ (by show b0 ≠ b5; omega)]; exact h.row0.row
theorem QJ.set0 (h : QJ w0 br b0 b5 base x0 x1 x2 x3 tv l s wx) (y : Value) : QJ w0 br b0 b5 base y x1 x2 x3 tv l s (wx.setCell ⟨b5, 0, none⟩ y) := h.set 0 y ⟨heap_setCell_same _ _ _ _ _ _ h.row5.row⟩
theorem QJ.set1 (h : QJ w0 br b0 b5 base x0 x1 x2 x3 tv l s wx) (y : Value) : QJ w0 br b0 b5 base x0 y x2 x3 tv l s (wx.setCell ⟨b5, 1, none⟩ y) := h.set 1 y ⟨heap_setCell_same _ _ _ _ _ _ h.row5.row⟩
theorem QJ.set2 (h : QJ w0 br b0 b5 base x0 x1 x2 x3 tv l s wx) (y : Value) : QJ w0 br b0 b5 base x0 x1 y x3 tv l s (wx.setCell ⟨b5, 2, none⟩ y) := h.set 2 y ⟨heap_setCell_same _ _ _ _ _ _ h.row5.row⟩
theorem QJ.set3 (h : QJ w0 br b0 b5 base x0 x1 x2 x3 tv l s wx) (y : Value) : QJ w0 br b0 b5 base x0 x1 x2 y tv l s (wx.setCell ⟨b5, 3, none⟩ y) := h.set 3 y ⟨heap_setCell_same _ _ _ _ _ _ h.row5.row⟩
/-- A manifest's number is appended. -/
theorem QJ.app (h : QJ w0 br b0 b5 base x0 x1 x2 x3 tv l s wd)
    (ho6 : w6.ownsRow base 53 1 v' (l.length + 1) (flatR uL l ++ uL q)) (hg : (wd.alloc (.cells XA 53)).grownBy w6 tv.ownBlock) :
    Row5 b5 x0 x1 x2 x3 tv w6 ∧ QJ w0 br b0 b5 base x0 x1 x2 x3 v' (l ++ [q]) s (w6.setCell ⟨b5, 4, none⟩ v') := by
  have hka : Kept wd (wd.alloc (.cells XA 53)) := box_below _ _
  have hl0 := (Array.getElem?_eq_some_iff.1 h.row0.row).1
  have hl5 := (Array.getElem?_eq_some_iff.1 h.row5.row).1
  have nb : ∀ m, tv.ownBlock = some m → base ≤ m := fun m hm => (h.own.lt m hm).1
  have nb' : ∀ m, v'.ownBlock = some m → base ≤ m := fun m hm => (ho6.lt m hm).1
  have hord := h.ord
  have hb6 : ButBy (fun m => tv.ownBlock = some m) wd w6 := ⟨hg.os.trans hka.os, hg.tape.trans hka.tape, hg.output.trans hka.output, Nat.le_trans hka.size hg.size, fun m hm hn => (hg.block m (Nat.lt_of_lt_of_le hm hka.size) (fun e => hn e.symm)).trans (hka.block m hm)⟩
  have h5 := (hb6.block b5 hl5 (fun e => by have := nb _ e; omega)).trans h.row5.row
  have h0 := (hb6.block _ hl0 (fun e => by have := nb _ e; omega)).trans h.row0.row
  have hr := h.rd.stayQ (hb6.block br h.rd.lt (fun e => by have := nb _ e; omega))
  have hk6 : Kept w0 w6 := ButBy.kept hb6 (fun m hm => by have := nb m hm; omega) h.kept h.kept.size
  refine ⟨⟨h5⟩, below_touch hk6 (grown_set _ _ _ _) hk6.size (by omega), ?_, ⟨?_⟩, ⟨heap_setCell_same w6 b5 4 #[x0, x1, x2, x3, tv] 24 v' h5⟩, hr.stayQ (heap_setCell_other _ _ _ _ (by show br ≠ b5; omega)), ?_, hord⟩
  · have := hb6.size
    have := h.size
    show base ≤ (w6.heap.modify _ _).size
    rw [Array.size_modify]; omega
  · rw [heap_setCell_other _ _ _ _ (by show b0 ≠ b5; omega)]; exact h0
  · have e1 : (l ++ [q]).length = l.length + 1 := by simp
    rw [e1, ← flatR_snoc]
    exact own_stay ho6 (fun m hm => heap_setCell_other _ _ _ _ (by show m ≠ b5; have := nb' m hm; omega))
end

set_option maxRecDepth 100000 in
set_option maxHeartbeats 32000000 in
theorem lread_any (w0 : World) (br : Nat) (S : List UInt8) (w : World) (hk0 : Kept w0 w) (hb0 : w0.heap.size ≤ br) (h : RdAt br (S, 0) w) (hSl : S.length ≤ 1000000) :
    Calls Tryd.prog 37 #[.pointer (some ⟨br, 0, none⟩)] w fun e w' => ∃ v, e = .returned v ∧ (∀ W : World, (∀ k, w.heap.size ≤ k → k < w'.heap.size → W.heap[k]? = w'.heap[k]?) → RpIs (recL S) v W) ∧ Kept w0 w' := by
  obtain ⟨ir, hir, hx⟩ := Option.map_eq_some_iff.1 info_u32
  simp only [Prod.mk.injEq] at hx
  obtain ⟨hz0, hz1, hz2⟩ := hx
  have HIR := Lib.hid hir
  have HZ0 := Lib.hid hz0
  have HZ1 := Lib.hid hz1
  have HZ2 := Lib.hid hz2
  have hbw := h.lt
  obtain ⟨W1, hW1⟩ : ∃ W, W = w.alloc (.cells #[.string ⟨#[]⟩, .int .i64 0, .int .i64 0, .int .i64 0, .slice none 0 0] 24) := ⟨_, rfl⟩
  have HW1 := Lib.hid hW1
  have hk1 : Kept w W1 := by rw [hW1]; exact box_below _ _
  have HK1 : Hid (Kept w0 W1) := Lib.hid (hk0.then hk1)
  have HR1 : Hid (RdAt br (S, 0) W1) := Lib.hid (Kept.row hk1 h)
  have HB1 : Hid (Row5 w.heap.size (.string ⟨#[]⟩) (.int .i64 0) (.int .i64 0) (.int .i64 0) (.slice none 0 0) W1) := Lib.hid ⟨by rw [hW1]; exact heap_alloc_last w _⟩
  have HLT : Hid (w0.heap.size ≤ br ∧ br < w.heap.size) := Lib.hid ⟨hb0, hbw⟩
  obtain ⟨sz, hsz⟩ : ∃ x, x = (rqZ S).1 := ⟨_, rfl⟩
  have hszl : sz < 4294967296 := by rw [hsz]; exact numR_lt _ 4
  obtain ⟨re, hre⟩ : ∃ x, x = (rqR S).1 := ⟨_, rfl⟩
  have hrel' : re < 4294967296 := by rw [hre]; exact numR_lt _ 4
  obtain ⟨im, him⟩ : ∃ x, x = (rqI S).1 := ⟨_, rfl⟩
  have himl : im < 4294967296 := by rw [him]; exact numR_lt _ 4
  obtain ⟨nm, hnm⟩ : ∃ x, x = (rqN S).1 := ⟨_, rfl⟩
  have hnml : nm.length ≤ 65536 := by rw [hnm]; exact textR_few _
  obtain ⟨n, hn⟩ : ∃ x, x = (rqC S).1 := ⟨_, rfl⟩
  have hnl : n < 65536 := by rw [hn]; exact numR_lt _ 2
  obtain ⟨sA, hsA⟩ : ∃ s, s = rqA S := ⟨_, rfl⟩
  obtain ⟨sZ, hsZ⟩ : ∃ s, s = (rqZ S).2 := ⟨_, rfl⟩
  obtain ⟨sR, hsR⟩ : ∃ s, s = (rqR S).2 := ⟨_, rfl⟩
  obtain ⟨sI, hsI⟩ : ∃ s, s = (rqI S).2 := ⟨_, rfl⟩
  obtain ⟨sN, hsN⟩ : ∃ s, s = (rqN S).2 := ⟨_, rfl⟩
  obtain ⟨sC, hsC⟩ : ∃ s, s = (rqC S).2 := ⟨_, rfl⟩
  have lA : sA.1.length ≤ 1000000 := by rw [hsA]; exact Nat.le_trans (takeR_len _ _) hSl
  have lZ : sZ.1.length ≤ 1000000 := by rw [hsZ]; exact Nat.le_trans (numR_len _ _) (by rw [← hsA]; exact lA)
  have lR : sR.1.length ≤ 1000000 := by rw [hsR]; exact Nat.le_trans (numR_len _ _) (by rw [← hsZ]; exact lZ)
  have lI : sI.1.length ≤ 1000000 := by rw [hsI]; exact Nat.le_trans (numR_len _ _) (by rw [← hsR]; exact lR)
  have lN : sN.1.length ≤ 1000000 := by rw [hsN]; exact Nat.le_trans (textR_len _) (by rw [← hsI]; exact lI)
  have HLC : Hid (sC.1.length ≤ 1000000) := Lib.hid (by rw [hsC]; exact Nat.le_trans (numR_len _ _) (by rw [← hsN]; exact lN))
  obtain ⟨TA, hTA⟩ : ∃ s, s = str (takeR (S, 0) 4).1 := ⟨_, rfl⟩
  obtain ⟨N, hN⟩ : ∃ N, N = str nm := ⟨_, rfl⟩
  have CT := qtake br (S, 0) 4 W1 HR1.out hSl TA hTA sA hsA
  have CZ := Lib.hid (fun W h => qu32 br sA W h lA sz (by rw [hsz, hsA]; rfl) sZ (by rw [hsZ, hsA]; rfl))
  have CR := Lib.hid (fun W h => qu32 br sZ W h lZ re (by rw [hre, hsZ]; rfl) sR (by rw [hsR, hsZ]; rfl))
  have CI := Lib.hid (fun W h => qu32 br sR W h lR im (by rw [him, hsR]; rfl) sI (by rw [hsI, hsR]; rfl))
  have CN := Lib.hid (fun W h => qtext br sI W h lI N (by rw [hN, hnm, hsI]; rfl) sN (by rw [hsN, hsI]; rfl))
  have CC := Lib.hid (fun W h => qu16 br sN W h lN n (by rw [hn, hsN]; rfl) sC (by rw [hsC, hsN]; rfl))
  obtain ⟨m, hm⟩ : ∃ m, m = min n 1024 := ⟨_, rfl⟩
  have hm1024 : m ≤ 1024 := by omega
  have HMN : Hid ((if (1024 : Int) < (n : Int) then (1024 : Int) else (n : Int)) = m) := Lib.hid (by split <;> omega)
  obtain ⟨FIN, hFIN⟩ : ∃ x, x = rlM S := ⟨_, rfl⟩
  have HFIN : Hid (mansR m sC [] = FIN) := Lib.hid (by rw [hFIN, hm, hn, hsC]; rfl)
  have HWFR : Hid (Rp.wf ⟨nm, (sz : Int), sgnQ re, sgnQ im, FIN.1⟩) := Lib.hid (by
    have a := sgnQ_is re hrel'
    have b := sgnQ_is im himl
    refine ⟨?_, ?_, ?_, ?_⟩
    · show nm.length ≤ maxLen
      unfold maxLen; omega
    · exact ⟨by simp only; omega, by simp only; omega⟩
    · exact ⟨by simp only; omega, by simp only; omega⟩
    · exact ⟨by simp only; omega, by simp only; omega⟩)
  have HOKM : Hid (∀ m ∈ FIN.1, m < 4294967296) := Lib.hid (by rw [hFIN]; exact mansR_lt _ _ _ (fun m hm => by cases hm))
  have HRQ : Hid (recL S = ⟨nm, (sz : Int), sgnQ re, sgnQ im, FIN.1⟩) := Lib.hid (by unfold recL; rw [hsz, hre, him, hnm, hFIN])
  have u0 : IntKind.i64.wrap (sz : Int) = (sz : Int) := IntWalk.i64_in _ (by omega)
  have CSR := fun W => lsigned_any re hrel' W
  have CSI := fun W => lsigned_any im himl W
  obtain ⟨sr, hsr⟩ : ∃ x, x = sgnQ re := ⟨_, rfl⟩
  obtain ⟨si, hsi⟩ : ∃ x, x = sgnQ im := ⟨_, rfl⟩
  rw [← hsr] at CSR HRQ HWFR
  rw [← hsi] at CSI HRQ HWFR
  have HNN := Lib.hid hN
  clear hir hz0 hz1 hz2 hbw hk0 hb0 h hSl hk1 hW1 hsz hszl hre hrel' him himl hnm hnml hn hnl hsA hsZ hsR hsI hsN hsC lA lZ lR lI lN hTA hN hm hFIN hsr hsi
  go_enter Tryd.func37, Tryd.ntmps37
  go_wp2_with fail
  rw [← HW1.out]
  refine CT.mono ?_
  rintro e W2 ⟨rfl, hr2, hg2⟩
  obtain ⟨b5, hb5⟩ : ∃ b5, b5 = W2.heap.size := ⟨_, rfl⟩
  have HB5 := Lib.hid hb5
  obtain ⟨W3, hW3⟩ : ∃ W, W = W2.alloc (.cells #[.string ⟨#[]⟩, .int .i64 0, .int .i64 0, .int .i64 0, .slice none 0 0] 24) := ⟨_, rfl⟩
  have HW3 := Lib.hid hW3
  have hk3 : Kept W2 W3 := by rw [hW3]; exact box_below _ _
  have hl0 := (Array.getElem?_eq_some_iff.1 HB1.out.row).1
  have HI3 : Hid (QJ w0 br w.heap.size b5 (b5 + 1) (.string ⟨#[]⟩) (.int .i64 0) (.int .i64 0) (.int .i64 0) (.slice none 0 0) [] sA W3) := Lib.hid (by
    have hlt := HLT.out
    have := hg2.size
    refine ⟨Below.then' (below_touch (show Below w0.heap.size w0 W1 from HK1.out) hg2 HK1.out.size hlt.1) hk3 (Nat.le_trans HK1.out.size hg2.size), by rw [hW3, hb5]; simp, ⟨?_⟩, ⟨by rw [hW3, hb5]; exact heap_alloc_last W2 _⟩, Kept.row hk3 hr2, World.ownsRow_nil _ _ _ _, by omega⟩
    exact hk3.row (by rw [hg2.block _ hl0 (fun e => by have := Option.some.inj e; omega)]; exact HB1.out.row))
  clear hr2 hg2 hb5 hW3 hk3 hl0 HR1 HK1 HB1 CT HLT
  go_wp2_with fail
  try rw [← HB5.out]
  rw [← HW3.out]
  refine (CZ.out _ HI3.out.rd).mono ?_
  rintro e W4 ⟨rfl, hr4, hg4⟩
  have HI4 := Lib.hid (HI3.out.read hr4 hg4)
  have c1 := HI4.out.row5.c1
  have f1 := HI4.out.row5.fz 1
  have HI5 := Lib.hid (HI4.out.set1 (.int .i64 (sz : Nat)))
  clear hr4 hg4 HI3 HI4 CZ
  go_wp2_with fail
  refine (CR.out _ HI5.out.rd).mono ?_
  rintro e W6 ⟨rfl, hr6, hg6⟩
  have HI6 := Lib.hid (HI5.out.read hr6 hg6)
  clear hr6 hg6 HI5 CR c1 f1
  go_wp2_with fail
  refine (CSR W6).mono ?_
  rintro e W6' ⟨rfl, rfl⟩
  have c2 := HI6.out.row5.c2
  have f2 := HI6.out.row5.fz 2
  have HI7 := Lib.hid (HI6.out.set2 (.int .i64 sr))
  clear HI6 CSR
  go_wp2_with fail
  refine (CI.out _ HI7.out.rd).mono ?_
  rintro e W8 ⟨rfl, hr8, hg8⟩
  have HI8 := Lib.hid (HI7.out.read hr8 hg8)
  clear hr8 hg8 HI7 CI c2 f2
  go_wp2_with fail
  refine (CSI W8).mono ?_
  rintro e W8' ⟨rfl, rfl⟩
  have c3 := HI8.out.row5.c3
  have f3 := HI8.out.row5.fz 3
  have HI9 := Lib.hid (HI8.out.set3 (.int .i64 si))
  clear HI8 CSI
  go_wp2_with fail
  refine (CN.out _ HI9.out.rd).mono ?_
  rintro e W10 ⟨rfl, hr10, hg10⟩
  have HI10 := Lib.hid (HI9.out.read hr10 hg10)
  have c0 := HI10.out.row5.c0
  have f0 := HI10.out.row5.fz 0
  have HI11 := Lib.hid (HI10.out.set0 (.string N))
  clear hr10 hg10 HI9 HI10 CN c3 f3
  go_wp2_with fail
  refine (CC.out _ HI11.out.rd).mono ?_
  rintro e W12 ⟨rfl, hr12, hg12⟩
  have HI12 := Lib.hid (HI11.out.read hr12 hg12)
  clear hr12 hg12 HI11 CC c0 f0
  go_wp2_with (with_reducible refine wpList_minQ rfl _ _ _ _ rfl .u16 .u16 n 1024 m rfl rfl HMN.out ?_)
  go_loopg [24] m (fun gh y wr => ∃ (k : Nat) (l : List Nat) (tv : Value) (s' : RdSt), k + gh = m ∧ y = .int .u16 k ∧ l.length = k ∧ Hid (QJ w0 br w.heap.size b5 (b5 + 1) (.string N) (.int .i64 (sz : Nat)) (.int .i64 sr) (.int .i64 si) tv l s' wr) ∧ Hid (mansR gh s' l = FIN) ∧ Hid (s'.1.length ≤ 1000000))
  case atStart => exact ⟨0, [], _, _, by omega, rfl, rfl, HI12, HFIN, HLC⟩
  case round =>
    clear HI12 HFIN HLC
    obtain ⟨k, l, tv, s', hk, rfl, hlk, HH, HSF, HL⟩ := hrel
    obtain ⟨pv, cv, htv, -, -⟩ := own_slice HH.out.own
    subst htv
    by_cases hlt : k < m
    · have hki : (k : Int) < m := by omega
      have bk : decide ((k : Int) < (m : Int)) = true := by simpa using hki
      obtain ⟨gk', hgk'⟩ : ∃ g, gk = g + 1 := ⟨gk - 1, by omega⟩
      subst hgk'
      have hsf := HSF.out
      rw [mansR] at hsf
      have hq32 : (numR s' 4).1 < 4294967296 := numR_lt s' 4
      obtain ⟨q, hq⟩ : ∃ q, q = (numR s' 4).1 := ⟨_, rfl⟩
      obtain ⟨t1, ht1⟩ : ∃ t, t = (numR s' 4).2 := ⟨_, rfl⟩
      have HL2 : Hid (t1.1.length ≤ 1000000) := Lib.hid (by rw [ht1]; exact Nat.le_trans (numR_len _ _) HL.out)
      have C1 := Lib.hid (fun W h => qu32 br s' W h HL.out q hq t1 ht1)
      rw [← hq, ← ht1] at hsf
      rw [← hq] at hq32
      have HQ32 : Hid (wfU q) := Lib.hid hq32
      obtain ⟨k1, hk1⟩ : ∃ k1, k1 = k + 1 := ⟨_, rfl⟩
      have v1 : IntKind.u16.wrap ((k : Int) + 1) = (k1 : Int) := by rw [show (k : Int) + 1 = (k1 : Int) by omega]; exact wrap_u16 (by omega)
      have HK1 := Lib.hid hk1
      replace HSF : Hid (mansR gk' t1 (l ++ [q]) = FIN) := Lib.hid hsf
      have HKLT : Hid (k < 65536 ∧ l.length = k) := Lib.hid ⟨by omega, hlk⟩
      have HKL1 : Hid (l.length + 1 = k1) := Lib.hid (by omega)
      have HGK : Hid (k + (gk' + 1) = m) := Lib.hid hk
      have c1 := HH.out.row5.c4
      have HD : Hid (QJ w0 br w.heap.size b5 (b5 + 1) (.string N) (.int .i64 (sz : Nat)) (.int .i64 sr) (.int .i64 si) (.slice pv l.length cv) l s' wr.drew) := Lib.hid (HH.out.later (show Kept wr wr.drew from (Below.refl _ wr).drew))
      clear hsf hq32 hq ht1 hk1 hlk hk HH HL hlt
      go_wp2_with fail
      refine wp_region_held_drew (S := fun _ => True) (by kernel_rfl) trivial (fun hHeld => ?_)
      refine wpAnyH_take (i := 0) (v := ?_) rfl (by kernel_rfl) (by kernel_rfl) (by kernel_rfl) (fun _ _ _ h => h) (Or.inl ⟨by first | kernel_rfl | rfl, ?_⟩) (by assumption) ?_
      case refine_2 => intro w hSw; go_simp; try with_reducible rfl
      refine wpAnyH_take (i := 2) (v := ?_) rfl (by kernel_rfl) (by kernel_rfl) (by kernel_rfl) (fun _ _ _ h => h) (Or.inl ⟨by first | kernel_rfl | rfl, ?_⟩) (by assumption) ?_
      case refine_2 => intro w hSw; go_simp; try with_reducible rfl
      refine wpAnyH_ready (rs := [1, 3]) (by kernel_rfl) (by simp) (AllReadyH.cons rfl (fun K hK => ?_) (AllReadyH.cons rfl (fun K hK => ?_) AllReadyH.nil))
      · go_simp
        refine hK.out _ _ trivial (fun _ => ?_)
        clear hK K
        refine wpAnyH_ready (rs := [3]) (by kernel_rfl) (by simp) (AllReadyH.cons rfl (fun K hK => ?_) AllReadyH.nil)
        go_simp
        refine (C1.out _ HD.out.rd).mono ?_
        rintro e w3 ⟨rfl, hr3, hb3⟩
        have HH3 := Lib.hid (HD.out.read hr3 hb3)
        have c3 := HH3.out.row5.c4
        clear hr3 hb3
        refine hK.out _ _ trivial (fun _ => ?_)
        clear hK K
        refine wpAnyH_ready (rs := [4]) (by kernel_rfl) (by simp) (AllReadyH.cons rfl (fun K hK => ?_) AllReadyH.nil)
        go_simp
        have HH4 := Lib.hid (HH3.out.later (box_below w3 (.cells #[.int .u32 (q : Nat)] 53)))
        have c4 := HH4.out.row5.c4
        refine hK.out _ _ trivial (fun _ => ?_)
        clear hK K
        refine wpAnyH_ready (rs := [5]) (by kernel_rfl) (by simp) (AllReadyH.cons rfl (fun K hK => ?_) AllReadyH.nil)
        rw [if_pos (by rfl)]
        refine wp_append_flat _ _ 22 rfl (b5 + 1) 53 ir (.int .u32 0) 1 4 Tryd.underlying22 HIR.out HZ0.out HZ1.out HZ2.out rfl (by decide) _ l.length (flatR uL l) ?q0 HH4.out.own _ 1 (uL q) rfl (flat_rec encU w3 53 q HQ32.out _ rfl) ?q1 ?q2 ?q3 ?_
        case q0 => rfl
        case q1 => have := HKLT.out; unfold maxLen; omega
        case q2 => have := HKLT.out; omega
        case q3 => exact HH4.out.size
        intro v' w6 hown6 hg6 _
        obtain ⟨hr6, hh6⟩ := HH3.out.app hown6 hg6
        have x5 := hr6.c4
        have f5 := hr6.fz 4
        have HH6 := Lib.hid hh6
        obtain ⟨pv', cv', htv', -, -⟩ := own_slice hown6
        rw [HKL1.out] at htv'
        subst htv'
        clear hown6 hg6 hr6 hh6
        refine hK.out _ _ trivial (fun _ => ?_)
        clear hK K
        refine wpAnyH_take (i := 6) (v := ?_) rfl (by kernel_rfl) (by kernel_rfl) (by kernel_rfl) (fun _ _ _ h => h) (Or.inl ⟨by first | kernel_rfl | rfl, ?_⟩) (by assumption) ?_
        case refine_2 => intro w hSw; go_simp; try with_reducible rfl
        refine wpAnyH_ready (rs := [7]) (by kernel_rfl) (by simp) (AllReadyH.cons rfl (fun K hK => ?_) AllReadyH.nil)
        go_simp
        refine hK.out _ _ trivial (fun _ => ?_)
        clear hK K
        refine wpAnyH_done (by kernel_rfl) ?_ _
        go_wp2
        go_roundg gk'
        · exact ⟨k1, l ++ [q], _, t1, by have := HK1.out; have := HGK.out; omega, by first | rfl | (have := HK1.out; simp; omega), by have := HK1.out; have := HKLT.out; simp; omega, HH6, HSF, HL2⟩
        · have := HGK.out; omega
      · go_simp
        refine (C1.out _ HD.out.rd).mono ?_
        rintro e w3 ⟨rfl, hr3, hb3⟩
        have HH3 := Lib.hid (HD.out.read hr3 hb3)
        have c3 := HH3.out.row5.c4
        clear hr3 hb3
        refine hK.out _ _ trivial (fun _ => ?_)
        clear hK K
        refine wpAnyH_ready (rs := [1, 4]) (by kernel_rfl) (by simp) (AllReadyH.cons rfl (fun K hK => ?_) (AllReadyH.cons rfl (fun K hK => ?_) AllReadyH.nil))
        · go_simp
          refine hK.out _ _ trivial (fun _ => ?_)
          clear hK K
          refine wpAnyH_ready (rs := [4]) (by kernel_rfl) (by simp) (AllReadyH.cons rfl (fun K hK => ?_) AllReadyH.nil)
          go_simp
          have HH4 := Lib.hid (HH3.out.later (box_below w3 (.cells #[.int .u32 (q : Nat)] 53)))
          have c4 := HH4.out.row5.c4
          refine hK.out _ _ trivial (fun _ => ?_)
          clear hK K
          refine wpAnyH_ready (rs := [5]) (by kernel_rfl) (by simp) (AllReadyH.cons rfl (fun K hK => ?_) AllReadyH.nil)
          rw [if_pos (by rfl)]
          refine wp_append_flat _ _ 22 rfl (b5 + 1) 53 ir (.int .u32 0) 1 4 Tryd.underlying22 HIR.out HZ0.out HZ1.out HZ2.out rfl (by decide) _ l.length (flatR uL l) ?q0 HH4.out.own _ 1 (uL q) rfl (flat_rec encU w3 53 q HQ32.out _ rfl) ?q1 ?q2 ?q3 ?_
          case q0 => rfl
          case q1 => have := HKLT.out; unfold maxLen; omega
          case q2 => have := HKLT.out; omega
          case q3 => exact HH4.out.size
          intro v' w6 hown6 hg6 _
          obtain ⟨hr6, hh6⟩ := HH3.out.app hown6 hg6
          have x5 := hr6.c4
          have f5 := hr6.fz 4
          have HH6 := Lib.hid hh6
          obtain ⟨pv', cv', htv', -, -⟩ := own_slice hown6
          rw [HKL1.out] at htv'
          subst htv'
          clear hown6 hg6 hr6 hh6
          refine hK.out _ _ trivial (fun _ => ?_)
          clear hK K
          refine wpAnyH_take (i := 6) (v := ?_) rfl (by kernel_rfl) (by kernel_rfl) (by kernel_rfl) (fun _ _ _ h => h) (Or.inl ⟨by first | kernel_rfl | rfl, ?_⟩) (by assumption) ?_
          case refine_2 => intro w hSw; go_simp; try with_reducible rfl
          refine wpAnyH_ready (rs := [7]) (by kernel_rfl) (by simp) (AllReadyH.cons rfl (fun K hK => ?_) AllReadyH.nil)
          go_simp
          refine hK.out _ _ trivial (fun _ => ?_)
          clear hK K
          refine wpAnyH_done (by kernel_rfl) ?_ _
          go_wp2
          go_roundg gk'
          · exact ⟨k1, l ++ [q], _, t1, by have := HK1.out; have := HGK.out; omega, by first | rfl | (have := HK1.out; simp; omega), by have := HK1.out; have := HKLT.out; simp; omega, HH6, HSF, HL2⟩
          · have := HGK.out; omega
        · go_simp
          have HH4 := Lib.hid (HH3.out.later (box_below w3 (.cells #[.int .u32 (q : Nat)] 53)))
          have c4 := HH4.out.row5.c4
          refine hK.out _ _ trivial (fun _ => ?_)
          clear hK K
          refine wpAnyH_ready (rs := [1]) (by kernel_rfl) (by simp) (AllReadyH.cons rfl (fun K hK => ?_) AllReadyH.nil)
          go_simp
          refine hK.out _ _ trivial (fun _ => ?_)
          clear hK K
          refine wpAnyH_ready (rs := [5]) (by kernel_rfl) (by simp) (AllReadyH.cons rfl (fun K hK => ?_) AllReadyH.nil)
          rw [if_pos (by rfl)]
          refine wp_append_flat _ _ 22 rfl (b5 + 1) 53 ir (.int .u32 0) 1 4 Tryd.underlying22 HIR.out HZ0.out HZ1.out HZ2.out rfl (by decide) _ l.length (flatR uL l) ?q0 HH4.out.own _ 1 (uL q) rfl (flat_rec encU w3 53 q HQ32.out _ rfl) ?q1 ?q2 ?q3 ?_
          case q0 => rfl
          case q1 => have := HKLT.out; unfold maxLen; omega
          case q2 => have := HKLT.out; omega
          case q3 => exact HH4.out.size
          intro v' w6 hown6 hg6 _
          obtain ⟨hr6, hh6⟩ := HH3.out.app hown6 hg6
          have x5 := hr6.c4
          have f5 := hr6.fz 4
          have HH6 := Lib.hid hh6
          obtain ⟨pv', cv', htv', -, -⟩ := own_slice hown6
          rw [HKL1.out] at htv'
          subst htv'
          clear hown6 hg6 hr6 hh6
          refine hK.out _ _ trivial (fun _ => ?_)
          clear hK K
          refine wpAnyH_take (i := 6) (v := ?_) rfl (by kernel_rfl) (by kernel_rfl) (by kernel_rfl) (fun _ _ _ h => h) (Or.inl ⟨by first | kernel_rfl | rfl, ?_⟩) (by assumption) ?_
          case refine_2 => intro w hSw; go_simp; try with_reducible rfl
          refine wpAnyH_ready (rs := [7]) (by kernel_rfl) (by simp) (AllReadyH.cons rfl (fun K hK => ?_) AllReadyH.nil)
          go_simp
          refine hK.out _ _ trivial (fun _ => ?_)
          clear hK K
          refine wpAnyH_done (by kernel_rfl) ?_ _
          go_wp2
          go_roundg gk'
          · exact ⟨k1, l ++ [q], _, t1, by have := HK1.out; have := HGK.out; omega, by first | rfl | (have := HK1.out; simp; omega), by have := HK1.out; have := HKLT.out; simp; omega, HH6, HSF, HL2⟩
          · have := HGK.out; omega
    · have hki : ¬ (k : Int) < m := by omega
      have bk : decide ((k : Int) < (m : Int)) = false := by simpa using hki
      obtain rfl : gk = 0 := by omega
      have hfin : FIN.1 = l := by rw [← HSF.out]; rfl
      have HRQ2 : Hid (recL S = ⟨nm, (sz : Int), sr, si, l⟩) := Lib.hid (by rw [HRQ.out, hfin])
      have HW2 : Hid (Rp.wf ⟨nm, (sz : Int), sr, si, l⟩ ∧ ∀ m ∈ l, m < 4294967296) := Lib.hid ⟨by rw [← hfin]; exact HWFR.out, by rw [← hfin]; exact HOKM.out⟩
      have e0 := HH.out.row5.c0
      have e1 := HH.out.row5.c1
      have e2 := HH.out.row5.c2
      have e3 := HH.out.row5.c3
      have e4 := HH.out.row5.c4
      have g0 := HH.out.row0.c0
      have g1 := HH.out.row0.c1
      have g2 := HH.out.row0.c2
      have g3 := HH.out.row0.c3
      have g4 := HH.out.row0.c4
      have f0 := HH.out.row0.fz 0
      have f1 := HH.out.row0.fz 1
      have f2 := HH.out.row0.fz 2
      have f3 := HH.out.row0.fz 3
      have f4 := HH.out.row0.fz 4
      clear hlk hk hlt hfin HSF HL HRQ
      go_wp2
      have hbt := but_set5Q (w := wr) (g := w.heap.size) (.string N) (.int .i64 (sz : Nat)) (.int .i64 sr) (.int .i64 si) (.slice pv l.length cv)
      refine bodyPost_ret (results_cell_row Tryd.results37 _ _ w.heap.size 24 #[.string N, .int .i64 (sz : Nat), .int .i64 sr, .int .i64 si, .slice pv l.length cv] (0, 0) _ rfl (set5_rowQ HH.out.row0.row _ _ _ _ _) Tryd.underlying24 rfl infoRp) rfl ⟨_, rfl, fun W hW => ?_, ButBy.kept hbt (fun x hx => by have := HH.out.ord; omega) HH.out.kept HH.out.kept.size⟩
      rw [HRQ2.out]
      have ho := own_stay HH.out.own (fun x hx => hbt.block x (HH.out.own.lt x hx).2 (by have := (HH.out.own.lt x hx).1; have := HH.out.ord; omega))
      exact ⟨_, by unfold rpC; rw [HNN.out], RowsAt.own encU HW2.out.2 (own_stay ho (fun x hx => hW x (by have := (ho.lt x hx).1; have := HH.out.ord; omega) (ho.lt x hx).2)), HW2.out.1⟩

end Go.Proofs.YtijdbmapdmhknaaDoor
