/- The document's ReadRuns. The document's one: a record of a reader. The document's Records. The document's Read. -/
import Derived.Test.YtoigembmbajopaaDoorGE
import Derived.Test.YtoigembmbajopaaDoorGD
import Derived.Test.YtoigembmbajopaaDoorGB
namespace Go.Proofs.YtoigembmbajopaaDoor
open Go.RowKit

theorem rnumK (b : Nat) (s : RdSt) (k : Nat) (i : Int) (hi : i = k) (hk : k ≤ 8) (w : World) (h : RfAt b s w) :
    Calls Tryd.prog 60 #[.pointer (some ⟨b, 0, none⟩), .int .i64 i] w (RfPost b (.int .u64 (numR s k).1) (numR s k).2 w) := by
  subst hi
  exact rnum_any b s k hk w h
theorem infoRunJ : (Tryd.prog.info? 83).map (fun i => (i.zero, i.size, i.bytes)) = some (some (.agg #[.int .i64 0, .int .i64 0]), 2, 16) := by kernel_rfl
theorem flat_runJ (w : World) (a b : Int) : FlatAt 2 1 (runC [(a, b)]) (.slice (some ⟨w.heap.size, 0, none⟩) 1 1) (w.alloc (.cells #[.int .i64 a, .int .i64 b] 83)) :=
  FlatAt.new w 83 2 1 1 #[.int .i64 a, .int .i64 b] rfl (by intro x hx; simp at hx; rcases hx with rfl | rfl <;> rfl)
/-- Behind an append to an own row, b (older than the row) stands. -/
theorem append_old {w0 w3 w4 : World} {base b n size : Nat} {e : TypeId} {v : Value} {xs : List Value} {o : Obj} (h24 : w0.grownBy w3 (some b)) (hB : base = w0.heap.size) (hown : w3.ownsRow base e size v n xs) (hg : (w3.alloc o).grownBy w4 v.ownBlock) : w0.grownBy w4 (some b) := by
  subst hB
  refine ⟨hg.os.trans h24.os, hg.tape.trans h24.tape, hg.output.trans h24.output, ?_, fun i hi hr => ?_⟩
  · have h1 := h24.size
    have h2 := hg.size
    simp at h2
    omega
  · have hown' := hown.lt
    have hs := h24.size
    rw [hg.block i (by simp; omega) (fun e => by have := (hown' i e.symm).1; omega), Below.heap_alloc _ _ _ (by omega), h24.block i hi hr]
theorem append_rd {w3 w4 : World} {base b n size : Nat} {e : TypeId} {v : Value} {xs : List Value} {o : Obj} {t : RdSt} (h : RfAt b t w3) (hb : b < base) (hown : w3.ownsRow base e size v n xs) (hg : (w3.alloc o).grownBy w4 v.ownBlock) : RfAt b t w4 := by
  refine RfAt.later (h.later (w' := w3.alloc o) (r := none) (grown_below ((Below.refl _ _).alloc (Nat.le_refl _) _) none) (by simp)) hg ?_
  exact fun e => by have := (hown.lt b e.symm).1; omega
/-- Runs that a reader gives. -/
def runsOf (s : RdSt) : List (Int × Int) × RdSt := runsR (numR s 2).1 (numR s 2).2 []
theorem runsR_wf : ∀ (k : Nat) (s : RdSt) (acc : List (Int × Int)), wfR acc → wfR (runsR k s acc).1
  | 0, _, _, h => h
  | k + 1, s, acc, h => by
    unfold runsR
    split
    · exact h
    · refine runsR_wf k _ _ fun r hr => ?_
      rcases List.mem_append.1 hr with x | x
      · exact h r x
      · rw [List.mem_singleton.1 x]
        have h1 := numR_lt s 2
        have h2 := numR_lt (numR s 2).2 2
        simp only
        omega
theorem runsR_len : ∀ (k : Nat) (s : RdSt) (acc : List (Int × Int)), (runsR k s acc).1.length ≤ acc.length + k
  | 0, _, _ => Nat.le_refl _
  | k + 1, s, acc => by
    unfold runsR
    split
    · simp only; omega
    · refine Nat.le_trans (runsR_len k _ _) ?_
      rw [List.length_append]
      simp
      omega

set_option maxRecDepth 100000 in
set_option maxHeartbeats 4000000 in
theorem rreadRuns_any (b : Nat) (s : RdSt) (w : World) (h : RfAt b s w) :
    Calls Tryd.prog 117 #[.pointer (some ⟨b, 0, none⟩)] w fun e w' => ∃ v, e = .returned v ∧ OwnRuns w.heap.size (runsOf s).1 v w' ∧ RfAt b (runsOf s).2 w' ∧ w.grownBy w' (some b) := by
  obtain ⟨ir, hir, hx⟩ := Option.map_eq_some_iff.1 infoRunJ
  simp only [Prod.mk.injEq] at hx
  obtain ⟨hz0, hz1, hz2⟩ := hx
  have HIR := Lib.hid hir
  have HZ0 := Lib.hid hz0
  have HZ1 := Lib.hid hz1
  have HZ2 := Lib.hid hz2
  have hN : (numR s 2).1 < 65536 := numR_lt s 2
  have hbw := h.lt
  have CN := rnumK b s 2 2 rfl (by omega) w h
  have HG : Hid (runsR (numR s 2).1 (numR s 2).2 [] = runsOf s) := Lib.hid rfl
  obtain ⟨N, hNN⟩ : ∃ N, N = (numR s 2).1 := ⟨_, rfl⟩
  obtain ⟨t, ht⟩ : ∃ t, t = (numR s 2).2 := ⟨_, rfl⟩
  rw [← hNN, ← ht] at HG CN
  rw [← hNN] at hN
  obtain ⟨R, hR⟩ : ∃ R, R = runsOf s := ⟨_, rfl⟩
  rw [← hR] at HG ⊢
  have HBW := Lib.hid hbw
  clear hir hz0 hz1 hz2 h hNN ht hR
  go_enter Tryd.func117, Tryd.ntmps117
  go_wp2_with fail
  refine CN.mono ?_
  rintro e w1 ⟨rfl, h1, h2⟩
  clear CN
  go_wp2
  go_loopw [4, 5] (fun v y wr => ∃ (k : Nat) (acc : List (Int × Int)) (s' : RdSt), k ≤ N ∧ y = .int .u64 k ∧ acc.length ≤ k ∧ Hid (OwnRuns w.heap.size acc v wr) ∧ Hid (RfAt b s' wr) ∧ Hid (w.grownBy wr (some b)) ∧ Hid (runsR (N - k) s' acc = R)) (fun _ y _ => N - (intOf y).toNat)
  case atStart => exact ⟨0, [], t, Nat.zero_le _, rfl, Nat.le_refl _, Lib.hid (World.ownsRow_nil _ _ _ _), Lib.hid h1, Lib.hid h2, HG⟩
  case round =>
    clear h1 h2 HG
    obtain ⟨k, acc, s', hk, rfl, hacc, HO, H1, H2, HG⟩ := hrel
    obtain ⟨pv, cv, hv, -, -⟩ := own_slice HO.out
    subst hv
    have hc2 : wr.cell? ⟨b, 2, none⟩ = some (.int .i64 s'.2) := by obtain ⟨_, _, hin, _⟩ := H1.out; exact hin.c2
    obtain ⟨e', he'⟩ : ∃ e', e' = s'.2 := ⟨_, rfl⟩
    rw [← he'] at hc2
    have HE := Lib.hid he'
    clear he'
    by_cases hlt : k < N
    · have hki : (k : Int) < N := by omega
      have bk : decide ((k : Int) < (N : Int)) = true := by simpa using hki
      by_cases he : e' = 0
      · subst he
        have HS : Hid (runsR (N - (k + 1)) (numR (numR s' 2).2 2).2 (acc ++ [(((numR s' 2).1 : Int), ((numR (numR s' 2).2 2).1 : Int))]) = R) := Lib.hid (by
          have e : N - k = (N - (k + 1)) + 1 := by omega
          have h := HG.out
          rw [e, runsR, if_neg (by rw [← HE.out]; decide)] at h
          exact h)
        have C1 := rnumK b s' 2 2 rfl (by omega) wr H1.out
        have l1 : (numR s' 2).1 < 65536 := numR_lt s' 2
        obtain ⟨x, hx⟩ : ∃ x, x = (numR s' 2).1 := ⟨_, rfl⟩
        obtain ⟨t1, ht1⟩ : ∃ t, t = (numR s' 2).2 := ⟨_, rfl⟩
        rw [← hx, ← ht1] at C1 HS
        rw [← hx] at l1
        have C2 := fun W (h : RfAt b t1 W) => rnumK b t1 2 2 rfl (by omega) W h
        have l2 : (numR t1 2).1 < 65536 := numR_lt t1 2
        obtain ⟨y, hy⟩ : ∃ y, y = (numR t1 2).1 := ⟨_, rfl⟩
        obtain ⟨t2, ht2⟩ : ∃ t, t = (numR t1 2).2 := ⟨_, rfl⟩
        rw [← hy, ← ht2] at C2 HS
        rw [← hy] at l2
        have v1 : IntKind.i64.wrap (x : Int) = (x : Int) := IntWalk.i64_in _ (by omega)
        have v2 : IntKind.i64.wrap (y : Int) = (y : Int) := IntWalk.i64_in _ (by omega)
        obtain ⟨k1, hk1⟩ : ∃ k1, k1 = k + 1 := ⟨_, rfl⟩
        rw [← hk1] at HS
        have v3 : IntKind.u64.wrap ((k : Int) + 1) = (k1 : Int) := by rw [show (k : Int) + 1 = (k1 : Int) by omega]; exact IntWalk.u64_in _ (by omega)
        have HK1 := Lib.hid hk1
        have HAC := Lib.hid hacc
        have HN2 := Lib.hid hN
        clear hx ht1 hy ht2 HG HE hk1
        go_wp2_with fail
        refine C1.mono ?_
        rintro e w2 ⟨rfl, h3, h4⟩
        have G2 := Lib.hid (grown_trans H2.out h4)
        have O2 : Hid (OwnRuns w.heap.size acc (.slice pv acc.length cv) wr → OwnRuns w.heap.size acc (.slice pv acc.length cv) w2) := Lib.hid (fun h => own_stay h (fun m hm => h4.block m (h.lt m hm).2 (fun e => by have := (h.lt m hm).1; have := Option.some.inj e; have := HBW.out; omega)))
        have C22 := C2 w2 h3
        clear h3 h4 C1 C2 hc2
        go_wp2_with fail
        refine C22.mono ?_
        rintro e w3 ⟨rfl, h5, h6⟩
        have G3 := Lib.hid (grown_trans G2.out h6)
        have O3 : Hid (OwnRuns w.heap.size acc (.slice pv acc.length cv) w3) := Lib.hid (own_stay (O2.out HO.out) (fun m hm => h6.block m ((O2.out HO.out).lt m hm).2 (fun e => by have := ((O2.out HO.out).lt m hm).1; have := Option.some.inj e; have := HBW.out; omega)))
        have H5 := Lib.hid h5
        have HFL := Lib.hid (flat_runJ w3 (x : Int) (y : Int))
        clear h5 h6 C22 G2 O2 HO H1 H2
        go_wp2_with (at_builtin; refine wpList_append_flat rfl _ _ 28 rfl w.heap.size 83 ir (.agg #[.int .i64 0, .int .i64 0]) 2 16 Tryd.underlying28 HIR.out HZ0.out HZ1.out HZ2.out rfl (by decide) _ _ _ rfl (O3.out.alloc _) _ 1 (runC [((x : Int), (y : Int))]) rfl HFL.out ?wa1 ?wa2 ?wa3 ?_)
        case wa1 => have := HAC.out; have := HN2.out; unfold maxLen; omega
        case wa2 => have := HAC.out; have := HN2.out; omega
        case wa3 => have := G3.out.size; simp; omega
        intro v' w4 hown4 hg4 _
        have H6 : Hid (OwnRuns w.heap.size (acc ++ [((x : Int), (y : Int))]) v' w4) := Lib.hid (by
          have h := hown4
          rw [← runC_append] at h
          show w4.ownsRow _ _ _ _ (acc ++ [_]).length _
          rw [List.length_append]
          exact h)
        have H7 := Lib.hid (append_rd H5.out HBW.out O3.out hg4)
        have H8 := Lib.hid (append_old G3.out rfl O3.out hg4)
        clear hown4 hg4 O3 H5 G3 HFL
        go_wp2
        go_roundw
        case rel =>
          exact ⟨k1, acc ++ [((x : Int), (y : Int))], t2, by have := HK1.out; omega, by first | rfl | (have := HK1.out; simp; omega), by have := HK1.out; have := HAC.out; simp; omega, H6, H7, H8, HS⟩
        case measure => have := HK1.out; simp [intOf]; omega
      · have he2 : (e' == 0) = false := by simpa using he
        have HS : Hid ((acc, s') = R) := Lib.hid (by
          have e : N - k = (N - (k + 1)) + 1 := by omega
          have h := HG.out
          rw [e, runsR, if_pos (by rw [← HE.out]; exact he)] at h
          exact h)
        clear he HG HE
        go_wp2
        go_ret
        exact ⟨_, rfl, by rw [← HS.out]; exact HO.out, by rw [← HS.out]; exact H1.out, H2.out⟩
    · have hki : ¬ (k : Int) < N := by omega
      have bk : decide ((k : Int) < (N : Int)) = false := by simpa using hki
      have HS : Hid ((acc, s') = R) := Lib.hid (by
        have h := HG.out
        rw [show N - k = 0 by omega] at h
        exact h)
      clear HG HE
      go_wp2
      go_ret
      exact ⟨_, rfl, by rw [← HS.out]; exact HO.out, by rw [← HS.out]; exact H1.out, H2.out⟩

end Go.Proofs.YtoigembmbajopaaDoor
namespace Go.Proofs.YtoigembmbajopaaDoor
open Go.RowKit

theorem wpList_store_namedJ {P : Program} {ops : Array Oper} {rest : List Oper} {o : Oper} {a : Act} {w : World} {Q : Exit → Act → World → Prop} (hgd : o.guard = none) (ty : TypeId) (x y : Operand) (ho : o.op = .store ty x y)
    (g : Nat) (X : Array Value) (hx : a.eval x = .pointer (some ⟨g, 0, none⟩)) (hy : a.eval y = .agg X) (t : TypeId) (old : Array Value) (hg : w.heap[g]? = some (.cells old t (0, 0))) (hi : (P.info? ty).map (·.size) = some X.size)
    (hold : old.size = X.size) (h1 : X.all (·.oneCell') = true) (W : World) (hW : W = w.setRow g X) (h : wpList P ops Q rest (a.put o.dst undef) W) : wpList P ops Q (o :: rest) a w := by
  subst hW
  exact wpList_store_row hgd ty x y ho g X hx hy t old hg hi hold h1 h

theorem all5 {a b c d e : Value} (ha : a.oneCell' = true) (hb : b.oneCell' = true) (hc : c.oneCell' = true) (hd : d.oneCell' = true) (he : e.oneCell' = true) : (#[a, b, c, d, e] : Array Value).all (·.oneCell') = true := by simp [ha, hb, hc, hd, he]
def zeroRc : Array Value := #[.int .i64 0, .int .u32 0, .string ⟨#[]⟩, .int .i64 0, .slice none 0 0]
theorem RfAt.stayJ {b : Nat} {s : RdSt} {w w' : World} (h : RfAt b s w) (hk : w'.heap[b]? = w.heap[b]?) : RfAt b s w' := by
  obtain ⟨T, j, h1, h2⟩ := h
  exact ⟨T, j, by unfold RfIn at *; rw [hk]; exact h1, h2⟩
/-- What lies while a record is read. -/
structure JI (w0 : World) (b b2 b3 : Nat) (s : RdSt) (C : Array Value) (w : World) : Prop where
  gr : w0.grownBy w (some b)
  zrow : w.heap[b2]? = some (.cells zeroRc 30 (0, 0))
  rd : RfAt b s w
  crow : w.heap[b3]? = some (.cells C 30 (0, 0))
  h0 : b < w0.heap.size ∧ w0.heap.size ≤ b2 ∧ b2 < b3
theorem JI.read {w0 : World} {b b2 b3 : Nat} {s s' : RdSt} {C : Array Value} {w w' : World} (h : JI w0 b b2 b3 s C w) (hr : RfAt b s' w') (hg : w.grownBy w' (some b)) : JI w0 b b2 b3 s' C w' where
  gr := grown_trans h.gr hg
  zrow := by rw [hg.block b2 (Array.getElem?_eq_some_iff.1 h.zrow).1 (fun e => by have := Option.some.inj e; have := h.h0; omega)]; exact h.zrow
  rd := hr
  crow := by rw [hg.block b3 (Array.getElem?_eq_some_iff.1 h.crow).1 (fun e => by have := Option.some.inj e; have := h.h0; omega)]; exact h.crow
  h0 := h.h0
theorem JI.set {w0 : World} {b b2 b3 : Nat} {s : RdSt} {C : Array Value} {w : World} (h : JI w0 b b2 b3 s C w) (k : Nat) (v : Value) : JI w0 b b2 b3 s (C.setIfInBounds k v) (w.setCell ⟨b3, k, none⟩ v) where
  gr := ⟨h.gr.os, h.gr.tape, h.gr.output, by rw [World.size_setCell]; exact h.gr.size, fun i hi hn => by
    rw [heap_setCell_other _ _ _ _ (by have := h.h0; show i ≠ b3; omega)]; exact h.gr.block i hi hn⟩
  zrow := by rw [heap_setCell_other _ _ _ _ (by have := h.h0; show b2 ≠ b3; omega)]; exact h.zrow
  rd := h.rd.stayJ (heap_setCell_other _ _ _ _ (by have := h.h0; show b ≠ b3; omega))
  crow := heap_setCell_same _ _ _ _ _ _ h.crow
  h0 := h.h0
theorem JI.lt3 {w0 : World} {b b2 b3 : Nat} {s : RdSt} {C : Array Value} {w : World} (h : JI w0 b b2 b3 s C w) : b3 < w.heap.size := (Array.getElem?_eq_some_iff.1 h.crow).1
theorem rtextJ (b : Nat) (s : RdSt) (w : World) (h : RfAt b s w) (x : ByteArray) (hx : x = str (textR s).1) (t : RdSt) (ht : t = (textR s).2) :
    Calls Tryd.prog 116 #[.pointer (some ⟨b, 0, none⟩)] w (RfPost b (.string x) t w) := by
  subst hx ht
  exact rtext_any b s w h
theorem rnumJ (b : Nat) (s : RdSt) (k : Nat) (i : Int) (hi : i = k) (hk : k ≤ 8) (w : World) (h : RfAt b s w) (n : Nat) (hn : n = (numR s k).1) (t : RdSt) (ht : t = (numR s k).2) :
    Calls Tryd.prog 60 #[.pointer (some ⟨b, 0, none⟩), .int .i64 i] w (RfPost b (.int .u64 n) t w) := by
  subst hi hn ht
  exact rnum_any b s k hk w h
theorem rrunsJ (b : Nat) (s : RdSt) (w : World) (h : RfAt b s w) (l : List (Int × Int)) (hl : l = (runsOf s).1) (t : RdSt) (ht : t = (runsOf s).2) :
    Calls Tryd.prog 117 #[.pointer (some ⟨b, 0, none⟩)] w fun e w' => ∃ v, e = .returned v ∧ OwnRuns w.heap.size l v w' ∧ RfAt b t w' ∧ w.grownBy w' (some b) := by
  subst hl ht
  exact rreadRuns_any b s w h

def OnePost (b : Nat) (s : RdSt) (w : World) (e : Ending) (w' : World) : Prop := ∃ tv, e = .returned (recV (oneR s).1 tv) ∧ OwnRuns w.heap.size (oneR s).1.runs tv w' ∧ RfAt b (oneR s).2 w' ∧ w.grownBy w' (some b)

set_option maxRecDepth 100000 in
set_option maxHeartbeats 16000000 in
theorem rone_any (b : Nat) (s : RdSt) (w : World) (h : RfAt b s w) :
    Calls Tryd.prog 97 #[.pointer (some ⟨b, 0, none⟩)] w (OnePost b s w) := by
  have hbw := h.lt
  obtain ⟨W1, hW1⟩ : ∃ W1, W1 = w.alloc (.cells #[.int .i64 0, .int .u32 0, .string ⟨#[]⟩, .int .i64 0, .slice none 0 0] 30) := ⟨_, rfl⟩
  have HW1 := Lib.hid hW1
  have hk1 : Kept w W1 := by rw [hW1]; exact box_below _ _
  have HR1 : Hid (RfAt b s W1) := Lib.hid (h.stayJ (hk1.block b hbw))
  have HK1 : Hid (w.grownBy W1 (some b)) := Lib.hid (grown_below hk1 _)
  have HROW : Hid (W1.heap[w.heap.size]? = some (.cells zeroRc 30 (0, 0))) := Lib.hid (by rw [hW1]; exact heap_alloc_last w _)
  have HBW := Lib.hid hbw
  obtain ⟨k, hkk⟩ : ∃ k, k = (numR s 1).1 := ⟨_, rfl⟩
  obtain ⟨t0, ht0⟩ : ∃ t, t = (numR s 1).2 := ⟨_, rfl⟩
  have hk256 : k < 256 := by rw [hkk]; exact numR_lt s 1
  have C0 := rnumJ b s 1 1 rfl (by omega) W1 HR1.out k hkk t0 ht0
  have v0 : IntKind.i64.wrap (k : Int) = (k : Int) := IntWalk.i64_in _ (by omega)
  have H := fun W => rhas_any (k : Int) W
  have HEX : Hid (idK (k : Int) = true → nameK (k : Int) = false) := Lib.hid id_or_name
  have HEB : Hid (blobK (k : Int) = true → idK (k : Int) = false → nameK (k : Int) = true) := Lib.hid (fun h1 h2 => by
    rw [blobK_iff] at h1
    rw [nameK_iff]
    have h3 : ¬ ((k : Int) = 1 ∨ (k : Int) = 2 ∨ (k : Int) = 4 ∨ (k : Int) = 5) := fun y => by rw [(idK_iff _).2 y] at h2; cases h2
    omega)
  have HO1 : Hid (oneI s = if idK (k : Int) = true then numR t0 4 else (0, t0)) := Lib.hid (by unfold oneI; rw [← hkk, ← ht0])
  have HO2 : Hid (oneN s = if nameK (k : Int) = true then textR (oneI s).2 else ([], (oneI s).2)) := Lib.hid (by unfold oneN; rw [← hkk])
  have HO3 : Hid (oneR s = (⟨(k : Int), (oneI s).1, (oneN s).1, (oneB (k : Int) (oneN s).2).1.1, (oneB (k : Int) (oneN s).2).1.2⟩, (oneB (k : Int) (oneN s).2).2)) := Lib.hid (by unfold oneR; rw [← hkk])
  obtain ⟨ib, hib⟩ : ∃ ib, ib = idK (k : Int) := ⟨_, rfl⟩
  obtain ⟨nb, hnb⟩ : ∃ nb, nb = nameK (k : Int) := ⟨_, rfl⟩
  obtain ⟨bb, hbb⟩ : ∃ bb, bb = blobK (k : Int) := ⟨_, rfl⟩
  rw [← hib, ← hnb, ← hbb] at H
  rw [← hib, ← hnb] at HEX
  rw [← hib, ← hnb, ← hbb] at HEB
  rw [← hib] at HO1
  rw [← hnb] at HO2
  have HBB := Lib.hid hbb
  clear hkk ht0 hk1 hW1 h hbw hib hnb hbb hk256
  cases ib with
  | true =>
    obtain rfl : nb = false := HEX.out rfl
    cases bb with
    | true =>
      obtain ⟨i, hi⟩ : ∃ i, i = (numR t0 4).1 := ⟨_, rfl⟩
      obtain ⟨t1, ht1⟩ : ∃ t, t = (numR t0 4).2 := ⟨_, rfl⟩
      have hi32 : i < 4294967296 := by rw [hi]; exact numR_lt t0 4
      have v1 : IntKind.u32.wrap (i : Int) = (i : Int) := IntWalk.u32_in _ (by omega)
      have HI := Lib.hid hi
      have HT1 := Lib.hid ht1
      have e1 : oneI s = (i, t1) := by rw [HO1.out, if_pos rfl, hi, ht1]
      clear hi ht1 hi32
      have e2 : oneN s = ([], t1) := by rw [HO2.out, if_neg (by decide), e1]
      obtain ⟨z, hz⟩ : ∃ z, z = (numR t1 4).1 := ⟨_, rfl⟩
      obtain ⟨t3, ht3⟩ : ∃ t, t = (numR t1 4).2 := ⟨_, rfl⟩
      have hz32 : z < 4294967296 := by rw [hz]; exact numR_lt t1 4
      have v3 : IntKind.i64.wrap (z : Int) = (z : Int) := IntWalk.i64_in _ (by omega)
      obtain ⟨RL, hRL⟩ : ∃ l, l = (runsOf t3).1 := ⟨_, rfl⟩
      obtain ⟨t4, ht4⟩ : ∃ t, t = (runsOf t3).2 := ⟨_, rfl⟩
      have e3 : oneB (k : Int) t1 = (((z : Int), RL), t4) := by unfold oneB; rw [← HBB.out, if_pos rfl, hz, hRL, ht4, ht3]; rfl
      have HZ := Lib.hid hz
      have HT3 := Lib.hid ht3
      have HRLL := Lib.hid hRL
      have HT4 := Lib.hid ht4
      clear hz ht3 hz32 hRL ht4
      have e4 : oneR s = (⟨(k : Int), i, [], (z : Int), RL⟩, t4) := by rw [HO3.out, e1, e2, e3]
      have HX : Hid (∀ tv, recC (oneR s).1 tv = #[.int .i64 k, .int .u32 ((i : Nat)), .string ⟨#[]⟩, .int .i64 (z : Int), tv]) := Lib.hid (fun tv => by rw [e4]; unfold recC; rfl)
      have HXR : Hid ((oneR s).1.runs = RL) := Lib.hid (by rw [e4])
      have HXS : Hid ((oneR s).2 = t4) := Lib.hid (by rw [e4])
      clear e1 e2 e3 e4 HO1 HO2 HO3 HEX HEB
      go_enter Tryd.func97, Tryd.ntmps97
      go_wp2_with fail
      rw [← HW1.out]
      refine C0.mono ?_
      rintro e w2 ⟨rfl, hrd, hgr⟩
      have hb5 : Kept w2 (w2.alloc (.cells #[.int .i64 k, .int .u32 0, .string ⟨#[]⟩, .int .i64 0, .slice none 0 0] 30)) := box_below _ _
      have hr2 : w2.heap[w.heap.size]? = some (.cells zeroRc 30 (0, 0)) := by rw [hgr.block _ (Array.getElem?_eq_some_iff.1 HROW.out).1 (fun e => by have := Option.some.inj e; have := HBW.out; omega)]; exact HROW.out
      have G0 : JI w b w.heap.size w2.heap.size t0 #[.int .i64 k, .int .u32 0, .string ⟨#[]⟩, .int .i64 0, .slice none 0 0] (w2.alloc (.cells #[.int .i64 k, .int .u32 0, .string ⟨#[]⟩, .int .i64 0, .slice none 0 0] 30)) :=
        ⟨grown_trans (grown_trans HK1.out hgr) (grown_below hb5 _), hb5.row hr2, hrd.stayJ (hb5.block b hrd.lt), heap_alloc_last w2 _, ⟨HBW.out, Nat.le_refl _, (Array.getElem?_eq_some_iff.1 hr2).1⟩⟩
      obtain ⟨b3, hb⟩ : ∃ b3, b3 = w2.heap.size := ⟨_, rfl⟩
      have HB3 := Lib.hid hb
      obtain ⟨W3, hW3⟩ : ∃ W3, W3 = w2.alloc (.cells #[.int .i64 k, .int .u32 0, .string ⟨#[]⟩, .int .i64 0, .slice none 0 0] 30) := ⟨_, rfl⟩
      rw [← hb, ← hW3] at G0
      have HG := Lib.hid G0
      have HW3 := Lib.hid hW3
      clear hrd hgr hr2 hb5 G0 hb hW3 HK1 HROW HR1 C0
      go_wp2_with fail
      rw [← HB3.out]
      rw [← HW3.out]
      refine (H W3).mono ?_
      rintro e w3 ⟨rfl, hw3⟩
      subst hw3
      clear H
      go_wp2_with fail

      refine (rnumJ b t0 4 4 rfl (by omega) W3 HG.out.rd i HI.out t1 HT1.out).mono ?_
      rintro e WA1 ⟨rfl, hrd, hgr⟩
      replace HG := Lib.hid (HG.out.read hrd hgr)
      have c0 : WA1.cell? ⟨b3, 1, none⟩ = some (.int .u32 0) := by rw [cell_of_row _ _ _ _ _ _ HG.out.crow]; rfl
      have f0 := frozen_of_row WA1 b3 1 _ _ HG.out.crow
      replace HG := Lib.hid (HG.out.set 1 (.int .u32 (i : Nat)))
      obtain ⟨WBWA1, hWB⟩ : ∃ W, W = WA1.setCell ⟨b3, 1, none⟩ (.int .u32 (i : Nat)) := ⟨_, rfl⟩
      rw [← hWB] at HG

      have HWB := Lib.hid hWB
      clear hrd hgr hWB
      go_wp2_with fail
      rw [← HWB.out]
      refine (rnumJ b t1 4 4 rfl (by omega) WBWA1 HG.out.rd z HZ.out t3 HT3.out).mono ?_
      rintro e WA3 ⟨rfl, hrd, hgr⟩
      replace HG := Lib.hid (HG.out.read hrd hgr)
      have c0 : WA3.cell? ⟨b3, 3, none⟩ = some (.int .i64 0) := by rw [cell_of_row _ _ _ _ _ _ HG.out.crow]; rfl
      have f0 := frozen_of_row WA3 b3 3 _ _ HG.out.crow
      replace HG := Lib.hid (HG.out.set 3 (.int .i64 (z : Nat)))
      obtain ⟨WBWA3, hWB⟩ : ∃ W, W = WA3.setCell ⟨b3, 3, none⟩ (.int .i64 (z : Nat)) := ⟨_, rfl⟩
      rw [← hWB] at HG
      clear HWB
      have HWB := Lib.hid hWB
      clear hrd hgr hWB
      go_wp2_with fail
      rw [← HWB.out]
      refine (rrunsJ b t3 WBWA3 HG.out.rd RL HRLL.out t4 HT4.out).mono ?_
      rintro e WA4 ⟨tv, rfl, ho, hrd, hgr⟩
      obtain ⟨pv, cv, hv, -, -⟩ := own_slice ho
      subst hv
      have HLT := Lib.hid (HG.out.lt3)
      have HO : Hid (OwnRuns w.heap.size RL (.slice pv RL.length cv) WA4 ∧ ∀ m, (Value.slice pv RL.length cv).ownBlock = some m → b3 < m) := Lib.hid ⟨own_base ho HG.out.gr.size, fun m hm => Nat.lt_of_lt_of_le HLT.out (ho.lt m hm).1⟩
      replace HG := Lib.hid (HG.out.read hrd hgr)
      have c0 : WA4.cell? ⟨b3, 4, none⟩ = some (.slice none 0 0) := by rw [cell_of_row _ _ _ _ _ _ HG.out.crow]; rfl
      have f0 := frozen_of_row WA4 b3 4 _ _ HG.out.crow
      obtain ⟨rl, hrl⟩ : ∃ rl, rl = RL.length := ⟨_, rfl⟩
      rw [← hrl] at HO ⊢
      replace HG := Lib.hid (HG.out.set 4 (.slice pv rl cv))
      obtain ⟨WBWA4, hWB⟩ : ∃ W, W = WA4.setCell ⟨b3, 4, none⟩ (.slice pv rl cv) := ⟨_, rfl⟩
      rw [← hWB] at HG
      have HO2 : Hid (OwnRuns w.heap.size RL (.slice pv rl cv) WBWA4 ∧ ∀ m, (Value.slice pv rl cv).ownBlock = some m → b3 < m) := Lib.hid ⟨own_stay HO.out.1 (fun m hm => by rw [hWB]; exact heap_setCell_other _ _ _ _ (by have := HO.out.2 m hm; show m ≠ b3; omega)), HO.out.2⟩
      have HRL := Lib.hid hrl
      clear HWB
      have HWB := Lib.hid hWB
      clear hrd hgr hWB ho hrl
      obtain ⟨CF, hCF⟩ : ∃ CF : Array Value, CF = #[.int .i64 k, .int .u32 (i : Nat), .string ⟨#[]⟩, .int .i64 (z : Nat), .slice pv rl cv] := ⟨_, rfl⟩
      have HCROW : Hid ((WA4.setCell ⟨b3, 4, none⟩ (.slice pv rl cv)).heap[b3]? = some (.cells CF 30 (0, 0))) := Lib.hid (by rw [hCF, ← HWB.out]; exact HG.out.crow)
      have HZROW : Hid ((WA4.setCell ⟨b3, 4, none⟩ (.slice pv rl cv)).heap[w.heap.size]? = some (.cells zeroRc 30 (0, 0))) := Lib.hid (by rw [← HWB.out]; exact HG.out.zrow)
      have HCS : Hid ((Tryd.prog.info? 30).map (·.size) = some CF.size) := Lib.hid (by rw [hCF]; exact infoRc)
      have HOL : Hid (zeroRc.size = CF.size) := Lib.hid (by rw [hCF]; rfl)
      have HON : Hid (CF.all (·.oneCell') = true) := Lib.hid (by rw [hCF]; exact all5 rfl rfl rfl rfl rfl)
      have HCX : Hid (.agg CF = recV (oneR s).1 (.slice pv rl cv)) := Lib.hid (by rw [hCF]; exact (congrArg Value.agg (HX.out _)).symm)
      obtain ⟨WE, hWE⟩ : ∃ W, W = (WA4.setCell ⟨b3, 4, none⟩ (.slice pv rl cv)).setRow w.heap.size CF := ⟨_, rfl⟩
      have HWE := Lib.hid hWE
      clear hCF hWE
      go_wp2_with (first
        | (with_reducible refine wpList_load_row rfl _ _ rfl b3 rfl 30 CF (0, 0) _ HCROW.out Tryd.underlying30 rfl HCS.out ?_)
        | (with_reducible refine wpList_store_namedJ rfl _ _ _ rfl w.heap.size CF rfl rfl 30 zeroRc HZROW.out HCS.out HOL.out HON.out WE HWE.out ?_)
        | fail)
      have hrow : WE.heap[w.heap.size]? = some (.cells CF 30 (0, 0)) := by rw [HWE.out]; exact setRow_heap _ _ _ _ _ _ HZROW.out
      have hoth : ∀ k, k ≠ w.heap.size → WE.heap[k]? = WBWA4.heap[k]? := fun k hk => by rw [HWE.out, HWB.out]; exact setRow_other _ _ _ _ hk
      refine bodyPost_ret (results_cell_row Tryd.results97 _ _ w.heap.size 30 CF (0, 0) _ rfl hrow Tryd.underlying30 rfl HCS.out) rfl ⟨.slice pv rl cv, by rw [HCX.out], ?_, ?_, ?_⟩
      · rw [HXR.out]; exact own_stay HO2.out.1 (fun m hm => hoth m (by have := HO2.out.2 m hm; have := HG.out.h0; omega))
      · rw [HXS.out]; exact HG.out.rd.stayJ (hoth b (by have := HG.out.h0; omega))
      · have hg := HG.out.gr
        have hb := HG.out.h0
        refine ⟨by rw [HWE.out, ← HWB.out]; exact hg.os, by rw [HWE.out, ← HWB.out]; exact hg.tape, by rw [HWE.out, ← HWB.out]; exact hg.output, by rw [HWE.out, setRow_size, ← HWB.out]; exact hg.size, fun i hi hn => (hoth i (by omega)).trans (hg.block i hi hn)⟩
    | false =>
      obtain ⟨i, hi⟩ : ∃ i, i = (numR t0 4).1 := ⟨_, rfl⟩
      obtain ⟨t1, ht1⟩ : ∃ t, t = (numR t0 4).2 := ⟨_, rfl⟩
      have hi32 : i < 4294967296 := by rw [hi]; exact numR_lt t0 4
      have v1 : IntKind.u32.wrap (i : Int) = (i : Int) := IntWalk.u32_in _ (by omega)
      have HI := Lib.hid hi
      have HT1 := Lib.hid ht1
      have e1 : oneI s = (i, t1) := by rw [HO1.out, if_pos rfl, hi, ht1]
      clear hi ht1 hi32
      have e2 : oneN s = ([], t1) := by rw [HO2.out, if_neg (by decide), e1]
      have e3 : oneB (k : Int) t1 = ((0, []), t1) := by unfold oneB; rw [← HBB.out, if_neg (by decide)]
      have e4 : oneR s = (⟨(k : Int), i, [], 0, []⟩, t1) := by rw [HO3.out, e1, e2, e3]
      have HX : Hid (∀ tv, recC (oneR s).1 tv = #[.int .i64 k, .int .u32 ((i : Nat)), .string ⟨#[]⟩, .int .i64 0, tv]) := Lib.hid (fun tv => by rw [e4]; unfold recC; rfl)
      have HXR : Hid ((oneR s).1.runs = []) := Lib.hid (by rw [e4])
      have HXS : Hid ((oneR s).2 = t1) := Lib.hid (by rw [e4])
      clear e1 e2 e3 e4 HO1 HO2 HO3 HEX HEB
      go_enter Tryd.func97, Tryd.ntmps97
      go_wp2_with fail
      rw [← HW1.out]
      refine C0.mono ?_
      rintro e w2 ⟨rfl, hrd, hgr⟩
      have hb5 : Kept w2 (w2.alloc (.cells #[.int .i64 k, .int .u32 0, .string ⟨#[]⟩, .int .i64 0, .slice none 0 0] 30)) := box_below _ _
      have hr2 : w2.heap[w.heap.size]? = some (.cells zeroRc 30 (0, 0)) := by rw [hgr.block _ (Array.getElem?_eq_some_iff.1 HROW.out).1 (fun e => by have := Option.some.inj e; have := HBW.out; omega)]; exact HROW.out
      have G0 : JI w b w.heap.size w2.heap.size t0 #[.int .i64 k, .int .u32 0, .string ⟨#[]⟩, .int .i64 0, .slice none 0 0] (w2.alloc (.cells #[.int .i64 k, .int .u32 0, .string ⟨#[]⟩, .int .i64 0, .slice none 0 0] 30)) :=
        ⟨grown_trans (grown_trans HK1.out hgr) (grown_below hb5 _), hb5.row hr2, hrd.stayJ (hb5.block b hrd.lt), heap_alloc_last w2 _, ⟨HBW.out, Nat.le_refl _, (Array.getElem?_eq_some_iff.1 hr2).1⟩⟩
      obtain ⟨b3, hb⟩ : ∃ b3, b3 = w2.heap.size := ⟨_, rfl⟩
      have HB3 := Lib.hid hb
      obtain ⟨W3, hW3⟩ : ∃ W3, W3 = w2.alloc (.cells #[.int .i64 k, .int .u32 0, .string ⟨#[]⟩, .int .i64 0, .slice none 0 0] 30) := ⟨_, rfl⟩
      rw [← hb, ← hW3] at G0
      have HG := Lib.hid G0
      have HW3 := Lib.hid hW3
      clear hrd hgr hr2 hb5 G0 hb hW3 HK1 HROW HR1 C0
      go_wp2_with fail
      rw [← HB3.out]
      rw [← HW3.out]
      refine (H W3).mono ?_
      rintro e w3 ⟨rfl, hw3⟩
      subst hw3
      clear H
      go_wp2_with fail

      refine (rnumJ b t0 4 4 rfl (by omega) W3 HG.out.rd i HI.out t1 HT1.out).mono ?_
      rintro e WA1 ⟨rfl, hrd, hgr⟩
      replace HG := Lib.hid (HG.out.read hrd hgr)
      have c0 : WA1.cell? ⟨b3, 1, none⟩ = some (.int .u32 0) := by rw [cell_of_row _ _ _ _ _ _ HG.out.crow]; rfl
      have f0 := frozen_of_row WA1 b3 1 _ _ HG.out.crow
      replace HG := Lib.hid (HG.out.set 1 (.int .u32 (i : Nat)))
      obtain ⟨WBWA1, hWB⟩ : ∃ W, W = WA1.setCell ⟨b3, 1, none⟩ (.int .u32 (i : Nat)) := ⟨_, rfl⟩
      rw [← hWB] at HG

      have HWB := Lib.hid hWB
      clear hrd hgr hWB
      obtain ⟨CF, hCF⟩ : ∃ CF : Array Value, CF = #[.int .i64 k, .int .u32 (i : Nat), .string ⟨#[]⟩, .int .i64 0, .slice none 0 0] := ⟨_, rfl⟩
      have HCROW : Hid ((WA1.setCell ⟨b3, 1, none⟩ (.int .u32 (i : Nat))).heap[b3]? = some (.cells CF 30 (0, 0))) := Lib.hid (by rw [hCF, ← HWB.out]; exact HG.out.crow)
      have HZROW : Hid ((WA1.setCell ⟨b3, 1, none⟩ (.int .u32 (i : Nat))).heap[w.heap.size]? = some (.cells zeroRc 30 (0, 0))) := Lib.hid (by rw [← HWB.out]; exact HG.out.zrow)
      have HCS : Hid ((Tryd.prog.info? 30).map (·.size) = some CF.size) := Lib.hid (by rw [hCF]; exact infoRc)
      have HOL : Hid (zeroRc.size = CF.size) := Lib.hid (by rw [hCF]; rfl)
      have HON : Hid (CF.all (·.oneCell') = true) := Lib.hid (by rw [hCF]; exact all5 rfl rfl rfl rfl rfl)
      have HCX : Hid (.agg CF = recV (oneR s).1 (.slice none 0 0)) := Lib.hid (by rw [hCF]; exact (congrArg Value.agg (HX.out _)).symm)
      obtain ⟨WE, hWE⟩ : ∃ W, W = (WA1.setCell ⟨b3, 1, none⟩ (.int .u32 (i : Nat))).setRow w.heap.size CF := ⟨_, rfl⟩
      have HWE := Lib.hid hWE
      clear hCF hWE
      go_wp2_with (first
        | (with_reducible refine wpList_load_row rfl _ _ rfl b3 rfl 30 CF (0, 0) _ HCROW.out Tryd.underlying30 rfl HCS.out ?_)
        | (with_reducible refine wpList_store_namedJ rfl _ _ _ rfl w.heap.size CF rfl rfl 30 zeroRc HZROW.out HCS.out HOL.out HON.out WE HWE.out ?_)
        | fail)
      have hrow : WE.heap[w.heap.size]? = some (.cells CF 30 (0, 0)) := by rw [HWE.out]; exact setRow_heap _ _ _ _ _ _ HZROW.out
      have hoth : ∀ k, k ≠ w.heap.size → WE.heap[k]? = WBWA1.heap[k]? := fun k hk => by rw [HWE.out, HWB.out]; exact setRow_other _ _ _ _ hk
      refine bodyPost_ret (results_cell_row Tryd.results97 _ _ w.heap.size 30 CF (0, 0) _ rfl hrow Tryd.underlying30 rfl HCS.out) rfl ⟨.slice none 0 0, by rw [HCX.out], ?_, ?_, ?_⟩
      · rw [HXR.out]; exact World.ownsRow_nil _ _ _ _
      · rw [HXS.out]; exact HG.out.rd.stayJ (hoth b (by have := HG.out.h0; omega))
      · have hg := HG.out.gr
        have hb := HG.out.h0
        refine ⟨by rw [HWE.out, ← HWB.out]; exact hg.os, by rw [HWE.out, ← HWB.out]; exact hg.tape, by rw [HWE.out, ← HWB.out]; exact hg.output, by rw [HWE.out, setRow_size, ← HWB.out]; exact hg.size, fun i hi hn => (hoth i (by omega)).trans (hg.block i hi hn)⟩
  | false =>
    cases nb with
    | true =>
      cases bb with
      | true =>
        have e1 : oneI s = (0, t0) := by rw [HO1.out, if_neg (by decide)]
        obtain ⟨SN, hSN⟩ : ∃ S, S = str (textR t0).1 := ⟨_, rfl⟩
        obtain ⟨t2, ht2⟩ : ∃ t, t = (textR t0).2 := ⟨_, rfl⟩
        have e2 : oneN s = ((textR t0).1, t2) := by rw [HO2.out, if_pos rfl, e1, ht2]
        have HSN := Lib.hid hSN
        have HT2 := Lib.hid ht2
        clear hSN ht2
        obtain ⟨z, hz⟩ : ∃ z, z = (numR t2 4).1 := ⟨_, rfl⟩
        obtain ⟨t3, ht3⟩ : ∃ t, t = (numR t2 4).2 := ⟨_, rfl⟩
        have hz32 : z < 4294967296 := by rw [hz]; exact numR_lt t2 4
        have v3 : IntKind.i64.wrap (z : Int) = (z : Int) := IntWalk.i64_in _ (by omega)
        obtain ⟨RL, hRL⟩ : ∃ l, l = (runsOf t3).1 := ⟨_, rfl⟩
        obtain ⟨t4, ht4⟩ : ∃ t, t = (runsOf t3).2 := ⟨_, rfl⟩
        have e3 : oneB (k : Int) t2 = (((z : Int), RL), t4) := by unfold oneB; rw [← HBB.out, if_pos rfl, hz, hRL, ht4, ht3]; rfl
        have HZ := Lib.hid hz
        have HT3 := Lib.hid ht3
        have HRLL := Lib.hid hRL
        have HT4 := Lib.hid ht4
        clear hz ht3 hz32 hRL ht4
        have e4 : oneR s = (⟨(k : Int), 0, (textR t0).1, (z : Int), RL⟩, t4) := by rw [HO3.out, e1, e2, e3]
        have HX : Hid (∀ tv, recC (oneR s).1 tv = #[.int .i64 k, .int .u32 (0), .string SN, .int .i64 (z : Int), tv]) := Lib.hid (fun tv => by rw [e4]; unfold recC; rw [HSN.out]; rfl)
        have HXR : Hid ((oneR s).1.runs = RL) := Lib.hid (by rw [e4])
        have HXS : Hid ((oneR s).2 = t4) := Lib.hid (by rw [e4])
        clear e1 e2 e3 e4 HO1 HO2 HO3 HEX HEB
        go_enter Tryd.func97, Tryd.ntmps97
        go_wp2_with fail
        rw [← HW1.out]
        refine C0.mono ?_
        rintro e w2 ⟨rfl, hrd, hgr⟩
        have hb5 : Kept w2 (w2.alloc (.cells #[.int .i64 k, .int .u32 0, .string ⟨#[]⟩, .int .i64 0, .slice none 0 0] 30)) := box_below _ _
        have hr2 : w2.heap[w.heap.size]? = some (.cells zeroRc 30 (0, 0)) := by rw [hgr.block _ (Array.getElem?_eq_some_iff.1 HROW.out).1 (fun e => by have := Option.some.inj e; have := HBW.out; omega)]; exact HROW.out
        have G0 : JI w b w.heap.size w2.heap.size t0 #[.int .i64 k, .int .u32 0, .string ⟨#[]⟩, .int .i64 0, .slice none 0 0] (w2.alloc (.cells #[.int .i64 k, .int .u32 0, .string ⟨#[]⟩, .int .i64 0, .slice none 0 0] 30)) :=
          ⟨grown_trans (grown_trans HK1.out hgr) (grown_below hb5 _), hb5.row hr2, hrd.stayJ (hb5.block b hrd.lt), heap_alloc_last w2 _, ⟨HBW.out, Nat.le_refl _, (Array.getElem?_eq_some_iff.1 hr2).1⟩⟩
        obtain ⟨b3, hb⟩ : ∃ b3, b3 = w2.heap.size := ⟨_, rfl⟩
        have HB3 := Lib.hid hb
        obtain ⟨W3, hW3⟩ : ∃ W3, W3 = w2.alloc (.cells #[.int .i64 k, .int .u32 0, .string ⟨#[]⟩, .int .i64 0, .slice none 0 0] 30) := ⟨_, rfl⟩
        rw [← hb, ← hW3] at G0
        have HG := Lib.hid G0
        have HW3 := Lib.hid hW3
        clear hrd hgr hr2 hb5 G0 hb hW3 HK1 HROW HR1 C0
        go_wp2_with fail
        rw [← HB3.out]
        rw [← HW3.out]
        refine (H W3).mono ?_
        rintro e w3 ⟨rfl, hw3⟩
        subst hw3
        clear H
        go_wp2_with fail

        refine (rtextJ b t0 W3 HG.out.rd SN HSN.out t2 HT2.out).mono ?_
        rintro e WA2 ⟨rfl, hrd, hgr⟩
        replace HG := Lib.hid (HG.out.read hrd hgr)
        have c0 : WA2.cell? ⟨b3, 2, none⟩ = some (.string ⟨#[]⟩) := by rw [cell_of_row _ _ _ _ _ _ HG.out.crow]; rfl
        have f0 := frozen_of_row WA2 b3 2 _ _ HG.out.crow
        replace HG := Lib.hid (HG.out.set 2 (.string SN))
        obtain ⟨WBWA2, hWB⟩ : ∃ W, W = WA2.setCell ⟨b3, 2, none⟩ (.string SN) := ⟨_, rfl⟩
        rw [← hWB] at HG

        have HWB := Lib.hid hWB
        clear hrd hgr hWB
        go_wp2_with fail
        rw [← HWB.out]
        refine (rnumJ b t2 4 4 rfl (by omega) WBWA2 HG.out.rd z HZ.out t3 HT3.out).mono ?_
        rintro e WA3 ⟨rfl, hrd, hgr⟩
        replace HG := Lib.hid (HG.out.read hrd hgr)
        have c0 : WA3.cell? ⟨b3, 3, none⟩ = some (.int .i64 0) := by rw [cell_of_row _ _ _ _ _ _ HG.out.crow]; rfl
        have f0 := frozen_of_row WA3 b3 3 _ _ HG.out.crow
        replace HG := Lib.hid (HG.out.set 3 (.int .i64 (z : Nat)))
        obtain ⟨WBWA3, hWB⟩ : ∃ W, W = WA3.setCell ⟨b3, 3, none⟩ (.int .i64 (z : Nat)) := ⟨_, rfl⟩
        rw [← hWB] at HG
        clear HWB
        have HWB := Lib.hid hWB
        clear hrd hgr hWB
        go_wp2_with fail
        rw [← HWB.out]
        refine (rrunsJ b t3 WBWA3 HG.out.rd RL HRLL.out t4 HT4.out).mono ?_
        rintro e WA4 ⟨tv, rfl, ho, hrd, hgr⟩
        obtain ⟨pv, cv, hv, -, -⟩ := own_slice ho
        subst hv
        have HLT := Lib.hid (HG.out.lt3)
        have HO : Hid (OwnRuns w.heap.size RL (.slice pv RL.length cv) WA4 ∧ ∀ m, (Value.slice pv RL.length cv).ownBlock = some m → b3 < m) := Lib.hid ⟨own_base ho HG.out.gr.size, fun m hm => Nat.lt_of_lt_of_le HLT.out (ho.lt m hm).1⟩
        replace HG := Lib.hid (HG.out.read hrd hgr)
        have c0 : WA4.cell? ⟨b3, 4, none⟩ = some (.slice none 0 0) := by rw [cell_of_row _ _ _ _ _ _ HG.out.crow]; rfl
        have f0 := frozen_of_row WA4 b3 4 _ _ HG.out.crow
        obtain ⟨rl, hrl⟩ : ∃ rl, rl = RL.length := ⟨_, rfl⟩
        rw [← hrl] at HO ⊢
        replace HG := Lib.hid (HG.out.set 4 (.slice pv rl cv))
        obtain ⟨WBWA4, hWB⟩ : ∃ W, W = WA4.setCell ⟨b3, 4, none⟩ (.slice pv rl cv) := ⟨_, rfl⟩
        rw [← hWB] at HG
        have HO2 : Hid (OwnRuns w.heap.size RL (.slice pv rl cv) WBWA4 ∧ ∀ m, (Value.slice pv rl cv).ownBlock = some m → b3 < m) := Lib.hid ⟨own_stay HO.out.1 (fun m hm => by rw [hWB]; exact heap_setCell_other _ _ _ _ (by have := HO.out.2 m hm; show m ≠ b3; omega)), HO.out.2⟩
        have HRL := Lib.hid hrl
        clear HWB
        have HWB := Lib.hid hWB
        clear hrd hgr hWB ho hrl
        obtain ⟨CF, hCF⟩ : ∃ CF : Array Value, CF = #[.int .i64 k, .int .u32 0, .string SN, .int .i64 (z : Nat), .slice pv rl cv] := ⟨_, rfl⟩
        have HCROW : Hid ((WA4.setCell ⟨b3, 4, none⟩ (.slice pv rl cv)).heap[b3]? = some (.cells CF 30 (0, 0))) := Lib.hid (by rw [hCF, ← HWB.out]; exact HG.out.crow)
        have HZROW : Hid ((WA4.setCell ⟨b3, 4, none⟩ (.slice pv rl cv)).heap[w.heap.size]? = some (.cells zeroRc 30 (0, 0))) := Lib.hid (by rw [← HWB.out]; exact HG.out.zrow)
        have HCS : Hid ((Tryd.prog.info? 30).map (·.size) = some CF.size) := Lib.hid (by rw [hCF]; exact infoRc)
        have HOL : Hid (zeroRc.size = CF.size) := Lib.hid (by rw [hCF]; rfl)
        have HON : Hid (CF.all (·.oneCell') = true) := Lib.hid (by rw [hCF]; exact all5 rfl rfl rfl rfl rfl)
        have HCX : Hid (.agg CF = recV (oneR s).1 (.slice pv rl cv)) := Lib.hid (by rw [hCF]; exact (congrArg Value.agg (HX.out _)).symm)
        obtain ⟨WE, hWE⟩ : ∃ W, W = (WA4.setCell ⟨b3, 4, none⟩ (.slice pv rl cv)).setRow w.heap.size CF := ⟨_, rfl⟩
        have HWE := Lib.hid hWE
        clear hCF hWE
        go_wp2_with (first
          | (with_reducible refine wpList_load_row rfl _ _ rfl b3 rfl 30 CF (0, 0) _ HCROW.out Tryd.underlying30 rfl HCS.out ?_)
          | (with_reducible refine wpList_store_namedJ rfl _ _ _ rfl w.heap.size CF rfl rfl 30 zeroRc HZROW.out HCS.out HOL.out HON.out WE HWE.out ?_)
          | fail)
        have hrow : WE.heap[w.heap.size]? = some (.cells CF 30 (0, 0)) := by rw [HWE.out]; exact setRow_heap _ _ _ _ _ _ HZROW.out
        have hoth : ∀ k, k ≠ w.heap.size → WE.heap[k]? = WBWA4.heap[k]? := fun k hk => by rw [HWE.out, HWB.out]; exact setRow_other _ _ _ _ hk
        refine bodyPost_ret (results_cell_row Tryd.results97 _ _ w.heap.size 30 CF (0, 0) _ rfl hrow Tryd.underlying30 rfl HCS.out) rfl ⟨.slice pv rl cv, by rw [HCX.out], ?_, ?_, ?_⟩
        · rw [HXR.out]; exact own_stay HO2.out.1 (fun m hm => hoth m (by have := HO2.out.2 m hm; have := HG.out.h0; omega))
        · rw [HXS.out]; exact HG.out.rd.stayJ (hoth b (by have := HG.out.h0; omega))
        · have hg := HG.out.gr
          have hb := HG.out.h0
          refine ⟨by rw [HWE.out, ← HWB.out]; exact hg.os, by rw [HWE.out, ← HWB.out]; exact hg.tape, by rw [HWE.out, ← HWB.out]; exact hg.output, by rw [HWE.out, setRow_size, ← HWB.out]; exact hg.size, fun i hi hn => (hoth i (by omega)).trans (hg.block i hi hn)⟩
      | false =>
        have e1 : oneI s = (0, t0) := by rw [HO1.out, if_neg (by decide)]
        obtain ⟨SN, hSN⟩ : ∃ S, S = str (textR t0).1 := ⟨_, rfl⟩
        obtain ⟨t2, ht2⟩ : ∃ t, t = (textR t0).2 := ⟨_, rfl⟩
        have e2 : oneN s = ((textR t0).1, t2) := by rw [HO2.out, if_pos rfl, e1, ht2]
        have HSN := Lib.hid hSN
        have HT2 := Lib.hid ht2
        clear hSN ht2
        have e3 : oneB (k : Int) t2 = ((0, []), t2) := by unfold oneB; rw [← HBB.out, if_neg (by decide)]
        have e4 : oneR s = (⟨(k : Int), 0, (textR t0).1, 0, []⟩, t2) := by rw [HO3.out, e1, e2, e3]
        have HX : Hid (∀ tv, recC (oneR s).1 tv = #[.int .i64 k, .int .u32 (0), .string SN, .int .i64 0, tv]) := Lib.hid (fun tv => by rw [e4]; unfold recC; rw [HSN.out]; rfl)
        have HXR : Hid ((oneR s).1.runs = []) := Lib.hid (by rw [e4])
        have HXS : Hid ((oneR s).2 = t2) := Lib.hid (by rw [e4])
        clear e1 e2 e3 e4 HO1 HO2 HO3 HEX HEB
        go_enter Tryd.func97, Tryd.ntmps97
        go_wp2_with fail
        rw [← HW1.out]
        refine C0.mono ?_
        rintro e w2 ⟨rfl, hrd, hgr⟩
        have hb5 : Kept w2 (w2.alloc (.cells #[.int .i64 k, .int .u32 0, .string ⟨#[]⟩, .int .i64 0, .slice none 0 0] 30)) := box_below _ _
        have hr2 : w2.heap[w.heap.size]? = some (.cells zeroRc 30 (0, 0)) := by rw [hgr.block _ (Array.getElem?_eq_some_iff.1 HROW.out).1 (fun e => by have := Option.some.inj e; have := HBW.out; omega)]; exact HROW.out
        have G0 : JI w b w.heap.size w2.heap.size t0 #[.int .i64 k, .int .u32 0, .string ⟨#[]⟩, .int .i64 0, .slice none 0 0] (w2.alloc (.cells #[.int .i64 k, .int .u32 0, .string ⟨#[]⟩, .int .i64 0, .slice none 0 0] 30)) :=
          ⟨grown_trans (grown_trans HK1.out hgr) (grown_below hb5 _), hb5.row hr2, hrd.stayJ (hb5.block b hrd.lt), heap_alloc_last w2 _, ⟨HBW.out, Nat.le_refl _, (Array.getElem?_eq_some_iff.1 hr2).1⟩⟩
        obtain ⟨b3, hb⟩ : ∃ b3, b3 = w2.heap.size := ⟨_, rfl⟩
        have HB3 := Lib.hid hb
        obtain ⟨W3, hW3⟩ : ∃ W3, W3 = w2.alloc (.cells #[.int .i64 k, .int .u32 0, .string ⟨#[]⟩, .int .i64 0, .slice none 0 0] 30) := ⟨_, rfl⟩
        rw [← hb, ← hW3] at G0
        have HG := Lib.hid G0
        have HW3 := Lib.hid hW3
        clear hrd hgr hr2 hb5 G0 hb hW3 HK1 HROW HR1 C0
        go_wp2_with fail
        rw [← HB3.out]
        rw [← HW3.out]
        refine (H W3).mono ?_
        rintro e w3 ⟨rfl, hw3⟩
        subst hw3
        clear H
        go_wp2_with fail

        refine (rtextJ b t0 W3 HG.out.rd SN HSN.out t2 HT2.out).mono ?_
        rintro e WA2 ⟨rfl, hrd, hgr⟩
        replace HG := Lib.hid (HG.out.read hrd hgr)
        have c0 : WA2.cell? ⟨b3, 2, none⟩ = some (.string ⟨#[]⟩) := by rw [cell_of_row _ _ _ _ _ _ HG.out.crow]; rfl
        have f0 := frozen_of_row WA2 b3 2 _ _ HG.out.crow
        replace HG := Lib.hid (HG.out.set 2 (.string SN))
        obtain ⟨WBWA2, hWB⟩ : ∃ W, W = WA2.setCell ⟨b3, 2, none⟩ (.string SN) := ⟨_, rfl⟩
        rw [← hWB] at HG

        have HWB := Lib.hid hWB
        clear hrd hgr hWB
        obtain ⟨CF, hCF⟩ : ∃ CF : Array Value, CF = #[.int .i64 k, .int .u32 0, .string SN, .int .i64 0, .slice none 0 0] := ⟨_, rfl⟩
        have HCROW : Hid ((WA2.setCell ⟨b3, 2, none⟩ (.string SN)).heap[b3]? = some (.cells CF 30 (0, 0))) := Lib.hid (by rw [hCF, ← HWB.out]; exact HG.out.crow)
        have HZROW : Hid ((WA2.setCell ⟨b3, 2, none⟩ (.string SN)).heap[w.heap.size]? = some (.cells zeroRc 30 (0, 0))) := Lib.hid (by rw [← HWB.out]; exact HG.out.zrow)
        have HCS : Hid ((Tryd.prog.info? 30).map (·.size) = some CF.size) := Lib.hid (by rw [hCF]; exact infoRc)
        have HOL : Hid (zeroRc.size = CF.size) := Lib.hid (by rw [hCF]; rfl)
        have HON : Hid (CF.all (·.oneCell') = true) := Lib.hid (by rw [hCF]; exact all5 rfl rfl rfl rfl rfl)
        have HCX : Hid (.agg CF = recV (oneR s).1 (.slice none 0 0)) := Lib.hid (by rw [hCF]; exact (congrArg Value.agg (HX.out _)).symm)
        obtain ⟨WE, hWE⟩ : ∃ W, W = (WA2.setCell ⟨b3, 2, none⟩ (.string SN)).setRow w.heap.size CF := ⟨_, rfl⟩
        have HWE := Lib.hid hWE
        clear hCF hWE
        go_wp2_with (first
          | (with_reducible refine wpList_load_row rfl _ _ rfl b3 rfl 30 CF (0, 0) _ HCROW.out Tryd.underlying30 rfl HCS.out ?_)
          | (with_reducible refine wpList_store_namedJ rfl _ _ _ rfl w.heap.size CF rfl rfl 30 zeroRc HZROW.out HCS.out HOL.out HON.out WE HWE.out ?_)
          | fail)
        have hrow : WE.heap[w.heap.size]? = some (.cells CF 30 (0, 0)) := by rw [HWE.out]; exact setRow_heap _ _ _ _ _ _ HZROW.out
        have hoth : ∀ k, k ≠ w.heap.size → WE.heap[k]? = WBWA2.heap[k]? := fun k hk => by rw [HWE.out, HWB.out]; exact setRow_other _ _ _ _ hk
        refine bodyPost_ret (results_cell_row Tryd.results97 _ _ w.heap.size 30 CF (0, 0) _ rfl hrow Tryd.underlying30 rfl HCS.out) rfl ⟨.slice none 0 0, by rw [HCX.out], ?_, ?_, ?_⟩
        · rw [HXR.out]; exact World.ownsRow_nil _ _ _ _
        · rw [HXS.out]; exact HG.out.rd.stayJ (hoth b (by have := HG.out.h0; omega))
        · have hg := HG.out.gr
          have hb := HG.out.h0
          refine ⟨by rw [HWE.out, ← HWB.out]; exact hg.os, by rw [HWE.out, ← HWB.out]; exact hg.tape, by rw [HWE.out, ← HWB.out]; exact hg.output, by rw [HWE.out, setRow_size, ← HWB.out]; exact hg.size, fun i hi hn => (hoth i (by omega)).trans (hg.block i hi hn)⟩
    | false =>
      cases bb with
      | true => exact absurd (HEB.out rfl rfl) (by decide)
      | false =>
        have e1 : oneI s = (0, t0) := by rw [HO1.out, if_neg (by decide)]
        have e2 : oneN s = ([], t0) := by rw [HO2.out, if_neg (by decide), e1]
        have e3 : oneB (k : Int) t0 = ((0, []), t0) := by unfold oneB; rw [← HBB.out, if_neg (by decide)]
        have e4 : oneR s = (⟨(k : Int), 0, [], 0, []⟩, t0) := by rw [HO3.out, e1, e2, e3]
        have HX : Hid (∀ tv, recC (oneR s).1 tv = #[.int .i64 k, .int .u32 (0), .string ⟨#[]⟩, .int .i64 0, tv]) := Lib.hid (fun tv => by rw [e4]; unfold recC; rfl)
        have HXR : Hid ((oneR s).1.runs = []) := Lib.hid (by rw [e4])
        have HXS : Hid ((oneR s).2 = t0) := Lib.hid (by rw [e4])
        clear e1 e2 e3 e4 HO1 HO2 HO3 HEX HEB
        go_enter Tryd.func97, Tryd.ntmps97
        go_wp2_with fail
        rw [← HW1.out]
        refine C0.mono ?_
        rintro e w2 ⟨rfl, hrd, hgr⟩
        have hb5 : Kept w2 (w2.alloc (.cells #[.int .i64 k, .int .u32 0, .string ⟨#[]⟩, .int .i64 0, .slice none 0 0] 30)) := box_below _ _
        have hr2 : w2.heap[w.heap.size]? = some (.cells zeroRc 30 (0, 0)) := by rw [hgr.block _ (Array.getElem?_eq_some_iff.1 HROW.out).1 (fun e => by have := Option.some.inj e; have := HBW.out; omega)]; exact HROW.out
        have G0 : JI w b w.heap.size w2.heap.size t0 #[.int .i64 k, .int .u32 0, .string ⟨#[]⟩, .int .i64 0, .slice none 0 0] (w2.alloc (.cells #[.int .i64 k, .int .u32 0, .string ⟨#[]⟩, .int .i64 0, .slice none 0 0] 30)) :=
          ⟨grown_trans (grown_trans HK1.out hgr) (grown_below hb5 _), hb5.row hr2, hrd.stayJ (hb5.block b hrd.lt), heap_alloc_last w2 _, ⟨HBW.out, Nat.le_refl _, (Array.getElem?_eq_some_iff.1 hr2).1⟩⟩
        obtain ⟨b3, hb⟩ : ∃ b3, b3 = w2.heap.size := ⟨_, rfl⟩
        have HB3 := Lib.hid hb
        obtain ⟨W3, hW3⟩ : ∃ W3, W3 = w2.alloc (.cells #[.int .i64 k, .int .u32 0, .string ⟨#[]⟩, .int .i64 0, .slice none 0 0] 30) := ⟨_, rfl⟩
        rw [← hb, ← hW3] at G0
        have HG := Lib.hid G0
        have HW3 := Lib.hid hW3
        clear hrd hgr hr2 hb5 G0 hb hW3 HK1 HROW HR1 C0
        go_wp2_with fail
        rw [← HB3.out]
        rw [← HW3.out]
        refine (H W3).mono ?_
        rintro e w3 ⟨rfl, hw3⟩
        subst hw3
        clear H
        obtain ⟨CF, hCF⟩ : ∃ CF : Array Value, CF = #[.int .i64 k, .int .u32 0, .string ⟨#[]⟩, .int .i64 0, .slice none 0 0] := ⟨_, rfl⟩
        have HCROW : Hid (W3.heap[b3]? = some (.cells CF 30 (0, 0))) := Lib.hid (by rw [hCF]; exact HG.out.crow)
        have HZROW : Hid (W3.heap[w.heap.size]? = some (.cells zeroRc 30 (0, 0))) := Lib.hid HG.out.zrow
        have HCS : Hid ((Tryd.prog.info? 30).map (·.size) = some CF.size) := Lib.hid (by rw [hCF]; exact infoRc)
        have HOL : Hid (zeroRc.size = CF.size) := Lib.hid (by rw [hCF]; rfl)
        have HON : Hid (CF.all (·.oneCell') = true) := Lib.hid (by rw [hCF]; exact all5 rfl rfl rfl rfl rfl)
        have HCX : Hid (.agg CF = recV (oneR s).1 (.slice none 0 0)) := Lib.hid (by rw [hCF]; exact (congrArg Value.agg (HX.out _)).symm)
        obtain ⟨WE, hWE⟩ : ∃ W, W = W3.setRow w.heap.size CF := ⟨_, rfl⟩
        have HWE := Lib.hid hWE
        clear hCF hWE
        go_wp2_with (first
          | (with_reducible refine wpList_load_row rfl _ _ rfl b3 rfl 30 CF (0, 0) _ HCROW.out Tryd.underlying30 rfl HCS.out ?_)
          | (with_reducible refine wpList_store_namedJ rfl _ _ _ rfl w.heap.size CF rfl rfl 30 zeroRc HZROW.out HCS.out HOL.out HON.out WE HWE.out ?_)
          | fail)
        have hrow : WE.heap[w.heap.size]? = some (.cells CF 30 (0, 0)) := by rw [HWE.out]; exact setRow_heap _ _ _ _ _ _ HZROW.out
        have hoth : ∀ k, k ≠ w.heap.size → WE.heap[k]? = W3.heap[k]? := fun k hk => by rw [HWE.out]; exact setRow_other _ _ _ _ hk
        refine bodyPost_ret (results_cell_row Tryd.results97 _ _ w.heap.size 30 CF (0, 0) _ rfl hrow Tryd.underlying30 rfl HCS.out) rfl ⟨.slice none 0 0, by rw [HCX.out], ?_, ?_, ?_⟩
        · rw [HXR.out]; exact World.ownsRow_nil _ _ _ _
        · rw [HXS.out]; exact HG.out.rd.stayJ (hoth b (by have := HG.out.h0; omega))
        · have hg := HG.out.gr
          have hb := HG.out.h0
          refine ⟨by rw [HWE.out]; exact hg.os, by rw [HWE.out]; exact hg.tape, by rw [HWE.out]; exact hg.output, by rw [HWE.out, setRow_size]; exact hg.size, fun i hi hn => (hoth i (by omega)).trans (hg.block i hi hn)⟩

end Go.Proofs.YtoigembmbajopaaDoor
namespace Go.Proofs.YtoigembmbajopaaDoor
open Go.RowKit

/-- Records that a call made, each with runs of its own. -/
def RecsOwn (B : Nat) (A : List (Rc × Value)) (v : Value) (w : World) : Prop := w.ownsRow B 30 5 v A.length (cellsA A) ∧ ∀ a ∈ A, OwnRuns B a.1.runs a.2 w ∧ a.1.wf ∧ wfR a.1.runs
theorem RecsOwn.at_ {B : Nat} {A : List (Rc × Value)} {v : Value} {w : World} (h : RecsOwn B A v w) : RecsIn A v w := RecsIn.own h.1 (fun a ha => ⟨(h.2 a ha).1.at_ (h.2 a ha).2.2, (h.2 a ha).2.1⟩)
theorem RecsOwn.nil (B : Nat) (w : World) : RecsOwn B [] (.slice none 0 0) w := ⟨World.ownsRow_nil _ _ _ _, fun a ha => by cases ha⟩
theorem RecsOwn.stay {B : Nat} {A : List (Rc × Value)} {v : Value} {w w' : World} (h : RecsOwn B A v w) (hk : ∀ k cur T, B ≤ k → k < w.heap.size → w.heap[k]? = some (.cells cur T (0, 0)) → (T = 30 ∨ T = 83) → w'.heap[k]? = w.heap[k]?) : RecsOwn B A v w' := by
  refine ⟨own_stay h.1 (fun k e => ?_), fun a ha => ⟨own_stay (h.2 a ha).1 (fun k e => ?_), (h.2 a ha).2⟩⟩
  · obtain ⟨cur, hc⟩ := own_typ h.1 k e
    exact hk k cur _ (h.1.lt k e).1 (h.1.lt k e).2 hc (Or.inl rfl)
  · obtain ⟨cur, hc⟩ := own_typ (h.2 a ha).1 k e
    exact hk k cur _ ((h.2 a ha).1.lt k e).1 ((h.2 a ha).1.lt k e).2 hc (Or.inr rfl)
theorem RecsOwn.grown {B b : Nat} {A : List (Rc × Value)} {v : Value} {w w' : World} (h : RecsOwn B A v w) (hg : w.grownBy w' (some b)) (hb : b < B) : RecsOwn B A v w' :=
  h.stay (fun k _ _ hB hl _ _ => hg.block k hl (fun e => by have := Option.some.inj e; omega))
theorem RecsOwn.kept {B : Nat} {A : List (Rc × Value)} {v : Value} {w w' : World} (h : RecsOwn B A v w) (k : Kept w w') : RecsOwn B A v w' := h.stay (fun j _ _ _ hl _ _ => k.block j hl)
theorem RecsOwn.base {B C : Nat} {A : List (Rc × Value)} {v : Value} {w : World} (h : RecsOwn B A v w) (hC : C ≤ B) : RecsOwn C A v w := ⟨own_base h.1 hC, fun a ha => ⟨(h.2 a ha).1.base hC, (h.2 a ha).2⟩⟩
theorem rec_run : 30 ≠ 83 := by decide
theorem RecsOwn.app {B : Nat} {A : List (Rc × Value)} {v v' : Value} {w w' : World} {a : Rc × Value} {o : Obj} (h : RecsOwn B A v w) (ho : OwnRuns B a.1.runs a.2 w ∧ a.1.wf ∧ wfR a.1.runs) (h4 : w'.ownsRow B 30 5 v' (A.length + 1) (cellsA A ++ cellsA [a])) (hg : (w.alloc o).grownBy w' v.ownBlock) : RecsOwn B (A ++ [a]) v' w' := by
  have hk : ∀ (x : Rc × Value), OwnRuns B x.1.runs x.2 w → OwnRuns B x.1.runs x.2 w' := fun x hx => own_stay hx (fun k e => by
    have hl := (hx.lt k e).2
    obtain ⟨cur, hc⟩ := own_typ hx k e
    have hne : some k ≠ v.ownBlock := fun e2 => by
      obtain ⟨cur2, hc2⟩ := own_typ h.1 k e2.symm
      rw [hc] at hc2
      have := Option.some.inj hc2
      simp only [Obj.cells.injEq] at this
      exact rec_run this.2.1.symm
    rw [hg.block k (by simp; omega) hne, Below.heap_alloc _ _ _ hl])
  refine ⟨?_, fun x hx => ?_⟩
  · rw [cellsA_append, List.length_append]; exact h4
  · rcases List.mem_append.1 hx with y | y
    · exact ⟨hk x (h.2 x y).1, (h.2 x y).2⟩
    · rw [List.mem_singleton.1 y]; exact ⟨hk a ho.1, ho.2⟩

theorem takeR_short (s : RdSt) (n : Int) : (takeR s n).1.length ≤ s.1.length ∧ (takeR s n).2.1.length ≤ s.1.length := by
  unfold takeR
  split
  · exact ⟨Nat.zero_le _, Nat.le_refl _⟩
  · split
    · exact ⟨Nat.zero_le _, Nat.zero_le _⟩
    · split
      · exact ⟨Nat.zero_le _, Nat.zero_le _⟩
      · simp only [List.length_take, List.length_drop]; omega
theorem numR_short (s : RdSt) (k : Nat) : (numR s k).2.1.length ≤ s.1.length := (takeR_short s k).2
theorem textR_short (s : RdSt) : (textR s).1.length ≤ s.1.length := by
  unfold textR
  refine Nat.le_trans (takeR_short _ _).1 ?_
  unfold lenR
  split
  · exact Nat.zero_le _
  · exact numR_short s 4
theorem oneR_wf {s : RdSt} (h : s.1.length ≤ 1000000) : (oneR s).1.wf ∧ wfR (oneR s).1.runs ∧ (oneR s).1.runs.length ≤ 65536 := by
  have hI : (oneI s).1 < 4294967296 ∧ (oneI s).2.1.length ≤ 1000000 := by
    unfold oneI
    have := numR_short s 1
    split
    · have h1 := numR_lt (numR s 1).2 4
      have h2 := numR_short (numR s 1).2 4
      exact ⟨h1, by omega⟩
    · exact ⟨by simp, by simp only; omega⟩
  have hN : (oneN s).1.length ≤ 1000000 := by
    unfold oneN
    split
    · exact Nat.le_trans (textR_short _) hI.2
    · exact Nat.zero_le _
  have hB : ∀ k t, (0 ≤ (oneB k t).1.1 ∧ (oneB k t).1.1 < 4294967296) ∧ wfR (oneB k t).1.2 ∧ (oneB k t).1.2.length ≤ 65536 := fun k t => by
    unfold oneB
    split
    · have h1 := numR_lt t 4
      have h2 := numR_lt (numR t 4).2 2
      have h3 := runsR_len (numR (numR t 4).2 2).1 (numR (numR t 4).2 2).2 []
      refine ⟨by simp only; omega, runsR_wf _ _ _ wfR_nil, ?_⟩
      simp only
      simp only [List.length_nil] at h3
      omega
    · exact ⟨by simp, wfR_nil, Nat.zero_le _⟩
  have hk := numR_lt s 1
  unfold oneR
  simp only
  have hb := hB ((numR s 1).1 : Nat) (oneN s).2
  refine ⟨⟨?_, hI.1, ?_, ?_⟩, hb.2.1, hb.2.2⟩
  · unfold I64; simp only; omega
  · simp only; unfold maxLen; omega
  · have := hb.1; unfold I64; simp only; omega
theorem rendJ (b : Nat) (s : RdSt) (w : World) (h : RfAt b s w) :
    Calls Tryd.prog 98 #[.pointer (some ⟨b, 0, none⟩)] w fun e w' => e = .returned (.int .i64 (shutR s)) ∧ Kept w w' := (rend_any b s w h).mono fun _ _ ⟨a, n, hn⟩ => ⟨a, by rw [hn]; exact below_drewN (Below.refl _ w) n⟩
theorem infoRcJ : (Tryd.prog.info? 30).map (fun i => (i.zero, i.size, i.bytes)) = some (some (.agg #[.int .i64 0, .int .u32 0, .string ⟨#[]⟩, .int .i64 0, .slice none 0 0]), 5, 64) := by kernel_rfl

def RecordsPost (t : List UInt8) (w : World) (e : Ending) (w' : World) : Prop := Kept w w' ∧ ((recordsR t = none ∧ e = .returned (.tuple #[.slice none 0 0, .bool false])) ∨ ∃ A v, recordsR t = some (A.map Prod.fst) ∧ e = .returned (.tuple #[v, .bool true]) ∧ RecsOwn w.heap.size A v w')

set_option maxRecDepth 100000 in
set_option maxHeartbeats 16000000 in
theorem rrecords_any (t : ByteArray) (ht : t.size ≤ 1000000) (w : World) :
    Calls Tryd.prog 62 #[.string t] w (RecordsPost t.data.toList w) := by
  obtain ⟨ir, hir, hx⟩ := Option.map_eq_some_iff.1 infoRcJ
  simp only [Prod.mk.injEq] at hx
  obtain ⟨hz0, hz1, hz2⟩ := hx
  have HIR := Lib.hid hir
  have HZ0 := Lib.hid hz0
  have HZ1 := Lib.hid hz1
  have HZ2 := Lib.hid hz2
  obtain ⟨S, hS⟩ : ∃ S, S = t.data.toList := ⟨_, rfl⟩
  have hSl : S.length ≤ 1000000 := by rw [hS, data_len]; exact ht
  have hts : t = str S := by rw [hS, str_data]
  rw [← hS]
  obtain ⟨W1, hW1⟩ : ∃ W1, W1 = w.alloc (.cells #[.string t, .int .i64 0, .int .i64 0] 106) := ⟨_, rfl⟩
  have HW1 := Lib.hid hW1
  have hrd : RfAt w.heap.size (S, 0) W1 := by rw [hW1, hts]; exact ⟨S, 0, heap_alloc_last w _, rfl, Nat.zero_le _, hSl⟩
  have hk1 : Kept w W1 := by rw [hW1]; exact box_below _ _
  have HK1 := Lib.hid hk1
  have HW1s : Hid (W1.heap.size = w.heap.size + 1) := Lib.hid (by rw [hW1]; simp)
  obtain ⟨n, hn⟩ : ∃ n, n = (numR (S, 0) 2).1 := ⟨_, rfl⟩
  obtain ⟨s0, hs0⟩ : ∃ t, t = (numR (S, 0) 2).2 := ⟨_, rfl⟩
  have C0 := rnumJ w.heap.size (S, 0) 2 2 rfl (by omega) W1 hrd n hn s0 hs0
  have hn16 : n < 65536 := by rw [hn]; exact numR_lt (S, 0) 2
  have HREC : Hid (recordsR S = match recsR n s0 [] with | none => none | some (l, s) => if shutR s = 0 ∧ 1 ≤ n ∧ n ≤ 8192 then some l else none) := Lib.hid (by unfold recordsR; rw [← hn, ← hs0]; rfl)
  obtain ⟨FIN, hFIN⟩ : ∃ F, F = recsR n s0 [] := ⟨_, rfl⟩
  rw [← hFIN] at HREC
  have HFIN : Hid (recsR n s0 [] = FIN) := Lib.hid hFIN.symm
  have hsl : s0.1.length ≤ 1000000 := by rw [hs0]; exact Nat.le_trans (numR_short _ _) hSl
  have HN16 := Lib.hid hn16
  obtain ⟨br, hbr⟩ : ∃ br, br = w.heap.size := ⟨_, rfl⟩
  have HBR := Lib.hid hbr
  rw [← hbr] at C0
  clear hir hz0 hz1 hz2 hW1 hrd hk1 hn hs0 hFIN hts hS ht hSl hsl hbr
  go_enter Tryd.func62, Tryd.ntmps62
  go_wp2_with fail
  rw [← HW1.out, ← HBR.out]
  refine C0.mono ?_
  rintro e w1 ⟨rfl, h1, h2⟩
  have H1 := Lib.hid h1
  have K1 : Hid (Kept w w1) := Lib.hid (below_touch (show Below w.heap.size w W1 from HK1.out) h2 HK1.out.size (Nat.le_of_eq HBR.out.symm))
  have HB1 : Hid (br < W1.heap.size ∧ W1.heap.size ≤ w1.heap.size) := Lib.hid ⟨by have := HW1s.out; have := HBR.out; omega, h2.size⟩
  obtain ⟨B, hB⟩ : ∃ B, B = W1.heap.size := ⟨_, rfl⟩
  rw [← hB] at HB1
  have HBW : Hid (w.heap.size ≤ B) := Lib.hid (by rw [hB]; exact HK1.out.size)
  clear C0 h1 h2 HK1 HW1s hB
  go_wp2
  go_loopg [6, 7] n (fun gh v y wr => ∃ (k : Nat) (A : List (Rc × Value)) (s' : RdSt), k + gh = n ∧ y = .int .u64 k ∧ A.length ≤ k ∧ Hid (RecsOwn B A v wr) ∧ Hid (RfAt br s' wr) ∧ Hid (Kept w wr) ∧ Hid (B ≤ wr.heap.size) ∧ Hid (recsR gh s' (A.map Prod.fst) = FIN))
  case atStart => exact ⟨0, [], s0, by omega, rfl, Nat.le_refl _, Lib.hid (RecsOwn.nil _ _), H1, K1, Lib.hid HB1.out.2, HFIN⟩
  case round =>
    obtain ⟨k, A, s', hk, rfl, hA, HO, H1, HK, HBS, HG⟩ := hrel
    obtain ⟨pv, cv, hv, -, -⟩ := own_slice HO.out.1
    subst hv
    have hc2 : wr.cell? ⟨br, 2, none⟩ = some (.int .i64 s'.2) := by obtain ⟨_, _, hin, _⟩ := H1.out; exact hin.c2
    obtain ⟨e', he'⟩ : ∃ e', e' = s'.2 := ⟨_, rfl⟩
    rw [← he'] at hc2
    have HE := Lib.hid he'
    clear he'
    by_cases hlt : k < n
    · have hki : (k : Int) < n := by omega
      have bk : decide ((k : Int) < (n : Int)) = true := by simpa using hki
      by_cases he : e' = 0
      · subst he
        have hwf := oneR_wf (s := s') H1.out.len
        have ON := rone_any br s' wr H1.out
        unfold OnePost at ON
        obtain ⟨x, hx⟩ : ∃ x, x = (oneR s').1 := ⟨_, rfl⟩
        obtain ⟨t', ht'⟩ : ∃ t, t = (oneR s').2 := ⟨_, rfl⟩
        rw [← hx, ← ht'] at ON
        rw [← hx] at hwf
        obtain ⟨g, rfl⟩ : ∃ g, gk = g + 1 := ⟨gk - 1, by omega⟩
        have HS : Hid ((mayR x → recsR g t' (A.map Prod.fst ++ [x]) = FIN) ∧ (¬ mayR x → FIN = none)) := Lib.hid (by
          have h := HG.out
          rw [recsR, if_neg (by rw [← HE.out]; decide), ← hx, ← ht'] at h
          exact ⟨fun hm => by rw [if_pos hm] at h; exact h, fun hm => by rw [if_neg hm] at h; exact h.symm⟩)
        obtain ⟨k1, hk1⟩ : ∃ k1, k1 = k + 1 := ⟨_, rfl⟩
        have v3 : IntKind.u64.wrap ((k : Int) + 1) = (k1 : Int) := by rw [show (k : Int) + 1 = (k1 : Int) by omega]; exact IntWalk.u64_in _ (by omega)
        have HKK : Hid (k1 = k + 1 ∧ k + (g + 1) = n ∧ A.length ≤ k) := Lib.hid ⟨hk1, hk, hA⟩
        have HWF := Lib.hid hwf
        clear hx ht' HG HE hk1 hwf hk hA
        go_wp2_with fail
        refine ON.mono ?_
        rintro e w2 ⟨tv, rfl, ho, h3, h4⟩
        obtain ⟨pt, ct, htv, -, -⟩ := own_slice ho
        have HO2 := Lib.hid (HO.out.grown h4 HB1.out.1)
        have HT2 : Hid (OwnRuns B x.runs tv w2) := Lib.hid (own_base ho HBS.out)
        have H3 := Lib.hid h3
        have HK2 : Hid (Kept w w2) := Lib.hid (below_touch (show Below w.heap.size w wr from HK.out) h4 HK.out.size (Nat.le_of_eq HBR.out.symm))
        have HBS2 : Hid (B ≤ w2.heap.size) := Lib.hid (Nat.le_trans HBS.out h4.size)
        have HRA : Hid (RecAt x tv w2) := Lib.hid ⟨ho.at_ HWF.out.2.1, HWF.out.1⟩
        have CM := fun W (kk : Kept w2 W) => rmay13_any x tv W (HRA.out.later kk) (by have := HWF.out.2.2; omega)
        subst htv
        clear ON ho h3 h4 HO HBS HK H1 hc2
        obtain ⟨rl, hrl⟩ : ∃ rl, rl = x.runs.length := ⟨_, rfl⟩
        obtain ⟨xk, hxk⟩ : ∃ q, q = x.kind := ⟨_, rfl⟩
        obtain ⟨xi, hxi⟩ : ∃ q, q = x.id := ⟨_, rfl⟩
        obtain ⟨xn, hxn⟩ : ∃ q, q = str x.name := ⟨_, rfl⟩
        obtain ⟨xz, hxz⟩ : ∃ q, q = x.size := ⟨_, rfl⟩
        unfold recV recC at CM ⊢
        rw [← hrl] at HT2 HRA
        rw [← hrl, ← hxk, ← hxi, ← hxn, ← hxz] at CM ⊢
        have HC : Hid ((recC x (.slice pt rl ct)).toList = [.int .i64 xk, .int .u32 (xi : Nat), .string xn, .int .i64 xz, .slice pt rl ct]) := Lib.hid (by unfold recC; rw [hxk, hxi, hxn, hxz])
        obtain ⟨mb, hmb⟩ : ∃ mb, mb = decide (mayR x) := ⟨_, rfl⟩
        rw [← hmb] at CM
        have HMB := Lib.hid hmb
        have KA2 : Kept w2 (w2.alloc (.cells #[.int .i64 xk, .int .u32 (xi : Nat), .string xn, .int .i64 xz, .slice pt rl ct] 30)) := box_below _ _
        have CM2 := CM _ KA2
        have HKA := Lib.hid KA2
        have f0 : (w2.alloc (.cells #[.int .i64 xk, .int .u32 (xi : Nat), .string xn, .int .i64 xz, .slice pt rl ct] 30)).cell? ⟨w2.heap.size, 0, none⟩ = some (.int .i64 xk) := by rw [cell_of_row _ _ _ _ _ _ (heap_alloc_last w2 _)]; rfl
        have f1 : (w2.alloc (.cells #[.int .i64 xk, .int .u32 (xi : Nat), .string xn, .int .i64 xz, .slice pt rl ct] 30)).cell? ⟨w2.heap.size, 1, none⟩ = some (.int .u32 (xi : Nat)) := by rw [cell_of_row _ _ _ _ _ _ (heap_alloc_last w2 _)]; rfl
        have f2 : (w2.alloc (.cells #[.int .i64 xk, .int .u32 (xi : Nat), .string xn, .int .i64 xz, .slice pt rl ct] 30)).cell? ⟨w2.heap.size, 2, none⟩ = some (.string xn) := by rw [cell_of_row _ _ _ _ _ _ (heap_alloc_last w2 _)]; rfl
        have f3 : (w2.alloc (.cells #[.int .i64 xk, .int .u32 (xi : Nat), .string xn, .int .i64 xz, .slice pt rl ct] 30)).cell? ⟨w2.heap.size, 3, none⟩ = some (.int .i64 xz) := by rw [cell_of_row _ _ _ _ _ _ (heap_alloc_last w2 _)]; rfl
        have f4 : (w2.alloc (.cells #[.int .i64 xk, .int .u32 (xi : Nat), .string xn, .int .i64 xz, .slice pt rl ct] 30)).cell? ⟨w2.heap.size, 4, none⟩ = some (.slice pt rl ct) := by rw [cell_of_row _ _ _ _ _ _ (heap_alloc_last w2 _)]; rfl
        clear hrl hxk hxi hxn hxz hmb KA2 CM
        go_wp2_with fail
        refine CM2.mono ?_
        rintro e w3 ⟨rfl, hb3⟩
        have e0 := Kept.cell hb3 f0
        have e1 := Kept.cell hb3 f1
        have e2 := Kept.cell hb3 f2
        have e3 := Kept.cell hb3 f3
        have e4 := Kept.cell hb3 f4
        have K23 : Hid (Kept w2 w3) := Lib.hid ((show Kept w2 _ from HKA.out).then hb3)
        clear f0 f1 f2 f3 f4 CM2 hb3
        cases mb with
        | false =>
          have HR : Hid (recordsR S = none) := Lib.hid (by rw [HREC.out, HS.out.2 (of_decide_eq_false HMB.out.symm)])
          clear e0 e1 e2 e3 e4
          go_wp2
          first | go_ret | go_ret2
          exact ⟨(show Kept w w2 from HK2.out).then K23.out, Or.inl ⟨HR.out, rfl⟩⟩
        | true =>
          have HO3 := Lib.hid (HO2.out.kept K23.out)
          have HT3 : Hid (OwnRuns B x.runs (.slice pt rl ct) w3) := Lib.hid (own_stay HT2.out (fun m hm => K23.out.block m (HT2.out.lt m hm).2))
          have HFL : Hid (FlatAt 5 1 (cellsA [(x, Value.slice pt rl ct)]) (.slice (some ⟨w3.heap.size, 0, none⟩) 1 1) (w3.alloc (.cells #[.int .i64 xk, .int .u32 (xi : Nat), .string xn, .int .i64 xz, .slice pt rl ct] 30))) := Lib.hid (by
            have h := FlatAt.new w3 30 5 1 1 #[.int .i64 xk, .int .u32 (xi : Nat), .string xn, .int .i64 xz, .slice pt rl ct] rfl (by intro y hy; simp at hy; rcases hy with rfl | rfl | rfl | rfl | rfl <;> rfl)
            have hc : cellsA [(x, Value.slice pt rl ct)] = [.int .i64 xk, .int .u32 (xi : Nat), .string xn, .int .i64 xz, .slice pt rl ct] := by
              show (recC x (.slice pt rl ct)).toList ++ [] = _
              rw [HC.out]; rfl
            rw [hc]
            exact h)
          have HK3 : Hid (Kept w w3) := Lib.hid ((show Kept w w2 from HK2.out).then K23.out)
          have H33 : Hid (RfAt br t' w3) := Lib.hid (H3.out.stayJ (K23.out.block br H3.out.lt))
          have HBS3 : Hid (B ≤ w3.heap.size) := Lib.hid (Nat.le_trans HBS2.out K23.out.size)
          clear HO2 HT2 HRA H3 HK2 HBS2 HKA
          go_wp2_with (at_builtin; refine wpList_append_flat rfl _ _ 22 rfl B 30 ir (.agg #[.int .i64 0, .int .u32 0, .string ⟨#[]⟩, .int .i64 0, .slice none 0 0]) 5 64 Tryd.underlying22 HIR.out HZ0.out HZ1.out HZ2.out rfl (by decide) _ _ _ rfl (HO3.out.1.alloc _) _ 1 (cellsA [(x, Value.slice pt rl ct)]) rfl HFL.out ?wa1 ?wa2 ?wa3 ?_)
          case wa1 => have := HKK.out; have := HN16.out; unfold maxLen; omega
          case wa2 => have := HKK.out; have := HN16.out; omega
          case wa3 => have := HBS3.out; simp; omega
          intro v' w4 hown4 hg4 _
          have HO4 : Hid (RecsOwn B (A ++ [(x, Value.slice pt rl ct)]) v' w4) := Lib.hid (HO3.out.app ⟨HT3.out, HWF.out.1, HWF.out.2.1⟩ hown4 hg4)
          have H34 : Hid (RfAt br t' w4) := Lib.hid (append_rd H33.out HB1.out.1 HO3.out.1 hg4)
          have HBS4 : Hid (B ≤ w4.heap.size) := Lib.hid (by have := hg4.size; have := HBS3.out; simp at *; omega)
          have HK4 : Hid (Kept w w4) := Lib.hid (by
            have h24 : w.grownBy w3 (some br) := grown_below HK3.out _
            refine ⟨hg4.os.trans HK3.out.os, hg4.tape.trans HK3.out.tape, hg4.output.trans HK3.out.output, by have := hg4.size; have := HK3.out.size; simp at *; omega, fun j hj => ?_⟩
            have hs := HK3.out.size
            have hbw := HBW.out
            rw [hg4.block j (by simp; omega) (fun e => by have := (HO3.out.1.lt j e.symm).1; omega), Below.heap_alloc _ _ _ (by omega)]
            exact HK3.out.block j hj)
          have HS2 : Hid (recsR g t' ((A ++ [(x, Value.slice pt rl ct)]).map Prod.fst) = FIN) := Lib.hid (by rw [List.map_append]; exact HS.out.1 (of_decide_eq_true HMB.out.symm))
          clear hown4 hg4 HO3 HT3 HFL H33 HBS3 HK3 e0 e1 e2 e3 e4 HS
          go_wp2
          go_roundg g
          · exact ⟨k1, A ++ [(x, Value.slice pt rl ct)], t', by have := HKK.out; omega, by first | rfl | (have := HKK.out; simp; omega), by have := HKK.out; simp; omega, HO4, H34, HK4, HBS4, HS2⟩
          · omega
      · have he2 : (e' == 0) = false := by simpa using he
        have HS : Hid (FIN = some (A.map Prod.fst, s')) := Lib.hid (by
          have h := HG.out
          obtain ⟨g, rfl⟩ : ∃ g, gk = g + 1 := ⟨gk - 1, by omega⟩
          rw [recsR, if_pos (by rw [← HE.out]; exact he)] at h
          exact h.symm)
        have HSH : Hid (shutR s' ≠ 0) := Lib.hid (by
          unfold shutR
          rw [if_neg (fun y => he (by rw [HE.out]; exact y.1)), ← HE.out]
          exact he)
        have HR : Hid (recordsR S = none) := Lib.hid (by rw [HREC.out, HS.out]; simp only; rw [if_neg (fun y => HSH.out y.1)])
        obtain ⟨q, hq⟩ : ∃ q, q = shutR s' := ⟨_, rfl⟩
        have EN := rendJ br s' wr H1.out
        rw [← hq] at EN
        have hq2 : (q != 0) = true := by rw [bne_iff_ne, hq]; exact HSH.out
        clear he HG HE hq
        go_wp2_with fail
        refine EN.mono ?_
        rintro e w2 ⟨rfl, hb2⟩
        have K2 := Lib.hid ((show Kept w wr from HK.out).then hb2)
        clear EN hb2
        go_wp2
        first | go_ret | go_ret2
        exact ⟨K2.out, Or.inl ⟨HR.out, rfl⟩⟩
    · have hki : ¬ (k : Int) < n := by omega
      have bk : decide ((k : Int) < (n : Int)) = false := by simpa using hki
      have HS : Hid (FIN = some (A.map Prod.fst, s')) := Lib.hid (by
        have h := HG.out
        rw [show gk = 0 by omega] at h
        exact h.symm)
      obtain ⟨q, hq⟩ : ∃ q, q = shutR s' := ⟨_, rfl⟩
      have EN := rendJ br s' wr H1.out
      rw [← hq] at EN
      have HQ : Hid (recordsR S = if q = 0 ∧ 1 ≤ n ∧ n ≤ 8192 then some (A.map Prod.fst) else none) := Lib.hid (by rw [HREC.out, HS.out, hq])
      clear HG HE hq hc2
      by_cases q0 : q = 0
      · have b1 : (q != 0) = false := by rw [bne_eq_false_iff_eq]; exact q0
        by_cases q1 : n < 1
        · have b2 : decide ((n : Int) < 1) = true := decide_eq_true (by omega)
          have HR : Hid (recordsR S = none) := Lib.hid (by rw [HQ.out, if_neg (by omega)])
          go_wp2_with fail
          refine EN.mono ?_
          rintro e w2 ⟨rfl, hb2⟩
          have K2 := Lib.hid ((show Kept w wr from HK.out).then hb2)
          clear EN hb2
          go_wp2
          first | go_ret | go_ret2
          exact ⟨K2.out, Or.inl ⟨HR.out, rfl⟩⟩
        · have b2 : decide ((n : Int) < 1) = false := decide_eq_false (by omega)
          by_cases q2 : (n : Int) > 8192
          · have b3 : decide ((n : Int) > 8192) = true := decide_eq_true q2
            have HR : Hid (recordsR S = none) := Lib.hid (by rw [HQ.out, if_neg (by omega)])
            go_wp2_with fail
            refine EN.mono ?_
            rintro e w2 ⟨rfl, hb2⟩
            have K2 := Lib.hid ((show Kept w wr from HK.out).then hb2)
            clear EN hb2
            go_wp2
            first | go_ret | go_ret2
            exact ⟨K2.out, Or.inl ⟨HR.out, rfl⟩⟩
          · have b3 : decide ((n : Int) > 8192) = false := decide_eq_false q2
            have HR : Hid (recordsR S = some (A.map Prod.fst)) := Lib.hid (by rw [HQ.out, if_pos (by omega)])
            go_wp2_with fail
            refine EN.mono ?_
            rintro e w2 ⟨rfl, hb2⟩
            have K2 := Lib.hid ((show Kept w wr from HK.out).then hb2)
            have HO2 := Lib.hid ((HO.out.kept hb2).base HBW.out)
            clear EN hb2 HO
            go_wp2
            first | go_ret | go_ret2
            exact ⟨K2.out, Or.inr ⟨A, _, HR.out, rfl, HO2.out⟩⟩
      · have b1 : (q != 0) = true := by rw [bne_iff_ne]; exact q0
        have HR : Hid (recordsR S = none) := Lib.hid (by rw [HQ.out, if_neg (fun y => q0 y.1)])
        go_wp2_with fail
        refine EN.mono ?_
        rintro e w2 ⟨rfl, hb2⟩
        have K2 := Lib.hid ((show Kept w wr from HK.out).then hb2)
        clear EN hb2
        go_wp2
        first | go_ret | go_ret2
        exact ⟨K2.out, Or.inl ⟨HR.out, rfl⟩⟩

end Go.Proofs.YtoigembmbajopaaDoor
namespace Go.Proofs.YtoigembmbajopaaDoor
open Go.RowKit

/-- Transactions that a call made. -/
def TxsOwn (B : Nat) (E : List (List (Rc × Value) × Value)) (v : Value) (w : World) : Prop := w.ownsRow B 22 1 v E.length (E.map Prod.snd) ∧ ∀ e ∈ E, RecsOwn B e.1 e.2 w
def txsOf (E : List (List (Rc × Value) × Value)) : List (List Rc) := E.map fun e => e.1.map Prod.fst
theorem TxsOwn.nil (B : Nat) (w : World) : TxsOwn B [] (.slice none 0 0) w := ⟨World.ownsRow_nil _ _ _ _, fun a ha => by cases ha⟩
theorem TxsOwn.one_ {B : Nat} {E : List (List (Rc × Value) × Value)} {v : Value} {w : World} (h : TxsOwn B E v w) : ∀ x ∈ E.map Prod.snd, x.oneCell' = true := fun x hx => by
  obtain ⟨e, he, rfl⟩ := List.mem_map.1 hx
  obtain ⟨p, c, hv, -, -⟩ := own_slice (h.2 e he).1
  rw [hv]
  rfl
theorem TxsOwn.at_ {B : Nat} {E : List (List (Rc × Value) × Value)} {v : Value} {w : World} (h : TxsOwn B E v w) : TxsAt (txsOf E) v w :=
  ⟨E.map Prod.snd, TxsIn.own (by unfold txsOf; rw [List.length_map]; exact h.1) (by unfold txsOf; rw [List.length_map, List.length_map]) h.one_ (fun i h1 h2 => by
    have hi : i < E.length := by simpa using h2
    simp only [txsOf, List.getElem_map]
    exact ⟨E[i].1, rfl, (h.2 _ (List.getElem_mem hi)).at_⟩)⟩
theorem TxsOwn.stay {B : Nat} {E : List (List (Rc × Value) × Value)} {v : Value} {w w' : World} (h : TxsOwn B E v w) (hk : ∀ k, B ≤ k → k < w.heap.size → w'.heap[k]? = w.heap[k]?) : TxsOwn B E v w' :=
  ⟨own_stay h.1 (fun k e => hk k (h.1.lt k e).1 (h.1.lt k e).2), fun e he => (h.2 e he).stay (fun k _ _ h1 h2 _ _ => hk k h1 h2)⟩
theorem TxsOwn.grown {B b : Nat} {E : List (List (Rc × Value) × Value)} {v : Value} {w w' : World} (h : TxsOwn B E v w) (hg : w.grownBy w' (some b)) (hb : b < B) : TxsOwn B E v w' :=
  h.stay (fun k hB hl => hg.block k hl (fun e => by have := Option.some.inj e; omega))
theorem TxsOwn.kept {B : Nat} {E : List (List (Rc × Value) × Value)} {v : Value} {w w' : World} (h : TxsOwn B E v w) (k : Kept w w') : TxsOwn B E v w' := h.stay (fun j _ hl => k.block j hl)
theorem TxsOwn.base {B C : Nat} {E : List (List (Rc × Value) × Value)} {v : Value} {w : World} (h : TxsOwn B E v w) (hC : C ≤ B) : TxsOwn C E v w := ⟨own_base h.1 hC, fun e he => (h.2 e he).base hC⟩
theorem recs_ne : 22 ≠ 30 ∧ 22 ≠ 83 := by decide
theorem TxsOwn.app {B : Nat} {E : List (List (Rc × Value) × Value)} {v v' : Value} {w w' : World} {a : List (Rc × Value) × Value} {o : Obj} (h : TxsOwn B E v w) (ho : RecsOwn B a.1 a.2 w) (h4 : w'.ownsRow B 22 1 v' (E.length + 1) (E.map Prod.snd ++ [a.2])) (hg : (w.alloc o).grownBy w' v.ownBlock) : TxsOwn B (E ++ [a]) v' w' := by
  have hk : ∀ (A : List (Rc × Value)) (u : Value), RecsOwn B A u w → RecsOwn B A u w' := fun A u hx => hx.stay (fun k cur T _ hl hc hT => by
    have hne : some k ≠ v.ownBlock := fun e2 => by
      obtain ⟨cur2, hc2⟩ := own_typ h.1 k e2.symm
      rw [hc] at hc2
      have := Option.some.inj hc2
      simp only [Obj.cells.injEq] at this
      rcases hT with x | x
      · exact recs_ne.1 (this.2.1.symm.trans x)
      · exact recs_ne.2 (this.2.1.symm.trans x)
    rw [hg.block k (by simp; omega) hne, Below.heap_alloc _ _ _ hl])
  refine ⟨?_, fun x hx => ?_⟩
  · rw [List.map_append, List.length_append]; exact h4
  · rcases List.mem_append.1 hx with y | y
    · exact hk _ _ (h.2 x y)
    · rw [List.mem_singleton.1 y]; exact hk _ _ ho

theorem rtakeJ (b : Nat) (s : RdSt) (k : Nat) (hk : k ≤ 1000000) (w : World) (h : RfAt b s w) (x : ByteArray) (hx : x = str (takeR s (k : Nat)).1) (t : RdSt) (ht : t = (takeR s (k : Nat)).2) :
    Calls Tryd.prog 61 #[.pointer (some ⟨b, 0, none⟩), .int .i64 (k : Nat)] w (RfPost b (.string x) t w) := by
  subst hx ht
  exact rtake_any b s k (wf_of_le _ (by omega) (by omega)) w h
theorem rleftJ (b : Nat) (s : RdSt) (w : World) (h : RfAt b s w) :
    Calls Tryd.prog 59 #[.pointer (some ⟨b, 0, none⟩)] w fun e w' => e = .returned (.int .i64 (s.1.length : Nat)) ∧ Kept w w' := (rleft_any b s w h).mono fun _ _ ⟨a, n, hn⟩ => ⟨a, by rw [hn]; exact below_drewN (Below.refl _ w) n⟩
theorem readG_step (n f : Nat) (T : List UInt8) (acc : List (List Rc)) (h : T.length ≠ 0) (a : Nat) (t1 : RdSt) (h1 : numR (T, 0) 4 = (a, t1)) (c : Nat) (t2 : RdSt) (h2 : numR t1 4 = (c, t2)) (x : List UInt8) (t3 : RdSt) (h3 : takeR t2 (a : Nat) = (x, t3)) :
    readG n (f + 1) T acc = if n < a then none else match recordsR x with | none => none | some l => if t3.2 ≠ 0 ∨ c ≠ moreN 0 x then none else readG n f t3.1 (acc ++ [l]) := by
  rw [readG, if_neg h, h1]
  simp only
  rw [h2]
  simp only
  rw [h3]
  rfl
theorem readG_less {T : List UInt8} {a : Nat} {t1 : RdSt} (h1 : numR (T, 0) 4 = (a, t1)) {c : Nat} {t2 : RdSt} (h2 : numR t1 4 = (c, t2)) {x : List UInt8} {t3 : RdSt} (h3 : takeR t2 (a : Nat) = (x, t3)) (h0 : t3.2 = 0) : t3.1.length + 8 ≤ T.length := by
  obtain ⟨g1, _, g2, g3⟩ := takeR_ok (s := t2) (n := (a : Nat)) (x := x) (l := t3.1) (by rw [h3, ← h0])
  obtain ⟨k1, k2⟩ := numR_ok (s := t1) (k := 4) (n := c) (l := t2.1) (by rw [h2, ← g1])
  obtain ⟨_, m2⟩ := numR_ok (s := (T, 0)) (k := 4) (n := a) (l := t1.1) (by rw [h1, ← k1])
  have m3 : T = leB 4 a ++ t1.1 := m2
  rw [m3, k2, g2]
  simp only [List.length_append, leB_len]
  omega
theorem infoRcs : (Tryd.prog.info? 22).map (fun i => (i.zero, i.size, i.bytes)) = some (some (.slice none 0 0), 1, 24) := by kernel_rfl

def ReadPost (t : List UInt8) (w : World) (e : Ending) (w' : World) : Prop := Kept w w' ∧ (((¬ ∃ L, JRd t L) ∧ e = .returned (.tuple #[.slice none 0 0, .bool false])) ∨ ∃ E v, JRd t (txsOf E) ∧ e = .returned (.tuple #[v, .bool true]) ∧ TxsOwn w.heap.size E v w')

set_option maxRecDepth 100000 in
set_option maxHeartbeats 16000000 in
theorem rread13_any (t : ByteArray) (ht : t.size ≤ 100000) (w : World) :
    Calls Tryd.prog 19 #[.string t] w (ReadPost t.data.toList w) := by
  obtain ⟨ir, hir, hx⟩ := Option.map_eq_some_iff.1 infoRcs
  simp only [Prod.mk.injEq] at hx
  obtain ⟨hz0, hz1, hz2⟩ := hx
  have HIR := Lib.hid hir
  have HZ0 := Lib.hid hz0
  have HZ1 := Lib.hid hz1
  have HZ2 := Lib.hid hz2
  obtain ⟨S, hS⟩ : ∃ S, S = t.data.toList := ⟨_, rfl⟩
  obtain ⟨n, hn⟩ : ∃ n, n = t.size := ⟨_, rfl⟩
  have hSl : S.length = n := by rw [hS, data_len, hn]
  have hts : t = str S := by rw [hS, str_data]
  rw [← hn] at ht
  have HTN : Hid (t.size = n) := Lib.hid hn.symm
  rw [← hS]
  obtain ⟨W1, hW1⟩ : ∃ W1, W1 = w.alloc (.cells #[.string t, .int .i64 0, .int .i64 0] 106) := ⟨_, rfl⟩
  have HW1 := Lib.hid hW1
  have H1 : Hid (RfAt w.heap.size (S, 0) W1) := Lib.hid (by rw [hW1, hts]; exact ⟨S, 0, heap_alloc_last w _, rfl, Nat.zero_le _, by omega⟩)
  have K1 : Hid (Kept w W1) := Lib.hid (by rw [hW1]; exact box_below _ _)
  obtain ⟨FIN, hFIN⟩ : ∃ F, F = readG n (n + 1) S [] := ⟨_, rfl⟩
  have HFIN : Hid (readG n (n + 1) S [] = FIN) := Lib.hid hFIN.symm
  have HJ : Hid (∀ L, FIN = some L ↔ JRd S L) := Lib.hid (fun L => by rw [hFIN, ← hSl]; exact readG_iff S L)
  obtain ⟨br, hbr⟩ : ∃ br, br = w.heap.size := ⟨_, rfl⟩
  have HBR := Lib.hid hbr
  rw [← hbr] at H1
  obtain ⟨B, hB⟩ : ∃ B, B = W1.heap.size := ⟨_, rfl⟩
  have HBB : Hid (br < B ∧ w.heap.size ≤ B ∧ B ≤ W1.heap.size) := Lib.hid (by rw [hB, hW1, World.size_alloc, hbr]; omega)
  have HSL : Hid (S.length = n) := Lib.hid hSl
  have HNB := Lib.hid ht
  have u0 : IntKind.u64.wrap (n : Int) = (n : Int) := IntWalk.u64_in _ (by omega)
  clear hir hz0 hz1 hz2 hW1 hFIN hts hS hSl hbr hB ht hn
  go_enter Tryd.func19, Tryd.ntmps19
  go_wp2
  rw [← HW1.out, ← HBR.out]
  go_loopg [4] (n + 1) (fun gh v wr => ∃ (T : List UInt8) (E : List (List (Rc × Value) × Value)), T.length < gh ∧ Hid (E.length + T.length ≤ n) ∧ Hid (TxsOwn B E v wr) ∧ Hid (RfAt br (T, 0) wr) ∧ Hid (Kept w wr) ∧ Hid (B ≤ wr.heap.size) ∧ Hid (readG n gh T (txsOf E) = FIN))
  case atStart => exact ⟨S, [], by rw [HSL.out]; omega, Lib.hid (by rw [HSL.out]; simp), Lib.hid (TxsOwn.nil _ _), H1, K1, Lib.hid HBB.out.2.2, HFIN⟩
  case round =>
    obtain ⟨T, E, hT, HET, HO, H1, HK, HBS, HG⟩ := hrel
    obtain ⟨pv, cv, hv, -, -⟩ := own_slice HO.out.1
    subst hv
    have LF := rleftJ br (T, 0) wr H1.out
    simp only at LF
    obtain ⟨tl, htl⟩ : ∃ tl, tl = T.length := ⟨_, rfl⟩
    rw [← htl] at LF hT
    have HTL := Lib.hid htl
    obtain ⟨g, rfl⟩ : ∃ g, gk = g + 1 := ⟨gk - 1, by omega⟩
    by_cases h0 : tl = 0
    · have b0 : decide ((tl : Int) > 0) = false := decide_eq_false (by omega)
      have HF : Hid (FIN = some (txsOf E)) := Lib.hid (by
        have h := HG.out
        rw [readG, if_pos (by rw [← htl]; exact h0)] at h
        exact h.symm)
      have HJR := Lib.hid ((HJ.out _).1 HF.out)
      clear htl HG
      go_wp2_with fail
      refine LF.mono ?_
      rintro e w2 ⟨rfl, hb2⟩
      have K2 := Lib.hid ((show Kept w wr from HK.out).then hb2)
      have HO2 := Lib.hid ((HO.out.kept hb2).base HBB.out.2.1)
      have H12 : RfAt br (T, 0) w2 := H1.out.stayJ (hb2.block br H1.out.lt)
      have hc2 : w2.cell? ⟨br, 2, none⟩ = some (.int .i64 0) := by obtain ⟨_, _, hin, _⟩ := H12; exact hin.c2
      clear LF hb2 H12 HO H1
      go_wp2
      go_quiet (fail)
      obtain ⟨W3, hW3⟩ : ∃ W3, W3 = w2.drewN nq := ⟨_, rfl⟩
      rw [← hW3]
      have hb3 : Below w2.heap.size w2 W3 := by rw [hW3]; exact below_drewN (Below.refl _ w2) _
      have K3 := Lib.hid ((show Kept w w2 from K2.out).then hb3)
      have HO3 := Lib.hid (HO2.out.kept hb3)
      clear hW3 hb3
      go_wp2
      first | go_ret | go_ret2
      exact ⟨K3.out, Or.inr ⟨E, _, HJR.out, rfl, HO3.out⟩⟩
    · have b0 : decide ((tl : Int) > 0) = true := decide_eq_true (by omega)
      obtain ⟨a, ha⟩ : ∃ a, a = (numR (T, 0) 4).1 := ⟨_, rfl⟩
      obtain ⟨t1, ht1⟩ : ∃ t, t = (numR (T, 0) 4).2 := ⟨_, rfl⟩
      have N1 := fun W (h : RfAt br (T, 0) W) => rnumJ br (T, 0) 4 4 rfl (by omega) W h a ha t1 ht1
      have p1 : numR (T, 0) 4 = (a, t1) := by rw [ha, ht1]
      obtain ⟨c, hc⟩ : ∃ c, c = (numR t1 4).1 := ⟨_, rfl⟩
      obtain ⟨t2, ht2⟩ : ∃ t, t = (numR t1 4).2 := ⟨_, rfl⟩
      have N2 := fun W (h : RfAt br t1 W) => rnumJ br t1 4 4 rfl (by omega) W h c hc t2 ht2
      have p2 : numR t1 4 = (c, t2) := by rw [hc, ht2]
      have hal : a < 256 ^ 4 := by rw [ha]; exact numR_lt _ 4
      have hcl : c < 256 ^ 4 := by rw [hc]; exact numR_lt _ 4
      obtain ⟨X, hX⟩ : ∃ X, X = (takeR t2 (a : Nat)).1 := ⟨_, rfl⟩
      obtain ⟨t3, ht3⟩ : ∃ t, t = (takeR t2 (a : Nat)).2 := ⟨_, rfl⟩
      have p3 : takeR t2 (a : Nat) = (X, t3) := by rw [hX, ht3]
      have hst := readG_step n g T (txsOf E) (by rw [← htl]; exact h0) a t1 p1 c t2 p2 X t3 p3
      have HST : Hid (FIN = if n < a then none else match recordsR X with | none => none | some l => if t3.2 ≠ 0 ∨ c ≠ moreN 0 X then none else readG n g t3.1 (txsOf E ++ [l])) := Lib.hid (HG.out.symm.trans hst)
      have HLS : Hid (t3.2 = 0 → t3.1.length + 8 ≤ tl) := Lib.hid (fun h => by rw [htl]; exact readG_less p1 p2 p3 h)
      have HXA : Hid (X.length ≤ a) := Lib.hid (by rw [hX]; exact takeR_le _ _)
      have u1 : IntKind.u64.wrap (a : Int) = (a : Int) := IntWalk.u64_in _ (by omega)
      have u2 : IntKind.i64.wrap (a : Int) = (a : Int) := IntWalk.i64_in _ (by omega)
      have HXD := Lib.hid hX
      have HT3D := Lib.hid ht3
      clear ha ht1 hc ht2 hX ht3 htl p1 p2 p3 hst HG
      go_wp2_with fail
      refine LF.mono ?_
      rintro e w2 ⟨rfl, hb2⟩
      have K2 := Lib.hid ((show Kept w wr from HK.out).then hb2)
      have HO2 := Lib.hid (HO.out.kept hb2)
      have HBS2 : Hid (B ≤ w2.heap.size) := Lib.hid (Nat.le_trans HBS.out hb2.size)
      have n1 := N1 w2 (H1.out.stayJ (hb2.block br H1.out.lt))
      unfold RfPost at n1
      clear LF hb2 HO H1 HK HBS N1
      go_wp2_with fail
      refine n1.mono ?_
      rintro e w3 ⟨rfl, hr3, hg3⟩
      have K3 : Hid (Kept w w3) := Lib.hid (below_touch (show Below w.heap.size w w2 from K2.out) hg3 K2.out.size (Nat.le_of_eq HBR.out.symm))
      have HO3 := Lib.hid (HO2.out.grown hg3 HBB.out.1)
      have HBS3 : Hid (B ≤ w3.heap.size) := Lib.hid (Nat.le_trans HBS2.out hg3.size)
      have n2 := N2 w3 hr3
      unfold RfPost at n2
      clear n1 hr3 hg3 HO2 K2 HBS2 N2
      go_wp2_with fail
      refine n2.mono ?_
      rintro e w4 ⟨rfl, hr4, hg4⟩
      have K4 : Hid (Kept w w4) := Lib.hid (below_touch (show Below w.heap.size w w3 from K3.out) hg4 K3.out.size (Nat.le_of_eq HBR.out.symm))
      have HO4 := Lib.hid (HO3.out.grown hg4 HBB.out.1)
      have HBS4 : Hid (B ≤ w4.heap.size) := Lib.hid (Nat.le_trans HBS3.out hg4.size)
      have HR4 := Lib.hid hr4
      clear n2 hr4 hg4 HO3 K3 HBS3
      by_cases hna : n < a
      · have b1 : decide ((a : Int) > (n : Int)) = true := decide_eq_true (by omega)
        have HF : Hid (FIN = none) := Lib.hid (by rw [HST.out, if_pos hna])
        have HNO : Hid (¬ ∃ L, JRd S L) := Lib.hid (fun ⟨L, hL⟩ => by have := (HJ.out L).2 hL; rw [HF.out] at this; cases this)
        have HT0 := HTN.out
        clear HST
        go_wp2
        first | go_ret | go_ret2
        exact ⟨K4.out, Or.inl ⟨HNO.out, rfl⟩⟩
      · have b1 : decide ((a : Int) > (n : Int)) = false := decide_eq_false (by omega)
        have HST2 : Hid (FIN = match recordsR X with | none => none | some l => if t3.2 ≠ 0 ∨ c ≠ moreN 0 X then none else readG n g t3.1 (txsOf E ++ [l])) := Lib.hid (by rw [HST.out, if_neg hna])
        have HXN : Hid (X.length ≤ 100000) := Lib.hid (by have := HXA.out; have := HNB.out; omega)
        have HT0 := HTN.out
        have TK := rtakeJ br t2 a (by have := HNB.out; omega) w4 HR4.out (str X) (by rw [HXD.out]) t3 HT3D.out
        unfold RfPost at TK
        clear HST HXD HT3D
        go_wp2_with fail
        refine TK.mono ?_
        rintro e w5 ⟨rfl, hr5, hg5⟩
        have K5 : Hid (Kept w w5) := Lib.hid (below_touch (show Below w.heap.size w w4 from K4.out) hg5 K4.out.size (Nat.le_of_eq HBR.out.symm))
        have HO5 := Lib.hid (HO4.out.grown hg5 HBB.out.1)
        have HBS5 : Hid (B ≤ w5.heap.size) := Lib.hid (Nat.le_trans HBS4.out hg5.size)
        have HR5 := Lib.hid hr5
        obtain ⟨x, hx⟩ : ∃ x, x = str X := ⟨_, rfl⟩
        have hxs : x.size = X.length := by rw [hx]; exact str_size X
        have hxl : x.data.toList = X := by rw [hx]; exact str_list X
        have RC := rrecords_any x (by have := HXN.out; omega) w5
        have SM := fun W => rsum_any x (by have := HXN.out; omega) W
        rw [hxl] at RC SM
        rw [← hx]
        obtain ⟨m, hm⟩ : ∃ m, m = moreN 0 X := ⟨_, rfl⟩
        have hml : m < 256 ^ 4 := by rw [hm]; exact moreN_lt X
        have u3 : IntKind.u64.wrap (m : Int) = (m : Int) := IntWalk.u64_in _ (by omega)
        rw [← hm] at SM
        have HM := Lib.hid hm
        have HXE := Lib.hid hx
        unfold RecordsPost at RC
        clear TK hr5 hg5 HO4 K4 HBS4 HR4 hx hxs hxl hm
        go_wp2_with fail
        refine RC.mono ?_
        rintro e w6 ⟨hb6, hcase⟩
        have K6 := Lib.hid ((show Kept w w5 from K5.out).then hb6)
        have HO6 := Lib.hid (HO5.out.kept hb6)
        have HBS6 : Hid (B ≤ w6.heap.size) := Lib.hid (Nat.le_trans HBS5.out hb6.size)
        have HR6 : Hid (RfAt br t3 w6) := Lib.hid (HR5.out.stayJ (hb6.block br HR5.out.lt))
        have hc2 : w6.cell? ⟨br, 2, none⟩ = some (.int .i64 t3.2) := by obtain ⟨_, _, hin, _⟩ := HR6.out; exact hin.c2
        obtain ⟨e3, he3⟩ : ∃ q, q = t3.2 := ⟨_, rfl⟩
        rw [← he3] at hc2
        have HE3 := Lib.hid he3
        rcases hcase with ⟨hrn, rfl⟩ | ⟨A, v, hrs, rfl, hro⟩
        · have HF : Hid (FIN = none) := Lib.hid (by rw [HST2.out, hrn])
          have HNO : Hid (¬ ∃ L, JRd S L) := Lib.hid (fun ⟨L, hL⟩ => by have := (HJ.out L).2 hL; rw [HF.out] at this; cases this)
          clear hrn RC hb6 he3 HST2
          by_cases h3 : e3 = 0
          · have b2 : (e3 != 0) = false := by rw [bne_eq_false_iff_eq]; exact h3
            go_wp2
            first | go_ret | go_ret2
            exact ⟨K6.out, Or.inl ⟨HNO.out, rfl⟩⟩
          · have b2 : (e3 != 0) = true := by rw [bne_iff_ne]; exact h3
            go_wp2
            first | go_ret | go_ret2
            exact ⟨K6.out, Or.inl ⟨HNO.out, rfl⟩⟩
        · have HST3 : Hid (FIN = if t3.2 ≠ 0 ∨ c ≠ moreN 0 X then none else readG n g t3.1 (txsOf E ++ [A.map Prod.fst])) := Lib.hid (by rw [HST2.out, hrs])
          have HA : Hid (RecsOwn w5.heap.size A v w6) := Lib.hid hro
          obtain ⟨pw, cw, hw, -, -⟩ := own_slice hro.1
          clear hrs RC hb6 he3 HST2 hro
          by_cases h3 : e3 = 0
          · have b2 : (e3 != 0) = false := by rw [bne_eq_false_iff_eq]; exact h3
            by_cases h4 : c = m
            · have b3 : ((c : Int) != (m : Int)) = false := by rw [bne_eq_false_iff_eq, h4]
              have HTT : Hid (t3 = (t3.1, 0)) := Lib.hid (by rw [← h3, HE3.out])
              have HF : Hid (readG n g t3.1 (txsOf E ++ [A.map Prod.fst]) = FIN) := Lib.hid (by
                rw [HST3.out, if_neg]
                rintro (h | h)
                · exact h (HE3.out.symm.trans h3)
                · exact h (h4.trans HM.out))
              have SM6 := SM w6
              have HAB := Lib.hid ((HA.out.base HBS5.out))
              clear HST3 SM HA
              subst hw
              go_wp2_with fail
              refine SM6.mono ?_
              rintro e w7 ⟨rfl, hb7⟩
              have K7 := Lib.hid ((show Kept w w6 from K6.out).then hb7)
              have HO7 := Lib.hid (HO6.out.kept hb7)
              have HA7 := Lib.hid (HAB.out.kept hb7)
              have HBS7 : Hid (B ≤ w7.heap.size) := Lib.hid (Nat.le_trans HBS6.out hb7.size)
              have HR7 : Hid (RfAt br t3 w7) := Lib.hid (HR6.out.stayJ (hb7.block br HR6.out.lt))
              clear SM6 hb7 HO6 HAB HBS6 HR6 K6 hc2
              have HFL : Hid (FlatAt 1 1 [Value.slice pw A.length cw] (.slice (some ⟨w7.heap.size, 0, none⟩) 1 1) (w7.alloc (.cells #[.slice pw A.length cw] 22))) := Lib.hid (FlatAt.new w7 22 1 1 1 #[.slice pw A.length cw] rfl (by intro y hy; simp at hy; subst hy; rfl))
              go_wp2_with (at_builtin; refine wpList_append_flat rfl _ _ 36 rfl B 22 ir (.slice none 0 0) 1 24 Tryd.underlying36 HIR.out HZ0.out HZ1.out HZ2.out rfl (by decide) _ _ _ rfl (HO7.out.1.alloc _) _ 1 [Value.slice pw A.length cw] rfl HFL.out ?wa1 ?wa2 ?wa3 ?_)
              case wa1 => have := HET.out; have := HNB.out; unfold maxLen; omega
              case wa2 => have := HET.out; have := HNB.out; omega
              case wa3 => have := HBS7.out; simp; omega
              intro v' w8 hown8 hg8 _
              have HO8 : Hid (TxsOwn B (E ++ [(A, Value.slice pw A.length cw)]) v' w8) := Lib.hid (HO7.out.app HA7.out hown8 hg8)
              have HR8 : Hid (RfAt br t3 w8) := Lib.hid (append_rd HR7.out HBB.out.1 HO7.out.1 hg8)
              have HBS8 : Hid (B ≤ w8.heap.size) := Lib.hid (by have := hg8.size; have := HBS7.out; simp at *; omega)
              have HK8 : Hid (Kept w w8) := Lib.hid (by
                refine ⟨hg8.os.trans K7.out.os, hg8.tape.trans K7.out.tape, hg8.output.trans K7.out.output, by have := hg8.size; have := K7.out.size; simp at *; omega, fun j hj => ?_⟩
                have hs := K7.out.size
                have hbw := HBB.out.2.1
                rw [hg8.block j (by simp; omega) (fun e => by have := (HO7.out.1.lt j e.symm).1; omega), Below.heap_alloc _ _ _ (by omega)]
                exact K7.out.block j hj)
              have HF8 : Hid (readG n g t3.1 (txsOf (E ++ [(A, Value.slice pw A.length cw)])) = FIN) := Lib.hid (by unfold txsOf at HF ⊢; rw [List.map_append]; exact HF.out)
              have HL8 : Hid (t3.1.length + 8 ≤ tl) := Lib.hid (HLS.out (HE3.out.symm.trans h3))
              have HET8 := Lib.hid hT
              clear hown8 hg8 HO7 HA7 HFL HR7 HBS7 K7 HF
              go_wp2
              go_roundg g
              · refine ⟨t3.1, E ++ [(A, Value.slice pw A.length cw)], ?_, Lib.hid ?_, HO8, Lib.hid ?_, HK8, HBS8, HF8⟩
                · have := HL8.out; have := HET8.out; omega
                · have := HL8.out; have := HET.out; have := HTL.out; simp only [List.length_append, List.length_cons, List.length_nil]; omega
                · have := HR8.out; rw [HTT.out] at this; exact this
              · omega
            · have b3 : ((c : Int) != (m : Int)) = true := by rw [bne_iff_ne]; omega
              have HF : Hid (FIN = none) := Lib.hid (by rw [HST3.out, if_pos (Or.inr (fun y => h4 (y.trans HM.out.symm)))])
              have HNO : Hid (¬ ∃ L, JRd S L) := Lib.hid (fun ⟨L, hL⟩ => by have := (HJ.out L).2 hL; rw [HF.out] at this; cases this)
              have SM6 := SM w6
              clear HST3 SM
              subst hw
              go_wp2_with fail
              refine SM6.mono ?_
              rintro e w7 ⟨rfl, hb7⟩
              have K7 := Lib.hid ((show Kept w w6 from K6.out).then hb7)
              clear SM6 hb7 hc2
              go_wp2
              first | go_ret | go_ret2
              exact ⟨K7.out, Or.inl ⟨HNO.out, rfl⟩⟩
          · have b2 : (e3 != 0) = true := by rw [bne_iff_ne]; exact h3
            have HF : Hid (FIN = none) := Lib.hid (by rw [HST3.out, if_pos (Or.inl (fun y => h3 (HE3.out.trans y)))])
            have HNO : Hid (¬ ∃ L, JRd S L) := Lib.hid (fun ⟨L, hL⟩ => by have := (HJ.out L).2 hL; rw [HF.out] at this; cases this)
            clear HST3
            subst hw
            go_wp2
            first | go_ret | go_ret2
            exact ⟨K6.out, Or.inl ⟨HNO.out, rfl⟩⟩

end Go.Proofs.YtoigembmbajopaaDoor
