/- What Put is made of besides: Fill, Seal; a builder that stands among other boxes. The landed journal's Tx. -/
import Derived.Test.YtoigembmbajopaaDoorGU
import Derived.Test.YtoigembmbajopaaDoorGV
import Derived.Test.YtoigembmbajopaaDoorShelf
import Derived.Lib.AppendStr
import Derived.Lib.Builder
namespace Go.Proofs.YtoigembmbajopaaDoor
open Go.RowKit

/-- A text filled with zero bytes up to a length. -/
def fillB (s : ByteArray) (n : Int) : ByteArray := s ++ str (List.replicate (n - s.size).toNat 0)

theorem repeat_zero (k : Nat) : Lib.repeatL [0] k = List.replicate k 0 := by
  induction k with
  | zero => rfl
  | succ k ih => simp [Lib.repeatL, List.replicate_succ, ih]

theorem fillB_same (s : ByteArray) (n : Int) (h : n ≤ s.size) : fillB s n = s := by
  have : (n - s.size).toNat = 0 := by omega
  unfold fillB
  rw [this]
  apply ByteArray.ext
  simp [str, ByteArray.data_append]

theorem fill_any (s : ByteArray) (n : Int) (hn : n ≤ 5000) (w : World) :
    Calls Tryd.prog 102 #[.string s, .int .i64 n] w fun e w' => e = .returned (.string (fillB s n)) ∧ Below w.heap.size w w' := by
  by_cases h : n ≤ s.size
  · have e := fillB_same s n h
    go_enter Tryd.func102, Tryd.ntmps102
    go_wp2
    go_ret
    exact ⟨by first | rfl | (rw [e]; rfl), Below.refl _ _⟩
  · obtain ⟨k, hk⟩ : ∃ k : Nat, n = s.size + k := ⟨(n - s.size).toNat, by omega⟩
    subst hk
    have e : fillB s (s.size + k) = s ++ str (List.replicate k 0) := by
      unfold fillB; congr 3; omega
    have hz : (str (List.replicate k 0)).size = k := by simp [str_size]
    have es : (s.size : Int) + (k : Int) - (s.size : Int) = k := by omega
    have er : (⟨(Lib.repeatL (⟨#[0]⟩ : ByteArray).data.toList k).toArray⟩ : ByteArray) = str (List.replicate k 0) := by
      rw [show (⟨#[0]⟩ : ByteArray).data.toList = [0] from rfl, repeat_zero]; rfl
    go_enter Tryd.func102, Tryd.ntmps102
    go_wp2_with (go_at_call 118; fail)
    refine (Tryd.strings_Repeat _ k _ ?_ ?_).mono ?_
    · omega
    · show 1 * k ≤ _
      omega
    rw [er]
    rintro e' w' ⟨rfl, hb⟩
    go_wp2
    go_ret
    exact ⟨by first | rfl | (rw [e]; rfl), hb⟩

/-- A text with its sum behind it. -/
def sealed (s : ByteArray) : ByteArray := s ++ str (leB 4 (moreN 0 s.data.toList))

theorem sealed_size (s : ByteArray) : (sealed s).size = s.size + 4 := by
  unfold sealed
  rw [ByteArray.size_append, str_size, leB_len]

theorem sealed_list (s : ByteArray) : (sealed s).data.toList = s.data.toList ++ leB 4 (moreN 0 s.data.toList) := by
  unfold sealed
  rw [ByteArray.data_append, Array.toList_append, str_list]

theorem moreN_le (n : Nat) (l : List UInt8) : moreN n l ≤ 4294967295 := by
  have := more_lt n l
  unfold top32 at this
  omega

/-- All but the block xb and the rows of bytes stays. -/
structure KeptBut (xb : Nat) (w w' : World) : Prop where
  os : w'.os = w.os
  tape : w'.tape = w.tape
  output : w'.output = w.output
  size : w.heap.size ≤ w'.heap.size
  block : ∀ k, k < w.heap.size → k ≠ xb → (∀ cur fz, w.heap[k]? ≠ some (.cells cur 5 fz)) → w'.heap[k]? = w.heap[k]?

theorem KeptBut.refl (xb : Nat) (w : World) : KeptBut xb w w := ⟨rfl, rfl, rfl, Nat.le_refl _, fun _ _ _ _ => rfl⟩
theorem KeptBut.trans {xb : Nat} {a b c : World} (h : KeptBut xb a b) (h2 : KeptBut xb b c) : KeptBut xb a c :=
  ⟨h2.os.trans h.os, h2.tape.trans h.tape, h2.output.trans h.output, Nat.le_trans h.size h2.size, fun k hk hne hb => by
    have e := h.block k hk hne hb
    rw [h2.block k (Nat.lt_of_lt_of_le hk h.size) hne (by rw [e]; exact hb), e]⟩
theorem KeptBut.below {xb : Nat} {w w' : World} (h : Below w.heap.size w w') : KeptBut xb w w' := ⟨h.os, h.tape, h.output, h.size, fun k hk _ _ => h.block k hk⟩
theorem KeptBut.grown {xb : Nat} {w w' : World} (h : w.grownBy w' (some xb)) : KeptBut xb w w' := ⟨h.os, h.tape, h.output, h.size, fun k hk hne _ => h.block k hk (fun e => hne (Option.some.inj e))⟩
theorem KeptBut.bytes {xb : Nat} {w w' : World} {B n : Nat} {v : Value} {xs : List Value} (hown : w.ownsRow B 5 1 v n xs) (h : w.grownBy w' v.ownBlock) : KeptBut xb w w' :=
  ⟨h.os, h.tape, h.output, h.size, fun k hk _ hb => h.block k hk (fun e => by
    rcases hown.2 with ⟨rfl, _⟩ | ⟨g, cap, cur, rfl, _, hg, _⟩
    · simp [Value.ownBlock] at e
    · simp only [Value.ownBlock, Option.some.injEq] at e
      subst e
      exact hb cur _ hg)⟩
theorem KeptBut.heap {xb : Nat} {w w' : World} (h : KeptBut xb w w') {k : Nat} {cs : Array Value} {T : TypeId} {fr : Nat × Nat} (hg : w.heap[k]? = some (.cells cs T fr)) (hne : k ≠ xb) (hT : T ≠ 5) : w'.heap[k]? = some (.cells cs T fr) := by
  rw [h.block k (Array.getElem?_eq_some_iff.1 hg).1 hne (fun cur fz e => by rw [hg] at e; injection e with e; injection e with _ e2 _; exact hT e2)]
  exact hg

theorem infoBuilder : (Tryd.prog.info? 86).map (·.size) = some 2 := by kernel_rfl
theorem liesBuilder : liesAt Tryd.prog Tryd.prog.depth 86 (2 / Tryd.prog.cellsOf 86) 0 86 1 = true := by kernel_rfl
theorem infoByte : (Tryd.prog.info? 5).map (fun i => (i.zero, i.size, i.bytes)) = some (some (.int .u8 0), 1, 1) := by kernel_rfl

set_option maxHeartbeats 1000000 in
set_option maxRecDepth 100000 in
theorem bcheck_any (b : Nat) (p v : Value) (w : World) (hg : w.heap[b]? = some (.cells #[p, v] 86 (0, 0))) (hp : p = .pointer none ∨ p = .pointer (some ⟨b, 0, none⟩)) :
    Calls Tryd.prog 82 #[.pointer (some ⟨b, 0, none⟩)] w fun e w' => e = .returned (.tuple #[]) ∧ w'.heap[b]? = some (.cells #[.pointer (some ⟨b, 0, none⟩), v] 86 (0, 0)) ∧ w.grownBy w' (some b) := by
  have c1 : w.cell? ⟨b, 0, none⟩ = some p := (cell_of_row _ _ _ _ _ _ hg).trans rfl
  rcases hp with rfl | rfl
  · have hgx := heap_setCell_same w b 0 _ 86 (.pointer (some ⟨b, 0, none⟩)) hg
    have f1 : w.frozen? ⟨b, 0, none⟩ = false := frozen_of_row _ _ _ _ _ hg
    have hsh : w.shape? b = some (86, 2) := by simp [World.shape?, hg]
    obtain ⟨j, hj, hjs⟩ := Option.map_eq_some_iff.1 infoBuilder
    have HJ := Lib.hid hj
    have HSH := Lib.hid hsh
    have HGX := Lib.hid hgx
    clear hg hj hsh hgx
    go_enter Tryd.func82, Tryd.ntmps82
    go_wp2
    rw [Lib.run_to_unsafe w ⟨b, 0, none⟩ Tryd.underlying84 Tryd.underlying149 HJ.out (by rw [hjs]; decide) HSH.out (show 0 < 2 by decide)]
    simp only [Result.andThen]
    rw [Oper.upon_value]
    go_wp2
    rw [run_callFunc_extern Tryd.func109 (by kernel_rfl) (by kernel_rfl) (by kernel_rfl) (e := Extern.AbiNoEscape.same) (by kernel_rfl)]
    rw [Lib.run_noEscape]
    simp only [Result.andThen]
    rw [Oper.upon_value]
    go_wp2
    rw [Lib.run_from_unsafe w ⟨b, 0, none⟩ Tryd.underlying149 Tryd.underlying84 HJ.out HSH.out liesBuilder]
    simp only [Result.andThen]
    rw [Oper.upon_value]
    go_wp2
    go_end0
    exact ⟨rfl, HGX.out, grown_set _ _ _ _⟩
  · obtain ⟨j, hj, hjs⟩ := Option.map_eq_some_iff.1 infoBuilder
    have HJ := Lib.hid hj
    have HG := Lib.hid hg
    clear hj hg
    go_enter Tryd.func82, Tryd.ntmps82
    go_wp2
    rw [Lib.run_neq_ptr_same w _ Tryd.underlying84 HJ.out]
    go_wp2
    go_end0
    exact ⟨rfl, HG.out, grown_refl _ _⟩

/-- A builder and its bytes. -/
def BldAt (B b : Nat) (l : List UInt8) (w : World) : Prop := Lib.IsBuilder 86 5 B b (Lib.byteCells l) w
theorem BldAt.row {B b : Nat} {l : List UInt8} {w : World} (h : BldAt B b l w) : ∃ p v, B ≤ b ∧ w.heap[b]? = some (.cells #[p, v] 86 (0, 0)) ∧ (p = .pointer none ∨ p = .pointer (some ⟨b, 0, none⟩)) ∧ w.ownsRow B 5 1 v l.length (Lib.byteCells l) ∧ v.ownBlock ≠ some b := by
  rcases h with ⟨h1, v, h2, h3, h4⟩ | ⟨h1, v, h2, h3, h4⟩
  · exact ⟨_, v, h1, h2, Or.inl rfl, by rw [Lib.byteCells_length] at h3; exact h3, h4⟩
  · exact ⟨_, v, h1, h2, Or.inr rfl, by rw [Lib.byteCells_length] at h3; exact h3, h4⟩
theorem BldAt.of {B b : Nat} {l : List UInt8} {w : World} {v : Value} (h1 : B ≤ b) (h2 : w.heap[b]? = some (.cells #[.pointer (some ⟨b, 0, none⟩), v] 86 (0, 0))) (h3 : w.ownsRow B 5 1 v l.length (Lib.byteCells l)) (h4 : v.ownBlock ≠ some b) : BldAt B b l w :=
  Or.inr ⟨h1, v, h2, by rw [Lib.byteCells_length]; exact h3, h4⟩
theorem BldAt.later {B b : Nat} {l : List UInt8} {w w' : World} (h : BldAt B b l w) (k : Kept w w') : BldAt B b l w' := by
  rcases h with ⟨h1, v, h2, h3, h4⟩ | ⟨h1, v, h2, h3, h4⟩
  · exact Or.inl ⟨h1, v, k.row h2, h3.kept (row := none) (grown_below k none) (Classical.em _), h4⟩
  · exact Or.inr ⟨h1, v, k.row h2, h3.kept (row := none) (grown_below k none) (Classical.em _), h4⟩

set_option maxHeartbeats 2000000 in
set_option maxRecDepth 100000 in
theorem bwrite_any (B b : Nat) (l : List UInt8) (s : ByteArray) (w : World) (hs : l.length + s.size ≤ 1000000) (hBw : B ≤ w.heap.size) (hc : BldAt B b l w) :
    Calls Tryd.prog 47 #[.pointer (some ⟨b, 0, none⟩), .string s] w fun e w' => e = .returned (.tuple #[.int .i64 s.size, .nilIface]) ∧ BldAt B b (l ++ s.data.toList) w' ∧ Below B w w' ∧ KeptBut b w w' := by
  obtain ⟨p, v, hB, hg, hp, hown, hne⟩ := hc.row
  have CC := bcheck_any b p v w hg hp
  obtain ⟨i0, hi, hz0⟩ := Option.map_eq_some_iff.1 infoByte
  simp only [Prod.mk.injEq] at hz0
  obtain ⟨hz0, hz1, hz2⟩ := hz0
  have HI := Lib.hid hi
  have HZ0 := Lib.hid hz0
  have HZ1 := Lib.hid hz1
  have HZ2 := Lib.hid hz2
  have HOW := Lib.hid hown
  have HNE := Lib.hid hne
  clear hi hz0 hz1 hz2 hg hp hown hne hc
  go_enter Tryd.func47, Tryd.ntmps47
  go_wp2_with fail
  refine CC.mono ?_
  rintro e w1 ⟨rfl, hg1, hG1⟩
  have hown1 := HOW.out.kept hG1 (Or.inr HNE.out)
  have c2 : w1.cell? ⟨b, 1, none⟩ = some v := (cell_of_row _ _ _ _ _ _ hg1).trans rfl
  have K1 := below_touch (Below.refl B w) (by exact hG1) hBw hB
  have hsz1 := hG1.size
  have HO1 := Lib.hid hown1
  have HG1 := Lib.hid hg1
  clear hown1 hg1
  go_wp2_with (at_builtin; refine Lib.wpList_append_own_string _ rfl _ _ 46 9 rfl B 5 i0 Tryd.underlying46 Tryd.underlying9 HI.out HZ0.out HZ1.out HZ2.out _ _ _ rfl HO1.out s rfl ?c3 ?c4 ?c5 ?_)
  case c3 => unfold maxLen; omega
  case c4 => omega
  case c5 => omega
  intro v' w2 hown2 hgrow _
  have hb2 : w2.heap[b]? = some (.cells #[.pointer (some ⟨b, 0, none⟩), v] 86 (0, 0)) := by
    rw [hgrow.block b (Array.getElem?_eq_some_iff.1 HG1.out).1 (fun e => HNE.out e.symm)]
    exact HG1.out
  have d2 : w2.cell? ⟨b, 1, none⟩ = some v := (cell_of_row _ _ _ _ _ _ hb2).trans rfl
  have f2 : w2.frozen? ⟨b, 1, none⟩ = false := frozen_of_row _ _ _ _ _ hb2
  have hg3 := heap_setCell_same w2 b 1 _ 86 v' hb2
  have hne3 : v'.ownBlock ≠ some b := Lib.ownBlock_ne hown2 hb2 (by decide)
  have hown3 := hown2.kept (grown_set w2 b 1 v') (Or.inr hne3)
  have hll : (l ++ s.data.toList).length = l.length + s.size := by rw [List.length_append, data_len]
  have hbc : Lib.byteCells (l ++ s.data.toList) = Lib.byteCells l ++ Lib.strCells s := by rw [Lib.byteCells_append, Lib.strCells_eq]
  have hC : BldAt B b (l ++ s.data.toList) (w2.setCell ⟨b, 1, none⟩ v') := BldAt.of hB hg3 (by rw [hll, hbc]; exact hown3) hne3
  have hK : KeptBut b w (w2.setCell ⟨b, 1, none⟩ v') := (KeptBut.grown hG1).trans ((KeptBut.bytes HO1.out hgrow).trans (KeptBut.grown (grown_set _ _ _ _)))
  have hKB : Below B w (w2.setCell ⟨b, 1, none⟩ v') := (K1.grown hgrow (by omega) (fun k hk => (HO1.out.lt k hk).1)).setCell (p := ⟨b, 1, none⟩) hB _
  obtain ⟨ao, n', cap, rfl⟩ : ∃ ao n' cap, v' = .slice ao n' cap := by
    rcases hown2.2 with ⟨hv, _⟩ | ⟨g, cap, cur, hv, _⟩
    · exact ⟨_, _, _, hv⟩
    · exact ⟨_, _, _, hv⟩
  have HC := Lib.hid hC
  have HK := Lib.hid hK
  have HKB := Lib.hid hKB
  clear hC hK hKB hown2 hgrow hb2 hg3 hne3 hown3 hll hbc
  go_wp2
  go_ret2
  exact ⟨rfl, HC.out, HKB.out, HK.out⟩

end Go.Proofs.YtoigembmbajopaaDoor
namespace Go.Proofs.YtoigembmbajopaaDoor
open Go.RowKit

theorem recs_take {L : List Rc} {k : Nat} {r : Rc} (h : L[k]? = some r) : L.take (k + 1) = L.take k ++ [r] := by
  rw [List.take_add_one, h]; rfl
theorem IsB.size {B b : Nat} {l : List UInt8} {w : World} (h : BldAt B b l w) : b < w.heap.size := by
  obtain ⟨_, _, _, hr, _⟩ := h.row
  exact (Array.getElem?_eq_some_iff.1 hr).1

set_option maxRecDepth 100000 in
set_option maxHeartbeats 16000000 in
theorem txOk : JTxOk := by
  intro L v w h hs hT
  have HT := Lib.hid hT
  obtain ⟨A, eA, hA⟩ := h
  have lA := RecsIn.len eA
  obtain ⟨p, c, rfl, -, -⟩ := hA.out
  have gA := fun i hi => hA.at_k eA i hi
  obtain ⟨n, hn⟩ : ∃ n, n = A.length := ⟨_, rfl⟩
  rw [← hn] at lA gA ⊢
  have GA := Lib.hid gA
  have HLN := Lib.hid lA
  have hn30 : n ≤ 30 := by rw [← lA]; exact hs.1
  obtain ⟨resE, hresE⟩ : ∃ e, e = txE L := ⟨_, rfl⟩
  obtain ⟨resT, hresT⟩ : ∃ e, e = str (txT L) := ⟨_, rfl⟩
  rw [← hresE, ← hresT]
  have HTE := Lib.hid hresE
  have HTT := Lib.hid hresT
  clear hA eA hn lA gA hT hs hresE hresT
  by_cases h0 : n = 0
  · have b0 : decide ((n : Int) < 1) = true := decide_eq_true (by omega)
    have e0 : L.length = 0 := by rw [HLN.out]; exact h0
    have e1 : txE L = 3 := by unfold txE; rw [if_pos (Or.inl e0)]
    obtain rfl : resE = 3 := by rw [HTE.out, e1]
    obtain rfl : resT = ⟨#[]⟩ := by rw [HTT.out]; unfold txT; rw [e1]; rfl
    clear h0 GA HTE HTT e0 e1
    go_enter Tryd.func15, Tryd.ntmps15
    go_wp2
    first | go_ret | go_ret2
    exact ⟨rfl, Kept.refl w⟩
  · have b0 : decide ((n : Int) < 1) = false := decide_eq_false (by omega)
    have b1 : decide ((n : Int) > 8192) = false := decide_eq_false (by omega)
    have u0 : IntKind.u16.wrap (n : Int) = (n : Int) := wrap_u16 (by omega)
    obtain ⟨N, hN⟩ : ∃ N, N = str (leB 2 n) := ⟨_, rfl⟩
    have CN := fun W => pu16 n (by omega) N hN W
    have zN : N.size = 2 := by rw [hN, str_size, leB_len]
    have HNL : Hid (N.data.toList = leB 2 n ++ (L.take 0).flatMap recB) := Lib.hid (by rw [hN, str_list]; simp)
    have HTE2 : Hid (txE L = if ∀ r ∈ L, mayR r then 0 else 1) := Lib.hid (by unfold txE; rw [if_neg (by rw [HLN.out]; omega)])
    obtain ⟨WB, hWB⟩ : ∃ WB, WB = w.alloc (.cells #[.pointer none, .slice none 0 0] 86) := ⟨_, rfl⟩
    have HWB := Lib.hid hWB
    have HBD : Hid (BldAt w.heap.size w.heap.size [] WB) := Lib.hid (by rw [hWB]; exact Lib.fresh_isBuilder _ _ w)
    have HKB : Hid (Kept w WB) := Lib.hid (by rw [hWB]; exact box_below _ _)
    have HN0 : Hid (n ≠ 0) := Lib.hid h0
    clear hN hWB h0
    go_enter Tryd.func15, Tryd.ntmps15
    go_wp2_with fail
    rw [← HWB.out]
    refine (CN WB).mono ?_
    rintro e w1 ⟨rfl, hb1⟩
    have CW := bwrite_any w.heap.size w.heap.size [] N w1 (by simp; omega) (by have := hb1.size; have := HKB.out.size; omega) (HBD.out.later hb1)
    have HK1 : Hid (Kept w w1) := Lib.hid ((show Kept w WB from HKB.out).then hb1)
    clear CN hb1 HBD HWB HKB
    go_wp2_with fail
    refine CW.mono ?_
    rintro e w2 ⟨rfl, hbd, hb2, -⟩
    have HBD2 : Hid (BldAt w.heap.size w.heap.size (leB 2 n ++ (L.take 0).flatMap recB) w2) := Lib.hid (by rw [← HNL.out]; exact hbd)
    have HK2 : Hid (Kept w w2) := Lib.hid (Below.trans HK1.out hb2)
    have HM0 : Hid (∀ r ∈ L.take 0, mayR r) := Lib.hid (fun r hr => by simp at hr)
    clear hbd hb2 CW HK1 HNL
    go_wp2
    go_loopg [24] n (fun gh s24 wx => ∃ k : Nat, k + gh = n ∧ s24 = .int .i64 k ∧ Hid (BldAt w.heap.size w.heap.size (leB 2 n ++ (L.take k).flatMap recB) wx) ∧ Hid (∀ r ∈ L.take k, mayR r) ∧ Hid (Kept w wx))
    case atStart => exact ⟨0, by omega, rfl, HBD2, HM0, HK2⟩
    case round =>
      clear HBD2 HM0 HK2
      obtain ⟨k, hk, rfl, HBD, HM, HK⟩ := hrel
      by_cases hkn : k < n
      · have hki : (k : Int) < n := by omega
        have bk : decide ((k : Int) < (n : Int)) = true := by simpa using hki
        have hki0 : (0 : Int) ≤ k := by omega
        obtain ⟨k1, hk1⟩ : ∃ k1, k1 = k + 1 := ⟨_, rfl⟩
        have v1 : IntKind.i64.wrap ((k : Int) + 1) = (k1 : Int) := by rw [show (k : Int) + 1 = (k1 : Int) by omega]; exact IntWalk.i64_in _ (by omega)
        obtain ⟨r, tv, e1, hrm, hra, b, off, rfl, hrg⟩ := GA.out k hkn
        have htk := recs_take e1
        rw [← hk1] at htk
        obtain ⟨pt, ct, htv, -, -⟩ := hra.runs.out
        subst htv
        have hlen : (leB 2 n ++ (L.take k).flatMap recB).length ≤ 6002 := by
          rw [List.length_append, leB_len]
          have := recsB_len (L.take k) HM.out
          rw [List.length_take] at this
          omega
        have CC := fun W (kk : Kept w W) => jcheck_any r _ W (hra.later kk)
        have CB := fun W (kk : Kept w W) (hm : mayR r) => jrec_any r _ W (hra.later kk) hm
        have d0 : w.cell? ⟨b, off + k * 5, none⟩ = some (.int .i64 r.kind) := hrg 0 _ rfl
        have d1 : w.cell? ⟨b, off + k * 5 + 1, none⟩ = some (.int .u32 (r.id : Nat)) := hrg 1 _ rfl
        have d2 : w.cell? ⟨b, off + k * 5 + 2, none⟩ = some (.string (str r.name)) := hrg 2 _ rfl
        have d3 : w.cell? ⟨b, off + k * 5 + 3, none⟩ = some (.int .i64 r.size) := hrg 3 _ rfl
        have d4 : w.cell? ⟨b, off + k * 5 + 4, none⟩ = some (.slice pt r.runs.length ct) := hrg 4 _ rfl
        have HNX : Hid (L.take k1 = L.take k ++ [r]) := Lib.hid htk
        obtain ⟨S, hS⟩ : ∃ S, S = str (recB r) := ⟨_, rfl⟩
        rw [← hS] at CB
        have HS : Hid (S.data.toList = recB r) := Lib.hid (by rw [hS, str_list])
        have HSZ : Hid (mayR r → S.size ≤ 200) := Lib.hid (fun hm => by rw [hS, str_size]; exact recB_len hm)
        have HRM := Lib.hid hrm
        obtain ⟨xk, hxk⟩ : ∃ q, q = r.kind := ⟨_, rfl⟩
        obtain ⟨xi, hxi⟩ : ∃ q, q = r.id := ⟨_, rfl⟩
        obtain ⟨xn, hxn⟩ : ∃ q, q = str r.name := ⟨_, rfl⟩
        obtain ⟨xz, hxz⟩ : ∃ q, q = r.size := ⟨_, rfl⟩
        obtain ⟨rl, hrl⟩ : ∃ rl, rl = r.runs.length := ⟨_, rfl⟩
        unfold recV recC at CC CB
        rw [← hxk, ← hxi, ← hxn, ← hxz, ← hrl] at CC CB
        rw [← hxk] at d0
        rw [← hxi] at d1
        rw [← hxn] at d2
        rw [← hxz] at d3
        rw [← hrl] at d4
        replace d0 := HK.out.cell d0
        replace d1 := HK.out.cell d1
        replace d2 := HK.out.cell d2
        replace d3 := HK.out.cell d3
        replace d4 := HK.out.cell d4
        have ka : Kept wr (wr.alloc (.cells #[.int .i64 xk, .int .u32 (xi : Nat), .string xn, .int .i64 xz, .slice pt rl ct] 30)) := box_below _ _
        have hrow := heap_alloc_last wr (.cells #[.int .i64 xk, .int .u32 (xi : Nat), .string xn, .int .i64 xz, .slice pt rl ct] 30)
        obtain ⟨W1, hW1⟩ : ∃ W1, W1 = wr.alloc (.cells #[.int .i64 xk, .int .u32 (xi : Nat), .string xn, .int .i64 xz, .slice pt rl ct] 30) := ⟨_, rfl⟩
        rw [← hW1] at ka hrow
        have HROW := Lib.hid hrow
        have HKA := Lib.hid ka
        have HW1 := Lib.hid hW1
        have HLEN := Lib.hid hlen
        have HKK : Hid (k1 = k + 1 ∧ k + gk = n) := Lib.hid ⟨hk1, hk⟩
        clear e1 hra hrg hrm htk hS hxk hxi hxn hxz hrl ka hrow hW1 hlen hk1 hk
        by_cases hm : mayR r
        · have CC1 := CC W1 ((show Kept w wr from HK.out).then HKA.out)
          rw [if_pos hm] at CC1
          have HM1 : Hid (∀ q ∈ L.take k1, mayR q) := Lib.hid (fun q hq => by
            rw [HNX.out] at hq
            rcases List.mem_append.1 hq with y | y
            · exact HM.out q y
            · rw [List.mem_singleton.1 y]; exact hm)
          have HS2 := Lib.hid (HSZ.out hm)
          have HCB := Lib.hid (fun W kk => CB W kk hm)
          clear CC CB hm HSZ HM
          go_wp2_with fail
          rw [← HW1.out]
          refine CC1.mono ?_
          rintro e w3 ⟨rfl, hb3⟩
          have hr3 := (show Kept W1 w3 from hb3).row HROW.out
          have f0 : w3.cell? ⟨wr.heap.size, 0, none⟩ = some (.int .i64 xk) := by rw [cell_of_row _ _ _ _ _ _ hr3]; rfl
          have f1 : w3.cell? ⟨wr.heap.size, 1, none⟩ = some (.int .u32 (xi : Nat)) := by rw [cell_of_row _ _ _ _ _ _ hr3]; rfl
          have f2 : w3.cell? ⟨wr.heap.size, 2, none⟩ = some (.string xn) := by rw [cell_of_row _ _ _ _ _ _ hr3]; rfl
          have f3 : w3.cell? ⟨wr.heap.size, 3, none⟩ = some (.int .i64 xz) := by rw [cell_of_row _ _ _ _ _ _ hr3]; rfl
          have f4 : w3.cell? ⟨wr.heap.size, 4, none⟩ = some (.slice pt rl ct) := by rw [cell_of_row _ _ _ _ _ _ hr3]; rfl
          have K13 : Hid (Kept wr w3) := Lib.hid ((show Kept wr W1 from HKA.out).then hb3)
          have CB3 := HCB.out w3 ((show Kept w wr from HK.out).then K13.out)
          clear CC1 hb3 hr3 HCB d0 d1 d2 d3 d4 HROW HKA HW1
          go_wp2_with fail
          refine CB3.mono ?_
          rintro e w4 ⟨rfl, hb4⟩
          have K14 : Hid (Kept wr w4) := Lib.hid ((show Kept wr w3 from K13.out).then hb4)
          have CW := bwrite_any w.heap.size w.heap.size _ S w4 (by have := HS2.out; have := HLEN.out; omega) (Nat.le_trans HK.out.size K14.out.size) (HBD.out.later K14.out)
          rw [HS.out] at CW
          have HK4 : Hid (Kept w w4) := Lib.hid ((show Kept w wr from HK.out).then K14.out)
          clear CB3 hb4 K13 K14 f0 f1 f2 f3 f4 HBD HK
          go_wp2_with fail
          refine CW.mono ?_
          rintro e w5 ⟨rfl, hbd, hb5, -⟩
          have HBD5 : Hid (BldAt w.heap.size w.heap.size (leB 2 n ++ (L.take k1).flatMap recB) w5) := Lib.hid (by
            rw [HNX.out, List.flatMap_append, ← List.append_assoc]
            have e : List.flatMap recB [r] = recB r := by simp
            rw [e]
            exact hbd)
          have HK5 : Hid (Kept w w5) := Lib.hid (Below.trans HK4.out hb5)
          clear CW hbd hb5 HK4
          go_wp2
          go_roundg (n - k1)
          case measure => have := HKK.out; omega
          case rel => exact ⟨k1, by have := HKK.out; omega, by first | rfl | (congr 1; have := HKK.out; omega), HBD5, HM1, HK5⟩
        · have CC1 := CC W1 ((show Kept w wr from HK.out).then HKA.out)
          rw [if_neg hm] at CC1
          have hno : txE L = 1 := by rw [HTE2.out, if_neg (fun x => hm (x r HRM.out))]
          obtain rfl : resE = 1 := by rw [HTE.out, hno]
          obtain rfl : resT = ⟨#[]⟩ := by rw [HTT.out]; unfold txT; rw [hno]; rfl
          clear CC CB hm HSZ HM hno HTE HTT
          go_wp2_with fail
          rw [← HW1.out]
          refine CC1.mono ?_
          rintro e w3 ⟨rfl, hb3⟩
          have K3 : Hid (Kept w w3) := Lib.hid ((show Kept w wr from HK.out).then ((show Kept wr W1 from HKA.out).then hb3))
          clear CC1 hb3 d0 d1 d2 d3 d4
          go_wp2
          first | go_ret | go_ret2
          exact ⟨rfl, K3.out⟩
      · have hki : ¬ (k : Int) < n := by omega
        have bk : decide ((k : Int) < (n : Int)) = false := by simpa using hki
        have hke : k = n := by omega
        have htk : L.take k = L := List.take_of_length_le (by rw [HLN.out]; omega)
        have hbd := HBD.out
        have hmm := HM.out
        rw [htk] at hbd hmm
        have htx : txE L = 0 := by rw [HTE2.out, if_pos hmm]
        obtain rfl : resE = 0 := by rw [HTE.out, htx]
        have hP : txP L = leB 2 n ++ L.flatMap recB := by unfold txP; rw [HLN.out]
        rw [← hP] at hbd
        have hRT : resT = str (txB L) := by rw [HTT.out]; unfold txT; rw [if_pos htx]
        have hpl : (txP L).length ≤ 6002 := by
          rw [hP, List.length_append, leB_len]
          have := recsB_len L hmm
          rw [HLN.out] at this
          omega
        have CST := Tryd.Builder_String_any w.heap.size w.heap.size (txP L) wr hbd HK.out.size
        obtain ⟨BD, hBD⟩ : ∃ BD, BD = str (txP L) := ⟨_, rfl⟩
        have CST2 : Calls Tryd.prog 50 #[.pointer (some ⟨w.heap.size, 0, none⟩)] wr fun e w' => e = .returned (.string BD) ∧ Below w.heap.size wr w' := by rw [hBD]; exact CST
        obtain ⟨z, hz⟩ : ∃ z, z = BD.size := ⟨_, rfl⟩
        have hzl : z = (txP L).length := by rw [hz, hBD, str_size]
        have zB : BD.size = z := hz.symm
        have hz32 : z ≤ 6002 := by rw [hzl]; exact hpl
        have u1 : IntKind.u32.wrap (z : Int) = (z : Int) := IntWalk.u32_in _ (by omega)
        obtain ⟨S1, hS1⟩ : ∃ S, S = str (leB 4 z) := ⟨_, rfl⟩
        have C1 := fun W => pu32 z (by omega) S1 hS1 W
        have CSM := fun W (hW : TabAt W) => sum_any BD (by unfold maxLen; omega) W hW
        obtain ⟨m, hm⟩ : ∃ m, m = moreN 0 BD.data.toList := ⟨_, rfl⟩
        rw [← hm] at CSM
        have hm2 : m = moreN 0 (txP L) := by rw [hm, hBD, str_list]
        have hm32 : m < 4294967296 := by rw [hm2]; exact moreN_lt _
        obtain ⟨S2, hS2⟩ : ∃ S, S = str (leB 4 m) := ⟨_, rfl⟩
        have C2 := fun W => pu32 m hm32 S2 hS2 W
        have z1 : S1.size = 4 := by rw [hS1, str_size, leB_len]
        have z2 : S2.size = 4 := by rw [hS2, str_size, leB_len]
        obtain ⟨X1, hX1⟩ : ∃ X, X = S1 ++ S2 := ⟨_, rfl⟩
        have x1 : X1.size = 8 := by rw [hX1, ByteArray.size_append]; omega
        have c1 : S1 ++ S2 = X1 := hX1.symm
        obtain ⟨X2, hX2⟩ : ∃ X, X = X1 ++ BD := ⟨_, rfl⟩
        have c2 : X1 ++ BD = X2 := hX2.symm
        have s1 : ¬ 9223372036854775807 < 4 + 4 := by omega
        have s2 : ¬ 9223372036854775807 < 8 + z := by omega
        have HX : Hid (X2 = resT) := Lib.hid (by
          rw [hRT, hX2, hX1, hS1, hS2, hBD, hzl, hm2]
          unfold txB
          simp only [str_append, List.append_assoc])
        have HKW := Lib.hid HK.out
        clear hke htk hbd hmm htx hP hRT hpl CST hBD hz hzl hS1 hm hm2 hS2 hX1 hX2 HBD HM HK HTE HTT
        go_wp2_with fail
        refine CST2.mono ?_
        rintro e w5 ⟨rfl, hb5⟩
        have HK5 : Hid (Kept w w5) := Lib.hid (Below.trans HKW.out hb5)
        have C15 := C1 w5
        clear hb5 CST2 C1
        go_wp2_with fail
        refine C15.mono ?_
        rintro e w6 ⟨rfl, hb6⟩
        have HK6 : Hid (Kept w w6) := Lib.hid ((show Kept w w5 from HK5.out).then hb6)
        have C26 := CSM w6 (HT.out.later HK6.out)
        clear hb6 C15 CSM
        go_wp2_with fail
        refine C26.mono ?_
        rintro e w7 ⟨rfl, hw7⟩
        subst hw7
        have C37 := C2 w6
        clear C26 C2
        go_wp2_with fail
        refine C37.mono ?_
        rintro e w8 ⟨rfl, hb8⟩
        have HK8 : Hid (Kept w w8) := Lib.hid ((show Kept w w6 from HK6.out).then hb8)
        clear hb8 C37
        go_wp2
        first | go_ret | go_ret2
        exact ⟨by rw [HX.out]; rfl, HK8.out⟩

end Go.Proofs.YtoigembmbajopaaDoor
