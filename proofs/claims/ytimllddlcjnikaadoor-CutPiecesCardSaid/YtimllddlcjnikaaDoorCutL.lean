/- The walks of the document's All, Split and Done; Same. -/
import Derived.Test.YtimllddlcjnikaaDoorCutR
namespace Go.Proofs.YtimllddlcjnikaaDoor
open Go.RowKit

/-- The cells of some texts. -/
def stL (l : List ByteArray) : List Value := l.map fun s => Value.string s
theorem stL_len (l : List ByteArray) : (stL l).length = l.length := by simp [stL]
theorem stL_get (l : List ByteArray) (j : Nat) (h : j < l.length) : (stL l)[j]? = some (.string l[j]) := by simp [stL, h]
theorem stL_snoc (l : List ByteArray) (s : ByteArray) : stL (l ++ [s]) = stL l ++ [.string s] := by simp [stL]
theorem inL_snoc (l : List Nat) (n : Nat) : inL (l ++ [n]) = inL l ++ [.int .i64 n] := by simp [inL]

theorem strAt_own {w : World} {base : Nat} {e : TypeId} {v : Value} {zs : List ByteArray} (h : w.ownsRow base e 1 v zs.length (stL zs)) : StrAt zs v w := by
  by_cases h0 : zs.length = 0
  · have hz := List.length_eq_zero_iff.1 h0
    subst hz
    obtain ⟨p, c, rfl⟩ := own_nil h
    exact ⟨p, c, rfl, Or.inl rfl⟩
  · obtain ⟨g, cap, rfl, _, hc⟩ := own_cells h (by omega) (stL_len _)
    exact ⟨_, _, rfl, Or.inr ⟨g, 0, rfl, fun i hi => by rw [Nat.zero_add]; exact hc i _ (stL_get _ _ hi)⟩⟩

theorem infoStr : (Tryd.prog.info? 9).map (fun i => (i.zero, i.size, i.bytes)) = some (some (.string ⟨#[]⟩), 1, 16) := by kernel_rfl

set_option maxRecDepth 100000 in
set_option maxHeartbeats 1000000 in
theorem same_any (ss : List ByteArray) (hzl : ss.length ≤ 1000000) (v u : Value) (w : World) (hv : StrAt ss v w) (hu : StrAt ss u w) :
    Calls Tryd.prog 16 #[v, u] w (LawPost w) := by
  obtain ⟨p, c, rfl, hc⟩ := hv
  obtain ⟨p2, c2, rfl, hc2⟩ := hu
  have HC := Lib.hid hc
  have HC2 := Lib.hid hc2
  clear hc hc2
  go_enter Tryd.func16, Tryd.ntmps16
  go_wp2
  go_loopw [5] (fun x wr => ∃ (i : Nat), i ≤ ss.length ∧ x = .int .i64 i ∧ Below w.heap.size w wr) (fun x _ => ss.length - (intOf x).toNat)
  case atStart => exact ⟨0, Nat.zero_le _, rfl, Below.refl _ _⟩
  case round =>
    obtain ⟨i, hi, rfl, K⟩ := hrel
    by_cases hlt : i < ss.length
    · rcases HC.out with h | ⟨b, off, rfl, hcell⟩
      · rw [h] at hlt; simp at hlt
      rcases HC2.out with h | ⟨b2, off2, rfl, hcell2⟩
      · rw [h] at hlt; simp at hlt
      have k1 : wr.cell? ⟨b, off + i, none⟩ = some (.string ss[i]) := (K.cell (World.block_lt_of_cell? _ _ (hcell i hlt))).trans (hcell i hlt)
      have k2 : wr.cell? ⟨b2, off2 + i, none⟩ = some (.string ss[i]) := (K.cell (World.block_lt_of_cell? _ _ (hcell2 i hlt))).trans (hcell2 i hlt)
      obtain ⟨z, hz⟩ : ∃ z, ss[i] = z := ⟨_, rfl⟩
      rw [hz] at k1 k2
      clear hcell hcell2 hz HC HC2
      go_wp2
      go_quiet (fail)
      go_wp2
      go_roundw
      case rel => exact ⟨i + 1, by omega, by go_num, below_drewN' K _⟩
      case measure => simp [intOf]; omega
    · obtain rfl : i = ss.length := by omega
      go_wp2
      go_ret
      exact ⟨rfl, K⟩

theorem own_later {w w' : World} {base : Nat} {e : TypeId} {size n : Nat} {v : Value} {xs : List Value} (h : w.ownsRow base e size v n xs) (hb : Below w.heap.size w w') : w'.ownsRow base e size v n xs :=
  h.kept (row := none) (grown_below hb none) (Classical.em _)

/-- One chunk of all: the first, or what is left. -/
theorem spl_next {f : List UInt8 → Nat} (hle : ∀ l, f l ≤ l.length) (l : List UInt8) (h : 0 < l.length) :
    ∃ q, 0 < q ∧ q ≤ l.length ∧ (f l = 0 ∧ q = l.length ∨ f l ≠ 0 ∧ q = f l) ∧ spl f l = l.take q :: spl f (l.drop q) := by
  by_cases h0 : f l = 0
  · refine ⟨l.length, h, Nat.le_refl _, Or.inl ⟨h0, rfl⟩, ?_⟩
    rw [spl_zero h0 (by intro e; rw [e] at h; simp at h), List.take_length, List.drop_length, spl_nil hle]
  · exact ⟨f l, by omega, hle l, Or.inr ⟨h0, rfl⟩, spl_cut (by omega) (hle l)⟩

/-- All chunks, where the settings can cut; none, where not. -/
def allL (a b c d : Int) (l : List UInt8) : List (List UInt8) := if MayC a b c d then spl (cutI a b c d) l else []

theorem drop_list (s : ByteArray) (n : Nat) (hn : n ≤ s.size) : (s.extract n s.size).data.toList = s.data.toList.drop n ∧ (s.extract n s.size).size = s.size - n := by
  have e : (s.extract n s.size).data.toList = s.data.toList.drop n := by
    have h := Lib.extract_eq s n s.size
    rw [h]
    show ((s.data.toList.drop n).take (s.size - n)) = _
    exact List.take_of_length_le (by rw [List.length_drop, data_len]; exact Nat.le_refl _)
  refine ⟨e, ?_⟩
  rw [← data_len, e, List.length_drop, data_len]

set_option maxRecDepth 100000 in
set_option maxHeartbeats 4000000 in
theorem rallc_any (s : ByteArray) (hs : s.size ≤ 1000000) (C : Array Value) (a b c d : Int) (hC : IsConf C a b c d) (w : World) :
    Calls Tryd.prog 31 #[.string s, .agg C] w fun e w' => ∃ v, e = .returned v ∧ I64At ((allL a b c d s.data.toList).map List.length) v w' ∧ Below w.heap.size w w' := by
  have MA := rmay_any C a b c d hC
  have HLI : Hid ((Tryd.prog.info? 23).map (·.size) = some C.size) := by rw [hC.size]; exact info_conf
  have gC := heap_alloc_last w (.cells C 23)
  have K0 := box_below w (.cells C 23)
  by_cases hM : MayC a b c d
  · rw [decide_eq_true hM] at MA
    obtain ⟨i0, hi, hz0, hz1, hz2⟩ := info_of infoInt
    have HI := Lib.hid hi
    have HZ0 := Lib.hid hz0
    have HZ1 := Lib.hid hz1
    have HZ2 := Lib.hid hz2
    have hall : allL a b c d s.data.toList = spl (cutI a b c d) s.data.toList := by unfold allL; rw [if_pos hM]
    rw [hall]
    have hle := cutI_le a b c d
    have CU := fun t (ht : ByteArray.size t ≤ 1000000) w => rcut_any t ht C a b c d hC w
    obtain ⟨f, hf⟩ : ∃ f, f = cutI a b c d := ⟨_, rfl⟩
    rw [← hf] at hle ⊢
    have CU' : ∀ t, ByteArray.size t ≤ 1000000 → ∀ w, Calls Tryd.prog 12 #[.string t, .agg C] w fun e w' => e = .returned (.int .i64 (f t.data.toList : Nat)) ∧ Below w.heap.size w w' := fun t ht w => by rw [hf]; exact CU t ht w
    obtain ⟨w0, hw0⟩ : ∃ w0, w0 = w.alloc (.cells C 23) := ⟨_, rfl⟩
    have g0 : w0.heap[w.heap.size]? = some (.cells C 23 (0, 0)) := by rw [hw0]; exact gC
    have K0' : Below w.heap.size w w0 := by rw [hw0]; exact K0
    have HW0 := Lib.hid hw0
    have HLE := Lib.hid hle
    obtain ⟨L, hL⟩ : ∃ L, L = s.data.toList := ⟨_, rfl⟩
    rw [← hL]
    have hLs : L.length ≤ 1000000 := by rw [hL, data_len]; exact hs
    have HL := Lib.hid hL
    clear hM hall hle CU hf hw0 hi hz0 hz1 hz2 hC hL
    go_enter Tryd.func31, Tryd.ntmps31
    go_wp2_with (with_reducible refine wpList_load_row rfl _ _ rfl w.heap.size rfl 23 C (0, 0) _ gC Tryd.underlying23 rfl HLI.out ?_)
    refine (MA _).mono ?_
    rintro e w1 ⟨rfl, hb1⟩
    rw [← HW0.out] at hb1
    clear gC K0 HW0 MA
    go_wp2
    go_loopw [0, 5] (fun x v wr => ∃ (t : ByteArray) (ls : List Nat), x = .string t ∧ t.size ≤ s.size ∧ ls.length + t.size ≤ s.size ∧ ls ++ (spl f t.data.toList).map List.length = (spl f L).map List.length ∧ wr.ownsRow w0.heap.size 3 1 v ls.length (inL ls) ∧ Below w0.heap.size w0 wr) (fun x _ _ => match x with | .string t => t.size | _ => 0)
    case atStart => exact ⟨s, [], rfl, Nat.le_refl _, by simp, by rw [HL.out]; rfl, World.ownsRow_nil _ _ _ _, hb1⟩
    case round =>
      clear hb1
      obtain ⟨t, ls, rfl, hts, hlt, hsp, hown, K⟩ := hrel
      have gw := (K.block _ (Array.getElem?_eq_some_iff.1 g0).1).trans g0
      have HO := Lib.hid hown
      have HSP := Lib.hid hsp
      clear hown hsp
      by_cases h0 : 0 < t.size
      · have hti : (0 : Int) < t.size := by omega
        go_wp2_with (with_reducible refine wpList_load_row rfl _ _ rfl w.heap.size rfl 23 C (0, 0) _ gw Tryd.underlying23 rfl HLI.out ?_)
        refine (CU' t (by omega) _).mono ?_
        rintro e w2 ⟨rfl, hb2⟩
        have K2 := Below.then' K hb2 K.size
        have hown2 := own_later HO.out hb2
        have HO2 := Lib.hid hown2
        have hdl := data_len t
        obtain ⟨q, hq0, hq1, hq2, hq3⟩ := spl_next HLE.out t.data.toList (by omega)
        have hdr := drop_list t q (by omega)
        have htk : (t.data.toList.take q).length = q := by rw [List.length_take]; omega
        have hnew : (ls ++ [q]) ++ (spl f (t.extract q t.size).data.toList).map List.length = (spl f L).map List.length := by
          rw [← HSP.out, hq3, hdr.1]
          simp only [List.map_cons, htk, List.append_assoc, List.singleton_append]
        have hsz2 := hdr.2
        obtain ⟨t2, ht2⟩ : ∃ t2, t.extract q t.size = t2 := ⟨_, rfl⟩
        have hsz3 : t2.size = t.size - q := by rw [← ht2]; exact hsz2
        rw [ht2] at hnew hsz2
        have HNEW := Lib.hid hnew
        obtain ⟨n, hn⟩ : ∃ n, n = f t.data.toList := ⟨_, rfl⟩
        rw [← hn] at hq2 ⊢
        rw [hdl] at hq1
        have hqi : (q : Int) ≤ t.size := by omega
        have hqn : ((q : Int)).toNat = q := by omega
        have hkw : w0.heap.size ≤ w2.heap.size := K2.size
        have hins : inL (ls ++ [q]) = inL ls ++ [.int .i64 q] := inL_snoc _ _
        have HINS := Lib.hid hins
        rw [hdl] at hq2
        have hlls : ls.length ≤ 1000000 := by omega
        clear hown2 hq3 hdr htk hnew hn hins hsz2 gw hb2 K HO HSP hdl
        rcases hq2 with ⟨rfl, rfl⟩ | ⟨hnz, rfl⟩
        · have he : t2 = ByteArray.empty := by
            apply ByteArray.ext
            exact Array.eq_empty_of_size_eq_zero (show t2.size = 0 by omega)
          subst he
          clear ht2
          go_wp2_with (at_builtin; refine wpList_append_own _ rfl _ _ 29 rfl w0.heap.size 3 i0 (.int .i64 0) 1 8 Tryd.underlying29 HI.out HZ0.out HZ1.out HZ2.out rfl (by decide) _ _ _ rfl (HO2.out.alloc _) ⟨w2.heap.size, 0, none⟩ 1 1 [.int .i64 (t.size : Nat)] rfl rfl ?c1 ?c2 ?c3 ?c4 ?c5 ?_)
          case c1 => exact cell_one_new _ _ _
          case c2 => first | rfl | (intro u hu; simp only [List.mem_singleton] at hu; subst hu; rfl)
          case c3 => unfold maxLen; omega
          case c4 => omega
          case c5 => first | omega | (simp; omega)
          intro v' w4 hown4 hg4 _
          have h6 : Below w0.heap.size w0 w4 := (K2.alloc hkw _).grown hg4 (by simp; omega) (fun k hk => (HO2.out.lt k hk).1)
          have HO4 := Lib.hid hown4
          clear hown4 hg4 K2
          go_wp2
          go_roundw
          case rel => exact ⟨ByteArray.empty, ls ++ [t.size], rfl, by omega, by simp; omega, HNEW.out, by rw [HINS.out, List.length_append]; exact HO4.out, h6⟩
          case measure => simp only []; omega
        · have hnb : ((q : Int) == 0) = false := by simpa using hnz
          go_wp2_with (at_builtin; refine wpList_append_own _ rfl _ _ 29 rfl w0.heap.size 3 i0 (.int .i64 0) 1 8 Tryd.underlying29 HI.out HZ0.out HZ1.out HZ2.out rfl (by decide) _ _ _ rfl (HO2.out.alloc _) ⟨w2.heap.size, 0, none⟩ 1 1 [.int .i64 (q : Nat)] rfl rfl ?c1 ?c2 ?c3 ?c4 ?c5 ?_)
          case c1 => exact cell_one_new _ _ _
          case c2 => first | rfl | (intro u hu; simp only [List.mem_singleton] at hu; subst hu; rfl)
          case c3 => unfold maxLen; omega
          case c4 => omega
          case c5 => first | omega | (simp; omega)
          intro v' w4 hown4 hg4 _
          have h6 : Below w0.heap.size w0 w4 := (K2.alloc hkw _).grown hg4 (by simp; omega) (fun k hk => (HO2.out.lt k hk).1)
          have HO4 := Lib.hid hown4
          clear hown4 hg4 K2
          go_wp2
          go_roundw
          case rel => exact ⟨t2, ls ++ [q], rfl, by omega, by simp; omega, HNEW.out, by rw [HINS.out, List.length_append]; exact HO4.out, h6⟩
          case measure => simp only []; omega
      · have hU : I64At ls u5 wr := i64At_own HO.out
        have hz : t.data.toList = [] := by
          apply List.eq_nil_of_length_eq_zero; rw [data_len]; omega
        have hsp := HSP.out
        rw [hz, spl_nil HLE.out] at hsp
        have hti : ¬ (0 : Int) < t.size := by omega
        have HU := Lib.hid hU
        have HSP2 := Lib.hid hsp
        clear hU HO hz hsp HSP
        go_wp2
        go_ret
        exact ⟨_, rfl, by rw [← HSP2.out]; simpa using HU.out, Below.then' K0' K K0'.size⟩
  · have hall : allL a b c d s.data.toList = [] := by unfold allL; rw [if_neg hM]
    rw [hall]
    rw [decide_eq_false hM] at MA
    clear hall hC
    go_enter Tryd.func31, Tryd.ntmps31
    go_wp2_with (with_reducible refine wpList_load_row rfl _ _ rfl w.heap.size rfl 23 C (0, 0) _ gC Tryd.underlying23 rfl HLI.out ?_)
    refine (MA _).mono ?_
    rintro e w1 ⟨rfl, hb1⟩
    go_wp2
    go_ret
    exact ⟨_, rfl, ⟨none, 0, rfl, Or.inl rfl⟩, Below.then' K0 hb1 K0.size⟩

/-- The texts of some lists of bytes. -/
def strs (L : List (List UInt8)) : List ByteArray := L.map str
theorem strs_len (L : List (List UInt8)) : (strs L).length = L.length := by simp [strs]

theorem allL_join (a b c d : Int) (l : List UInt8) (h : MayC a b c d) : (allL a b c d l).flatten = l := by
  unfold allL
  rw [if_pos h]
  exact spl_join (cutI_le a b c d) l

theorem flat_take (L : List (List UInt8)) (i : Nat) (h : i < L.length) : (L.drop i).flatten = L[i] ++ (L.drop (i + 1)).flatten := by
  rw [List.drop_eq_getElem_cons h]; rfl

theorem allL_sum (a b c d : Int) (l : List UInt8) : (allL a b c d l).flatten.length ≤ l.length := by
  unfold allL
  split
  · rename_i h
    rw [spl_join (cutI_le a b c d) l]; exact Nat.le_refl _
  · simp

theorem len_le_flat (L : List (List UInt8)) (h : ∀ c ∈ L, c ≠ []) : L.length ≤ L.flatten.length := by
  induction L with
  | nil => simp
  | cons c L ih =>
    have h1 := ih (fun x hx => h x (List.mem_cons_of_mem _ hx))
    have h2 : c.length ≠ 0 := fun e => h c (List.mem_cons_self ..) (List.eq_nil_of_length_eq_zero e)
    simp only [List.length_cons, List.flatten_cons, List.length_append]
    omega

theorem spl_ne {f : List UInt8 → Nat} (hle : ∀ l, f l ≤ l.length) (l : List UInt8) : ∀ c ∈ spl f l, c ≠ [] := by
  intro c hc
  unfold spl at hc
  split at hc
  · exact dn_pos hle _ l (Nat.le_refl _) c hc
  · rcases List.mem_append.1 hc with h | h
    · exact dn_pos hle _ l (Nat.le_refl _) c h
    · rw [List.mem_singleton.1 h]; assumption

theorem allL_len (a b c d : Int) (l : List UInt8) : (allL a b c d l).length ≤ l.length := by
  unfold allL
  split
  · have h := len_le_flat _ (spl_ne (cutI_le a b c d) l)
    rw [spl_join (cutI_le a b c d) l] at h
    exact h
  · simp

set_option maxRecDepth 100000 in
set_option maxHeartbeats 4000000 in
theorem rsplit_any (s : ByteArray) (hs : s.size ≤ 1000000) (C : Array Value) (a b c d : Int) (hC : IsConf C a b c d) (w : World) :
    Calls Tryd.prog 17 #[.string s, .agg C] w fun e w' => ∃ v, e = .returned v ∧ StrAt (strs (allL a b c d s.data.toList)) v w' ∧ Below w.heap.size w w' := by
  have AL := rallc_any s hs C a b c d hC
  have HLI : Hid ((Tryd.prog.info? 23).map (·.size) = some C.size) := by rw [hC.size]; exact info_conf
  have gC := heap_alloc_last w (.cells C 23)
  have K0 := box_below w (.cells C 23)
  obtain ⟨i0, hi, hz0, hz1, hz2⟩ := info_of infoStr
  have HI := Lib.hid hi
  have HZ0 := Lib.hid hz0
  have HZ1 := Lib.hid hz1
  have HZ2 := Lib.hid hz2
  have hsum := allL_sum a b c d s.data.toList
  have hlenL := allL_len a b c d s.data.toList
  rw [data_len] at hsum hlenL
  have hfl : ∃ r, s.data.toList = (allL a b c d s.data.toList).flatten ++ r := by
    by_cases hM : MayC a b c d
    · exact ⟨[], by rw [allL_join a b c d _ hM, List.append_nil]⟩
    · exact ⟨s.data.toList, by unfold allL; rw [if_neg hM]; rfl⟩
  obtain ⟨L, hL⟩ : ∃ L, L = allL a b c d s.data.toList := ⟨_, rfl⟩
  rw [← hL] at AL hsum hlenL hfl ⊢
  obtain ⟨r0, hr0⟩ := hfl
  have HR := Lib.hid hr0
  have hml : (L.map List.length).length = L.length := by simp
  have HML := Lib.hid hml
  clear hi hz0 hz1 hz2 hL hC hr0 hml
  go_enter Tryd.func17, Tryd.ntmps17
  go_wp2_with (with_reducible refine wpList_load_row rfl _ _ rfl w.heap.size rfl 23 C (0, 0) _ gC Tryd.underlying23 rfl HLI.out ?_)
  refine (AL _).mono ?_
  rintro e w1 ⟨v, rfl, ⟨p, cp, rfl, hc⟩, hb1⟩
  have K1 := Below.then' K0 hb1 K0.size
  have HC := Lib.hid hc
  rw [HML.out]
  clear gC K0 hb1 hc AL
  go_wp2
  go_loopw [0, 5, 7] (fun x v y wr => ∃ (i : Nat) (t : ByteArray), i ≤ L.length ∧ y = .int .i64 i ∧ x = .string t ∧ t.data.toList = (L.drop i).flatten ++ r0 ∧ wr.ownsRow w1.heap.size 9 1 v i (stL (strs (L.take i))) ∧ Below w1.heap.size w1 wr) (fun _ _ y _ => L.length - (intOf y).toNat)
  case atStart => exact ⟨0, s, Nat.zero_le _, rfl, rfl, HR.out, World.ownsRow_nil _ _ _ _, Below.refl _ _⟩
  case round =>
    obtain ⟨i, t, hi, rfl, rfl, ht, hown, K⟩ := hrel
    have HO := Lib.hid hown
    clear hown
    by_cases hlt : i < L.length
    · rcases HC.out with h | ⟨bz, off, rfl, hcell⟩
      · have := HML.out; rw [h] at this; simp at this; omega
      have k0 := hcell i (by have := HML.out; omega)
      have k1 := (K.cell (World.block_lt_of_cell? _ _ k0)).trans k0
      have hgd : (L.map List.length).getD i 0 = L[i].length := by simp [List.getD, hlt]
      rw [hgd] at k1
      have hft := flat_take L i hlt
      obtain ⟨x, hx⟩ : ∃ x, x = L[i] := ⟨_, rfl⟩
      rw [← hx] at k1 hft
      obtain ⟨q, hq⟩ : ∃ q, q = x.length := ⟨_, rfl⟩
      rw [← hq] at k1
      rw [hgd, ← hx, ← hq] at k0
      have HK0 := Lib.hid k0
      have hdl := data_len t
      rw [hft] at ht
      have hqt : q ≤ t.size := by rw [← hdl, ht]; simp only [List.length_append]; omega
      have hts : t.size ≤ s.size := by
        have h1 := congrArg List.length HR.out
        have h2 := congrArg List.length ht
        have h3 : L.flatten.length = (L.take i).flatten.length + (L.drop i).flatten.length := by rw [← List.length_append, ← List.flatten_append, List.take_append_drop]
        rw [data_len] at h1 h2
        rw [hft] at h3
        simp only [List.length_append] at h1 h2 h3
        omega
      have hcut := cut_list t q hqt
      have hdr := drop_list t q hqt
      have e1 : (t.extract 0 q) = str x := by
        rw [← str_data (t.extract 0 q), hcut.1, ht, List.append_assoc, hq, List.take_left]
      have e2 : (t.extract q t.size).data.toList = (L.drop (i + 1)).flatten ++ r0 := by
        rw [hdr.1, ht, List.append_assoc, hq, List.drop_left]
      have hsn : stL (strs (L.take (i + 1))) = stL (strs (L.take i)) ++ [.string (str x)] := by
        rw [List.take_succ_eq_append_getElem hlt, ← hx]
        simp [strs, stL]
      have HSN := Lib.hid hsn
      have HE2 := Lib.hid e2
      obtain ⟨tx, htx⟩ : ∃ tx, t.extract 0 q = tx := ⟨_, rfl⟩
      rw [htx] at e1
      rw [← e1] at HSN
      obtain ⟨t2, ht2⟩ : ∃ t2, t.extract q t.size = t2 := ⟨_, rfl⟩
      rw [ht2] at HE2
      have hqi : (q : Int) ≤ t.size := by omega
      have hqn : ((q : Int)).toNat = q := by omega
      have hii : (i : Int) < L.length := by omega
      have hkw : w1.heap.size ≤ wr.heap.size := K.size
      clear k0 hcell hgd hft hx hq hdl ht hcut hdr e1 e2 hsn hlt
      go_wp2_with (at_builtin; refine wpList_append_own _ rfl _ _ 31 rfl w1.heap.size 9 i0 (.string ⟨#[]⟩) 1 16 Tryd.underlying31 HI.out HZ0.out HZ1.out HZ2.out rfl (by decide) _ _ _ rfl (HO.out.alloc _) ⟨wr.heap.size, 0, none⟩ 1 1 [.string tx] rfl rfl ?c1 ?c2 ?c3 ?c4 ?c5 ?_)
      case c1 => exact cell_one_new _ _ _
      case c2 => first | rfl | (intro u hu; simp only [List.mem_singleton] at hu; subst hu; rfl)
      case c3 => unfold maxLen; omega
      case c4 => omega
      case c5 => first | omega | (simp; omega)
      intro v' w4 hown4 hg4 _
      have h6 : Below w1.heap.size w1 w4 := (K.alloc hkw _).grown hg4 (by simp; omega) (fun k hk => (HO.out.lt k hk).1)
      have k2 : w4.cell? ⟨bz, off + i, none⟩ = some (.int .i64 q) := (h6.cell (World.block_lt_of_cell? _ _ HK0.out)).trans HK0.out
      have HO4 := Lib.hid hown4
      clear hown4 hg4 K HO k1
      go_wp2
      go_roundw
      case rel => exact ⟨i + 1, t2, by omega, by go_num, rfl, HE2.out, by rw [HSN.out]; exact HO4.out, h6⟩
      case measure => simp [intOf]; omega
    · obtain rfl : i = L.length := by omega
      have hU : StrAt (strs L) u5 wr := strAt_own (by have := HO.out; rw [List.take_length] at this; rw [strs_len]; exact this)
      have HU := Lib.hid hU
      clear hU HO
      go_wp2
      go_ret
      exact ⟨_, rfl, HU.out, Below.then' K1 K K1.size⟩

/-- The chunks that end, and what is left, where the settings can cut. -/
def doneL (a b c d : Int) (l : List UInt8) : List (List UInt8) := (dn (cutI a b c d) l).1

theorem doneL_len (a b c d : Int) (l : List UInt8) : (doneL a b c d l).length ≤ l.length := by
  have h := dn_join (cutI_le a b c d) _ l (Nat.le_refl _)
  have h1 := len_le_flat _ (dn_pos (cutI_le a b c d) _ l (Nat.le_refl _))
  have h2 := congrArg List.length h
  rw [List.length_append] at h2
  unfold doneL
  omega

set_option maxRecDepth 100000 in
set_option maxHeartbeats 4000000 in
theorem done_any (s : ByteArray) (hs : s.size ≤ 1000000) (C : Array Value) (a b c d : Int) (hC : IsConf C a b c d) (w : World) :
    Calls Tryd.prog 20 #[.string s, .agg C] w fun e w' => ∃ v, e = .returned v ∧ StrAt (strs (doneL a b c d s.data.toList)) v w' ∧ Below w.heap.size w w' := by
  have HLI : Hid ((Tryd.prog.info? 23).map (·.size) = some C.size) := by rw [hC.size]; exact info_conf
  have gC := heap_alloc_last w (.cells C 23)
  have K0 := box_below w (.cells C 23)
  obtain ⟨i0, hi, hz0, hz1, hz2⟩ := info_of infoStr
  have HI := Lib.hid hi
  have HZ0 := Lib.hid hz0
  have HZ1 := Lib.hid hz1
  have HZ2 := Lib.hid hz2
  have hle := cutI_le a b c d
  have CU := fun t (ht : ByteArray.size t ≤ 1000000) w => rcut_any t ht C a b c d hC w
  have hdone : doneL a b c d s.data.toList = (dn (cutI a b c d) s.data.toList).1 := rfl
  rw [hdone]
  obtain ⟨f, hf⟩ : ∃ f, f = cutI a b c d := ⟨_, rfl⟩
  rw [← hf] at hle ⊢
  have CU' : ∀ t, ByteArray.size t ≤ 1000000 → ∀ w, Calls Tryd.prog 12 #[.string t, .agg C] w fun e w' => e = .returned (.int .i64 (f t.data.toList : Nat)) ∧ Below w.heap.size w w' := fun t ht w => by rw [hf]; exact CU t ht w
  have HLE := Lib.hid hle
  obtain ⟨L, hL⟩ : ∃ L, L = s.data.toList := ⟨_, rfl⟩
  rw [← hL]
  have HL := Lib.hid hL
  obtain ⟨w0, hw0⟩ : ∃ w0, w0 = w.alloc (.cells C 23) := ⟨_, rfl⟩
  have g0 : w0.heap[w.heap.size]? = some (.cells C 23 (0, 0)) := by rw [hw0]; exact gC
  have K0' : Below w.heap.size w w0 := by rw [hw0]; exact K0
  have HW0 := Lib.hid hw0
  clear hle CU hf hw0 hi hz0 hz1 hz2 hC hL hdone K0
  go_enter Tryd.func20, Tryd.ntmps20
  go_wp2_with (with_reducible refine wpList_load_row rfl _ _ rfl w.heap.size rfl 23 C (0, 0) _ gC Tryd.underlying23 rfl HLI.out ?_)
  refine (CU' s hs _).mono ?_
  rintro e w1 ⟨rfl, hb1⟩
  rw [← HW0.out] at hb1
  rw [← HL.out]
  clear gC HW0
  go_wp2
  go_loopw [0, 5, 6] (fun x v y wr => ∃ (t : ByteArray) (ls : List ByteArray), x = .string t ∧ t.size ≤ s.size ∧ ls.length + t.size ≤ s.size ∧ y = .int .i64 (f t.data.toList : Nat) ∧ ls ++ strs (dn f t.data.toList).1 = strs (dn f L).1 ∧ wr.ownsRow w0.heap.size 9 1 v ls.length (stL ls) ∧ Below w0.heap.size w0 wr) (fun x _ _ _ => match x with | .string t => t.size | _ => 0)
  case atStart => exact ⟨s, [], rfl, Nat.le_refl _, by simp, by rw [HL.out], by rw [HL.out]; rfl, World.ownsRow_nil _ _ _ _, hb1⟩
  case round =>
    clear hb1
    obtain ⟨t, ls, rfl, hts, hlt, rfl, hsp, hown, K⟩ := hrel
    have gw := (K.block _ (Array.getElem?_eq_some_iff.1 g0).1).trans g0
    have HO := Lib.hid hown
    have HSP := Lib.hid hsp
    have hdl := data_len t
    have hqle := HLE.out t.data.toList
    obtain ⟨q, hq⟩ : ∃ q, q = f t.data.toList := ⟨_, rfl⟩
    rw [← hq] at hqle ⊢
    have HQ := Lib.hid hq
    clear hown hsp
    by_cases h0 : 0 < q
    · have hti : (0 : Int) < q := by omega
      have hcu := dn_cut (f := f) (l := t.data.toList) (by omega) (by omega)
      rw [← hq] at hcu
      have hcut := cut_list t q (by omega)
      have hdr := drop_list t q (by omega)
      have e1 : (t.extract 0 q) = str (t.data.toList.take q) := by rw [← str_data (t.extract 0 q), hcut.1]
      obtain ⟨tx, htx⟩ : ∃ tx, t.extract 0 q = tx := ⟨_, rfl⟩
      rw [htx] at e1
      have hnew : (ls ++ [tx]) ++ strs (dn f (t.extract q t.size).data.toList).1 = strs (dn f L).1 := by
        rw [← HSP.out, hcu, hdr.1, e1]
        simp [strs]
      have hsz2 := hdr.2
      obtain ⟨t2, ht2⟩ : ∃ t2, t.extract q t.size = t2 := ⟨_, rfl⟩
      rw [ht2] at hnew hsz2
      have HNEW := Lib.hid hnew
      have hqi : (q : Int) ≤ t.size := by omega
      have hqn : ((q : Int)).toNat = q := by omega
      have hkw : w0.heap.size ≤ wr.heap.size := K.size
      have hins : stL (ls ++ [tx]) = stL ls ++ [.string tx] := stL_snoc _ _
      have HINS := Lib.hid hins
      clear hcu hcut hdr e1 hnew hins HSP hdl hq HQ
      go_wp2_with (at_builtin; refine wpList_append_own _ rfl _ _ 31 rfl w0.heap.size 9 i0 (.string ⟨#[]⟩) 1 16 Tryd.underlying31 HI.out HZ0.out HZ1.out HZ2.out rfl (by decide) _ _ _ rfl (HO.out.alloc _) ⟨wr.heap.size, 0, none⟩ 1 1 [.string tx] rfl rfl ?c1 ?c2 ?c3 ?c4 ?c5 ?_)
      case c1 => exact cell_one_new _ _ _
      case c2 => first | rfl | (intro u hu; simp only [List.mem_singleton] at hu; subst hu; rfl)
      case c3 => unfold maxLen; omega
      case c4 => omega
      case c5 => first | omega | (simp; omega)
      intro v' w4 hown4 hg4 _
      have h6 : Below w0.heap.size w0 w4 := (K.alloc hkw _).grown hg4 (by simp; omega) (fun k hk => (HO.out.lt k hk).1)
      have gw4 := (h6.block _ (Array.getElem?_eq_some_iff.1 g0).1).trans g0
      have HO4 := Lib.hid hown4
      clear hown4 hg4 K HO gw
      go_wp2_with (with_reducible refine wpList_load_row rfl _ _ rfl w.heap.size rfl 23 C (0, 0) _ gw4 Tryd.underlying23 rfl HLI.out ?_)
      refine (CU' t2 (by omega) _).mono ?_
      rintro e w5 ⟨rfl, hb5⟩
      have h7 := Below.then' h6 hb5 h6.size
      have HO5 := Lib.hid (own_later HO4.out hb5)
      clear h6 hb5 HO4 gw4
      go_wp2
      go_roundw
      case rel => exact ⟨t2, ls ++ [tx], rfl, by omega, by simp; omega, rfl, HNEW.out, by rw [HINS.out, List.length_append]; exact HO5.out, h7⟩
      case measure => simp only []; omega
    · have hd0 : dn f t.data.toList = ([], t.data.toList) := dn_zero (by omega)
      have hsp := HSP.out
      rw [hd0] at hsp
      have hsp2 : ls = strs (dn f L).1 := by rw [← hsp]; simp [strs]
      have hU : StrAt ls u5 wr := strAt_own HO.out
      rw [hsp2] at hU
      have hti : ¬ (0 : Int) < q := by omega
      have HU := Lib.hid hU
      clear hU HO hsp hsp2 HSP hd0
      go_wp2
      go_ret
      exact ⟨_, rfl, HU.out, Below.then' K0' K K0'.size⟩

end Go.Proofs.YtimllddlcjnikaaDoor
