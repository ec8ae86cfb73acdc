/- The landed iterator of blob.Each, over a copy of the runs: it keeps Each's contract. -/
import Derived.Test.YtppbknlhknadbaaGF
import Derived.Test.YtppbknlhknadbaaEcB
namespace Go.Proofs.Ytppbknlhknadbaa
open Go.RowKit Go.Shelf
attribute [local go_sem] Oper.semAt_some

/-- All rows of cells of some blocks stand. -/
def RowsK (w W : World) (Rd : Nat → Prop) : Prop := ∀ (k : Nat) (cs : Array Value) (T : TypeId) (fr : Nat × Nat), Rd k → w.heap[k]? = some (.cells cs T fr) → W.heap[k]? = some (.cells cs T fr)
theorem RowsK.cell {w W : World} {Rd : Nat → Prop} (h : RowsK w W Rd) {b o : Nat} {v : Value} (hb : Rd b) (hc : w.cell? ⟨b, o, none⟩ = some v) : W.cell? ⟨b, o, none⟩ = some v := by
  cases hr : w.heap[b]? with
  | none => simp [World.cell?, hr] at hc
  | some ob =>
    cases ob with
    | cells cs T fr => rw [cell_of_row _ _ _ _ _ _ (h b cs T fr hb hr)]; rw [cell_of_row _ _ _ _ _ _ hr] at hc; exact hc
    | _ => simp [World.cell?, hr] at hc
theorem RowsK.kept {w W : World} {Rd : Nat → Prop} (h : Kept w W) : RowsK w W Rd := fun _ _ _ _ _ hr => h.row hr
theorem RowsK.then_kept {w W W' : World} {Rd : Nat → Prop} (h : RowsK w W Rd) (k : Kept W W') : RowsK w W' Rd := fun j cs T fr hj hr => k.row (h j cs T fr hj hr)
theorem RowsK.round {w W W' : World} {Rd : Nat → Prop} {Ft : World → Nat → Prop} {G : World → Prop} (h : RowsK w W Rd) (hF : Foot Ft G Rd) (hG : G W) (k : KpF Ft G W W') : RowsK w W' Rd :=
  fun j cs T fr hj hr => k.row hG j cs T fr (h j cs T fr hj hr) (fun x => hF.low W j hG x hj)
/-- What the iterator reads: its box, the runs. -/
def RdE (bx : Nat) (v : Value) (k : Nat) : Prop := k = bx ∨ ∃ (a : Addr) (n c : Nat), v = .slice (some a) n c ∧ n ≠ 0 ∧ a.block = k
theorem Kept.grown {W W' : World} (h : Kept W W') : W.grownBy W' none := ⟨h.os, h.tape, h.output, h.size, fun k hk _ => h.block k hk⟩
theorem abides_kept {β : Type} {B : Nat} {J : β → World → Prop} (hJ : AbidesFrom B J) {s : β} {W W' : World} (h : J s W) (k : Kept W W') : J s W' := hJ s W W' none h (Kept.grown k) (fun r e => by cases e)
def fsL (l : List Nat) : List (Fin 8192) := l.map (Fin.ofNat 8192)
theorem fsL_append (a b : List Nat) : fsL (a ++ b) = fsL a ++ fsL b := List.map_append
theorem allR_split (l : List (Int × Int)) (i : Nat) (h : i < l.length) : allR l = allR (l.take i) ++ secR l[i] ++ allR (l.drop (i + 1)) := by
  rw [← allR_take l i h]
  have e : l = l.take (i + 1) ++ l.drop (i + 1) := (List.take_append_drop _ _).symm
  conv => lhs; rw [e]
  unfold allR
  exact List.flatMap_append

theorem pre_ok {A S R : List Nat} {k x : Nat} {xf : Fin 8192} (hx : xf = Fin.ofNat 8192 x) (h : S.take (k + 1) = S.take k ++ [x]) : fsL (A ++ S.take k) ++ [xf] <+: fsL (A ++ S ++ R) := by
  subst hx
  refine ⟨fsL (S.drop (k + 1) ++ R), ?_⟩
  have e : fsL (A ++ S.take k) ++ [Fin.ofNat 8192 x] = fsL (A ++ S.take (k + 1)) := by
    rw [h, ← List.append_assoc, fsL_append (A ++ S.take k)]
    rfl
  rw [e, ← fsL_append]
  congr 1
  rw [List.append_assoc, ← List.append_assoc (S.take (k + 1)), List.take_append_drop, ← List.append_assoc]

set_option maxRecDepth 100000 in
set_option maxHeartbeats 4000000 in
theorem each1_any (l : List (Int × Int)) (hv : validL 0 8192 l) (v : Value) (w : World) (h : RunsAt l v w) (hl : l.length ≤ 65536) (bx : Nat) (T : TypeId) (hrow : w.heap[bx]? = some (.cells #[v] T (0, 0))) :
    IterAt 58 #[.pointer (some ⟨bx, 0, none⟩)] (fsL (allR l)) (RdE bx v) w := by
  intro W0 Ft G hk0 hG0 hF nn hnn lq J Jx W hW hJ hJx hY h0
  have hkW : Kept w W := hk0.then hW
  have hGW : G W := hF.good W0 W hG0 hW
  have hbc : W.cell? ⟨bx, 0, none⟩ = some v := by rw [cell_of_row _ _ _ _ _ _ (hkW.row hrow)]; rfl
  have hbxl : bx < w.heap.size := (Array.getElem?_eq_some_iff.1 hrow).1
  have hbw : w.cell? ⟨bx, 0, none⟩ = some v := by rw [cell_of_row _ _ _ _ _ _ hrow]; rfl
  refine callsIn_of_wp Try.func58 rfl trivial ?_ rfl
  simp only [Try.ntmps58, List.size_toArray, List.length_cons, List.length_nil, Nat.reduceAdd, Nat.reduceSub, Array.replicate_succ, Array.replicate_zero, List.push_toArray, List.append_toArray, List.nil_append, List.cons_append]
  have hnv := validL_nonneg hv
  obtain ⟨p, c, rfl, -, hc⟩ := h.out
  obtain ⟨Rd, hRd⟩ : ∃ Rd, Rd = RdE bx (.slice p l.length c) := ⟨_, rfl⟩
  have HRD := Lib.hid hRd
  rw [← hRd] at hF
  clear hRd
  have hk1 : Kept W W := Kept.refl W
  have hbc1 := hbc
  have hJ1 : Hid (J (fsL (allR (l.take 0))) W) := Lib.hid (h0)
  have hG1 : Hid (G W) := Lib.hid hGW
  have hR1 : Hid (RowsK w W Rd) := Lib.hid (RowsK.kept hkW)
  have HC := Lib.hid hc
  have HNV := Lib.hid hnv
  obtain ⟨n, hn⟩ : ∃ n, n = l.length := ⟨_, rfl⟩
  have HN := Lib.hid hn
  rw [← hn] at hbc hl
  clear hc hnv hbw hn hk1 hbc1 h0 hGW hkW hbxl hW hk0 hG0 h hrow hv
  gi_wp2
  gi_loopw [8] (fun s wr => ∃ i : Nat, i ≤ n ∧ s = .int .i64 i ∧ Hid (J (fsL (allR (l.take i))) wr) ∧ Hid (G wr) ∧ Hid (RowsK w wr Rd)) (fun s _ => n - (intOf s).toNat)
  case atStart => exact ⟨0, Nat.zero_le _, rfl, hJ1, hG1, hR1⟩
  case round =>
    clear hJ1 hG1 hR1
    obtain ⟨i, hi, rfl, HJ, HG, HR⟩ := hrel
    obtain ⟨i1, hi1⟩ : ∃ i1, i1 = i + 1 := ⟨_, rfl⟩
    have v1 : IntKind.i64.wrap ((i : Int) + 1) = (i1 : Int) := by rw [show (i : Int) + 1 = (i1 : Int) by omega]; exact IntWalk.i64_in _ (by omega)
    by_cases hin : i < n
    · have hki : (i : Int) < n := by omega
      have bk : decide ((i : Int) < (n : Int)) = true := by simpa using hki
      have hki0 : (0 : Int) ≤ i := by omega
      have hil : i < l.length := by rw [← HN.out]; exact hin
      rcases HC.out with h0 | ⟨bb, ob, rfl, hcell⟩
      · have := HN.out; omega
      have hci := hcell i hil
      have hbl : Rd bb := by rw [HRD.out]; exact Or.inr ⟨_, _, _, rfl, by omega, rfl⟩
      have hnr := HNV.out _ (List.getElem_mem hil)
      have hat := allR_split l i hil
      have hat2 := allR_take l i hil
      obtain ⟨r, hr⟩ : ∃ r, r = l[i] := ⟨_, rfl⟩
      rw [← hr] at hci hnr hat hat2
      obtain ⟨a, m⟩ := r
      simp only at hci hnr hbl
      obtain ⟨an, rfl⟩ : ∃ k : Nat, a = k := ⟨a.toNat, by omega⟩
      obtain ⟨mn, rfl⟩ : ∃ k : Nat, m = k := ⟨m.toNat, by omega⟩
      have HNR : Hid (an + mn ≤ 8192) := Lib.hid (by omega)
      have c0 := HR.out.cell hbl hci.1
      have c1 := HR.out.cell hbl hci.2
      have HAT := Lib.hid hat
      have HAT2 := Lib.hid hat2
      have HI1 := Lib.hid hi1
      clear hr hci hnr hat hat2 hcell
      gi_wp2
      have hkA : Kept wr (wr.alloc (.cells #[.int .i64 an, .int .i64 mn] 66)) := box_below wr _
      have HB2 : Hid ((wr.alloc (.cells #[.int .i64 an, .int .i64 mn] 66)).heap[wr.heap.size]? = some (.cells #[.int .i64 an, .int .i64 mn] 66 (0, 0)) ∧ ¬ Ft (wr.alloc (.cells #[.int .i64 an, .int .i64 mn] 66)) wr.heap.size) :=
        Lib.hid ⟨heap_alloc_last wr _, fun x => Nat.lt_irrefl _ (hF.lt wr _ HG.out (hF.later _ _ _ HG.out hkA x))⟩
      have HJ2 : Hid (J (fsL (allR (l.take i) ++ (secR ((an : Int), (mn : Int))).take 0)) (wr.alloc (.cells #[.int .i64 an, .int .i64 mn] 66))) := Lib.hid (by
        rw [List.take_zero, List.append_nil]; exact abides_kept hJ HJ.out hkA)
      have HG2 : Hid (G (wr.alloc (.cells #[.int .i64 an, .int .i64 mn] 66))) := Lib.hid (hF.good _ _ HG.out hkA)
      have HR2 : Hid (RowsK w (wr.alloc (.cells #[.int .i64 an, .int .i64 mn] 66)) Rd) := Lib.hid (HR.out.then_kept hkA)
      obtain ⟨W2, hW2⟩ : ∃ W2, W2 = wr.alloc (.cells #[.int .i64 an, .int .i64 mn] 66) := ⟨_, rfl⟩
      rw [← hW2] at HB2 HJ2 HG2 HR2 ⊢
      obtain ⟨br, hbr⟩ : ∃ br, br = wr.heap.size := ⟨_, rfl⟩
      rw [← hbr] at HB2 ⊢
      clear hW2 hkA hbr HJ HG HR c0 c1
      gi_loopw [14] (fun s wr => ∃ k : Nat, k ≤ mn ∧ s = .int .i64 k ∧ Hid (J (fsL (allR (l.take i) ++ (secR ((an : Int), (mn : Int))).take k)) wr) ∧ Hid (G wr) ∧ Hid (RowsK w wr Rd) ∧ Hid (wr.heap[br]? = some (.cells #[.int .i64 an, .int .i64 mn] 66 (0, 0)) ∧ ¬ Ft wr br)) (fun s _ => mn - (intOf s).toNat)
      case atStart => exact ⟨0, Nat.zero_le _, rfl, HJ2, HG2, HR2, HB2⟩
      case round =>
        clear HJ2 HG2 HR2 HB2
        obtain ⟨k, hk, rfl, HJ, HG, HR, HB⟩ := hrel
        have q0 : wr.cell? ⟨br, 0, none⟩ = some (.int .i64 an) := by rw [cell_of_row _ _ _ _ _ _ HB.out.1]; rfl
        by_cases hkn : k < mn
        · have hkk : (k : Int) < mn := by omega
          have bq : decide ((k : Int) < (mn : Int)) = true := by simpa using hkk
          have hnr := HNR.out
          obtain ⟨k1, hk1⟩ : ∃ k1, k1 = k + 1 := ⟨_, rfl⟩
          have v2 : IntKind.i64.wrap ((k : Int) + 1) = (k1 : Int) := by rw [show (k : Int) + 1 = (k1 : Int) by omega]; exact IntWalk.i64_in _ (by omega)
          obtain ⟨x, hx⟩ : ∃ x, x = an + k := ⟨_, rfl⟩
          obtain ⟨xf, hxf⟩ : ∃ xf : Fin 8192, xf = Fin.ofNat 8192 x := ⟨_, rfl⟩
          have hxv : xf.val = x := by rw [hxf]; exact Nat.mod_eq_of_lt (by omega)
          have v3 : IntKind.i64.wrap ((an : Int) + (k : Int)) = (xf.val : Int) := by rw [hxv, show (an : Int) + (k : Int) = (x : Int) by omega]; exact IntWalk.i64_in _ (by omega)
          have hst : (secR ((an : Int), (mn : Int))).take (k + 1) = (secR ((an : Int), (mn : Int))).take k ++ [x] := by
            rw [secR_take _ _ (by show k < (mn : Int).toNat; omega), hx]
            show _ ++ [(an : Int).toNat + k] = _
            rw [Int.toNat_natCast]
          have hpre := pre_ok (A := allR (l.take i)) (R := allR (l.drop (i + 1))) hxf hst
          rw [← HAT.out] at hpre
          have hlen : (fsL (allR (l.take i) ++ (secR ((an : Int), (mn : Int))).take k)).length < (fsL (allR l)).length := by
            have := hpre.length_le
            simp only [List.length_append, List.length_cons, List.length_nil] at this ⊢
            omega
          have HPRE := Lib.hid hpre
          have HST : Hid (fsL (allR (l.take i) ++ (secR ((an : Int), (mn : Int))).take k) ++ [xf] = fsL (allR (l.take i) ++ (secR ((an : Int), (mn : Int))).take k1)) := Lib.hid (by
            rw [hk1, hst, ← List.append_assoc, fsL_append (allR (l.take i) ++ _), hxf]; rfl)
          obtain ⟨fn, tmps, assign, body, hy, hRd⟩ := hY _ xf wr HJ.out hlen
          have HK1 := Lib.hid hk1
          clear hst hpre hlen hx hnr hk1 hxf hxv
          gi_wp2
          refine ⟨fun _ => by omega, hRd.mono ?_⟩
          rintro e W3 (⟨rfl, hJ3, hk3⟩ | ⟨rfl, hJx3⟩)
          · have HJ3 : Hid (J (fsL (allR (l.take i) ++ (secR ((an : Int), (mn : Int))).take k1)) W3) := Lib.hid (by rw [← HST.out]; exact hJ3)
            have HG3 : Hid (G W3) := Lib.hid (hk3.good HG.out)
            have HR3 : Hid (RowsK w W3 Rd) := Lib.hid (HR.out.round hF HG.out hk3)
            have HB3 : Hid (W3.heap[br]? = some (.cells #[.int .i64 an, .int .i64 mn] 66 (0, 0)) ∧ ¬ Ft W3 br) := Lib.hid
              ⟨hk3.row HG.out _ _ _ _ HB.out.1 HB.out.2, fun x => (hk3.foot HG.out br x).elim (fun y => HB.out.2 y) (fun y => Nat.lt_irrefl _ (Nat.lt_of_lt_of_le (Array.getElem?_eq_some_iff.1 HB.out.1).1 y))⟩
            clear hJ3 hk3
            gi_wp2
            go_roundw
            case rel => exact ⟨k1, by have := HK1.out; omega, by first | rfl | (have := HK1.out; simp; omega), HJ3, HG3, HR3, HB3⟩
            case measure => have := HK1.out; simp [intOf]; omega
          · gi_wp2
            refine bodyPost_ret (results_none rfl _ _ _) rfl ?_
            exact ⟨⟨_, rfl⟩, .inr ⟨_, HPRE.out, hJx3⟩⟩
        · have hkk : ¬ (k : Int) < mn := by omega
          have bq : decide ((k : Int) < (mn : Int)) = false := by simpa using hkk
          have hke : k = mn := by omega
          have HJ6 : Hid (J (fsL (allR (l.take i1))) wr) := Lib.hid (by
            rw [HI1.out, HAT2.out]
            have h := HJ.out
            rw [hke, List.take_of_length_le (l := secR ((an : Int), (mn : Int))) (by rw [secR_len]; show (mn : Int).toNat ≤ mn; omega)] at h
            exact h)
          clear HJ hi1
          gi_wp2
          go_roundw
          case rel => exact ⟨i1, by have := HI1.out; omega, by first | rfl | (have := HI1.out; simp; omega), HJ6, HG, HR⟩
          case measure => have := HI1.out; simp [intOf]; omega
    · have hki : ¬ (i : Int) < n := by omega
      have bk : decide ((i : Int) < (n : Int)) = false := by simpa using hki
      have hie : i = n := by omega
      have HJ6 : J (fsL (allR l)) wr := by
        have h := HJ.out
        rw [hie, List.take_of_length_le (by rw [← HN.out]; exact Nat.le_refl _)] at h
        exact h
      gi_wp2
      go_end0
      first | exact ⟨⟨_, rfl⟩, .inl ⟨_, rfl, HJ6⟩⟩ | exact ⟨⟨_, rfl⟩, .inl HJ6⟩

theorem fsL_secF {l : List (Int × Int)} (hv : validL 0 8192 l) : fsL (allR l) = secF l := by unfold secF; rw [show secsL l = allR l from if_pos hv]; rfl
theorem validL_nil (a b : Int) : validL a b [] := fun i hi => absurd hi (Nat.not_lt_zero i)

set_option maxRecDepth 100000 in
set_option maxHeartbeats 4000000 in
theorem beach_of (HMY : XMayOk) : BEachOk := fun l v w h hl => by
  have hk0 : Kept w (w.alloc (.cells #[.slice none 0 0] 22)) := box_below w _
  have hb0 : Boxed (w.alloc (.cells #[.slice none 0 0] 22)) w.heap.size 22 (.slice none 0 0) := Boxed.new w _ _
  have CM := HMY l v _ 0 8192 (h.later hk0) hl (by unfold I64; omega) (by unfold I64; omega)
  have HO : Hid (OwnFnE 58) := Lib.hid (fun args W => enters_of Try.func58 (by kernel_rfl) rfl args W)
  have HW := Lib.hid h.wf
  have HH := Lib.hid h
  have HK0 := Lib.hid hk0
  have HB0 := Lib.hid hb0
  obtain ⟨p, c, rfl, -, -⟩ := h.out
  by_cases hv : validL 0 8192 l
  · rw [decide_eq_true hv] at CM
    have CC := fun W (k : Kept w W) => rclone_any (.slice p l.length c) l (by omega) W (HH.out.later k)
    have HE := Lib.hid (fun v' W hr hx => each1_any l hv v' W hr hl w.heap.size 22 hx)
    obtain ⟨L, hL⟩ : ∃ L, L = fsL (allR l) := ⟨_, rfl⟩
    have hs := fsL_secF hv
    rw [← hL] at HE hs
    rw [← hs]
    obtain ⟨n, hn⟩ : ∃ n, n = l.length := ⟨_, rfl⟩
    rw [← hn] at CM CC HH ⊢
    clear hL hs hn h hv hk0 hb0 hl
    go_enter Try.func29, Try.ntmps29
    go_wp2_with fail
    refine CM.mono ?_
    rintro e W2 ⟨rfl, hk2⟩
    have HK2 : Hid (Kept w W2) := Lib.hid (HK0.out.then hk2)
    have HB2 : Hid (Boxed W2 w.heap.size 22 (.slice none 0 0)) := Lib.hid (Kept.row hk2 HB0.out)
    have C2 := CC W2 HK2.out
    clear CM CC hk2 HB0 HK0
    go_wp2_with fail
    refine C2.mono ?_
    rintro e W3 ⟨v', rfl, ho, hk3⟩
    have hb3 : Boxed W3 w.heap.size 22 (.slice none 0 0) := Kept.row hk3 HB2.out
    have hc3 := hb3.cell
    have hf3 := hb3.frozen
    have HLT : Hid (w.heap.size < W2.heap.size) := Lib.hid HB2.out.lt
    obtain ⟨p', c', hv', -, -⟩ := own_slice ho
    subst hv'
    have HL3 : Hid (LiveAt l (.slice p' l.length c') (fun k => k = w.heap.size) W3) := Lib.hid (LiveAt.own ho HW.out (fun k hk => by rw [hk]; exact HLT.out))
    have HRD : Hid (∀ k, RdE w.heap.size (.slice p' l.length c') k → k < W3.heap.size ∧ w.heap.size ≤ k) := Lib.hid (fun k hk => by
      rcases hk with rfl | ⟨a, n1, c1, e, hn1, ha⟩
      · exact ⟨hb3.lt, Nat.le_refl _⟩
      · have h1 : (Value.slice p' l.length c').ownBlock = some k := by rw [e]; exact congrArg some ha
        have h2 := ho.lt k h1
        have := HLT.out
        exact ⟨h2.2, by omega⟩)
    have HK3 : Hid (Kept w W3) := Lib.hid (HK2.out.then hk3)
    have HB3 := Lib.hid hb3
    obtain ⟨n1, hn1⟩ : ∃ n1, n1 = l.length := ⟨_, rfl⟩
    rw [← hn1] at HL3 HRD ⊢
    clear ho hk3 hb3 C2 HB2 hn1
    go_wp2
    go_ret
    have HS : W3.heap.size = (W3.setCell ⟨w.heap.size, 0, none⟩ (.slice p' n1 c')).heap.size := by simp
    refine ⟨⟨_, _, RdE w.heap.size (.slice p' n1 c'), rfl, HO.out, HE.out _ _ (HL3.out.at_.but HL3.out.apart ((but_refl _ W3).setCell _ 0 _ rfl)) (HB3.out.set _), fun k hk => ⟨by rw [← HS]; exact (HRD.out k hk).1, Or.inl (HRD.out k hk).2⟩⟩, ?_⟩
    exact (show Kept w W3 from HK3.out).setCell (p := ⟨w.heap.size, 0, none⟩) (Nat.le_refl _) _
  · rw [decide_eq_false hv] at CM
    have hs : secF l = [] := by unfold secF; rw [show secsL l = [] from if_neg hv]; rfl
    have HE := Lib.hid (fun W hx => each1_any [] (validL_nil 0 8192) (.slice none 0 0) W (RunsAt.nil W 0) (Nat.zero_le _) w.heap.size 22 hx)
    rw [hs]
    obtain ⟨n, hn⟩ : ∃ n, n = l.length := ⟨_, rfl⟩
    rw [← hn] at CM HH ⊢
    clear hs hn h hv hk0 hb0 hl
    go_enter Try.func29, Try.ntmps29
    go_wp2_with fail
    refine CM.mono ?_
    rintro e W2 ⟨rfl, hk2⟩
    have HK2 : Hid (Kept w W2) := Lib.hid (HK0.out.then hk2)
    have HB2 : Hid (Boxed W2 w.heap.size 22 (.slice none 0 0)) := Lib.hid (Kept.row hk2 HB0.out)
    clear CM hk2 HB0 HK0
    go_wp2
    go_ret
    refine ⟨⟨_, _, RdE w.heap.size (.slice none 0 0), rfl, HO.out, HE.out _ HB2.out, fun k hk => ?_⟩, HK2.out⟩
    rcases hk with rfl | ⟨a, n1, c1, e, _, _⟩
    · exact ⟨HB2.out.lt, Or.inl (Nat.le_refl _)⟩
    · cases e

end Go.Proofs.Ytppbknlhknadbaa
