/- The statement's sectors: the walk of sector. The document's disk in memory; the walks of its Read, cut. The document's disk: the walks of cut, Write. The document's disk: the walks of stand, Flush, Power. -/
import Derived.Test.YtoigembmbajopaaDoorRows
import Derived.Test.YtoigembmbajopaaDoorGB
import Derived.Test.YtoigembmbajopaaDoorGG
import Derived.Deep.LoopGhost
import Derived.Laws.Concat
namespace Go.Proofs.YtoigembmbajopaaDoor
open Go.RowKit

theorem str_of (s : ByteArray) : str s.data.toList = s := str_data s
theorem str_len (s : ByteArray) : s.data.toList.length = s.size := data_len s

theorem str_extract (l : List UInt8) (a n : Nat) (_ : a + n ≤ l.length) : (str l).extract a (a + n) = str ((l.drop a).take n) := by
  have h1 := Lib.extract_eq (str l) a (a + n)
  rw [h1, str_list]
  unfold str
  congr 2
  rw [show a + n - a = n by omega]

end Go.Proofs.YtoigembmbajopaaDoor
namespace Go.Proofs.YtoigembmbajopaaDoor
open Go.RowKit

def stC (L : List (List UInt8)) : List Value := L.map fun l => Value.string (str l)
def wtC (ws : List (Nat × List UInt8)) : List Value := ws.flatMap fun p => [Value.int .i64 (p.1 : Int), Value.string (str p.2)]

theorem stC_len (L : List (List UInt8)) : (stC L).length = L.length := by simp [stC]
theorem stC_get (L : List (List UInt8)) (i : Nat) (h : i < L.length) : (stC L)[i]? = some (.string (str L[i])) := by simp [stC, h]
theorem stC_one (L : List (List UInt8)) : ∀ x ∈ stC L, x.oneCell' = true := fun x hx => by
  obtain ⟨l, _, rfl⟩ := List.mem_map.1 hx; rfl
theorem stC_append (a b : List (List UInt8)) : stC (a ++ b) = stC a ++ stC b := List.map_append
theorem stC_set (L : List (List UInt8)) (i : Nat) (l : List UInt8) : (stC L).set i (.string (str l)) = stC (L.set i l) := by
  unfold stC; rw [List.map_set]

theorem wtC_len : ∀ (ws : List (Nat × List UInt8)), (wtC ws).length = ws.length * 2
  | [] => rfl
  | p :: ws => by
    show ([Value.int .i64 (p.1 : Int), Value.string (str p.2)] ++ wtC ws).length = (ws.length + 1) * 2
    rw [List.length_append, wtC_len ws]; simp; omega
theorem wtC_one (ws : List (Nat × List UInt8)) : ∀ x ∈ wtC ws, x.oneCell' = true := fun x hx => by
  obtain ⟨p, _, hp⟩ := List.mem_flatMap.1 hx
  simp only [List.mem_cons, List.not_mem_nil, or_false] at hp
  rcases hp with rfl | rfl <;> rfl
theorem wtC_append (a b : List (Nat × List UInt8)) : wtC (a ++ b) = wtC a ++ wtC b := List.flatMap_append
theorem wtC_get : ∀ (ws : List (Nat × List UInt8)) (k : Nat) (h : k < ws.length), (wtC ws)[k * 2]? = some (.int .i64 (ws[k].1 : Int)) ∧ (wtC ws)[k * 2 + 1]? = some (.string (str ws[k].2))
  | p :: ws, 0, _ => ⟨rfl, rfl⟩
  | p :: ws, k + 1, h => by
    have ih := wtC_get ws k (by simpa using h)
    have e : wtC (p :: ws) = [Value.int .i64 (p.1 : Int), Value.string (str p.2)] ++ wtC ws := rfl
    rw [e, List.getElem?_append_right (by simp; omega), List.getElem?_append_right (by simp; omega)]
    simp only [List.length_cons, List.length_nil, List.getElem_cons_succ]
    rw [show (k + 1) * 2 - (0 + 1 + 1) = k * 2 by omega, show (k + 1) * 2 + 1 - (0 + 1 + 1) = k * 2 + 1 by omega]
    exact ih

def rA (s : Dk) (vs vw : Value) : Array Value := #[vs, vw, .int .i64 s.fuse, .int .i64 (s.ops : Int), .bool s.down]
/-- The document's disk in the block g. -/
structure RAt (B g : Nat) (s : Dk) (vs vw : Value) (w : World) : Prop where -- fit: whole
  base : B ≤ g
  row : w.heap[g]? = some (.cells (rA s vs vw) 59 (0, 0))
  st : w.ownsRow B 9 1 vs s.stands.length (stC s.stands)
  wt : w.ownsRow B 143 2 vw s.waits.length (wtC s.waits)

def RBs (g : Nat) (vs vw : Value) (k : Nat) : Prop := k = g ∨ vs.ownBlock = some k ∨ vw.ownBlock = some k

section
variable {B g : Nat} {s : Dk} {vs vw : Value} {w : World} (h : RAt B g s vs vw w)
include h

theorem RAt.stay {w' : World} (hk : ∀ k, RBs g vs vw k → w'.heap[k]? = w.heap[k]?) : RAt B g s vs vw w' :=
  ⟨h.base, by rw [hk g (Or.inl rfl)]; exact h.row, own_stay h.st (fun k e => hk k (Or.inr (Or.inl e))), own_stay h.wt (fun k e => hk k (Or.inr (Or.inr e)))⟩

theorem RAt.lt : ∀ k, RBs g vs vw k → B ≤ k ∧ k < w.heap.size := by
  intro k hk
  rcases hk with rfl | e | e
  · exact ⟨h.base, (Array.getElem?_eq_some_iff.1 h.row).1⟩
  · exact h.st.lt k e
  · exact h.wt.lt k e

theorem RAt.kept {w' : World} (k : Kept w w') : RAt B g s vs vw w' := h.stay (fun j hj => k.block j (h.lt j hj).2)

theorem RAt.cell (i : Nat) (x : Value) (hx : (rA s vs vw)[i]? = some x) : w.cell? ⟨g, i, none⟩ = some x := by rw [cell_of_row _ _ _ _ _ _ h.row]; exact hx
theorem RAt.froz (i : Nat) : w.frozen? ⟨g, i, none⟩ = false := frozen_of_row _ _ _ _ _ h.row

/-- The three blocks are apart. -/
theorem RAt.apart : vs.ownBlock ≠ some g ∧ vw.ownBlock ≠ some g ∧ ∀ k, vs.ownBlock = some k → vw.ownBlock ≠ some k := by
  refine ⟨fun e => ?_, fun e => ?_, fun k e1 e2 => ?_⟩
  · obtain ⟨cur, hc⟩ := own_typ h.st g e
    rw [h.row] at hc; simp at hc
  · obtain ⟨cur, hc⟩ := own_typ h.wt g e
    rw [h.row] at hc; simp at hc
  · obtain ⟨c1, hc1⟩ := own_typ h.st k e1
    obtain ⟨c2, hc2⟩ := own_typ h.wt k e2
    rw [hc1] at hc2; simp at hc2
end

set_option maxRecDepth 100000 in
set_option maxHeartbeats 1000000 in
/-- The document's Read. -/
theorem rread_any {B g : Nat} {s : Dk} {vs vw : Value} {w : World} (h : RAt B g s vs vw w) (hok : s.ok) (hlo : s.ops ≤ 4294967296) (i : Int) :
    Calls Tryd.prog 72 #[.pointer (some ⟨g, 0, none⟩), .int .i64 i] w fun e w' => e = .returned (.tuple #[.string (str (s.readT i)), .int .i64 (s.readE i)]) ∧ w = w' := by
  have c4 : w.cell? ⟨g, 4, none⟩ = some (.bool s.down) := h.cell 4 _ rfl
  by_cases hd : s.down = true
  · have e1 : s.readE i = 90 := by unfold Dk.readE; rw [if_pos hd]
    have e2 : str (s.readT i) = ⟨#[]⟩ := by unfold Dk.readT; rw [if_pos (Or.inl hd)]; rfl
    rw [e1, e2]
    rw [hd] at c4
    clear h hok e1 e2 hd
    go_enter Tryd.func72, Tryd.ntmps72
    go_wp2
    first | go_ret | go_ret2
    exact ⟨rfl, rfl⟩
  · have hdf : s.down = false := by simpa using hd
    rw [hdf] at c4
    obtain ⟨ps, cs, hvs, -, hcs⟩ := own_slice h.st
    obtain ⟨pw, cw, hvw, -, hcw⟩ := own_slice h.wt
    have c0 : w.cell? ⟨g, 0, none⟩ = some vs := h.cell 0 _ rfl
    have c1 : w.cell? ⟨g, 1, none⟩ = some vw := h.cell 1 _ rfl
    rw [hvs] at c0
    rw [hvw] at c1
    by_cases ho : s.out i
    · have e1 : s.readE i = 5 := by unfold Dk.readE; rw [if_neg hd, if_pos ho]
      have e2 : str (s.readT i) = ⟨#[]⟩ := by unfold Dk.readT; rw [if_pos (Or.inr ho)]; rfl
      rw [e1, e2]
      unfold Dk.out at ho
      obtain ⟨n, hn⟩ : ∃ n, n = s.stands.length := ⟨_, rfl⟩
      rw [← hn] at c0 ho
      clear h hok e1 e2 hd hdf hcs hcw hvs hvw hn c1
      by_cases h0 : i < 0
      · go_enter Tryd.func72, Tryd.ntmps72
        go_wp2
        first | go_ret | go_ret2
        exact ⟨rfl, rfl⟩
      · have h1 : (n : Int) ≤ i := by omega
        go_enter Tryd.func72, Tryd.ntmps72
        go_wp2
        first | go_ret | go_ret2
        exact ⟨rfl, rfl⟩
    · have e1 : s.readE i = 0 := by unfold Dk.readE; rw [if_neg hd, if_neg ho]
      have e2 : s.readT i = s.vis i.toNat := by unfold Dk.readT; rw [if_neg (fun x => x.elim hd ho)]
      rw [e1, e2]
      unfold Dk.out at ho
      obtain ⟨q, rfl⟩ : ∃ q : Nat, i = q := ⟨i.toNat, by omega⟩
      have hq : q < s.stands.length := by omega
      rcases hcs with h0 | ⟨gs, rfl, hBg, hcell⟩
      · omega
      have cq := hcell q _ (stC_get s.stands q hq)
      have ev : s.vis ((q : Int).toNat) = visK q s.stands[q] s.waits := by
        unfold Dk.vis
        rw [Int.toNat_natCast, List.getD_eq_getElem?_getD, List.getElem?_eq_getElem hq]; rfl
      rw [ev]
      obtain ⟨t0, ht0⟩ : ∃ t, t = s.stands[q] := ⟨_, rfl⟩
      rw [← ht0] at cq ⊢
      have HCW := Lib.hid hcw
      have few := hok.few
      have hwb : s.waits.length ≤ 4294967296 := by omega
      obtain ⟨ws, hws⟩ : ∃ ws, ws = s.waits := ⟨_, rfl⟩
      rw [← hws] at HCW c1 hwb ⊢
      obtain ⟨n, hn⟩ : ∃ n, n = s.stands.length := ⟨_, rfl⟩
      rw [← hn] at c0 hq
      obtain ⟨m, hm⟩ : ∃ m, m = ws.length := ⟨_, rfl⟩
      rw [← hm] at HCW c1 hwb
      have HM := Lib.hid hm
      have hq0 : ¬ (q : Int) < 0 := by omega
      have hqn : ¬ (n : Int) ≤ q := by omega
      have hqi : (q : Int) < n := by omega
      obtain ⟨tx, htx⟩ : ∃ tx, tx = str (visK q t0 ws) := ⟨_, rfl⟩
      rw [← htx]
      have HX := Lib.hid htx
      obtain ⟨ty, hty⟩ : ∃ ty, ty = str t0 := ⟨_, rfl⟩
      rw [← hty] at cq
      have HY := Lib.hid hty
      clear htx hty hm hn hws ht0 ev hcell hcw h hok e1 e2 hd hdf hvs hvw ho
      go_enter Tryd.func72, Tryd.ntmps72
      go_wp2
      go_loopg [6, 7] m (fun gh s6 s7 wx => ∃ (k : Nat) (t : ByteArray), k + gh = m ∧ s7 = .int .i64 k ∧ s6 = .string t ∧ Hid (t = str (visK q t0 (ws.take k))) ∧ w = wx)
      case atStart => exact ⟨0, ty, by omega, rfl, rfl, HY, rfl⟩
      case round =>
        obtain ⟨k, t, hk, rfl, rfl, HT, hwx⟩ := hrel
        subst hwx
        by_cases hkm : k < m
        · have hki : (k : Int) < m := by omega
          have bk : decide ((k : Int) < (m : Int)) = true := by simpa using hki
          have hkl : k < ws.length := by rw [← HM.out]; exact hkm
          rcases HCW.out with h0 | ⟨gw, rfl, -, hcellw⟩
          · omega
          have d1 := hcellw _ _ (wtC_get ws k hkl).1
          have d2 := hcellw _ _ (wtC_get ws k hkl).2
          have hv := visK_snoc q t0 (ws.take k) ws[k]
          rw [← List.take_succ_eq_append_getElem hkl] at hv
          obtain ⟨a, ha⟩ : ∃ a, a = ws[k].1 := ⟨_, rfl⟩
          obtain ⟨b, hb⟩ : ∃ b, b = ws[k].2 := ⟨_, rfl⟩
          rw [← ha, ← hb] at hv
          rw [← ha] at d1
          rw [← hb] at d2
          obtain ⟨tb, htb⟩ : ∃ tb, tb = str b := ⟨_, rfl⟩
          rw [← htb] at d2
          have v1 : IntKind.i64.wrap ((k : Int) + 1) = ((k + 1 : Nat) : Int) := by rw [show (k : Int) + 1 = ((k + 1 : Nat) : Int) by omega]; exact IntWalk.i64_in _ (by omega)
          have HTB := Lib.hid htb
          have HV := Lib.hid hv
          clear htb hv ha hb hcellw hkl
          by_cases hab : a = q
          · have bb : ((a : Int) == (q : Int)) = true := by rw [hab]; simp
            have HT2 : Hid (tb = str (visK q t0 (ws.take (k + 1)))) := Lib.hid (by rw [HTB.out, HV.out, if_pos hab])
            clear hab
            go_wp2
            go_roundg (m - (k + 1))
            case measure => omega
            case rel => exact ⟨k + 1, tb, by omega, by go_num, rfl, HT2, rfl⟩
          · have bb : ((a : Int) == (q : Int)) = false := beq_eq_false_iff_ne.2 (by omega)
            have HT2 : Hid (t = str (visK q t0 (ws.take (k + 1)))) := Lib.hid (by rw [HT.out, HV.out, if_neg hab])
            clear hab
            go_wp2
            go_roundg (m - (k + 1))
            case measure => omega
            case rel => exact ⟨k + 1, t, by omega, by go_num, rfl, HT2, rfl⟩
        · have hke : k = m := by omega
          have bk : decide ((k : Int) < (m : Int)) = false := by rw [hke]; simp
          have hki : ¬ (k : Int) < m := by omega
          have HT2 : Hid (t = tx) := Lib.hid (by rw [HT.out, HX.out, hke, HM.out, List.take_length])
          clear hke
          go_wp2
          first | go_ret | go_ret2
          exact ⟨by rw [HT2.out]; rfl, rfl⟩

end Go.Proofs.YtoigembmbajopaaDoor
namespace Go.Proofs.YtoigembmbajopaaDoor
open Go.RowKit

/-- What a call that changes the document's disk leaves. -/
def RPost (B g : Nat) (s' : Dk) (vs vw ret : Value) (w : World) (e : Ending) (w' : World) : Prop :=
  e = .returned ret ∧ ∃ vs' vw', RAt B g s' vs' vw' w' ∧ (∀ k, RBs g vs' vw' k → RBs g vs vw k ∨ w.heap.size ≤ k) ∧ ButBy (fun k => k = g) w w'

section
variable {B g : Nat} {s : Dk} {vs vw : Value} {w : World} (h : RAt B g s vs vw w)
include h

/-- Its plain fields written anew. -/
theorem RAt.fields {s' : Dk} {w' : World} (hr : w'.heap[g]? = some (.cells (rA s' vs vw) 59 (0, 0))) (ho : ∀ k, k < w.heap.size → k ≠ g → w'.heap[k]? = w.heap[k]?) (hs : s'.stands = s.stands) (hw : s'.waits = s.waits) : RAt B g s' vs vw w' := by
  have ha := h.apart
  refine ⟨h.base, hr, ?_, ?_⟩
  · rw [hs]; exact own_stay h.st (fun k e => ho k (h.st.lt k e).2 (fun x => ha.1 (by rw [e, x])))
  · rw [hw]; exact own_stay h.wt (fun k e => ho k (h.wt.lt k e).2 (fun x => ha.2.1 (by rw [e, x])))

theorem RAt.set (i : Nat) (x : Value) : (w.setCell ⟨g, i, none⟩ x).heap[g]? = some (.cells ((rA s vs vw).setIfInBounds i x) 59 (0, 0)) := heap_setCell_same _ _ _ _ _ _ h.row
end


set_option maxRecDepth 100000 in
set_option maxHeartbeats 1000000 in
/-- An operation begins. -/
theorem rcut_any {B g : Nat} {s : Dk} {vs vw : Value} {w : World} (h : RAt B g s vs vw w) (hlo : s.ops ≤ 4294967296) (hfz : -9223372036854775808 ≤ s.fuse ∧ s.fuse ≤ 9223372036854775807) :
    Calls Tryd.prog 100 #[.pointer (some ⟨g, 0, none⟩)] w fun e w' => e = .returned (.bool (s.fuse == 0)) ∧ RAt B g s.cut vs vw w' ∧ ButBy (fun k => k = g) w w' := by
  have c3 : w.cell? ⟨g, 3, none⟩ = some (.int .i64 (s.ops : Int)) := h.cell 3 _ rfl
  have f3 := h.froz 3
  have f4 := h.froz 4
  have f2 := h.froz 2
  have w1r := h.set 3 (.int .i64 ((s.ops + 1 : Nat) : Int))
  have hw1 : (rA s vs vw).setIfInBounds 3 (.int .i64 ((s.ops + 1 : Nat) : Int)) = #[vs, vw, .int .i64 s.fuse, .int .i64 ((s.ops + 1 : Nat) : Int), .bool s.down] := rfl
  rw [hw1] at w1r
  have HO : Hid (∀ k, k ≠ g → (w.setCell ⟨g, 3, none⟩ (.int .i64 ((s.ops + 1 : Nat) : Int))).heap[k]? = w.heap[k]?) := Lib.hid (fun k hk => set_other _ _ _ _ _ hk)
  have HB1 : Hid (ButBy (fun k => k = g) w (w.setCell ⟨g, 3, none⟩ (.int .i64 ((s.ops + 1 : Nat) : Int)))) := Lib.hid ((but_refl _ w).setCell g 3 _ rfl)
  have H := Lib.hid h
  have v1 : IntKind.i64.wrap ((s.ops : Int) + 1) = ((s.ops + 1 : Nat) : Int) := by rw [show (s.ops : Int) + 1 = ((s.ops + 1 : Nat) : Int) by omega]; exact IntWalk.i64_in _ (by omega)
  have HCUT : Hid (s.cut = ⟨s.stands, s.waits, if 0 < s.fuse then s.fuse - 1 else s.fuse, s.ops + 1, s.down || s.fuse == 0⟩) := Lib.hid rfl
  obtain ⟨o1, ho1⟩ : ∃ o1, o1 = s.ops + 1 := ⟨_, rfl⟩
  rw [← ho1] at w1r HO HB1 v1 HCUT
  obtain ⟨fz, hfe⟩ : ∃ fz, fz = s.fuse := ⟨_, rfl⟩
  rw [← hfe] at w1r hfz HCUT ⊢
  obtain ⟨W1, hW1⟩ : ∃ W1, W1 = w.setCell ⟨g, 3, none⟩ (.int .i64 (o1 : Int)) := ⟨_, rfl⟩
  rw [← hW1] at w1r HO HB1
  have HW1 := Lib.hid hW1
  have W1R := Lib.hid w1r
  have d2 : W1.cell? ⟨g, 2, none⟩ = some (.int .i64 fz) := by rw [cell_of_row _ _ _ _ _ _ w1r]; rfl
  have d4 : W1.cell? ⟨g, 4, none⟩ = some (.bool s.down) := by rw [cell_of_row _ _ _ _ _ _ w1r]; rfl
  have e2 := frozen_of_row W1 g 2 _ _ w1r
  have e4 := frozen_of_row W1 g 4 _ _ w1r
  clear h w1r hw1 hW1 hfe ho1 hlo
  rw [HW1.out] at d2 d4 e2 e4
  by_cases h0 : fz = 0
  · subst h0
    go_enter Tryd.func100, Tryd.ntmps100
    go_wp2
    go_ret
    rw [← HW1.out]
    refine ⟨rfl, H.out.fields ?_ (fun k hk hn => (set_other _ _ _ _ _ hn).trans (HO.out k hn)) rfl rfl, HB1.out.setCell g 4 _ rfl⟩
    rw [heap_setCell_same _ _ _ _ _ _ W1R.out, HCUT.out]
    simp [rA]
  · have hne : (fz == 0) = false := beq_eq_false_iff_ne.2 h0
    rw [hne] at HCUT ⊢
    by_cases hp : 0 < fz
    · have v2 : IntKind.i64.wrap (fz - 1) = fz - 1 := IntWalk.i64_in _ (by omega)
      have hgt : fz > 0 := hp
      have HP := Lib.hid hp
      clear hp
      go_enter Tryd.func100, Tryd.ntmps100
      go_wp2
      go_ret
      rw [← HW1.out]
      refine ⟨rfl, H.out.fields ?_ (fun k hk hn => (set_other _ _ _ _ _ hn).trans (HO.out k hn)) rfl rfl, HB1.out.setCell g 2 _ rfl⟩
      rw [heap_setCell_same _ _ _ _ _ _ W1R.out, HCUT.out, if_pos HP.out]
      simp [rA]
    · have hgt : ¬ fz > 0 := hp
      have HP := Lib.hid hp
      clear hp
      go_enter Tryd.func100, Tryd.ntmps100
      go_wp2
      go_ret
      rw [← HW1.out]
      refine ⟨rfl, H.out.fields ?_ (fun k hk hn => HO.out k hn) rfl rfl, HB1.out⟩
      rw [W1R.out, HCUT.out, if_neg (by have := HP.out; omega)]
      simp [rA]

theorem infoWt : (Tryd.prog.info? 143).map (fun i => (i.zero, i.size, i.bytes)) = some (some (.agg #[.int .i64 0, .string ⟨#[]⟩]), 2, 24) := by kernel_rfl
theorem infoS : (Tryd.prog.info? 9).map (fun i => (i.zero, i.size, i.bytes)) = some (some (.string ⟨#[]⟩), 1, 16) := by kernel_rfl

set_option maxRecDepth 100000 in
set_option maxHeartbeats 1000000 in
/-- The document's Write. -/
theorem rwrite_any {B g : Nat} {s : Dk} {vs vw : Value} {w : World} (h : RAt B g s vs vw w) (hok : s.ok) (hlo : s.ops ≤ 4294967295) (hB : B ≤ w.heap.size) (i : Int) (t : ByteArray) :
    Calls Tryd.prog 65 #[.pointer (some ⟨g, 0, none⟩), .int .i64 i, .string t] w (RPost B g (s.writeS i t.data.toList) vs vw (.int .i64 (s.writeE i t.data.toList)) w) := by
  have c4 : w.cell? ⟨g, 4, none⟩ = some (.bool s.down) := h.cell 4 _ rfl
  have hts := str_len t
  have HT : Hid (t = str t.data.toList) := Lib.hid (str_of t).symm
  obtain ⟨l, hl⟩ : ∃ l, l = t.data.toList := ⟨_, rfl⟩
  rw [← hl] at hts HT ⊢
  clear hl
  by_cases hd : s.down = true
  · have e1 : s.writeE i l = 90 := by unfold Dk.writeE; rw [if_pos hd]
    have e2 : s.writeS i l = s := by unfold Dk.writeS; rw [if_pos (show s.bad i l from Or.inl hd)]
    rw [e1, e2]
    rw [hd] at c4
    have H := Lib.hid h
    clear h hok e1 e2 hd
    go_enter Tryd.func65, Tryd.ntmps65
    go_wp2
    go_ret
    exact ⟨rfl, vs, vw, H.out, fun k hk => Or.inl hk, but_refl _ _⟩
  · have hdf : s.down = false := by simpa using hd
    rw [hdf] at c4
    obtain ⟨ps, cs, hvs, -, -⟩ := own_slice h.st
    have c0 : w.cell? ⟨g, 0, none⟩ = some vs := h.cell 0 _ rfl
    have c1 : w.cell? ⟨g, 1, none⟩ = some vw := h.cell 1 _ rfl
    rw [hvs] at c0
    have H := Lib.hid h
    by_cases ho : s.out i
    · have e1 : s.writeE i l = 5 := by unfold Dk.writeE; rw [if_neg hd, if_pos ho]
      have e2 : s.writeS i l = s := by unfold Dk.writeS; rw [if_pos (show s.bad i l from Or.inr (Or.inl ho))]
      rw [e1, e2]
      unfold Dk.out at ho
      obtain ⟨n, hn⟩ : ∃ n, n = s.stands.length := ⟨_, rfl⟩
      rw [← hn] at c0 ho
      clear h hok e1 e2 hd hdf hvs hn c1
      by_cases h0 : i < 0
      · go_enter Tryd.func65, Tryd.ntmps65
        go_wp2
        go_ret
        exact ⟨rfl, vs, vw, H.out, fun k hk => Or.inl hk, but_refl _ _⟩
      · have h1 : (n : Int) ≤ i := by omega
        go_enter Tryd.func65, Tryd.ntmps65
        go_wp2
        go_ret
        exact ⟨rfl, vs, vw, H.out, fun k hk => Or.inl hk, but_refl _ _⟩
    · have ho' := ho
      unfold Dk.out at ho'
      obtain ⟨n, hn⟩ : ∃ n, n = s.stands.length := ⟨_, rfl⟩
      rw [← hn] at c0 ho'
      have hq0 : ¬ i < 0 := by omega
      have hqn : ¬ (n : Int) ≤ i := by omega
      by_cases h128 : l.length = 128
      · obtain ⟨q, rfl⟩ : ∃ q : Nat, i = q := ⟨i.toNat, by omega⟩
        have e1 : s.writeE q l = if s.fuse = 0 then 90 else 0 := by unfold Dk.writeE; rw [if_neg hd, if_neg ho, if_neg (fun x => x h128)]
        have e2 : s.writeS q l = ({ s with waits := s.waits ++ [(q, l)] } : Dk).cut := by
          unfold Dk.writeS; rw [if_neg (show ¬ s.bad q l from fun x => x.elim hd (fun y => y.elim ho (fun z => z h128))), Int.toNat_natCast]
        rw [e1, e2]
        obtain ⟨rt, hrt⟩ : ∃ rt : Int, rt = if s.fuse = 0 then 90 else 0 := ⟨_, rfl⟩
        rw [← hrt]
        have HRT := Lib.hid hrt
        clear hrt
        have b1 : ((t.size : Int) != 128) = false := by rw [bne_eq_false_iff_eq]; omega
        obtain ⟨iw, hiw, hx⟩ := Option.map_eq_some_iff.1 infoWt
        simp only [Prod.mk.injEq] at hx
        obtain ⟨hz0, hz1, hz2⟩ := hx
        have HIW := Lib.hid hiw
        have HZ0 := Lib.hid hz0
        have HZ1 := Lib.hid hz1
        have HZ2 := Lib.hid hz2
        have hm40 : s.waits.length ≤ 4294967295 := Nat.le_trans hok.few hlo
        have HF1 : Hid (FlatAt 2 s.waits.length (wtC s.waits) vw (w.alloc (.cells #[] 143))) := Lib.hid ((FlatAt.own h.wt (wtC_one _)).later (box_below _ _))
        have HLO := Lib.hid hlo
        have HFZ := Lib.hid hok.fz
        obtain ⟨m, hm⟩ : ∃ m, m = s.waits.length := ⟨_, rfl⟩
        rw [← hm] at HF1 hm40
        have HM := Lib.hid hm
        have c1a : (w.alloc (.cells #[] 143)).cell? ⟨g, 1, none⟩ = some vw := (box_below w _).cell (p := ⟨g, 1, none⟩) (World.block_lt_of_cell? _ _ c1) |>.trans c1
        obtain ⟨pw, cw, hvw, -, -⟩ := own_slice h.wt
        rw [hvw] at c1a
        rw [← hm] at c1a
        have HF2 : Hid (FlatAt 2 m (wtC s.waits) (.slice pw m cw) (w.alloc (.cells #[] 143))) := by have h := HF1.out; rw [hvw, ← hm] at h; exact h
        have hB1 : B ≤ w.heap.size := hB
        have HC1 := Lib.hid c1
        clear h hok e1 e2 hd hdf hvs hn h128 ho ho' hz0 hz1 hz2 hiw hlo hm hvw HF1 c1
        go_enter Tryd.func65, Tryd.ntmps65
        go_wp2_with (at_builtin; refine wpList_append_flat rfl _ _ 57 rfl w.heap.size 143 iw (.agg #[.int .i64 0, .string ⟨#[]⟩]) 2 24 Tryd.underlying57 HIW.out HZ0.out HZ1.out HZ2.out rfl (by decide) _ _ _ rfl (World.ownsRow_made w #[] 0 (Nat.le_refl _) (Nat.zero_le _) (by simp)) _ m (wtC s.waits) rfl HF2.out ?wa1 ?wa2 ?wa3 ?_)
        case wa1 => unfold maxLen; omega
        case wa2 => omega
        try case wa3 => simp
        intro v1 w1 hown1 hgr1 hwh1
        have K1 : Kept w w1 := (box_below w _).grown hgr1 (by simp) (by intro k hk; simp [Value.ownBlock] at hk; omega)
        have HO1 : Hid (w1.ownsRow w.heap.size 143 2 v1 m (wtC s.waits)) := Lib.hid (by simpa using hown1)
        have HK1 := Lib.hid K1
        clear hown1 hgr1 K1 HF2 hwh1
        have HFN := Lib.hid (FlatAt.new w1 143 2 1 1 #[.int .i64 (q : Int), .string t] rfl (by intro x hx; simp at hx; rcases hx with rfl | rfl <;> rfl))
        go_wp2_with (at_builtin; refine wpList_append_flat rfl _ _ 57 rfl w.heap.size 143 iw (.agg #[.int .i64 0, .string ⟨#[]⟩]) 2 24 Tryd.underlying57 HIW.out HZ0.out HZ1.out HZ2.out rfl (by decide) _ _ _ rfl (HO1.out.alloc _) _ 1 _ rfl HFN.out ?wb1 ?wb2 ?wb3 ?_)
        case wb1 => unfold maxLen; omega
        case wb2 => omega
        try case wb3 => have := HK1.out.size; first | omega | (simp; omega)
        intro v2 w2 hown2 hgr2 hwh2
        have K2 : Kept w w2 := (HK1.out.then (box_below w1 _)).grown hgr2 (by have := HK1.out.size; simp; omega) (fun k hk => (HO1.out.lt k hk).1)
        obtain ⟨p2, c2, rfl, -, -⟩ := own_slice hown2
        have HO2 : Hid (w2.ownsRow w.heap.size 143 2 (.slice p2 (m + 1) c2) (s.waits ++ [(q, l)]).length (wtC (s.waits ++ [(q, l)]))) := Lib.hid (by
          rw [List.length_append, wtC_append, ← HM.out, show wtC [(q, l)] = [Value.int .i64 (q : Int), Value.string t] by rw [HT.out]; rfl]
          exact hown2)
        have HK2 := Lib.hid K2
        have hc1 : w2.cell? ⟨g, 1, none⟩ = some vw := K2.cell HC1.out
        have hf1 : w2.frozen? ⟨g, 1, none⟩ = false := (H.out.kept K2).froz 1
        clear hown2 hgr2 K2 HO1 hwh2
        go_wp2_with fail
        have r2 := (H.out.kept HK2.out)
        have r3 : RAt B g ⟨s.stands, s.waits ++ [(q, l)], s.fuse, s.ops, s.down⟩ vs (.slice p2 (m + 1) c2) (w2.setCell ⟨g, 1, none⟩ (.slice p2 (m + 1) c2)) := by
          refine ⟨r2.base, ?_, ?_, ?_⟩
          · rw [heap_setCell_same _ _ _ _ _ _ r2.row]; rfl
          · exact own_stay r2.st (fun k e => set_other _ _ _ _ _ (fun x => r2.apart.1 (by rw [e, x])))
          · refine own_base (own_stay HO2.out (fun k e => set_other _ _ _ _ _ (fun x => ?_))) hB1
            have h1 := (HO2.out.lt k e).1
            have h2 := (Array.getElem?_eq_some_iff.1 H.out.row).1
            omega
        have HB3 : Hid (ButBy (fun k => k = g) w (w2.setCell ⟨g, 1, none⟩ (.slice p2 (m + 1) c2))) := Lib.hid ((ButBy.below HK2.out).setCell g 1 _ rfl)
        have HNEW : Hid (∀ k, (Value.slice p2 (m + 1) c2).ownBlock = some k → w.heap.size ≤ k) := Lib.hid (fun k e => (HO2.out.lt k e).1)
        refine (rcut_any r3 (Nat.le_trans HLO.out (by omega)) HFZ.out).mono ?_
        rintro e w4 ⟨rfl, r4, hb4⟩
        have R4 := Lib.hid r4
        have HB4 := Lib.hid hb4
        clear r2 r3 r4 hb4
        have fin : RPost B g (({ s with waits := s.waits ++ [(q, l)] } : Dk).cut) vs vw (.int .i64 rt) w (.returned (.int .i64 rt)) w4 :=
          ⟨rfl, vs, _, R4.out, fun k hk => by
            rcases hk with e | e | e
            · exact Or.inl (Or.inl e)
            · exact Or.inl (Or.inr (Or.inl e))
            · exact Or.inr (HNEW.out k e), HB3.out.trans HB4.out⟩
        have FIN := Lib.hid fin
        clear fin
        by_cases h0 : s.fuse = 0
        · have hb : (s.fuse == 0) = true := by rw [h0]; rfl
          have hr9 : rt = 90 := by rw [HRT.out, if_pos h0]
          subst hr9
          clear h0
          go_wp2
          go_ret
          exact FIN.out
        · have hb : (s.fuse == 0) = false := beq_eq_false_iff_ne.2 h0
          have hr9 : rt = 0 := by rw [HRT.out, if_neg h0]
          subst hr9
          clear h0
          go_wp2
          go_ret
          exact FIN.out
      · have e1 : s.writeE i l = 1 := by unfold Dk.writeE; rw [if_neg hd, if_neg ho, if_pos h128]
        have e2 : s.writeS i l = s := by unfold Dk.writeS; rw [if_pos (show s.bad i l from Or.inr (Or.inr h128))]
        rw [e1, e2]
        have b1 : ((t.size : Int) != 128) = true := by rw [bne_iff_ne]; omega
        clear h hok e1 e2 hd hdf hvs hn c1 h128 ho ho'
        go_enter Tryd.func65, Tryd.ntmps65
        go_wp2
        go_ret
        exact ⟨rfl, vs, vw, H.out, fun k hk => Or.inl hk, but_refl _ _⟩

end Go.Proofs.YtoigembmbajopaaDoor
namespace Go.Proofs.YtoigembmbajopaaDoor
open Go.RowKit

/-- One cell of an own row written. -/
theorem own_set {w : World} {base g c n : Nat} {e : TypeId} {xs : List Value} (h : w.ownsRow base e 1 (.slice (some ⟨g, 0, none⟩) n c) n xs) (i : Nat) (_hi : i < n) (x : Value) :
    (w.setCell ⟨g, i, none⟩ x).ownsRow base e 1 (.slice (some ⟨g, 0, none⟩) n c) n (xs.set i x) ∧ w.frozen? ⟨g, i, none⟩ = false := by
  rcases h.2 with ⟨h0, _⟩ | ⟨g', cap, cur, hv, hb, hg, hc, hm, hs, ht⟩
  · cases h0
  simp only [Value.slice.injEq, Option.some.injEq, Addr.mk.injEq, and_true, true_and] at hv
  obtain ⟨rfl, rfl⟩ := hv
  refine ⟨⟨by rw [List.length_set]; exact h.1, Or.inr ⟨g, c, cur.setIfInBounds i x, rfl, hb, heap_setCell_same _ _ _ _ _ _ hg, hc, hm, by rw [Array.size_setIfInBounds]; exact hs, ?_⟩⟩, frozen_of_row _ _ _ _ _ hg⟩
  rw [Array.toList_setIfInBounds, List.take_set, ht]

/-- A slice of truths. -/
def BoolAt (l : List Bool) (v : Value) (w : World) : Prop :=
  ∃ p c, v = .slice p l.length c ∧ (l = [] ∨ ∃ b off, p = some ⟨b, off, none⟩ ∧ ∀ i, i < l.length → w.cell? ⟨b, off + i, none⟩ = some (.bool (l.getD i false)))

theorem BoolAt.later {l : List Bool} {v : Value} {w w' : World} (h : BoolAt l v w) (k : Kept w w') : BoolAt l v w' := by
  obtain ⟨p, c, rfl, h⟩ := h
  refine ⟨p, c, rfl, ?_⟩
  rcases h with h0 | ⟨b, off, hp, hc⟩
  · exact Or.inl h0
  · exact Or.inr ⟨b, off, hp, fun i hi => k.cell (hc i hi)⟩
theorem BoolAt.nil (w : World) : BoolAt [] (.slice none 0 0) w := ⟨none, 0, rfl, Or.inl rfl⟩

/-- Which are kept: all, or those of a list. -/
def KeepAt (keep : Nat → Bool) (all : Bool) (v : Value) (w : World) : Prop := (all = true ∧ ∀ k, keep k = true) ∧ (∃ p n c, v = .slice p n c) ∨ all = false ∧ ∃ l, keep = keepL l ∧ BoolAt l v w

theorem standK_next (keep : Nat → Bool) (st : List (List UInt8)) (ws : List (Nat × List UInt8)) (k : Nat) (hk : k < ws.length) :
    standK keep st ws (k + 1) = if keep k = true then (standK keep st ws k).set ws[k].1 ws[k].2 else standK keep st ws k := by
  conv => lhs; unfold standK
  rw [List.getD_eq_getElem?_getD, List.getElem?_eq_getElem hk]
  rfl

set_option maxRecDepth 100000 in
set_option maxHeartbeats 4000000 in
/-- What stands behind: of what waits, all or what is kept. -/
theorem rstand_any {B g : Nat} {s : Dk} {vs vw : Value} {w : World} (h : RAt B g s vs vw w) (hok : s.ok) (hlo : s.ops ≤ 4294967296) (hB : B ≤ w.heap.size) (keep : Nat → Bool) (all : Bool) (kv : Value) (hkv : KeepAt keep all kv w) :
    Calls Tryd.prog 76 #[.pointer (some ⟨g, 0, none⟩), kv, .bool all] w (RPost B g (s.stand keep) vs vw (.tuple #[]) w) := by
  obtain ⟨ps, cs, hvs, -, -⟩ := own_slice h.st
  obtain ⟨pw, cw, hvw, -, hcw⟩ := own_slice h.wt
  have hkp : ∃ pk nk ck, kv = .slice pk nk ck ∧ (all = true ∧ (∀ k, keep k = true) ∨ all = false ∧ ∀ k, keep k = true ↔ k < nk ∧ ∃ b off, pk = some ⟨b, off, none⟩ ∧ w.cell? ⟨b, off + k, none⟩ = some (.bool true)) ∧ (all = false → ∀ k, k < nk → ∃ b off x, pk = some ⟨b, off, none⟩ ∧ w.cell? ⟨b, off + k, none⟩ = some (.bool x)) := by
    rcases hkv with ⟨⟨ha, hk⟩, p, n, c, rfl⟩ | ⟨ha, l, rfl, p, c, rfl, hc⟩
    · exact ⟨p, n, c, rfl, Or.inl ⟨ha, hk⟩, fun x => by rw [ha] at x; cases x⟩
    · have hcell : ∀ k, k < l.length → ∃ b off, p = some ⟨b, off, none⟩ ∧ w.cell? ⟨b, off + k, none⟩ = some (.bool (l.getD k false)) := fun k hk => by
        rcases hc with h0 | ⟨b, off, hp, hc⟩
        · rw [h0] at hk; simp at hk
        · exact ⟨b, off, hp, hc k hk⟩
      refine ⟨p, l.length, c, rfl, Or.inr ⟨ha, fun k => ⟨fun hk => ?_, fun ⟨hk, b, off, hp, hx⟩ => ?_⟩⟩, fun _ k hk => ?_⟩
      · unfold keepL at hk
        have hkl : k < l.length := by
          by_cases hh : k < l.length
          · exact hh
          · rw [List.getD_eq_getElem?_getD, List.getElem?_eq_none (by omega)] at hk; simp at hk
        obtain ⟨b, off, hp, hx⟩ := hcell k hkl
        rw [hk] at hx
        exact ⟨hkl, b, off, hp, hx⟩
      · obtain ⟨b', off', hp', hx'⟩ := hcell k hk
        rw [hp] at hp'
        simp only [Option.some.injEq, Addr.mk.injEq, and_true] at hp'
        obtain ⟨rfl, rfl⟩ := hp'
        rw [hx] at hx'
        simp only [Option.some.injEq, Value.bool.injEq] at hx'
        exact hx'.symm
      · obtain ⟨b, off, hp, hx⟩ := hcell k hk
        exact ⟨b, off, _, hp, hx⟩
  obtain ⟨pk, nk, ck, rfl, hall, hkc⟩ := hkp
  obtain ⟨is, his, hx⟩ := Option.map_eq_some_iff.1 infoS
  simp only [Prod.mk.injEq] at hx
  obtain ⟨hz0, hz1, hz2⟩ := hx
  have HIS := Lib.hid his
  have HZ0 := Lib.hid hz0
  have HZ1 := Lib.hid hz1
  have HZ2 := Lib.hid hz2
  have c0 : w.cell? ⟨g, 0, none⟩ = some vs := h.cell 0 _ rfl
  have c1 : w.cell? ⟨g, 1, none⟩ = some vw := h.cell 1 _ rfl
  have hpos := hok.pos
  have hmost := hok.most
  have HF1 : Hid (FlatAt 1 s.stands.length (stC s.stands) vs (w.alloc (.cells #[] 9))) := Lib.hid ((FlatAt.own h.st (stC_one _)).later (box_below _ _))
  have HH := Lib.hid h
  have HWT := Lib.hid (fun p hp => (hok.wait p hp).1)
  have hml : s.waits.length ≤ 4294967296 := Nat.le_trans hok.few hlo
  rw [hvs] at c0 HF1
  rw [hvw] at c1
  obtain ⟨n, hn⟩ : ∃ n, n = s.stands.length := ⟨_, rfl⟩
  rw [← hn] at c0 HF1 hpos hmost HWT
  obtain ⟨ws, hws⟩ : ∃ ws, ws = s.waits := ⟨_, rfl⟩
  have HSW := Lib.hid hws
  rw [← hws] at c1 HWT hml hcw
  obtain ⟨m, hm⟩ : ∃ m, m = ws.length := ⟨_, rfl⟩
  rw [← hm] at c1 hml hcw
  have HM := Lib.hid hm
  have HN := Lib.hid hn
  have HCW := Lib.hid hcw
  have HALL := Lib.hid hall
  have HKC := Lib.hid hkc
  have HVS := Lib.hid hvs
  have HVW := Lib.hid hvw
  have c0a : (w.alloc (.cells #[] 9)).cell? ⟨g, 0, none⟩ = some (.slice ps n cs) := Kept.cell (box_below w _) c0
  obtain ⟨st, hst⟩ : ∃ st, st = s.stands := ⟨_, rfl⟩
  rw [← hst] at HF1
  have HST := Lib.hid hst
  obtain ⟨sN, hsN⟩ : ∃ sN, sN = s.stand keep := ⟨_, rfl⟩
  rw [← hsN]
  have HSN := Lib.hid hsN
  clear hsN hst hm hn hws h hok hkv hvs hvw hcw hz0 hz1 hz2 his hlo hall hkc
  have HC1 := Lib.hid c1
  have HC0 := Lib.hid c0
  clear c0 c1
  go_enter Tryd.func76, Tryd.ntmps76
  go_wp2_with (at_builtin; refine wpList_append_flat rfl _ _ 56 rfl w.heap.size 9 is (.string ⟨#[]⟩) 1 16 Tryd.underlying56 HIS.out HZ0.out HZ1.out HZ2.out rfl (by decide) _ _ _ rfl (World.ownsRow_made w #[] 0 (Nat.le_refl _) (Nat.zero_le _) (by simp)) _ n (stC st) rfl HF1.out ?wa1 ?wa2 ?wa3 ?_)
  case wa1 => unfold maxLen; omega
  case wa2 => omega
  try case wa3 => simp
  intro v1 w1 hown1 hgr1 hwh1
  have K1 : Kept w w1 := (box_below w _).grown hgr1 (by simp) (by intro k hk; simp [Value.ownBlock] at hk; omega)
  have ho1 : w1.ownsRow w.heap.size 9 1 v1 n (stC st) := by simpa using hown1
  obtain ⟨pl, cl, rfl, -, hpl⟩ := own_slice ho1
  rcases hpl with h0 | ⟨gl, rfl, hgl, -⟩
  · omega
  have HO1 := Lib.hid ho1
  have HK1 := Lib.hid K1
  clear hown1 hgr1 hwh1 K1 ho1 HF1 c0a
  go_wp2
  go_loopg [7] m (fun gh s7 wx => ∃ k : Nat, k + gh = m ∧ s7 = .int .i64 k ∧ Hid (wx.ownsRow w.heap.size 9 1 (.slice (some ⟨gl, 0, none⟩) n cl) n (stC (standK keep st ws k))) ∧ Hid (Kept w wx))
  case atStart => exact ⟨0, by omega, rfl, HO1, HK1⟩
  case round =>
    clear HO1 HK1
    obtain ⟨k, hk, rfl, HO, HK⟩ := hrel
    have d1 := HK.out.cell HC1.out
    by_cases hkm : k < m
    · have hki : (k : Int) < m := by omega
      have bk : decide ((k : Int) < (m : Int)) = true := by simpa using hki
      have hkl : k < ws.length := by rw [← HM.out]; exact hkm
      rcases HCW.out with h0 | ⟨gw, rfl, -, hcellw⟩
      · omega
      have d2 := HK.out.cell (hcellw _ _ (wtC_get ws k hkl).1)
      have d3 := HK.out.cell (hcellw _ _ (wtC_get ws k hkl).2)
      have hnx := standK_next keep st ws k hkl
      have hin := HWT.out _ (List.getElem_mem hkl)
      obtain ⟨a, ha⟩ : ∃ a, a = ws[k].1 := ⟨_, rfl⟩
      obtain ⟨b, hb⟩ : ∃ b, b = ws[k].2 := ⟨_, rfl⟩
      rw [← ha, ← hb] at hnx
      rw [← ha] at d2 hin
      rw [← hb] at d3
      obtain ⟨tb, htb⟩ : ∃ tb, tb = str b := ⟨_, rfl⟩
      rw [← htb] at d3
      obtain ⟨k1, hk1⟩ : ∃ k1, k1 = k + 1 := ⟨_, rfl⟩
      rw [← hk1] at hnx
      have v1 : IntKind.i64.wrap ((k : Int) + 1) = (k1 : Int) := by rw [show (k : Int) + 1 = (k1 : Int) by omega]; exact IntWalk.i64_in _ (by omega)
      cases hkeep : keep k with
      | true =>
        rw [hkeep, if_pos rfl] at hnx
        have os := own_set HO.out a hin (.string tb)
        have e1 := os.2
        have HO2 : Hid ((wr.setCell ⟨gl, a, none⟩ (.string tb)).ownsRow w.heap.size 9 1 (.slice (some ⟨gl, 0, none⟩) n cl) n (stC (standK keep st ws k1))) := Lib.hid (by
          have h := os.1
          rw [htb, stC_set, ← hnx, ← htb] at h
          exact h)
        have HK2 : Hid (Kept w (wr.setCell ⟨gl, a, none⟩ (.string tb))) := Lib.hid (below_touch HK.out (grown_set wr gl a _) HK.out.size hgl)
        have he : ∃ x, wr.cell? ⟨gl, a, none⟩ = some x := by
          obtain ⟨p', c', hv', -, hcs'⟩ := own_slice HO.out
          simp only [Value.slice.injEq, true_and] at hv'
          obtain ⟨rfl, rfl⟩ := hv'
          rcases hcs' with h0 | ⟨g', hg', -, hc'⟩
          · omega
          · simp only [Option.some.injEq, Addr.mk.injEq, and_true] at hg'
            subst hg'
            have hl : a < (stC (standK keep st ws k)).length := by rw [HO.out.1]; omega
            exact ⟨_, hc' a _ (List.getElem?_eq_getElem hl)⟩
        obtain ⟨x, e2⟩ := he
        have hai : (a : Int) < n := by omega
        have ha0 : (0 : Int) ≤ a := by omega
        have hA := HALL.out
        clear os hnx htb ha hb hkl hcellw HO hin
        rcases hA with ⟨rfl, _⟩ | ⟨rfl, hkk⟩
        · go_wp2
          go_region
          go_wp2
          go_roundg (m - k1)
          case measure => omega
          case rel => exact ⟨k1, by omega, by first | rfl | (congr 1; omega), HO2, Lib.hid (Below.drew HK2.out)⟩
        · obtain ⟨hkn, bb, off, rfl, hcb⟩ := (hkk k).1 hkeep
          have hcb2 := HK.out.cell hcb
          have hkni : (k : Int) < nk := by omega
          clear hcb hkk
          go_wp2
          go_region
          go_wp2
          go_roundg (m - k1)
          case measure => omega
          case rel => exact ⟨k1, by omega, by first | rfl | (congr 1; omega), HO2, Lib.hid (Below.drew HK2.out)⟩
      | false =>
        rw [hkeep, if_neg (by decide)] at hnx
        have HO2 : Hid (wr.ownsRow w.heap.size 9 1 (.slice (some ⟨gl, 0, none⟩) n cl) n (stC (standK keep st ws k1))) := by rw [hnx]; exact HO
        have hA := HALL.out
        clear hnx htb ha hb hkl hcellw HO hin
        rcases hA with ⟨_, hh⟩ | ⟨rfl, hkk⟩
        · rw [hh k] at hkeep; cases hkeep
        · by_cases hkn : k < nk
          · obtain ⟨bb, off, x, rfl, hcb⟩ := HKC.out rfl k hkn
            have hx : x = false := by
              cases x with
              | false => rfl
              | true => have := (hkk k).2 ⟨hkn, bb, off, rfl, hcb⟩; rw [hkeep] at this; cases this
            subst hx
            have hcb2 := HK.out.cell hcb
            have hkni : (k : Int) < nk := by omega
            clear hcb hkk
            go_wp2
            go_roundg (m - k1)
            case measure => omega
            case rel => exact ⟨k1, by omega, by first | rfl | (congr 1; omega), HO2, HK⟩
          · have hkni : ¬ (k : Int) < nk := by omega
            clear hkk
            go_wp2
            go_roundg (m - k1)
            case measure => omega
            case rel => exact ⟨k1, by omega, by first | rfl | (congr 1; omega), HO2, HK⟩
    · have hke : k = m := by omega
      have hki : ¬ (k : Int) < m := by omega
      have bk : decide ((k : Int) < (m : Int)) = false := by simpa using hki
      have r1 := HH.out.kept HK.out
      have d0 : wr.cell? ⟨g, 0, none⟩ = some (.slice ps n cs) := HK.out.cell HC0.out
      have f0 := r1.froz 0
      have f1 := r1.froz 1
      have n0 : gl ≠ g := by have := (Array.getElem?_eq_some_iff.1 HH.out.row).1; omega
      obtain ⟨W1, hW1⟩ : ∃ W1, W1 = wr.setCell ⟨g, 0, none⟩ (.slice (some ⟨gl, 0, none⟩) n cl) := ⟨_, rfl⟩
      have rr1 : W1.heap[g]? = some (.cells (rA s (.slice (some ⟨gl, 0, none⟩) n cl) vw) 59 (0, 0)) := by rw [hW1, heap_setCell_same _ _ _ _ _ _ r1.row]; rfl
      have d1' : W1.cell? ⟨g, 1, none⟩ = some vw := by rw [cell_of_row _ _ _ _ _ _ rr1]; rfl
      have f1' := frozen_of_row W1 g 1 _ _ rr1
      have fin : RPost B g sN vs vw (.tuple #[]) w (.returned (.tuple #[])) (W1.setCell ⟨g, 1, none⟩ (.slice none 0 0)) := by
        refine ⟨rfl, .slice (some ⟨gl, 0, none⟩) n cl, .slice none 0 0, ⟨HH.out.base, ?_, ?_, ?_⟩, ?_, ?_⟩
        · rw [heap_setCell_same _ _ _ _ _ _ rr1, HSN.out]; rfl
        · have hst : sN.stands = standK keep st ws m := by rw [HSN.out, HST.out, HM.out, HSW.out]; rfl
          rw [hst, standK_len, show st.length = n by rw [HST.out, HN.out], ← hke]
          refine own_base (own_stay HO.out (fun j e => ?_)) hB
          simp only [Value.ownBlock, Option.some.injEq] at e
          rw [set_other _ _ _ _ _ (by omega), hW1, set_other _ _ _ _ _ (by omega)]
        · rw [show sN.waits = [] by rw [HSN.out]; rfl]
          exact World.ownsRow_nil _ _ _ _
        · intro j hj
          rcases hj with e | e | e
          · exact Or.inl (Or.inl e)
          · simp only [Value.ownBlock, Option.some.injEq] at e
            exact Or.inr (by omega)
          · simp [Value.ownBlock] at e
        · rw [hW1]
          exact ButBy.setCell (Bs := fun k => k = g) (ButBy.setCell (Bs := fun k => k = g) (ButBy.below HK.out) g 0 _ rfl) g 1 _ rfl
      have FIN := Lib.hid fin
      rw [hW1] at d1' f1' FIN
      rw [HVW.out, ← HSW.out, ← HM.out] at d1'
      clear fin rr1 r1 hke hW1 W1
      go_wp2
      first | go_ret | go_end0
      exact FIN.out

theorem keepAt_all (w : World) : KeepAt keepAll true (.slice none 0 0) w := Or.inl ⟨⟨rfl, fun _ => rfl⟩, none, 0, 0, rfl⟩

set_option maxRecDepth 100000 in
set_option maxHeartbeats 1000000 in
/-- The document's Flush. -/
theorem rflush_any {B g : Nat} {s : Dk} {vs vw : Value} {w : World} (h : RAt B g s vs vw w) (hok : s.ok) (hlo : s.ops ≤ 4294967295) (hB : B ≤ w.heap.size) :
    Calls Tryd.prog 66 #[.pointer (some ⟨g, 0, none⟩)] w (RPost B g s.flushS vs vw (.int .i64 s.flushE) w) := by
  have c4 : w.cell? ⟨g, 4, none⟩ = some (.bool s.down) := h.cell 4 _ rfl
  by_cases hd : s.down = true
  · have e1 : s.flushE = 90 := by unfold Dk.flushE; rw [if_pos hd]
    have e2 : s.flushS = s := by unfold Dk.flushS; rw [if_pos hd]
    rw [e1, e2]
    rw [hd] at c4
    have H := Lib.hid h
    clear h hok e1 e2 hd
    go_enter Tryd.func66, Tryd.ntmps66
    go_wp2
    go_ret
    exact ⟨rfl, vs, vw, H.out, fun k hk => Or.inl hk, but_refl _ _⟩
  · have hdf : s.down = false := by simpa using hd
    rw [hdf] at c4
    have CU := rcut_any h (Nat.le_trans hlo (by omega)) hok.fz
    have H := Lib.hid h
    have HOK := Lib.hid hok
    by_cases h0 : s.fuse = 0
    · have e1 : s.flushE = 90 := by unfold Dk.flushE; rw [if_neg hd, if_pos h0]
      have e2 : s.flushS = s.cut := by unfold Dk.flushS; rw [if_neg hd, if_pos h0]
      rw [e1, e2]
      rw [show (s.fuse == 0) = true by rw [h0]; rfl] at CU
      clear h hok e1 e2 hd hdf h0
      go_enter Tryd.func66, Tryd.ntmps66
      go_wp2_with fail
      refine CU.mono ?_
      rintro e w1 ⟨rfl, r1, hb1⟩
      have R1 := Lib.hid r1
      have HB1 := Lib.hid hb1
      clear r1 hb1 CU
      go_wp2
      go_ret
      exact ⟨rfl, vs, vw, R1.out, fun k hk => Or.inl hk, HB1.out⟩
    · have e1 : s.flushE = 0 := by unfold Dk.flushE; rw [if_neg hd, if_neg h0]
      have e2 : s.flushS = s.cut.stand keepAll := by unfold Dk.flushS; rw [if_neg hd, if_neg h0]
      rw [e1, e2]
      rw [show (s.fuse == 0) = false from beq_eq_false_iff_ne.2 h0] at CU
      have HLO := Lib.hid hlo
      clear h hok e1 e2 hd hdf h0 hlo
      go_enter Tryd.func66, Tryd.ntmps66
      go_wp2_with fail
      refine CU.mono ?_
      rintro e w1 ⟨rfl, r1, hb1⟩
      have ST := rstand_any r1 HOK.out.cut (by show s.ops + 1 ≤ _; have := HLO.out; omega) (Nat.le_trans hB hb1.size) keepAll true (.slice none 0 0) (keepAt_all w1)
      have HB1 := Lib.hid hb1
      clear r1 hb1 CU
      go_wp2_with fail
      refine ST.mono ?_
      rintro e w2 ⟨rfl, vs', vw', r2, hs2, hb2⟩
      have fin : RPost B g (s.cut.stand keepAll) vs vw (.int .i64 0) w (.returned (.int .i64 0)) w2 :=
        ⟨rfl, vs', vw', r2, fun k hk => (hs2 k hk).imp id (fun h => Nat.le_trans HB1.out.size h), HB1.out.trans hb2⟩
      have FIN := Lib.hid fin
      clear fin r2 hs2 hb2 ST
      go_wp2
      go_ret
      exact FIN.out

set_option maxRecDepth 100000 in
set_option maxHeartbeats 1000000 in
/-- The document's Power. -/
theorem rpower_any {B g : Nat} {s : Dk} {vs vw : Value} {w : World} (h : RAt B g s vs vw w) (hok : s.ok) (hlo : s.ops ≤ 4294967296) (hB : B ≤ w.heap.size) (l : List Bool) (kv : Value) (hkv : BoolAt l kv w) :
    Calls Tryd.prog 33 #[.pointer (some ⟨g, 0, none⟩), kv] w (RPost B g (s.powerS l) vs vw (.tuple #[]) w) := by
  have ST := rstand_any h hok hlo hB (keepL l) false kv (Or.inr ⟨rfl, l, rfl, hkv⟩)
  obtain ⟨pk, ck, rfl, -⟩ := hkv
  clear h hok hlo hB
  go_enter Tryd.func33, Tryd.ntmps33
  go_wp2_with fail
  refine ST.mono ?_
  rintro e w1 ⟨rfl, vs', vw', r1, hs1, hb1⟩
  have c2 : w1.cell? ⟨g, 2, none⟩ = some (.int .i64 s.fuse) := r1.cell 2 _ rfl
  have f2 := r1.froz 2
  obtain ⟨W1, hW1⟩ : ∃ W1, W1 = w1.setCell ⟨g, 2, none⟩ (.int .i64 (-1)) := ⟨_, rfl⟩
  have rr1 : W1.heap[g]? = some (.cells #[vs', vw', .int .i64 (-1), .int .i64 (s.ops : Int), .bool s.down] 59 (0, 0)) := by rw [hW1, heap_setCell_same _ _ _ _ _ _ r1.row]; rfl
  have c4 : W1.cell? ⟨g, 4, none⟩ = some (.bool s.down) := by rw [cell_of_row _ _ _ _ _ _ rr1]; rfl
  have f4 := frozen_of_row W1 g 4 _ _ rr1
  have fin : RPost B g (s.powerS l) vs vw (.tuple #[]) w (.returned (.tuple #[])) (W1.setCell ⟨g, 4, none⟩ (.bool false)) := by
    refine ⟨rfl, vs', vw', r1.fields ?_ (fun k hk hn => ?_) rfl rfl, hs1, ?_⟩
    · rw [heap_setCell_same _ _ _ _ _ _ rr1]; rfl
    · rw [set_other _ _ _ _ _ hn, hW1, set_other _ _ _ _ _ hn]
    · rw [hW1]
      exact ButBy.setCell (Bs := fun k => k = g) (ButBy.setCell (Bs := fun k => k = g) hb1 g 2 _ rfl) g 4 _ rfl
  have FIN := Lib.hid fin
  rw [hW1] at c4 f4 FIN
  clear fin rr1 hW1 W1 r1 hs1 hb1 ST
  go_wp2
  first | go_ret | go_end0
  exact FIN.out

end Go.Proofs.YtoigembmbajopaaDoor
