/- The program's disk in memory (pending writes of 129 cells); the walks of its small functions. -/
import Derived.Test.YtpnnlpmkgglgdaaDtM
namespace Go.Proofs.Ytpnnlpmkgglgdaa
open Go.RowKit

def dA (g : Nat) (s : Dk) (b n c : Nat) (vp : Value) (m : Nat) : Array Value :=
  #[.pointer (some ⟨g, 0, none⟩), .slice (some ⟨b, 0, none⟩) n c, vp, .map (some m), .int .i64 (fzI s.fuse), .int .i64 (s.ops : Int), .bool s.down]
/-- The program's disk: its struct in the block g, its bytes in b, its map in m. -/
structure DAt (B g b c m : Nat) (s : Dk) (vp : Value) (w : World) : Prop where
  base : B ≤ g
  row : w.heap[g]? = some (.cells (dA g s b s.image.length c vp m) 59 (0, 0))
  hb : B ≤ b
  cap : s.image.length ≤ c
  dur : BytesAt b s.image w
  pend : w.ownsRow B 64 129 vp s.waits.length (wtB s.waits)
  hm : B ≤ m
  map : MapIs eltInt m s.waits.length (lastF s.waits) w

def DBs (g b m : Nat) (vp : Value) (k : Nat) : Prop := k = g ∨ k = b ∨ k = m ∨ vp.ownBlock = some k

section
variable {B g b c m : Nat} {s : Dk} {vp : Value} {w : World} (h : DAt B g b c m s vp w)
include h

theorem DAt.stay {w' : World} (hk : ∀ k, DBs g b m vp k → w'.heap[k]? = w.heap[k]?) : DAt B g b c m s vp w' :=
  ⟨h.base, by rw [hk g (Or.inl rfl)]; exact h.row, h.hb, h.cap, h.dur.stay (hk b (Or.inr (Or.inl rfl))), own_stay h.pend (fun k e => hk k (Or.inr (Or.inr (Or.inr e)))), h.hm, h.map.stay (hk m (Or.inr (Or.inr (Or.inl rfl))))⟩

theorem DAt.lt : ∀ k, DBs g b m vp k → B ≤ k ∧ k < w.heap.size := by
  intro k hk
  rcases hk with rfl | rfl | rfl | e
  · exact ⟨h.base, (Array.getElem?_eq_some_iff.1 h.row).1⟩
  · exact ⟨h.hb, h.dur.lt⟩
  · exact ⟨h.hm, h.map.lt⟩
  · exact h.pend.lt k e

theorem DAt.kept {w' : World} (k : Kept w w') : DAt B g b c m s vp w' := h.stay (fun j hj => k.block j (h.lt j hj).2)
theorem DAt.cell (i : Nat) (x : Value) (hx : (dA g s b s.image.length c vp m)[i]? = some x) : w.cell? ⟨g, i, none⟩ = some x := by rw [cell_of_row _ _ _ _ _ _ h.row]; exact hx
theorem DAt.froz (i : Nat) : w.frozen? ⟨g, i, none⟩ = false := frozen_of_row _ _ _ _ _ h.row

/-- Its blocks are apart. -/
theorem DAt.apart : b ≠ g ∧ m ≠ g ∧ m ≠ b ∧ vp.ownBlock ≠ some g ∧ vp.ownBlock ≠ some b ∧ vp.ownBlock ≠ some m := by
  obtain ⟨cs, fr, hb⟩ := h.dur.typ
  obtain ⟨es, cl, hm⟩ := h.map.block
  refine ⟨fun e => ?_, fun e => ?_, fun e => ?_, fun e => ?_, fun e => ?_, fun e => ?_⟩
  · subst e; rw [h.row] at hb; simp at hb
  · subst e; rw [h.row] at hm; simp at hm
  · subst e; rw [hb] at hm; simp at hm
  · obtain ⟨cur, hc⟩ := own_typ h.pend g e
    rw [h.row] at hc; simp at hc
  · obtain ⟨cur, hc⟩ := own_typ h.pend b e
    rw [hb] at hc; simp at hc
  · obtain ⟨cur, hc⟩ := own_typ h.pend m e
    rw [hm] at hc; simp at hc

/-- Its plain fields written anew. -/
theorem DAt.fields {s' : Dk} {w' : World} (hr : w'.heap[g]? = some (.cells (dA g s' b s.image.length c vp m) 59 (0, 0))) (ho : ∀ k, k < w.heap.size → k ≠ g → w'.heap[k]? = w.heap[k]?) (hs : s'.stands = s.stands) (hw : s'.waits = s.waits) : DAt B g b c m s' vp w' := by
  have ha := h.apart
  have hi : s'.image = s.image := by unfold Dk.image; rw [hs]
  refine ⟨h.base, by rw [hi]; exact hr, h.hb, by rw [hi]; exact h.cap, by rw [hi]; exact h.dur.stay (ho b h.dur.lt ha.1), ?_, h.hm, ?_⟩
  · rw [hw]; exact own_stay h.pend (fun k e => ho k (h.pend.lt k e).2 (fun x => ha.2.2.2.1 (by rw [e, x])))
  · rw [hw]; exact h.map.stay (ho m h.map.lt ha.2.1)

theorem DAt.setRow (i : Nat) (x : Value) : (w.setCell ⟨g, i, none⟩ x).heap[g]? = some (.cells ((dA g s b s.image.length c vp m).setIfInBounds i x) 59 (0, 0)) := heap_setCell_same _ _ _ _ _ _ h.row

set_option maxRecDepth 100000 in
set_option maxHeartbeats 1000000 in
theorem dmade_any : Calls Try.prog 34 #[.pointer (some ⟨g, 0, none⟩)] w fun e w' => e = .returned (.bool true) ∧ w = w' := by
  have c0 : w.cell? ⟨g, 0, none⟩ = some (.pointer (some ⟨g, 0, none⟩)) := h.cell 0 _ rfl
  obtain ⟨ti, hti⟩ : ∃ ti, Try.prog.info? 59 = some ti := ⟨_, rfl⟩
  have heq := fun w' => run_eql_ptr_same (P := Try.prog) w' (⟨g, 0, none⟩ : Addr) Try.underlying23 hti
  clear h hti
  go_enter Try.func34, Try.ntmps34
  go_wp2
  go_ret
  exact ⟨rfl, rfl⟩

set_option maxRecDepth 100000 in
set_option maxHeartbeats 1000000 in
theorem dlen_any (hok : s.ok) : Calls Try.prog 18 #[.pointer (some ⟨g, 0, none⟩)] w fun e w' => e = .returned (.int .i64 (s.stands.length : Nat)) ∧ w = w' := by
  have M := dmade_any h
  have c1 : w.cell? ⟨g, 1, none⟩ = some (.slice (some ⟨b, 0, none⟩) s.image.length c) := h.cell 1 _ rfl
  rw [hok.image_len] at c1
  have hmost := hok.most
  obtain ⟨n, hn⟩ : ∃ n, n = s.stands.length := ⟨_, rfl⟩
  rw [← hn] at c1 hmost ⊢
  obtain ⟨z, hz⟩ : ∃ z, z = 128 * n := ⟨_, rfl⟩
  rw [← hz] at c1
  have v1 : wrap64 ((z : Int) / 128) = (n : Int) := by rw [show (z : Int) / 128 = (n : Int) by omega]; unfold wrap64; omega
  clear h hok hn hz
  go_enter Try.func18, Try.ntmps18
  go_wp2_with fail
  refine M.mono ?_
  rintro e w1 ⟨rfl, rfl⟩
  go_wp2
  go_ret
  exact ⟨congrArg (fun x => Ending.returned (.int .i64 x)) v1, rfl⟩

set_option maxRecDepth 100000 in
set_option maxHeartbeats 1000000 in
theorem dwaits_any : Calls Try.prog 15 #[.pointer (some ⟨g, 0, none⟩)] w fun e w' => e = .returned (.int .i64 (s.waits.length : Nat)) ∧ w = w' := by
  have M := dmade_any h
  obtain ⟨p, cp, hvp, -, -⟩ := own_slice h.pend
  have c2 : w.cell? ⟨g, 2, none⟩ = some vp := h.cell 2 _ rfl
  rw [hvp] at c2
  clear h hvp
  go_enter Try.func15, Try.ntmps15
  go_wp2_with fail
  refine M.mono ?_
  rintro e w1 ⟨rfl, rfl⟩
  go_wp2
  go_ret
  exact ⟨rfl, rfl⟩

set_option maxRecDepth 100000 in
set_option maxHeartbeats 1000000 in
theorem dops_any : Calls Try.prog 16 #[.pointer (some ⟨g, 0, none⟩)] w fun e w' => e = .returned (.int .i64 (s.ops : Nat)) ∧ w = w' := by
  have M := dmade_any h
  have c5 : w.cell? ⟨g, 5, none⟩ = some (.int .i64 (s.ops : Int)) := h.cell 5 _ rfl
  clear h
  go_enter Try.func16, Try.ntmps16
  go_wp2_with fail
  refine M.mono ?_
  rintro e w1 ⟨rfl, rfl⟩
  go_wp2
  go_ret
  exact ⟨rfl, rfl⟩

set_option maxRecDepth 100000 in
set_option maxHeartbeats 1000000 in
theorem ddown_any : Calls Try.prog 17 #[.pointer (some ⟨g, 0, none⟩)] w fun e w' => e = .returned (.bool s.down) ∧ w = w' := by
  have M := dmade_any h
  have c6 : w.cell? ⟨g, 6, none⟩ = some (.bool s.down) := h.cell 6 _ rfl
  clear h
  go_enter Try.func17, Try.ntmps17
  go_wp2_with fail
  refine M.mono ?_
  rintro e w1 ⟨rfl, rfl⟩
  go_wp2
  go_ret
  exact ⟨rfl, rfl⟩

set_option maxRecDepth 100000 in
set_option maxHeartbeats 1000000 in
theorem dimage_any : Calls Try.prog 14 #[.pointer (some ⟨g, 0, none⟩)] w fun e w' => e = .returned (.string (str s.image)) ∧ w = w' := by
  have M := dmade_any h
  have c1 : w.cell? ⟨g, 1, none⟩ = some (.slice (some ⟨b, 0, none⟩) s.image.length c) := h.cell 1 _ rfl
  have hcv := h.dur.conv 0 s.image.length c (by omega)
  rw [List.drop_zero, List.take_length] at hcv
  clear h
  go_enter Try.func14, Try.ntmps14
  go_wp2_with fail
  refine M.mono ?_
  rintro e w1 ⟨rfl, rfl⟩
  go_wp2
  go_ret
  exact ⟨rfl, rfl⟩

/-- What a call that changes the disk leaves. -/
def DsPost (B g b c m : Nat) (s' : Dk) (vp ret : Value) (w : World) (e : Ending) (w' : World) : Prop :=
  e = .returned ret ∧ ∃ vp', DAt B g b c m s' vp' w' ∧ (∀ k, vp'.ownBlock = some k → vp.ownBlock = some k ∨ w.heap.size ≤ k) ∧ ButBy (DBs g b m vp) w w'

set_option maxRecDepth 100000 in
set_option maxHeartbeats 1000000 in
theorem dfuse_any (n : Int) : Calls Try.prog 24 #[.pointer (some ⟨g, 0, none⟩), .int .i64 n] w (DsPost B g b c m { s with fuse := n } vp (.tuple #[]) w) := by
  have M := dmade_any h
  have f4 := h.froz 4
  have c4 : w.cell? ⟨g, 4, none⟩ = some (.int .i64 (fzI s.fuse)) := h.cell 4 _ rfl
  have FIN : Hid (DsPost B g b c m { s with fuse := n } vp (.tuple #[]) w (.returned (.tuple #[])) (w.setCell ⟨g, 4, none⟩ (.int .i64 (fzI n)))) := Lib.hid
    ⟨rfl, vp, h.fields (by rw [h.setRow 4]; rfl) (fun k _ hk => set_other _ _ _ _ _ hk) rfl rfl, fun k e => Or.inl e, (but_refl _ w).setCell g 4 _ (Or.inl rfl)⟩
  clear h
  by_cases hn : (-1 : Int) > n
  · have e : fzI n = -1 := by unfold fzI; rw [if_pos hn]
    rw [e] at FIN
    clear e
    go_enter Try.func24, Try.ntmps24
    go_wp2_with fail
    refine M.mono ?_
    rintro e w1 ⟨rfl, rfl⟩
    go_wp2
    first | go_ret | go_end0
    exact FIN.out
  · have e : fzI n = n := by unfold fzI; rw [if_neg hn]
    rw [e] at FIN
    clear e
    go_enter Try.func24, Try.ntmps24
    go_wp2_with fail
    refine M.mono ?_
    rintro e w1 ⟨rfl, rfl⟩
    go_wp2
    first | go_ret | go_end0
    exact FIN.out

set_option maxRecDepth 100000 in
set_option maxHeartbeats 1000000 in
/-- Does the disk execute anything? -/
theorem dready_any : Calls Try.prog 38 #[.pointer (some ⟨g, 0, none⟩)] w fun e w' => e = .returned (.int .i64 (if s.down = true then 90 else 0)) ∧ w = w' := by
  have M := dmade_any h
  have c6 : w.cell? ⟨g, 6, none⟩ = some (.bool s.down) := h.cell 6 _ rfl
  clear h
  cases hd : s.down with
  | true =>
    rw [hd] at c6
    rw [if_pos rfl]
    clear hd
    go_enter Try.func38, Try.ntmps38
    go_wp2_with fail
    refine M.mono ?_
    rintro e w1 ⟨rfl, rfl⟩
    go_wp2
    go_ret
    exact ⟨rfl, rfl⟩
  | false =>
    rw [hd] at c6
    rw [if_neg (by decide)]
    clear hd
    go_enter Try.func38, Try.ntmps38
    go_wp2_with fail
    refine M.mono ?_
    rintro e w1 ⟨rfl, rfl⟩
    go_wp2
    go_ret
    exact ⟨rfl, rfl⟩

set_option maxRecDepth 100000 in
set_option maxHeartbeats 1000000 in
/-- May a sector be asked for? -/
theorem dreach_any (hok : s.ok) (i : Int) : Calls Try.prog 35 #[.pointer (some ⟨g, 0, none⟩), .int .i64 i] w fun e w' => e = .returned (.int .i64 (s.readE i)) ∧ w = w' := by
  have RD := dready_any h
  have LN := dlen_any h hok
  by_cases hd : s.down = true
  · have e1 : s.readE i = 90 := by unfold Dk.readE; rw [if_pos hd]
    rw [e1]
    rw [if_pos hd] at RD
    clear h hok e1 hd LN
    go_enter Try.func35, Try.ntmps35
    go_wp2_with fail
    refine RD.mono ?_
    rintro e w1 ⟨rfl, rfl⟩
    go_wp2
    go_ret
    exact ⟨rfl, rfl⟩
  · rw [if_neg hd] at RD
    by_cases ho : s.out i
    · have e1 : s.readE i = 5 := by unfold Dk.readE; rw [if_neg hd, if_pos ho]
      rw [e1]
      unfold Dk.out at ho
      obtain ⟨n, hn⟩ : ∃ n, n = s.stands.length := ⟨_, rfl⟩
      rw [← hn] at LN ho
      clear h hok e1 hd hn
      by_cases h0 : i < 0
      · go_enter Try.func35, Try.ntmps35
        go_wp2_with fail
        refine RD.mono ?_
        rintro e w1 ⟨rfl, rfl⟩
        go_wp2
        go_ret
        exact ⟨rfl, rfl⟩
      · have h1 : (n : Int) ≤ i := by omega
        clear ho
        go_enter Try.func35, Try.ntmps35
        go_wp2_with fail
        refine RD.mono ?_
        rintro e w1 ⟨rfl, rfl⟩
        go_wp2_with fail
        refine LN.mono ?_
        rintro e w1 ⟨rfl, rfl⟩
        go_wp2
        go_ret
        exact ⟨rfl, rfl⟩
    · have e1 : s.readE i = 0 := by unfold Dk.readE; rw [if_neg hd, if_neg ho]
      rw [e1]
      unfold Dk.out at ho
      obtain ⟨n, hn⟩ : ∃ n, n = s.stands.length := ⟨_, rfl⟩
      rw [← hn] at LN ho
      have h0 : ¬ i < 0 := by omega
      have h1 : ¬ (n : Int) ≤ i := by omega
      clear h hok e1 hd hn ho
      go_enter Try.func35, Try.ntmps35
      go_wp2_with fail
      refine RD.mono ?_
      rintro e w1 ⟨rfl, rfl⟩
      go_wp2_with fail
      refine LN.mono ?_
      rintro e w1 ⟨rfl, rfl⟩
      go_wp2
      go_ret
      exact ⟨rfl, rfl⟩

set_option maxRecDepth 100000 in
set_option maxHeartbeats 1000000 in
/-- Where a sector stands. -/
theorem dsector_any (hok : s.ok) (q : Nat) (hq : q < s.stands.length) : Calls Try.prog 36 #[.pointer (some ⟨g, 0, none⟩), .int .i64 (q : Int)] w fun e w' => e = .returned (.slice (some ⟨b, 128 * q, none⟩) 128 (c - 128 * q)) ∧ w = w' := by
  have c1 : w.cell? ⟨g, 1, none⟩ = some (.slice (some ⟨b, 0, none⟩) s.image.length c) := h.cell 1 _ rfl
  have hil := hok.image_len
  have hcap := h.cap
  have hmost := hok.most
  obtain ⟨a, ha⟩ : ∃ a, a = 128 * q := ⟨_, rfl⟩
  rw [← ha]
  obtain ⟨z, hz⟩ : ∃ z, z = a + 128 := ⟨_, rfl⟩
  obtain ⟨L, hL⟩ : ∃ L, L = s.image.length := ⟨_, rfl⟩
  rw [← hL] at c1 hil hcap
  obtain ⟨q1, hq1⟩ : ∃ q1, q1 = q + 1 := ⟨_, rfl⟩
  have v0 : IntKind.i64.wrap ((q : Int) + 1) = (q1 : Int) := by rw [show (q : Int) + 1 = (q1 : Int) by omega]; exact IntWalk.i64_in _ (by omega)
  have v1 : IntKind.i64.wrap ((q : Int) * 128) = (a : Int) := by rw [show (q : Int) * 128 = (a : Int) by omega]; exact IntWalk.i64_in _ (by omega)
  have v2 : IntKind.i64.wrap ((q1 : Int) * 128) = (z : Int) := by rw [show (q1 : Int) * 128 = (z : Int) by omega]; exact IntWalk.i64_in _ (by omega)
  have i1 : (0 : Int) ≤ a := by omega
  have i2 : (a : Int) ≤ z := by omega
  have i3 : (z : Int) ≤ c := by omega
  have i4 : ¬ (z : Int) < a := by omega
  have i5 : z - a = 128 := by omega
  have i6 : ¬ c = a := by omega
  clear h hok hil hcap hmost hq ha hz hL hq1
  go_enter Try.func36, Try.ntmps36
  go_wp2
  go_ret
  exact ⟨rfl, rfl⟩

set_option maxRecDepth 100000 in
set_option maxHeartbeats 1000000 in
/-- An operation begins. -/
theorem dcut_any (hlo : s.ops ≤ 4294967296) (hfz : -9223372036854775808 ≤ s.fuse ∧ s.fuse ≤ 9223372036854775807) :
    Calls Try.prog 37 #[.pointer (some ⟨g, 0, none⟩)] w fun e w' => e = .returned (.int .i64 (if s.fuse = 0 then 90 else 0)) ∧ DAt B g b c m s.cut vp w' ∧ ButBy (fun k => k = g) w w' := by
  have c5 : w.cell? ⟨g, 5, none⟩ = some (.int .i64 (s.ops : Int)) := h.cell 5 _ rfl
  have f5 := h.froz 5
  have w1r := h.setRow 5 (.int .i64 ((s.ops + 1 : Nat) : Int))
  have hw1 : (dA g s b s.image.length c vp m).setIfInBounds 5 (.int .i64 ((s.ops + 1 : Nat) : Int)) = #[.pointer (some ⟨g, 0, none⟩), .slice (some ⟨b, 0, none⟩) s.image.length c, vp, .map (some m), .int .i64 (fzI s.fuse), .int .i64 ((s.ops + 1 : Nat) : Int), .bool s.down] := rfl
  rw [hw1] at w1r
  have HO : Hid (∀ k, k ≠ g → (w.setCell ⟨g, 5, none⟩ (.int .i64 ((s.ops + 1 : Nat) : Int))).heap[k]? = w.heap[k]?) := Lib.hid (fun k hk => set_other _ _ _ _ _ hk)
  have HB1 : Hid (ButBy (fun k => k = g) w (w.setCell ⟨g, 5, none⟩ (.int .i64 ((s.ops + 1 : Nat) : Int)))) := Lib.hid ((but_refl _ w).setCell g 5 _ rfl)
  have H := Lib.hid h
  have v1 : IntKind.i64.wrap ((s.ops : Int) + 1) = ((s.ops + 1 : Nat) : Int) := by rw [show (s.ops : Int) + 1 = ((s.ops + 1 : Nat) : Int) by omega]; exact IntWalk.i64_in _ (by omega)
  have HCUT : Hid (s.cut = ⟨s.stands, s.waits, if 0 < s.fuse then s.fuse - 1 else s.fuse, s.ops + 1, s.down || s.fuse == 0⟩) := Lib.hid rfl
  obtain ⟨o1, ho1⟩ : ∃ o1, o1 = s.ops + 1 := ⟨_, rfl⟩
  rw [← ho1] at w1r HO HB1 v1 HCUT
  obtain ⟨fz, hfe⟩ : ∃ fz, fz = s.fuse := ⟨_, rfl⟩
  rw [← hfe] at w1r hfz HCUT ⊢
  obtain ⟨W1, hW1⟩ : ∃ W1, W1 = w.setCell ⟨g, 5, none⟩ (.int .i64 (o1 : Int)) := ⟨_, rfl⟩
  rw [← hW1] at w1r HO HB1
  have HW1 := Lib.hid hW1
  have W1R := Lib.hid w1r
  have d4 : W1.cell? ⟨g, 4, none⟩ = some (.int .i64 (fzI fz)) := by rw [cell_of_row _ _ _ _ _ _ w1r]; rfl
  have d6 : W1.cell? ⟨g, 6, none⟩ = some (.bool s.down) := by rw [cell_of_row _ _ _ _ _ _ w1r]; rfl
  have e4 := frozen_of_row W1 g 4 _ _ w1r
  have e6 := frozen_of_row W1 g 6 _ _ w1r
  clear h w1r hw1 hW1 hfe ho1 hlo
  rw [HW1.out] at d4 d6 e4 e6
  by_cases h0 : fz = 0
  · subst h0
    rw [if_pos rfl]
    have d4' : (w.setCell ⟨g, 5, none⟩ (.int .i64 (o1 : Int))).cell? ⟨g, 4, none⟩ = some (.int .i64 0) := d4
    clear d4
    go_enter Try.func37, Try.ntmps37
    go_wp2
    go_ret
    rw [← HW1.out]
    refine ⟨rfl, H.out.fields ?_ (fun k hk hn => (set_other _ _ _ _ _ hn).trans (HO.out k hn)) rfl rfl, HB1.out.setCell g 6 _ rfl⟩
    rw [heap_setCell_same _ _ _ _ _ _ W1R.out, HCUT.out]
    simp [dA]
  · have hne : (fz == 0) = false := beq_eq_false_iff_ne.2 h0
    rw [if_neg h0]
    rw [hne] at HCUT
    by_cases hp : 0 < fz
    · have v2 : IntKind.i64.wrap (fz - 1) = fz - 1 := IntWalk.i64_in _ (by omega)
      rw [fzI_pos fz (by omega)] at d4
      have hb1 : (fz == -1) = false := beq_eq_false_iff_ne.2 (by omega)
      have HP := Lib.hid hp
      have HF1 : Hid (fzI (fz - 1) = fz - 1) := Lib.hid (fzI_pos _ (by omega))
      clear hp
      go_enter Try.func37, Try.ntmps37
      go_wp2
      go_ret
      rw [← HW1.out]
      refine ⟨rfl, H.out.fields ?_ (fun k hk hn => (set_other _ _ _ _ _ hn).trans (HO.out k hn)) rfl rfl, HB1.out.setCell g 4 _ rfl⟩
      rw [heap_setCell_same _ _ _ _ _ _ W1R.out, HCUT.out, if_pos HP.out]
      simp [dA, HF1.out]
    · have hq : fzI fz = -1 := (fzI_neg fz).2 (by omega)
      rw [hq] at d4
      have HP := Lib.hid hp
      have HQ := Lib.hid hq
      clear hp hne h0 hq
      go_enter Try.func37, Try.ntmps37
      go_wp2
      go_ret
      rw [← HW1.out]
      refine ⟨rfl, H.out.fields ?_ (fun k hk hn => HO.out k hn) rfl rfl, HB1.out⟩
      rw [W1R.out, HCUT.out, if_neg (by have := HP.out; omega)]
      simp [dA]
end

end Go.Proofs.Ytpnnlpmkgglgdaa
