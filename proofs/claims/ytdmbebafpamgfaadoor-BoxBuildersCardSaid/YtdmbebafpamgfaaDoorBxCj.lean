/- The landed boxes' Builder. -/
import Derived.Test.YtdmbebafpamgfaaDoorBxCi
import Derived.LaidEqlPtr
namespace Go.Proofs.YtdmbebafpamgfaaDoor
open Go.RowKit

/-- A builder's cells. -/
def bdC (g id s t S M : Nat) (tv : Value) : Array Value := #[.pointer (some ⟨g, 0, none⟩), .int .i64 (s : Nat), .int .i64 (t : Nat), .int .i64 (S : Nat), .int .i64 (M : Nat), .int .u32 (id : Nat), tv]
/-- A builder at work, behind a world. -/
structure BI (Bs : Nat → Prop) (w : World) (g id s t S M : Nat) (tv : Value) (L : List ByteArray) (wx : World) : Prop where
  but : ButBy Bs w wx
  size : g + 1 ≤ wx.heap.size
  row : wx.heap[g]? = some (.cells #[.pointer (some ⟨g, 0, none⟩), .int .i64 (s : Nat), .int .i64 (t : Nat), .int .i64 (S : Nat), .int .i64 (M : Nat), .int .u32 (id : Nat), tv] 92 (0, 0))
  own : wx.ownsRow (g + 1) 9 1 tv L.length (bV L)
  fits : Bs g ∧ ∀ m, tv.ownBlock = some m → Bs m
theorem BI.later {Bs : Nat → Prop} {w wx wy : World} {g id s t S M : Nat} {tv : Value} {L : List ByteArray} (h : BI Bs w g id s t S M tv L wx) (k : Kept wx wy) : BI Bs w g id s t S M tv L wy :=
  ⟨h.but.then_kept k, Nat.le_trans h.size k.size, k.row h.row, own_stay h.own (fun m hm => k.block m (h.own.lt m hm).2), h.fits⟩
theorem BI.c1 {Bs : Nat → Prop} {w wx : World} {g id s t S M : Nat} {tv : Value} {L : List ByteArray} (h : BI Bs w g id s t S M tv L wx) : wx.cell? ⟨g, 1, none⟩ = some (.int .i64 (s : Nat)) := by rw [cell_of_row _ _ _ _ _ _ h.row]; rfl
theorem BI.c6 {Bs : Nat → Prop} {w wx : World} {g id s t S M : Nat} {tv : Value} {L : List ByteArray} (h : BI Bs w g id s t S M tv L wx) : wx.cell? ⟨g, 6, none⟩ = some tv := by rw [cell_of_row _ _ _ _ _ _ h.row]; rfl
/-- What an append and the store behind it leave. -/
structure BJ (Bs : Nat → Prop) (w : World) (g id s t S M : Nat) (tv : Value) (L : List ByteArray) (wx : World) : Prop where
  but : ButBy Bs w wx
  row : wx.heap[g]? = some (.cells #[.pointer (some ⟨g, 0, none⟩), .int .i64 (s : Nat), .int .i64 (t : Nat), .int .i64 (S : Nat), .int .i64 (M : Nat), .int .u32 (id : Nat), tv] 92 (0, 0))
  own : wx.ownsRow (g + 1) 9 1 tv L.length (bV L)
theorem BJ.c1 {Bs : Nat → Prop} {w wx : World} {g id s t S M : Nat} {tv : Value} {L : List ByteArray} (h : BJ Bs w g id s t S M tv L wx) : wx.cell? ⟨g, 1, none⟩ = some (.int .i64 (s : Nat)) := by rw [cell_of_row _ _ _ _ _ _ h.row]; rfl
theorem BI.app {Bs : Nat → Prop} {w wd w6 : World} {g id s t S M : Nat} {tv v' : Value} {L : List ByteArray} {c : ByteArray} {XA : Array Value} (h : BI Bs w g id s t S M tv L wd)
    (ho6 : w6.ownsRow (g + 1) 9 1 v' (L.length + 1) (bV L ++ [Value.string c])) (hg : (wd.alloc (.cells XA 9)).grownBy w6 tv.ownBlock) :
    w6.heap[g]? = some (.cells #[.pointer (some ⟨g, 0, none⟩), .int .i64 (s : Nat), .int .i64 (t : Nat), .int .i64 (S : Nat), .int .i64 (M : Nat), .int .u32 (id : Nat), tv] 92 (0, 0)) ∧
      BJ Bs w g id s t S M v' (L ++ [c]) (w6.setCell ⟨g, 6, none⟩ v') := by
  have hka : Kept wd (wd.alloc (.cells XA 9)) := box_below _ _
  have hl5 := (Array.getElem?_eq_some_iff.1 h.row).1
  have nb : ∀ m, tv.ownBlock = some m → g + 1 ≤ m := fun m hm => (h.own.lt m hm).1
  have nb' : ∀ m, v'.ownBlock = some m → g + 1 ≤ m := fun m hm => (ho6.lt m hm).1
  have hb6 : ButBy (fun m => tv.ownBlock = some m) wd w6 := ⟨hg.os.trans hka.os, hg.tape.trans hka.tape, hg.output.trans hka.output, Nat.le_trans hka.size hg.size, fun m hm hn => (hg.block m (Nat.lt_of_lt_of_le hm hka.size) (fun e => hn e.symm)).trans (hka.block m hm)⟩
  have h5 : w6.heap[g]? = some (.cells #[.pointer (some ⟨g, 0, none⟩), .int .i64 (s : Nat), .int .i64 (t : Nat), .int .i64 (S : Nat), .int .i64 (M : Nat), .int .u32 (id : Nat), tv] 92 (0, 0)) := by
    rw [hb6.block g hl5 (fun e => by have := nb _ e; omega)]; exact h.row
  have hbb : ButBy Bs w w6 := h.but.trans (hb6.mono (fun m hm => h.fits.2 m hm))
  refine ⟨h5, hbb.setCell g 6 v' h.fits.1, heap_setCell_same w6 g 6 _ _ v' h5, ?_⟩
  have e1 : (L ++ [c]).length = L.length + 1 := by simp
  rw [e1, ← bV_snoc]
  exact own_stay ho6 (fun m hm => heap_setCell_other _ _ _ _ (by show m ≠ g; have := nb' m hm; omega))

/-- A builder that New returned, and its chunks. -/
structure BdAt (B g id S M : Nat) (tv : Value) (L : List ByteArray) (w : World) : Prop where
  base : B ≤ g
  row : w.heap[g]? = some (.cells #[.pointer (some ⟨g, 0, none⟩), .int .i64 (L.length : Nat), .int .i64 ((lensC L).sum : Nat), .int .i64 (S : Nat), .int .i64 (M : Nat), .int .u32 (id : Nat), tv] 92 (0, 0))
  own : w.ownsRow (g + 1) 9 1 tv L.length (bV L)
  lens : (∀ x ∈ lensC L, 1 ≤ x ∧ x ≤ 4096) ∧ L.length ≤ S ∧ (lensC L).sum ≤ M
def BdP (B g id S M : Nat) (L : List ByteArray) (Bs : Nat → Prop) (w : World) : Prop := ∃ tv, (∀ k, Bs k ↔ (k = g ∨ tv.ownBlock = some k)) ∧ BdAt B g id S M tv L w

section
variable {B g id S M : Nat} {tv : Value} {L : List ByteArray} {w : World}
theorem BdAt.gsize (h : BdAt B g id S M tv L w) : g < w.heap.size := (Array.getElem?_eq_some_iff.1 h.row).1
theorem BdAt.stay {w' : World} (h : BdAt B g id S M tv L w) (hk : ∀ k, (k = g ∨ tv.ownBlock = some k) → w'.heap[k]? = w.heap[k]?) : BdAt B g id S M tv L w' :=
  ⟨h.base, by rw [hk g (Or.inl rfl)]; exact h.row, own_stay h.own (fun k e => hk k (Or.inr e)), h.lens⟩
theorem BdAt.c (h : BdAt B g id S M tv L w) (i : Nat) (x : Value) (hx : (bdC g id L.length (lensC L).sum S M tv)[i]? = some x) : w.cell? ⟨g, i, none⟩ = some x := by rw [cell_of_row _ _ _ _ _ _ h.row]; exact hx

set_option maxRecDepth 100000 in
set_option maxHeartbeats 1000000 in
theorem bmade_any (h : BdAt B g id S M tv L w) : Calls Tryd.prog 51 #[.pointer (some ⟨g, 0, none⟩)] w fun e w' => e = .returned (.bool true) ∧ w = w' := by
  have c0 : w.cell? ⟨g, 0, none⟩ = some (.pointer (some ⟨g, 0, none⟩)) := h.c 0 _ rfl
  obtain ⟨ti, hti⟩ : ∃ ti, Tryd.prog.info? 92 = some ti := ⟨_, rfl⟩
  have heq := fun w' => run_eql_ptr_same (P := Tryd.prog) w' (⟨g, 0, none⟩ : Addr) Tryd.underlying51 hti
  clear h hti
  go_enter Tryd.func51, Tryd.ntmps51
  go_wp2
  go_ret
  exact ⟨rfl, rfl⟩

set_option maxRecDepth 100000 in
theorem blen_any (h : BdAt B g id S M tv L w) : Calls Tryd.prog 28 #[.pointer (some ⟨g, 0, none⟩)] w fun e w' => e = .returned (.int .i64 (L.length : Nat)) ∧ Kept w w' := by
  have CM := bmade_any h
  have c1 : w.cell? ⟨g, 1, none⟩ = some (.int .i64 (L.length : Nat)) := h.c 1 _ rfl
  obtain ⟨n, hn⟩ : ∃ n, n = L.length := ⟨_, rfl⟩
  rw [← hn] at c1 ⊢
  clear h hn
  go_enter Tryd.func28, Tryd.ntmps28
  go_wp2_with fail
  refine CM.mono ?_
  rintro e w1 ⟨rfl, rfl⟩
  clear CM
  go_wp2
  go_ret
  exact ⟨rfl, Kept.refl _⟩

set_option maxRecDepth 100000 in
set_option maxHeartbeats 2000000 in
theorem bchunk_any (h : BdAt B g id S M tv L w) (k : Int) : Calls Tryd.prog 30 #[.pointer (some ⟨g, 0, none⟩), .int .i64 k] w fun e w' =>
    e = .returned (.tuple #[.string (if 0 ≤ k ∧ k < L.length then L.getD k.toNat ⟨#[]⟩ else ⟨#[]⟩), .int .i64 (if 0 ≤ k ∧ k < L.length then 0 else 5)]) ∧ Kept w w' := by
  have CM := bmade_any h
  have c1 : w.cell? ⟨g, 1, none⟩ = some (.int .i64 (L.length : Nat)) := h.c 1 _ rfl
  have c6 : w.cell? ⟨g, 6, none⟩ = some tv := h.c 6 _ rfl
  obtain ⟨p, c, rfl, hcap, hrow⟩ := own_slice h.own
  have hl := h.lens.2.1
  have HRW : Hid (∀ i (hi : i < L.length), ∃ b, p = some ⟨b, 0, none⟩ ∧ w.cell? ⟨b, i, none⟩ = some (.string L[i])) := Lib.hid (fun i hi => by
    rcases hrow with h0 | ⟨b, hp, -, hc⟩
    · omega
    · exact ⟨b, hp, hc i _ (bV_get L i hi)⟩)
  obtain ⟨n, hn⟩ : ∃ n, n = L.length := ⟨_, rfl⟩
  have HN := Lib.hid hn
  rw [← hn] at c1 c6 hcap hl ⊢
  clear h hrow hn
  by_cases hk : 0 ≤ k ∧ k < n
  · rw [if_pos hk, if_pos hk]
    obtain ⟨i, rfl⟩ : ∃ i : Nat, k = i := ⟨k.toNat, by omega⟩
    have hin : i < L.length := by have := HN.out; omega
    obtain ⟨b, rfl, e0⟩ := HRW.out i hin
    have hgd : L.getD ((i : Int)).toNat ⟨#[]⟩ = L[i] := by rw [Int.toNat_natCast, List.getD_eq_getElem?_getD, List.getElem?_eq_getElem hin]; rfl
    rw [hgd]
    obtain ⟨X, hX⟩ : ∃ X, X = L[i] := ⟨_, rfl⟩
    rw [← hX] at e0 ⊢
    have b1 : decide ((i : Int) < 0) = false := decide_eq_false (by omega)
    have b2 : decide ((i : Int) ≥ (n : Int)) = false := decide_eq_false (by omega)
    have hi0 : (0 : Int) ≤ i := by omega
    have hin2 : (i : Int) < n := by omega
    clear HRW hX hgd hk hin
    go_enter Tryd.func30, Tryd.ntmps30
    go_wp2_with fail
    refine CM.mono ?_
    rintro e w1 ⟨rfl, rfl⟩
    clear CM
    go_wp2
    first | go_ret | go_ret2
    exact ⟨rfl, Kept.refl _⟩
  · rw [if_neg hk, if_neg hk]
    have hcs : k < 0 ∨ (0 ≤ k ∧ (n : Int) ≤ k) := by omega
    clear HRW hk
    rcases hcs with h0 | ⟨h0, h1⟩
    · have b1 : decide (k < 0) = true := decide_eq_true h0
      go_enter Tryd.func30, Tryd.ntmps30
      go_wp2_with fail
      refine CM.mono ?_
      rintro e w1 ⟨rfl, rfl⟩
      clear CM
      go_wp2
      first | go_ret | go_ret2
      exact ⟨rfl, Kept.refl _⟩
    · have b1 : decide (k < 0) = false := decide_eq_false (by omega)
      have b2 : decide (k ≥ (n : Int)) = true := decide_eq_true h1
      go_enter Tryd.func30, Tryd.ntmps30
      go_wp2_with fail
      refine CM.mono ?_
      rintro e w1 ⟨rfl, rfl⟩
      clear CM
      go_wp2
      first | go_ret | go_ret2
      exact ⟨rfl, Kept.refl _⟩

set_option maxRecDepth 100000 in
set_option maxHeartbeats 4000000 in
theorem bshut_any (h : BdAt B g id S M tv L w) (hid : idOk id) (hS : S ≤ 256) (hM : M ≤ 65536) (hT : TabAt w) : Calls Tryd.prog 29 #[.pointer (some ⟨g, 0, none⟩)] w fun e w' =>
    e = .returned (.tuple #[.string (if L = [] then ⟨#[]⟩ else str (boxB id L)), .int .i64 (if L = [] then 6 else 0)]) ∧ Kept w w' := by
  have CM := bmade_any h
  have c1 : w.cell? ⟨g, 1, none⟩ = some (.int .i64 (L.length : Nat)) := h.c 1 _ rfl
  have x5 : w.cell? ⟨g, 5, none⟩ = some (.int .u32 (id : Nat)) := h.c 5 _ rfl
  have x6 : w.cell? ⟨g, 6, none⟩ = some tv := h.c 6 _ rfl
  by_cases hL : L = []
  · rw [if_pos hL, if_pos hL]
    rw [hL] at c1
    have c1' : w.cell? ⟨g, 1, none⟩ = some (.int .i64 0) := c1
    clear h x5 x6 hL c1
    go_enter Tryd.func29, Tryd.ntmps29
    go_wp2_with fail
    refine CM.mono ?_
    rintro e w1 ⟨rfl, rfl⟩
    clear CM
    go_wp2
    first | go_ret | go_ret2
    exact ⟨rfl, Kept.refl _⟩
  · rw [if_neg hL, if_neg hL]
    have hl1 : 1 ≤ L.length := by
      cases L with
      | nil => exact absurd rfl hL
      | cons a l => simp
    have hl2 := h.lens
    have hm : mayC id L := by
      refine ⟨hid, ?_, hl2.1, by omega⟩
      have e : (lensC L).length = L.length := by unfold lensC; rw [List.length_map]
      rw [e]
      omega
    have hcb : StrAtC L tv w := strAtC_ownX h.own
    have hsz : ∀ s ∈ L, s.size ≤ 100000 := fun s hs => by have := (hl2.1 s.size (List.mem_map.2 ⟨s, hs, rfl⟩)).2; omega
    have CB := fun W (k : Kept w W) => buildOkB id L tv W (by have := hid.2; omega) ⟨hcb.1.later k, hcb.2⟩ (by omega) hsz (hT.later k)
    unfold buildV at CB
    rw [if_pos hm, if_pos hm] at CB
    obtain ⟨R, hR⟩ : ∃ R, R = str (boxB id L) := ⟨_, rfl⟩
    rw [← hR] at CB ⊢
    obtain ⟨n, hn⟩ : ∃ n, n = L.length := ⟨_, rfl⟩
    rw [← hn] at c1
    have b1 : ((n : Int) == 0) = false := beq_eq_false_iff_ne.2 (by omega)
    obtain ⟨p, c, rfl, -, -⟩ := own_slice h.own
    rw [← hn] at x6 CB
    clear h hL hl1 hl2 hm hcb hsz hR hn hT
    go_enter Tryd.func29, Tryd.ntmps29
    go_wp2_with fail
    refine CM.mono ?_
    rintro e w1 ⟨rfl, rfl⟩
    clear CM
    go_wp2_with fail
    refine wp_region_kept (by kernel_rfl) (by kernel_rfl) ?_
    refine wpQuiet_pure (v := ?_) (by kernel_rfl) ?_ (fun K hK => ?_)
    case refine_2 => intro W _; go_simp; try with_reducible rfl
    go_simp
    refine hK _ ?_; clear hK K
    refine wpQuiet_pure (v := ?_) (by kernel_rfl) ?_ (fun K hK => ?_)
    case refine_2 => intro W _; go_simp; try with_reducible rfl
    go_simp
    refine hK _ ?_; clear hK K
    refine wpQuiet_pure (v := ?_) (by kernel_rfl) ?_ (fun K hK => ?_)
    case refine_2 => intro W _; go_simp; try with_reducible rfl
    go_simp
    refine hK _ ?_; clear hK K
    refine wpQuiet_pure (v := ?_) (by kernel_rfl) ?_ (fun K hK => ?_)
    case refine_2 => intro W hW; have e0 := hW.cell x5; go_simp; try with_reducible rfl
    go_simp
    refine hK _ ?_; clear hK K
    refine wpQuiet_pure (v := ?_) (by kernel_rfl) ?_ (fun K hK => ?_)
    case refine_2 => intro W _; go_simp; try with_reducible rfl
    go_simp
    refine hK _ ?_; clear hK K
    refine wpQuiet_pure (v := ?_) (by kernel_rfl) ?_ (fun K hK => ?_)
    case refine_2 => intro W _; go_simp; try with_reducible rfl
    go_simp
    refine hK _ ?_; clear hK K
    refine wpQuiet_pure (v := ?_) (by kernel_rfl) ?_ (fun K hK => ?_)
    case refine_2 => intro W _; go_simp; try with_reducible rfl
    go_simp
    refine hK _ ?_; clear hK K
    refine wpQuiet_pure (v := ?_) (by kernel_rfl) ?_ (fun K hK => ?_)
    case refine_2 => intro W hW; have e0 := hW.cell x6; go_simp; try with_reducible rfl
    go_simp
    refine hK _ ?_; clear hK K
    refine wpQuiet_call (by kernel_rfl) _ _ _ (fun W => by go_simp) (fun W h => Calls.kept_of h (CB W h)) (fun K hK => ?_)
    go_simp
    refine hK _ ?_; clear hK K
    refine wpQuiet_pure (v := ?_) (by kernel_rfl) ?_ (fun K hK => ?_)
    case refine_2 => intro W _; go_simp; try with_reducible rfl
    go_simp
    refine hK _ ?_; clear hK K
    refine wpQuiet_pure (v := ?_) (by kernel_rfl) ?_ (fun K hK => ?_)
    case refine_2 => intro W _; go_simp; try with_reducible rfl
    go_simp
    refine hK _ ?_; clear hK K
    refine wpQuiet_pure (v := ?_) (by kernel_rfl) ?_ (fun K hK => ?_)
    case refine_2 => intro W _; go_simp; try with_reducible rfl
    go_simp
    refine hK _ ?_; clear hK K
    refine wpQuiet_pure (v := ?_) (by kernel_rfl) ?_ (fun K hK => ?_)
    case refine_2 => intro W _; go_simp; try with_reducible rfl
    go_simp
    refine hK _ ?_; clear hK K
    refine wpQuiet_nil ?_
    intro w6 hk6
    have HK6 := Lib.hid (show Kept w w6 from hk6)
    clear hk6 CB c1 x5 x6
    go_wp2
    first | go_ret | go_ret2
    exact ⟨rfl, HK6.out⟩

theorem bclone_any (s : ByteArray) (hs : s.size ≤ 281474976710656) (w : World) :
    Calls Tryd.prog 52 #[.string s] w fun e w' => e = .returned (.string s) ∧ Below w.heap.size w w' := by
  have C := Tryd.stringslite_Clone s w hs
  go_enter Tryd.func52, Tryd.ntmps52
  go_wp2_with fail
  refine C.mono ?_
  rintro e w1 ⟨rfl, hb⟩
  go_wp2
  go_ret
  exact ⟨rfl, hb⟩

/-- Add's error is the counters'. -/
theorem addE_cnt (L : List ByteArray) (c : ByteArray) (hl : L.length ≤ S) : addE S M L c = cntE L.length (lensC L).sum S M c.size := by
  unfold addE cntE
  by_cases h1 : c.size < 1 ∨ 4096 < c.size
  · rw [if_pos h1, if_pos h1]
  · rw [if_neg h1, if_neg h1]
    by_cases h2 : L.length = S ∨ M < (lensC L).sum + c.size
    · rw [if_neg (by omega), if_pos h2]
    · rw [if_pos (by omega), if_neg h2]
theorem lensC_snoc (L : List ByteArray) (c : ByteArray) : lensC (L ++ [c]) = lensC L ++ [c.size] := by unfold lensC; rw [List.map_append]; rfl

set_option maxRecDepth 100000 in
set_option maxHeartbeats 32000000 in
theorem badd_any (h : BdAt B g id S M tv L w) (hS : S ≤ 256) (hM : M ≤ 65536) (Bs : Nat → Prop) (hBs : ∀ k, Bs k ↔ (k = g ∨ tv.ownBlock = some k)) (c : ByteArray) (hc : c.size ≤ 100000) :
    Calls Tryd.prog 26 #[.pointer (some ⟨g, 0, none⟩), .string c] w fun e w' =>
      e = .returned (.tuple #[.int .i64 (addI S M L c : Nat), .int .i64 (addE S M L c)]) ∧ (∃ Bs', BdP B g id S M (addL S M L c) Bs' w' ∧ ∀ k, Bs' k → Bs k ∨ w.heap.size ≤ k) ∧ ButBy Bs w w' := by
  have CM := bmade_any h
  have hcn := addE_cnt (M := M) L c h.lens.2.1
  by_cases he : addE S M L c = 0
  · unfold addL addI
    rw [if_pos he, if_pos he, he]
    rw [hcn] at he
    obtain ⟨ir, hir, hx⟩ := Option.map_eq_some_iff.1 infoStr
    simp only [Prod.mk.injEq] at hx
    obtain ⟨hz0, hz1, hz2⟩ := hx
    have HIR := Lib.hid hir
    have HZ0 := Lib.hid hz0
    have HZ1 := Lib.hid hz1
    have HZ2 := Lib.hid hz2
    have hlen := h.lens
    obtain ⟨s1, hs1⟩ : ∃ s, s = L.length + 1 := ⟨_, rfl⟩
    obtain ⟨t1, ht1⟩ : ∃ t, t = (lensC L).sum + c.size := ⟨_, rfl⟩
    have CY := count_yes g 1 _ _ L.length (lensC L).sum S M c.size w h.row rfl rfl rfl rfl hM (by omega) (by unfold maxLen; omega) he s1 t1 hs1 ht1
    have CC := fun W => bclone_any c (by omega) W
    have hb : c.size ≥ 1 ∧ c.size ≤ 4096 ∧ L.length ≠ S ∧ (lensC L).sum + c.size ≤ M := by
      unfold cntE at he
      have g1 : ¬ (c.size < 1 ∨ 4096 < c.size) := fun x => by rw [if_pos x] at he; omega
      rw [if_neg g1] at he
      have g2 : ¬ (L.length = S ∨ M < (lensC L).sum + c.size) := fun x => by rw [if_pos x] at he; omega
      omega
    have HLEN : Hid ((∀ x ∈ lensC (L ++ [c]), 1 ≤ x ∧ x ≤ 4096) ∧ (L ++ [c]).length ≤ S ∧ (lensC (L ++ [c])).sum ≤ M) := Lib.hid (by
      rw [lensC_snoc]
      refine ⟨fun x hx => ?_, by rw [List.length_append]; simp; omega, by rw [List.sum_append]; simp; omega⟩
      rcases List.mem_append.1 hx with hx | hx
      · exact hlen.1 x hx
      · rw [List.mem_singleton.1 hx]; omega)
    have HL1 : Hid ((L ++ [c]).length = s1) := Lib.hid (by rw [List.length_append, hs1]; rfl)
    have HT1 : Hid ((lensC (L ++ [c])).sum = t1) := Lib.hid (by rw [lensC_snoc, List.sum_append, ht1]; simp)
    have HFIN : Hid (∀ (v' : Value) (w' : World), w'.heap[g]? = some (.cells #[.pointer (some ⟨g, 0, none⟩), .int .i64 (s1 : Nat), .int .i64 (t1 : Nat), .int .i64 (S : Nat), .int .i64 (M : Nat), .int .u32 (id : Nat), v'] 92 (0, 0)) →
        w'.ownsRow (g + 1) 9 1 v' (L ++ [c]).length (bV (L ++ [c])) → BdP B g id S M (L ++ [c]) (fun m => m = g ∨ v'.ownBlock = some m) w') := Lib.hid (fun v' w' hr ho => ⟨v', fun k => Iff.rfl, h.base, by rw [HL1.out, HT1.out]; exact hr, ho, HLEN.out⟩)
    have HOWN := Lib.hid h.own
    have HGS := Lib.hid h.gsize
    have HBG : Hid (Bs g) := Lib.hid ((hBs g).2 (Or.inl rfl))
    have HBS : Hid (∀ m, tv.ownBlock = some m → Bs m) := Lib.hid (fun m hm => (hBs m).2 (Or.inr hm))
    obtain ⟨pv, cv, htv, -, -⟩ := own_slice h.own
    subst htv
    have HKLT : Hid (L.length ≤ 256) := Lib.hid (by omega)
    have HKL1 : Hid (L.length + 1 = s1) := Lib.hid hs1.symm
    have v1 : IntKind.i64.wrap ((s1 : Int) - 1) = (L.length : Int) := by rw [show (s1 : Int) - 1 = (L.length : Int) by omega]; exact IntWalk.i64_in _ (by omega)
    clear h hir hz0 hz1 hz2 hcn he hlen hb hs1 ht1 hBs hc
    go_enter Tryd.func26, Tryd.ntmps26
    go_wp2_with fail
    refine CM.mono ?_
    rintro e w1 ⟨rfl, rfl⟩
    clear CM
    go_wp2_with fail
    refine CY.mono ?_
    rintro e w2 ⟨rfl, hg2, hr2⟩
    have hh2 : BI Bs w g id s1 t1 S M (.slice pv L.length cv) L w2 := ⟨⟨hg2.os, hg2.tape, hg2.output, hg2.size, fun k hk hn => hg2.block k hk (fun e => hn (by rw [Option.some.inj e]; exact HBG.out))⟩, by have := hg2.size; have := HGS.out; omega, hr2,
      own_stay HOWN.out (fun m hm => by
        have := HOWN.out.lt m hm
        exact hg2.block m this.2 (fun e => by have := Option.some.inj e; omega)), HBG.out, HBS.out⟩
    have c6 := hh2.c6
    have HD := Lib.hid (hh2.later (show Kept w2 w2.drew from (Below.refl _ w2).drew))
    clear hg2 hr2 hh2 CY
    go_wp2_with fail
    refine wp_region_held_drew (S := fun _ => True) (by kernel_rfl) trivial (fun hHeld => ?_)
    refine wpAnyH_take (i := 0) (v := ?_) rfl (by kernel_rfl) (by kernel_rfl) (by kernel_rfl) (fun _ _ _ h => h) (Or.inl ⟨by first | kernel_rfl | rfl, ?_⟩) (by assumption) ?_
    case refine_2 => intro w hSw; go_simp; try with_reducible rfl
    refine wpAnyH_take (i := 1) (v := ?_) rfl (by kernel_rfl) (by kernel_rfl) (by kernel_rfl) (fun _ _ _ h => h) (Or.inl ⟨by first | kernel_rfl | rfl, ?_⟩) (by assumption) ?_
    case refine_2 => intro w hSw; go_simp; try with_reducible rfl
    refine wpAnyH_take (i := 2) (v := ?_) rfl (by kernel_rfl) (by kernel_rfl) (by kernel_rfl) (fun _ _ _ h => h) (Or.inl ⟨by first | kernel_rfl | rfl, ?_⟩) (by assumption) ?_
    case refine_2 => intro w hSw; go_simp; try with_reducible rfl
    refine wpAnyH_take (i := 3) (v := ?_) rfl (by kernel_rfl) (by kernel_rfl) (by kernel_rfl) (fun _ _ _ h => h) (Or.inl ⟨by first | kernel_rfl | rfl, ?_⟩) (by assumption) ?_
    case refine_2 => intro w hSw; go_simp; try with_reducible rfl
    refine wpAnyH_take (i := 5) (v := ?_) rfl (by kernel_rfl) (by kernel_rfl) (by kernel_rfl) (fun _ _ _ h => h) (Or.inl ⟨by first | kernel_rfl | rfl, ?_⟩) (by assumption) ?_
    case refine_2 => intro w hSw; go_simp; try with_reducible rfl
    refine wpAnyH_ready (rs := [4, 6]) (by kernel_rfl) (by simp) (AllReadyH.cons rfl (fun K hK => ?_) (AllReadyH.cons rfl (fun K hK => ?_) AllReadyH.nil))
    · go_simp
      refine hK.out _ _ trivial (fun _ => ?_)
      clear hK K
      refine wpAnyH_ready (rs := [6]) (by kernel_rfl) (by simp) (AllReadyH.cons rfl (fun K hK => ?_) AllReadyH.nil)
      go_simp
      refine (CC _).mono ?_
      rintro e w3 ⟨rfl, hb3⟩
      have HH3 := Lib.hid (HD.out.later hb3)
      have c3 := HH3.out.c6
      clear hb3
      refine hK.out _ _ trivial (fun _ => ?_)
      clear hK K
      refine wpAnyH_ready (rs := [7]) (by kernel_rfl) (by simp) (AllReadyH.cons rfl (fun K hK => ?_) AllReadyH.nil)
      go_simp
      have HH4 := Lib.hid (HH3.out.later (box_below w3 (.cells #[.string c] 9)))
      have c4 := HH4.out.c6
      refine hK.out _ _ trivial (fun _ => ?_)
      clear hK K
      refine wpAnyH_ready (rs := [8]) (by kernel_rfl) (by simp) (AllReadyH.cons rfl (fun K hK => ?_) AllReadyH.nil)
      rw [if_pos (by rfl)]
      refine wp_append_flat _ _ 23 rfl (g + 1) 9 ir (.string ⟨#[]⟩) 1 16 Tryd.underlying23 HIR.out HZ0.out HZ1.out HZ2.out rfl (by decide) _ L.length (bV L) ?q0 HH4.out.own _ 1 [Value.string c] rfl (flat_strX w3 c) ?q1 ?q2 ?q3 ?_
      case q0 => rfl
      case q1 => have := HKLT.out; unfold maxLen; omega
      case q2 => have := HKLT.out; omega
      case q3 => exact HH4.out.size
      intro v' w6 hown6 hg6 hat6
      obtain ⟨hr6, hh6⟩ := HH3.out.app hown6 hg6
      have x5 : w6.cell? ⟨g, 6, none⟩ = some (.slice pv L.length cv) := by rw [cell_of_row _ _ _ _ _ _ hr6]; rfl
      have f5 := frozen_of_row w6 g 6 _ _ hr6
      have HH6 := Lib.hid hh6
      have HAT6 : Hid (∀ m, v'.ownBlock = some m → Bs m ∨ w.heap.size ≤ m) := Lib.hid (fun m hm => by
        rcases hat6 with e | e
        · exact Or.inl (HBS.out m (by rw [← e]; exact hm))
        · rw [e] at hm
          have := Option.some.inj hm
          have h1 := HH3.out.but.size
          right
          simp at this
          omega)
      obtain ⟨pv', cv', htv', -, -⟩ := own_slice hown6
      rw [HKL1.out] at htv'
      subst htv'
      clear hown6 hg6 hr6 hh6 hat6
      refine hK.out _ _ trivial (fun _ => ?_)
      clear hK K
      refine wpAnyH_take (i := 9) (v := ?_) rfl (by kernel_rfl) (by kernel_rfl) (by kernel_rfl) (fun _ _ _ h => h) (Or.inl ⟨by first | kernel_rfl | rfl, ?_⟩) (by assumption) ?_
      case refine_2 => intro w hSw; go_simp; try with_reducible rfl
      refine wpAnyH_take (i := 10) (v := ?_) rfl (by kernel_rfl) (by kernel_rfl) (by kernel_rfl) (fun _ _ _ h => h) (Or.inl ⟨by first | kernel_rfl | rfl, ?_⟩) (by assumption) ?_
      case refine_2 => intro w hSw; go_simp; try with_reducible rfl
      refine wpAnyH_ready (rs := [11]) (by kernel_rfl) (by simp) (AllReadyH.cons rfl (fun K hK => ?_) AllReadyH.nil)
      go_simp
      refine hK.out _ _ trivial (fun _ => ?_)
      clear hK K
      refine wpAnyH_done (by kernel_rfl) ?_ _
      have z1 := HH6.out.c1
      clear x5 f5
      go_wp2
      first | go_ret | go_ret2
      refine ⟨rfl, ⟨fun m => m = g ∨ (Value.slice pv' s1 cv').ownBlock = some m, ?_, fun m hm => ?_⟩, HH6.out.but⟩
      · exact HFIN.out _ _ HH6.out.row HH6.out.own
      · rcases hm with e | e
        · exact Or.inl (by rw [e]; exact HBG.out)
        · exact HAT6.out m e
    · go_simp
      refine (CC _).mono ?_
      rintro e w3 ⟨rfl, hb3⟩
      have HH3 := Lib.hid (HD.out.later hb3)
      have c3 := HH3.out.c6
      clear hb3
      refine hK.out _ _ trivial (fun _ => ?_)
      clear hK K
      refine wpAnyH_ready (rs := [4, 7]) (by kernel_rfl) (by simp) (AllReadyH.cons rfl (fun K hK => ?_) (AllReadyH.cons rfl (fun K hK => ?_) AllReadyH.nil))
      · go_simp
        refine hK.out _ _ trivial (fun _ => ?_)
        clear hK K
        refine wpAnyH_ready (rs := [7]) (by kernel_rfl) (by simp) (AllReadyH.cons rfl (fun K hK => ?_) AllReadyH.nil)
        go_simp
        have HH4 := Lib.hid (HH3.out.later (box_below w3 (.cells #[.string c] 9)))
        have c4 := HH4.out.c6
        refine hK.out _ _ trivial (fun _ => ?_)
        clear hK K
        refine wpAnyH_ready (rs := [8]) (by kernel_rfl) (by simp) (AllReadyH.cons rfl (fun K hK => ?_) AllReadyH.nil)
        rw [if_pos (by rfl)]
        refine wp_append_flat _ _ 23 rfl (g + 1) 9 ir (.string ⟨#[]⟩) 1 16 Tryd.underlying23 HIR.out HZ0.out HZ1.out HZ2.out rfl (by decide) _ L.length (bV L) ?q0 HH4.out.own _ 1 [Value.string c] rfl (flat_strX w3 c) ?q1 ?q2 ?q3 ?_
        case q0 => rfl
        case q1 => have := HKLT.out; unfold maxLen; omega
        case q2 => have := HKLT.out; omega
        case q3 => exact HH4.out.size
        intro v' w6 hown6 hg6 hat6
        obtain ⟨hr6, hh6⟩ := HH3.out.app hown6 hg6
        have x5 : w6.cell? ⟨g, 6, none⟩ = some (.slice pv L.length cv) := by rw [cell_of_row _ _ _ _ _ _ hr6]; rfl
        have f5 := frozen_of_row w6 g 6 _ _ hr6
        have HH6 := Lib.hid hh6
        have HAT6 : Hid (∀ m, v'.ownBlock = some m → Bs m ∨ w.heap.size ≤ m) := Lib.hid (fun m hm => by
          rcases hat6 with e | e
          · exact Or.inl (HBS.out m (by rw [← e]; exact hm))
          · rw [e] at hm
            have := Option.some.inj hm
            have h1 := HH3.out.but.size
            right
            simp at this
            omega)
        obtain ⟨pv', cv', htv', -, -⟩ := own_slice hown6
        rw [HKL1.out] at htv'
        subst htv'
        clear hown6 hg6 hr6 hh6 hat6
        refine hK.out _ _ trivial (fun _ => ?_)
        clear hK K
        refine wpAnyH_take (i := 9) (v := ?_) rfl (by kernel_rfl) (by kernel_rfl) (by kernel_rfl) (fun _ _ _ h => h) (Or.inl ⟨by first | kernel_rfl | rfl, ?_⟩) (by assumption) ?_
        case refine_2 => intro w hSw; go_simp; try with_reducible rfl
        refine wpAnyH_take (i := 10) (v := ?_) rfl (by kernel_rfl) (by kernel_rfl) (by kernel_rfl) (fun _ _ _ h => h) (Or.inl ⟨by first | kernel_rfl | rfl, ?_⟩) (by assumption) ?_
        case refine_2 => intro w hSw; go_simp; try with_reducible rfl
        refine wpAnyH_ready (rs := [11]) (by kernel_rfl) (by simp) (AllReadyH.cons rfl (fun K hK => ?_) AllReadyH.nil)
        go_simp
        refine hK.out _ _ trivial (fun _ => ?_)
        clear hK K
        refine wpAnyH_done (by kernel_rfl) ?_ _
        have z1 := HH6.out.c1
        clear x5 f5
        go_wp2
        first | go_ret | go_ret2
        refine ⟨rfl, ⟨fun m => m = g ∨ (Value.slice pv' s1 cv').ownBlock = some m, ?_, fun m hm => ?_⟩, HH6.out.but⟩
        · exact HFIN.out _ _ HH6.out.row HH6.out.own
        · rcases hm with e | e
          · exact Or.inl (by rw [e]; exact HBG.out)
          · exact HAT6.out m e
      · go_simp
        have HH4 := Lib.hid (HH3.out.later (box_below w3 (.cells #[.string c] 9)))
        have c4 := HH4.out.c6
        refine hK.out _ _ trivial (fun _ => ?_)
        clear hK K
        refine wpAnyH_ready (rs := [4]) (by kernel_rfl) (by simp) (AllReadyH.cons rfl (fun K hK => ?_) AllReadyH.nil)
        go_simp
        refine hK.out _ _ trivial (fun _ => ?_)
        clear hK K
        refine wpAnyH_ready (rs := [8]) (by kernel_rfl) (by simp) (AllReadyH.cons rfl (fun K hK => ?_) AllReadyH.nil)
        rw [if_pos (by rfl)]
        refine wp_append_flat _ _ 23 rfl (g + 1) 9 ir (.string ⟨#[]⟩) 1 16 Tryd.underlying23 HIR.out HZ0.out HZ1.out HZ2.out rfl (by decide) _ L.length (bV L) ?q0 HH4.out.own _ 1 [Value.string c] rfl (flat_strX w3 c) ?q1 ?q2 ?q3 ?_
        case q0 => rfl
        case q1 => have := HKLT.out; unfold maxLen; omega
        case q2 => have := HKLT.out; omega
        case q3 => exact HH4.out.size
        intro v' w6 hown6 hg6 hat6
        obtain ⟨hr6, hh6⟩ := HH3.out.app hown6 hg6
        have x5 : w6.cell? ⟨g, 6, none⟩ = some (.slice pv L.length cv) := by rw [cell_of_row _ _ _ _ _ _ hr6]; rfl
        have f5 := frozen_of_row w6 g 6 _ _ hr6
        have HH6 := Lib.hid hh6
        have HAT6 : Hid (∀ m, v'.ownBlock = some m → Bs m ∨ w.heap.size ≤ m) := Lib.hid (fun m hm => by
          rcases hat6 with e | e
          · exact Or.inl (HBS.out m (by rw [← e]; exact hm))
          · rw [e] at hm
            have := Option.some.inj hm
            have h1 := HH3.out.but.size
            right
            simp at this
            omega)
        obtain ⟨pv', cv', htv', -, -⟩ := own_slice hown6
        rw [HKL1.out] at htv'
        subst htv'
        clear hown6 hg6 hr6 hh6 hat6
        refine hK.out _ _ trivial (fun _ => ?_)
        clear hK K
        refine wpAnyH_take (i := 9) (v := ?_) rfl (by kernel_rfl) (by kernel_rfl) (by kernel_rfl) (fun _ _ _ h => h) (Or.inl ⟨by first | kernel_rfl | rfl, ?_⟩) (by assumption) ?_
        case refine_2 => intro w hSw; go_simp; try with_reducible rfl
        refine wpAnyH_take (i := 10) (v := ?_) rfl (by kernel_rfl) (by kernel_rfl) (by kernel_rfl) (fun _ _ _ h => h) (Or.inl ⟨by first | kernel_rfl | rfl, ?_⟩) (by assumption) ?_
        case refine_2 => intro w hSw; go_simp; try with_reducible rfl
        refine wpAnyH_ready (rs := [11]) (by kernel_rfl) (by simp) (AllReadyH.cons rfl (fun K hK => ?_) AllReadyH.nil)
        go_simp
        refine hK.out _ _ trivial (fun _ => ?_)
        clear hK K
        refine wpAnyH_done (by kernel_rfl) ?_ _
        have z1 := HH6.out.c1
        clear x5 f5
        go_wp2
        first | go_ret | go_ret2
        refine ⟨rfl, ⟨fun m => m = g ∨ (Value.slice pv' s1 cv').ownBlock = some m, ?_, fun m hm => ?_⟩, HH6.out.but⟩
        · exact HFIN.out _ _ HH6.out.row HH6.out.own
        · rcases hm with e | e
          · exact Or.inl (by rw [e]; exact HBG.out)
          · exact HAT6.out m e
  · unfold addL addI
    rw [if_neg he, if_neg he]
    rw [hcn] at he ⊢
    obtain ⟨r, hr⟩ : ∃ r, r = cntE L.length (lensC L).sum S M c.size := ⟨_, rfl⟩
    rw [← hr] at he ⊢
    have CN := count_no g 1 _ _ L.length (lensC L).sum S M c.size w h.row rfl rfl rfl rfl hM h.lens.2.2 (by unfold maxLen; omega) r hr he
    have b1 : (r != 0) = true := bne_iff_ne.2 he
    have b2 : (r == 0) = false := beq_eq_false_iff_ne.2 he
    have HP : Hid (∀ w', Kept w w' → BdP B g id S M L Bs w') := Lib.hid (fun w' k => ⟨tv, hBs, h.stay (fun m hm => k.block m (by
      rcases hm with e | e
      · rw [e]; exact h.gsize
      · exact (h.own.lt m e).2))⟩)
    clear h hcn hr hBs hc
    go_enter Tryd.func26, Tryd.ntmps26
    go_wp2_with fail
    refine CM.mono ?_
    rintro e w1 ⟨rfl, rfl⟩
    clear CM
    go_wp2_with fail
    refine CN.mono ?_
    rintro e w2 ⟨rfl, hb2⟩
    have HK2 := Lib.hid (show Kept w w2 from hb2)
    clear hb2 CN
    go_wp2
    first | go_ret | go_ret2
    exact ⟨rfl, ⟨Bs, HP.out _ HK2.out, fun k hk => Or.inl hk⟩, ButBy.below HK2.out⟩
end

end Go.Proofs.YtdmbebafpamgfaaDoor
