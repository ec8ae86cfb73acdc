/- The document's Places. The document's Put. Manifests made in memory, entry by entry. -/
import Derived.Test.YteompckehokdoaaGreatDoorMnL
import Derived.Test.YteompckehokdoaaGreatDoorQTail
import Derived.Test.YteompckehokdoaaGreatDoorGA
import Derived.Test.YteompckehokdoaaGreatDoorGC
import Derived.Deep.RegionHeld
namespace Go.Proofs.YteompckehokdoaaGreatDoor
open Go.RowKit

set_option maxRecDepth 100000 in
set_option maxHeartbeats 8000000 in
theorem rplaces15_any (m : Mf) (v : Value) (w : World) (H : ManIs m v w) (hl : m.es.length ≤ 1000000) :
    Calls Tryz.prog 7 #[v] w fun e w' => ∃ v', e = .returned v' ∧ PlsAt (placesM m) v' w' ∧ Kept w w' := by
  obtain ⟨ir, hir, hx⟩ := Option.map_eq_some_iff.1 info_pl
  simp only [Prod.mk.injEq] at hx
  obtain ⟨hz0, hz1, hz2⟩ := hx
  have HIR := Lib.hid hir
  have HZ0 := Lib.hid hz0
  have HZ1 := Lib.hid hz1
  have HZ2 := Lib.hid hz2
  obtain ⟨hid, sv, rfl, he⟩ := H
  obtain ⟨p, c, rfl, hcap, hc⟩ := he.out encE
  have HE := Lib.hid he
  have HC := Lib.hid hc
  obtain ⟨n, hn⟩ : ∃ n, n = m.es.length := ⟨_, rfl⟩
  have HN := Lib.hid hn
  obtain ⟨id, hidd⟩ : ∃ i, i = m.id := ⟨_, rfl⟩
  obtain ⟨PS, hPS⟩ : ∃ PS, PS = m.es.map plE := ⟨_, rfl⟩
  have HPS := Lib.hid hPS
  have HPN : Hid (PS.length = n) := Lib.hid (by rw [hPS, List.length_map, hn])
  have HPW : Hid (∀ q ∈ PS, wfP q) := Lib.hid (fun q hq => by
    rw [hPS] at hq
    obtain ⟨e, h1, rfl⟩ := List.mem_map.1 hq
    exact plE_wf (he.good e h1))
  rw [← hn] at hl hcap
  rw [← hn, ← hidd]
  have HRES : Hid (placesM m = psetL PS) := Lib.hid (by rw [hPS]; rfl)
  rw [HRES.out]
  have HL := Lib.hid hl
  obtain ⟨W1, hW1⟩ : ∃ W1, W1 = w.alloc (.cells #[.int .u32 (id : Nat), .slice p n c] 25) := ⟨_, rfl⟩
  have HW1 := Lib.hid hW1
  have hrow := heap_alloc_last w (.cells #[.int .u32 (id : Nat), .slice p n c] 25)
  rw [← hW1] at hrow
  have HROW := Lib.hid hrow
  have HK1 : Hid (Kept w W1) := Lib.hid (by rw [hW1]; exact box_below _ _)
  clear he hc hn hidd hW1 hrow hl hid hcap hir hz0 hz1 hz2 hPS HRES
  go_enter Tryz.func7, Tryz.ntmps7
  go_wp2
  rw [← HW1.out]
  obtain ⟨B, hB⟩ : ∃ B, B = W1.heap.size := ⟨_, rfl⟩
  have HBE := Lib.hid hB
  clear hB
  go_loopg [3, 4] n (fun gh s y wr => ∃ (k : Nat) (tv : Value), k + gh = n ∧ s = tv ∧ y = .int .i64 k ∧ Hid (wr.ownsRow B 35 2 tv k (flatR plL (PS.take k))) ∧ Hid (Kept W1 wr))
  case atStart => exact ⟨0, _, by omega, rfl, rfl, Lib.hid (World.ownsRow_nil _ _ _ 2), Lib.hid (Kept.refl W1)⟩
  case round =>
    obtain ⟨k, tv, hk, rfl, rfl, HO, HK⟩ := hrel
    have hr1 := Kept.row HK.out HROW.out
    have e1 : wr.cell? ⟨w.heap.size, 1, none⟩ = some (.slice p n c) := by rw [cell_of_row _ _ _ _ _ _ hr1]; rfl
    have HKW : Hid (Kept w wr) := Lib.hid ((show Kept w W1 from HK1.out).then HK.out)
    obtain ⟨pv, cv, htv, -, -⟩ := own_slice HO.out
    subst htv
    by_cases hlt : k < n
    · have hki : (k : Int) < n := by omega
      have bk : decide ((k : Int) < (n : Int)) = true := by simpa using hki
      have hki0 : (0 : Int) ≤ k := by omega
      have hkl : k < m.es.length := by have := HN.out; omega
      rcases HC.out with h0 | ⟨b, off, rfl, hcell⟩
      · have := HN.out; omega
      have hwf := HE.out.good _ (List.getElem_mem hkl)
      have HD1 := Lib.hid (show w.cell? ⟨b, off + k * 35 + 33, none⟩ = some (.int .u32 ((m.es[k]).box : Nat)) from hcell k hkl 33 _ (enL_b hwf.1))
      have HD2 := Lib.hid (show w.cell? ⟨b, off + k * 35 + 34, none⟩ = some (.int .i64 (m.es[k]).slot) from hcell k hkl 34 _ (enL_s hwf.1))
      have IX := fun W => idx_rec (P := Tryz.prog) Tryz.underlying23 (fun w => Tryz.sizeOf41 w) b off n c k hlt W
      have htk : PS.take (k + 1) = PS.take k ++ [plE m.es[k]] := by
        rw [HPS.out, ← List.map_take, ← List.map_take, List.take_succ_eq_append_getElem hkl, List.map_append]; rfl
      have hpw := plE_wf hwf
      obtain ⟨xb, hxb⟩ : ∃ x, x = (m.es[k]).box := ⟨_, rfl⟩
      obtain ⟨xs, hxs⟩ : ∃ x, x = (m.es[k]).slot := ⟨_, rfl⟩
      have hpe : plE m.es[k] = (xb, xs) := by rw [hxb, hxs]; rfl
      rw [← hxb] at HD1
      rw [← hxs] at HD2
      have d1 := Kept.cell HKW.out HD1.out
      have d2 := Kept.cell HKW.out HD2.out
      have HOD : Hid (wr.drew.ownsRow B 35 2 (.slice pv k cv) k (flatR plL (PS.take k))) := Lib.hid (own_stay HO.out (fun j hj => ((Below.refl _ wr).drew : Below wr.heap.size wr wr.drew).block j (HO.out.lt j hj).2))
      rw [hpe] at htk hpw
      have HONE := Lib.hid (fun (W : World) => flat_rec encP W 35 (xb, xs) hpw #[.int .u32 (xb : Nat), .int .i64 xs] rfl)
      obtain ⟨k1, hk1⟩ : ∃ k1, k1 = k + 1 := ⟨_, rfl⟩
      have v1 : IntKind.i64.wrap ((k : Int) + 1) = (k1 : Int) := by rw [show (k : Int) + 1 = (k1 : Int) by omega]; exact IntWalk.i64_in _ (by have := HL.out; omega)
      have HKK : Hid (k1 = k + 1 ∧ k + gk = n ∧ k < n) := Lib.hid ⟨hk1, hk, hlt⟩
      have HFT : Hid (flatR plL (PS.take k) ++ plL (xb, xs) = flatR plL (PS.take k1)) := Lib.hid (by rw [flatR_snoc, hk1, htk])
      clear hcell hwf htk hpw hxb hxs hpe hk1 hk hlt hkl hr1
      go_wp2_with fail
      refine wp_region_held_drew (S := fun w' => w'.cell? ⟨w.heap.size, 1, none⟩ = some (.slice (some ⟨b, off, none⟩) n c) ∧ w'.cell? ⟨b, off + k * 35 + 33, none⟩ = some (.int .u32 (xb : Nat)) ∧ w'.cell? ⟨b, off + k * 35 + 34, none⟩ = some (.int .i64 xs)) (by kernel_rfl) ⟨e1, d1, d2⟩ (fun hHeld => ?_)
      refine wpAnyH_take (i := 0) (v := ?_) rfl (by kernel_rfl) (by kernel_rfl) (by kernel_rfl) (fun _ _ _ h => h) (Or.inl ⟨by first | kernel_rfl | rfl, ?_⟩) (by assumption) ?_
      case refine_2 => intro w hSw; obtain ⟨s1, s2, s3⟩ := hSw; go_simp; try with_reducible rfl
      refine wpAnyH_take (i := 1) (v := ?_) rfl (by kernel_rfl) (by kernel_rfl) (by kernel_rfl) (fun _ _ _ h => h) (Or.inl ⟨by first | kernel_rfl | rfl, ?_⟩) (by assumption) ?_
      case refine_2 => intro w hSw; obtain ⟨s1, s2, s3⟩ := hSw; go_simp; try with_reducible rfl
      refine wpAnyH_take (i := 2) (v := ?_) rfl (by kernel_rfl) (by kernel_rfl) (by kernel_rfl) (fun _ _ _ h => h) (Or.inl ⟨by first | kernel_rfl | rfl, ?_⟩) (by assumption) ?_
      case refine_2 => intro w hSw; obtain ⟨s1, s2, s3⟩ := hSw; go_simp; try with_reducible rfl
      refine wpAnyH_take (i := 3) (v := ?_) rfl (by kernel_rfl) (by kernel_rfl) (by kernel_rfl) (fun _ _ _ h => h) (Or.inl ⟨by first | kernel_rfl | rfl, ?_⟩) (by assumption) ?_
      case refine_2 => intro w hSw; obtain ⟨s1, s2, s3⟩ := hSw; go_simp; try with_reducible rfl
      refine wpAnyH_take (i := 4) (v := ?_) rfl (by kernel_rfl) (by kernel_rfl) (by kernel_rfl) (fun _ _ _ h => h) (Or.inl ⟨by first | kernel_rfl | rfl, ?_⟩) (by assumption) ?_
      case refine_2 => intro w hSw; obtain ⟨s1, s2, s3⟩ := hSw; go_simp; try with_reducible rfl
      refine wpAnyH_take (i := 5) (v := ?_) rfl (by kernel_rfl) (by kernel_rfl) (by kernel_rfl) (fun _ _ _ h => h) (Or.inl ⟨by first | kernel_rfl | rfl, ?_⟩) (by assumption) ?_
      case refine_2 => intro w hSw; obtain ⟨s1, s2, s3⟩ := hSw; go_simp; try with_reducible rfl
      refine wpAnyH_take (i := 6) (v := ?_) rfl (by kernel_rfl) (by kernel_rfl) (by kernel_rfl) (fun _ _ _ h => h) (Or.inl ⟨by first | kernel_rfl | rfl, ?_⟩) (by assumption) ?_
      case refine_2 => intro w hSw; obtain ⟨s1, s2, s3⟩ := hSw; go_simp; try with_reducible rfl
      refine wpAnyH_take (i := 7) (v := ?_) rfl (by kernel_rfl) (by kernel_rfl) (by kernel_rfl) (fun _ _ _ h => h) (Or.inl ⟨by first | kernel_rfl | rfl, ?_⟩) (by assumption) ?_
      case refine_2 => intro w hSw; obtain ⟨s1, s2, s3⟩ := hSw; go_simp; try with_reducible rfl
      refine wpAnyH_take (i := 8) (v := ?_) rfl (by kernel_rfl) (by kernel_rfl) (by kernel_rfl) (fun _ _ _ h => h) (Or.inl ⟨by first | kernel_rfl | rfl, ?_⟩) (by assumption) ?_
      case refine_2 => intro w hSw; obtain ⟨s1, s2, s3⟩ := hSw; go_simp; try with_reducible rfl
      refine wpAnyH_take (i := 9) (v := ?_) rfl (by kernel_rfl) (by kernel_rfl) (by kernel_rfl) (fun _ _ _ h => h) (Or.inl ⟨by first | kernel_rfl | rfl, ?_⟩) (by assumption) ?_
      case refine_2 => intro w hSw; obtain ⟨s1, s2, s3⟩ := hSw; go_simp; try with_reducible rfl
      refine wpAnyH_take (i := 10) (v := ?_) rfl (by kernel_rfl) (by kernel_rfl) (by kernel_rfl) (fun _ _ _ h => h) (Or.inl ⟨by first | kernel_rfl | rfl, ?_⟩) (by assumption) ?_
      case refine_2 => intro w hSw; obtain ⟨s1, s2, s3⟩ := hSw; go_simp; try with_reducible rfl
      refine wpAnyH_take (i := 11) (v := ?_) rfl (by kernel_rfl) (by kernel_rfl) (by kernel_rfl) (fun _ _ _ h => h) (Or.inl ⟨by first | kernel_rfl | rfl, ?_⟩) (by assumption) ?_
      case refine_2 => intro w hSw; obtain ⟨s1, s2, s3⟩ := hSw; go_simp; try with_reducible rfl
      refine wpAnyH_take (i := 12) (v := ?_) rfl (by kernel_rfl) (by kernel_rfl) (by kernel_rfl) (fun _ _ _ h => h) (Or.inl ⟨by first | kernel_rfl | rfl, ?_⟩) (by assumption) ?_
      case refine_2 => intro w hSw; obtain ⟨s1, s2, s3⟩ := hSw; go_simp; try with_reducible rfl
      refine wpAnyH_take (i := 13) (v := ?_) rfl (by kernel_rfl) (by kernel_rfl) (by kernel_rfl) (fun _ _ _ h => h) (Or.inl ⟨by first | kernel_rfl | rfl, ?_⟩) (by assumption) ?_
      case refine_2 => intro w hSw; obtain ⟨s1, s2, s3⟩ := hSw; go_simp; try with_reducible rfl
      refine wpAnyH_ready (rs := [14]) (by kernel_rfl) (by simp) (AllReadyH.cons rfl (fun K hK => ?_) AllReadyH.nil)
      go_simp
      have hk3 : Kept wr wr.drew := (Below.refl _ wr).drew
      have hka := hk3.then (box_below wr.drew (.cells #[.int .u32 (xb : Nat), .int .i64 xs] 35))
      refine hK.out _ _ ⟨hka.cell e1, hka.cell d1, hka.cell d2⟩ (fun _ => ?_)
      clear hK K
      refine wpAnyH_ready (rs := [15]) (by kernel_rfl) (by simp) (AllReadyH.cons rfl (fun K hK => ?_) AllReadyH.nil)
      rw [if_pos (by rfl)]
      refine wp_append_flat _ _ 28 rfl B 35 ir (.agg #[.int .u32 0, .int .i64 0]) 2 16 Tryz.underlying28 HIR.out HZ0.out HZ1.out HZ2.out rfl (by decide) _ k (flatR plL (PS.take k)) ?q0 (HOD.out.alloc _) _ 1 (plL (xb, xs)) rfl (HONE.out _) ?q1 ?q2 ?q3 ?_
      case q0 => rfl
      case q1 => have := HKK.out; have := HL.out; unfold maxLen; omega
      case q2 => have := HKK.out; have := HL.out; omega
      case q3 => exact Nat.le_trans (show B ≤ wr.heap.size by have := HK.out.size; have := HBE.out; omega) (le_drew_alloc wr _)
      intro v4 w5 hown2 hgrow2 _
      have H6 : Hid (w5.ownsRow B 35 2 v4 k1 (flatR plL (PS.take k1))) := Lib.hid (by
        have h := hown2
        rw [HFT.out, ← HKK.out.1] at h
        exact h)
      have H7 : Hid (Kept W1 w5) := Lib.hid (append_keptX (show Kept W1 wr.drew from (show Kept W1 wr from HK.out).then hk3) (by rw [HBE.out]; exact Nat.le_refl _) HOD.out hgrow2)
      have q1 : w5.cell? ⟨w.heap.size, 1, none⟩ = some (.slice (some ⟨b, off, none⟩) n c) := by rw [cell_of_row _ _ _ _ _ _ (Kept.row H7.out HROW.out)]; rfl
      have q2 := Kept.cell ((show Kept w W1 from HK1.out).then H7.out) HD1.out
      have q3 := Kept.cell ((show Kept w W1 from HK1.out).then H7.out) HD2.out
      refine hK.out _ _ ⟨q1, q2, q3⟩ (fun _ => ?_)
      clear hK K hown2 hgrow2 hka hk3
      refine wpAnyH_take (i := 16) (v := ?_) rfl (by kernel_rfl) (by kernel_rfl) (by kernel_rfl) (fun _ _ _ h => h) (Or.inl ⟨by first | kernel_rfl | rfl, ?_⟩) (by assumption) ?_
      case refine_2 => intro w hSw; obtain ⟨s1, s2, s3⟩ := hSw; go_simp; try with_reducible rfl
      refine wpAnyH_done (by kernel_rfl) ?_ _
      go_wp2
      go_roundg (n - k1)
      · exact ⟨k1, _, by have := HKK.out; omega, rfl, by first | rfl | (have := HKK.out; congr 1; omega), H6, H7⟩
      · have := HKK.out; omega
    · have hki : ¬ (k : Int) < n := by omega
      have bk : decide ((k : Int) < (n : Int)) = false := by simpa using hki
      obtain rfl : k = n := by omega
      have HF : PlsAt PS (.slice pv k cv) wr := by
        have h := HO.out
        rw [List.take_of_length_le (by rw [HPN.out]; exact Nat.le_refl _)] at h
        exact RowsAt.own encP HPW.out (by rw [HPN.out]; exact h)
      have CO := rset15_any PS _ wr HF (by rw [HPN.out]; exact HL.out)
      clear HF hr1
      go_wp2_with fail
      refine CO.mono ?_
      rintro e w2 ⟨v', rfl, hv', hb2⟩
      have HV := Lib.hid (RowsAt.own encP (psetL_wf HPW.out) hv')
      have HK2 : Hid (Kept w w2) := Lib.hid ((show Kept w wr from HKW.out).then hb2)
      clear hv' hb2 CO
      go_wp2
      go_ret
      exact ⟨_, rfl, HV.out, HK2.out⟩

end Go.Proofs.YteompckehokdoaaGreatDoor
namespace Go.Proofs.YteompckehokdoaaGreatDoor
open Go.RowKit

def byV (l : List UInt8) : List Value := l.map fun c : UInt8 => Value.int .u8 (c.toNat : Int)
theorem byV_snoc (l : List UInt8) (c : UInt8) : byV l ++ [Value.int .u8 (c.toNat : Int)] = byV (l ++ [c]) := by unfold byV; rw [List.map_append]; rfl
theorem byV_len (l : List UInt8) : (byV l).length = l.length := by simp [byV]
theorem info_u8 : (Tryz.prog.info? 5).map (fun i => (i.zero, i.size, i.bytes)) = some (some (.int .u8 0), 1, 1) := by kernel_rfl
theorem flat_u8 (w : World) (q : Nat) : FlatAt 1 1 [Value.int .u8 (q : Nat)] (.slice (some ⟨w.heap.size, 0, none⟩) 1 1) (w.alloc (.cells #[.int .u8 (q : Nat)] 5)) :=
  FlatAt.new w 5 1 1 1 #[.int .u8 (q : Nat)] rfl (by intro x hx; simp at hx; subst hx; rfl)

end Go.Proofs.YteompckehokdoaaGreatDoor
namespace Go.Proofs.YteompckehokdoaaGreatDoor
open Go.RowKit

theorem results_cell_tmp_rowM {P : Program} {fn : Func} {p u : Tmp} {ty : TypeId} (h : fn.results = #[.cell p ty, .tmp u]) (tmps : Array Value) (w : World) (g : Nat) (t : TypeId) (cs : Array Value) (fr : Nat × Nat) (d : TypeDesc)
    (hp : tmps.getD p undef = .pointer (some ⟨g, 0, none⟩)) (hg : w.heap[g]? = some (.cells cs t fr))
    (hu : P.underlying ty = some d) (hd : (match d with | .struct _ | .array _ _ => true | _ => false) = true) (hi : (P.info? ty).map (·.size) = some cs.size) :
    (results fn tmps).run P w = .ok (.tuple #[.agg cs, tmps.getD u undef]) w := by
  rw [results_cell_tmp h, hp]
  simp [asAddr, run_loadVar_row w g t ty cs fr d hg hu hd hi, Result.andThen]
theorem set2_rowM {w : World} {g : Nat} {T : TypeId} {x0 x1 : Value} (h : w.heap[g]? = some (.cells #[x0, x1] T (0, 0))) (y0 y1 : Value) :
    ((w.setCell ⟨g, 0, none⟩ y0).setCell ⟨g, 1, none⟩ y1).heap[g]? = some (.cells #[y0, y1] T (0, 0)) :=
  heap_setCell_same _ _ _ _ _ _ (heap_setCell_same _ _ _ _ _ _ h)
theorem below_set2M {B : Nat} {w0 w : World} {g i j : Nat} (h : Below B w0 w) (hB : B ≤ w.heap.size) (hg : B ≤ g) (y0 y1 : Value) : Below B w0 ((w.setCell ⟨g, i, none⟩ y0).setCell ⟨g, j, none⟩ y1) :=
  ButBy.kept (Bs := fun k => k = g) (((but_refl (fun k => k = g) w).setCell g i y0 rfl).setCell g j y1 rfl) (fun k hk => by rw [hk]; exact hg) h hB
theorem own_set2M {w : World} {base g n k : Nat} {T : TypeId} {v : Value} {xs : List Value} (h : w.ownsRow base T k v n xs) (hg : g < base) (y0 y1 : Value) : ((w.setCell ⟨g, 0, none⟩ y0).setCell ⟨g, 1, none⟩ y1).ownsRow base T k v n xs :=
  own_stay h fun m hm => by
    have hne : m ≠ g := by have := (h.lt m hm).1; omega
    rw [heap_setCell_other _ _ _ _ hne, heap_setCell_other _ _ _ _ hne]
theorem infoEnF : ∃ i : TypeInfo, ∃ z : Value, Tryz.prog.info? 41 = some i ∧ i.zero = some z ∧ i.size = 35 ∧ i.bytes = 56 ∧ z.cells.size = 35 := by
  obtain ⟨i, h1, h2, h3, z, h4, h5⟩ := info_en
  exact ⟨i, z, h1, h4, h2, h3, h5⟩

/-- An entry whose place is set. -/
theorem en_set2 {e : En} (h : e.fp.length = 32) (q : Nat) (s : Int) : ((enC e).setIfInBounds 33 (.int .u32 (q : Nat))).setIfInBounds 34 (.int .i64 s) = enC ⟨e.fp, e.len, q, s⟩ := by
  apply Array.toList_inj.1
  unfold enC enL
  simp only [Array.toList_setIfInBounds]
  rw [List.set_append_right _ _ (by simp [fpA_size, h]), List.set_append_right _ _ (by simp [fpA_size, h])]
  simp [fpA_size, h]

/-- A manifest that is made, in the block b5, beside the result's block b0. -/
structure MI (w : World) (b0 b5 base id : Nat) (tv : Value) (l : List En) (wx : World) : Prop where
  kept : Kept w wx
  size : base ≤ wx.heap.size
  row0 : wx.heap[b0]? = some (.cells #[.int .u32 0, .slice none 0 0] 25 (0, 0))
  row5 : wx.heap[b5]? = some (.cells #[.int .u32 (id : Nat), tv] 25 (0, 0))
  own : wx.ownsRow base 41 35 tv l.length (flatR enL l)
  ord : w.heap.size ≤ b0 ∧ b0 < base ∧ b5 < base ∧ b0 < b5
theorem MI.later {w wx wy : World} {b0 b5 base id : Nat} {tv : Value} {l : List En} (h : MI w b0 b5 base id tv l wx) (k : Kept wx wy) : MI w b0 b5 base id tv l wy :=
  ⟨h.kept.then k, Nat.le_trans h.size k.size, k.row h.row0, k.row h.row5, own_stay h.own (fun m hm => k.block m (h.own.lt m hm).2), h.ord⟩
theorem MI.c0 {w wx : World} {b0 b5 base id : Nat} {tv : Value} {l : List En} (h : MI w b0 b5 base id tv l wx) : wx.cell? ⟨b5, 0, none⟩ = some (.int .u32 (id : Nat)) := by rw [cell_of_row _ _ _ _ _ _ h.row5]; rfl
theorem MI.c1 {w wx : World} {b0 b5 base id : Nat} {tv : Value} {l : List En} (h : MI w b0 b5 base id tv l wx) : wx.cell? ⟨b5, 1, none⟩ = some tv := by rw [cell_of_row _ _ _ _ _ _ h.row5]; rfl
/-- Behind another's writing: the block br alone, below base, beside both. -/
theorem MI.grown {w wx wy : World} {b0 b5 base id br : Nat} {tv : Value} {l : List En} (h : MI w b0 b5 base id tv l wx) (k : wx.grownBy wy (some br)) (hb : br < base ∧ br ≠ b5 ∧ br ≠ b0 ∧ w.heap.size ≤ br) : MI w b0 b5 base id tv l wy := by
  have h0 := (Array.getElem?_eq_some_iff.1 h.row0).1
  have h5 := (Array.getElem?_eq_some_iff.1 h.row5).1
  refine ⟨below_touch h.kept k h.kept.size hb.2.2.2, Nat.le_trans h.size k.size, ?_, ?_, own_stay h.own (fun m hm => k.block m (h.own.lt m hm).2 (fun e => by have := (h.own.lt m hm).1; have := Option.some.inj e; omega)), h.ord⟩
  · rw [k.block _ h0 (fun e => by have := Option.some.inj e; omega)]; exact h.row0
  · rw [k.block _ h5 (fun e => by have := Option.some.inj e; omega)]; exact h.row5
/-- An entry is appended. -/
theorem MI.app {w wd w6 : World} {b0 b5 base id : Nat} {tv v' : Value} {l : List En} {s : En} {XA : Array Value} (h : MI w b0 b5 base id tv l wd)
    (ho6 : w6.ownsRow base 41 35 v' (l.length + 1) (flatR enL l ++ enL s)) (hg : (wd.alloc (.cells XA 41)).grownBy w6 tv.ownBlock) :
    w6.heap[b5]? = some (.cells #[.int .u32 (id : Nat), tv] 25 (0, 0)) ∧ Kept w w6 ∧ MI w b0 b5 base id v' (l ++ [s]) (w6.setCell ⟨b5, 1, none⟩ v') := by
  have hka : Kept wd (wd.alloc (.cells XA 41)) := box_below _ _
  have hl0 := (Array.getElem?_eq_some_iff.1 h.row0).1
  have hl5 := (Array.getElem?_eq_some_iff.1 h.row5).1
  have nb : ∀ m, tv.ownBlock = some m → base ≤ m := fun m hm => (h.own.lt m hm).1
  have nb' : ∀ m, v'.ownBlock = some m → base ≤ m := fun m hm => (ho6.lt m hm).1
  have hb6 : ButBy (fun m => tv.ownBlock = some m) wd w6 := ⟨hg.os.trans hka.os, hg.tape.trans hka.tape, hg.output.trans hka.output, Nat.le_trans hka.size hg.size, fun m hm hn => (hg.block m (Nat.lt_of_lt_of_le hm hka.size) (fun e => hn e.symm)).trans (hka.block m hm)⟩
  have h5 : w6.heap[b5]? = some (.cells #[.int .u32 (id : Nat), tv] 25 (0, 0)) := by rw [hb6.block b5 hl5 (fun e => by have := nb _ e; have := h.ord; omega)]; exact h.row5
  have h0 : w6.heap[b0]? = some (.cells #[.int .u32 0, .slice none 0 0] 25 (0, 0)) := by rw [hb6.block _ hl0 (fun e => by have := nb _ e; have := h.ord; omega)]; exact h.row0
  have hk6 : Kept w w6 := ButBy.kept hb6 (fun m hm => by have := nb m hm; have := h.ord; omega) h.kept h.kept.size
  have hord := h.ord
  refine ⟨h5, hk6, below_touch hk6 (grown_set _ _ _ _) hk6.size (by omega), ?_, ?_, heap_setCell_same w6 b5 1 #[.int .u32 (id : Nat), tv] 25 v' h5, ?_, hord⟩
  · have := hb6.size
    have := h.size
    show base ≤ (w6.heap.modify _ _).size
    rw [Array.size_modify]; omega
  · rw [heap_setCell_other _ _ _ _ (by show b0 ≠ b5; omega)]; exact h0
  · have e1 : (l ++ [s]).length = l.length + 1 := by simp
    rw [e1, ← flatR_snoc]
    exact own_stay ho6 (fun m hm => heap_setCell_other _ _ _ _ (by show m ≠ b5; have := nb' m hm; omega))
/-- Handed back: the two cells copied into the result's block. -/
theorem MI.done {w wx : World} {b0 b5 base id : Nat} {tv : Value} {l : List En} (h : MI w b0 b5 base id tv l wx) (hid : id < 4294967296) (hok : ∀ e ∈ l, wfE e) :
    ManIs ⟨id, l⟩ (.agg #[.int .u32 (id : Nat), tv]) ((wx.setCell ⟨b0, 0, none⟩ (.int .u32 (id : Nat))).setCell ⟨b0, 1, none⟩ tv) ∧ Kept w ((wx.setCell ⟨b0, 0, none⟩ (.int .u32 (id : Nat))).setCell ⟨b0, 1, none⟩ tv) :=
  ⟨⟨hid, tv, rfl, RowsAt.own encE hok (own_set2M h.own h.ord.2.1 _ _)⟩, below_set2M h.kept h.kept.size h.ord.1 _ _⟩

end Go.Proofs.YteompckehokdoaaGreatDoor
