/- The document's Places. The document's Put. Manifests made in memory, entry by entry. -/
import Derived.Test.YteompckehokdoaaDoorMnL
import Derived.Test.YteompckehokdoaaDoorQTail
import Derived.Test.YteompckehokdoaaDoorGA
import Derived.Test.YteompckehokdoaaDoorGC
import Derived.Deep.RegionHeld
namespace Go.Proofs.YteompckehokdoaaDoor
open Go.RowKit

set_option maxRecDepth 100000 in
set_option maxHeartbeats 8000000 in
theorem rplaces15_any (m : Mf) (v : Value) (w : World) (H : ManIs m v w) (hl : m.es.length ≤ 1000000) :
    Calls Tryd.prog 20 #[v] w fun e w' => ∃ v', e = .returned v' ∧ PlsAt (placesM m) v' w' ∧ Kept w w' := by
  obtain ⟨ir, hir, hx⟩ := Option.map_eq_some_iff.1 info_pl
  simp only [Prod.mk.injEq] at hx
  obtain ⟨hz0, hz1, hz2⟩ := hx
  have HIR := Lib.hid hir
  have HZ0 := Lib.hid hz0
  have HZ1 := Lib.hid hz1
  have HZ2 := Lib.hid hz2
  obtain ⟨hid, sv, rfl, he⟩ := H
  obtain ⟨p, c, rfl, hcap, hc⟩ := he.out encE
  have HE := Lib.hid he
  have HC := Lib.hid hc
  obtain ⟨n, hn⟩ : ∃ n, n = m.es.length := ⟨_, rfl⟩
  have HN := Lib.hid hn
  obtain ⟨id, hidd⟩ : ∃ i, i = m.id := ⟨_, rfl⟩
  obtain ⟨PS, hPS⟩ : ∃ PS, PS = m.es.map plE := ⟨_, rfl⟩
  have HPS := Lib.hid hPS
  have HPN : Hid (PS.length = n) := Lib.hid (by rw [hPS, List.length_map, hn])
  have HPW : Hid (∀ q ∈ PS, wfP q) := Lib.hid (fun q hq => by
    rw [hPS] at hq
    obtain ⟨e, h1, rfl⟩ := List.mem_map.1 hq
    exact plE_wf (he.good e h1))
  rw [← hn] at hl hcap
  rw [← hn, ← hidd]
  have HRES : Hid (placesM m = psetL PS) := Lib.hid (by rw [hPS]; rfl)
  rw [HRES.out]
  have HL := Lib.hid hl
  obtain ⟨W1, hW1⟩ : ∃ W1, W1 = w.alloc (.cells #[.int .u32 (id : Nat), .slice p n c] 25) := ⟨_, rfl⟩
  have HW1 := Lib.hid hW1
  have hrow := heap_alloc_last w (.cells #[.int .u32 (id : Nat), .slice p n c] 25)
  rw [← hW1] at hrow
  have HROW := Lib.hid hrow
  have HK1 : Hid (Kept w W1) := Lib.hid (by rw [hW1]; exact box_below _ _)
  clear he hc hn hidd hW1 hrow hl hid hcap hir hz0 hz1 hz2 hPS HRES
  go_enter Tryd.func20, Tryd.ntmps20
  go_wp2
  rw [← HW1.out]
  obtain ⟨B, hB⟩ : ∃ B, B = W1.heap.size := ⟨_, rfl⟩
  have HBE := Lib.hid hB
  clear hB
  go_loopg [3, 4] n (fun gh s y wr => ∃ (k : Nat) (tv : Value), k + gh = n ∧ s = tv ∧ y = .int .i64 k ∧ Hid (wr.ownsRow B 45 2 tv k (flatR plL (PS.take k))) ∧ Hid (Kept W1 wr))
  case atStart => exact ⟨0, _, by omega, rfl, rfl, Lib.hid (World.ownsRow_nil _ _ _ 2), Lib.hid (Kept.refl W1)⟩
  case round =>
    obtain ⟨k, tv, hk, rfl, rfl, HO, HK⟩ := hrel
    have hr1 := Kept.row HK.out HROW.out
    have e1 : wr.cell? ⟨w.heap.size, 1, none⟩ = some (.slice p n c) := by rw [cell_of_row _ _ _ _ _ _ hr1]; rfl
    have HKW : Hid (Kept w wr) := Lib.hid ((show Kept w W1 from HK1.out).then HK.out)
    obtain ⟨pv, cv, htv, -, -⟩ := own_slice HO.out
    subst htv
    by_cases hlt : k < n
    · have hki : (k : Int) < n := by omega
      have bk : decide ((k : Int) < (n : Int)) = true := by simpa using hki
      have hki0 : (0 : Int) ≤ k := by omega
      have hkl : k < m.es.length := by have := HN.out; omega
      rcases HC.out with h0 | ⟨b, off, rfl, hcell⟩
      · have := HN.out; omega
      have hwf := HE.out.good _ (List.getElem_mem hkl)
      have HD1 := Lib.hid (show w.cell? ⟨b, off + k * 35 + 33, none⟩ = some (.int .u32 ((m.es[k]).box : Nat)) from hcell k hkl 33 _ (enL_b hwf.1))
      have HD2 := Lib.hid (show w.cell? ⟨b, off + k * 35 + 34, none⟩ = some (.int .i64 (m.es[k]).slot) from hcell k hkl 34 _ (enL_s hwf.1))
      have IX := fun W => idx_rec (P := Tryd.prog) Tryd.underlying23 (fun w => Tryd.sizeOf55 w) b off n c k hlt W
      have htk : PS.take (k + 1) = PS.take k ++ [plE m.es[k]] := by
        rw [HPS.out, ← List.map_take, ← List.map_take, List.take_succ_eq_append_getElem hkl, List.map_append]; rfl
      have hpw := plE_wf hwf
      obtain ⟨xb, hxb⟩ : ∃ x, x = (m.es[k]).box := ⟨_, rfl⟩
      obtain ⟨xs, hxs⟩ : ∃ x, x = (m.es[k]).slot := ⟨_, rfl⟩
      have hpe : plE m.es[k] = (xb, xs) := by rw [hxb, hxs]; rfl
      rw [← hxb] at HD1
      rw [← hxs] at HD2
      have d1 := Kept.cell HKW.out HD1.out
      have d2 := Kept.cell HKW.out HD2.out
      have HOD : Hid (wr.drew.ownsRow B 45 2 (.slice pv k cv) k (flatR plL (PS.take k))) := Lib.hid (own_stay HO.out (fun j hj => ((Below.refl _ wr).drew : Below wr.heap.size wr wr.drew).block j (HO.out.lt j hj).2))
      rw [hpe] at htk hpw
      have HONE := Lib.hid (fun (W : World) => flat_rec encP W 45 (xb, xs) hpw #[.int .u32 (xb : Nat), .int .i64 xs] rfl)
      obtain ⟨k1, hk1⟩ : ∃ k1, k1 = k + 1 := ⟨_, rfl⟩
      have v1 : IntKind.i64.wrap ((k : Int) + 1) = (k1 : Int) := by rw [show (k : Int) + 1 = (k1 : Int) by omega]; exact IntWalk.i64_in _ (by have := HL.out; omega)
      have HKK : Hid (k1 = k + 1 ∧ k + gk = n ∧ k < n) := Lib.hid ⟨hk1, hk, hlt⟩
      have HFT : Hid (flatR plL (PS.take k) ++ plL (xb, xs) = flatR plL (PS.take k1)) := Lib.hid (by rw [flatR_snoc, hk1, htk])
      clear hcell hwf htk hpw hxb hxs hpe hk1 hk hlt hkl hr1
      go_wp2_with fail
      refine wp_region_held_drew (S := fun w' => w'.cell? ⟨w.heap.size, 1, none⟩ = some (.slice (some ⟨b, off, none⟩) n c) ∧ w'.cell? ⟨b, off + k * 35 + 33, none⟩ = some (.int .u32 (xb : Nat)) ∧ w'.cell? ⟨b, off + k * 35 + 34, none⟩ = some (.int .i64 xs)) (by kernel_rfl) ⟨e1, d1, d2⟩ (fun hHeld => ?_)
      refine wpAnyH_take (i := 0) (v := ?_) rfl (by kernel_rfl) (by kernel_rfl) (by kernel_rfl) (fun _ _ _ h => h) (Or.inl ⟨by first | kernel_rfl | rfl, ?_⟩) (by assumption) ?_
      case refine_2 => intro w hSw; obtain ⟨s1, s2, s3⟩ := hSw; go_simp; try with_reducible rfl
      refine wpAnyH_take (i := 1) (v := ?_) rfl (by kernel_rfl) (by kernel_rfl) (by kernel_rfl) (fun _ _ _ h => h) (Or.inl ⟨by first | kernel_rfl | rfl, ?_⟩) (by assumption) ?_
      case refine_2 => intro w hSw; obtain ⟨s1, s2, s3⟩ := hSw; go_simp; try with_reducible rfl
      refine wpAnyH_take (i := 2) (v := ?_) rfl (by kernel_rfl) (by kernel_rfl) (by kernel_rfl) (fun _ _ _ h => h) (Or.inl ⟨by first | kernel_rfl | rfl, ?_⟩) (by assumption) ?_
      case refine_2 => intro w hSw; obtain ⟨s1, s2, s3⟩ := hSw; go_simp; try with_reducible rfl
      refine wpAnyH_take (i := 3) (v := ?_) rfl (by kernel_rfl) (by kernel_rfl) (by kernel_rfl) (fun _ _ _ h => h) (Or.inl ⟨by first | kernel_rfl | rfl, ?_⟩) (by assumption) ?_
      case refine_2 => intro w hSw; obtain ⟨s1, s2, s3⟩ := hSw; go_simp; try with_reducible rfl
      refine wpAnyH_take (i := 4) (v := ?_) rfl (by kernel_rfl) (by kernel_rfl) (by kernel_rfl) (fun _ _ _ h => h) (Or.inl ⟨by first | kernel_rfl | rfl, ?_⟩) (by assumption) ?_
      case refine_2 => intro w hSw; obtain ⟨s1, s2, s3⟩ := hSw; go_simp; try with_reducible rfl
      refine wpAnyH_take (i := 5) (v := ?_) rfl (by kernel_rfl) (by kernel_rfl) (by kernel_rfl) (fun _ _ _ h => h) (Or.inl ⟨by first | kernel_rfl | rfl, ?_⟩) (by assumption) ?_
      case refine_2 => intro w hSw; obtain ⟨s1, s2, s3⟩ := hSw; go_simp; try with_reducible rfl
      refine wpAnyH_take (i := 6) (v := ?_) rfl (by kernel_rfl) (by kernel_rfl) (by kernel_rfl) (fun _ _ _ h => h) (Or.inl ⟨by first | kernel_rfl | rfl, ?_⟩) (by assumption) ?_
      case refine_2 => intro w hSw; obtain ⟨s1, s2, s3⟩ := hSw; go_simp; try with_reducible rfl
      refine wpAnyH_take (i := 7) (v := ?_) rfl (by kernel_rfl) (by kernel_rfl) (by kernel_rfl) (fun _ _ _ h => h) (Or.inl ⟨by first | kernel_rfl | rfl, ?_⟩) (by assumption) ?_
      case refine_2 => intro w hSw; obtain ⟨s1, s2, s3⟩ := hSw; go_simp; try with_reducible rfl
      refine wpAnyH_take (i := 8) (v := ?_) rfl (by kernel_rfl) (by kernel_rfl) (by kernel_rfl) (fun _ _ _ h => h) (Or.inl ⟨by first | kernel_rfl | rfl, ?_⟩) (by assumption) ?_
      case refine_2 => intro w hSw; obtain ⟨s1, s2, s3⟩ := hSw; go_simp; try with_reducible rfl
      refine wpAnyH_take (i := 9) (v := ?_) rfl (by kernel_rfl) (by kernel_rfl) (by kernel_rfl) (fun _ _ _ h => h) (Or.inl ⟨by first | kernel_rfl | rfl, ?_⟩) (by assumption) ?_
      case refine_2 => intro w hSw; obtain ⟨s1, s2, s3⟩ := hSw; go_simp; try with_reducible rfl
      refine wpAnyH_take (i := 10) (v := ?_) rfl (by kernel_rfl) (by kernel_rfl) (by kernel_rfl) (fun _ _ _ h => h) (Or.inl ⟨by first | kernel_rfl | rfl, ?_⟩) (by assumption) ?_
      case refine_2 => intro w hSw; obtain ⟨s1, s2, s3⟩ := hSw; go_simp; try with_reducible rfl
      refine wpAnyH_take (i := 11) (v := ?_) rfl (by kernel_rfl) (by kernel_rfl) (by kernel_rfl) (fun _ _ _ h => h) (Or.inl ⟨by first | kernel_rfl | rfl, ?_⟩) (by assumption) ?_
      case refine_2 => intro w hSw; obtain ⟨s1, s2, s3⟩ := hSw; go_simp; try with_reducible rfl
      refine wpAnyH_take (i := 12) (v := ?_) rfl (by kernel_rfl) (by kernel_rfl) (by kernel_rfl) (fun _ _ _ h => h) (Or.inl ⟨by first | kernel_rfl | rfl, ?_⟩) (by assumption) ?_
      case refine_2 => intro w hSw; obtain ⟨s1, s2, s3⟩ := hSw; go_simp; try with_reducible rfl
      refine wpAnyH_take (i := 13) (v := ?_) rfl (by kernel_rfl) (by kernel_rfl) (by kernel_rfl) (fun _ _ _ h => h) (Or.inl ⟨by first | kernel_rfl | rfl, ?_⟩) (by assumption) ?_
      case refine_2 => intro w hSw; obtain ⟨s1, s2, s3⟩ := hSw; go_simp; try with_reducible rfl
      refine wpAnyH_ready (rs := [14]) (by kernel_rfl) (by simp) (AllReadyH.cons rfl (fun K hK => ?_) AllReadyH.nil)
      go_simp
      have hk3 : Kept wr wr.drew := (Below.refl _ wr).drew
      have hka := hk3.then (box_below wr.drew (.cells #[.int .u32 (xb : Nat), .int .i64 xs] 45))
      refine hK.out _ _ ⟨hka.cell e1, hka.cell d1, hka.cell d2⟩ (fun _ => ?_)
      clear hK K
      refine wpAnyH_ready (rs := [15]) (by kernel_rfl) (by simp) (AllReadyH.cons rfl (fun K hK => ?_) AllReadyH.nil)
      rw [if_pos (by rfl)]
      refine wp_append_flat _ _ 40 rfl B 45 ir (.agg #[.int .u32 0, .int .i64 0]) 2 16 Tryd.underlying40 HIR.out HZ0.out HZ1.out HZ2.out rfl (by decide) _ k (flatR plL (PS.take k)) ?q0 (HOD.out.alloc _) _ 1 (plL (xb, xs)) rfl (HONE.out _) ?q1 ?q2 ?q3 ?_
      case q0 => rfl
      case q1 => have := HKK.out; have := HL.out; unfold maxLen; omega
      case q2 => have := HKK.out; have := HL.out; omega
      case q3 => exact Nat.le_trans (show B ≤ wr.heap.size by have := HK.out.size; have := HBE.out; omega) (le_drew_alloc wr _)
      intro v4 w5 hown2 hgrow2 _
      have H6 : Hid (w5.ownsRow B 45 2 v4 k1 (flatR plL (PS.take k1))) := Lib.hid (by
        have h := hown2
        rw [HFT.out, ← HKK.out.1] at h
        exact h)
      have H7 : Hid (Kept W1 w5) := Lib.hid (append_keptX (show Kept W1 wr.drew from (show Kept W1 wr from HK.out).then hk3) (by rw [HBE.out]; exact Nat.le_refl _) HOD.out hgrow2)
      have q1 : w5.cell? ⟨w.heap.size, 1, none⟩ = some (.slice (some ⟨b, off, none⟩) n c) := by rw [cell_of_row _ _ _ _ _ _ (Kept.row H7.out HROW.out)]; rfl
      have q2 := Kept.cell ((show Kept w W1 from HK1.out).then H7.out) HD1.out
      have q3 := Kept.cell ((show Kept w W1 from HK1.out).then H7.out) HD2.out
      refine hK.out _ _ ⟨q1, q2, q3⟩ (fun _ => ?_)
      clear hK K hown2 hgrow2 hka hk3
      refine wpAnyH_take (i := 16) (v := ?_) rfl (by kernel_rfl) (by kernel_rfl) (by kernel_rfl) (fun _ _ _ h => h) (Or.inl ⟨by first | kernel_rfl | rfl, ?_⟩) (by assumption) ?_
      case refine_2 => intro w hSw; obtain ⟨s1, s2, s3⟩ := hSw; go_simp; try with_reducible rfl
      refine wpAnyH_done (by kernel_rfl) ?_ _
      go_wp2
      go_roundg (n - k1)
      · exact ⟨k1, _, by have := HKK.out; omega, rfl, by first | rfl | (have := HKK.out; congr 1; omega), H6, H7⟩
      · have := HKK.out; omega
    · have hki : ¬ (k : Int) < n := by omega
      have bk : decide ((k : Int) < (n : Int)) = false := by simpa using hki
      obtain rfl : k = n := by omega
      have HF : PlsAt PS (.slice pv k cv) wr := by
        have h := HO.out
        rw [List.take_of_length_le (by rw [HPN.out]; exact Nat.le_refl _)] at h
        exact RowsAt.own encP HPW.out (by rw [HPN.out]; exact h)
      have CO := rset15_any PS _ wr HF (by rw [HPN.out]; exact HL.out)
      clear HF hr1
      go_wp2_with fail
      refine CO.mono ?_
      rintro e w2 ⟨v', rfl, hv', hb2⟩
      have HV := Lib.hid (RowsAt.own encP (psetL_wf HPW.out) hv')
      have HK2 : Hid (Kept w w2) := Lib.hid ((show Kept w wr from HKW.out).then hb2)
      clear hv' hb2 CO
      go_wp2
      go_ret
      exact ⟨_, rfl, HV.out, HK2.out⟩

end Go.Proofs.YteompckehokdoaaDoor
namespace Go.Proofs.YteompckehokdoaaDoor
open Go.RowKit

theorem rpnumM (k n : Nat) (i : Int) (hi : i = k) (hk : k ≤ 8) (hn : n < 2 ^ 64) (S : ByteArray) (hS : S = str (leB k n)) (w : World) :
    Calls Tryd.prog 34 #[.int .u64 (n : Nat), .int .i64 i] w fun e w' => e = .returned (.string S) ∧ Below w.heap.size w w' := by
  subst hi hS
  exact rpnum_any k n hk hn w
def byV (l : List UInt8) : List Value := l.map fun c : UInt8 => Value.int .u8 (c.toNat : Int)
theorem byV_snoc (l : List UInt8) (c : UInt8) : byV l ++ [Value.int .u8 (c.toNat : Int)] = byV (l ++ [c]) := by unfold byV; rw [List.map_append]; rfl
theorem byV_len (l : List UInt8) : (byV l).length = l.length := by simp [byV]
theorem info_u8 : (Tryd.prog.info? 5).map (fun i => (i.zero, i.size, i.bytes)) = some (some (.int .u8 0), 1, 1) := by kernel_rfl
theorem flat_u8 (w : World) (q : Nat) : FlatAt 1 1 [Value.int .u8 (q : Nat)] (.slice (some ⟨w.heap.size, 0, none⟩) 1 1) (w.alloc (.cells #[.int .u8 (q : Nat)] 5)) :=
  FlatAt.new w 5 1 1 1 #[.int .u8 (q : Nat)] rfl (by intro x hx; simp at hx; subst hx; rfl)

set_option maxRecDepth 100000 in
set_option maxHeartbeats 32000000 in
theorem rput15_any (m : Mf) (hm : mayM m) (v : Value) (w : World) (H : ManIs m v w) :
    Calls Tryd.prog 15 #[v] w fun e w' => e = .returned (.string (str (manB m))) ∧ Kept w w' := by
  obtain ⟨ir, hir, hx⟩ := Option.map_eq_some_iff.1 info_u8
  simp only [Prod.mk.injEq] at hx
  obtain ⟨hz0, hz1, hz2⟩ := hx
  have HIR := Lib.hid hir
  have HZ0 := Lib.hid hz0
  have HZ1 := Lib.hid hz1
  have HZ2 := Lib.hid hz2
  have hl := hm.2.1
  have HME : Hid (∀ e ∈ m.es, mayE e) := Lib.hid hm.2.2
  have hwf := H.wf
  obtain ⟨hid, sv, rfl, he⟩ := H
  obtain ⟨p, c, rfl, hcap, hc⟩ := he.out encE
  have HE := Lib.hid he
  have HC := Lib.hid hc
  obtain ⟨n, hn⟩ : ∃ n, n = m.es.length := ⟨_, rfl⟩
  have HN := Lib.hid hn
  obtain ⟨id, hidd⟩ : ∃ i, i = m.id := ⟨_, rfl⟩
  obtain ⟨RES, hRES⟩ : ∃ r, r = str (manB m) := ⟨_, rfl⟩
  have HRES := Lib.hid hRES
  have HFP : Hid (manP m = (magicM ++ (leB 4 id ++ leB 2 n)) ++ m.es.flatMap entB) := Lib.hid (by unfold manP; rw [hidd, hn]; simp only [List.append_assoc])
  have HWF : Hid (∀ e ∈ m.es, wfE e) := Lib.hid hwf.2
  rw [← hn] at hl hcap
  rw [← hidd] at hid
  rw [← hn, ← hidd, ← hRES]
  have HL := Lib.hid hl
  have u1 : IntKind.u64.wrap (id : Int) = (id : Int) := IntWalk.u64_in _ (by omega)
  have u2 : IntKind.u64.wrap (n : Int) = (n : Int) := IntWalk.u64_in _ (by omega)
  obtain ⟨S1, h1⟩ : ∃ S, S = str (leB 4 id) := ⟨_, rfl⟩
  have C1 := fun W => rpnumM 4 id 4 rfl (by omega) (by omega) S1 h1 W
  obtain ⟨S2, h2⟩ : ∃ S, S = str (leB 2 n) := ⟨_, rfl⟩
  have C2 := fun W => rpnumM 2 n 2 rfl (by omega) (by omega) S2 h2 W
  have z1 : S1.size = 4 := by rw [h1, str_size, leB_len]
  have z2 : S2.size = 2 := by rw [h2, str_size, leB_len]
  obtain ⟨Y1, hy1⟩ : ∃ Y, Y = (⟨#[77, 65, 78, 73]⟩ : ByteArray) ++ S1 := ⟨_, rfl⟩
  have c1 : (⟨#[77, 65, 78, 73]⟩ : ByteArray) ++ S1 = Y1 := hy1.symm
  have y1' : Y1.size = 8 := by rw [hy1, ByteArray.size_append, z1]; rfl
  obtain ⟨Y2, hy2⟩ : ∃ Y, Y = Y1 ++ S2 := ⟨_, rfl⟩
  have c2 : Y1 ++ S2 = Y2 := hy2.symm
  have hY2 : Y2 = str (magicM ++ (leB 4 id ++ leB 2 n)) := by
    rw [hy2, hy1, h1, h2, ← List.append_assoc, ← str_append, ← str_append]
    rfl
  obtain ⟨PRE, hPRE⟩ : ∃ P, P = magicM ++ (leB 4 id ++ leB 2 n) := ⟨_, rfl⟩
  rw [← hPRE] at hY2 HFP
  have HS0 : Hid (Y2 = str (PRE ++ (m.es.take 0).flatMap entB)) := Lib.hid (by rw [hY2]; simp)
  have HZ00 : Hid (Y2.size = 10 + 40 * 0) := Lib.hid (by rw [hy2, ByteArray.size_append, y1', z2])
  obtain ⟨W1, hW1⟩ : ∃ W1, W1 = w.alloc (.cells #[.int .u32 (id : Nat), .slice p n c] 25) := ⟨_, rfl⟩
  have HW1 := Lib.hid hW1
  have hrow := heap_alloc_last w (.cells #[.int .u32 (id : Nat), .slice p n c] 25)
  rw [← hW1] at hrow
  have HROW := Lib.hid hrow
  have HK1 : Hid (Kept w W1) := Lib.hid (by rw [hW1]; exact box_below _ _)
  have a0 : W1.cell? ⟨w.heap.size, 0, none⟩ = some (.int .u32 (id : Nat)) := by rw [cell_of_row _ _ _ _ _ _ hrow]; rfl
  have a1 : W1.cell? ⟨w.heap.size, 1, none⟩ = some (.slice p n c) := by rw [cell_of_row _ _ _ _ _ _ hrow]; rfl
  clear he hc hn hidd hW1 hrow hl hid hcap hir hz0 hz1 hz2 hwf hm hRES h1 h2 hy1 hy2 hY2 hPRE
  go_enter Tryd.func15, Tryd.ntmps15
  go_wp2_with fail
  rw [← HW1.out]
  refine wp_region_kept (by kernel_rfl) (by kernel_rfl) ?_
  refine wpQuiet_pure (v := ?_) (by kernel_rfl) ?_ (fun K hK => ?_)
  case refine_2 => intro W _; go_simp; try with_reducible rfl
  go_simp
  refine hK _ ?_; clear hK K
  refine wpQuiet_pure (v := ?_) (by kernel_rfl) ?_ (fun K hK => ?_)
  case refine_2 => intro W hW; have e0 := hW.cell a0; go_simp; try with_reducible rfl
  go_simp
  refine hK _ ?_; clear hK K
  refine wpQuiet_pure (v := ?_) (by kernel_rfl) ?_ (fun K hK => ?_)
  case refine_2 => intro W _; go_simp; try with_reducible rfl
  go_simp
  refine hK _ ?_; clear hK K
  refine wpQuiet_call (by kernel_rfl) _ _ _ (fun W => by go_simp) (fun W h => Calls.kept_of h (C1 W)) (fun K hK => ?_)
  go_simp
  refine hK _ ?_; clear hK K
  refine wpQuiet_pure (v := ?_) (by kernel_rfl) ?_ (fun K hK => ?_)
  case refine_2 => intro W _; go_simp; try with_reducible rfl
  go_simp
  refine hK _ ?_; clear hK K
  refine wpQuiet_pure (v := ?_) (by kernel_rfl) ?_ (fun K hK => ?_)
  case refine_2 => intro W _; go_simp; try with_reducible rfl
  go_simp
  refine hK _ ?_; clear hK K
  refine wpQuiet_pure (v := ?_) (by kernel_rfl) ?_ (fun K hK => ?_)
  case refine_2 => intro W hW; have e0 := hW.cell a1; go_simp; try with_reducible rfl
  go_simp
  refine hK _ ?_; clear hK K
  refine wpQuiet_pure (v := ?_) (by kernel_rfl) ?_ (fun K hK => ?_)
  case refine_2 => intro W _; go_simp; try with_reducible rfl
  go_simp
  refine hK _ ?_; clear hK K
  refine wpQuiet_pure (v := ?_) (by kernel_rfl) ?_ (fun K hK => ?_)
  case refine_2 => intro W _; go_simp; try with_reducible rfl
  go_simp
  refine hK _ ?_; clear hK K
  refine wpQuiet_call (by kernel_rfl) _ _ _ (fun W => by go_simp) (fun W h => Calls.kept_of h (C2 W)) (fun K hK => ?_)
  go_simp
  refine hK _ ?_; clear hK K
  refine wpQuiet_pure (v := ?_) (by kernel_rfl) ?_ (fun K hK => ?_)
  case refine_2 => intro W _; go_simp; try with_reducible rfl
  go_simp
  refine hK _ ?_; clear hK K
  refine wpQuiet_pure (v := ?_) (by kernel_rfl) ?_ (fun K hK => ?_)
  case refine_2 => intro W _; go_simp; try with_reducible rfl
  go_simp
  refine hK _ ?_; clear hK K
  refine wpQuiet_nil ?_
  intro w2 hk2
  have HK2 : Hid (Kept W1 w2) := Lib.hid hk2
  clear hk2 a0 a1 C1 C2 c1 c2 z1 z2 y1' u1
  go_wp2
  go_loopg [3, 4] n (fun gh a y wr => ∃ (k : Nat) (X : ByteArray), k + gh = n ∧ a = .string X ∧ y = .int .i64 k ∧ Hid (X = str (PRE ++ (m.es.take k).flatMap entB)) ∧ Hid (X.size = 10 + 40 * k) ∧ Hid (Kept W1 wr))
  case atStart => exact ⟨0, Y2, by omega, rfl, rfl, HS0, HZ00, HK2⟩
  case round =>
    clear HS0 HZ00 HK2
    obtain ⟨k, X, hk, rfl, rfl, HX, HXZ, HK⟩ := hrel
    have hr1 := Kept.row HK.out HROW.out
    have e1 : wr.cell? ⟨w.heap.size, 1, none⟩ = some (.slice p n c) := by rw [cell_of_row _ _ _ _ _ _ hr1]; rfl
    have HKW : Hid (Kept w wr) := Lib.hid ((show Kept w W1 from HK1.out).then HK.out)
    by_cases hlt : k < n
    · have hki : (k : Int) < n := by omega
      have bk : decide ((k : Int) < (n : Int)) = true := by simpa using hki
      have hki0 : (0 : Int) ≤ k := by omega
      have hkl : k < m.es.length := by have := HN.out; omega
      obtain ⟨b, off, cs, t, fr, rfl, hg, hsz, hex, -⟩ := HE.out.elem encE hkl
      have g2 := Kept.row HKW.out hg
      have hmem : m.es[k] ∈ m.es := List.getElem_mem hkl
      have htk : m.es.take (k + 1) = m.es.take k ++ [m.es[k]] := List.take_succ_eq_append_getElem hkl
      obtain ⟨E, hE⟩ : ∃ E, E = m.es[k] := ⟨_, rfl⟩
      rw [← hE] at hex hmem htk
      have hwE := HWF.out E hmem
      have hmE := HME.out E hmem
      obtain ⟨XE, hXE⟩ : ∃ X, X = (enL E).toArray := ⟨_, rfl⟩
      rw [← hXE] at hex
      have HES := Lib.hid (show off + k * 35 + 35 ≤ cs.size ∧ cs.extract (off + k * 35) (off + k * 35 + 35) = XE from ⟨hsz, hex⟩)
      have HXS : Hid (XE.size = 35) := Lib.hid (by rw [hXE]; simpa using enL_len hwE.1)
      have HXO : Hid (XE.all (·.oneCell') = true) := Lib.hid (by rw [hXE, Array.all_eq_true_iff_forall_mem]; intro x hx; exact encE.one E hwE x (by simpa using hx))
      obtain ⟨F, hF⟩ : ∃ F, F = E.fp := ⟨_, rfl⟩
      have hF32 : F.length = 32 := by rw [hF]; exact hwE.1
      have HF32 := Lib.hid hF32
      have HXF : Hid (∀ j, j < 32 → XE[j]? = some (.int .u8 ((F.getD j 0).toNat : Int))) := Lib.hid (fun j hj => by rw [hXE, List.getElem?_toArray, hF]; exact enL_fp hwE.1 j hj)
      have x32 : XE[32]? = some (.int .i64 E.len) := by rw [hXE, List.getElem?_toArray]; exact enL_n hwE.1
      have x33 : XE[33]? = some (.int .u32 (E.box : Nat)) := by rw [hXE, List.getElem?_toArray]; exact enL_b hwE.1
      have x34 : XE[34]? = some (.int .i64 E.slot) := by rw [hXE, List.getElem?_toArray]; exact enL_s hwE.1
      obtain ⟨q1, hq1⟩ : ∃ q : Nat, E.len = q := ⟨E.len.toNat, by have := hmE.1; omega⟩
      obtain ⟨q2, hq2⟩ : ∃ q : Nat, E.box = q := ⟨_, rfl⟩
      obtain ⟨q3, hq3⟩ : ∃ q : Nat, E.slot = q := ⟨E.slot.toNat, by have := hmE.2.2; omega⟩
      have hEB : entB E = F ++ (leB 2 q1 ++ (leB 4 q2 ++ leB 2 q3)) := by
        unfold entB
        rw [hq1, hq2, hq3, hF]
        rfl
      have hb1 : q1 ≤ 4096 := by have := hmE.1; omega
      have hb2 : q2 < 4294967296 := by have := hwE.2.2.1; omega
      have hb3 : q3 ≤ 255 := by have := hmE.2.2; omega
      rw [hq1] at x32
      rw [hq2] at x33
      rw [hq3] at x34
      have HX3 := Lib.hid (show XE[32]? = some (.int .i64 (q1 : Nat)) ∧ XE[33]? = some (.int .u32 (q2 : Nat)) ∧ XE[34]? = some (.int .i64 (q3 : Nat)) from ⟨x32, x33, x34⟩)
      have u3 : IntKind.u64.wrap (q1 : Int) = (q1 : Int) := IntWalk.u64_in _ (by omega)
      have u4 : IntKind.u64.wrap (q2 : Int) = (q2 : Int) := IntWalk.u64_in _ (by omega)
      have u5 : IntKind.u64.wrap (q3 : Int) = (q3 : Int) := IntWalk.u64_in _ (by omega)
      obtain ⟨T1, t1⟩ : ∃ S, S = str (leB 2 q1) := ⟨_, rfl⟩
      have D1 := fun W => rpnumM 2 q1 2 rfl (by omega) (by omega) T1 t1 W
      obtain ⟨T2, t2⟩ : ∃ S, S = str (leB 4 q2) := ⟨_, rfl⟩
      have D2 := fun W => rpnumM 4 q2 4 rfl (by omega) (by omega) T2 t2 W
      obtain ⟨T3, t3⟩ : ∃ S, S = str (leB 2 q3) := ⟨_, rfl⟩
      have D3 := fun W => rpnumM 2 q3 2 rfl (by omega) (by omega) T3 t3 W
      have s1 : T1.size = 2 := by rw [t1, str_size, leB_len]
      have s2 : T2.size = 4 := by rw [t2, str_size, leB_len]
      have s3 : T3.size = 2 := by rw [t3, str_size, leB_len]
      obtain ⟨FS, hFS⟩ : ∃ S, S = str F := ⟨_, rfl⟩
      have s0 : FS.size = 32 := by rw [hFS, str_size, hF32]
      obtain ⟨xs, hxs⟩ : ∃ xs, xs = 10 + 40 * k := ⟨_, rfl⟩
      have xz : X.size = xs := by rw [hxs]; exact HXZ.out
      obtain ⟨G0, g0⟩ : ∃ G, G = X ++ FS := ⟨_, rfl⟩
      obtain ⟨G1, g1⟩ : ∃ G, G = G0 ++ T1 := ⟨_, rfl⟩
      obtain ⟨G2, g2'⟩ : ∃ G, G = G1 ++ T2 := ⟨_, rfl⟩
      obtain ⟨G3, g3⟩ : ∃ G, G = G2 ++ T3 := ⟨_, rfl⟩
      have i0 : X ++ FS = G0 := g0.symm
      have i1 : G0 ++ T1 = G1 := g1.symm
      have i2 : G1 ++ T2 = G2 := g2'.symm
      have i3 : G2 ++ T3 = G3 := g3.symm
      have r0 : G0.size = xs + 32 := by rw [g0, ByteArray.size_append, s0, xz]
      have r1 : G1.size = xs + 34 := by rw [g1, ByteArray.size_append, s1, r0]
      have r2 : G2.size = xs + 38 := by rw [g2', ByteArray.size_append, s2, r1]
      have r3 : G3.size = xs + 40 := by rw [g3, ByteArray.size_append, s3, r2]
      have l0 : ¬ 9223372036854775807 < xs + 32 := by have := HL.out; omega
      have l1 : ¬ 9223372036854775807 < xs + 32 + 2 := by have := HL.out; omega
      have l2 : ¬ 9223372036854775807 < xs + 34 + 4 := by have := HL.out; omega
      have l3 : ¬ 9223372036854775807 < xs + 38 + 2 := by have := HL.out; omega
      obtain ⟨k1, hk1⟩ : ∃ k1, k1 = k + 1 := ⟨_, rfl⟩
      have v1 : IntKind.i64.wrap ((k : Int) + 1) = (k1 : Int) := by rw [show (k : Int) + 1 = (k1 : Int) by omega]; exact IntWalk.i64_in _ (by have := HL.out; omega)
      have HG : Hid (G3 = str (PRE ++ (m.es.take k1).flatMap entB)) := Lib.hid (by
        rw [hk1, htk, List.flatMap_append, ← List.append_assoc, ← str_append, ← HX.out, g3, g2', g1, g0, t1, t2, t3, hFS]
        have e : List.flatMap entB [E] = F ++ (leB 2 q1 ++ (leB 4 q2 ++ leB 2 q3)) := by rw [← hEB]; simp
        rw [e]
        simp only [ByteArray.append_assoc, str_append, List.append_assoc])
      have HGZ : Hid (G3.size = 10 + 40 * k1) := Lib.hid (by rw [r3, hxs, hk1]; omega)
      have HKK : Hid (k1 = k + 1 ∧ k + gk = n ∧ k < n) := Lib.hid ⟨hk1, hk, hlt⟩
      have HFS := Lib.hid hFS
      obtain ⟨b5, hb5⟩ : ∃ b, b = wr.heap.size := ⟨_, rfl⟩
      have HB5 := Lib.hid hb5
      obtain ⟨W5, hW5⟩ : ∃ W, W = wr.alloc (.cells XE 55) := ⟨_, rfl⟩
      have HW5 := Lib.hid hW5
      have hrow5 := heap_alloc_last wr (.cells XE 55)
      rw [← hW5, ← hb5] at hrow5
      have HR5 := Lib.hid hrow5
      have HK5 : Hid (Kept W1 W5) := Lib.hid ((show Kept W1 wr from HK.out).then (by rw [hW5]; exact box_below _ _))
      have HBS : Hid (b5 < W5.heap.size) := Lib.hid (by rw [hb5, hW5]; simp)
      have HBQ : Hid (W5.heap.size ≤ b5 + 1) := Lib.hid (by rw [hb5, hW5]; simp)
      clear hg hsz hex hmem htk hE hwE hmE hXE hF hF32 x32 x33 x34 hq1 hq2 hq3 hEB hb1 hb2 hb3 t1 t2 t3 hFS hxs g0 g1 g2' g3 r3 hk1 hk hlt hkl hr1 hb5 hW5 hrow5 HX HXZ
      have HXI : Hid ((Tryd.prog.info? 55).map (·.size) = some XE.size) := Lib.hid (by rw [HXS.out]; exact infoEn)
      go_wp2_with (first
        | (with_reducible refine wpList_load_sub rfl _ _ rfl b (off + k * 35) 35 rfl t cs fr _ g2 Tryd.underlying55 rfl infoEn HES.out.1 XE HES.out.2 ?_)
        | ((with_reducible refine wpList_store_row rfl _ _ _ rfl wr.heap.size XE rfl rfl 55 _ (heap_alloc_last wr _) HXI.out ?hold HXO.out ?_); rotate_left; rw [World.setRow_alloc_new, ← HW5.out]))
      case hold => rw [HXS.out]; rfl
      rw [← HB5.out]
      clear g2 e1
      obtain ⟨wo, hwo⟩ : ∃ wo : World, wo = wr := ⟨_, rfl⟩
      subst hwo
      go_loopg [6, 7] 32 (fun gh s y wq => ∃ (j : Nat) (tv : Value), j + gh = 32 ∧ s = tv ∧ y = .int .i64 j ∧ Hid (wq.ownsRow (b5 + 1) 5 1 tv j (byV (F.take j))) ∧ Hid (Kept W5 wq))
      case atStart => exact ⟨0, _, by omega, rfl, rfl, Lib.hid (World.ownsRow_nil _ _ _ 1), Lib.hid (Kept.refl W5)⟩
      case round =>
        obtain ⟨j, tv, hj, rfl, rfl, HO, HKQ⟩ := hrel
        obtain ⟨pv, cv, htv, -, -⟩ := own_slice HO.out
        subst htv
        by_cases hj32 : j < 32
        · have bj : decide ((j : Int) < 32) = true := decide_eq_true (by omega)
          have hjF : j < F.length := by rw [HF32.out]; exact hj32
          have hr6 := Kept.row HKQ.out HR5.out
          have y0 : wr.cell? ⟨b5, j, none⟩ = some (.int .u8 ((F.getD j 0).toNat : Int)) := by rw [cell_of_row _ _ _ _ _ _ hr6]; exact HXF.out j hj32
          have hgd : F.getD j 0 = F[j] := by rw [List.getD_eq_getElem?_getD, List.getElem?_eq_getElem hjF]; rfl
          rw [hgd] at y0
          have htj : F.take (j + 1) = F.take j ++ [F[j]] := List.take_succ_eq_append_getElem hjF
          obtain ⟨ch, hch⟩ : ∃ ch, ch = F[j] := ⟨_, rfl⟩
          rw [← hch] at y0 htj
          obtain ⟨q, hq⟩ : ∃ q : Nat, q = ch.toNat := ⟨_, rfl⟩
          rw [← hq] at y0
          obtain ⟨j1, hj1⟩ : ∃ j1, j1 = j + 1 := ⟨_, rfl⟩
          have vj : IntKind.i64.wrap ((j : Int) + 1) = (j1 : Int) := by rw [show (j : Int) + 1 = (j1 : Int) by omega]; exact IntWalk.i64_in _ (by omega)
          have HJJ : Hid (j1 = j + 1 ∧ j + gk = 32 ∧ j < 32) := Lib.hid ⟨hj1, hj, hj32⟩
          have HBV : Hid (byV (F.take j) ++ [Value.int .u8 (q : Nat)] = byV (F.take j1)) := Lib.hid (by rw [hj1, htj, hq]; exact byV_snoc _ _)
          have hj0 : (0 : Int) ≤ j := by omega
          have hj32i : (j : Int) < 32 := by omega
          clear hjF hr6 hgd htj hch hq hj1 hj hj32
          go_wp2_with (at_builtin; refine wpList_append_flat rfl _ _ 60 rfl (b5 + 1) 5 ir (.int .u8 0) 1 1 Tryd.underlying60 HIR.out HZ0.out HZ1.out HZ2.out rfl (by decide) _ _ _ rfl (HO.out.alloc _) _ 1 [Value.int .u8 (q : Nat)] rfl (flat_u8 _ q) ?qd2 ?qd3 ?qd4 ?_)
          case qd2 => have := HJJ.out; unfold maxLen; omega
          case qd3 => have := HJJ.out; omega
          case qd4 => have := HKQ.out.size; have := HBS.out; simp; omega
          intro v4 w5 hown2 hgrow2 _
          have H6 : Hid (w5.ownsRow (b5 + 1) 5 1 v4 j1 (byV (F.take j1))) := Lib.hid (by
            have h := hown2
            rw [HBV.out, ← HJJ.out.1] at h
            exact h)
          have H7 : Hid (Kept W5 w5) := Lib.hid (append_keptX (show Kept W5 wr from HKQ.out) HBQ.out HO.out hgrow2)
          clear hown2 hgrow2 HO y0
          go_wp2
          go_roundg (32 - j1)
          · exact ⟨j1, _, by have := HJJ.out; omega, rfl, by first | rfl | (have := HJJ.out; congr 1; omega), H6, H7⟩
          · have := HJJ.out; omega
        · have bj : decide ((j : Int) < 32) = false := decide_eq_false (by omega)
          have hje : j = 32 := by omega
          have hr6 := Kept.row HKQ.out HR5.out
          have y0 : wr.cell? ⟨b5, 32, none⟩ = some (.int .i64 (q1 : Nat)) := by rw [cell_of_row _ _ _ _ _ _ hr6]; exact HX3.out.1
          have y1 : wr.cell? ⟨b5, 33, none⟩ = some (.int .u32 (q2 : Nat)) := by rw [cell_of_row _ _ _ _ _ _ hr6]; exact HX3.out.2.1
          have y2 : wr.cell? ⟨b5, 34, none⟩ = some (.int .i64 (q3 : Nat)) := by rw [cell_of_row _ _ _ _ _ _ hr6]; exact HX3.out.2.2
          have HCV : Hid (∀ W, Kept wr W → (convert 60 9 (.slice pv j cv)).run Tryd.prog W = .ok (.string FS) W) := Lib.hid (fun W hW => by
            have ho := HO.out
            rw [List.take_of_length_le (by rw [HF32.out]; omega)] at ho
            obtain ⟨p', c', e, -, hc⟩ := own_slice ho
            rcases hc with h0 | ⟨g', hp, -, hcell⟩
            · omega
            · simp only [Value.slice.injEq, true_and] at e
              obtain ⟨rfl, rfl⟩ := e
              rw [hp, HFS.out]
              exact conv_bytes W 60 9 5 g' j cv F (by rw [HF32.out]; omega) Tryd.underlying60 Tryd.underlying5 Tryd.underlying9 (fun i hi => hW.cell (hcell i _ (by unfold byV; rw [List.getElem?_map, List.getElem?_eq_getElem hi]; rfl))))
          clear hr6 hje hj HO
          go_wp2_with fail
          refine wp_region_kept (by kernel_rfl) (by kernel_rfl) ?_
          refine wpQuiet_pure (v := ?_) (by kernel_rfl) ?_ (fun K hK => ?_)
          case refine_2 => intro W _; go_simp; try with_reducible rfl
          go_simp
          refine hK _ ?_; clear hK K
          refine wpQuiet_pure (v := ?_) (by kernel_rfl) ?_ (fun K hK => ?_)
          case refine_2 => intro W _; go_simp; try with_reducible rfl
          go_simp
          refine hK _ ?_; clear hK K
          refine wpQuiet_pure (v := ?_) (by kernel_rfl) ?_ (fun K hK => ?_)
          case refine_2 => intro W hW; have e0 := HCV.out W hW; go_simp; try with_reducible rfl
          go_simp
          refine hK _ ?_; clear hK K
          refine wpQuiet_pure (v := ?_) (by kernel_rfl) ?_ (fun K hK => ?_)
          case refine_2 => intro W _; go_simp; try with_reducible rfl
          go_simp
          refine hK _ ?_; clear hK K
          refine wpQuiet_pure (v := ?_) (by kernel_rfl) ?_ (fun K hK => ?_)
          case refine_2 => intro W _; go_simp; try with_reducible rfl
          go_simp
          refine hK _ ?_; clear hK K
          refine wpQuiet_pure (v := ?_) (by kernel_rfl) ?_ (fun K hK => ?_)
          case refine_2 => intro W hW; have e0 := hW.cell y0; go_simp; try with_reducible rfl
          go_simp
          refine hK _ ?_; clear hK K
          refine wpQuiet_pure (v := ?_) (by kernel_rfl) ?_ (fun K hK => ?_)
          case refine_2 => intro W _; go_simp; try with_reducible rfl
          go_simp
          refine hK _ ?_; clear hK K
          refine wpQuiet_call (by kernel_rfl) _ _ _ (fun W => by go_simp) (fun W h => Calls.kept_of h (D1 W)) (fun K hK => ?_)
          go_simp
          refine hK _ ?_; clear hK K
          refine wpQuiet_pure (v := ?_) (by kernel_rfl) ?_ (fun K hK => ?_)
          case refine_2 => intro W _; go_simp; try with_reducible rfl
          go_simp
          refine hK _ ?_; clear hK K
          refine wpQuiet_pure (v := ?_) (by kernel_rfl) ?_ (fun K hK => ?_)
          case refine_2 => intro W _; go_simp; try with_reducible rfl
          go_simp
          refine hK _ ?_; clear hK K
          refine wpQuiet_pure (v := ?_) (by kernel_rfl) ?_ (fun K hK => ?_)
          case refine_2 => intro W hW; have e0 := hW.cell y1; go_simp; try with_reducible rfl
          go_simp
          refine hK _ ?_; clear hK K
          refine wpQuiet_pure (v := ?_) (by kernel_rfl) ?_ (fun K hK => ?_)
          case refine_2 => intro W _; go_simp; try with_reducible rfl
          go_simp
          refine hK _ ?_; clear hK K
          refine wpQuiet_call (by kernel_rfl) _ _ _ (fun W => by go_simp) (fun W h => Calls.kept_of h (D2 W)) (fun K hK => ?_)
          go_simp
          refine hK _ ?_; clear hK K
          refine wpQuiet_pure (v := ?_) (by kernel_rfl) ?_ (fun K hK => ?_)
          case refine_2 => intro W _; go_simp; try with_reducible rfl
          go_simp
          refine hK _ ?_; clear hK K
          refine wpQuiet_pure (v := ?_) (by kernel_rfl) ?_ (fun K hK => ?_)
          case refine_2 => intro W _; go_simp; try with_reducible rfl
          go_simp
          refine hK _ ?_; clear hK K
          refine wpQuiet_pure (v := ?_) (by kernel_rfl) ?_ (fun K hK => ?_)
          case refine_2 => intro W hW; have e0 := hW.cell y2; go_simp; try with_reducible rfl
          go_simp
          refine hK _ ?_; clear hK K
          refine wpQuiet_pure (v := ?_) (by kernel_rfl) ?_ (fun K hK => ?_)
          case refine_2 => intro W _; go_simp; try with_reducible rfl
          go_simp
          refine hK _ ?_; clear hK K
          refine wpQuiet_call (by kernel_rfl) _ _ _ (fun W => by go_simp) (fun W h => Calls.kept_of h (D3 W)) (fun K hK => ?_)
          go_simp
          refine hK _ ?_; clear hK K
          refine wpQuiet_pure (v := ?_) (by kernel_rfl) ?_ (fun K hK => ?_)
          case refine_2 => intro W _; go_simp; try with_reducible rfl
          go_simp
          refine hK _ ?_; clear hK K
          refine wpQuiet_pure (v := ?_) (by kernel_rfl) ?_ (fun K hK => ?_)
          case refine_2 => intro W _; go_simp; try with_reducible rfl
          go_simp
          refine hK _ ?_; clear hK K
          refine wpQuiet_nil ?_
          intro w5 hk5
          have HK6 : Hid (Kept W1 w5) := Lib.hid (((show Kept W1 W5 from HK5.out).then HKQ.out).then hk5)
          clear hk5 y0 y1 y2 D1 D2 D3 i0 i1 i2 i3 r0 r1 r2 l0 l1 l2 l3 s0 s1 s2 s3 xz u3 u4 u5
          go_wp2
          go_roundg (n - k1)
          · exact ⟨k1, G3, by have := HKK.out; omega, rfl, by first | rfl | (have := HKK.out; congr 1; omega), HG, HGZ, HK6⟩
          · have := HKK.out; omega
    · have hki : ¬ (k : Int) < n := by omega
      have bk : decide ((k : Int) < (n : Int)) = false := by simpa using hki
      have hXP : X = str (manP m) := by
        rw [HX.out, List.take_of_length_le (by have := HN.out; omega), ← HFP.out]
      have hX3 : X.data.toList = manP m := by rw [hXP, str_list]
      have hxz : X.size = 10 + 40 * n := by rw [HXZ.out, show k = n by omega]
      have CS := fun W => rsum_any X (by have := HL.out; omega) W
      rw [hX3] at CS
      have hsl : moreN 0 (manP m) < 4294967296 := Nat.lt_of_le_of_lt (Nat.sub_le _ _) (by decide)
      obtain ⟨sm, hsm⟩ : ∃ s, s = moreN 0 (manP m) := ⟨_, rfl⟩
      rw [← hsm] at CS hsl
      have u6 : IntKind.u64.wrap (sm : Int) = (sm : Int) := IntWalk.u64_in _ (by omega)
      obtain ⟨T, hT⟩ : ∃ S, S = str (leB 4 sm) := ⟨_, rfl⟩
      have CN := fun W => rpnumM 4 sm 4 rfl (by omega) (by omega) T hT W
      have zT : T.size = 4 := by rw [hT, str_size, leB_len]
      have i6 : X ++ T = RES := by rw [hXP, hT, str_append, HRES.out, hsm]; rfl
      obtain ⟨xs, hxs⟩ : ∃ xs, xs = X.size := ⟨_, rfl⟩
      have xz : X.size = xs := hxs.symm
      have l6 : ¬ 9223372036854775807 < xs + 4 := by have := HL.out; omega
      clear hXP hX3 hxz hsm hT hxs hk hlt hr1 HX HXZ
      go_wp2_with fail
      refine (CS _).mono ?_
      rintro e w2 ⟨rfl, hb2⟩
      have HK2 : Hid (Kept w w2) := Lib.hid ((show Kept w wr from HKW.out).then hb2)
      clear hb2 CS
      go_wp2_with fail
      refine (CN _).mono ?_
      rintro e w3 ⟨rfl, hb3⟩
      have HK3 : Hid (Kept w w3) := Lib.hid ((show Kept w w2 from HK2.out).then hb3)
      clear hb3 CN
      go_wp2
      go_ret
      exact ⟨by first | rfl | (rw [i6]), HK3.out⟩

end Go.Proofs.YteompckehokdoaaDoor
namespace Go.Proofs.YteompckehokdoaaDoor
open Go.RowKit

theorem results_cell_tmp_rowM {P : Program} {fn : Func} {p u : Tmp} {ty : TypeId} (h : fn.results = #[.cell p ty, .tmp u]) (tmps : Array Value) (w : World) (g : Nat) (t : TypeId) (cs : Array Value) (fr : Nat × Nat) (d : TypeDesc)
    (hp : tmps.getD p undef = .pointer (some ⟨g, 0, none⟩)) (hg : w.heap[g]? = some (.cells cs t fr))
    (hu : P.underlying ty = some d) (hd : (match d with | .struct _ | .array _ _ => true | _ => false) = true) (hi : (P.info? ty).map (·.size) = some cs.size) :
    (results fn tmps).run P w = .ok (.tuple #[.agg cs, tmps.getD u undef]) w := by
  rw [results_cell_tmp h, hp]
  simp [asAddr, run_loadVar_row w g t ty cs fr d hg hu hd hi, Result.andThen]
theorem set2_rowM {w : World} {g : Nat} {T : TypeId} {x0 x1 : Value} (h : w.heap[g]? = some (.cells #[x0, x1] T (0, 0))) (y0 y1 : Value) :
    ((w.setCell ⟨g, 0, none⟩ y0).setCell ⟨g, 1, none⟩ y1).heap[g]? = some (.cells #[y0, y1] T (0, 0)) :=
  heap_setCell_same _ _ _ _ _ _ (heap_setCell_same _ _ _ _ _ _ h)
theorem below_set2M {B : Nat} {w0 w : World} {g i j : Nat} (h : Below B w0 w) (hB : B ≤ w.heap.size) (hg : B ≤ g) (y0 y1 : Value) : Below B w0 ((w.setCell ⟨g, i, none⟩ y0).setCell ⟨g, j, none⟩ y1) :=
  ButBy.kept (Bs := fun k => k = g) (((but_refl (fun k => k = g) w).setCell g i y0 rfl).setCell g j y1 rfl) (fun k hk => by rw [hk]; exact hg) h hB
theorem own_set2M {w : World} {base g n k : Nat} {T : TypeId} {v : Value} {xs : List Value} (h : w.ownsRow base T k v n xs) (hg : g < base) (y0 y1 : Value) : ((w.setCell ⟨g, 0, none⟩ y0).setCell ⟨g, 1, none⟩ y1).ownsRow base T k v n xs :=
  own_stay h fun m hm => by
    have hne : m ≠ g := by have := (h.lt m hm).1; omega
    rw [heap_setCell_other _ _ _ _ hne, heap_setCell_other _ _ _ _ hne]
theorem infoEnF : ∃ i : TypeInfo, ∃ z : Value, Tryd.prog.info? 55 = some i ∧ i.zero = some z ∧ i.size = 35 ∧ i.bytes = 56 ∧ z.cells.size = 35 := by
  obtain ⟨i, h1, h2, h3, z, h4, h5⟩ := info_en
  exact ⟨i, z, h1, h4, h2, h3, h5⟩

/-- An entry whose place is set. -/
theorem en_set2 {e : En} (h : e.fp.length = 32) (q : Nat) (s : Int) : ((enC e).setIfInBounds 33 (.int .u32 (q : Nat))).setIfInBounds 34 (.int .i64 s) = enC ⟨e.fp, e.len, q, s⟩ := by
  apply Array.toList_inj.1
  unfold enC enL
  simp only [Array.toList_setIfInBounds]
  rw [List.set_append_right _ _ (by simp [fpA_size, h]), List.set_append_right _ _ (by simp [fpA_size, h])]
  simp [fpA_size, h]

/-- A manifest that is made, in the block b5, beside the result's block b0. -/
structure MI (w : World) (b0 b5 base id : Nat) (tv : Value) (l : List En) (wx : World) : Prop where
  kept : Kept w wx
  size : base ≤ wx.heap.size
  row0 : wx.heap[b0]? = some (.cells #[.int .u32 0, .slice none 0 0] 25 (0, 0))
  row5 : wx.heap[b5]? = some (.cells #[.int .u32 (id : Nat), tv] 25 (0, 0))
  own : wx.ownsRow base 55 35 tv l.length (flatR enL l)
  ord : w.heap.size ≤ b0 ∧ b0 < base ∧ b5 < base ∧ b0 < b5
theorem MI.later {w wx wy : World} {b0 b5 base id : Nat} {tv : Value} {l : List En} (h : MI w b0 b5 base id tv l wx) (k : Kept wx wy) : MI w b0 b5 base id tv l wy :=
  ⟨h.kept.then k, Nat.le_trans h.size k.size, k.row h.row0, k.row h.row5, own_stay h.own (fun m hm => k.block m (h.own.lt m hm).2), h.ord⟩
theorem MI.c0 {w wx : World} {b0 b5 base id : Nat} {tv : Value} {l : List En} (h : MI w b0 b5 base id tv l wx) : wx.cell? ⟨b5, 0, none⟩ = some (.int .u32 (id : Nat)) := by rw [cell_of_row _ _ _ _ _ _ h.row5]; rfl
theorem MI.c1 {w wx : World} {b0 b5 base id : Nat} {tv : Value} {l : List En} (h : MI w b0 b5 base id tv l wx) : wx.cell? ⟨b5, 1, none⟩ = some tv := by rw [cell_of_row _ _ _ _ _ _ h.row5]; rfl
/-- Behind another's writing: the block br alone, below base, beside both. -/
theorem MI.grown {w wx wy : World} {b0 b5 base id br : Nat} {tv : Value} {l : List En} (h : MI w b0 b5 base id tv l wx) (k : wx.grownBy wy (some br)) (hb : br < base ∧ br ≠ b5 ∧ br ≠ b0 ∧ w.heap.size ≤ br) : MI w b0 b5 base id tv l wy := by
  have h0 := (Array.getElem?_eq_some_iff.1 h.row0).1
  have h5 := (Array.getElem?_eq_some_iff.1 h.row5).1
  refine ⟨below_touch h.kept k h.kept.size hb.2.2.2, Nat.le_trans h.size k.size, ?_, ?_, own_stay h.own (fun m hm => k.block m (h.own.lt m hm).2 (fun e => by have := (h.own.lt m hm).1; have := Option.some.inj e; omega)), h.ord⟩
  · rw [k.block _ h0 (fun e => by have := Option.some.inj e; omega)]; exact h.row0
  · rw [k.block _ h5 (fun e => by have := Option.some.inj e; omega)]; exact h.row5
/-- An entry is appended. -/
theorem MI.app {w wd w6 : World} {b0 b5 base id : Nat} {tv v' : Value} {l : List En} {s : En} {XA : Array Value} (h : MI w b0 b5 base id tv l wd)
    (ho6 : w6.ownsRow base 55 35 v' (l.length + 1) (flatR enL l ++ enL s)) (hg : (wd.alloc (.cells XA 55)).grownBy w6 tv.ownBlock) :
    w6.heap[b5]? = some (.cells #[.int .u32 (id : Nat), tv] 25 (0, 0)) ∧ Kept w w6 ∧ MI w b0 b5 base id v' (l ++ [s]) (w6.setCell ⟨b5, 1, none⟩ v') := by
  have hka : Kept wd (wd.alloc (.cells XA 55)) := box_below _ _
  have hl0 := (Array.getElem?_eq_some_iff.1 h.row0).1
  have hl5 := (Array.getElem?_eq_some_iff.1 h.row5).1
  have nb : ∀ m, tv.ownBlock = some m → base ≤ m := fun m hm => (h.own.lt m hm).1
  have nb' : ∀ m, v'.ownBlock = some m → base ≤ m := fun m hm => (ho6.lt m hm).1
  have hb6 : ButBy (fun m => tv.ownBlock = some m) wd w6 := ⟨hg.os.trans hka.os, hg.tape.trans hka.tape, hg.output.trans hka.output, Nat.le_trans hka.size hg.size, fun m hm hn => (hg.block m (Nat.lt_of_lt_of_le hm hka.size) (fun e => hn e.symm)).trans (hka.block m hm)⟩
  have h5 : w6.heap[b5]? = some (.cells #[.int .u32 (id : Nat), tv] 25 (0, 0)) := by rw [hb6.block b5 hl5 (fun e => by have := nb _ e; have := h.ord; omega)]; exact h.row5
  have h0 : w6.heap[b0]? = some (.cells #[.int .u32 0, .slice none 0 0] 25 (0, 0)) := by rw [hb6.block _ hl0 (fun e => by have := nb _ e; have := h.ord; omega)]; exact h.row0
  have hk6 : Kept w w6 := ButBy.kept hb6 (fun m hm => by have := nb m hm; have := h.ord; omega) h.kept h.kept.size
  have hord := h.ord
  refine ⟨h5, hk6, below_touch hk6 (grown_set _ _ _ _) hk6.size (by omega), ?_, ?_, heap_setCell_same w6 b5 1 #[.int .u32 (id : Nat), tv] 25 v' h5, ?_, hord⟩
  · have := hb6.size
    have := h.size
    show base ≤ (w6.heap.modify _ _).size
    rw [Array.size_modify]; omega
  · rw [heap_setCell_other _ _ _ _ (by show b0 ≠ b5; omega)]; exact h0
  · have e1 : (l ++ [s]).length = l.length + 1 := by simp
    rw [e1, ← flatR_snoc]
    exact own_stay ho6 (fun m hm => heap_setCell_other _ _ _ _ (by show m ≠ b5; have := nb' m hm; omega))
/-- Handed back: the two cells copied into the result's block. -/
theorem MI.done {w wx : World} {b0 b5 base id : Nat} {tv : Value} {l : List En} (h : MI w b0 b5 base id tv l wx) (hid : id < 4294967296) (hok : ∀ e ∈ l, wfE e) :
    ManIs ⟨id, l⟩ (.agg #[.int .u32 (id : Nat), tv]) ((wx.setCell ⟨b0, 0, none⟩ (.int .u32 (id : Nat))).setCell ⟨b0, 1, none⟩ tv) ∧ Kept w ((wx.setCell ⟨b0, 0, none⟩ (.int .u32 (id : Nat))).setCell ⟨b0, 1, none⟩ tv) :=
  ⟨⟨hid, tv, rfl, RowsAt.own encE hok (own_set2M h.own h.ord.2.1 _ _)⟩, below_set2M h.kept h.kept.size h.ord.1 _ _⟩

end Go.Proofs.YteompckehokdoaaDoor
