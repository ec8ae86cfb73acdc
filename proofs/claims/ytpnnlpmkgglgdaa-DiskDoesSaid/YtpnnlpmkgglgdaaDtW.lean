/- The program's disk: the walk of Write. -/
import Derived.Test.YtpnnlpmkgglgdaaDtB
namespace Go.Proofs.Ytpnnlpmkgglgdaa
open Go.RowKit

def isAggW : Value → Bool
  | .agg _ => true
  | _ => false
def aggW : Value → Nat
  | .agg cs => cs.size
  | _ => 0
theorem zeroPw0 : ((Try.prog.info? 64).bind (·.zero)).map (fun z => (isAggW z, aggW z)) = some (true, 129) := by kernel_rfl
theorem sizeU8 : (Try.prog.info? 5).map (·.size) = some 1 := by kernel_rfl
theorem infoPw0 : (Try.prog.info? 64).map (fun i => (i.zero.isSome, i.size, i.bytes)) = some (true, 129, 136) := by kernel_rfl
theorem sizePw : (Try.prog.info? 64).map (·.size) = some 129 := by kernel_rfl
/-- What a pending write is at first. -/
theorem infoPw : ∃ (i : TypeInfo) (Z : Array Value), Try.prog.info? 64 = some i ∧ i.zero = some (.agg Z) ∧ i.size = 129 ∧ i.bytes = 136 ∧ Z.size = 129 ∧ ∀ w, (zeroValue 64).run Try.prog w = .ok (.agg Z) w := by
  have h := zeroPw0
  have h2 := infoPw0
  cases hq : Try.prog.info? 64 with
  | none => rw [hq] at h; cases h
  | some i =>
    rw [hq] at h h2
    simp only [Option.bind_some] at h
    simp only [Option.map_some, Option.some.injEq, Prod.mk.injEq] at h2
    cases hz : i.zero with
    | none => rw [hz] at h; cases h
    | some z =>
      rw [hz] at h
      simp only [Option.map_some, Option.some.injEq, Prod.mk.injEq] at h
      cases z <;> simp only [isAggW, Bool.false_eq_true, false_and] at h
      rename_i cs
      refine ⟨i, cs, rfl, hz, h2.2.1, h2.2.2, h.2, fun w => ?_⟩
      simp [zeroValue, typeInfo, hq, hz]

theorem built_pw (q : Nat) : Try.prog.built 64 [(0, .int .i64 (q : Int))] = some (wcell q (List.replicate 128 0)).toArray := by kernel_rfl

/-- A text's bytes, laid into a pending write. -/
theorem wcell_laid (q : Nat) (t : ByteArray) (l : List UInt8) (h : t = str l) (hl : l.length = 128) : laidOver (wcell q (List.replicate 128 0)).toArray 1 (firstB t 128) = (wcell q l).toArray := by
  subst h
  have e : firstB (str l) 128 = l.map u8V := by
    unfold firstB
    rw [show (str l).data.toList = l from rfl, List.take_of_length_le (by omega)]
    rfl
  unfold laidOver
  rw [e, List.length_map, hl, List.drop_eq_nil_of_le (by show (wcell q (List.replicate 128 0)).length ≤ _; rw [wcell_len _ _ (by simp)]; omega), List.append_nil]
  rfl

section
variable {B g b c m : Nat} {s : Dk} {vp : Value} {w : World} (h : DAt B g b c m s vp w)
include h

set_option maxRecDepth 100000 in
set_option maxHeartbeats 1000000 in
/-- A write that is refused. -/
theorem dwrite_bad (hok : s.ok) (i : Int) (t : ByteArray) (hbad : s.bad i t.data.toList) :
    Calls Try.prog 20 #[.pointer (some ⟨g, 0, none⟩), .int .i64 i, .string t] w (DsPost B g b c m (s.writeS i t.data.toList) vp (.int .i64 (s.writeE i t.data.toList)) w) := by
  have RC := dreach_any h hok i
  have hts := str_len t
  obtain ⟨l, hl⟩ : ∃ l, l = t.data.toList := ⟨_, rfl⟩
  rw [← hl] at hts hbad ⊢
  have e2 : s.writeS i l = s := by unfold Dk.writeS; rw [if_pos hbad]
  rw [e2]
  have H := Lib.hid h
  by_cases hd : s.down = true ∨ s.out i
  · have e1 : s.writeE i l = s.readE i := by unfold Dk.writeE Dk.readE; split; · rfl
                                             rcases hd with x | x
                                             · contradiction
                                             · rw [if_pos x, if_pos x]
    have e3 : (s.readE i != 0) = true := by unfold Dk.readE; rw [bne_iff_ne]; split; · decide
                                            rcases hd with x | x
                                            · contradiction
                                            · rw [if_pos x]; decide
    rw [e1]
    obtain ⟨r, hr⟩ : ∃ r, r = s.readE i := ⟨_, rfl⟩
    rw [← hr] at RC e3 ⊢
    clear h hok e1 e2 hd hr hl hts hbad
    go_enter Try.func20, Try.ntmps20
    go_wp2_with fail
    refine RC.mono ?_
    rintro e w1 ⟨rfl, rfl⟩
    go_wp2
    go_ret
    exact ⟨rfl, vp, H.out, fun k hk => Or.inl hk, but_refl _ _⟩
  · have hd1 : ¬ s.down = true := fun x => hd (Or.inl x)
    have hd2 : ¬ s.out i := fun x => hd (Or.inr x)
    have h128 : l.length ≠ 128 := by
      rcases hbad with x | x | x
      · exact absurd x hd1
      · exact absurd x hd2
      · exact x
    have e1 : s.writeE i l = 1 := by unfold Dk.writeE; rw [if_neg hd1, if_neg hd2, if_pos h128]
    have e3 : s.readE i = 0 := by unfold Dk.readE; rw [if_neg hd1, if_neg hd2]
    rw [e1]
    rw [e3] at RC
    have b1 : ((t.size : Int) != 128) = true := by rw [bne_iff_ne]; omega
    clear h hok e1 e2 e3 hd hd1 hd2 hl hts hbad h128
    go_enter Try.func20, Try.ntmps20
    go_wp2_with fail
    refine RC.mono ?_
    rintro e w1 ⟨rfl, rfl⟩
    go_wp2
    go_ret
    exact ⟨rfl, vp, H.out, fun k hk => Or.inl hk, but_refl _ _⟩

set_option maxRecDepth 100000 in
set_option maxHeartbeats 1000000 in
theorem dwrite_fine (hok : s.ok) (hlo : s.ops ≤ 4294967295) (q : Nat) (hi : (Lit.int .i64 (q : Int)).wf = true) (t : ByteArray) (hbad : ¬ s.bad (q : Int) t.data.toList) :
    Calls Try.prog 20 #[.pointer (some ⟨g, 0, none⟩), .int .i64 (q : Int), .string t] w (DsPost B g b c m (s.writeS q t.data.toList) vp (.int .i64 (s.writeE q t.data.toList)) w) := by
  have RC := dreach_any h hok q
  have hts := str_len t
  have HT : Hid (t = str t.data.toList) := Lib.hid (str_of t).symm
  obtain ⟨l, hl⟩ : ∃ l, l = t.data.toList := ⟨_, rfl⟩
  rw [← hl] at hts HT hbad ⊢
  have hd : ¬ s.down = true := fun x => hbad (Or.inl x)
  have ho : ¬ s.out (q : Int) := fun x => hbad (Or.inr (Or.inl x))
  have h128 : l.length = 128 := Decidable.byContradiction fun x => hbad (Or.inr (Or.inr x))
  have e3 : s.readE q = 0 := by unfold Dk.readE; rw [if_neg hd, if_neg ho]
  rw [e3] at RC
  have e1 : s.writeE q l = if s.fuse = 0 then 90 else 0 := by unfold Dk.writeE; rw [if_neg hd, if_neg ho, if_neg (fun x => x h128)]
  have e2 : s.writeS q l = ({ s with waits := s.waits ++ [(q, l)] } : Dk).cut := by
    unfold Dk.writeS; rw [if_neg hbad, Int.toNat_natCast]
  rw [e1, e2]
  obtain ⟨rt, hrt⟩ : ∃ rt : Int, rt = if s.fuse = 0 then 90 else 0 := ⟨_, rfl⟩
  rw [← hrt]
  have HRT := Lib.hid hrt
  have b1 : ((t.size : Int) != 128) = false := by rw [bne_eq_false_iff_eq]; omega
  obtain ⟨iw, Z, hiw, hz0, hz1, hz2, hZ, hzv⟩ := infoPw
  have HIW := Lib.hid hiw
  have HZ0 := Lib.hid hz0
  have HZ1 := Lib.hid hz1
  have HZ2 := Lib.hid hz2
  have HZS : Hid ((Value.agg Z).cells.size = 129) := Lib.hid hZ
  have HB := Lib.hid (built_pw q)
  have HLD := Lib.hid (wcell_laid q t l HT.out h128)
  obtain ⟨D, hD⟩ : ∃ D, D = (wcell q (List.replicate 128 0)).toArray := ⟨_, rfl⟩
  have hDs : D.size = 129 := by rw [hD, List.size_toArray, wcell_len _ _ (by simp)]
  have hDo : D.all (·.oneCell') = true := by rw [hD]; exact all_oneCell_toArray (wcell_one _ _)
  rw [← hD] at HB HLD
  obtain ⟨F, hF⟩ : ∃ F, F = (wcell q l).toArray := ⟨_, rfl⟩
  have HF := Lib.hid hF
  rw [← hF] at HLD
  have HFI : Hid ((Try.prog.info? 64).map (·.size) = some D.size) := by rw [hDs]; exact sizePw
  have HUS : Hid (Z.size = D.size) := Lib.hid (by rw [hZ, hDs])
  have HON := Lib.hid hDo
  have HDS := Lib.hid hDs
  have HTS : Hid (Nat.min t.size 128 = 128) := Lib.hid (by rw [← hts, h128]; rfl)
  have HDF : Hid (1 + 128 ≤ D.size) := Lib.hid (by rw [hDs]; omega)
  have hFl : F.toList = wcell q l := by rw [hF]
  have hFs : F.size = 129 := by rw [hF, List.size_toArray, wcell_len _ _ h128]
  have HFS := Lib.hid hFs
  have HFO : Hid (∀ x ∈ F.toList, x.oneCell' = true) := Lib.hid (by rw [hFl]; exact wcell_one q l)
  have HFL := Lib.hid hFl
  have H128 := Lib.hid h128
  have hk40 : s.waits.length ≤ 4294967295 := Nat.le_trans hok.few hlo
  have HLO := Lib.hid hlo
  have HFZ := Lib.hid hok.fz
  have h3 := h.kept (box_below w (.cells F 64))
  have hbx : Hid (ButBy (DBs g b m vp) w (w.alloc (.cells F 64))) := Lib.hid (ButBy.below (box_below w _))
  have hlb : ¬ DBs g b m vp w.heap.size := fun x => by have := (h.lt _ x).2; omega
  have HLB := Lib.hid hlb
  have hrow3 := heap_alloc_last w (.cells F 64)
  have hsz3 : (w.alloc (.cells F 64)).heap.size = w.heap.size + 1 := by simp
  obtain ⟨W3, hW3⟩ : ∃ W3, W3 = w.alloc (.cells F 64) := ⟨_, rfl⟩
  have HW3 := Lib.hid hW3
  rw [← hW3] at h3 hbx hrow3 hsz3
  obtain ⟨lb, hlbe⟩ : ∃ lb, lb = w.heap.size := ⟨_, rfl⟩
  have HLBE := Lib.hid hlbe
  rw [← hlbe] at hrow3 hsz3 HLB hlb
  have c3 : W3.cell? ⟨g, 3, none⟩ = some (.map (some m)) := h3.cell 3 _ rfl
  have c2 : W3.cell? ⟨g, 2, none⟩ = some vp := h3.cell 2 _ rfl
  obtain ⟨p, cp, hvp, -, -⟩ := own_slice h3.pend
  have hdr : DAt B g b c m s vp W3.drew := h3.stay (fun _ _ => rfl)
  obtain ⟨w2, hmu, hmap2, hg2, -⟩ := hdr.map.set Try.underlying57 (by unfold maxLen; omega) hi (x := (s.waits.length : Int)) (by
    simp only [eltInt, Lit.wf, IntKind.min, IntKind.max, IntKind.signed, IntKind.bits, Bool.and_eq_true, decide_eq_true_eq, if_true]; omega)
  have hmu2 : (Instr.mapUpdate 57 (.map (some m)) (.int .i64 (q : Int)) (.int .i64 (s.waits.length : Int))).run Try.prog W3.drew = .ok () w2 := hmu
  have M2 := hdr.mid q l hmap2 hg2
  have hrow2 : w2.heap[lb]? = some (.cells F 64 (0, 0)) := by
    rw [hg2.block lb (by show lb < W3.heap.size; omega) (fun e => hlb (Or.inr (Or.inr (Or.inl (Option.some.inj e)))))]; exact hrow3
  have hlb2 : lb < w2.heap.size := (Array.getElem?_eq_some_iff.1 hrow2).1
  have hbut2 : ButBy (DBs g b m vp) w w2 := hbx.out.trans ⟨hg2.os, hg2.tape, hg2.output, hg2.size, fun j hj hn => hg2.block j hj (fun e => hn (Or.inr (Or.inr (Or.inl (Option.some.inj e)))))⟩
  have hB2 : B ≤ w2.heap.size := by have := M2.base; have := (Array.getElem?_eq_some_iff.1 M2.row).1; omega
  obtain ⟨W5, hW5⟩ : ∃ W5, W5 = w2.drew := ⟨_, rfl⟩
  have K5 : Kept w2 W5 := by rw [hW5]; exact (Below.refl _ _).drew
  have K6 : Kept w2 (W5.alloc (.cells F 64)) := K5.then (box_below _ _)
  have M6 := M2.kept K6
  have d2 : W5.cell? ⟨g, 2, none⟩ = some vp := by rw [cell_of_row _ _ _ _ _ _ (M2.kept K5).row]; rfl
  have d2' : (W5.alloc (.cells F 64)).cell? ⟨g, 2, none⟩ = some vp := by rw [cell_of_row _ _ _ _ _ _ M6.row]; rfl
  rw [hvp] at c2 d2 d2'
  have HOWN : Hid ((W5.alloc (.cells F 64)).ownsRow B 64 129 (.slice p s.waits.length cp) s.waits.length (wtB s.waits)) := Lib.hid (by have h := M6.pend; rw [hvp] at h; exact h)
  have HFN : Hid (FlatAt 129 1 F.toList (.slice (some ⟨W5.heap.size, 0, none⟩) 1 1) (W5.alloc (.cells F 64))) := Lib.hid (FlatAt.new W5 64 129 1 1 F (by rw [hFs]) (by rw [hFl]; exact wcell_one q l))
  have hS5 : W5.heap[lb]? = some (.cells F 64 (0, 0)) := by rw [K5.block lb hlb2]; exact hrow2
  have HS5 := Lib.hid hS5
  have HS6 : Hid ((W5.alloc (.cells F 64)).heap[lb]? = some (.cells F 64 (0, 0))) := Lib.hid (by rw [K6.block lb hlb2]; exact hrow2)
  have hvb : (Value.slice p s.waits.length cp).ownBlock = vp.ownBlock := by rw [hvp]
  have HEND : Hid (∀ (v' : Value) (w5 : World), w5.ownsRow B 64 129 v' (s.waits.length + 1) (wtB s.waits ++ F.toList) → (W5.alloc (.cells F 64)).grownBy w5 (Value.slice p s.waits.length cp).ownBlock → (v'.ownBlock = (Value.slice p s.waits.length cp).ownBlock ∨ v'.ownBlock = some (W5.alloc (.cells F 64)).heap.size) →
      (w5.cell? ⟨g, 2, none⟩ = some (.slice p s.waits.length cp) ∧ w5.frozen? ⟨g, 2, none⟩ = false) ∧ Hid (w5.heap[lb]? = some (.cells F 64 (0, 0))) ∧ Hid ((w5.setCell ⟨g, 2, none⟩ v').heap[lb]? = some (.cells F 64 (0, 0))) ∧
      Calls Try.prog 37 #[.pointer (some ⟨g, 0, none⟩)] (w5.setCell ⟨g, 2, none⟩ v') (fun e w' => e = .returned (.int .i64 rt) ∧ Hid (DsPost B g b c m (({ s with waits := s.waits ++ [(q, l)] } : Dk).cut) vp (.int .i64 rt) w (.returned (.int .i64 rt)) w'))) := Lib.hid (by
    intro v' w5 ho hgr hwh
    rw [hvb] at hgr hwh
    rw [hFl] at ho
    obtain ⟨r4, hnew, hb3, h1, h2, h3⟩ := M2.done K6 H128.out ho hgr hwh
    refine ⟨⟨by rw [h1, hvp], h2⟩, Lib.hid (by rw [(h3 lb hlb2 hlb).1]; exact hrow2), Lib.hid (by rw [(h3 lb hlb2 hlb).2]; exact hrow2), ?_⟩
    refine (dcut_any r4 (Nat.le_trans HLO.out (by omega)) HFZ.out).mono ?_
    rintro e w9 ⟨rfl, r5, hb5⟩
    refine ⟨by rw [HRT.out], Lib.hid ⟨rfl, v', r5, fun j e => (hnew j e).imp id (fun x => Nat.le_trans hbut2.size x), (hbut2.trans hb3).trans (hb5.mono (fun j hj => Or.inl hj))⟩⟩)
  obtain ⟨k, hk⟩ : ∃ k, k = s.waits.length := ⟨_, rfl⟩
  rw [← hk] at hmu2 hk40 c2 d2 d2' HOWN HEND
  obtain ⟨xs, hxs⟩ : ∃ xs, xs = wtB s.waits := ⟨_, rfl⟩
  rw [← hxs] at HOWN HEND
  obtain ⟨DK, hDK⟩ : ∃ DK : Dk, DK = ({ s with waits := s.waits ++ [(q, l)] } : Dk).cut := ⟨_, rfl⟩
  rw [← hDK] at HEND ⊢
  have HB2 := Lib.hid hB2
  have HC2 : Hid (w2.cell? ⟨g, 3, none⟩ = some (.map (some m)) ∧ w2.cell? ⟨g, 2, none⟩ = some (.slice p k cp)) := Lib.hid (by rw [cell_of_row _ _ _ _ _ _ M2.row, cell_of_row _ _ _ _ _ _ M2.row]; exact ⟨rfl, congrArg some (hvp.trans (by rw [hk]))⟩)
  have HSZ6 : Hid (w2.heap.size ≤ (W5.alloc (.cells F 64)).heap.size) := Lib.hid K6.size
  have HW5 := Lib.hid hW5
  clear hW5 hk hxs hDK hvp hvb hS5 M6 M2 K6 K5 hbut2 hlb2 hrow2 hg2 hmap2 hmu hdr h3 hbx hlb hrow3 hsz3 h hW3 hB2 HFZ HLO HRT hlbe hFl hFs H128 HFL
  clear hDs hDo hD hF hiw hz0 hz1 hz2 hZ hrt e1 e2 e3 hd ho hbad hl hts h128 hok hlo HF HT
  go_enter Try.func20, Try.ntmps20
  go_wp2_with fail
  refine RC.mono ?_
  rintro e w1 ⟨rfl, rfl⟩
  go_wp2_with (first
    | (with_reducible refine wpList_built rfl _ _ rfl [(0, .int .i64 (q : Int))] ?hpsB D HB.out ?_)
    | ((with_reducible refine wpList_store_row rfl _ _ _ rfl w.heap.size D rfl rfl 64 _ (heap_alloc_last w _) HFI.out HUS.out HON.out ?_); rw [World.setRow_alloc_new])
    | ((with_reducible refine wpList_copy_str rfl _ _ _ _ rfl 5 Try.underlying50 sizeU8 w.heap.size 1 128 128 t rfl rfl D 64 (heap_alloc_last w _) 128 HTS.out HDF.out F HLD.out ?_); rw [World.setRow_alloc_new, ← HW3.out]))
  refine wp_region_held_drew (S := fun w' => w'.cell? ⟨g, 3, none⟩ = some (.map (some m)) ∧ w'.cell? ⟨g, 2, none⟩ = some (.slice p k cp)) (by kernel_rfl) ⟨c3, c2⟩ (fun hHeld => ?_)
  refine wpAnyH_take (i := 0) (v := ?_) rfl (by kernel_rfl) (by kernel_rfl) (by kernel_rfl) (fun _ _ _ h => h) (Or.inl ⟨by first | kernel_rfl | rfl, ?_⟩) (by assumption) ?_
  case refine_2 => intro w hSw; go_simp; try with_reducible rfl
  refine wpAnyH_take (i := 1) (v := ?_) rfl (by kernel_rfl) (by kernel_rfl) (by kernel_rfl) (fun _ _ _ h => h) (Or.inl ⟨by first | kernel_rfl | rfl, ?_⟩) (by assumption) ?_
  case refine_2 => intro w hSw; go_simp; try with_reducible rfl
  refine wpAnyH_take (i := 2) (v := ?_) rfl (by kernel_rfl) (by kernel_rfl) (by kernel_rfl) (fun _ _ _ h => h) (Or.inl ⟨by first | kernel_rfl | rfl, ?_⟩) (by assumption) ?_
  case refine_2 => intro w hSw; go_simp; try with_reducible rfl
  refine wpAnyH_take (i := 3) (v := ?_) rfl (by kernel_rfl) (by kernel_rfl) (by kernel_rfl) (fun _ _ _ h => h) (Or.inl ⟨by first | kernel_rfl | rfl, ?_⟩) (by assumption) ?_
  case refine_2 => intro w hSw; have hs1 := hSw.1; have hs2 := hSw.2; clear hSw; go_simp; try with_reducible rfl
  refine wpAnyH_take (i := 4) (v := ?_) rfl (by kernel_rfl) (by kernel_rfl) (by kernel_rfl) (fun _ _ _ h => h) (Or.inl ⟨by first | kernel_rfl | rfl, ?_⟩) (by assumption) ?_
  case refine_2 => intro w hSw; go_simp; try with_reducible rfl
  refine wpAnyH_take (i := 5) (v := ?_) rfl (by kernel_rfl) (by kernel_rfl) (by kernel_rfl) (fun _ _ _ h => h) (Or.inl ⟨by first | kernel_rfl | rfl, ?_⟩) (by assumption) ?_
  case refine_2 => intro w hSw; go_simp; try with_reducible rfl
  refine wpAnyH_take (i := 6) (v := ?_) rfl (by kernel_rfl) (by kernel_rfl) (by kernel_rfl) (fun _ _ _ h => h) (Or.inl ⟨by first | kernel_rfl | rfl, ?_⟩) (by assumption) ?_
  case refine_2 => intro w hSw; go_simp; try with_reducible rfl
  refine wpAnyH_take (i := 7) (v := ?_) rfl (by kernel_rfl) (by kernel_rfl) (by kernel_rfl) (fun _ _ _ h => h) (Or.inl ⟨by first | kernel_rfl | rfl, ?_⟩) (by assumption) ?_
  case refine_2 => intro w hSw; go_simp; try with_reducible rfl
  refine wpAnyH_take (i := 8) (v := ?_) rfl (by kernel_rfl) (by kernel_rfl) (by kernel_rfl) (fun _ _ _ h => h) (Or.inl ⟨by first | kernel_rfl | rfl, ?_⟩) (by assumption) ?_
  case refine_2 => intro w hSw; have hs1 := hSw.1; have hs2 := hSw.2; clear hSw; go_simp; try with_reducible rfl
  refine wpAnyH_take (i := 9) (v := ?_) rfl (by kernel_rfl) (by kernel_rfl) (by kernel_rfl) (fun _ _ _ h => h) (Or.inl ⟨by first | kernel_rfl | rfl, ?_⟩) (by assumption) ?_
  case refine_2 => intro w hSw; go_simp; try with_reducible rfl
  refine wpAnyH_ready (rs := [10]) (by kernel_rfl) (by simp) (AllReadyH.cons rfl (fun K hK => ?_) AllReadyH.nil)
  go_simp
  refine hK.out _ _ HC2.out (fun _ => ?_)
  clear hK K
  refine wpAnyH_done (by kernel_rfl) ?_ _
  clear hmu2 hHeld
  go_wp2_with fail
  rw [← HLBE.out]
  go_wp2_with fail
  refine wp_region_held_drew (S := fun w' => w'.heap[lb]? = some (.cells F 64 (0, 0))) (by kernel_rfl) (by show w2.drew.heap[_]? = _; rw [← HW5.out]; exact HS5.out) (fun hHeld => ?_)
  rw [← HW5.out]
  refine wpAnyH_take (i := 0) (v := ?_) rfl (by kernel_rfl) (by kernel_rfl) (by kernel_rfl) (fun _ _ _ h => h) (Or.inl ⟨by first | kernel_rfl | rfl, ?_⟩) (by assumption) ?_
  case refine_2 => intro w hSw; go_simp; try with_reducible rfl
  refine wpAnyH_take (i := 1) (v := ?_) rfl (by kernel_rfl) (by kernel_rfl) (by kernel_rfl) (fun _ _ _ h => h) (Or.inl ⟨by first | kernel_rfl | rfl, ?_⟩) (by assumption) ?_
  case refine_2 => intro w hSw; go_simp; try with_reducible rfl
  refine wpAnyH_take (i := 2) (v := ?_) rfl (by kernel_rfl) (by kernel_rfl) (by kernel_rfl) (fun _ _ _ h => h) (Or.inl ⟨by first | kernel_rfl | rfl, ?_⟩) (by assumption) ?_
  case refine_2 => intro w hSw; go_simp; try with_reducible rfl
  refine wpAnyH_take (i := 3) (v := ?_) rfl (by kernel_rfl) (by kernel_rfl) (by kernel_rfl) (fun _ _ _ h => h) (Or.inl ⟨by first | kernel_rfl | rfl, ?_⟩) (by assumption) ?_
  case refine_2 => intro w hSw; go_simp; try with_reducible rfl
  refine wpAnyH_take (i := 5) (v := .agg F) rfl (by kernel_rfl) (by kernel_rfl) (by kernel_rfl) (fun _ _ _ h => h) (yieldsIf_load_mid (by first | kernel_rfl | rfl) _ _ rfl lb 0 (by rfl) F.toList _ (fun _ h => range_of_row h) Try.underlying64 rfl (by rw [Array.length_toList, HFS.out]; exact sizePw)) (by assumption) ?_
  refine wpAnyH_ready (rs := [4, 6]) (by kernel_rfl) (by simp) (AllReadyH.cons rfl (fun K hK => ?_) (AllReadyH.cons rfl (fun K hK => ?_) AllReadyH.nil))
  · go_simp
    refine hK.out _ _ HS5.out (fun _ => ?_)
    clear hK K
    refine wpAnyH_ready (rs := [6]) (by kernel_rfl) (by simp) (AllReadyH.cons rfl (fun K hK => ?_) AllReadyH.nil)
    rw [if_pos (by rfl)]
    refine wp_buildN_one 56 64 _ rfl F rfl iw (.agg Z) 129 Try.underlying56 HIW.out HZ0.out HZ1.out (by decide) (by decide) HFS.out ?_
    refine hK.out _ _ HS6.out (fun _ => ?_)
    clear hK K
    refine wpAnyH_ready (rs := [7]) (by kernel_rfl) (by simp) (AllReadyH.cons rfl (fun K hK => ?_) AllReadyH.nil)
    rw [if_pos (by rfl)]
    refine wp_append_flat _ _ 56 rfl B 64 iw (.agg Z) 129 136 Try.underlying56 HIW.out HZ0.out HZ1.out HZ2.out HZS.out (by decide) _ k xs rfl HOWN.out _ 1 F.toList rfl HFN.out ?q1 ?q2 ?q3 ?_
    case q1 => unfold maxLen; omega
    case q2 => omega
    case q3 => have := HB2.out; have := HSZ6.out; omega
    intro v' w4 hown4 hg4 hw4
    obtain ⟨⟨fc, ff⟩, hs1, hs2, OP⟩ := HEND.out v' w4 hown4 hg4 hw4
    obtain ⟨pv, cv, rfl, -, -⟩ := own_slice hown4
    clear hown4 hg4 hw4
    refine hK.out _ _ hs1.out (fun _ => ?_)
    clear hK K
    refine wpAnyH_take (i := 8) (v := ?_) rfl (by kernel_rfl) (by kernel_rfl) (by kernel_rfl) (fun _ _ _ h => h) (Or.inl ⟨by first | kernel_rfl | rfl, ?_⟩) (by assumption) ?_
    case refine_2 => intro w hSw; go_simp; try with_reducible rfl
    refine wpAnyH_take (i := 9) (v := ?_) rfl (by kernel_rfl) (by kernel_rfl) (by kernel_rfl) (fun _ _ _ h => h) (Or.inl ⟨by first | kernel_rfl | rfl, ?_⟩) (by assumption) ?_
    case refine_2 => intro w hSw; go_simp; try with_reducible rfl
    refine wpAnyH_ready (rs := [10]) (by kernel_rfl) (by simp) (AllReadyH.cons rfl (fun K hK => ?_) AllReadyH.nil)
    go_simp
    refine hK.out _ _ hs2.out (fun _ => ?_)
    clear hK K
    refine wpAnyH_done (by kernel_rfl) ?_ _
    go_wp2_with fail
    refine OP.mono ?_
    rintro e w9 ⟨rfl, FIN⟩
    go_wp2
    go_ret
    exact FIN.out
  · rw [if_pos (by rfl)]
    refine wp_buildN_one 56 64 _ rfl F rfl iw (.agg Z) 129 Try.underlying56 HIW.out HZ0.out HZ1.out (by decide) (by decide) HFS.out ?_
    refine hK.out _ _ HS6.out (fun _ => ?_)
    clear hK K
    refine wpAnyH_ready (rs := [4]) (by kernel_rfl) (by simp) (AllReadyH.cons rfl (fun K hK => ?_) AllReadyH.nil)
    go_simp
    refine hK.out _ _ HS6.out (fun _ => ?_)
    clear hK K
    refine wpAnyH_ready (rs := [7]) (by kernel_rfl) (by simp) (AllReadyH.cons rfl (fun K hK => ?_) AllReadyH.nil)
    rw [if_pos (by rfl)]
    refine wp_append_flat _ _ 56 rfl B 64 iw (.agg Z) 129 136 Try.underlying56 HIW.out HZ0.out HZ1.out HZ2.out HZS.out (by decide) _ k xs rfl HOWN.out _ 1 F.toList rfl HFN.out ?q1 ?q2 ?q3 ?_
    case q1 => unfold maxLen; omega
    case q2 => omega
    case q3 => have := HB2.out; have := HSZ6.out; omega
    intro v' w4 hown4 hg4 hw4
    obtain ⟨⟨fc, ff⟩, hs1, hs2, OP⟩ := HEND.out v' w4 hown4 hg4 hw4
    obtain ⟨pv, cv, rfl, -, -⟩ := own_slice hown4
    clear hown4 hg4 hw4
    refine hK.out _ _ hs1.out (fun _ => ?_)
    clear hK K
    refine wpAnyH_take (i := 8) (v := ?_) rfl (by kernel_rfl) (by kernel_rfl) (by kernel_rfl) (fun _ _ _ h => h) (Or.inl ⟨by first | kernel_rfl | rfl, ?_⟩) (by assumption) ?_
    case refine_2 => intro w hSw; go_simp; try with_reducible rfl
    refine wpAnyH_take (i := 9) (v := ?_) rfl (by kernel_rfl) (by kernel_rfl) (by kernel_rfl) (fun _ _ _ h => h) (Or.inl ⟨by first | kernel_rfl | rfl, ?_⟩) (by assumption) ?_
    case refine_2 => intro w hSw; go_simp; try with_reducible rfl
    refine wpAnyH_ready (rs := [10]) (by kernel_rfl) (by simp) (AllReadyH.cons rfl (fun K hK => ?_) AllReadyH.nil)
    go_simp
    refine hK.out _ _ hs2.out (fun _ => ?_)
    clear hK K
    refine wpAnyH_done (by kernel_rfl) ?_ _
    go_wp2_with fail
    refine OP.mono ?_
    rintro e w9 ⟨rfl, FIN⟩
    go_wp2
    go_ret
    exact FIN.out
theorem dwrite_any (hok : s.ok) (hlo : s.ops ≤ 4294967295) (i : Int) (hi : (Lit.int .i64 i).wf = true) (t : ByteArray) :
    Calls Try.prog 20 #[.pointer (some ⟨g, 0, none⟩), .int .i64 i, .string t] w (DsPost B g b c m (s.writeS i t.data.toList) vp (.int .i64 (s.writeE i t.data.toList)) w) := by
  by_cases hbad : s.bad i t.data.toList
  · exact dwrite_bad h hok i t hbad
  · obtain ⟨q, rfl⟩ : ∃ q : Nat, i = q := ⟨i.toNat, by
      have ho : ¬ s.out i := fun x => hbad (Or.inr (Or.inl x))
      unfold Dk.out at ho
      omega⟩
    exact dwrite_fine h hok hlo q hi t hbad
end

end Go.Proofs.Ytpnnlpmkgglgdaa
