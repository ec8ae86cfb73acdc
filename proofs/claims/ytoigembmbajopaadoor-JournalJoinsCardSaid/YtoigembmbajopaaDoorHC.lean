/- Slices of one element, however many cells it has, laid; an append to a disk's pending writes: what it leaves. The program's disk: the walk of Write. The program's disk: which writes survive (closures), the walk of settle. The program's disk: the walks of Flush, Power. The program's disk: the walk of Spoil. -/
import Derived.Test.YtoigembmbajopaaDoorHB
import Derived.Test.YtoigembmbajopaaDoorGB
import Derived.Great.BuildSlice
import Derived.Shelf.GgSortFunc.RowK
import Derived.Laws.IdiomCopy
import Derived.StillTailTactics
namespace Go.Proofs.YtoigembmbajopaaDoor
open Go.RowKit

theorem foldN_many (off : Nat) : ∀ (l : List Value) (j : Nat) (cells : Array Value), (l.zipIdx j).foldl (fun cs p => cs.setIfInBounds (off + p.2) p.1) cells = Sort.setMany cells (off + j) l
  | [], _, _ => rfl
  | v :: l, j, cells => by
    rw [List.zipIdx_cons, List.foldl_cons, foldN_many off l (j + 1)]
    rfl

theorem foldN_arr (off : Nat) (X cells : Array Value) : X.zipIdx.foldl (fun cs (p : Value × Nat) => cs.setIfInBounds (off + p.2) p.1) cells = Sort.setMany cells off X.toList := by
  rw [← Array.foldl_toList, Array.toList_zipIdx, foldN_many off X.toList 0 cells, Nat.add_zero]

theorem fillN_one (n : Nat) (X cells : Array Value) (hX : X.size = n) (hc : cells.size = n) : Instr.fill (fun i => some (i * n, n)) cells [(0, .agg X)] = some X := by
  have h1 : (Value.agg X).cells = X := rfl
  simp only [Instr.fill, h1, hX, hc]
  rw [if_neg (by simp)]
  congr 1
  refine (foldN_arr (0 * n) X cells).trans ?_
  apply Sort.ext_get! (by rw [Sort.size_setMany, hX, hc])
  intro t ht
  rw [Sort.size_setMany] at ht
  rw [Sort.get_setMany _ _ _ t ht, if_pos (by rw [Array.length_toList, hX]; omega)]
  rw [Nat.zero_mul, Nat.sub_zero, getElem!_pos X t (by omega), getElem!_pos X.toList t (by rw [Array.length_toList]; omega)]
  simp

theorem wp_buildN_one {P : Program} {o : Oper} {a : Act} {w : World} {K : Act → World → Prop} {Q : Exit → Act → World → Prop} (t e : TypeId) (x : Operand) (ho : o.op = .buildSlice t 1 #[(0, x)]) (X : Array Value) (hx : a.eval x = .agg X)
    (i : TypeInfo) (z : Value) (n : Nat) (hu : P.underlying t = some (.slice e)) (hi : P.info? e = some i) (hz : i.zero = some z) (hs : i.size = n) (hn : 0 < n) (hn2 : n ≤ 65536) (hX : X.size = n)
    (h : K (a.put o.dst (.slice (some ⟨w.heap.size, 0, none⟩) 1 1)) (w.alloc (.cells X e))) : o.wp P a w K Q := by
  refine wp_buildSlice t e 1 _ ho X i z hu hi hz (by rw [hs]; omega) (by rw [hs]; omega) ?_ h
  rw [hs]
  have e : (#[(0, x)].map fun (p : Nat × Operand) => (p.1, a.eval p.2)).toList = [(0, Value.agg X)] := by simp [hx]
  refine (congrArg _ e).trans (fillN_one n X _ hX (by simp))

/-- A disk, one of whose pending writes is in its map, but not yet in its list. -/
structure Mid (B g b c m : Nat) (s : Dk) (q : Nat) (l : List UInt8) (vp : Value) (w : World) : Prop where
  base : B ≤ g
  row : w.heap[g]? = some (.cells (dA g s b s.image.length c vp m) 115 (0, 0))
  hb : B ≤ b
  cap : s.image.length ≤ c
  dur : BytesAt b s.image w
  pend : w.ownsRow B 141 129 vp s.waits.length (wtB s.waits)
  hm : B ≤ m
  map : MapIs eltInt m (s.waits ++ [(q, l)]).length (lastF (s.waits ++ [(q, l)])) w
  ap : b ≠ g ∧ m ≠ g ∧ m ≠ b ∧ vp.ownBlock ≠ some g ∧ vp.ownBlock ≠ some b ∧ vp.ownBlock ≠ some m

/-- The map's entry is made. -/
theorem DAt.mid {B g b c m : Nat} {s : Dk} {vp : Value} {w w2 : World} (h : DAt B g b c m s vp w) (q : Nat) (l : List UInt8) (hm : MapIs eltInt m (s.waits.length + 1) (updI (lastF s.waits) (q : Int) (s.waits.length : Int)) w2) (hg : w.grownBy w2 (some m)) :
    Mid B g b c m s q l vp w2 := by
  have ap := h.apart
  have hsame : ∀ k, k ≠ m → k < w.heap.size → w2.heap[k]? = w.heap[k]? := fun k hk hl => hg.block k hl (fun e => hk (Option.some.inj e))
  refine ⟨h.base, ?_, h.hb, h.cap, h.dur.stay (hsame b (fun x => ap.2.2.1 x.symm) h.dur.lt), own_stay h.pend (fun k e => hsame k (fun x => ap.2.2.2.2.2 (by rw [e, x])) (h.pend.lt k e).2), h.hm, ?_, ap⟩
  · rw [hsame g (fun x => ap.2.1 x.symm) (h.lt g (Or.inl rfl)).2]; exact h.row
  · rw [← lastF_snoc s.waits (q, l)] at hm
    rw [List.length_append]; exact hm

theorem Mid.kept {B g b c m : Nat} {s : Dk} {q : Nat} {l : List UInt8} {vp : Value} {w w' : World} (h : Mid B g b c m s q l vp w) (k : Kept w w') : Mid B g b c m s q l vp w' :=
  ⟨h.base, by rw [k.block g (Array.getElem?_eq_some_iff.1 h.row).1]; exact h.row, h.hb, h.cap, h.dur.kept k, own_stay h.pend (fun j e => k.block j (h.pend.lt j e).2), h.hm, h.map.stay (k.block m h.map.lt), h.ap⟩

/-- What stands behind the append to the list, and what behind its store. -/
theorem Mid.done {B g b c m : Nat} {s : Dk} {q : Nat} {l : List UInt8} {vp : Value} {w2 W6 : World} (h : Mid B g b c m s q l vp w2) (k : Kept w2 W6) (_ : l.length = 128) {v' : Value} {w5 : World}
    (ho : w5.ownsRow B 141 129 v' (s.waits.length + 1) (wtB s.waits ++ wcell q l)) (hg : W6.grownBy w5 vp.ownBlock) (hw : v'.ownBlock = vp.ownBlock ∨ v'.ownBlock = some W6.heap.size) :
    DAt B g b c m ⟨s.stands, s.waits ++ [(q, l)], s.fuse, s.ops, s.down⟩ v' (w5.setCell ⟨g, 2, none⟩ v') ∧ (∀ j, v'.ownBlock = some j → vp.ownBlock = some j ∨ w2.heap.size ≤ j) ∧ ButBy (DBs g b m vp) w2 (w5.setCell ⟨g, 2, none⟩ v') ∧
      w5.cell? ⟨g, 2, none⟩ = some vp ∧ w5.frozen? ⟨g, 2, none⟩ = false ∧ ∀ j, j < w2.heap.size → ¬ DBs g b m vp j → w5.heap[j]? = w2.heap[j]? ∧ (w5.setCell ⟨g, 2, none⟩ v').heap[j]? = w2.heap[j]? := by
  have ap := h.ap
  have hsame : ∀ j, j < w2.heap.size → vp.ownBlock ≠ some j → w5.heap[j]? = w2.heap[j]? := fun j hj hn => (hg.block j (Nat.lt_of_lt_of_le hj k.size) (fun e => hn e.symm)).trans (k.block j hj)
  have hrow5 : w5.heap[g]? = some (.cells (dA g s b s.image.length c vp m) 115 (0, 0)) := by rw [hsame g (Array.getElem?_eq_some_iff.1 h.row).1 ap.2.2.2.1]; exact h.row
  have hgl := (Array.getElem?_eq_some_iff.1 h.row).1
  have hnew : ∀ j, v'.ownBlock = some j → vp.ownBlock = some j ∨ w2.heap.size ≤ j := fun j e => by
    rcases hw with x | x
    · rw [x] at e; exact Or.inl e
    · rw [x] at e
      have e2 := Option.some.inj e
      have := k.size
      exact Or.inr (by omega)
  have hng : ∀ j, v'.ownBlock = some j → j ≠ g ∧ j ≠ b ∧ j ≠ m := fun j e => by
    have hbl := h.dur.lt
    have hml := h.map.lt
    rcases hnew j e with x | x
    · exact ⟨fun y => ap.2.2.2.1 (by rw [x, y]), fun y => ap.2.2.2.2.1 (by rw [x, y]), fun y => ap.2.2.2.2.2 (by rw [x, y])⟩
    · exact ⟨by omega, by omega, by omega⟩
  refine ⟨⟨h.base, ?_, h.hb, h.cap, ?_, ?_, h.hm, ?_⟩, hnew, ?_, ?_, ?_, ?_⟩
  · rw [heap_setCell_same _ _ _ _ _ _ hrow5]; rfl
  · exact h.dur.stay ((set_other _ _ _ _ _ ap.1).trans (hsame b h.dur.lt ap.2.2.2.2.1))
  · refine own_stay (w := w5) ?_ (fun j e => set_other _ _ _ _ _ (hng j e).1)
    show w5.ownsRow B 141 129 v' (s.waits ++ [(q, l)]).length (wtB (s.waits ++ [(q, l)]))
    rw [List.length_append, wtB_append, wtB_single]
    exact ho
  · exact h.map.stay ((set_other _ _ _ _ _ ap.2.1).trans (hsame m h.map.lt ap.2.2.2.2.2))
  · have hb : ButBy (DBs g b m vp) w2 w5 := ⟨hg.os.trans k.os, hg.tape.trans k.tape, hg.output.trans k.output, Nat.le_trans k.size hg.size, fun j hj hn => hsame j hj (fun e => hn (Or.inr (Or.inr (Or.inr e))))⟩
    exact hb.setCell g 2 _ (Or.inl rfl)
  · rw [cell_of_row _ _ _ _ _ _ hrow5]; rfl
  · exact frozen_of_row _ _ _ _ _ hrow5
  · intro j hj hn
    have e := hsame j hj (fun e => hn (Or.inr (Or.inr (Or.inr e))))
    exact ⟨e, (set_other _ _ _ _ _ (fun x => hn (Or.inl x))).trans e⟩

end Go.Proofs.YtoigembmbajopaaDoor
namespace Go.Proofs.YtoigembmbajopaaDoor
open Go.RowKit

def isAggW : Value → Bool
  | .agg _ => true
  | _ => false
def aggW : Value → Nat
  | .agg cs => cs.size
  | _ => 0
theorem zeroPw0 : ((Tryd.prog.info? 141).bind (·.zero)).map (fun z => (isAggW z, aggW z)) = some (true, 129) := by kernel_rfl
theorem sizeU8 : (Tryd.prog.info? 5).map (·.size) = some 1 := by kernel_rfl
theorem infoPw0 : (Tryd.prog.info? 141).map (fun i => (i.zero.isSome, i.size, i.bytes)) = some (true, 129, 136) := by kernel_rfl
theorem sizePw : (Tryd.prog.info? 141).map (·.size) = some 129 := by kernel_rfl
/-- What a pending write is at first. -/
theorem infoPw : ∃ (i : TypeInfo) (Z : Array Value), Tryd.prog.info? 141 = some i ∧ i.zero = some (.agg Z) ∧ i.size = 129 ∧ i.bytes = 136 ∧ Z.size = 129 ∧ ∀ w, (zeroValue 141).run Tryd.prog w = .ok (.agg Z) w := by
  have h := zeroPw0
  have h2 := infoPw0
  cases hq : Tryd.prog.info? 141 with
  | none => rw [hq] at h; cases h
  | some i =>
    rw [hq] at h h2
    simp only [Option.bind_some] at h
    simp only [Option.map_some, Option.some.injEq, Prod.mk.injEq] at h2
    cases hz : i.zero with
    | none => rw [hz] at h; cases h
    | some z =>
      rw [hz] at h
      simp only [Option.map_some, Option.some.injEq, Prod.mk.injEq] at h
      cases z <;> simp only [isAggW, Bool.false_eq_true, false_and] at h
      rename_i cs
      refine ⟨i, cs, rfl, hz, h2.2.1, h2.2.2, h.2, fun w => ?_⟩
      simp [zeroValue, typeInfo, hq, hz]

theorem built_pw (q : Nat) : Tryd.prog.built 141 [(0, .int .i64 (q : Int))] = some (wcell q (List.replicate 128 0)).toArray := by kernel_rfl

/-- A text's bytes, laid into a pending write. -/
theorem wcell_laid (q : Nat) (t : ByteArray) (l : List UInt8) (h : t = str l) (hl : l.length = 128) : laidOver (wcell q (List.replicate 128 0)).toArray 1 (firstB t 128) = (wcell q l).toArray := by
  subst h
  have e : firstB (str l) 128 = l.map u8V := by
    unfold firstB
    rw [show (str l).data.toList = l from rfl, List.take_of_length_le (by omega)]
    rfl
  unfold laidOver
  rw [e, List.length_map, hl, List.drop_eq_nil_of_le (by show (wcell q (List.replicate 128 0)).length ≤ _; rw [wcell_len _ _ (by simp)]; omega), List.append_nil]
  rfl

section
variable {B g b c m : Nat} {s : Dk} {vp : Value} {w : World} (h : DAt B g b c m s vp w)
include h

set_option maxRecDepth 100000 in
set_option maxHeartbeats 1000000 in
/-- A write that is refused. -/
theorem dwrite_bad (hok : s.ok) (i : Int) (t : ByteArray) (hbad : s.bad i t.data.toList) :
    Calls Tryd.prog 64 #[.pointer (some ⟨g, 0, none⟩), .int .i64 i, .string t] w (DsPost B g b c m (s.writeS i t.data.toList) vp (.int .i64 (s.writeE i t.data.toList)) w) := by
  have RC := dreach_any h hok i
  have hts := str_len t
  obtain ⟨l, hl⟩ : ∃ l, l = t.data.toList := ⟨_, rfl⟩
  rw [← hl] at hts hbad ⊢
  have e2 : s.writeS i l = s := by unfold Dk.writeS; rw [if_pos hbad]
  rw [e2]
  have H := Lib.hid h
  by_cases hd : s.down = true ∨ s.out i
  · have e1 : s.writeE i l = s.readE i := by unfold Dk.writeE Dk.readE; split; · rfl
                                             rcases hd with x | x
                                             · contradiction
                                             · rw [if_pos x, if_pos x]
    have e3 : (s.readE i != 0) = true := by unfold Dk.readE; rw [bne_iff_ne]; split; · decide
                                            rcases hd with x | x
                                            · contradiction
                                            · rw [if_pos x]; decide
    rw [e1]
    obtain ⟨r, hr⟩ : ∃ r, r = s.readE i := ⟨_, rfl⟩
    rw [← hr] at RC e3 ⊢
    clear h hok e1 e2 hd hr hl hts hbad
    go_enter Tryd.func64, Tryd.ntmps64
    go_wp2_with fail
    refine RC.mono ?_
    rintro e w1 ⟨rfl, rfl⟩
    go_wp2
    go_ret
    exact ⟨rfl, vp, H.out, fun k hk => Or.inl hk, but_refl _ _⟩
  · have hd1 : ¬ s.down = true := fun x => hd (Or.inl x)
    have hd2 : ¬ s.out i := fun x => hd (Or.inr x)
    have h128 : l.length ≠ 128 := by
      rcases hbad with x | x | x
      · exact absurd x hd1
      · exact absurd x hd2
      · exact x
    have e1 : s.writeE i l = 1 := by unfold Dk.writeE; rw [if_neg hd1, if_neg hd2, if_pos h128]
    have e3 : s.readE i = 0 := by unfold Dk.readE; rw [if_neg hd1, if_neg hd2]
    rw [e1]
    rw [e3] at RC
    have b1 : ((t.size : Int) != 128) = true := by rw [bne_iff_ne]; omega
    clear h hok e1 e2 e3 hd hd1 hd2 hl hts hbad h128
    go_enter Tryd.func64, Tryd.ntmps64
    go_wp2_with fail
    refine RC.mono ?_
    rintro e w1 ⟨rfl, rfl⟩
    go_wp2
    go_ret
    exact ⟨rfl, vp, H.out, fun k hk => Or.inl hk, but_refl _ _⟩

set_option maxRecDepth 100000 in
set_option maxHeartbeats 1000000 in
theorem dwrite_fine (hok : s.ok) (hlo : s.ops ≤ 4294967295) (q : Nat) (hi : (Lit.int .i64 (q : Int)).wf = true) (t : ByteArray) (hbad : ¬ s.bad (q : Int) t.data.toList) :
    Calls Tryd.prog 64 #[.pointer (some ⟨g, 0, none⟩), .int .i64 (q : Int), .string t] w (DsPost B g b c m (s.writeS q t.data.toList) vp (.int .i64 (s.writeE q t.data.toList)) w) := by
  have RC := dreach_any h hok q
  have hts := str_len t
  have HT : Hid (t = str t.data.toList) := Lib.hid (str_of t).symm
  obtain ⟨l, hl⟩ : ∃ l, l = t.data.toList := ⟨_, rfl⟩
  rw [← hl] at hts HT hbad ⊢
  have hd : ¬ s.down = true := fun x => hbad (Or.inl x)
  have ho : ¬ s.out (q : Int) := fun x => hbad (Or.inr (Or.inl x))
  have h128 : l.length = 128 := Decidable.byContradiction fun x => hbad (Or.inr (Or.inr x))
  have e3 : s.readE q = 0 := by unfold Dk.readE; rw [if_neg hd, if_neg ho]
  rw [e3] at RC
  have e1 : s.writeE q l = if s.fuse = 0 then 90 else 0 := by unfold Dk.writeE; rw [if_neg hd, if_neg ho, if_neg (fun x => x h128)]
  have e2 : s.writeS q l = ({ s with waits := s.waits ++ [(q, l)] } : Dk).cut := by
    unfold Dk.writeS; rw [if_neg hbad, Int.toNat_natCast]
  rw [e1, e2]
  obtain ⟨rt, hrt⟩ : ∃ rt : Int, rt = if s.fuse = 0 then 90 else 0 := ⟨_, rfl⟩
  rw [← hrt]
  have HRT := Lib.hid hrt
  have b1 : ((t.size : Int) != 128) = false := by rw [bne_eq_false_iff_eq]; omega
  obtain ⟨iw, Z, hiw, hz0, hz1, hz2, hZ, hzv⟩ := infoPw
  have HIW := Lib.hid hiw
  have HZ0 := Lib.hid hz0
  have HZ1 := Lib.hid hz1
  have HZ2 := Lib.hid hz2
  have HZS : Hid ((Value.agg Z).cells.size = 129) := Lib.hid hZ
  have HB := Lib.hid (built_pw q)
  have HLD := Lib.hid (wcell_laid q t l HT.out h128)
  obtain ⟨D, hD⟩ : ∃ D, D = (wcell q (List.replicate 128 0)).toArray := ⟨_, rfl⟩
  have hDs : D.size = 129 := by rw [hD, List.size_toArray, wcell_len _ _ (by simp)]
  have hDo : D.all (·.oneCell') = true := by rw [hD]; exact all_oneCell_toArray (wcell_one _ _)
  rw [← hD] at HB HLD
  obtain ⟨F, hF⟩ : ∃ F, F = (wcell q l).toArray := ⟨_, rfl⟩
  have HF := Lib.hid hF
  rw [← hF] at HLD
  have HFI : Hid ((Tryd.prog.info? 141).map (·.size) = some D.size) := by rw [hDs]; exact sizePw
  have HUS : Hid (Z.size = D.size) := Lib.hid (by rw [hZ, hDs])
  have HON := Lib.hid hDo
  have HDS := Lib.hid hDs
  have HTS : Hid (Nat.min t.size 128 = 128) := Lib.hid (by rw [← hts, h128]; rfl)
  have HDF : Hid (1 + 128 ≤ D.size) := Lib.hid (by rw [hDs]; omega)
  have hFl : F.toList = wcell q l := by rw [hF]
  have hFs : F.size = 129 := by rw [hF, List.size_toArray, wcell_len _ _ h128]
  have HFS := Lib.hid hFs
  have HFO : Hid (∀ x ∈ F.toList, x.oneCell' = true) := Lib.hid (by rw [hFl]; exact wcell_one q l)
  have HFL := Lib.hid hFl
  have H128 := Lib.hid h128
  have hk40 : s.waits.length ≤ 4294967295 := Nat.le_trans hok.few hlo
  have HLO := Lib.hid hlo
  have HFZ := Lib.hid hok.fz
  have h3 := h.kept (box_below w (.cells F 141))
  have hbx : Hid (ButBy (DBs g b m vp) w (w.alloc (.cells F 141))) := Lib.hid (ButBy.below (box_below w _))
  have hlb : ¬ DBs g b m vp w.heap.size := fun x => by have := (h.lt _ x).2; omega
  have HLB := Lib.hid hlb
  have hrow3 := heap_alloc_last w (.cells F 141)
  have hsz3 : (w.alloc (.cells F 141)).heap.size = w.heap.size + 1 := by simp
  obtain ⟨W3, hW3⟩ : ∃ W3, W3 = w.alloc (.cells F 141) := ⟨_, rfl⟩
  have HW3 := Lib.hid hW3
  rw [← hW3] at h3 hbx hrow3 hsz3
  obtain ⟨lb, hlbe⟩ : ∃ lb, lb = w.heap.size := ⟨_, rfl⟩
  have HLBE := Lib.hid hlbe
  rw [← hlbe] at hrow3 hsz3 HLB hlb
  have c3 : W3.cell? ⟨g, 3, none⟩ = some (.map (some m)) := h3.cell 3 _ rfl
  have c2 : W3.cell? ⟨g, 2, none⟩ = some vp := h3.cell 2 _ rfl
  obtain ⟨p, cp, hvp, -, -⟩ := own_slice h3.pend
  have hdr : DAt B g b c m s vp W3.drew := h3.stay (fun _ _ => rfl)
  obtain ⟨w2, hmu, hmap2, hg2, -⟩ := hdr.map.set Tryd.underlying113 (by unfold maxLen; omega) hi (x := (s.waits.length : Int)) (by
    simp only [eltInt, Lit.wf, IntKind.min, IntKind.max, IntKind.signed, IntKind.bits, Bool.and_eq_true, decide_eq_true_eq, if_true]; omega)
  have hmu2 : (Instr.mapUpdate 113 (.map (some m)) (.int .i64 (q : Int)) (.int .i64 (s.waits.length : Int))).run Tryd.prog W3.drew = .ok () w2 := hmu
  have M2 := hdr.mid q l hmap2 hg2
  have hrow2 : w2.heap[lb]? = some (.cells F 141 (0, 0)) := by
    rw [hg2.block lb (by show lb < W3.heap.size; omega) (fun e => hlb (Or.inr (Or.inr (Or.inl (Option.some.inj e)))))]; exact hrow3
  have hlb2 : lb < w2.heap.size := (Array.getElem?_eq_some_iff.1 hrow2).1
  have hbut2 : ButBy (DBs g b m vp) w w2 := hbx.out.trans ⟨hg2.os, hg2.tape, hg2.output, hg2.size, fun j hj hn => hg2.block j hj (fun e => hn (Or.inr (Or.inr (Or.inl (Option.some.inj e)))))⟩
  have hB2 : B ≤ w2.heap.size := by have := M2.base; have := (Array.getElem?_eq_some_iff.1 M2.row).1; omega
  obtain ⟨W5, hW5⟩ : ∃ W5, W5 = w2.drew := ⟨_, rfl⟩
  have K5 : Kept w2 W5 := by rw [hW5]; exact (Below.refl _ _).drew
  have K6 : Kept w2 (W5.alloc (.cells F 141)) := K5.then (box_below _ _)
  have M6 := M2.kept K6
  have d2 : W5.cell? ⟨g, 2, none⟩ = some vp := by rw [cell_of_row _ _ _ _ _ _ (M2.kept K5).row]; rfl
  have d2' : (W5.alloc (.cells F 141)).cell? ⟨g, 2, none⟩ = some vp := by rw [cell_of_row _ _ _ _ _ _ M6.row]; rfl
  rw [hvp] at c2 d2 d2'
  have HOWN : Hid ((W5.alloc (.cells F 141)).ownsRow B 141 129 (.slice p s.waits.length cp) s.waits.length (wtB s.waits)) := Lib.hid (by have h := M6.pend; rw [hvp] at h; exact h)
  have HFN : Hid (FlatAt 129 1 F.toList (.slice (some ⟨W5.heap.size, 0, none⟩) 1 1) (W5.alloc (.cells F 141))) := Lib.hid (FlatAt.new W5 141 129 1 1 F (by rw [hFs]) (by rw [hFl]; exact wcell_one q l))
  have hS5 : W5.heap[lb]? = some (.cells F 141 (0, 0)) := by rw [K5.block lb hlb2]; exact hrow2
  have HS5 := Lib.hid hS5
  have HS6 : Hid ((W5.alloc (.cells F 141)).heap[lb]? = some (.cells F 141 (0, 0))) := Lib.hid (by rw [K6.block lb hlb2]; exact hrow2)
  have hvb : (Value.slice p s.waits.length cp).ownBlock = vp.ownBlock := by rw [hvp]
  have HEND : Hid (∀ (v' : Value) (w5 : World), w5.ownsRow B 141 129 v' (s.waits.length + 1) (wtB s.waits ++ F.toList) → (W5.alloc (.cells F 141)).grownBy w5 (Value.slice p s.waits.length cp).ownBlock → (v'.ownBlock = (Value.slice p s.waits.length cp).ownBlock ∨ v'.ownBlock = some (W5.alloc (.cells F 141)).heap.size) →
      (w5.cell? ⟨g, 2, none⟩ = some (.slice p s.waits.length cp) ∧ w5.frozen? ⟨g, 2, none⟩ = false) ∧ Hid (w5.heap[lb]? = some (.cells F 141 (0, 0))) ∧ Hid ((w5.setCell ⟨g, 2, none⟩ v').heap[lb]? = some (.cells F 141 (0, 0))) ∧
      Calls Tryd.prog 78 #[.pointer (some ⟨g, 0, none⟩)] (w5.setCell ⟨g, 2, none⟩ v') (fun e w' => e = .returned (.int .i64 rt) ∧ Hid (DsPost B g b c m (({ s with waits := s.waits ++ [(q, l)] } : Dk).cut) vp (.int .i64 rt) w (.returned (.int .i64 rt)) w'))) := Lib.hid (by
    intro v' w5 ho hgr hwh
    rw [hvb] at hgr hwh
    rw [hFl] at ho
    obtain ⟨r4, hnew, hb3, h1, h2, h3⟩ := M2.done K6 H128.out ho hgr hwh
    refine ⟨⟨by rw [h1, hvp], h2⟩, Lib.hid (by rw [(h3 lb hlb2 hlb).1]; exact hrow2), Lib.hid (by rw [(h3 lb hlb2 hlb).2]; exact hrow2), ?_⟩
    refine (dcut_any r4 (Nat.le_trans HLO.out (by omega)) HFZ.out).mono ?_
    rintro e w9 ⟨rfl, r5, hb5⟩
    refine ⟨by rw [HRT.out], Lib.hid ⟨rfl, v', r5, fun j e => (hnew j e).imp id (fun x => Nat.le_trans hbut2.size x), (hbut2.trans hb3).trans (hb5.mono (fun j hj => Or.inl hj))⟩⟩)
  obtain ⟨k, hk⟩ : ∃ k, k = s.waits.length := ⟨_, rfl⟩
  rw [← hk] at hmu2 hk40 c2 d2 d2' HOWN HEND
  obtain ⟨xs, hxs⟩ : ∃ xs, xs = wtB s.waits := ⟨_, rfl⟩
  rw [← hxs] at HOWN HEND
  obtain ⟨DK, hDK⟩ : ∃ DK : Dk, DK = ({ s with waits := s.waits ++ [(q, l)] } : Dk).cut := ⟨_, rfl⟩
  rw [← hDK] at HEND ⊢
  have HB2 := Lib.hid hB2
  have HC2 : Hid (w2.cell? ⟨g, 3, none⟩ = some (.map (some m)) ∧ w2.cell? ⟨g, 2, none⟩ = some (.slice p k cp)) := Lib.hid (by rw [cell_of_row _ _ _ _ _ _ M2.row, cell_of_row _ _ _ _ _ _ M2.row]; exact ⟨rfl, congrArg some (hvp.trans (by rw [hk]))⟩)
  have HSZ6 : Hid (w2.heap.size ≤ (W5.alloc (.cells F 141)).heap.size) := Lib.hid K6.size
  have HW5 := Lib.hid hW5
  clear hW5 hk hxs hDK hvp hvb hS5 M6 M2 K6 K5 hbut2 hlb2 hrow2 hg2 hmap2 hmu hdr h3 hbx hlb hrow3 hsz3 h hW3 hB2 HFZ HLO HRT hlbe hFl hFs H128 HFL
  clear hDs hDo hD hF hiw hz0 hz1 hz2 hZ hrt e1 e2 e3 hd ho hbad hl hts h128 hok hlo HF HT
  go_enter Tryd.func64, Tryd.ntmps64
  go_wp2_with fail
  refine RC.mono ?_
  rintro e w1 ⟨rfl, rfl⟩
  go_wp2_with (first
    | (with_reducible refine wpList_built rfl _ _ rfl [(0, .int .i64 (q : Int))] ?hpsB D HB.out ?_)
    | ((with_reducible refine wpList_store_row rfl _ _ _ rfl w.heap.size D rfl rfl 141 _ (heap_alloc_last w _) HFI.out HUS.out HON.out ?_); rw [World.setRow_alloc_new])
    | ((with_reducible refine wpList_copy_str rfl _ _ _ _ rfl 5 Tryd.underlying46 sizeU8 w.heap.size 1 128 128 t rfl rfl D 141 (heap_alloc_last w _) 128 HTS.out HDF.out F HLD.out ?_); rw [World.setRow_alloc_new, ← HW3.out]))
  refine wp_region_held_drew (S := fun w' => w'.cell? ⟨g, 3, none⟩ = some (.map (some m)) ∧ w'.cell? ⟨g, 2, none⟩ = some (.slice p k cp)) (by kernel_rfl) ⟨c3, c2⟩ (fun hHeld => ?_)
  refine wpAnyH_take (i := 0) (v := ?_) rfl (by kernel_rfl) (by kernel_rfl) (by kernel_rfl) (fun _ _ _ h => h) (Or.inl ⟨by first | kernel_rfl | rfl, ?_⟩) (by assumption) ?_
  case refine_2 => intro w hSw; go_simp; try with_reducible rfl
  refine wpAnyH_take (i := 1) (v := ?_) rfl (by kernel_rfl) (by kernel_rfl) (by kernel_rfl) (fun _ _ _ h => h) (Or.inl ⟨by first | kernel_rfl | rfl, ?_⟩) (by assumption) ?_
  case refine_2 => intro w hSw; go_simp; try with_reducible rfl
  refine wpAnyH_take (i := 2) (v := ?_) rfl (by kernel_rfl) (by kernel_rfl) (by kernel_rfl) (fun _ _ _ h => h) (Or.inl ⟨by first | kernel_rfl | rfl, ?_⟩) (by assumption) ?_
  case refine_2 => intro w hSw; go_simp; try with_reducible rfl
  refine wpAnyH_take (i := 3) (v := ?_) rfl (by kernel_rfl) (by kernel_rfl) (by kernel_rfl) (fun _ _ _ h => h) (Or.inl ⟨by first | kernel_rfl | rfl, ?_⟩) (by assumption) ?_
  case refine_2 => intro w hSw; have hs1 := hSw.1; have hs2 := hSw.2; clear hSw; go_simp; try with_reducible rfl
  refine wpAnyH_take (i := 4) (v := ?_) rfl (by kernel_rfl) (by kernel_rfl) (by kernel_rfl) (fun _ _ _ h => h) (Or.inl ⟨by first | kernel_rfl | rfl, ?_⟩) (by assumption) ?_
  case refine_2 => intro w hSw; go_simp; try with_reducible rfl
  refine wpAnyH_take (i := 5) (v := ?_) rfl (by kernel_rfl) (by kernel_rfl) (by kernel_rfl) (fun _ _ _ h => h) (Or.inl ⟨by first | kernel_rfl | rfl, ?_⟩) (by assumption) ?_
  case refine_2 => intro w hSw; go_simp; try with_reducible rfl
  refine wpAnyH_take (i := 6) (v := ?_) rfl (by kernel_rfl) (by kernel_rfl) (by kernel_rfl) (fun _ _ _ h => h) (Or.inl ⟨by first | kernel_rfl | rfl, ?_⟩) (by assumption) ?_
  case refine_2 => intro w hSw; go_simp; try with_reducible rfl
  refine wpAnyH_take (i := 7) (v := ?_) rfl (by kernel_rfl) (by kernel_rfl) (by kernel_rfl) (fun _ _ _ h => h) (Or.inl ⟨by first | kernel_rfl | rfl, ?_⟩) (by assumption) ?_
  case refine_2 => intro w hSw; go_simp; try with_reducible rfl
  refine wpAnyH_take (i := 8) (v := ?_) rfl (by kernel_rfl) (by kernel_rfl) (by kernel_rfl) (fun _ _ _ h => h) (Or.inl ⟨by first | kernel_rfl | rfl, ?_⟩) (by assumption) ?_
  case refine_2 => intro w hSw; have hs1 := hSw.1; have hs2 := hSw.2; clear hSw; go_simp; try with_reducible rfl
  refine wpAnyH_take (i := 9) (v := ?_) rfl (by kernel_rfl) (by kernel_rfl) (by kernel_rfl) (fun _ _ _ h => h) (Or.inl ⟨by first | kernel_rfl | rfl, ?_⟩) (by assumption) ?_
  case refine_2 => intro w hSw; go_simp; try with_reducible rfl
  refine wpAnyH_ready (rs := [10]) (by kernel_rfl) (by simp) (AllReadyH.cons rfl (fun K hK => ?_) AllReadyH.nil)
  go_simp
  refine hK.out _ _ HC2.out (fun _ => ?_)
  clear hK K
  refine wpAnyH_done (by kernel_rfl) ?_ _
  clear hmu2 hHeld
  go_wp2_with fail
  rw [← HLBE.out]
  go_wp2_with fail
  refine wp_region_held_drew (S := fun w' => w'.heap[lb]? = some (.cells F 141 (0, 0))) (by kernel_rfl) (by show w2.drew.heap[_]? = _; rw [← HW5.out]; exact HS5.out) (fun hHeld => ?_)
  rw [← HW5.out]
  refine wpAnyH_take (i := 0) (v := ?_) rfl (by kernel_rfl) (by kernel_rfl) (by kernel_rfl) (fun _ _ _ h => h) (Or.inl ⟨by first | kernel_rfl | rfl, ?_⟩) (by assumption) ?_
  case refine_2 => intro w hSw; go_simp; try with_reducible rfl
  refine wpAnyH_take (i := 1) (v := ?_) rfl (by kernel_rfl) (by kernel_rfl) (by kernel_rfl) (fun _ _ _ h => h) (Or.inl ⟨by first | kernel_rfl | rfl, ?_⟩) (by assumption) ?_
  case refine_2 => intro w hSw; go_simp; try with_reducible rfl
  refine wpAnyH_take (i := 2) (v := ?_) rfl (by kernel_rfl) (by kernel_rfl) (by kernel_rfl) (fun _ _ _ h => h) (Or.inl ⟨by first | kernel_rfl | rfl, ?_⟩) (by assumption) ?_
  case refine_2 => intro w hSw; go_simp; try with_reducible rfl
  refine wpAnyH_take (i := 3) (v := ?_) rfl (by kernel_rfl) (by kernel_rfl) (by kernel_rfl) (fun _ _ _ h => h) (Or.inl ⟨by first | kernel_rfl | rfl, ?_⟩) (by assumption) ?_
  case refine_2 => intro w hSw; go_simp; try with_reducible rfl
  refine wpAnyH_take (i := 5) (v := .agg F) rfl (by kernel_rfl) (by kernel_rfl) (by kernel_rfl) (fun _ _ _ h => h) (yieldsIf_load_mid (by first | kernel_rfl | rfl) _ _ rfl lb 0 (by rfl) F.toList _ (fun _ h => range_of_row h) Tryd.underlying141 rfl (by rw [Array.length_toList, HFS.out]; exact sizePw)) (by assumption) ?_
  refine wpAnyH_ready (rs := [4, 6]) (by kernel_rfl) (by simp) (AllReadyH.cons rfl (fun K hK => ?_) (AllReadyH.cons rfl (fun K hK => ?_) AllReadyH.nil))
  · go_simp
    refine hK.out _ _ HS5.out (fun _ => ?_)
    clear hK K
    refine wpAnyH_ready (rs := [6]) (by kernel_rfl) (by simp) (AllReadyH.cons rfl (fun K hK => ?_) AllReadyH.nil)
    rw [if_pos (by rfl)]
    refine wp_buildN_one 112 141 _ rfl F rfl iw (.agg Z) 129 Tryd.underlying112 HIW.out HZ0.out HZ1.out (by decide) (by decide) HFS.out ?_
    refine hK.out _ _ HS6.out (fun _ => ?_)
    clear hK K
    refine wpAnyH_ready (rs := [7]) (by kernel_rfl) (by simp) (AllReadyH.cons rfl (fun K hK => ?_) AllReadyH.nil)
    rw [if_pos (by rfl)]
    refine wp_append_flat _ _ 112 rfl B 141 iw (.agg Z) 129 136 Tryd.underlying112 HIW.out HZ0.out HZ1.out HZ2.out HZS.out (by decide) _ k xs rfl HOWN.out _ 1 F.toList rfl HFN.out ?q1 ?q2 ?q3 ?_
    case q1 => unfold maxLen; omega
    case q2 => omega
    case q3 => have := HB2.out; have := HSZ6.out; omega
    intro v' w4 hown4 hg4 hw4
    obtain ⟨⟨fc, ff⟩, hs1, hs2, OP⟩ := HEND.out v' w4 hown4 hg4 hw4
    obtain ⟨pv, cv, rfl, -, -⟩ := own_slice hown4
    clear hown4 hg4 hw4
    refine hK.out _ _ hs1.out (fun _ => ?_)
    clear hK K
    refine wpAnyH_take (i := 8) (v := ?_) rfl (by kernel_rfl) (by kernel_rfl) (by kernel_rfl) (fun _ _ _ h => h) (Or.inl ⟨by first | kernel_rfl | rfl, ?_⟩) (by assumption) ?_
    case refine_2 => intro w hSw; go_simp; try with_reducible rfl
    refine wpAnyH_take (i := 9) (v := ?_) rfl (by kernel_rfl) (by kernel_rfl) (by kernel_rfl) (fun _ _ _ h => h) (Or.inl ⟨by first | kernel_rfl | rfl, ?_⟩) (by assumption) ?_
    case refine_2 => intro w hSw; go_simp; try with_reducible rfl
    refine wpAnyH_ready (rs := [10]) (by kernel_rfl) (by simp) (AllReadyH.cons rfl (fun K hK => ?_) AllReadyH.nil)
    go_simp
    refine hK.out _ _ hs2.out (fun _ => ?_)
    clear hK K
    refine wpAnyH_done (by kernel_rfl) ?_ _
    go_wp2_with fail
    refine OP.mono ?_
    rintro e w9 ⟨rfl, FIN⟩
    go_wp2
    go_ret
    exact FIN.out
  · rw [if_pos (by rfl)]
    refine wp_buildN_one 112 141 _ rfl F rfl iw (.agg Z) 129 Tryd.underlying112 HIW.out HZ0.out HZ1.out (by decide) (by decide) HFS.out ?_
    refine hK.out _ _ HS6.out (fun _ => ?_)
    clear hK K
    refine wpAnyH_ready (rs := [4]) (by kernel_rfl) (by simp) (AllReadyH.cons rfl (fun K hK => ?_) AllReadyH.nil)
    go_simp
    refine hK.out _ _ HS6.out (fun _ => ?_)
    clear hK K
    refine wpAnyH_ready (rs := [7]) (by kernel_rfl) (by simp) (AllReadyH.cons rfl (fun K hK => ?_) AllReadyH.nil)
    rw [if_pos (by rfl)]
    refine wp_append_flat _ _ 112 rfl B 141 iw (.agg Z) 129 136 Tryd.underlying112 HIW.out HZ0.out HZ1.out HZ2.out HZS.out (by decide) _ k xs rfl HOWN.out _ 1 F.toList rfl HFN.out ?q1 ?q2 ?q3 ?_
    case q1 => unfold maxLen; omega
    case q2 => omega
    case q3 => have := HB2.out; have := HSZ6.out; omega
    intro v' w4 hown4 hg4 hw4
    obtain ⟨⟨fc, ff⟩, hs1, hs2, OP⟩ := HEND.out v' w4 hown4 hg4 hw4
    obtain ⟨pv, cv, rfl, -, -⟩ := own_slice hown4
    clear hown4 hg4 hw4
    refine hK.out _ _ hs1.out (fun _ => ?_)
    clear hK K
    refine wpAnyH_take (i := 8) (v := ?_) rfl (by kernel_rfl) (by kernel_rfl) (by kernel_rfl) (fun _ _ _ h => h) (Or.inl ⟨by first | kernel_rfl | rfl, ?_⟩) (by assumption) ?_
    case refine_2 => intro w hSw; go_simp; try with_reducible rfl
    refine wpAnyH_take (i := 9) (v := ?_) rfl (by kernel_rfl) (by kernel_rfl) (by kernel_rfl) (fun _ _ _ h => h) (Or.inl ⟨by first | kernel_rfl | rfl, ?_⟩) (by assumption) ?_
    case refine_2 => intro w hSw; go_simp; try with_reducible rfl
    refine wpAnyH_ready (rs := [10]) (by kernel_rfl) (by simp) (AllReadyH.cons rfl (fun K hK => ?_) AllReadyH.nil)
    go_simp
    refine hK.out _ _ hs2.out (fun _ => ?_)
    clear hK K
    refine wpAnyH_done (by kernel_rfl) ?_ _
    go_wp2_with fail
    refine OP.mono ?_
    rintro e w9 ⟨rfl, FIN⟩
    go_wp2
    go_ret
    exact FIN.out
theorem dwrite_any (hok : s.ok) (hlo : s.ops ≤ 4294967295) (i : Int) (hi : (Lit.int .i64 i).wf = true) (t : ByteArray) :
    Calls Tryd.prog 64 #[.pointer (some ⟨g, 0, none⟩), .int .i64 i, .string t] w (DsPost B g b c m (s.writeS i t.data.toList) vp (.int .i64 (s.writeE i t.data.toList)) w) := by
  by_cases hbad : s.bad i t.data.toList
  · exact dwrite_bad h hok i t hbad
  · obtain ⟨q, rfl⟩ : ∃ q : Nat, i = q := ⟨i.toNat, by
      have ho : ¬ s.out i := fun x => hbad (Or.inr (Or.inl x))
      unfold Dk.out at ho
      omega⟩
    exact dwrite_fine h hok hlo q hi t hbad
end

end Go.Proofs.YtoigembmbajopaaDoor
namespace Go.Proofs.YtoigembmbajopaaDoor
open Go.RowKit

set_option maxRecDepth 100000 in
theorem keepAll_any (k : Nat) (w : World) : Calls Tryd.prog 79 #[.int .i64 (k : Int)] w fun e w' => e = .returned (.bool true) ∧ w = w' := by
  go_enter Tryd.func79, Tryd.ntmps79
  go_wp2
  go_ret
  exact ⟨rfl, rfl⟩

def keptV (gb : Nat) : Value := .func (.func 104) #[] #[.pointer (some ⟨gb, 0, none⟩)]

set_option maxRecDepth 100000 in
theorem keptBy_any (kv : Value) (p : Option Addr) (n c : Nat) (hkv : kv = .slice p n c) (w : World) : Calls Tryd.prog 75 #[kv] w fun e w' => e = .returned (keptV w.heap.size) ∧ w' = w.alloc (.cells #[kv] 47) := by
  subst hkv
  go_enter Tryd.func75, Tryd.ntmps75
  go_wp2
  go_ret
  exact ⟨rfl, rfl⟩

set_option maxRecDepth 100000 in
set_option maxHeartbeats 1000000 in
theorem kept1_any (gb : Nat) (l : List Bool) (kv : Value) (k : Nat) (w : World) (hr : w.heap[gb]? = some (.cells #[kv] 47 (0, 0))) (hkv : BoolAt l kv w) :
    Calls Tryd.prog 104 #[.int .i64 (k : Int), .pointer (some ⟨gb, 0, none⟩)] w fun e w' => e = .returned (.bool (keepL l k)) ∧ w = w' := by
  have c0 : w.cell? ⟨gb, 0, none⟩ = some kv := by rw [cell_of_row _ _ _ _ _ _ hr]; rfl
  obtain ⟨p, c, rfl, hc⟩ := hkv
  clear hr
  by_cases hk : k < l.length
  · rcases hc with h0 | ⟨b, off, rfl, hcell⟩
    · rw [h0] at hk; simp at hk
    have ck := hcell k hk
    have e1 : keepL l k = l.getD k false := rfl
    rw [e1]
    obtain ⟨x, hx⟩ : ∃ x, x = l.getD k false := ⟨_, rfl⟩
    rw [← hx] at ck ⊢
    obtain ⟨n, hn⟩ : ∃ n, n = l.length := ⟨_, rfl⟩
    rw [← hn] at c0 hk
    have i1 : (k : Int) < n := by omega
    have i2 : (0 : Int) ≤ k := by omega
    clear hcell hx hn e1
    go_enter Tryd.func104, Tryd.ntmps104
    go_wp2
    go_ret
    exact ⟨rfl, rfl⟩
  · have e1 : keepL l k = false := by unfold keepL; rw [List.getD_eq_getElem?_getD, List.getElem?_eq_none (by omega)]; rfl
    rw [e1]
    obtain ⟨n, hn⟩ : ∃ n, n = l.length := ⟨_, rfl⟩
    rw [← hn] at c0 hk
    have i1 : ¬ (k : Int) < n := by omega
    clear hc hn e1
    go_enter Tryd.func104, Tryd.ntmps104
    go_wp2
    go_ret
    exact ⟨rfl, rfl⟩

/-- What decides which writes survive. -/
def FnOk (B b : Nat) (keep : Nat → Bool) (fv : Value) (w : World) : Prop :=
  (keep = keepAll ∧ fv = .func (.func 79) #[] #[]) ∨
  ∃ gb l kv, keep = keepL l ∧ fv = keptV gb ∧ gb ≠ b ∧ w.heap[gb]? = some (.cells #[kv] 47 (0, 0)) ∧ ∀ w', w.heap.size ≤ w'.heap.size → (∀ k, k < B → k < w.heap.size → w'.heap[k]? = w.heap[k]?) → BoolAt l kv w'

/-- A disk some of whose pending writes stand already. -/
def midS (keep : Nat → Bool) (s : Dk) (k : Nat) : Dk := ⟨standK keep s.stands s.waits k, s.waits, s.fuse, s.ops, s.down⟩

theorem midS_ok {s : Dk} (h : s.ok) (keep : Nat → Bool) (k : Nat) (hk : k ≤ s.waits.length) : (midS keep s k).ok := by
  have hl := standK_len keep s.stands s.waits k
  exact ⟨standK_sect keep s.stands s.waits h.sect (fun p hp => (h.wait p hp).2) k hk, by show 1 ≤ (standK keep s.stands s.waits k).length; rw [hl]; exact h.pos, by show (standK keep s.stands s.waits k).length ≤ 8192; rw [hl]; exact h.most, fun p hp => by show p.1 < (standK keep s.stands s.waits k).length ∧ _; rw [hl]; exact h.wait p hp, h.few, h.fz⟩

theorem DAt.midS {B g b c m : Nat} {s : Dk} {vp : Value} {w wx : World} (h : DAt B g b c m s vp w) (hok : s.ok) (keep : Nat → Bool) (k : Nat) (hk : k ≤ s.waits.length) (hd : BytesAt b (standK keep s.stands s.waits k).flatten wx) (hb : ButBy (fun j => j = b) w wx) : DAt B g b c m (midS keep s k) vp wx := by
  have ap := h.apart
  have hi : (Proofs.YtoigembmbajopaaDoor.midS keep s k).image.length = s.image.length := by rw [(midS_ok hok keep k hk).image_len, hok.image_len]; show 128 * (standK keep s.stands s.waits k).length = _; rw [standK_len]
  refine ⟨h.base, ?_, h.hb, by rw [hi]; exact h.cap, hd, own_stay h.pend (fun j e => hb.block j (h.pend.lt j e).2 (fun x => ap.2.2.2.2.1 (by rw [e, x]))), h.hm, h.map.stay (hb.block m h.map.lt ap.2.2.1)⟩
  rw [hb.block g (h.lt g (Or.inl rfl)).2 (fun x => ap.1 x.symm), h.row, hi]
  rfl

set_option maxRecDepth 100000 in
set_option maxHeartbeats 4000000 in
theorem dsettle_any {B g b c m : Nat} {s : Dk} {vp : Value} {w : World} (h : DAt B g b c m s vp w) (hok : s.ok) (hlo : s.ops ≤ 4294967296) (keep : Nat → Bool) (fv : Value) (hf : FnOk B b keep fv w) :
    Calls Tryd.prog 74 #[.pointer (some ⟨g, 0, none⟩), fv] w (DsPost B g b c m (s.stand keep) vp (.tuple #[]) w) := by
  obtain ⟨p, cp, hvp, -, hcp⟩ := own_slice h.pend
  have c2 : w.cell? ⟨g, 2, none⟩ = some vp := h.cell 2 _ rfl
  rw [hvp] at c2
  have hml : s.waits.length ≤ 4294967296 := Nat.le_trans hok.few hlo
  have HH := Lib.hid h
  have HOK := Lib.hid hok
  obtain ⟨ws, hws⟩ : ∃ ws, ws = s.waits := ⟨_, rfl⟩
  have HWS := Lib.hid hws
  rw [← hws] at c2 hml hcp
  obtain ⟨n, hn⟩ : ∃ n, n = ws.length := ⟨_, rfl⟩
  have HN := Lib.hid hn
  rw [← hn] at c2 hml hcp
  obtain ⟨st, hst⟩ : ∃ st, st = s.stands := ⟨_, rfl⟩
  have HST := Lib.hid hst
  obtain ⟨sN, hsN⟩ : ∃ sN, sN = s.stand keep := ⟨_, rfl⟩
  rw [← hsN]
  have HSN := Lib.hid hsN
  obtain ⟨L, hL⟩ : ∃ L, L = s.image.length := ⟨_, rfl⟩
  have HL := Lib.hid hL
  have hLb : L ≤ 1048576 := by rw [hL, hok.image_len]; have := hok.most; omega
  have D0 : Hid (BytesAt b (standK keep st ws 0).flatten w) := Lib.hid (by rw [hst]; exact h.dur)
  have B0 : Hid (ButBy (fun j => j = b) w w) := Lib.hid (but_refl _ w)
  have HCP := Lib.hid hcp
  obtain ⟨iw, Z, -, -, -, -, hZ, hzv⟩ := infoPw
  have HZS := Lib.hid hZ
  clear hZ
  have hbl : b < w.heap.size := h.dur.lt
  have hCK : ∃ F ex, fv = .func (.func F) #[] ex ∧ (F = 79 ∧ ex = #[] ∨ F = 104 ∧ ∃ gb, ex = #[.pointer (some ⟨gb, 0, none⟩)]) ∧ ∀ W, ButBy (fun j => j = b) w W → ∀ k : Nat, Calls Tryd.prog F (#[.int .i64 (k : Int)] ++ ex) W fun e w' => e = .returned (.bool (keep k)) ∧ W = w' := by
    rcases hf with ⟨rfl, rfl⟩ | ⟨gb, l, kv, rfl, rfl, hgb, hrow, hbo⟩
    · exact ⟨_, _, rfl, Or.inl ⟨rfl, rfl⟩, fun W _ k => keepAll_any k W⟩
    · refine ⟨_, _, rfl, Or.inr ⟨rfl, gb, rfl⟩, fun W hW k => kept1_any gb l kv k W ?_ (hbo W hW.size (fun j hj hl => hW.block j hl (by have := h.hb; omega)))⟩
      rw [hW.block gb (Array.getElem?_eq_some_iff.1 hrow).1 hgb]; exact hrow
  obtain ⟨F, ex, rfl, hform, CK⟩ := hCK
  have HCK := Lib.hid CK
  have HVP := Lib.hid hvp
  clear hsN hst hn hws h hok hvp hcp hlo hf hL CK
  rcases hform with ⟨rfl, rfl⟩ | ⟨rfl, gb, rfl⟩
  all_goals
    go_enter Tryd.func74, Tryd.ntmps74
    go_wp2
    go_loopg [11] n (fun gh s11 wx => ∃ k : Nat, k + gh = n ∧ s11 = .int .i64 k ∧ Hid (BytesAt b (standK keep st ws k).flatten wx) ∧ Hid (ButBy (fun j => j = b) w wx))
    case atStart => exact ⟨0, by omega, rfl, D0, B0⟩
    case round =>
      clear D0 B0
      obtain ⟨k, hkg, rfl, HD, HB⟩ := hrel
      have ap := HH.out.apart
      have hrowg : wr.heap[g]? = some (.cells (dA g s b s.image.length c vp m) 115 (0, 0)) := by rw [HB.out.block g (HH.out.lt g (Or.inl rfl)).2 (fun x => ap.1 x.symm)]; exact HH.out.row
      by_cases hkn : k < n
      · have hki : (k : Int) < n := by omega
        have hki0 : (0 : Int) ≤ k := by omega
        have bk : decide ((k : Int) < (n : Int)) = true := by simpa using hki
        have hkl : k < ws.length := by rw [← HN.out]; exact hkn
        have hwk := HOK.out.wait ws[k] (by rw [← HWS.out]; exact List.getElem_mem hkl)
        have hwl : ∀ p ∈ ws, p.2.length = 128 := fun p hp => (HOK.out.wait p (by rw [← HWS.out]; exact hp)).2
        obtain ⟨gp, cp', cur, hvp', -, hgc, -, hcs, hext, hc0, hcb⟩ := own_cut (ws := ws) (n := n) (by have h := HH.out.pend; rw [← HWS.out, ← HN.out] at h; exact h) HN.out hwl k hkl
        have hgpb : gp ≠ b := fun y => ap.2.2.2.2.1 (by rw [hvp', y]; rfl)
        have hgr : wr.heap[gp]? = some (.cells cur 141 (0, 0)) := (HB.out.block gp (Array.getElem?_eq_some_iff.1 hgc).1 hgpb).trans hgc
        have hpp : p = some ⟨gp, 0, none⟩ ∧ cp = cp' := by
          have e := HVP.out.symm.trans hvp'
          simp only [Value.slice.injEq] at e
          exact ⟨e.1, e.2.2⟩
        obtain ⟨rfl, rfl⟩ := hpp
        have hnx := standK_next keep st ws k hkl
        obtain ⟨a, ha⟩ : ∃ a, a = ws[k].1 := ⟨_, rfl⟩
        obtain ⟨x, hx⟩ : ∃ x, x = ws[k].2 := ⟨_, rfl⟩
        rw [← ha, ← hx] at hnx hwk
        rw [← ha, ← hx] at hext
        obtain ⟨C, hC⟩ : ∃ C, C = (wcell a x).toArray := ⟨_, rfl⟩
        have hCs : C.size = 129 := by rw [hC, List.size_toArray, wcell_len _ _ hwk.2]
        have hCo : C.all (·.oneCell') = true := by rw [hC]; exact all_oneCell_toArray (wcell_one _ _)
        have hC0 : C[0]? = some (.int .i64 (a : Int)) := by rw [hC]; rfl
        have hCb : ∀ j, ∀ hj : j < x.length, C[1 + j]? = some (u8V x[j]) := fun j hj => by rw [hC, List.getElem?_toArray]; exact wcell_byte a x j hj
        rw [← hC] at hext
        have HC0 := Lib.hid hC0
        have HCB := Lib.hid hCb
        have HGR := Lib.hid hgr
        have HKC := Lib.hid hcs
        have HEX := Lib.hid hext
        have HFI : Hid ((Tryd.prog.info? 141).map (·.size) = some C.size) := by rw [hCs]; exact sizePw
        have HUS : Hid (Z.size = C.size) := Lib.hid (by rw [hCs]; exact HZS.out)
        have HON := Lib.hid hCo
        obtain ⟨k1, hk1⟩ : ∃ k1, k1 = k + 1 := ⟨_, rfl⟩
        rw [← hk1] at hnx
        have v1 : IntKind.i64.wrap ((k : Int) + 1) = (k1 : Int) := by rw [show (k : Int) + 1 = (k1 : Int) by omega]; exact IntWalk.i64_in _ (by omega)
        have HB1 : Hid (ButBy (fun j => j = b) w (wr.alloc (.cells C 141))) := Lib.hid (HB.out.then_kept (box_below _ _))
        obtain ⟨W3, hW3⟩ : ∃ W3, W3 = wr.alloc (.cells C 141) := ⟨_, rfl⟩
        have hW3r : W3.heap[wr.heap.size]? = some (.cells C 141 (0, 0)) := by rw [hW3]; exact heap_alloc_last wr _
        have HW3R := Lib.hid hW3r
        have HD1 : Hid (BytesAt b (standK keep st ws k).flatten W3) := Lib.hid (by rw [hW3]; exact HD.out.kept (box_below _ _))
        rw [← hW3] at HB1
        have HW3 := Lib.hid hW3
        have CKk := HCK.out _ HB1.out k
        have HNX := Lib.hid hnx
        have HWK := Lib.hid hwk
        clear hnx hwk hrowg ap hkl ha hx hC hCs hCo hC0 hCb hext hcs hgr hgc hc0 hcb hgpb hwl hvp' hW3 hW3r
        go_wp2_with (first
          | (with_reducible refine wpList_load_sub rfl _ _ rfl gp (k * 129) 129 rfl 141 cur (0, 0) _ HGR.out Tryd.underlying141 rfl sizePw HKC.out C HEX.out ?_)
          | ((with_reducible refine wpList_store_row rfl _ _ _ rfl wr.heap.size C rfl rfl 141 _ (heap_alloc_last wr _) HFI.out HUS.out HON.out ?_); rw [World.setRow_alloc_new, ← HW3.out]))
        refine CKk.mono ?_
        rintro e w3 ⟨rfl, rfl⟩
        clear CKk
        cases hke : keep k with
        | false =>
          have HNX2 : Hid (standK keep st ws k1 = standK keep st ws k) := Lib.hid (by rw [HNX.out, hke]; rfl)
          clear hke
          go_wp2
          go_roundg (n - k1)
          case measure => omega
          case rel => exact ⟨k1, by omega, by first | rfl | (congr 1; omega), Lib.hid (by rw [HNX2.out]; exact HD1.out), HB1⟩
        | true =>
          have HNX2 : Hid (standK keep st ws k1 = (standK keep st ws k).set a x) := Lib.hid (by rw [HNX.out, hke]; rfl)
          clear hke
          have hsl : (standK keep st ws k).length = s.stands.length := by rw [standK_len, HST.out]
          have hss : ∀ l ∈ standK keep st ws k, l.length = 128 := standK_sect keep st ws (by rw [HST.out]; exact HOK.out.sect) (fun p hp => (HOK.out.wait p (by rw [← HWS.out]; exact hp)).2) k (by rw [← HN.out]; omega)
          have hfl : (standK keep st ws k).flatten.length = L := by rw [flat_len _ hss, hsl, HL.out, HOK.out.image_len]
          have hLs : L = 128 * s.stands.length := by rw [HL.out, HOK.out.image_len]
          have hcap := HH.out.cap
          rw [← HL.out] at hcap
          have hkw : k ≤ s.waits.length := by rw [← HWS.out, ← HN.out]; omega
          have hok2 := midS_ok HOK.out keep k hkw
          have hda : DAt B g b c m (midS keep s k) vp W3 := HH.out.midS HOK.out keep k hkw (by have h := HD1.out; rw [HST.out, HWS.out] at h; exact h) HB1.out
          have SC := dsector_any (hda.stay (w' := W3.drew) (fun _ _ => rfl)) hok2 a (by show a < (standK keep s.stands s.waits k).length; rw [standK_len]; exact HWK.out.1)
          obtain ⟨z, hz⟩ : ∃ z, z = 128 * a := ⟨_, rfl⟩
          have hza : z + 128 ≤ L := by have := HWK.out.1; omega
          have hxl : (x.map u8V).length = 128 := by rw [List.length_map]; exact HWK.out.2
          obtain ⟨W4, hW4⟩ : ∃ W4, W4 = W3.drew := ⟨_, rfl⟩
          have hD4 : BytesAt b (standK keep st ws k).flatten W4 := by rw [hW4]; exact HD1.out.stay rfl
          have hr4 : W4.heap[wr.heap.size]? = some (.cells C 141 (0, 0)) := by rw [hW4]; exact HW3R.out
          have hcopy := fun ty => Go.run_copy_cells (P := Tryd.prog) W4 46 46 ty 5 b z 128 (c - z) ⟨wr.heap.size, 1, none⟩ 128 128 (x.map u8V) Tryd.underlying46 sizeU8 (by rw [hxl]; rfl)
            (fun j v hj => by
              rw [addr_add, cell_of_row _ _ _ _ _ _ hr4]
              rw [List.getElem?_map] at hj
              have hjl : j < x.length := by
                rw [HWK.out.2]
                have h9 : j < (x.map u8V).length := by
                  refine Decidable.byContradiction fun hn => ?_
                  rw [List.getElem?_eq_none (by rw [List.length_map] at hn; omega)] at hj
                  cases hj
                rw [hxl] at h9; exact h9
              rw [List.getElem?_eq_getElem hjl] at hj
              rw [HCB.out j hjl]
              exact hj)
            (fun j hj => by rw [hD4.cell (z + j) (by rw [hfl]; rw [hxl] at hj; omega)]; rfl)
            (fun j hj => hD4.froz (z + j) (by rw [hfl]; rw [hxl] at hj; omega))
            (fun v hv => by obtain ⟨y, _, rfl⟩ := List.mem_map.1 hv; rfl)
          rw [hxl] at hcopy
          have HD2 : Hid (BytesAt b (standK keep st ws k1).flatten (W4.setCells b z (x.map u8V))) := Lib.hid (by
            have h1 := hD4.sets x z (by rw [hfl, HWK.out.2]; exact hza)
            rw [HNX2.out, image_set' _ hss a x (by rw [hsl]; exact HWK.out.1) HWK.out.2, ← hz]
            exact h1)
          have HB2 : Hid (ButBy (fun j => j = b) w (W4.setCells b z (x.map u8V))) := Lib.hid (by
            have hg := grown_sets b (x.map u8V) z W4
            refine HB1.out.trans (ButBy.trans (w1 := W4) (ButBy.below (by rw [hW4]; exact Below.drew (Below.refl _ _))) ⟨hg.os, hg.tape, hg.output, hg.size, fun j hj hn => hg.block j hj (fun e => hn (Option.some.inj e))⟩))
          have d0 : W4.cell? ⟨wr.heap.size, 0, none⟩ = some (.int .i64 (a : Int)) := by rw [cell_of_row _ _ _ _ _ _ hr4]; exact HC0.out
          rw [← hz, ← hW4] at SC
          have HW4 := Lib.hid hW4
          clear hsl hss hfl hLs hza hz hD4 hr4 hda hok2 hkw hcap hxl
          go_wp2
          refine wp_region_still_tail 6 (by kernel_rfl) (by kernel_rfl) ?_
          simp only [List.take_succ_cons, List.take_zero, List.drop_succ_cons, List.drop_zero]
          change wpStill _ _ W3.drew (fun a' => wpList _ _ _ _ a' W3.drew) _ _
          rw [← hW4]
          clear hW4
          repeat still_step
          still_call (SC.mono fun _ _ h => ⟨h.1, h.2.symm⟩)
          repeat still_step
          refine wpStill_nil ?_
          go_wp2
          go_roundg (n - k1)
          case measure => omega
          case rel => exact ⟨k1, by omega, by first | rfl | (congr 1; omega), HD2, HB2⟩
      · have hke : k = n := by omega
        have hki : ¬ (k : Int) < n := by omega
        have bk : decide ((k : Int) < (n : Int)) = false := by simpa using hki
        subst hke
        have f2 := frozen_of_row wr g 2 _ _ hrowg
        have d2 : wr.cell? ⟨g, 2, none⟩ = some (.slice p k cp) := by rw [cell_of_row _ _ _ _ _ _ hrowg]; show some vp = _; rw [HVP.out, HN.out, HWS.out]
        have rr1 : (wr.setCell ⟨g, 2, none⟩ (.slice none 0 0)).heap[g]? = some (.cells (dA g s b s.image.length c (.slice none 0 0) m) 115 (0, 0)) := by rw [heap_setCell_same _ _ _ _ _ _ hrowg]; rfl
        have hm1 : MapIs eltInt m s.waits.length (lastF s.waits) (wr.setCell ⟨g, 2, none⟩ (.slice none 0 0)) := HH.out.map.stay ((set_other _ _ _ _ _ ap.2.1).trans (HB.out.block m HH.out.map.lt ap.2.2.1))
        have d3 : (wr.setCell ⟨g, 2, none⟩ (.slice none 0 0)).cell? ⟨g, 3, none⟩ = some (.map (some m)) := by rw [cell_of_row _ _ _ _ _ _ rr1]; rfl
        obtain ⟨w2, hclr, hmap2, hg2, -⟩ := hm1.clear Tryd.underlying113
        have hsN : sN.stands = standK keep st ws k ∧ sN.waits = [] ∧ sN.fuse = s.fuse ∧ sN.ops = s.ops ∧ sN.down = s.down := by
          rw [HSN.out, HN.out, HWS.out, HST.out]; exact ⟨rfl, rfl, rfl, rfl, rfl⟩
        have hNi : sN.image = (standK keep st ws k).flatten := by unfold Dk.image; rw [hsN.1]
        have hNl : sN.image.length = s.image.length := by
          have h1 : sN.ok := by rw [HSN.out]; exact HOK.out.stand keep
          rw [h1.image_len, HOK.out.image_len, hsN.1, standK_len, HST.out]
        have hsame : ∀ j, j ≠ m → j < wr.heap.size → j ≠ g → w2.heap[j]? = wr.heap[j]? := fun j hj hl hjg => (hg2.block j (by simpa using hl) (fun e => hj (Option.some.inj e))).trans (set_other _ _ _ _ _ hjg)
        have fin : DsPost B g b c m sN vp (.tuple #[]) w (.returned (.tuple #[])) w2 := by
          refine ⟨rfl, .slice none 0 0, ⟨HH.out.base, ?_, HH.out.hb, by rw [hNl]; exact HH.out.cap, ?_, ?_, HH.out.hm, ?_⟩, fun j e => by simp [Value.ownBlock] at e, ?_⟩
          · rw [hNl, hg2.block g (Array.getElem?_eq_some_iff.1 rr1).1 (fun e => ap.2.1 (Option.some.inj e).symm), rr1]
            unfold dA; rw [hsN.2.2.1, hsN.2.2.2.1, hsN.2.2.2.2]
          · rw [hNi]; exact HD.out.stay (hsame b (fun x => ap.2.2.1 x.symm) HD.out.lt ap.1)
          · rw [hsN.2.1]; exact World.ownsRow_nil _ _ _ _
          · rw [hsN.2.1]; exact hmap2
          · have h1 : ButBy (DBs g b m vp) w wr := HB.out.mono (fun j hj => Or.inr (Or.inl hj))
            have h2 := h1.setCell g 2 (.slice none 0 0) (Or.inl rfl)
            exact h2.trans ⟨hg2.os, hg2.tape, hg2.output, hg2.size, fun j hj hn => hg2.block j hj (fun e => hn (Or.inr (Or.inr (Or.inl (Option.some.inj e)))))⟩
        have FIN := Lib.hid fin
        clear fin hsame hsN hNi hNl hmap2 hg2 hm1 rr1 hrowg ap
        go_wp2
        first | go_ret | go_end0
        exact FIN.out

end Go.Proofs.YtoigembmbajopaaDoor
namespace Go.Proofs.YtoigembmbajopaaDoor
open Go.RowKit

section
variable {B g b c m : Nat} {s : Dk} {vp : Value} {w : World} (h : DAt B g b c m s vp w)
include h

set_option maxRecDepth 100000 in
set_option maxHeartbeats 1000000 in
theorem dflush_any (hok : s.ok) (hlo : s.ops ≤ 4294967295) : Calls Tryd.prog 36 #[.pointer (some ⟨g, 0, none⟩)] w (DsPost B g b c m s.flushS vp (.int .i64 s.flushE) w) := by
  have RD := dready_any h
  have H := Lib.hid h
  by_cases hd : s.down = true
  · have e1 : s.flushE = 90 := by unfold Dk.flushE; rw [if_pos hd]
    have e2 : s.flushS = s := by unfold Dk.flushS; rw [if_pos hd]
    rw [e1, e2]
    rw [if_pos hd] at RD
    clear h hok e1 e2 hd
    go_enter Tryd.func36, Tryd.ntmps36
    go_wp2_with fail
    refine RD.mono ?_
    rintro e w1 ⟨rfl, rfl⟩
    go_wp2
    go_ret
    exact ⟨rfl, vp, H.out, fun k hk => Or.inl hk, but_refl _ _⟩
  · rw [if_neg hd] at RD
    have CT := dcut_any h (Nat.le_trans hlo (by omega)) hok.fz
    by_cases h0 : s.fuse = 0
    · have e1 : s.flushE = 90 := by unfold Dk.flushE; rw [if_neg hd, if_pos h0]
      have e2 : s.flushS = s.cut := by unfold Dk.flushS; rw [if_neg hd, if_pos h0]
      rw [e1, e2]
      rw [if_pos h0] at CT
      clear h hok e1 e2 hd h0
      go_enter Tryd.func36, Tryd.ntmps36
      go_wp2_with fail
      refine RD.mono ?_
      rintro e w1 ⟨rfl, rfl⟩
      go_wp2_with fail
      refine CT.mono ?_
      rintro e w1 ⟨rfl, r1, b1⟩
      have R1 := Lib.hid r1
      have B1 := Lib.hid b1
      clear r1 b1
      go_wp2
      go_ret
      exact ⟨rfl, vp, R1.out, fun k hk => Or.inl hk, B1.out.mono (fun j hj => Or.inl hj)⟩
    · have e1 : s.flushE = 0 := by unfold Dk.flushE; rw [if_neg hd, if_neg h0]
      have e2 : s.flushS = s.cut.stand keepAll := by unfold Dk.flushS; rw [if_neg hd, if_neg h0]
      rw [e1, e2]
      rw [if_neg h0] at CT
      have ST := fun (w1 : World) (r1 : DAt B g b c m s.cut vp w1) => dsettle_any r1 hok.cut (Nat.le_trans (Nat.succ_le_succ hlo) (by omega)) keepAll _ (Or.inl ⟨rfl, rfl⟩)
      clear h hok e1 e2 hd h0
      go_enter Tryd.func36, Tryd.ntmps36
      go_wp2_with fail
      refine RD.mono ?_
      rintro e w1 ⟨rfl, rfl⟩
      go_wp2_with fail
      refine CT.mono ?_
      rintro e w1 ⟨rfl, r1, b1⟩
      have S1 := ST w1 r1
      have B1 := Lib.hid b1
      clear r1 b1 ST CT
      go_wp2_with fail
      refine S1.mono ?_
      rintro e w2 ⟨rfl, vp', r2, hs2, b2⟩
      have R2 := Lib.hid r2
      have B2 := Lib.hid b2
      have HS2 := Lib.hid hs2
      clear r2 b2 hs2 S1
      go_wp2
      go_ret
      exact ⟨rfl, vp', R2.out, fun k e => (HS2.out k e).imp id (fun x => Nat.le_trans B1.out.size x), (B1.out.mono (fun j hj => Or.inl hj)).trans B2.out⟩

set_option maxRecDepth 100000 in
set_option maxHeartbeats 1000000 in
theorem dpower_any (hok : s.ok) (hlo : s.ops ≤ 4294967296) (l : List Bool) (kv : Value) (hkv : ∀ w', w.heap.size ≤ w'.heap.size → (∀ k, k < B → k < w.heap.size → w'.heap[k]? = w.heap[k]?) → BoolAt l kv w') :
    Calls Tryd.prog 32 #[.pointer (some ⟨g, 0, none⟩), kv] w (DsPost B g b c m (s.powerS l) vp (.tuple #[]) w) := by
  have M := dmade_any h
  have hbl := h.dur.lt
  obtain ⟨pk, ck, hkve, -⟩ := hkv w (Nat.le_refl _) (fun _ _ _ => rfl)
  have KB := keptBy_any kv pk l.length ck hkve w
  have K0 := box_below w (.cells #[kv] 47)
  have h1 := h.kept K0
  have ST := dsettle_any h1 hok hlo (keepL l) (keptV w.heap.size) (Or.inr ⟨w.heap.size, l, kv, rfl, rfl, by omega, heap_alloc_last w _, fun w' hs hk => hkv w' (Nat.le_trans K0.size hs) (fun k hB hl => (hk k hB (Nat.lt_of_lt_of_le hl K0.size)).trans (K0.block k hl))⟩)
  obtain ⟨W, hW⟩ : ∃ W, W = w.alloc (.cells #[kv] 47) := ⟨_, rfl⟩
  rw [← hW] at ST KB K0
  have HK0 := Lib.hid K0
  subst hkve
  clear h h1 hok hlo hkv hW hbl K0
  go_enter Tryd.func32, Tryd.ntmps32
  go_wp2_with fail
  refine M.mono ?_
  rintro e w1 ⟨rfl, rfl⟩
  go_wp2_with fail
  refine KB.mono ?_
  rintro e w1 ⟨rfl, rfl⟩
  go_wp2_with fail
  refine ST.mono ?_
  rintro e w2 ⟨rfl, vp', r2, hs2, b2⟩
  have c4 : w2.cell? ⟨g, 4, none⟩ = some (.int .i64 (fzI s.fuse)) := r2.cell 4 _ rfl
  have f4 := r2.froz 4
  have rr1 := r2.setRow 4 (.int .i64 (-1))
  obtain ⟨W1, hW1⟩ : ∃ W1, W1 = w2.setCell ⟨g, 4, none⟩ (.int .i64 (-1)) := ⟨_, rfl⟩
  rw [← hW1] at rr1
  have c6 : W1.cell? ⟨g, 6, none⟩ = some (.bool s.down) := by rw [cell_of_row _ _ _ _ _ _ rr1]; rfl
  have f6 := frozen_of_row W1 g 6 _ _ rr1
  have fin : DsPost B g b c m (s.powerS l) vp (.tuple #[]) w (.returned (.tuple #[])) (W1.setCell ⟨g, 6, none⟩ (.bool false)) := by
    refine ⟨rfl, vp', r2.fields ?_ (fun k hk hn => ?_) rfl rfl, fun k e => (hs2 k e).imp id (fun x => Nat.le_trans HK0.out.size x), ?_⟩
    · rw [heap_setCell_same _ _ _ _ _ _ rr1]; rfl
    · rw [set_other _ _ _ _ _ hn, hW1, set_other _ _ _ _ _ hn]
    · rw [hW1]
      exact (((ButBy.below HK0.out).trans b2).setCell g 4 _ (Or.inl rfl)).setCell g 6 _ (Or.inl rfl)
  have FIN := Lib.hid fin
  rw [hW1] at c6 f6 FIN
  clear fin rr1 hW1 W1 r2 hs2 b2 ST
  go_wp2
  first | go_ret | go_end0
  exact FIN.out
end

end Go.Proofs.YtoigembmbajopaaDoor
namespace Go.Proofs.YtoigembmbajopaaDoor
open Go.RowKit

section
variable {B g b c m : Nat} {s : Dk} {vp : Value} {w : World} (h : DAt B g b c m s vp w)
include h

end

end Go.Proofs.YtoigembmbajopaaDoor
