/- The document's Turn. -/
import Derived.Test.YteompckehokdoaaDoorGJ
namespace Go.Proofs.YteompckehokdoaaDoor
open Go.RowKit

theorem hitsL_snoc (mv : List Mv) (l : List En) (e : En) : ((l ++ [e]).filter (hitE mv)).length = (l.filter (hitE mv)).length + (if hitE mv e then 1 else 0) := by
  rw [List.filter_append, List.length_append]
  by_cases h : hitE mv e = true
  · simp [h]
  · have h' : hitE mv e = false := by simpa using h
    simp [h']
/-- The first k moves are from elsewhere. -/
def notYet (mv : List Mv) (x : Pl) (k : Nat) : Prop := ∀ j (hj : j < mv.length), j < k → mv[j].1 ≠ x
theorem notYet_end {mv : List Mv} {x : Pl} (h : notYet mv x mv.length) : findV mv x = none := by
  unfold findV
  rw [List.find?_eq_none]
  intro v hv
  obtain ⟨j, hj, rfl⟩ := List.getElem_of_mem hv
  simpa using h j hj hj
theorem notYet_hit {mv : List Mv} {x : Pl} {k : Nat} (hk : k < mv.length) (h : notYet mv x k) (he : mv[k].1 = x) : findV mv x = some mv[k] := by
  unfold findV
  rw [List.find?_eq_some_iff_getElem]
  refine ⟨by simpa using he, k, hk, rfl, fun j hj => ?_⟩
  simp only [Bool.not_eq_true', decide_eq_false_iff_not]
  exact h j (by omega) hj
theorem notYet_next {mv : List Mv} {x : Pl} {k : Nat} (hk : k < mv.length) (h : notYet mv x k) (he : mv[k].1 ≠ x) : notYet mv x (k + 1) := fun j hj hlt => by
  by_cases e : j = k
  · subst e; exact he
  · exact h j hj (by omega)
theorem turnE_wf {mv : List Mv} {e : En} (h : wfE e) (hm : ∀ v ∈ mv, wfV v) : wfE (turnE mv e) := by
  unfold turnE
  split
  · rename_i v hv
    have hw := (hm v (by unfold findV at hv; exact List.mem_of_find?_eq_some hv)).2
    exact ⟨h.1, h.2.1, hw.1, hw.2⟩
  · exact h

set_option maxRecDepth 100000 in
set_option maxHeartbeats 32000000 in
theorem rturn15_any (m : Mf) (F T : List Pl) (v vf vt : Value) (w : World) (H : ManIs m v w) (HF : PlsAt F vf w) (HT : PlsAt T vt w) (hl : m.es.length ≤ 1000000) (hf : F.length ≤ 1000000) (ht : T.length ≤ 1000000) :
    Calls Tryd.prog 19 #[v, vf, vt] w fun e w' => (∃ u, e = .returned (.tuple #[u, .int .i64 (hitsM (F.zip T) m : Nat)]) ∧ ManIs (turnM (F.zip T) m) u w') ∧ Kept w w' := by
  obtain ⟨ir, z, hx1, hx2, hx3, hx4, hx5⟩ := infoEnF
  have HIR := Lib.hid hx1
  have HZ0 := Lib.hid hx2
  have HZ1 := Lib.hid hx3
  have HZ2 := Lib.hid hx4
  have HZS := Lib.hid hx5
  obtain ⟨hid, sv, rfl, he⟩ := H
  obtain ⟨p, c, rfl, -, -⟩ := he.out encE
  obtain ⟨pf, cf, rfl, -, -⟩ := HF.out encP
  obtain ⟨pt, ct, rfl, -, -⟩ := HT.out encP
  have HE := Lib.hid he
  have HFL := Lib.hid HF
  have HTL := Lib.hid HT
  obtain ⟨mv, hmv⟩ : ∃ mv, mv = F.zip T := ⟨_, rfl⟩
  have HMV := Lib.hid hmv
  obtain ⟨nm, hnm⟩ : ∃ n, n = mv.length := ⟨_, rfl⟩
  have HNM : Hid (nm = mv.length ∧ nm = min F.length T.length) := Lib.hid ⟨hnm, by rw [hnm, hmv, List.length_zip]⟩
  have HMW : Hid (∀ q ∈ mv, wfV q) := Lib.hid (fun q hq => by
    rw [hmv] at hq
    have := List.of_mem_zip (a := q.1) (b := q.2) hq
    exact ⟨HF.good _ this.1, HT.good _ this.2⟩)
  obtain ⟨n, hn⟩ : ∃ n, n = m.es.length := ⟨_, rfl⟩
  have HN := Lib.hid hn
  obtain ⟨nf, hnf⟩ : ∃ n, n = F.length := ⟨_, rfl⟩
  have HNF := Lib.hid hnf
  obtain ⟨nt, hnt⟩ : ∃ n, n = T.length := ⟨_, rfl⟩
  have HNT := Lib.hid hnt
  obtain ⟨id, hidd⟩ : ∃ i, i = m.id := ⟨_, rfl⟩
  have HTM : Hid (turnM mv m = ⟨id, m.es.map (turnE mv)⟩) := Lib.hid (by rw [hidd]; rfl)
  have HHM : Hid (hitsM mv m = (m.es.filter (hitE mv)).length) := Lib.hid rfl
  have HID : Hid (id < 4294967296) := Lib.hid (by rw [hidd]; exact hid)
  rw [← hn] at hl
  rw [← hnf] at hf
  rw [← hnt] at ht
  rw [← hn, ← hnf, ← hnt, ← hidd, ← hmv, HTM.out, HHM.out]
  have HL := Lib.hid (show n ≤ 1000000 ∧ nf ≤ 1000000 ∧ nt ≤ 1000000 from ⟨hl, hf, ht⟩)
  obtain ⟨W0, hW0⟩ : ∃ W, W = w.alloc (.cells #[.int .u32 (id : Nat), .slice p n c] 25) := ⟨_, rfl⟩
  have hs0 : W0.heap.size = w.heap.size + 1 := by rw [hW0]; simp
  have hr0 : W0.heap[w.heap.size]? = some (.cells #[.int .u32 (id : Nat), .slice p n c] 25 (0, 0)) := by rw [hW0]; exact heap_alloc_last w _
  have hk0 : Kept w W0 := by rw [hW0]; exact box_below _ _
  obtain ⟨W1, hW1⟩ : ∃ W, W = W0.alloc (.cells #[.int .u32 0, .slice none 0 0] 25) := ⟨_, rfl⟩
  have hs1 : W1.heap.size = w.heap.size + 1 + 1 := by rw [hW1]; simp [hs0]
  have hr1 : W1.heap[w.heap.size + 1]? = some (.cells #[.int .u32 0, .slice none 0 0] 25 (0, 0)) := by rw [hW1, ← hs0]; exact heap_alloc_last W0 _
  have hk1 : Kept W0 W1 := by rw [hW1]; exact box_below _ _
  obtain ⟨W2, hW2⟩ : ∃ W, W = W1.alloc (.cells #[.int .u32 (id : Nat), .slice none 0 0] 25) := ⟨_, rfl⟩
  have hs2 : W2.heap.size = w.heap.size + 1 + 1 + 1 := by rw [hW2]; simp [hs1]
  have hr2 : W2.heap[w.heap.size + 1 + 1]? = some (.cells #[.int .u32 (id : Nat), .slice none 0 0] 25 (0, 0)) := by rw [hW2, ← hs1]; exact heap_alloc_last W1 _
  have hk2 : Kept W1 W2 := by rw [hW2]; exact box_below _ _
  have HMI0 : Hid (MI W0 (w.heap.size + 1) (w.heap.size + 1 + 1) (w.heap.size + 1 + 1 + 1) id (.slice none 0 0) [] W2) := Lib.hid
    ⟨hk1.then hk2, by omega, hk2.row hr1, hr2, World.ownsRow_nil _ _ _ _, by omega⟩
  have HR0 := Lib.hid hr0
  have HK0 := Lib.hid hk0
  have HW2 : Hid (W2 = ((w.alloc (.cells #[.int .u32 (id : Nat), .slice p n c] 25)).alloc (.cells #[.int .u32 0, .slice none 0 0] 25)).alloc (.cells #[.int .u32 (id : Nat), .slice none 0 0] 25)) := Lib.hid (by rw [hW2, hW1, hW0])
  have a0 : (w.alloc (.cells #[.int .u32 (id : Nat), .slice p n c] 25)).cell? ⟨w.heap.size, 0, none⟩ = some (.int .u32 (id : Nat)) := by rw [cell_of_row _ _ _ _ _ _ (heap_alloc_last w _)]; rfl
  have a1 : ((w.alloc (.cells #[.int .u32 (id : Nat), .slice p n c] 25)).alloc (.cells #[.int .u32 0, .slice none 0 0] 25)).cell? ⟨w.heap.size, 0, none⟩ = some (.int .u32 (id : Nat)) := Kept.cell (box_below _ _) a0
  clear hx1 hx2 hx3 hx4 hx5 hid he HF HT hmv hnm hn hnf hnt hidd hl hf ht hW0 hW1 hW2 hs0 hs1 hs2 hr0 hr1 hr2 hk0 hk1 hk2
  go_enter Tryd.func19, Tryd.ntmps19
  go_wp2
  rw [← HW2.out]
  clear a0 a1
  obtain ⟨B, hB⟩ : ∃ B, B = w.heap.size + 1 + 1 + 1 := ⟨_, rfl⟩
  rw [← hB] at HMI0
  obtain ⟨b5, hb5⟩ : ∃ b, b = w.heap.size + 1 + 1 := ⟨_, rfl⟩
  rw [← hb5] at HMI0 ⊢
  obtain ⟨b0, hb0⟩ : ∃ b, b = w.heap.size + 1 := ⟨_, rfl⟩
  rw [← hb0] at HMI0 ⊢
  clear hb0 hb5 hB
  go_loopg [9, 10] n (fun gh s y wr => ∃ (i hits : Nat) (tv : Value), i + gh = n ∧ s = .int .i64 hits ∧ y = .int .i64 i ∧ Hid (hits = ((m.es.take i).filter (hitE mv)).length ∧ hits ≤ i) ∧ Hid (MI W0 b0 b5 B id tv ((m.es.take i).map (turnE mv)) wr))
  case atStart => exact ⟨0, 0, _, by omega, rfl, rfl, Lib.hid ⟨rfl, Nat.le_refl _⟩, HMI0⟩
  case round =>
    clear HMI0
    obtain ⟨i, hits, tv, hi, rfl, rfl, HHI, HH⟩ := hrel
    obtain ⟨LI, hLI⟩ : ∃ L, L = (m.es.take i).map (turnE mv) := ⟨_, rfl⟩
    rw [← hLI] at HH
    have HLI := Lib.hid hLI
    obtain ⟨pv, cv, htv, -, -⟩ := own_slice HH.out.own
    have hlk : LI.length = i := by rw [hLI, List.length_map, List.length_take]; have := HN.out; omega
    rw [hlk] at htv
    have HLK := Lib.hid hlk
    clear hLI hlk
    subst htv
    have hrm := Kept.row HH.out.kept HR0.out
    have em : wr.cell? ⟨w.heap.size, 1, none⟩ = some (.slice p n c) := by rw [cell_of_row _ _ _ _ _ _ hrm]; rfl
    have HKW : Hid (Kept w wr) := Lib.hid ((show Kept w W0 from HK0.out).then HH.out.kept)
    by_cases hlt : i < n
    · have hki : (i : Int) < n := by omega
      have bk : decide ((i : Int) < (n : Int)) = true := by simpa using hki
      have hki0 : (0 : Int) ≤ i := by omega
      have hkl : i < m.es.length := by have := HN.out; omega
      obtain ⟨b, off, cs, t, fr, rfl, hg, hsz, hex, hcell⟩ := HE.out.elem encE hkl
      have g2 := Kept.row HKW.out hg
      have hmem : m.es[i] ∈ m.es := List.getElem_mem hkl
      have htk : m.es.take (i + 1) = m.es.take i ++ [m.es[i]] := List.take_succ_eq_append_getElem hkl
      have hwE := HE.out.good _ hmem
      obtain ⟨E, hE⟩ : ∃ E, E = m.es[i] := ⟨_, rfl⟩
      rw [← hE] at hex hmem htk hwE hcell
      have HWE := Lib.hid hwE
      have IXE := fun W => idx_en b off n c i hlt W
      have HC33 := Lib.hid (show w.cell? ⟨b, off + i * 35 + 33, none⟩ = some (.int .u32 (E.box : Nat)) from hcell 33 _ (enL_b hwE.1))
      have HC34 := Lib.hid (show w.cell? ⟨b, off + i * 35 + 34, none⟩ = some (.int .i64 E.slot) from hcell 34 _ (enL_s hwE.1))
      obtain ⟨XE, hXE⟩ : ∃ X, X = enC E := ⟨_, rfl⟩
      have hex2 : cs.extract (off + i * 35) (off + i * 35 + 35) = XE := by rw [hXE]; exact hex
      have HXE := Lib.hid hXE
      have HES := Lib.hid (show off + i * 35 + 35 ≤ cs.size ∧ cs.extract (off + i * 35) (off + i * 35 + 35) = XE from ⟨hsz, hex2⟩)
      have HXS : Hid (XE.size = 35) := Lib.hid (by rw [hXE]; exact enC_size hwE.1)
      have HXO : Hid (XE.all (·.oneCell') = true) := Lib.hid (by rw [hXE, Array.all_eq_true_iff_forall_mem]; intro x hx; exact encE.one E hwE x (by unfold enC at hx; simpa using hx))
      obtain ⟨i1, hi1⟩ : ∃ k, k = i + 1 := ⟨_, rfl⟩
      have v1 : IntKind.i64.wrap ((i : Int) + 1) = (i1 : Int) := by rw [show (i : Int) + 1 = (i1 : Int) by omega]; exact IntWalk.i64_in _ (by have := HL.out; omega)
      have HKK : Hid (i1 = i + 1 ∧ i + gk = n ∧ i < n) := Lib.hid ⟨hi1, hi, hlt⟩
      have HTK : Hid (m.es.take i1 = m.es.take i ++ [E]) := Lib.hid (by rw [hi1]; exact htk)
      obtain ⟨xb, hxb⟩ : ∃ x, x = E.box := ⟨_, rfl⟩
      obtain ⟨xs, hxs⟩ : ∃ x, x = E.slot := ⟨_, rfl⟩
      rw [← hxb] at HC33
      rw [← hxs] at HC34
      have HXB := Lib.hid (show plE E = (xb, xs) by rw [hxb, hxs]; rfl)
      obtain ⟨b7, hb7⟩ : ∃ b, b = wr.heap.size := ⟨_, rfl⟩
      have HB7 := Lib.hid hb7
      obtain ⟨W5, hW5⟩ : ∃ W, W = wr.alloc (.cells XE 55) := ⟨_, rfl⟩
      have HW5 := Lib.hid hW5
      have hrow5 := heap_alloc_last wr (.cells XE 55)
      rw [← hW5, ← hb7] at hrow5
      have HR5 := Lib.hid hrow5
      have HK5 : Hid (Kept wr W5) := Lib.hid (by rw [hW5]; exact box_below _ _)
      have HBS : Hid (b7 < W5.heap.size) := Lib.hid (by rw [hb7, hW5]; simp)
      have HXI : Hid ((Tryd.prog.info? 55).map (·.size) = some XE.size) := Lib.hid (by rw [HXS.out]; exact infoEn)
      have HNB : Hid (∀ mm, (Value.slice pv i cv).ownBlock = some mm → mm < b7) := Lib.hid (fun mm hm => by rw [hb7]; exact (HH.out.own.lt mm hm).2)
      clear hg hsz hex hex2 hcell hmem htk hwE hE hXE hxb hxs hi1 hi hlt hkl hrm hb7 hW5 hrow5
      go_wp2_with (first
        | (with_reducible refine wpList_load_sub rfl _ _ rfl b (off + i * 35) 35 rfl t cs fr _ g2 Tryd.underlying55 rfl infoEn HES.out.1 XE HES.out.2 ?_)
        | ((with_reducible refine wpList_store_row rfl _ _ _ rfl wr.heap.size XE rfl rfl 55 _ (heap_alloc_last wr _) HXI.out ?hold HXO.out ?_); rotate_left; rw [World.setRow_alloc_new, ← HW5.out]))
      case hold => rw [HXS.out]; rfl
      rw [← HB7.out]
      clear g2 em
      obtain ⟨wo, hwo⟩ : ∃ wo : World, wo = wr := ⟨_, rfl⟩
      subst hwo
      go_loopg [9, 12] nm (fun gh s y wq => ∃ k : Nat, k + gh = nm ∧ s = .int .i64 hits ∧ y = .int .i64 k ∧ Hid (notYet mv (xb, xs) k) ∧ Hid (Kept W5 wq))
      case atStart => exact ⟨0, by omega, rfl, rfl, Lib.hid (fun j _ hj => absurd hj (Nat.not_lt_zero _)), Lib.hid (Kept.refl W5)⟩
      case round =>
        obtain ⟨k, hk, rfl, rfl, HNY, HKQ⟩ := hrel
        have HKO : Hid (Kept wo wr) := Lib.hid ((show Kept wo W5 from HK5.out).then HKQ.out)
        have HKA : Hid (Kept w wr) := Lib.hid ((show Kept w wo from HKW.out).then HKO.out)
        by_cases hkn : k < nm
        · have hkf : k < F.length := by have := HNM.out.2; omega
          have hkt : k < T.length := by have := HNM.out.2; omega
          have bf : decide ((k : Int) < (nf : Int)) = true := decide_eq_true (by have := HNF.out; omega)
          have bt : decide ((k : Int) < (nt : Int)) = true := decide_eq_true (by have := HNT.out; omega)
          have hkfn : k < nf := by have := HNF.out; omega
          have hktn : k < nt := by have := HNT.out; omega
          have hkif : (k : Int) < nf := by omega
          have hkit : (k : Int) < nt := by omega
          have hki0' : (0 : Int) ≤ k := by omega
          obtain ⟨bf', of', _, _, _, rfl, -, -, -, hcf⟩ := HFL.out.elem encP hkf
          obtain ⟨bt', ot', _, _, _, rfl, -, -, -, hct⟩ := HTL.out.elem encP hkt
          have IXF := fun W => idx_rec (P := Tryd.prog) Tryd.underlying40 (fun w => Tryd.sizeOf45 w) bf' of' nf cf k hkfn W
          have IXT := fun W => idx_rec (P := Tryd.prog) Tryd.underlying40 (fun w => Tryd.sizeOf45 w) bt' ot' nt ct k hktn W
          have hkm : k < mv.length := by have := HNM.out.1; omega
          have hmk : mv[k] = (F[k], T[k]) := by
            have e : ∀ (l : List Mv) (h : k < l.length), l = F.zip T → l[k] = (F[k], T[k]) := fun l h e => by subst e; exact List.getElem_zip
            exact e mv hkm HMV.out
          obtain ⟨fb, hfb⟩ : ∃ x, x = (F[k]).1 := ⟨_, rfl⟩
          obtain ⟨fs, hfs⟩ : ∃ x, x = (F[k]).2 := ⟨_, rfl⟩
          obtain ⟨tb, htb⟩ : ∃ x, x = (T[k]).1 := ⟨_, rfl⟩
          obtain ⟨ts, hts⟩ : ∃ x, x = (T[k]).2 := ⟨_, rfl⟩
          have hmk2 : mv[k] = ((fb, fs), (tb, ts)) := by rw [hmk, hfb, hfs, htb, hts]
          have HF0 := Lib.hid (show w.cell? ⟨bf', of' + k * 2, none⟩ = some (.int .u32 (fb : Nat)) by rw [hfb]; exact hcf 0 _ rfl)
          have HF1 := Lib.hid (show w.cell? ⟨bf', of' + k * 2 + 1, none⟩ = some (.int .i64 fs) by rw [hfs]; exact hcf 1 _ rfl)
          have HT0 := Lib.hid (show w.cell? ⟨bt', ot' + k * 2, none⟩ = some (.int .u32 (tb : Nat)) by rw [htb]; exact hct 0 _ rfl)
          have HT1 := Lib.hid (show w.cell? ⟨bt', ot' + k * 2 + 1, none⟩ = some (.int .i64 ts) by rw [hts]; exact hct 1 _ rfl)
          have hwv := HMW.out _ (List.getElem_mem hkm)
          rw [hmk2] at hwv
          have HWT := Lib.hid hwv.2
          have ef0 := Kept.cell HKA.out HF0.out
          have ef1 := Kept.cell HKA.out HF1.out
          have ee33 := Kept.cell HKA.out HC33.out
          have ee34 := Kept.cell HKA.out HC34.out
          have em : wr.cell? ⟨w.heap.size, 1, none⟩ = some (.slice (some ⟨b, off, none⟩) n c) := by rw [cell_of_row _ _ _ _ _ _ (Kept.row (HH.out.kept.then HKO.out) HR0.out)]; rfl
          obtain ⟨k1, hk1⟩ : ∃ k1, k1 = k + 1 := ⟨_, rfl⟩
          have vk : IntKind.i64.wrap ((k : Int) + 1) = (k1 : Int) := by rw [show (k : Int) + 1 = (k1 : Int) by omega]; exact IntWalk.i64_in _ (by have := HL.out; omega)
          have HKI : Hid (k1 = k + 1 ∧ k + gk = nm ∧ k < nm) := Lib.hid ⟨hk1, hk, hkn⟩
          have HNX : Hid (¬ (fb = xb ∧ fs = xs) → notYet mv (xb, xs) k1) := Lib.hid (fun h => by
            rw [hk1]
            refine notYet_next hkm HNY.out ?_
            rw [hmk2]
            intro e
            simp only [Prod.mk.injEq] at e
            exact h e)
          have HHT : Hid ((fb = xb ∧ fs = xs) → findV mv (plE E) = some ((fb, fs), (tb, ts))) := Lib.hid (fun h => by
            rw [HXB.out, ← hmk2]
            refine notYet_hit hkm HNY.out ?_
            rw [hmk2]
            simp only [Prod.mk.injEq]
            exact h)
          clear hcf hct hkm hmk hmk2 hfb hfs htb hts hwv hk1 hk hkn hkf hkt hkfn hktn
          by_cases hq1 : fb = xb
          · have bq1 : ((fb : Int) == (xb : Int)) = true := beq_iff_eq.2 (by omega)
            by_cases hq2 : fs = xs
            · have bq2 : (fs == xs) = true := beq_iff_eq.2 hq2
              have HHT2 := Lib.hid (HHT.out ⟨hq1, hq2⟩)
              clear hq1 hq2
              obtain ⟨EN, hEN⟩ : ∃ EN : En, EN = ⟨E.fp, E.len, tb, ts⟩ := ⟨_, rfl⟩
              have HTN : Hid (turnE mv E = EN) := Lib.hid (by unfold turnE; rw [HHT2.out, hEN])
              have HHE : Hid (hitE mv E = true) := Lib.hid (by unfold hitE; rw [HHT2.out]; rfl)
              have HWN : Hid (wfE EN) := Lib.hid (by rw [hEN]; exact ⟨HWE.out.1, HWE.out.2.1, HWT.out.1, HWT.out.2⟩)
              obtain ⟨XT, hXT⟩ : ∃ X, X = enC EN := ⟨_, rfl⟩
              have HXT := Lib.hid hXT
              have HXX : Hid ((XE.setIfInBounds 33 (.int .u32 (tb : Nat))).setIfInBounds 34 (.int .i64 ts) = XT) := Lib.hid (by rw [hXT, hEN, HXE.out]; exact en_set2 HWE.out.1 _ _)
              obtain ⟨hits1, hh1⟩ : ∃ h, h = hits + 1 := ⟨_, rfl⟩
              have v9 : IntKind.i64.wrap ((hits : Int) + 1) = (hits1 : Int) := by rw [show (hits : Int) + 1 = (hits1 : Int) by omega]; exact IntWalk.i64_in _ (by have := HL.out; have := HHI.out.2; have := HKK.out; omega)
              have HHN : Hid (hits1 = ((m.es.take i1).filter (hitE mv)).length ∧ hits1 ≤ i1) := Lib.hid ⟨by rw [hh1, HTK.out, hitsL_snoc, ← HHI.out.1, HHE.out]; rfl, by have := HHI.out.2; have := HKK.out.1; omega⟩
              clear hEN hXT hh1
              have HZX : Hid (XT.size = 35) := Lib.hid (by rw [HXT.out]; exact enC_size HWN.out.1)
              have HSX : Hid (0 + 35 ≤ XT.size ∧ XT.extract 0 (0 + 35) = XT) := Lib.hid ⟨by rw [HZX.out]; exact Nat.le_refl _, by rw [show 0 + 35 = XT.size by rw [HZX.out]]; exact Array.extract_size⟩
              have HONE := Lib.hid (fun (W : World) => flat_rec encE W 55 EN HWN.out XT (by rw [HXT.out]; rfl))
              have HLX : Hid (LI ++ [EN] = (m.es.take i1).map (turnE mv)) := Lib.hid (by rw [HLI.out, HTK.out, List.map_append, ← HTN.out]; rfl)

              go_wp2_with fail
              refine wp_region_kept (by kernel_rfl) (by kernel_rfl) ?_
              refine wpQuiet_pure (v := ?_) (by kernel_rfl) ?_ (fun K hK => ?_)
              case refine_2 => intro W _; go_simp; try with_reducible rfl
              go_simp
              refine hK _ ?_; clear hK K
              refine wpQuiet_pure (v := ?_) (by kernel_rfl) ?_ (fun K hK => ?_)
              case refine_2 => intro W _; go_simp; try with_reducible rfl
              go_simp
              refine hK _ ?_; clear hK K
              refine wpQuiet_pure (v := ?_) (by kernel_rfl) ?_ (fun K hK => ?_)
              case refine_2 => intro W _; go_simp; try with_reducible rfl
              go_simp
              refine hK _ ?_; clear hK K
              refine wpQuiet_pure (v := ?_) (by kernel_rfl) ?_ (fun K hK => ?_)
              case refine_2 => intro W _; go_simp; try with_reducible rfl
              go_simp
              refine hK _ ?_; clear hK K
              refine wpQuiet_pure (v := ?_) (by kernel_rfl) ?_ (fun K hK => ?_)
              case refine_2 => intro W hW; have e0 := hW.cell ef0; go_simp; try with_reducible rfl
              go_simp
              refine hK _ ?_; clear hK K
              refine wpQuiet_pure (v := ?_) (by kernel_rfl) ?_ (fun K hK => ?_)
              case refine_2 => intro W _; go_simp; try with_reducible rfl
              go_simp
              refine hK _ ?_; clear hK K
              refine wpQuiet_pure (v := ?_) (by kernel_rfl) ?_ (fun K hK => ?_)
              case refine_2 => intro W hW; have e0 := hW.cell em; go_simp; try with_reducible rfl
              go_simp
              refine hK _ ?_; clear hK K
              refine wpQuiet_pure (v := ?_) (by kernel_rfl) ?_ (fun K hK => ?_)
              case refine_2 => intro W _; go_simp; try with_reducible rfl
              go_simp
              refine hK _ ?_; clear hK K
              refine wpQuiet_pure (v := ?_) (by kernel_rfl) ?_ (fun K hK => ?_)
              case refine_2 => intro W _; go_simp; try with_reducible rfl
              go_simp
              refine hK _ ?_; clear hK K
              refine wpQuiet_pure (v := ?_) (by kernel_rfl) ?_ (fun K hK => ?_)
              case refine_2 => intro W _; go_simp; try with_reducible rfl
              go_simp
              refine hK _ ?_; clear hK K
              refine wpQuiet_pure (v := ?_) (by kernel_rfl) ?_ (fun K hK => ?_)
              case refine_2 => intro W hW; have e0 := hW.cell ee33; go_simp; try with_reducible rfl
              go_simp
              refine hK _ ?_; clear hK K
              refine wpQuiet_pure (v := ?_) (by kernel_rfl) ?_ (fun K hK => ?_)
              case refine_2 => intro W _; go_simp; try with_reducible rfl
              go_simp
              refine hK _ ?_; clear hK K
              refine wpQuiet_pure (v := ?_) (by kernel_rfl) ?_ (fun K hK => ?_)
              case refine_2 => intro W _; go_simp; try with_reducible rfl
              go_simp
              refine hK _ ?_; clear hK K
              refine wpQuiet_pure (v := ?_) (by kernel_rfl) ?_ (fun K hK => ?_)
              case refine_2 => intro W _; go_simp; try with_reducible rfl
              go_simp
              refine hK _ ?_; clear hK K
              refine wpQuiet_pure (v := ?_) (by kernel_rfl) ?_ (fun K hK => ?_)
              case refine_2 => intro W _; go_simp; try with_reducible rfl
              go_simp
              refine hK _ ?_; clear hK K
              refine wpQuiet_pure (v := ?_) (by kernel_rfl) ?_ (fun K hK => ?_)
              case refine_2 => intro W _; go_simp; try with_reducible rfl
              go_simp
              refine hK _ ?_; clear hK K
              refine wpQuiet_pure (v := ?_) (by kernel_rfl) ?_ (fun K hK => ?_)
              case refine_2 => intro W _; go_simp; try with_reducible rfl
              go_simp
              refine hK _ ?_; clear hK K
              refine wpQuiet_pure (v := ?_) (by kernel_rfl) ?_ (fun K hK => ?_)
              case refine_2 => intro W hW; have e0 := hW.cell ef1; go_simp; try with_reducible rfl
              go_simp
              refine hK _ ?_; clear hK K
              refine wpQuiet_pure (v := ?_) (by kernel_rfl) ?_ (fun K hK => ?_)
              case refine_2 => intro W _; go_simp; try with_reducible rfl
              go_simp
              refine hK _ ?_; clear hK K
              refine wpQuiet_pure (v := ?_) (by kernel_rfl) ?_ (fun K hK => ?_)
              case refine_2 => intro W hW; have e0 := hW.cell em; go_simp; try with_reducible rfl
              go_simp
              refine hK _ ?_; clear hK K
              refine wpQuiet_pure (v := ?_) (by kernel_rfl) ?_ (fun K hK => ?_)
              case refine_2 => intro W _; go_simp; try with_reducible rfl
              go_simp
              refine hK _ ?_; clear hK K
              refine wpQuiet_pure (v := ?_) (by kernel_rfl) ?_ (fun K hK => ?_)
              case refine_2 => intro W _; go_simp; try with_reducible rfl
              go_simp
              refine hK _ ?_; clear hK K
              refine wpQuiet_pure (v := ?_) (by kernel_rfl) ?_ (fun K hK => ?_)
              case refine_2 => intro W _; go_simp; try with_reducible rfl
              go_simp
              refine hK _ ?_; clear hK K
              refine wpQuiet_pure (v := ?_) (by kernel_rfl) ?_ (fun K hK => ?_)
              case refine_2 => intro W hW; have e0 := hW.cell ee34; go_simp; try with_reducible rfl
              go_simp
              refine hK _ ?_; clear hK K
              refine wpQuiet_pure (v := ?_) (by kernel_rfl) ?_ (fun K hK => ?_)
              case refine_2 => intro W _; go_simp; try with_reducible rfl
              go_simp
              refine hK _ ?_; clear hK K
              refine wpQuiet_pure (v := ?_) (by kernel_rfl) ?_ (fun K hK => ?_)
              case refine_2 => intro W _; go_simp; try with_reducible rfl
              go_simp
              refine hK _ ?_; clear hK K
              refine wpQuiet_nil ?_
              intro w6 hk6

              clear ef0 ef1 ee33 ee34 em
              have HK6 : Hid (Kept wo w6) := Lib.hid ((show Kept wo wr from HKO.out).then hk6)
              have HK5' : Hid (Kept W5 w6) := Lib.hid ((show Kept W5 wr from HKQ.out).then hk6)
              have t0 := Kept.cell ((show Kept w wo from HKW.out).then HK6.out) HT0.out
              have t1 := Kept.cell ((show Kept w wo from HKW.out).then HK6.out) HT1.out
              have r6 := Kept.row HK5'.out HR5.out
              have y33 : w6.cell? ⟨b7, 33, none⟩ = some (.int .u32 (E.box : Nat)) := by rw [cell_of_row _ _ _ _ _ _ r6, HXE.out]; exact enC_b HWE.out.1
              have f33 := frozen_of_row w6 b7 33 _ _ r6
              have r7 := heap_setCell_same w6 b7 33 _ _ (.int .u32 (tb : Nat)) r6
              have y34 : (w6.setCell ⟨b7, 33, none⟩ (.int .u32 (tb : Nat))).cell? ⟨b7, 34, none⟩ = some (.int .i64 E.slot) := by
                rw [cell_of_row _ _ _ _ _ _ r7, Array.getElem?_setIfInBounds_ne (by decide), HXE.out]
                exact enC_s HWE.out.1
              have f34 := frozen_of_row _ b7 34 _ _ r7
              have hbt : (w6.setCell ⟨b7, 33, none⟩ (.int .u32 (tb : Nat))).cell? ⟨bt', ot' + k * 2 + 1, none⟩ = some (.int .i64 ts) :=
                Kept.cell (show Kept w (w6.setCell ⟨b7, 33, none⟩ (.int .u32 (tb : Nat))) from below_touch ((show Kept w wo from HKW.out).then HK6.out) (grown_set _ _ _ _) ((HKW.out.then HK6.out).size) (by have := HKW.out.size; have := HB7.out; omega)) HT1.out
              have r8 : ((w6.setCell ⟨b7, 33, none⟩ (.int .u32 (tb : Nat))).setCell ⟨b7, 34, none⟩ (.int .i64 ts)).heap[b7]? = some (.cells XT 55 (0, 0)) := by
                have := heap_setCell_same _ b7 34 _ _ (.int .i64 ts) r7
                rw [HXX.out] at this
                exact this
              have HH7 : Hid (MI W0 b0 b5 B id (.slice pv i cv) LI ((w6.setCell ⟨b7, 33, none⟩ (.int .u32 (tb : Nat))).setCell ⟨b7, 34, none⟩ (.int .i64 ts))) := Lib.hid
                (HH.out.later (show Kept wo _ from below_set2M HK6.out HK6.out.size (by rw [HB7.out]; exact Nat.le_refl _) _ _))
              have c1 := HH7.out.c1
              clear hk6 r6 r7
              go_wp2_with (first
                | (with_reducible refine wpList_load_sub rfl _ _ rfl b7 0 35 rfl 55 XT (0, 0) _ r8 Tryd.underlying55 rfl infoEn HSX.out.1 XT HSX.out.2 ?_)
                | (with_reducible refine wpList_buildR rfl _ _ _ rfl 35 ir z Tryd.underlying23 HIR.out HZ1.out HZ0.out (by decide) (by decide) XT rfl HZX.out ?_)
                | (at_builtin; refine wpList_append_flat rfl _ _ 23 rfl B 55 ir z 35 56 Tryd.underlying23 HIR.out HZ0.out HZ1.out HZ2.out HZS.out (by decide) _ _ _ rfl (HH7.out.own.alloc _) _ 1 (enL EN) rfl (HONE.out _) ?qd2 ?qd3 ?qd4 ?_))
              case qd2 => have := HKK.out; have := HL.out; rw [HLK.out]; unfold maxLen; omega
              case qd3 => have := HKK.out; have := HL.out; rw [HLK.out]; omega
              case qd4 => exact Nat.le_trans HH7.out.size (by simp)
              intro v4 w5 hown2 hgrow2 _
              obtain ⟨hr6, hk6, hh6⟩ := HH7.out.app hown2 hgrow2
              rw [HLX.out] at hh6
              have x5 : w5.cell? ⟨b5, 1, none⟩ = some (.slice pv i cv) := by rw [cell_of_row _ _ _ _ _ _ hr6]; rfl
              have f5 := frozen_of_row w5 b5 1 _ _ hr6
              have HH8 := Lib.hid hh6
              obtain ⟨pv', cv', htv', -, -⟩ := own_slice hown2
              rw [HLK.out, ← HKK.out.1] at htv'
              subst htv'
              clear hown2 hgrow2 hr6 hk6 hh6 c1 r8 y33 y34 f33 f34 t0 t1 hbt
              go_wp2
              go_roundg (n - i1)
              · exact ⟨i1, hits1, _, by have := HKK.out; omega, by first | rfl | (congr 1; omega), by first | rfl | (have := HKK.out; congr 1; omega), HHN, HH8⟩
              · have := HKK.out; omega

            · have bq2 : (fs == xs) = false := beq_eq_false_iff_ne.2 hq2
              have HN2 := Lib.hid (HNX.out (fun h => hq2 h.2))
              clear hq1 hq2
              go_wp2_with fail
              refine wp_region_kept (by kernel_rfl) (by kernel_rfl) ?_
              refine wpQuiet_pure (v := ?_) (by kernel_rfl) ?_ (fun K hK => ?_)
              case refine_2 => intro W _; go_simp; try with_reducible rfl
              go_simp
              refine hK _ ?_; clear hK K
              refine wpQuiet_pure (v := ?_) (by kernel_rfl) ?_ (fun K hK => ?_)
              case refine_2 => intro W _; go_simp; try with_reducible rfl
              go_simp
              refine hK _ ?_; clear hK K
              refine wpQuiet_pure (v := ?_) (by kernel_rfl) ?_ (fun K hK => ?_)
              case refine_2 => intro W _; go_simp; try with_reducible rfl
              go_simp
              refine hK _ ?_; clear hK K
              refine wpQuiet_pure (v := ?_) (by kernel_rfl) ?_ (fun K hK => ?_)
              case refine_2 => intro W _; go_simp; try with_reducible rfl
              go_simp
              refine hK _ ?_; clear hK K
              refine wpQuiet_pure (v := ?_) (by kernel_rfl) ?_ (fun K hK => ?_)
              case refine_2 => intro W hW; have e0 := hW.cell ef0; go_simp; try with_reducible rfl
              go_simp
              refine hK _ ?_; clear hK K
              refine wpQuiet_pure (v := ?_) (by kernel_rfl) ?_ (fun K hK => ?_)
              case refine_2 => intro W _; go_simp; try with_reducible rfl
              go_simp
              refine hK _ ?_; clear hK K
              refine wpQuiet_pure (v := ?_) (by kernel_rfl) ?_ (fun K hK => ?_)
              case refine_2 => intro W hW; have e0 := hW.cell em; go_simp; try with_reducible rfl
              go_simp
              refine hK _ ?_; clear hK K
              refine wpQuiet_pure (v := ?_) (by kernel_rfl) ?_ (fun K hK => ?_)
              case refine_2 => intro W _; go_simp; try with_reducible rfl
              go_simp
              refine hK _ ?_; clear hK K
              refine wpQuiet_pure (v := ?_) (by kernel_rfl) ?_ (fun K hK => ?_)
              case refine_2 => intro W _; go_simp; try with_reducible rfl
              go_simp
              refine hK _ ?_; clear hK K
              refine wpQuiet_pure (v := ?_) (by kernel_rfl) ?_ (fun K hK => ?_)
              case refine_2 => intro W _; go_simp; try with_reducible rfl
              go_simp
              refine hK _ ?_; clear hK K
              refine wpQuiet_pure (v := ?_) (by kernel_rfl) ?_ (fun K hK => ?_)
              case refine_2 => intro W hW; have e0 := hW.cell ee33; go_simp; try with_reducible rfl
              go_simp
              refine hK _ ?_; clear hK K
              refine wpQuiet_pure (v := ?_) (by kernel_rfl) ?_ (fun K hK => ?_)
              case refine_2 => intro W _; go_simp; try with_reducible rfl
              go_simp
              refine hK _ ?_; clear hK K
              refine wpQuiet_pure (v := ?_) (by kernel_rfl) ?_ (fun K hK => ?_)
              case refine_2 => intro W _; go_simp; try with_reducible rfl
              go_simp
              refine hK _ ?_; clear hK K
              refine wpQuiet_pure (v := ?_) (by kernel_rfl) ?_ (fun K hK => ?_)
              case refine_2 => intro W _; go_simp; try with_reducible rfl
              go_simp
              refine hK _ ?_; clear hK K
              refine wpQuiet_pure (v := ?_) (by kernel_rfl) ?_ (fun K hK => ?_)
              case refine_2 => intro W _; go_simp; try with_reducible rfl
              go_simp
              refine hK _ ?_; clear hK K
              refine wpQuiet_pure (v := ?_) (by kernel_rfl) ?_ (fun K hK => ?_)
              case refine_2 => intro W _; go_simp; try with_reducible rfl
              go_simp
              refine hK _ ?_; clear hK K
              refine wpQuiet_pure (v := ?_) (by kernel_rfl) ?_ (fun K hK => ?_)
              case refine_2 => intro W _; go_simp; try with_reducible rfl
              go_simp
              refine hK _ ?_; clear hK K
              refine wpQuiet_pure (v := ?_) (by kernel_rfl) ?_ (fun K hK => ?_)
              case refine_2 => intro W hW; have e0 := hW.cell ef1; go_simp; try with_reducible rfl
              go_simp
              refine hK _ ?_; clear hK K
              refine wpQuiet_pure (v := ?_) (by kernel_rfl) ?_ (fun K hK => ?_)
              case refine_2 => intro W _; go_simp; try with_reducible rfl
              go_simp
              refine hK _ ?_; clear hK K
              refine wpQuiet_pure (v := ?_) (by kernel_rfl) ?_ (fun K hK => ?_)
              case refine_2 => intro W hW; have e0 := hW.cell em; go_simp; try with_reducible rfl
              go_simp
              refine hK _ ?_; clear hK K
              refine wpQuiet_pure (v := ?_) (by kernel_rfl) ?_ (fun K hK => ?_)
              case refine_2 => intro W _; go_simp; try with_reducible rfl
              go_simp
              refine hK _ ?_; clear hK K
              refine wpQuiet_pure (v := ?_) (by kernel_rfl) ?_ (fun K hK => ?_)
              case refine_2 => intro W _; go_simp; try with_reducible rfl
              go_simp
              refine hK _ ?_; clear hK K
              refine wpQuiet_pure (v := ?_) (by kernel_rfl) ?_ (fun K hK => ?_)
              case refine_2 => intro W _; go_simp; try with_reducible rfl
              go_simp
              refine hK _ ?_; clear hK K
              refine wpQuiet_pure (v := ?_) (by kernel_rfl) ?_ (fun K hK => ?_)
              case refine_2 => intro W hW; have e0 := hW.cell ee34; go_simp; try with_reducible rfl
              go_simp
              refine hK _ ?_; clear hK K
              refine wpQuiet_pure (v := ?_) (by kernel_rfl) ?_ (fun K hK => ?_)
              case refine_2 => intro W _; go_simp; try with_reducible rfl
              go_simp
              refine hK _ ?_; clear hK K
              refine wpQuiet_pure (v := ?_) (by kernel_rfl) ?_ (fun K hK => ?_)
              case refine_2 => intro W _; go_simp; try with_reducible rfl
              go_simp
              refine hK _ ?_; clear hK K
              refine wpQuiet_nil ?_
              intro w6 hk6

              have HK6 : Hid (Kept W5 w6) := Lib.hid ((show Kept W5 wr from HKQ.out).then hk6)
              clear hk6 ef0 ef1 ee33 ee34 em
              go_wp2
              go_roundg (nm - k1)
              · exact ⟨k1, by have := HKI.out; omega, rfl, by first | rfl | (have := HKI.out; congr 1; omega), HN2, HK6⟩
              · have := HKI.out; omega
          · have bq1 : ((fb : Int) == (xb : Int)) = false := beq_eq_false_iff_ne.2 (by omega)
            have HN2 := Lib.hid (HNX.out (fun h => hq1 h.1))
            clear hq1
            go_wp2_with fail
            refine wp_region_kept (by kernel_rfl) (by kernel_rfl) ?_
            refine wpQuiet_pure (v := ?_) (by kernel_rfl) ?_ (fun K hK => ?_)
            case refine_2 => intro W _; go_simp; try with_reducible rfl
            go_simp
            refine hK _ ?_; clear hK K
            refine wpQuiet_pure (v := ?_) (by kernel_rfl) ?_ (fun K hK => ?_)
            case refine_2 => intro W _; go_simp; try with_reducible rfl
            go_simp
            refine hK _ ?_; clear hK K
            refine wpQuiet_pure (v := ?_) (by kernel_rfl) ?_ (fun K hK => ?_)
            case refine_2 => intro W _; go_simp; try with_reducible rfl
            go_simp
            refine hK _ ?_; clear hK K
            refine wpQuiet_pure (v := ?_) (by kernel_rfl) ?_ (fun K hK => ?_)
            case refine_2 => intro W _; go_simp; try with_reducible rfl
            go_simp
            refine hK _ ?_; clear hK K
            refine wpQuiet_pure (v := ?_) (by kernel_rfl) ?_ (fun K hK => ?_)
            case refine_2 => intro W hW; have e0 := hW.cell ef0; go_simp; try with_reducible rfl
            go_simp
            refine hK _ ?_; clear hK K
            refine wpQuiet_pure (v := ?_) (by kernel_rfl) ?_ (fun K hK => ?_)
            case refine_2 => intro W _; go_simp; try with_reducible rfl
            go_simp
            refine hK _ ?_; clear hK K
            refine wpQuiet_pure (v := ?_) (by kernel_rfl) ?_ (fun K hK => ?_)
            case refine_2 => intro W hW; have e0 := hW.cell em; go_simp; try with_reducible rfl
            go_simp
            refine hK _ ?_; clear hK K
            refine wpQuiet_pure (v := ?_) (by kernel_rfl) ?_ (fun K hK => ?_)
            case refine_2 => intro W _; go_simp; try with_reducible rfl
            go_simp
            refine hK _ ?_; clear hK K
            refine wpQuiet_pure (v := ?_) (by kernel_rfl) ?_ (fun K hK => ?_)
            case refine_2 => intro W _; go_simp; try with_reducible rfl
            go_simp
            refine hK _ ?_; clear hK K
            refine wpQuiet_pure (v := ?_) (by kernel_rfl) ?_ (fun K hK => ?_)
            case refine_2 => intro W _; go_simp; try with_reducible rfl
            go_simp
            refine hK _ ?_; clear hK K
            refine wpQuiet_pure (v := ?_) (by kernel_rfl) ?_ (fun K hK => ?_)
            case refine_2 => intro W hW; have e0 := hW.cell ee33; go_simp; try with_reducible rfl
            go_simp
            refine hK _ ?_; clear hK K
            refine wpQuiet_pure (v := ?_) (by kernel_rfl) ?_ (fun K hK => ?_)
            case refine_2 => intro W _; go_simp; try with_reducible rfl
            go_simp
            refine hK _ ?_; clear hK K
            refine wpQuiet_pure (v := ?_) (by kernel_rfl) ?_ (fun K hK => ?_)
            case refine_2 => intro W _; go_simp; try with_reducible rfl
            go_simp
            refine hK _ ?_; clear hK K
            go_big_quiet_skip
            go_big_quiet_skip
            go_big_quiet_skip
            go_big_quiet_skip
            go_big_quiet_skip
            go_big_quiet_skip
            go_big_quiet_skip
            go_big_quiet_skip
            go_big_quiet_skip
            go_big_quiet_skip
            go_big_quiet_skip
            go_big_quiet_skip
            refine wpQuiet_pure (v := ?_) (by kernel_rfl) ?_ (fun K hK => ?_)
            case refine_2 => intro W _; go_simp; try with_reducible rfl
            go_simp
            refine hK _ ?_; clear hK K
            refine wpQuiet_nil ?_
            intro w6 hk6

            have HK6 : Hid (Kept W5 w6) := Lib.hid ((show Kept W5 wr from HKQ.out).then hk6)
            clear hk6 ef0 ef1 ee33 ee34 em
            go_wp2
            go_roundg (nm - k1)
            · exact ⟨k1, by have := HKI.out; omega, rfl, by first | rfl | (have := HKI.out; congr 1; omega), HN2, HK6⟩
            · have := HKI.out; omega
        · have em := True.intro
          have hkm : k = nm := by omega
          have HTN0 : Hid (findV mv (plE E) = none) := Lib.hid (by
            rw [HXB.out]
            have h := HNY.out
            rw [hkm, HNM.out.1] at h
            exact notYet_end h)
          obtain ⟨EN, hEN⟩ : ∃ EN : En, EN = E := ⟨_, rfl⟩
          have HTN : Hid (turnE mv E = EN) := Lib.hid (by unfold turnE; rw [HTN0.out, hEN])
          have HHE : Hid (hitE mv E = false) := Lib.hid (by unfold hitE; rw [HTN0.out]; rfl)
          have HWN : Hid (wfE EN) := Lib.hid (by rw [hEN]; exact HWE.out)
          obtain ⟨XT, hXT⟩ : ∃ X, X = XE := ⟨_, rfl⟩
          have HXT : Hid (XT = enC EN) := Lib.hid (by rw [hXT, hEN]; exact HXE.out)
          have HHN : Hid (hits = ((m.es.take i1).filter (hitE mv)).length ∧ hits ≤ i1) := Lib.hid ⟨by rw [HTK.out, hitsL_snoc, ← HHI.out.1, HHE.out]; rfl, by have := HHI.out.2; have := HKK.out.1; omega⟩
          have r8 : wr.heap[b7]? = some (.cells XT 55 (0, 0)) := by rw [hXT]; exact Kept.row HKQ.out HR5.out
          have HH7 : Hid (MI W0 b0 b5 B id (.slice pv i cv) LI wr) := Lib.hid (HH.out.later HKO.out)
          have c1 := HH7.out.c1
          have HZX : Hid (XT.size = 35) := Lib.hid (by rw [HXT.out]; exact enC_size HWN.out.1)
          have HSX : Hid (0 + 35 ≤ XT.size ∧ XT.extract 0 (0 + 35) = XT) := Lib.hid ⟨by rw [HZX.out]; exact Nat.le_refl _, by rw [show 0 + 35 = XT.size by rw [HZX.out]]; exact Array.extract_size⟩
          have HONE := Lib.hid (fun (W : World) => flat_rec encE W 55 EN HWN.out XT (by rw [HXT.out]; rfl))
          have HLX : Hid (LI ++ [EN] = (m.es.take i1).map (turnE mv)) := Lib.hid (by rw [HLI.out, HTK.out, List.map_append, ← HTN.out]; rfl)

          by_cases hkf : k < nf
          · have bf : decide ((k : Int) < (nf : Int)) = true := decide_eq_true (by omega)
            have bt : decide ((k : Int) < (nt : Int)) = false := decide_eq_false (by have := HNM.out.2; have := HNF.out; have := HNT.out; omega)
            have bi : (k : Int) < nf := by omega
            have bi2 : ¬ (k : Int) < nt := by have := HNM.out.2; have := HNF.out; have := HNT.out; omega
            clear hkm hk hkn hEN hXT hkf
            go_wp2_with (first
              | (with_reducible refine wpList_load_sub rfl _ _ rfl b7 0 35 rfl 55 XT (0, 0) _ r8 Tryd.underlying55 rfl infoEn HSX.out.1 XT HSX.out.2 ?_)
              | (with_reducible refine wpList_buildR rfl _ _ _ rfl 35 ir z Tryd.underlying23 HIR.out HZ1.out HZ0.out (by decide) (by decide) XT rfl HZX.out ?_)
              | (at_builtin; refine wpList_append_flat rfl _ _ 23 rfl B 55 ir z 35 56 Tryd.underlying23 HIR.out HZ0.out HZ1.out HZ2.out HZS.out (by decide) _ _ _ rfl (HH7.out.own.alloc _) _ 1 (enL EN) rfl (HONE.out _) ?qd2 ?qd3 ?qd4 ?_))
            case qd2 => have := HKK.out; have := HL.out; rw [HLK.out]; unfold maxLen; omega
            case qd3 => have := HKK.out; have := HL.out; rw [HLK.out]; omega
            case qd4 => exact Nat.le_trans HH7.out.size (by simp)
            intro v4 w5 hown2 hgrow2 _
            obtain ⟨hr6, hk6, hh6⟩ := HH7.out.app hown2 hgrow2
            rw [HLX.out] at hh6
            have x5 : w5.cell? ⟨b5, 1, none⟩ = some (.slice pv i cv) := by rw [cell_of_row _ _ _ _ _ _ hr6]; rfl
            have f5 := frozen_of_row w5 b5 1 _ _ hr6
            have HH8 := Lib.hid hh6
            obtain ⟨pv', cv', htv', -, -⟩ := own_slice hown2
            rw [HLK.out, ← HKK.out.1] at htv'
            subst htv'
            clear hown2 hgrow2 hr6 hk6 hh6 c1 r8 em
            go_wp2
            go_roundg (n - i1)
            · exact ⟨i1, hits, _, by have := HKK.out; omega, by first | rfl | (congr 1; omega), by first | rfl | (have := HKK.out; congr 1; omega), HHN, HH8⟩
            · have := HKK.out; omega

          · have bf : decide ((k : Int) < (nf : Int)) = false := decide_eq_false (by omega)
            have bi : ¬ (k : Int) < nf := by omega
            clear hkm hk hkn hEN hXT hkf
            go_wp2_with (first
              | (with_reducible refine wpList_load_sub rfl _ _ rfl b7 0 35 rfl 55 XT (0, 0) _ r8 Tryd.underlying55 rfl infoEn HSX.out.1 XT HSX.out.2 ?_)
              | (with_reducible refine wpList_buildR rfl _ _ _ rfl 35 ir z Tryd.underlying23 HIR.out HZ1.out HZ0.out (by decide) (by decide) XT rfl HZX.out ?_)
              | (at_builtin; refine wpList_append_flat rfl _ _ 23 rfl B 55 ir z 35 56 Tryd.underlying23 HIR.out HZ0.out HZ1.out HZ2.out HZS.out (by decide) _ _ _ rfl (HH7.out.own.alloc _) _ 1 (enL EN) rfl (HONE.out _) ?qd2 ?qd3 ?qd4 ?_))
            case qd2 => have := HKK.out; have := HL.out; rw [HLK.out]; unfold maxLen; omega
            case qd3 => have := HKK.out; have := HL.out; rw [HLK.out]; omega
            case qd4 => exact Nat.le_trans HH7.out.size (by simp)
            intro v4 w5 hown2 hgrow2 _
            obtain ⟨hr6, hk6, hh6⟩ := HH7.out.app hown2 hgrow2
            rw [HLX.out] at hh6
            have x5 : w5.cell? ⟨b5, 1, none⟩ = some (.slice pv i cv) := by rw [cell_of_row _ _ _ _ _ _ hr6]; rfl
            have f5 := frozen_of_row w5 b5 1 _ _ hr6
            have HH8 := Lib.hid hh6
            obtain ⟨pv', cv', htv', -, -⟩ := own_slice hown2
            rw [HLK.out, ← HKK.out.1] at htv'
            subst htv'
            clear hown2 hgrow2 hr6 hk6 hh6 c1 r8 em
            go_wp2
            go_roundg (n - i1)
            · exact ⟨i1, hits, _, by have := HKK.out; omega, by first | rfl | (congr 1; omega), by first | rfl | (have := HKK.out; congr 1; omega), HHN, HH8⟩
            · have := HKK.out; omega


    · have hki : ¬ (i : Int) < n := by omega
      have bk : decide ((i : Int) < (n : Int)) = false := by simpa using hki
      have hin : i = n := by omega
      have HH2 : Hid (MI W0 b0 b5 B id (.slice pv i cv) (m.es.map (turnE mv)) wr) := Lib.hid (by
        have h := HH.out
        rw [HLI.out, List.take_of_length_le (by have := HN.out; omega)] at h
        exact h)
      have HHF : Hid (hits = (m.es.filter (hitE mv)).length) := Lib.hid (by
        have h := HHI.out.1
        rw [List.take_of_length_le (by have := HN.out; omega)] at h
        exact h)
      have c0 := HH.out.c0
      have c1 := HH.out.c1
      have g0 : wr.cell? ⟨b0, 0, none⟩ = some (.int .u32 0) := by rw [cell_of_row _ _ _ _ _ _ HH.out.row0]; rfl
      have g1 : wr.cell? ⟨b0, 1, none⟩ = some (.slice none 0 0) := by rw [cell_of_row _ _ _ _ _ _ HH.out.row0]; rfl
      have f0 := frozen_of_row wr b0 0 _ _ HH.out.row0
      have f1 := frozen_of_row wr b0 1 _ _ HH.out.row0
      have HHX : Hid (hits = (m.es.filter (hitE mv)).length) := HHF
      have HWA : Hid (∀ e ∈ m.es.map (turnE mv), wfE e) := Lib.hid (fun e he => by
        obtain ⟨x, hx, rfl⟩ := List.mem_map.1 he
        exact turnE_wf (HE.out.good x hx) HMW.out)
      clear HH hin hlt hi
      go_wp2
      have hd := HH2.out.done HID.out HWA.out
      refine bodyPost_ret (results_cell_tmp_rowM Tryd.results19 _ _ b0 25 #[.int .u32 (id : Nat), .slice pv i cv] (0, 0) _ rfl (set2_rowM HH2.out.row0 _ _) Tryd.underlying25 rfl infoMan) rfl ⟨⟨_, by rw [← HHF.out]; rfl, hd.1⟩, (show Kept w W0 from HK0.out).then hd.2⟩

end Go.Proofs.YteompckehokdoaaDoor
