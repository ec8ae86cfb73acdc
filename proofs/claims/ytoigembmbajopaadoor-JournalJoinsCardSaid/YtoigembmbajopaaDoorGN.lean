/- What was put, flushed, is got; all else stays: the mathematics of BlobBack, of no program. What was used stands, whatever is kept of what was appended: the mathematics of JournalAhead, of no program. -/
import Derived.Test.YtoigembmbajopaaDoorGG
import Derived.Test.YtoigembmbajopaaDoorGJ
namespace Go.Proofs.YtoigembmbajopaaDoor

theorem visK_none (i : Nat) : ∀ (ws : List (Nat × List UInt8)) (t : List UInt8), (∀ p ∈ ws, p.1 ≠ i) → visK i t ws = t
  | [], _, _ => rfl
  | p :: ws, t, h => by
    show visK i (if p.1 = i then p.2 else t) ws = t
    rw [if_neg (h p (List.mem_cons_self ..))]
    exact visK_none i ws t (fun q hq => h q (List.mem_cons_of_mem _ hq))
theorem visK_app (i : Nat) (t : List UInt8) (a b : List (Nat × List UInt8)) : visK i t (a ++ b) = visK i (visK i t a) b := List.foldl_append
/-- A disk that neither is down nor will be. -/
def Dk.calmB (s : Dk) : Prop := s.down = false ∧ s.fuse < 0
theorem calmB_write {s : Dk} (h : s.calmB) (i : Nat) (hi : i < s.stands.length) (t : List UInt8) (ht : t.length = 128) :
    s.writeE (i : Nat) t = 0 ∧ (s.writeS (i : Nat) t).calmB ∧ (s.writeS (i : Nat) t).stands = s.stands ∧ (s.writeS (i : Nat) t).waits = s.waits ++ [(i, t)] ∧ (s.writeS (i : Nat) t).ops = s.ops + 1 := by
  have ho : ¬ s.out (i : Nat) := by unfold Dk.out; omega
  have hb : ¬ s.bad (i : Nat) t := by
    unfold Dk.bad
    rintro (h1 | h1 | h1)
    · rw [h.1] at h1; cases h1
    · exact ho h1
    · exact h1 ht
  have hw : s.writeS (i : Nat) t = ({ s with waits := s.waits ++ [(((i : Nat) : Int).toNat, t)] } : Dk).cut := if_neg hb
  refine ⟨?_, ?_, ?_, ?_, ?_⟩
  · unfold Dk.writeE
    rw [if_neg (by rw [h.1]; decide), if_neg ho, if_neg (by omega), if_neg (by have := h.2; omega)]
  · rw [hw]
    refine ⟨?_, ?_⟩
    · show (s.down || s.fuse == 0) = false
      rw [h.1, Bool.false_or, beq_eq_false_iff_ne]
      have := h.2; omega
    · show (if 0 < s.fuse then s.fuse - 1 else s.fuse) < 0
      have := h.2
      rw [if_neg (by omega)]; exact this
  · rw [hw]; rfl
  · rw [hw]
    show s.waits ++ [(((i : Nat) : Int).toNat, t)] = _
    rw [Int.toNat_natCast]
  · rw [hw]; rfl
def waitsP (l : List Nat) (t : List UInt8) (k g : Nat) : List (Nat × List UInt8) := (List.range g).map fun i => (l.getD (k + i) 0, partB t (k + i))
theorem waitsP_succ (l : List Nat) (t : List UInt8) (k g : Nat) : waitsP l t k (g + 1) = (l.getD k 0, partB t k) :: waitsP l t (k + 1) g := by
  unfold waitsP
  rw [List.range_succ_eq_map, List.map_cons, List.map_map]
  congr 1
  refine List.map_congr_left fun i _ => ?_
  show (l.getD (k + (i + 1)) 0, partB t (k + (i + 1))) = _
  rw [show k + (i + 1) = k + 1 + i by omega]
theorem putG_calmB : ∀ (g k : Nat) (s : Dk) (l : List Nat) (t : List UInt8), s.calmB → (∀ i, k ≤ i → i < k + g → l.getD i 0 < s.stands.length) →
    (putG s l t k g).2 = 0 ∧ (putG s l t k g).1.calmB ∧ (putG s l t k g).1.stands = s.stands ∧ (putG s l t k g).1.waits = s.waits ++ waitsP l t k g ∧ (putG s l t k g).1.ops = s.ops + g
  | 0, _, s, l, t, h, _ => ⟨rfl, h, rfl, by show s.waits = s.waits ++ []; rw [List.append_nil], rfl⟩
  | g + 1, k, s, l, t, h, hl => by
    obtain ⟨e0, e1, e2, e3, e4⟩ := calmB_write h (l.getD k 0) (hl k (Nat.le_refl _) (by omega)) (partB t k) (partB_len t k)
    obtain ⟨f0, f1, f2, f3, f4⟩ := putG_calmB g (k + 1) (s.writeS (l.getD k 0 : Nat) (partB t k)) l t e1 (fun i hi hk => by rw [e2]; exact hl i (by omega) (by omega))
    have ep : putG s l t k (g + 1) = putG (s.writeS (l.getD k 0 : Nat) (partB t k)) l t (k + 1) g := by
      conv => lhs; unfold putG
      rw [if_pos e0]
    rw [ep]
    refine ⟨f0, f1, f2.trans e2, ?_, by rw [f4, e4]; omega⟩
    rw [f3, e3, waitsP_succ, List.append_assoc]
    rfl

theorem standK_all (st : List (List UInt8)) (ws : List (Nat × List UInt8)) (i : Nat) (hi : i < st.length) : ∀ k, k ≤ ws.length → (standK keepAll st ws k).getD i [] = visK i (st.getD i []) (ws.take k)
  | 0, _ => by rw [List.take_zero]; rfl
  | k + 1, hk => by
    have ih := standK_all st ws i hi k (by omega)
    have hl := standK_len keepAll st ws k
    have hw : ws.getD k (0, []) = ws[k] := by rw [List.getD_eq_getElem?_getD, List.getElem?_eq_getElem (by omega)]; rfl
    rw [List.take_succ_eq_append_getElem (by omega), visK_snoc, ← ih]
    show (if keepAll k = true then _ else _ : List (List UInt8)).getD i [] = _
    rw [if_pos (show keepAll k = true from rfl), hw]
    by_cases e : ws[k].1 = i
    · rw [if_pos e, e, List.getD_eq_getElem?_getD, List.getElem?_set_self (by omega)]
      rfl
    · rw [if_neg e, List.getD_eq_getElem?_getD, List.getElem?_set_ne e, ← List.getD_eq_getElem?_getD]

theorem waits_other (l : List Nat) (t : List UInt8) (i : Nat) (h : i ∉ l) (hl : ∀ k, k < l.length → l.getD k 0 ∈ l) : ∀ p ∈ waitsP l t 0 l.length, p.1 ≠ i := by
  intro p hp e
  obtain ⟨k, hk, rfl⟩ := List.mem_map.1 hp
  simp only [Nat.zero_add] at e
  exact h (e ▸ hl k (List.mem_range.1 hk))
theorem getD_mem (l : List Nat) (k : Nat) (h : k < l.length) : l.getD k 0 = l[k] := by rw [List.getD_eq_getElem?_getD, List.getElem?_eq_getElem h]; rfl
theorem waits_at (l : List Nat) (t : List UInt8) (hn : l.Nodup) (j : Nat) (hj : j < l.length) (u : List UInt8) : visK l[j] u (waitsP l t 0 l.length) = partB t j := by
  have hsp : waitsP l t 0 l.length = waitsP l t 0 j ++ ((l.getD j 0, partB t j) :: waitsP l t (j + 1) (l.length - j - 1)) := by
    rw [← waitsP_succ, show l.length - j - 1 + 1 = l.length - j by omega]
    unfold waitsP
    refine List.ext_getElem (by simp; omega) fun i h1 h2 => ?_
    simp only [List.getElem_map, List.getElem_range, Nat.zero_add]
    by_cases hij : i < j
    · rw [List.getElem_append_left (by simpa using hij)]
      simp
    · rw [List.getElem_append_right (by simpa using hij)]
      simp only [List.getElem_map, List.getElem_range, List.length_map, List.length_range]
      rw [show j + (i - j) = i by omega]
  rw [hsp, visK_app]
  show visK l[j] (if l.getD j 0 = l[j] then partB t j else _) _ = _
  rw [if_pos (getD_mem l j hj)]
  refine visK_none _ _ _ fun p hp e => ?_
  obtain ⟨i, hi, rfl⟩ := List.mem_map.1 hp
  have hi2 := List.mem_range.1 hi
  simp only at e
  rw [getD_mem l _ (by omega)] at e
  exact List.pairwise_iff_getElem.1 hn j (j + 1 + i) hj (by omega) (by omega) e.symm

theorem parts_join (t : List UInt8) : ∀ n, (List.range n).flatMap (partB t) = fillL (t.take (128 * n)) (128 * n)
  | 0 => by show [] = t.take 0 ++ _; simp
  | n + 1 => by
    rw [List.range_succ, List.flatMap_append, parts_join t n]
    simp only [List.flatMap_cons, List.flatMap_nil, List.append_nil]
    unfold partB fillL
    by_cases h : 128 * n ≤ t.length
    · rw [show 128 * n - (t.take (128 * n)).length = 0 by rw [List.length_take]; omega]
      simp only [List.replicate_zero, List.append_nil]
      rw [← List.append_assoc, show t.take (128 * (n + 1)) = t.take (128 * n) ++ (t.drop (128 * n)).take 128 by rw [← List.take_add]; rfl]
      congr 2
      simp only [List.length_append, List.length_take, List.length_drop]
      omega
    · have a1 : t.drop (128 * n) = [] := List.drop_of_length_le (by omega)
      have a2 : t.take (128 * n) = t := List.take_of_length_le (by omega)
      have a3 : t.take (128 * (n + 1)) = t := List.take_of_length_le (by omega)
      rw [a1, a2, a3]
      simp only [List.take_nil, List.length_nil, List.nil_append, Nat.sub_zero]
      rw [List.append_assoc, List.replicate_append_replicate]
      congr 2
      omega
theorem parts_take (t : List UInt8) (n : Nat) (h : t.length ≤ 128 * n) : ((List.range n).flatMap (partB t)).take t.length = t := by
  rw [parts_join]
  have a : t.take (128 * n) = t := List.take_of_length_le h
  unfold fillL
  rw [a, List.take_left' rfl]

/-- What was put is got behind a Flush; the other sectors stay. -/
theorem back_math (img : List UInt8) (hi : img.length = 5120) (l : List (Int × Int)) (t : List UInt8) (ht : t.length ≤ 3000) (hf : fitB l 40 t.length) :
    ∃ s1 : Dk, bPut (Dk.load img) l t = (s1, 0) ∧ s1.ok ∧ s1.ops ≤ 40 ∧ s1.flushE = 0 ∧ s1.flushS.ok ∧ s1.flushS.ops ≤ 41 ∧
      ∀ s3, (s3 = s1.flushS ∨ s3 = s1.flushS.powerS []) → s3.ok ∧ s3.ops ≤ 41 ∧ bGet s3 l t.length = (t, 0) ∧ s3.image.length = 5120 ∧ ∀ i, i < 40 → hasR l i = false → (s3.image.drop (128 * i)).take 128 = (img.drop (128 * i)).take 128 := by
  have hlo : loadOk img := by unfold loadOk; omega
  have hok0 := Dk.ok.load hlo
  have hst0 : (Dk.load img).stands.length = 40 := by show (secs img).length = 40; rw [secs_len, hi]
  have hc0 : (Dk.load img).calmB := ⟨rfl, by show (-1 : Int) < 0; omega⟩
  obtain ⟨g1, g2, g3, g4, g5⟩ := fitB_list hf
  have hA : ∀ k, k < (allR l).length → (allR l).getD k 0 ∈ allR l := fun k hk => by rw [getD_mem _ _ hk]; exact List.getElem_mem hk
  have hlt : ∀ k ∈ allR l, k < 40 := fun k hk => by have := (g4 k hk).1; omega
  obtain ⟨e0, e1, e2, e3, e4⟩ := putG_calmB (allR l).length 0 (Dk.load img) (allR l) t hc0 (fun i _ hik => by rw [hst0]; exact hlt _ (hA i (by omega)))
  have hw0 : (Dk.load img).waits = [] := rfl
  rw [hw0, List.nil_append] at e3
  have hok1 := putG_ok (allR l).length 0 (allR l) t hok0
  have hlen40 : (allR l).length ≤ 40 := by
    have := (needN_bytes g2).2
    omega
  have hput : bPut (Dk.load img) l t = putG (Dk.load img) (allR l) t 0 (allR l).length := by
    unfold bPut
    rw [hst0, if_neg (by simpa using hf), if_neg (show ¬ ((Dk.load img).down = true) from fun x => by cases x)]
  obtain ⟨s1, hs1⟩ : ∃ s1, s1 = (putG (Dk.load img) (allR l) t 0 (allR l).length).1 := ⟨_, rfl⟩
  rw [← hs1] at e1 e2 e3 e4 hok1
  have hops1 : s1.ops ≤ 40 := by rw [e4]; show 0 + _ ≤ 40; omega
  have hfe : s1.flushE = 0 := by unfold Dk.flushE; rw [if_neg (by rw [e1.1]; decide), if_neg (by have := e1.2; omega)]
  have hfs : s1.flushS = s1.cut.stand keepAll := by unfold Dk.flushS; rw [if_neg (by rw [e1.1]; decide), if_neg (by have := e1.2; omega)]
  have hok2 := hok1.flush
  have hst2 : s1.flushS.stands = standK keepAll (Dk.load img).stands (waitsP (allR l) t 0 (allR l).length) (allR l).length := by
    rw [hfs]
    show standK keepAll s1.stands s1.waits s1.waits.length = _
    rw [e2, e3]
    unfold waitsP
    rw [List.length_map, List.length_range]
  have hwt2 : s1.flushS.waits = [] := by rw [hfs]; rfl
  have hdn2 : s1.flushS.down = false := by
    rw [hfs]
    show (s1.down || s1.fuse == 0) = false
    rw [e1.1, Bool.false_or, beq_eq_false_iff_ne]
    have := e1.2; omega
  have hops2 : s1.flushS.ops ≤ 41 := by rw [hfs]; show s1.ops + 1 ≤ 41; omega
  have hl2 : s1.flushS.stands.length = 40 := by rw [hst2, standK_len, hst0]
  have hget : ∀ i, i < 40 → s1.flushS.stands.getD i [] = visK i ((Dk.load img).stands.getD i []) (waitsP (allR l) t 0 (allR l).length) := fun i hi40 => by
    have := standK_all (Dk.load img).stands (waitsP (allR l) t 0 (allR l).length) i (by omega) (allR l).length (by unfold waitsP; simp)
    rw [hst2, this, List.take_of_length_le (by unfold waitsP; simp)]
  refine ⟨s1, by rw [hput, hs1, ← e0], hok1, hops1, hfe, hok2, hops2, fun s3 h3 => ?_⟩
  have h3s : s3.stands = s1.flushS.stands ∧ s3.waits = [] ∧ s3.down = false ∧ s3.ok ∧ s3.ops ≤ 41 := by
    rcases h3 with rfl | rfl
    · exact ⟨rfl, hwt2, hdn2, hok2, hops2⟩
    · refine ⟨?_, rfl, rfl, hok2.power [], hops2⟩
      show standK (keepL []) s1.flushS.stands s1.flushS.waits s1.flushS.waits.length = _
      rw [hwt2]
      rfl
  obtain ⟨k1, k2, k3, k4, k5⟩ := h3s
  have hl3 : s3.stands.length = 40 := by rw [k1, hl2]
  have hvis : ∀ i, s3.vis i = s1.flushS.stands.getD i [] := fun i => by unfold Dk.vis; rw [k1, k2]; rfl
  refine ⟨k4, k5, ?_, ?_, ?_⟩
  · unfold bGet
    rw [hl3, if_neg (by simpa using hf), if_neg (by rw [k3]; decide)]
    have hfm : (allR l).flatMap s3.vis = (List.range (allR l).length).flatMap (partB t) := by
      have hm : (allR l).map s3.vis = (List.range (allR l).length).map (partB t) := by
        refine List.ext_getElem (by simp) fun i h1 h2 => ?_
        have hil : i < (allR l).length := by simpa using h1
        rw [List.getElem_map, List.getElem_map, List.getElem_range, hvis, hget _ (hlt _ (List.getElem_mem hil))]
        exact waits_at (allR l) t g3 i hil _
      rw [List.flatMap_def, List.flatMap_def, hm]
    rw [hfm, Int.toNat_natCast, parts_take t _ (needN_bytes g2).1]
  · rw [k4.image_len, hl3]
  · intro i hi40 hni
    have hnot : i ∉ allR l := fun x => by rw [(g5 i).1 x] at hni; cases hni
    unfold Dk.image
    rw [flat_sect s3.stands k4.sect i (by omega)]
    have h1 := hget i hi40
    rw [visK_none i _ _ (waits_other (allR l) t i hnot hA), ← k1, List.getD_eq_getElem?_getD, List.getElem?_eq_getElem (by omega)] at h1
    rw [show s3.stands[i]'(by omega) = (some (s3.stands[i]'(by omega))).getD [] from rfl, h1]
    exact secs_get img i (by omega)

end Go.Proofs.YtoigembmbajopaaDoor
namespace Go.Proofs.YtoigembmbajopaaDoor

theorem standK_any (keep : Nat → Bool) (st : List (List UInt8)) (ws : List (Nat × List UInt8)) (i : Nat) : ∀ k, k ≤ ws.length → (standK keep st ws k).getD i [] = st.getD i [] ∨ ∃ p ∈ ws, p.1 = i ∧ (standK keep st ws k).getD i [] = p.2
  | 0, _ => Or.inl rfl
  | k + 1, hk => by
    have ih := standK_any keep st ws i k (by omega)
    have hp : ws.getD k (0, []) ∈ ws := by
      rw [List.getD_eq_getElem?_getD, List.getElem?_eq_getElem (by omega)]
      exact List.getElem_mem (by omega)
    unfold standK
    split
    · by_cases e : (ws.getD k (0, [])).1 = i
      · by_cases hi : i < (standK keep st ws k).length
        · refine Or.inr ⟨_, hp, e, ?_⟩
          rw [e, List.getD_eq_getElem?_getD, List.getElem?_set_self hi]
          rfl
        · rw [List.set_eq_of_length_le (by omega)]
          exact ih
      · rw [List.getD_eq_getElem?_getD, List.getElem?_set_ne e, ← List.getD_eq_getElem?_getD]
        exact ih
    · exact ih
theorem writeS_waits (s : Dk) (i : Nat) (t : List UInt8) : (s.writeS (i : Nat) t).waits = s.waits ∨ (s.writeS (i : Nat) t).waits = s.waits ++ [(i, t)] := by
  unfold Dk.writeS
  split
  · exact Or.inl rfl
  · refine Or.inr ?_
    show s.waits ++ [(((i : Nat) : Int).toNat, t)] = _
    rw [Int.toNat_natCast]
theorem putG_waits : ∀ (g k : Nat) (s : Dk) (l : List Nat) (t : List UInt8), ∀ p ∈ (putG s l t k g).1.waits, p ∈ s.waits ∨ ∃ i, k ≤ i ∧ i < k + g ∧ p = (l.getD i 0, partB t i)
  | 0, _, _, _, _, _, hp => Or.inl hp
  | g + 1, k, s, l, t, p, hp => by
    have one : ∀ q ∈ (s.writeS (l.getD k 0 : Nat) (partB t k)).waits, q ∈ s.waits ∨ ∃ i, k ≤ i ∧ i < k + (g + 1) ∧ q = (l.getD i 0, partB t i) := fun q hq => by
      rcases writeS_waits s (l.getD k 0) (partB t k) with e | e
      · rw [e] at hq; exact Or.inl hq
      · rw [e] at hq
        rcases List.mem_append.1 hq with z | z
        · exact Or.inl z
        · exact Or.inr ⟨k, Nat.le_refl _, by omega, List.mem_singleton.1 z⟩
    unfold putG at hp
    split at hp
    · rcases putG_waits g (k + 1) _ l t p hp with z | ⟨i, h1, h2, h3⟩
      · exact one p z
      · exact Or.inr ⟨i, by omega, by omega, h3⟩
    · exact one p hp
theorem flat_take (u : Nat) (a b : Nat → List UInt8) : ∀ n, (∀ i, i < n → (a i).length = 128 ∧ (b i).length = 128 ∧ (a i).take (u - 128 * i) = (b i).take (u - 128 * i)) → ((List.range n).flatMap a).take u = ((List.range n).flatMap b).take u ∧ ((List.range n).flatMap a).length = 128 * n ∧ ((List.range n).flatMap b).length = 128 * n
  | 0, _ => ⟨rfl, rfl, rfl⟩
  | n + 1, h => by
    obtain ⟨i1, i2, i3⟩ := flat_take u a b n (fun i hi => h i (by omega))
    obtain ⟨h1, h2, h3⟩ := h n (by omega)
    rw [List.range_succ, List.flatMap_append, List.flatMap_append]
    simp only [List.flatMap_cons, List.flatMap_nil, List.append_nil]
    refine ⟨?_, ?_, ?_⟩
    · rw [List.take_append, List.take_append, i1, i2, i3, h3]
    · rw [List.length_append, i2, h1]; omega
    · rw [List.length_append, i3, h2]; omega
theorem secJ_flat (a n : Nat) (f : Nat → List UInt8) : (secJ a n).flatMap f = (List.range n).flatMap fun i => f (2 + a + i) := by
  unfold secJ
  rw [List.flatMap_map]

/-- Sectors that begin with what was used. -/
def Heads (s : Dk) (u : Nat) (T : List UInt8) : Prop := T.take (u % 128) = (s.vis (2 + u / 128)).take (u % 128)
theorem part_head (T : List UInt8) (q : Nat) (hq : q < 128) (h : q ≤ T.length) : (partB T 0).take q = T.take q := by
  unfold partB fillL
  rw [Nat.mul_zero, List.drop_zero, List.take_append, List.take_take, List.length_take, show q - min 128 T.length = 0 by omega, List.take_zero, List.append_nil, show min q 128 = q by omega]

/-- What was used stands, whatever is kept. -/
theorem ahead_math (s s1 : Dk) (hok : s.ok) (hok1 : s1.ok) (hw : s.waits = []) (hst : s1.stands = s.stands) (u : Nat) (hu : 2 + cntJ u ≤ s.stands.length) (t : List UInt8)
    (hp : ∀ p ∈ s1.waits, ∃ i, p = (2 + u / 128 + i, partB (jApT s u t) i)) (l : List Bool) :
    ((secJ 0 (cntJ u)).flatMap (s1.powerS l).vis).take u = ((secJ 0 (cntJ u)).flatMap s.vis).take u := by
  rw [secJ_flat, secJ_flat]
  have hok2 := hok1.power l
  have hl2 : (s1.powerS l).stands.length = s.stands.length := by
    show (standK (keepL l) s1.stands s1.waits s1.waits.length).length = _
    rw [standK_len, hst]
  have hby := cntJ_bytes u
  refine (flat_take u _ _ _ fun i hi => ⟨?_, ?_, ?_⟩).1
  · exact hok2.vis_len _ (by rw [hl2]; omega)
  · exact hok.vis_len _ (by omega)
  · have e1 : (s1.powerS l).vis (2 + 0 + i) = (standK (keepL l) s.stands s1.waits s1.waits.length).getD (2 + 0 + i) [] := by
      show visK _ ((standK (keepL l) s1.stands s1.waits s1.waits.length).getD (2 + 0 + i) []) [] = _
      rw [hst]; rfl
    have e2 : s.vis (2 + 0 + i) = s.stands.getD (2 + 0 + i) [] := by unfold Dk.vis; rw [hw]; rfl
    rw [e1]
    rcases standK_any (keepL l) s.stands s1.waits (2 + 0 + i) _ (Nat.le_refl _) with e | ⟨p, hpm, hpi, e⟩
    · rw [e, e2]
    · rw [e]
      obtain ⟨k, rfl⟩ := hp p hpm
      simp only at hpi ⊢
      have hk : k = 0 ∧ i = u / 128 := by omega
      obtain ⟨rfl, rfl⟩ := hk
      have hvl := hok.vis_len (2 + u / 128) (by omega)
      have hq : u - 128 * (u / 128) = u % 128 := by omega
      rw [hq, Nat.add_zero, part_head _ _ (Nat.mod_lt _ (by omega)) (by unfold jApT; rw [List.length_append, List.length_take]; omega)]
      unfold jApT
      rw [List.take_append, List.length_take, hvl, show u % 128 - min (u % 128) 128 = 0 by omega, List.take_zero, List.append_nil, List.take_take, Nat.min_self]

theorem flatMap_same {α β : Type} {l : List α} {f g : α → List β} (h : ∀ x ∈ l, f x = g x) : l.flatMap f = l.flatMap g := by
  unfold List.flatMap
  rw [List.map_congr_left h]
theorem flat_used (u : Nat) (g : Nat → List UInt8) (h : ∀ i, i < cntJ u → (g i).length = 128) : ((List.range (cntJ u)).flatMap g).take u = (List.range (u / 128)).flatMap g ++ (g (u / 128)).take (u % 128) ∧ ((List.range (u / 128)).flatMap g).length = 128 * (u / 128) := by
  have hlen : ∀ n, n ≤ cntJ u → ((List.range n).flatMap g).length = 128 * n := by
    intro n
    induction n with
    | zero => exact fun _ => rfl
    | succ n ih =>
      intro hn
      rw [List.range_succ, List.flatMap_append, List.length_append, ih (by omega)]
      simp only [List.flatMap_cons, List.flatMap_nil, List.append_nil]
      rw [h n (by omega)]
      omega
  have hf : u / 128 ≤ cntJ u := by unfold cntJ; omega
  have l1 := hlen (u / 128) hf
  refine ⟨?_, l1⟩
  by_cases hq : u % 128 = 0
  · have hc : cntJ u = u / 128 := by unfold cntJ; omega
    rw [hc, hq, List.take_zero, List.append_nil, List.take_of_length_le (by omega)]
  · have hc : cntJ u = u / 128 + 1 := by unfold cntJ; omega
    rw [hc, List.range_succ, List.flatMap_append, List.take_append, l1, List.take_of_length_le (by omega)]
    simp only [List.flatMap_cons, List.flatMap_nil, List.append_nil]
    rw [show u - 128 * (u / 128) = u % 128 by omega]
theorem secJ_nodup (a n : Nat) : (secJ a n).Nodup := by
  unfold secJ
  exact List.Pairwise.map _ (fun x y (e : x ≠ y) => by show 2 + a + x ≠ 2 + a + y; omega) List.nodup_range

/-- Appended on a calm disk, flushed: it stands behind what was used. -/
theorem again_math (s : Dk) (hok : s.ok) (hw : s.waits = []) (hc : s.calmB) (u : Nat) (hu : 2 + cntJ u ≤ s.stands.length) (t : List UInt8) (hfit : t.length ≠ 0 → 256 + u + t.length ≤ 128 * s.stands.length) :
    (jApp s u t).2 = 0 ∧ (jApp s u t).1.flushE = 0 ∧ ((jApp s u t).1.flushS.powerS []).stands.length = s.stands.length ∧ ((secJ 0 (cntJ (u + t.length))).flatMap ((jApp s u t).1.flushS.powerS []).vis).take (u + t.length) = ((secJ 0 (cntJ u)).flatMap s.vis).take u ++ t := by
  have hcalm : ∀ s1 : Dk, s1.calmB → s1.flushE = 0 ∧ s1.flushS.powerS [] = { (s1.cut.stand keepAll).stand (keepL []) with fuse := -1, down := false } := fun s1 h => by
    refine ⟨?_, ?_⟩
    · unfold Dk.flushE; rw [if_neg (by rw [h.1]; decide), if_neg (by have := h.2; omega)]
    · unfold Dk.powerS Dk.flushS; rw [if_neg (by rw [h.1]; decide), if_neg (by have := h.2; omega)]
  have hvis : ∀ s1 : Dk, s1.calmB → ∀ i, (s1.flushS.powerS []).vis i = (standK keepAll s1.stands s1.waits s1.waits.length).getD i [] := fun s1 h i => by
    rw [(hcalm s1 h).2]; rfl
  have hlen : ∀ s1 : Dk, s1.calmB → (s1.flushS.powerS []).stands.length = s1.stands.length := fun s1 h => by
    rw [(hcalm s1 h).2]
    show (standK keepAll s1.stands s1.waits s1.waits.length).length = _
    rw [standK_len]
  by_cases h0 : t.length = 0
  · have ht : t = [] := List.length_eq_zero_iff.1 h0
    have hj : jApp s u t = (s, 0) := by unfold jApp; rw [if_neg (by rw [hc.1]; decide), if_pos h0]
    rw [hj]
    refine ⟨rfl, (hcalm s hc).1, hlen s hc, ?_⟩
    rw [ht, List.append_nil]
    show ((secJ 0 (cntJ u)).flatMap _).take u = _
    have he : ∀ k, (s.flushS.powerS []).vis k = s.vis k := fun k => by
      rw [hvis s hc k, hw]
      unfold Dk.vis
      rw [hw]
      rfl
    rw [show (s.flushS.powerS []).vis = s.vis from funext he]
  · have hfit := hfit h0
    obtain ⟨f, hf⟩ : ∃ f, f = u / 128 := ⟨_, rfl⟩
    obtain ⟨T, hT⟩ : ∃ T, T = jApT s u t := ⟨_, rfl⟩
    obtain ⟨n, hn⟩ : ∃ n, n = cntJ T.length := ⟨_, rfl⟩
    have hvf := hok.vis_len (2 + f) (by omega)
    have hTl : T.length = u % 128 + t.length := by
      rw [hT]; unfold jApT; rw [List.length_append, List.length_take, ← hf, hvf]; omega
    have hby := cntJ_bytes T.length
    rw [← hn] at hby
    have hN : cntJ (u + t.length) = f + n := by rw [hn, hTl]; unfold cntJ; omega
    have hj : jApp s u t = putG s (secJ f n) T 0 n := by unfold jApp; rw [if_neg (by rw [hc.1]; decide), if_neg h0, ← hT, ← hn, ← hf]
    obtain ⟨e0, e1, e2, e3, _⟩ := putG_calmB n 0 s (secJ f n) T hc (fun i _ hi => by rw [secJ_at f n i (by omega)]; omega)
    rw [← hj] at e0 e1 e2 e3
    rw [hw, List.nil_append] at e3
    obtain ⟨s1, hs1⟩ : ∃ s1, s1 = (jApp s u t).1 := ⟨_, rfl⟩
    rw [← hs1] at e1 e2 e3 ⊢
    refine ⟨e0, (hcalm s1 e1).1, by rw [hlen s1 e1, e2], ?_⟩
    have hsl : (secJ f n).length = n := secJ_len f n
    have hget : ∀ i, i < s.stands.length → (s1.flushS.powerS []).vis i = visK i (s.vis i) (waitsP (secJ f n) T 0 n) := fun i hi => by
      rw [hvis s1 e1 i, e2, e3, standK_all s.stands _ i hi _ (Nat.le_refl _), List.take_of_length_le (Nat.le_refl _)]
      unfold Dk.vis
      rw [hw]
      rfl
    have hold : ∀ i, i < f → (s1.flushS.powerS []).vis (2 + i) = s.vis (2 + i) := fun i hi => by
      rw [hget (2 + i) (by omega)]
      refine visK_none _ _ _ fun p hp e => ?_
      have := waits_other (secJ f n) T (2 + i) (fun hm => by have := secJ_mem hm; omega) (fun k hk => by rw [getD_mem _ _ hk]; exact List.getElem_mem hk) p (by rw [hsl]; exact hp)
      exact this e
    have hnew : ∀ i, i < n → (s1.flushS.powerS []).vis (2 + (f + i)) = partB T i := fun i hi => by
      rw [hget (2 + (f + i)) (by omega)]
      have hi2 : i < (secJ f n).length := by rw [hsl]; exact hi
      have h1 := waits_at (secJ f n) T (secJ_nodup f n) i hi2 (s.vis (2 + (f + i)))
      have h2 : (secJ f n)[i] = 2 + (f + i) := by rw [← getD_mem _ _ hi2, secJ_at f n i hi]; omega
      rw [h2, hsl] at h1
      exact h1
    rw [hN, secJ_flat, secJ_flat]
    simp only [Nat.add_zero]
    rw [List.range_add, List.flatMap_append, List.flatMap_map]
    have a1 : (List.range f).flatMap (fun i => (s1.flushS.powerS []).vis (2 + i)) = (List.range f).flatMap fun i => s.vis (2 + i) := flatMap_same fun i hi => hold i (List.mem_range.1 hi)
    have a2 : (List.range n).flatMap (fun i => (s1.flushS.powerS []).vis (2 + (f + i))) = (List.range n).flatMap (partB T) := flatMap_same fun i hi => hnew i (List.mem_range.1 hi)
    have a3 := flat_used u (fun i => s.vis (2 + i)) (fun i hi => hok.vis_len _ (by omega))
    rw [← hf] at a3
    rw [a1, a2, a3.1, List.take_append, a3.2, List.take_of_length_le (by rw [a3.2]; omega), show u + t.length - 128 * f = T.length by omega, parts_take T n hby.1, List.append_assoc]
    congr 1
    rw [hT]
    unfold jApT
    rw [← hf]

end Go.Proofs.YtoigembmbajopaaDoor
