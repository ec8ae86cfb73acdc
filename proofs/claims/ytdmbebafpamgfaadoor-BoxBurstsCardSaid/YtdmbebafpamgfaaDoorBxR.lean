/- Heads and lists of numbers in memory; the document's ID, Lens, May, Good. -/
import Derived.Test.YtdmbebafpamgfaaDoorBxM
import Derived.Test.YtdmbebafpamgfaaDoorFlat
import Derived.Test.YtdmbebafpamgfaaDoorGen
import Derived.Test.YtdmbebafpamgfaaDoorRfP
import Derived.Deep.LoopGhost
import Derived.Deep.CutBlock
namespace Go.Proofs.YtdmbebafpamgfaaDoor
open Go.RowKit

/-- Behind an append to an own row of w's, all that w had stands. -/
theorem append_keptX {w w3 w4 : World} {base n size : Nat} {e : TypeId} {v : Value} {xs : List Value} {o : Obj} (h : Kept w w3) (hB : w.heap.size ≤ base) (hown : w3.ownsRow base e size v n xs) (hg : (w3.alloc o).grownBy w4 v.ownBlock) : Kept w w4 := by
  refine ⟨hg.os.trans h.os, hg.tape.trans h.tape, hg.output.trans h.output, by have := hg.size; have := h.size; simp at *; omega, fun j hj => ?_⟩
  have hs := h.size
  rw [hg.block j (by simp; omega) (fun e => by have := (hown.lt j e.symm).1; omega), Below.heap_alloc _ _ _ (by omega)]
  exact h.block j hj

def nV (l : List Nat) : List Value := l.map fun n : Nat => Value.int .i64 (n : Int)
theorem nV_len (l : List Nat) : (nV l).length = l.length := by unfold nV; rw [List.length_map]
theorem nV_get (l : List Nat) (k : Nat) (h : k < l.length) : (nV l)[k]? = some (.int .i64 (l[k] : Nat)) := by unfold nV; rw [List.getElem?_map, List.getElem?_eq_getElem h]; rfl
theorem nV_snoc (l : List Nat) (n : Nat) : nV l ++ [Value.int .i64 (n : Nat)] = nV (l ++ [n]) := by unfold nV; rw [List.map_append]; rfl
theorem nV_one (l : List Nat) : ∀ x ∈ nV l, x.oneCell' = true := fun x hx => by
  obtain ⟨n, _, rfl⟩ := List.mem_map.1 hx
  rfl
/-- A slice of lengths. -/
def NatsAt (l : List Nat) (v : Value) (w : World) : Prop := FlatAt 1 l.length (nV l) v w
theorem NatsAt.out {l : List Nat} {v : Value} {w : World} (h : NatsAt l v w) : ∃ p c, v = .slice p l.length c ∧ (l.length = 0 ∨ ∃ b off, p = some ⟨b, off, none⟩ ∧ ∀ k (hk : k < l.length), w.cell? ⟨b, off + k, none⟩ = some (.int .i64 (l[k] : Nat))) := by
  obtain ⟨_, _, p, c, rfl, hc⟩ := h
  refine ⟨p, c, rfl, ?_⟩
  rcases hc with h0 | ⟨b, off, hp, hc⟩
  · exact Or.inl h0
  · exact Or.inr ⟨b, off, hp, fun k hk => hc k _ (nV_get l k hk)⟩
theorem NatsAt.own {w : World} {base : Nat} {e : TypeId} {v : Value} {l : List Nat} (h : w.ownsRow base e 1 v l.length (nV l)) : NatsAt l v w := FlatAt.own h (nV_one l)
theorem infoIntX : (Tryd.prog.info? 3).map (fun i => (i.zero, i.size, i.bytes)) = some (some (.int .i64 0), 1, 8) := by kernel_rfl
theorem flat_intX (w : World) (n : Nat) : FlatAt 1 1 [Value.int .i64 (n : Nat)] (.slice (some ⟨w.heap.size, 0, none⟩) 1 1) (w.alloc (.cells #[.int .i64 (n : Nat)] 3)) :=
  FlatAt.new w 3 1 1 1 #[.int .i64 (n : Nat)] rfl (by intro x hx; simp at hx; subst hx; rfl)

/-! ### Heads -/
def slV (l : List (Nat × Nat)) : List Value := l.flatMap fun s => [Value.int .i64 (s.1 : Nat), Value.int .u32 (s.2 : Nat)]
theorem slV_append (a b : List (Nat × Nat)) : slV (a ++ b) = slV a ++ slV b := List.flatMap_append
theorem slV_len : ∀ (l : List (Nat × Nat)), (slV l).length = l.length * 2
  | [] => rfl
  | r :: l => by
    show ([Value.int .i64 (r.1 : Nat), Value.int .u32 (r.2 : Nat)] ++ slV l).length = (l.length + 1) * 2
    rw [List.length_append, slV_len l]; simp; omega
theorem slV_one (l : List (Nat × Nat)) : ∀ x ∈ slV l, x.oneCell' = true := fun x hx => by
  obtain ⟨r, _, hr⟩ := List.mem_flatMap.1 hx
  simp only [List.mem_cons, List.not_mem_nil, or_false] at hr
  rcases hr with rfl | rfl <;> rfl
theorem slV_get : ∀ (l : List (Nat × Nat)) (k : Nat) (h : k < l.length), (slV l)[k * 2]? = some (.int .i64 (l[k].1 : Nat)) ∧ (slV l)[k * 2 + 1]? = some (.int .u32 (l[k].2 : Nat))
  | [], k, h => by simp at h
  | r :: l, 0, _ => ⟨rfl, rfl⟩
  | r :: l, k + 1, h => by
    have ih := slV_get l k (by simpa using h)
    have e : slV (r :: l) = [Value.int .i64 (r.1 : Nat), Value.int .u32 (r.2 : Nat)] ++ slV l := rfl
    rw [e, List.getElem?_append_right (by simp; omega), List.getElem?_append_right (by simp; omega)]
    simp only [List.length_cons, List.length_nil, List.getElem_cons_succ]
    rw [show (k + 1) * 2 - (0 + 1 + 1) = k * 2 by omega, show (k + 1) * 2 + 1 - (0 + 1 + 1) = k * 2 + 1 by omega]
    exact ih
/-- A slice of slots. -/
structure SlotsAt (l : List (Nat × Nat)) (v : Value) (w : World) : Prop where
  cap : ∀ p n c, v = .slice p n c → n ≤ c
  at_ : FlatAt 2 l.length (slV l) v w
theorem SlotsAt.later {l : List (Nat × Nat)} {v : Value} {w w' : World} (h : SlotsAt l v w) (k : Kept w w') : SlotsAt l v w' := ⟨h.cap, h.at_.later k⟩
theorem SlotsAt.nil (w : World) (c : Nat) : SlotsAt [] (.slice none 0 c) w := ⟨fun p n c' e => by simp only [Value.slice.injEq] at e; omega, rfl, fun x hx => (by cases hx), none, c, rfl, Or.inl rfl⟩
theorem SlotsAt.out {l : List (Nat × Nat)} {v : Value} {w : World} (h : SlotsAt l v w) : ∃ p c, v = .slice p l.length c ∧ l.length ≤ c ∧
    (l.length = 0 ∨ ∃ b off, p = some ⟨b, off, none⟩ ∧ ∀ k (hk : k < l.length), w.cell? ⟨b, off + k * 2, none⟩ = some (.int .i64 (l[k].1 : Nat)) ∧ w.cell? ⟨b, off + k * 2 + 1, none⟩ = some (.int .u32 (l[k].2 : Nat))) := by
  obtain ⟨hl, h1, p, c, rfl, hc⟩ := h.at_
  refine ⟨p, c, rfl, h.cap _ _ _ rfl, ?_⟩
  rcases hc with h0 | ⟨b, off, hp, hc⟩
  · exact Or.inl h0
  · refine Or.inr ⟨b, off, hp, fun k hk => ?_⟩
    have hg := slV_get l k hk
    exact ⟨hc _ _ hg.1, by rw [show off + k * 2 + 1 = off + (k * 2 + 1) by omega]; exact hc _ _ hg.2⟩
theorem SlotsAt.own {w : World} {base : Nat} {e : TypeId} {v : Value} {l : List (Nat × Nat)} (h : w.ownsRow base e 2 v l.length (slV l)) : SlotsAt l v w := by
  refine ⟨fun p n c e => ?_, FlatAt.own h (slV_one l)⟩
  rcases h.2 with ⟨rfl, _⟩ | ⟨g, cap, cur, rfl, _, _, hc, _⟩
  · simp only [Value.slice.injEq] at e; omega
  · simp only [Value.slice.injEq] at e; omega
def headCs (id : Nat) (sv : Value) : Array Value := #[.int .u32 (id : Nat), sv]
/-- A head, as a value. -/
def HeadIs (h : Hd) (v : Value) (w : World) : Prop := ∃ sv, v = .agg #[.int .u32 (h.id : Nat), sv] ∧ SlotsAt h.slots sv w
theorem HeadIs.later {h : Hd} {v : Value} {w w' : World} (H : HeadIs h v w) (k : Kept w w') : HeadIs h v w' := by
  obtain ⟨sv, e, H⟩ := H
  exact ⟨sv, e, H.later k⟩
def Hd.zero : Hd := ⟨0, []⟩
theorem HeadIs.zero (w : World) : HeadIs Hd.zero (.agg #[.int .u32 0, .slice none 0 0]) w := ⟨_, rfl, SlotsAt.nil w 0⟩

/-! ### The document's ID, Lens -/
set_option maxHeartbeats 1000000 in
theorem rid14_any (id : Nat) (hid : id < 4294967296) (w : World) :
    Calls Tryd.prog 25 #[.int .u32 (id : Nat)] w fun e w' => e = .returned (.bool (decide (idOk id))) ∧ Kept w w' := by
  obtain ⟨r, hr⟩ : ∃ r, r = decide (idOk id) := ⟨_, rfl⟩
  rw [← hr]
  by_cases h1 : 1 ≤ id
  · have b1 : decide ((id : Int) ≥ 1) = true := by simp; omega
    by_cases h2 : id ≤ 4294967294
    · have b2 : decide ((id : Int) ≤ 4294967294) = true := by simp; omega
      have e : r = true := by rw [hr]; exact decide_eq_true ⟨h1, h2⟩
      subst e
      clear hr h1 h2 hid
      go_enter Tryd.func25, Tryd.ntmps25
      go_wp2
      go_ret
      exact ⟨rfl, Below.refl _ _⟩
    · have b2 : decide ((id : Int) ≤ 4294967294) = false := by simp; omega
      have e : r = false := by rw [hr]; exact decide_eq_false (fun x => h2 x.2)
      subst e
      clear hr h1 h2 hid
      go_enter Tryd.func25, Tryd.ntmps25
      go_wp2
      go_ret
      exact ⟨rfl, Below.refl _ _⟩
  · have b1 : decide ((id : Int) ≥ 1) = false := by simp; omega
    have e : r = false := by rw [hr]; exact decide_eq_false (fun x => h1 x.1)
    subst e
    clear hr h1 hid
    go_enter Tryd.func25, Tryd.ntmps25
    go_wp2
    go_ret
    exact ⟨rfl, Below.refl _ _⟩

set_option maxRecDepth 100000 in
set_option maxHeartbeats 4000000 in
theorem rlens14_any (l : List Nat) (v : Value) (w : World) (h : NatsAt l v w) (hl : l.length ≤ 1000000) :
    Calls Tryd.prog 41 #[v] w fun e w' => e = .returned (.bool (decide (lensOk l))) ∧ Kept w w' := by
  obtain ⟨p, c, rfl, hc⟩ := h.out
  have HC := Lib.hid hc
  obtain ⟨n, hn⟩ : ∃ n, n = l.length := ⟨_, rfl⟩
  have HN := Lib.hid hn
  obtain ⟨r, hr⟩ : ∃ r, r = decide (lensOk l) := ⟨_, rfl⟩
  have HR := Lib.hid hr
  rw [← hn, ← hr]
  rw [← hn] at hl
  clear hc h hn hr
  go_enter Tryd.func41, Tryd.ntmps41
  go_wp2
  go_loopg [3, 4] n (fun gh a y wr => ∃ (k s : Nat), k + gh = n ∧ a = .int .i64 s ∧ y = .int .i64 k ∧ k ≤ 256 ∧ s ≤ 4096 * k ∧ Hid (s = (l.take k).sum ∧ ∀ x ∈ l.take k, 1 ≤ x ∧ x ≤ 4096) ∧ Hid (Kept w wr))
  case atStart => exact ⟨0, 0, by omega, rfl, rfl, by omega, by omega, Lib.hid ⟨rfl, fun x hx => by simp at hx⟩, Lib.hid (Below.refl _ _)⟩
  case round =>
    obtain ⟨k, s, hk, rfl, rfl, hk2, hs, HS, HK⟩ := hrel
    by_cases hlt : k < n
    · have hki : (k : Int) < n := by omega
      have bk : decide ((k : Int) < (n : Int)) = true := by simpa using hki
      by_cases h256 : k < 256
      · have b2 : decide ((k : Int) ≥ 256) = false := by simp; omega
        rcases HC.out with h0 | ⟨b, off, rfl, hcell⟩
        · have := HN.out; omega
        have hkl : k < l.length := by have := HN.out; omega
        have e1 := Kept.cell HK.out (hcell k hkl)
        obtain ⟨x, hx⟩ : ∃ x, x = l[k] := ⟨_, rfl⟩
        rw [← hx] at e1
        have hxm : x ∈ l := by rw [hx]; exact List.getElem_mem hkl
        have HTK : Hid (l.take (k + 1) = l.take k ++ [x]) := Lib.hid (by rw [hx]; exact List.take_succ_eq_append_getElem hkl)
        have hki0 : (0 : Int) ≤ k := by omega
        clear hcell hx
        by_cases h1 : 1 ≤ x
        · have b3 : decide ((x : Int) < 1) = false := by simp; omega
          by_cases h2 : x ≤ 4096
          · have b4 : decide ((x : Int) > 4096) = false := by simp; omega
            obtain ⟨k1, hk1⟩ : ∃ k1, k1 = k + 1 := ⟨_, rfl⟩
            have v1 : IntKind.i64.wrap ((k : Int) + 1) = (k1 : Int) := by rw [show (k : Int) + 1 = (k1 : Int) by omega]; exact IntWalk.i64_in _ (by omega)
            obtain ⟨s1, hs1⟩ : ∃ s1, s1 = s + x := ⟨_, rfl⟩
            have v2 : IntKind.i64.wrap ((s : Int) + (x : Int)) = (s1 : Int) := by rw [show (s : Int) + (x : Int) = (s1 : Int) by omega]; exact IntWalk.i64_in _ (by omega)
            have HA : Hid (k1 + (gk - 1) = n ∧ k1 ≤ 256 ∧ s1 ≤ 4096 * k1 ∧ 0 < gk) := Lib.hid (by omega)
            have HK1 : Hid (k1 = k + 1) := Lib.hid hk1
            have HS1 : Hid (s1 = (l.take k1).sum ∧ ∀ x ∈ l.take k1, 1 ≤ x ∧ x ≤ 4096) := Lib.hid (by
              rw [hk1, HTK.out]
              refine ⟨by rw [List.sum_append, ← HS.out.1, hs1]; simp, fun y hy => ?_⟩
              rcases List.mem_append.1 hy with hy | hy
              · exact HS.out.2 y hy
              · rw [List.mem_singleton.1 hy]; exact ⟨h1, h2⟩)
            clear hk1 hs1 h1 h2 hxm HTK HS hk2 hs
            go_wp2
            go_roundg (gk - 1)
            · exact ⟨k1, s1, HA.out.1, rfl, by first | rfl | (have := HK1.out; simp; omega), HA.out.2.1, HA.out.2.2.1, HS1, HK⟩
            · have := HA.out.2.2.2; omega
          · have b4 : decide ((x : Int) > 4096) = true := by simp; omega
            have e : r = false := by rw [HR.out]; exact decide_eq_false (fun y => h2 (y.2.1 x hxm).2)
            clear h1 h2 hxm HTK HS hk2 hs
            go_wp2
            go_ret
            exact ⟨by first | rfl | (rw [e]; rfl), HK.out⟩
        · have b3 : decide ((x : Int) < 1) = true := by simp; omega
          have e : r = false := by rw [HR.out]; exact decide_eq_false (fun y => h1 (y.2.1 x hxm).1)
          clear h1 hxm HTK HS hk2 hs
          go_wp2
          go_ret
          exact ⟨by first | rfl | (rw [e]; rfl), HK.out⟩
      · have b2 : decide ((k : Int) ≥ 256) = true := by simp; omega
        have e : r = false := by rw [HR.out]; exact decide_eq_false (fun y => by have := y.1.2; have := HN.out; omega)
        clear HS hk2 hs HC
        go_wp2
        go_ret
        exact ⟨by first | rfl | (rw [e]; rfl), HK.out⟩
    · have hki : ¬ (k : Int) < n := by omega
      have bk : decide ((k : Int) < (n : Int)) = false := by simpa using hki
      have hkn : k = n := by omega
      have HS2 : Hid (s = l.sum ∧ ∀ x ∈ l, 1 ≤ x ∧ x ≤ 4096) := Lib.hid (by
        have h := HS.out
        rw [List.take_of_length_le (by have := HN.out; omega)] at h
        exact h)
      by_cases h1 : 1 ≤ n
      · have b1 : decide ((n : Int) ≥ 1) = true := by simp; omega
        by_cases h2 : s ≤ 65536
        · have b2 : decide ((s : Int) ≤ 65536) = true := by simp; omega
          have e : r = true := by rw [HR.out]; exact decide_eq_true ⟨⟨by have := HN.out; omega, by have := HN.out; omega⟩, HS2.out.2, by rw [← HS2.out.1]; exact h2⟩
          clear HS HS2 hk2 hs HC h1 h2 hkn
          go_wp2
          go_ret
          exact ⟨by first | rfl | (rw [e]; rfl), HK.out⟩
        · have b2 : decide ((s : Int) ≤ 65536) = false := by simp; omega
          have e : r = false := by rw [HR.out]; exact decide_eq_false (fun y => h2 (by rw [HS2.out.1]; exact y.2.2))
          clear HS HS2 hk2 hs HC h1 h2 hkn
          go_wp2
          go_ret
          exact ⟨by first | rfl | (rw [e]; rfl), HK.out⟩
      · have b1 : decide ((n : Int) ≥ 1) = false := by simp; omega
        have e : r = false := by rw [HR.out]; exact decide_eq_false (fun y => h1 (by have := y.1.1; have := HN.out; omega))
        clear HS HS2 hk2 hs HC h1 hkn
        go_wp2
        go_ret
        exact ⟨by first | rfl | (rw [e]; rfl), HK.out⟩

end Go.Proofs.YtdmbebafpamgfaaDoor
