/- The document's disk in memory; the walks of its Read, cut. -/
import Derived.Test.YtpnnlpmkgglgdaaDkS
namespace Go.Proofs.Ytpnnlpmkgglgdaa
open Go.RowKit

def stC (L : List (List UInt8)) : List Value := L.map fun l => Value.string (str l)
def wtC (ws : List (Nat × List UInt8)) : List Value := ws.flatMap fun p => [Value.int .i64 (p.1 : Int), Value.string (str p.2)]

theorem stC_len (L : List (List UInt8)) : (stC L).length = L.length := by simp [stC]
theorem stC_get (L : List (List UInt8)) (i : Nat) (h : i < L.length) : (stC L)[i]? = some (.string (str L[i])) := by simp [stC, h]
theorem stC_one (L : List (List UInt8)) : ∀ x ∈ stC L, x.oneCell' = true := fun x hx => by
  obtain ⟨l, _, rfl⟩ := List.mem_map.1 hx; rfl
theorem stC_append (a b : List (List UInt8)) : stC (a ++ b) = stC a ++ stC b := List.map_append
theorem stC_set (L : List (List UInt8)) (i : Nat) (l : List UInt8) : (stC L).set i (.string (str l)) = stC (L.set i l) := by
  unfold stC; rw [List.map_set]

theorem wtC_len : ∀ (ws : List (Nat × List UInt8)), (wtC ws).length = ws.length * 2
  | [] => rfl
  | p :: ws => by
    show ([Value.int .i64 (p.1 : Int), Value.string (str p.2)] ++ wtC ws).length = (ws.length + 1) * 2
    rw [List.length_append, wtC_len ws]; simp; omega
theorem wtC_one (ws : List (Nat × List UInt8)) : ∀ x ∈ wtC ws, x.oneCell' = true := fun x hx => by
  obtain ⟨p, _, hp⟩ := List.mem_flatMap.1 hx
  simp only [List.mem_cons, List.not_mem_nil, or_false] at hp
  rcases hp with rfl | rfl <;> rfl
theorem wtC_append (a b : List (Nat × List UInt8)) : wtC (a ++ b) = wtC a ++ wtC b := List.flatMap_append
theorem wtC_get : ∀ (ws : List (Nat × List UInt8)) (k : Nat) (h : k < ws.length), (wtC ws)[k * 2]? = some (.int .i64 (ws[k].1 : Int)) ∧ (wtC ws)[k * 2 + 1]? = some (.string (str ws[k].2))
  | p :: ws, 0, _ => ⟨rfl, rfl⟩
  | p :: ws, k + 1, h => by
    have ih := wtC_get ws k (by simpa using h)
    have e : wtC (p :: ws) = [Value.int .i64 (p.1 : Int), Value.string (str p.2)] ++ wtC ws := rfl
    rw [e, List.getElem?_append_right (by simp; omega), List.getElem?_append_right (by simp; omega)]
    simp only [List.length_cons, List.length_nil, List.getElem_cons_succ]
    rw [show (k + 1) * 2 - (0 + 1 + 1) = k * 2 by omega, show (k + 1) * 2 + 1 - (0 + 1 + 1) = k * 2 + 1 by omega]
    exact ih

/-- An own row, as a slice, cell by cell. -/
theorem own_slice {w : World} {base : Nat} {e : TypeId} {size n : Nat} {v : Value} {xs : List Value} (h : w.ownsRow base e size v n xs) :
    ∃ p c, v = .slice p n c ∧ n ≤ c ∧ (n = 0 ∨ ∃ g, p = some ⟨g, 0, none⟩ ∧ base ≤ g ∧ ∀ j x, xs[j]? = some x → w.cell? ⟨g, j, none⟩ = some x) := by
  rcases h.2 with ⟨rfl, rfl⟩ | ⟨g, cap, cur, rfl, hb, hg, hc, hr⟩
  · exact ⟨none, 0, rfl, Nat.le_refl _, Or.inl rfl⟩
  · refine ⟨_, cap, rfl, hc, Or.inr ⟨g, rfl, hb, fun j x hx => ?_⟩⟩
    have := h.cells (g := g) rfl j x hx
    rwa [addr_add, Nat.zero_add] at this

def rA (s : Dk) (vs vw : Value) : Array Value := #[vs, vw, .int .i64 s.fuse, .int .i64 (s.ops : Int), .bool s.down]
/-- The document's disk in the block g. -/
structure RAt (B g : Nat) (s : Dk) (vs vw : Value) (w : World) : Prop where
  base : B ≤ g
  row : w.heap[g]? = some (.cells (rA s vs vw) 54 (0, 0))
  st : w.ownsRow B 9 1 vs s.stands.length (stC s.stands)
  wt : w.ownsRow B 70 2 vw s.waits.length (wtC s.waits)

def RBs (g : Nat) (vs vw : Value) (k : Nat) : Prop := k = g ∨ vs.ownBlock = some k ∨ vw.ownBlock = some k

theorem own_stay {w w' : World} {base : Nat} {e : TypeId} {size n : Nat} {v : Value} {xs : List Value} (h : w.ownsRow base e size v n xs) (hk : ∀ k, v.ownBlock = some k → w'.heap[k]? = w.heap[k]?) : w'.ownsRow base e size v n xs := by
  refine ⟨h.1, ?_⟩
  rcases h.2 with hn | ⟨g, cap, cur, rfl, hb, hg, hr⟩
  · exact Or.inl hn
  · exact Or.inr ⟨g, cap, cur, rfl, hb, by rw [hk g rfl]; exact hg, hr⟩

theorem own_base {w : World} {base base' : Nat} {e : TypeId} {size n : Nat} {v : Value} {xs : List Value} (h : w.ownsRow base e size v n xs) (hB : base' ≤ base) : w.ownsRow base' e size v n xs := by
  refine ⟨h.1, ?_⟩
  rcases h.2 with hn | ⟨g, cap, cur, rfl, hb, hr⟩
  · exact Or.inl hn
  · exact Or.inr ⟨g, cap, cur, rfl, Nat.le_trans hB hb, hr⟩

/-- The block of an own row has its type. -/
theorem own_typ {w : World} {base : Nat} {e : TypeId} {size n : Nat} {v : Value} {xs : List Value} (h : w.ownsRow base e size v n xs) (k : Nat) (hk : v.ownBlock = some k) : ∃ cur, w.heap[k]? = some (.cells cur e (0, 0)) := by
  rcases h.2 with ⟨rfl, _⟩ | ⟨g, cap, cur, rfl, hb, hg, hr⟩
  · simp [Value.ownBlock] at hk
  · simp only [Value.ownBlock, Option.some.injEq] at hk
    subst hk
    exact ⟨cur, hg⟩

section
variable {B g : Nat} {s : Dk} {vs vw : Value} {w : World} (h : RAt B g s vs vw w)
include h

theorem RAt.stay {w' : World} (hk : ∀ k, RBs g vs vw k → w'.heap[k]? = w.heap[k]?) : RAt B g s vs vw w' :=
  ⟨h.base, by rw [hk g (Or.inl rfl)]; exact h.row, own_stay h.st (fun k e => hk k (Or.inr (Or.inl e))), own_stay h.wt (fun k e => hk k (Or.inr (Or.inr e)))⟩

theorem RAt.lt : ∀ k, RBs g vs vw k → B ≤ k ∧ k < w.heap.size := by
  intro k hk
  rcases hk with rfl | e | e
  · exact ⟨h.base, (Array.getElem?_eq_some_iff.1 h.row).1⟩
  · exact h.st.lt k e
  · exact h.wt.lt k e

theorem RAt.kept {w' : World} (k : Kept w w') : RAt B g s vs vw w' := h.stay (fun j hj => k.block j (h.lt j hj).2)

theorem RAt.cell (i : Nat) (x : Value) (hx : (rA s vs vw)[i]? = some x) : w.cell? ⟨g, i, none⟩ = some x := by rw [cell_of_row _ _ _ _ _ _ h.row]; exact hx
theorem RAt.froz (i : Nat) : w.frozen? ⟨g, i, none⟩ = false := frozen_of_row _ _ _ _ _ h.row

/-- The three blocks are apart. -/
theorem RAt.apart : vs.ownBlock ≠ some g ∧ vw.ownBlock ≠ some g ∧ ∀ k, vs.ownBlock = some k → vw.ownBlock ≠ some k := by
  refine ⟨fun e => ?_, fun e => ?_, fun k e1 e2 => ?_⟩
  · obtain ⟨cur, hc⟩ := own_typ h.st g e
    rw [h.row] at hc; simp at hc
  · obtain ⟨cur, hc⟩ := own_typ h.wt g e
    rw [h.row] at hc; simp at hc
  · obtain ⟨c1, hc1⟩ := own_typ h.st k e1
    obtain ⟨c2, hc2⟩ := own_typ h.wt k e2
    rw [hc1] at hc2; simp at hc2
end

set_option maxRecDepth 100000 in
set_option maxHeartbeats 1000000 in
/-- The document's Read. -/
theorem rread_any {B g : Nat} {s : Dk} {vs vw : Value} {w : World} (h : RAt B g s vs vw w) (hok : s.ok) (hlo : s.ops ≤ 4294967296) (i : Int) :
    Calls Try.prog 27 #[.pointer (some ⟨g, 0, none⟩), .int .i64 i] w fun e w' => e = .returned (.tuple #[.string (str (s.readT i)), .int .i64 (s.readE i)]) ∧ w = w' := by
  have c4 : w.cell? ⟨g, 4, none⟩ = some (.bool s.down) := h.cell 4 _ rfl
  by_cases hd : s.down = true
  · have e1 : s.readE i = 90 := by unfold Dk.readE; rw [if_pos hd]
    have e2 : str (s.readT i) = ⟨#[]⟩ := by unfold Dk.readT; rw [if_pos (Or.inl hd)]; rfl
    rw [e1, e2]
    rw [hd] at c4
    clear h hok e1 e2 hd
    go_enter Try.func27, Try.ntmps27
    go_wp2
    first | go_ret | go_ret2
    exact ⟨rfl, rfl⟩
  · have hdf : s.down = false := by simpa using hd
    rw [hdf] at c4
    obtain ⟨ps, cs, hvs, -, hcs⟩ := own_slice h.st
    obtain ⟨pw, cw, hvw, -, hcw⟩ := own_slice h.wt
    have c0 : w.cell? ⟨g, 0, none⟩ = some vs := h.cell 0 _ rfl
    have c1 : w.cell? ⟨g, 1, none⟩ = some vw := h.cell 1 _ rfl
    rw [hvs] at c0
    rw [hvw] at c1
    by_cases ho : s.out i
    · have e1 : s.readE i = 5 := by unfold Dk.readE; rw [if_neg hd, if_pos ho]
      have e2 : str (s.readT i) = ⟨#[]⟩ := by unfold Dk.readT; rw [if_pos (Or.inr ho)]; rfl
      rw [e1, e2]
      unfold Dk.out at ho
      obtain ⟨n, hn⟩ : ∃ n, n = s.stands.length := ⟨_, rfl⟩
      rw [← hn] at c0 ho
      clear h hok e1 e2 hd hdf hcs hcw hvs hvw hn c1
      by_cases h0 : i < 0
      · go_enter Try.func27, Try.ntmps27
        go_wp2
        first | go_ret | go_ret2
        exact ⟨rfl, rfl⟩
      · have h1 : (n : Int) ≤ i := by omega
        go_enter Try.func27, Try.ntmps27
        go_wp2
        first | go_ret | go_ret2
        exact ⟨rfl, rfl⟩
    · have e1 : s.readE i = 0 := by unfold Dk.readE; rw [if_neg hd, if_neg ho]
      have e2 : s.readT i = s.vis i.toNat := by unfold Dk.readT; rw [if_neg (fun x => x.elim hd ho)]
      rw [e1, e2]
      unfold Dk.out at ho
      obtain ⟨q, rfl⟩ : ∃ q : Nat, i = q := ⟨i.toNat, by omega⟩
      have hq : q < s.stands.length := by omega
      rcases hcs with h0 | ⟨gs, rfl, hBg, hcell⟩
      · omega
      have cq := hcell q _ (stC_get s.stands q hq)
      have ev : s.vis ((q : Int).toNat) = visK q s.stands[q] s.waits := by
        unfold Dk.vis
        rw [Int.toNat_natCast, List.getD_eq_getElem?_getD, List.getElem?_eq_getElem hq]; rfl
      rw [ev]
      obtain ⟨t0, ht0⟩ : ∃ t, t = s.stands[q] := ⟨_, rfl⟩
      rw [← ht0] at cq ⊢
      have HCW := Lib.hid hcw
      have few := hok.few
      have hwb : s.waits.length ≤ 4294967296 := by omega
      obtain ⟨ws, hws⟩ : ∃ ws, ws = s.waits := ⟨_, rfl⟩
      rw [← hws] at HCW c1 hwb ⊢
      obtain ⟨n, hn⟩ : ∃ n, n = s.stands.length := ⟨_, rfl⟩
      rw [← hn] at c0 hq
      obtain ⟨m, hm⟩ : ∃ m, m = ws.length := ⟨_, rfl⟩
      rw [← hm] at HCW c1 hwb
      have HM := Lib.hid hm
      have hq0 : ¬ (q : Int) < 0 := by omega
      have hqn : ¬ (n : Int) ≤ q := by omega
      have hqi : (q : Int) < n := by omega
      obtain ⟨tx, htx⟩ : ∃ tx, tx = str (visK q t0 ws) := ⟨_, rfl⟩
      rw [← htx]
      have HX := Lib.hid htx
      obtain ⟨ty, hty⟩ : ∃ ty, ty = str t0 := ⟨_, rfl⟩
      rw [← hty] at cq
      have HY := Lib.hid hty
      clear htx hty hm hn hws ht0 ev hcell hcw h hok e1 e2 hd hdf hvs hvw ho
      go_enter Try.func27, Try.ntmps27
      go_wp2
      go_loopg [6, 7] m (fun gh s6 s7 wx => ∃ (k : Nat) (t : ByteArray), k + gh = m ∧ s7 = .int .i64 k ∧ s6 = .string t ∧ Hid (t = str (visK q t0 (ws.take k))) ∧ w = wx)
      case atStart => exact ⟨0, ty, by omega, rfl, rfl, HY, rfl⟩
      case round =>
        obtain ⟨k, t, hk, rfl, rfl, HT, hwx⟩ := hrel
        subst hwx
        by_cases hkm : k < m
        · have hki : (k : Int) < m := by omega
          have bk : decide ((k : Int) < (m : Int)) = true := by simpa using hki
          have hkl : k < ws.length := by rw [← HM.out]; exact hkm
          rcases HCW.out with h0 | ⟨gw, rfl, -, hcellw⟩
          · omega
          have d1 := hcellw _ _ (wtC_get ws k hkl).1
          have d2 := hcellw _ _ (wtC_get ws k hkl).2
          have hv := visK_snoc q t0 (ws.take k) ws[k]
          rw [← List.take_succ_eq_append_getElem hkl] at hv
          obtain ⟨a, ha⟩ : ∃ a, a = ws[k].1 := ⟨_, rfl⟩
          obtain ⟨b, hb⟩ : ∃ b, b = ws[k].2 := ⟨_, rfl⟩
          rw [← ha, ← hb] at hv
          rw [← ha] at d1
          rw [← hb] at d2
          obtain ⟨tb, htb⟩ : ∃ tb, tb = str b := ⟨_, rfl⟩
          rw [← htb] at d2
          have v1 : IntKind.i64.wrap ((k : Int) + 1) = ((k + 1 : Nat) : Int) := by rw [show (k : Int) + 1 = ((k + 1 : Nat) : Int) by omega]; exact IntWalk.i64_in _ (by omega)
          have HTB := Lib.hid htb
          have HV := Lib.hid hv
          clear htb hv ha hb hcellw hkl
          by_cases hab : a = q
          · have bb : ((a : Int) == (q : Int)) = true := by rw [hab]; simp
            have HT2 : Hid (tb = str (visK q t0 (ws.take (k + 1)))) := Lib.hid (by rw [HTB.out, HV.out, if_pos hab])
            clear hab
            go_wp2
            go_roundg (m - (k + 1))
            case measure => omega
            case rel => exact ⟨k + 1, tb, by omega, by go_num, rfl, HT2, rfl⟩
          · have bb : ((a : Int) == (q : Int)) = false := beq_eq_false_iff_ne.2 (by omega)
            have HT2 : Hid (t = str (visK q t0 (ws.take (k + 1)))) := Lib.hid (by rw [HT.out, HV.out, if_neg hab])
            clear hab
            go_wp2
            go_roundg (m - (k + 1))
            case measure => omega
            case rel => exact ⟨k + 1, t, by omega, by go_num, rfl, HT2, rfl⟩
        · have hke : k = m := by omega
          have bk : decide ((k : Int) < (m : Int)) = false := by rw [hke]; simp
          have hki : ¬ (k : Int) < m := by omega
          have HT2 : Hid (t = tx) := Lib.hid (by rw [HT.out, HX.out, hke, HM.out, List.take_length])
          clear hke
          go_wp2
          first | go_ret | go_ret2
          exact ⟨by rw [HT2.out]; rfl, rfl⟩

end Go.Proofs.Ytpnnlpmkgglgdaa
