/- A disk whose pending writes hold arrays of 128 bytes: their cells; the fuse as it is kept. -/
import Derived.Test.YtpnnlpmkgglgdaaDsM
import Derived.Test.YtpnnlpmkgglgdaaDkA
import Derived.Test.YtpnnlpmkgglgdaaArr
import Derived.LaidEqlPtr
namespace Go.Proofs.Ytpnnlpmkgglgdaa
open Go.RowKit

/-- The cells of one pending write. -/
def wcell (a : Nat) (x : List UInt8) : List Value := Value.int .i64 (a : Int) :: x.map u8V
def wtB (ws : List (Nat × List UInt8)) : List Value := ws.flatMap fun p => wcell p.1 p.2

theorem wcell_len (a : Nat) (x : List UInt8) (h : x.length = 128) : (wcell a x).length = 129 := by simp [wcell, h]
theorem wcell_one (a : Nat) (x : List UInt8) : ∀ v ∈ wcell a x, v.oneCell' = true := by
  intro v hv
  unfold wcell at hv
  rcases List.mem_cons.1 hv with rfl | hv
  · rfl
  · obtain ⟨y, _, rfl⟩ := List.mem_map.1 hv
    rfl
theorem wtB_append (a b : List (Nat × List UInt8)) : wtB (a ++ b) = wtB a ++ wtB b := List.flatMap_append
theorem wtB_single (p : Nat × List UInt8) : wtB [p] = wcell p.1 p.2 := by simp [wtB]
theorem wtB_one (ws : List (Nat × List UInt8)) : ∀ x ∈ wtB ws, x.oneCell' = true := fun x hx => by
  obtain ⟨p, _, hp⟩ := List.mem_flatMap.1 hx
  exact wcell_one p.1 p.2 x hp

/-- The cells of one of them, among all. -/
theorem wtB_cut : ∀ (ws : List (Nat × List UInt8)) (_ : ∀ p ∈ ws, p.2.length = 128) (k : Nat) (h : k < ws.length), ((wtB ws).drop (k * 129)).take 129 = wcell ws[k].1 ws[k].2
  | [], _, k, h => by simp at h
  | p :: ws, hl, 0, _ => by
    have e : wtB (p :: ws) = wcell p.1 p.2 ++ wtB ws := rfl
    rw [Nat.zero_mul, List.drop_zero, e, List.take_left' (wcell_len _ _ (hl p (List.mem_cons_self ..)))]
    rfl
  | p :: ws, hl, k + 1, h => by
    have e : wtB (p :: ws) = wcell p.1 p.2 ++ wtB ws := rfl
    rw [e, show (k + 1) * 129 = 129 + k * 129 by omega, ← List.drop_drop, List.drop_left' (wcell_len _ _ (hl p (List.mem_cons_self ..))), wtB_cut ws (fun q hq => hl q (List.mem_cons_of_mem _ hq)) k (by simpa using h)]
    rfl

theorem wtB_get (ws : List (Nat × List UInt8)) (hl : ∀ p ∈ ws, p.2.length = 128) (k : Nat) (h : k < ws.length) (j : Nat) (hj : j < 129) : (wtB ws)[k * 129 + j]? = (wcell ws[k].1 ws[k].2)[j]? := by
  rw [← wtB_cut ws hl k h, List.getElem?_take, if_pos hj, List.getElem?_drop]

theorem wcell_sector (a : Nat) (x : List UInt8) : (wcell a x)[0]? = some (.int .i64 (a : Int)) := rfl
theorem wcell_byte (a : Nat) (x : List UInt8) (j : Nat) (hj : j < x.length) : (wcell a x)[1 + j]? = some (u8V x[j]) := by
  unfold wcell
  rw [Nat.add_comm, List.getElem?_cons_succ, List.getElem?_map, List.getElem?_eq_getElem hj]
  rfl

/-- The row of an own slice that is not empty, cut. -/
theorem own_cut {w : World} {base : Nat} {e : TypeId} {n : Nat} {v : Value} {ws : List (Nat × List UInt8)} (h : w.ownsRow base e 129 v n (wtB ws)) (hn : n = ws.length) (hl : ∀ p ∈ ws, p.2.length = 128) (k : Nat) (hk : k < ws.length) :
    ∃ (gp cap : Nat) (cur : Array Value), v = .slice (some ⟨gp, 0, none⟩) n cap ∧ base ≤ gp ∧ w.heap[gp]? = some (.cells cur e (0, 0)) ∧ n ≤ cap ∧ k * 129 + 129 ≤ cur.size ∧ cur.extract (k * 129) (k * 129 + 129) = (wcell ws[k].1 ws[k].2).toArray ∧
      w.cell? ⟨gp, k * 129, none⟩ = some (.int .i64 (ws[k].1 : Int)) ∧ ∀ j, ∀ hj : j < 128, ∃ x, ws[k].2[j]? = some x ∧ w.cell? ⟨gp, k * 129 + 1 + j, none⟩ = some (u8V x) := by
  rcases h.2 with ⟨_, h0⟩ | ⟨gp, cap, cur, rfl, hb, hg, hc, hm, hs, ht⟩
  · omega
  have hsz : k * 129 + 129 ≤ cur.size := by
    rw [hs]
    have : (k + 1) * 129 ≤ cap * 129 := Nat.mul_le_mul_right _ (by omega)
    omega
  have hget : ∀ j, j < 129 → cur[k * 129 + j]? = (wcell ws[k].1 ws[k].2)[j]? := fun j hj => by
    rw [← wtB_get ws hl k hk j hj, ← ht, List.getElem?_take, if_pos (by
      have : (k + 1) * 129 ≤ n * 129 := Nat.mul_le_mul_right _ (by omega)
      omega), Array.getElem?_toList]
  have hx := hl _ (List.getElem_mem hk)
  refine ⟨gp, cap, cur, rfl, hb, hg, hc, hsz, ?_, ?_, fun j hj => ?_⟩
  · apply Array.ext_getElem?
    intro j
    have e2 : (wcell ws[k].1 ws[k].2).toArray[j]? = (wcell ws[k].1 ws[k].2)[j]? := by simp
    rw [e2, Array.getElem?_extract]
    by_cases hj : j < 129
    · rw [if_pos (by omega), hget j hj]
    · rw [if_neg (by omega), List.getElem?_eq_none (by rw [wcell_len _ _ hx]; omega)]
  · rw [cell_of_row _ _ _ _ _ _ hg]
    exact hget 0 (by omega)
  · have hj2 : j < ws[k].2.length := by omega
    refine ⟨ws[k].2[j], List.getElem?_eq_getElem hj2, ?_⟩
    rw [cell_of_row _ _ _ _ _ _ hg, show k * 129 + 1 + j = k * 129 + (1 + j) by omega, hget (1 + j) (by omega), wcell_byte _ _ _ hj2]

/-- 'string(a[:])' of 128 bytes that lie in some row. -/
theorem conv_cells {w : World} (g o n c : Nat) (x : List UInt8) (hx : x.length = n) (h : ∀ j, ∀ hj : j < n, ∃ y, x[j]? = some y ∧ w.cell? ⟨g, o + j, none⟩ = some (u8V y)) :
    (convert 50 9 (.slice (some ⟨g, o, none⟩) n c)).run Try.prog w = .ok (.string (str x)) w := by
  have h1 := run_convert_bytes_back (P := Try.prog) w 50 9 5 ⟨g, o, none⟩ c x Try.underlying50 Try.underlying5 Try.underlying9 (fun j hj => by
    rw [addr_add]
    obtain ⟨y, hy, hc⟩ := h j (by omega)
    rw [hc, List.getElem?_eq_getElem hj] at *
    simp only [Option.some.injEq] at hy
    rw [← hy]
    rfl)
  rw [hx] at h1
  exact h1

/-- The fuse as the program keeps it. -/
def fzI (n : Int) : Int := if (-1 : Int) > n then -1 else n
theorem fzI_zero (n : Int) : fzI n = 0 ↔ n = 0 := by unfold fzI; split <;> omega
theorem fzI_neg (n : Int) : fzI n = -1 ↔ n < 0 := by unfold fzI; split <;> omega
theorem fzI_pos (n : Int) (h : 0 ≤ n) : fzI n = n := by unfold fzI; split <;> omega

end Go.Proofs.Ytpnnlpmkgglgdaa
