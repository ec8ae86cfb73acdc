/- Fingerprints (arrays of bytes) as arguments, and slices of them; of no program. -/
import Derived.Test.YtaajadmaamjebaaPlain
import Derived.OpenShut
import Derived.ChangeSlices
namespace Go.Proofs.Ytaajadmaamjebaa
open Go.ChangeShapes Go.WideShapes Go.RowKit

/-- The array of these bytes, as a value. -/
def fpA (l : List UInt8) : Array Value := (l.map fun c : UInt8 => Value.int .u8 (c.toNat : Int)).toArray

theorem fpA_size (l : List UInt8) : (fpA l).size = l.length := by simp [fpA]

theorem fpA_get (l : List UInt8) (i : Nat) (h : i < l.length) : (fpA l)[i]? = some (.int .u8 ((l.getD i 0).toNat : Int)) := by
  simp [fpA, List.getD, h]

theorem fpA_one (l : List UInt8) : (fpA l).all (·.oneCell') = true := by
  rw [Array.all_eq_true]
  intro i hi
  simp [fpA, Value.oneCell']

theorem fpA_inj {l m : List UInt8} (h : fpA l = fpA m) : l = m := by
  have := congrArg Array.toList h
  simp only [fpA] at this
  refine List.map_inj_right ?_ |>.1 this
  intro a b hab
  simp only [Value.int.injEq, true_and] at hab
  exact UInt8.toNat_inj.1 (by omega)

/-- The byte in a value that is one. -/
def byteOf : Value → UInt8
  | .int _ k => UInt8.ofNat k.toNat
  | _ => 0

section
variable {H : Type} {enc : TypeId × Value → H} {P : Program} {w : World} {base : Nat} {spare : Nat → Bool} {held : Bool}

theorem trod_fp {T E n fuel : Nat} {cs : List Value} {x : DataW H × List MemPlace} (hT : P.underlying T = some (.array n E)) (hE : P.underlying E = some (.int .u8)) (hc : P.cellsOf E = 1) (hC : P.cellsOf T = n)
    (h : DataW.trod enc P w base spare held fuel T cs = some x) : ∃ l : List UInt8, l.length = n ∧ cs = (fpA l).toList := by
  obtain ⟨xs, m, _, _, hl, hn, hel⟩ := DataW.trod_array hT h
  rw [hC] at hl
  rw [hc] at hel
  refine ⟨cs.map byteOf, by simpa using hl, ?_⟩
  apply List.ext_getElem
  · simp [fpA]
  · intro i h1 h2
    have hi : i < n := by omega
    have h := hel i hi
    rw [List.getElem?_eq_getElem (by omega)] at h
    obtain ⟨k, e1, _, e3⟩ := DataW.trod_int hE h
    have hk := bounds_u8 e3
    have hci : cs[i] = .int .u8 k := by
      rw [Nat.mul_one] at e1
      have := congrArg (fun l => l[0]?) e1
      simpa [List.getElem?_take, List.getElem?_drop, h1] using this
    obtain ⟨j, rfl⟩ := Int.eq_ofNat_of_zero_le hk.1
    simp only [fpA, List.getElem_map, hci, byteOf, Value.int.injEq, true_and]
    have : j % 256 = j := Nat.mod_eq_of_lt (by omega)
    simp [this]

/-- A fingerprint that came in by value. -/
theorem open_fp {T E n : Nat} {r : Reach} {b0 : Nat} {v : Value} {d : DataW H} {p : List MemPlace} (hT : P.underlying T = some (.array n E)) (hE : P.underlying E = some (.int .u8)) (hc : P.cellsOf E = 1) (hC : P.cellsOf T = n)
    (hv : Value.okWide P w r b0 T v) (h : DataW.Trod enc P w base spare held T v d p) : ∃ l : List UInt8, l.length = n ∧ v = .agg (fpA l) := by
  obtain ⟨cs, rfl, _⟩ : ∃ cs, v = .agg cs ∧ cs.size = P.cellsOf T := by
    unfold Value.okWide at hv
    rw [hT] at hv
    obtain ⟨cs, e, s, _⟩ := hv
    exact ⟨cs, e, s⟩
  obtain ⟨fuel, hf⟩ := h
  obtain ⟨l, hl, e⟩ := trod_fp hT hE hc hC hf
  exact ⟨l, hl, congrArg Value.agg (Array.toList_inj.1 (by simpa [Value.cells] using e))⟩

/-- The value v is a slice of these arrays of n bytes in the world w. -/
def FpsAt (n : Nat) (ls : List (List UInt8)) (v : Value) (w : World) : Prop :=
  (∀ l ∈ ls, l.length = n) ∧ ∃ p c, v = .slice p ls.length c ∧
    (ls = [] ∨ ∃ b off, p = some ⟨b, off, none⟩ ∧ ∀ i (h : i < ls.length), ∀ j, j < n → w.cell? ⟨b, off + (i * n + j), none⟩ = some (.int .u8 ((ls[i].getD j 0).toNat : Int)))

theorem FpsAt.later {n : Nat} {ls : List (List UInt8)} {v : Value} {w w' : World} (h : FpsAt n ls v w) (hb : Below w.heap.size w w') : FpsAt n ls v w' := by
  obtain ⟨hn, p, c, rfl, h⟩ := h
  refine ⟨hn, p, c, rfl, ?_⟩
  rcases h with h | ⟨b, off, hp, hc⟩
  · exact Or.inl h
  · exact Or.inr ⟨b, off, hp, fun i hi j hj => (hb.cell (World.block_lt_of_cell? _ _ (hc i hi j hj))).trans (hc i hi j hj)⟩

theorem add_plain (b o n : Nat) : (⟨b, o, none⟩ : Addr).add n = ⟨b, o + n, none⟩ := by
  unfold Addr.add
  split <;> simp_all

/-- Where such an array lies: a part of a row. -/
theorem row_of_cells {w : World} {b o n : Nat} {l : List UInt8} (hl : l.length = n) (h0 : 0 < n) (h : ∀ j, j < n → w.cell? ⟨b, o + j, none⟩ = some (.int .u8 ((l.getD j 0).toNat : Int))) :
    ∃ cs t fr, w.heap[b]? = some (.cells cs t fr) ∧ o + n ≤ cs.size ∧ cs.extract o (o + n) = fpA l := by
  have hz := h 0 h0
  unfold World.cell? at hz
  split at hz
  · rename_i cs t fr hb
    have each : ∀ j, j < n → cs[o + j]? = some (.int .u8 ((l.getD j 0).toNat : Int)) := by
      intro j hj
      have := h j hj
      unfold World.cell? at this
      simpa [hb] using this
    have hsz : o + n ≤ cs.size := by
      have := (Array.getElem?_eq_some_iff.1 (each (n - 1) (by omega))).1
      omega
    refine ⟨cs, t, fr, hb, hsz, ?_⟩
    apply Array.ext_getElem?
    intro j
    by_cases hj : j < n
    · rw [fpA_get l j (by omega), Array.getElem?_extract, if_pos (by omega), each j hj]
    · rw [Array.getElem?_eq_none (by rw [Array.size_extract]; omega), Array.getElem?_eq_none (by rw [fpA_size]; omega)]
  · simp_all

/-- A slice of fingerprints that came in. -/
theorem open_fps {S T E n fuel : Nat} {cs : List Value} {x : DataW H × List MemPlace} (hS : P.underlying S = some (.slice T)) (hT : P.underlying T = some (.array n E)) (hE : P.underlying E = some (.int .u8)) (hc : P.cellsOf E = 1)
    (hC : P.cellsOf T = n) (h0 : 0 < n) (h : DataW.trod enc P w base spare held fuel S cs = some x) :
    ∃ (v : Value) (ls : List (List UInt8)), cs = [v] ∧ FpsAt n ls v w ∧ ls.length ≤ maxLen := by
  rcases DataW.trod_slice hS h with ⟨rfl, _⟩ | ⟨a, len, cap, elems, rest, m, _, rfl, _, hb, hl, hm, hlen, hel, _, _⟩
  · exact ⟨_, [], rfl, ⟨by simp, none, 0, rfl, Or.inl rfl⟩, by simp⟩
  have each : ∀ i, i < len → ∃ l : List UInt8, l.length = n ∧ ∀ j, j < n → w.cell? ((a.add (i * n)).add j) = some (.int .u8 ((l.getD j 0).toNat : Int)) := by
    intro i hi
    have := hel i hi
    rw [hC, List.getElem?_eq_getElem (by omega), Option.bind_eq_some_iff] at this
    obtain ⟨cs', hcs, hy⟩ := this
    obtain ⟨l, hln, rfl⟩ := trod_fp hT hE hc hC hy
    refine ⟨l, hln, fun j hj => ?_⟩
    unfold World.cells? at hcs
    split at hcs
    · have := mapM_some_get hcs j j (by simp [hj])
      rw [this, Array.getElem?_toList, fpA_get l j (by omega)]
    · simp at hcs
  have all : ∃ ls : List (List UInt8), ls.length = len ∧ (∀ l ∈ ls, l.length = n) ∧ ∀ i (h : i < ls.length), ∀ j, j < n → w.cell? ((a.add (i * n)).add j) = some (.int .u8 ((ls[i].getD j 0).toNat : Int)) := by
    refine ⟨(List.range len).map fun i => if h : i < len then (each i h).choose else [], by simp, ?_, ?_⟩
    · intro l hl
      obtain ⟨i, hi, rfl⟩ := List.mem_map.1 hl
      have hi' : i < len := by simpa using hi
      rw [dif_pos hi']
      exact (each i hi').choose_spec.1
    · intro i hi j hj
      have hi' : i < len := by simpa using hi
      simp only [List.getElem_map, List.getElem_range]
      rw [dif_pos hi']
      exact (each i hi').choose_spec.2 j hj
  obtain ⟨ls, hls, hall, hcell⟩ := all
  refine ⟨_, ls, rfl, ⟨hall, some a, cap, by rw [hls], ?_⟩, by omega⟩
  by_cases hz : len = 0
  · exact Or.inl (List.length_eq_zero_iff.1 (by omega))
  · right
    have ha0 := hcell 0 (by omega) 0 h0
    rw [Nat.zero_mul] at ha0
    have hs : a = ⟨a.block, a.off, none⟩ := by
      have := addr_cell ha0
      obtain ⟨b, o, sp⟩ := a
      cases sp with
      | none => rfl
      | some x => simp [Addr.add] at this
    refine ⟨a.block, a.off, by rw [← hs], fun i hi j hj => ?_⟩
    have h := hcell i hi j hj
    rw [hs, add_plain, add_plain, Nat.add_assoc] at h
    exact h

end

end Go.Proofs.Ytaajadmaamjebaa
