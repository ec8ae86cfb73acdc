/- The walks of the document's All; of Places, and of the document's Places. -/
import Derived.Test.YtimllddlcjnikaaDoorRollL
namespace Go.Proofs.YtimllddlcjnikaaDoor
open Go.RowKit

/-- The cells of some numbers. -/
def nuL (l : List Nat) : List Value := l.map fun n : Nat => Value.int .u32 (n : Int)
theorem nuL_len (l : List Nat) : (nuL l).length = l.length := by simp [nuL]
theorem nuL_get (l : List Nat) (j : Nat) (h : j < l.length) : (nuL l)[j]? = some (.int .u32 (l.getD j 0 : Nat)) := by
  simp [nuL, List.getD, h]
def inL (l : List Nat) : List Value := l.map fun n : Nat => Value.int .i64 (n : Int)
theorem inL_len (l : List Nat) : (inL l).length = l.length := by simp [inL]
theorem inL_get (l : List Nat) (j : Nat) (h : j < l.length) : (inL l)[j]? = some (.int .i64 (l.getD j 0 : Nat)) := by
  simp [inL, List.getD, h]

theorem own_cells {w : World} {base : Nat} {e : TypeId} {v : Value} {n : Nat} {xs : List Value} (h : w.ownsRow base e 1 v n xs) (hn : 0 < n) (hl : xs.length = n) :
    ∃ g cap, v = .slice (some ⟨g, 0, none⟩) n cap ∧ base ≤ g ∧ ∀ j u, xs[j]? = some u → w.cell? ⟨g, j, none⟩ = some u := by
  rcases h with ⟨_, ⟨rfl, h0⟩ | ⟨g', cap', cur, rfl, hbg, hrow, hn', hcap, hcs, htake⟩⟩
  · omega
  · refine ⟨g', cap', rfl, hbg, fun j u hu => ?_⟩
    rw [cell_of_row _ _ _ _ _ _ hrow]
    have hj : j < n := by
      have := (List.getElem?_eq_some_iff.1 hu).1
      omega
    have := congrArg (fun l => l[j]?) htake
    simp only [Nat.mul_one] at this
    rw [← hu, ← this, List.getElem?_take, if_pos hj, Array.getElem?_toList]

theorem own_nil {w : World} {base : Nat} {e : TypeId} {v : Value} {xs : List Value} (h : w.ownsRow base e 1 v 0 xs) : ∃ p c, v = .slice p 0 c := by
  rcases h with ⟨_, ⟨rfl, h0⟩ | ⟨g', cap', cur, rfl, hbg, hrow, hn', hcap, hcs, htake⟩⟩
  · exact ⟨_, _, rfl⟩
  · exact ⟨_, _, rfl⟩

theorem u32At_own {w : World} {base : Nat} {e : TypeId} {v : Value} {zs : List Nat} (h : w.ownsRow base e 1 v zs.length (nuL zs)) : U32At zs v w := by
  by_cases h0 : zs.length = 0
  · have hz := List.length_eq_zero_iff.1 h0
    subst hz
    obtain ⟨p, c, rfl⟩ := own_nil h
    exact ⟨p, c, rfl, Or.inl rfl⟩
  · obtain ⟨g, cap, rfl, _, hc⟩ := own_cells h (by omega) (nuL_len _)
    exact ⟨_, _, rfl, Or.inr ⟨g, 0, rfl, fun i hi => by rw [Nat.zero_add]; exact hc i _ (nuL_get _ _ hi)⟩⟩

/-- The value v is a slice of the ints zs in the world w. -/
def I64At (zs : List Nat) (v : Value) (w : World) : Prop :=
  ∃ p c, v = .slice p zs.length c ∧ (zs = [] ∨ ∃ b off, p = some ⟨b, off, none⟩ ∧ ∀ i, i < zs.length → w.cell? ⟨b, off + i, none⟩ = some (.int .i64 (zs.getD i 0 : Nat)))

theorem I64At.later {zs : List Nat} {v : Value} {w w' : World} (h : I64At zs v w) (hb : Below w.heap.size w w') : I64At zs v w' := by
  obtain ⟨p, c, rfl, h⟩ := h
  refine ⟨p, c, rfl, ?_⟩
  rcases h with h | ⟨b, off, hp, hc⟩
  · exact Or.inl h
  · exact Or.inr ⟨b, off, hp, fun i hi => (hb.cell (World.block_lt_of_cell? _ _ (hc i hi))).trans (hc i hi)⟩

theorem i64At_own {w : World} {base : Nat} {e : TypeId} {v : Value} {zs : List Nat} (h : w.ownsRow base e 1 v zs.length (inL zs)) : I64At zs v w := by
  by_cases h0 : zs.length = 0
  · have hz := List.length_eq_zero_iff.1 h0
    subst hz
    obtain ⟨p, c, rfl⟩ := own_nil h
    exact ⟨p, c, rfl, Or.inl rfl⟩
  · obtain ⟨g, cap, rfl, _, hc⟩ := own_cells h (by omega) (inL_len _)
    exact ⟨_, _, rfl, Or.inr ⟨g, 0, rfl, fun i hi => by rw [Nat.zero_add]; exact hc i _ (inL_get _ _ hi)⟩⟩

theorem infoInt : (Tryd.prog.info? 3).map (fun i => (i.zero, i.size, i.bytes)) = some (some (.int .i64 0), 1, 8) := by kernel_rfl

theorem info_of {P : Program} {t : TypeId} {z : Value} {b : Nat} (h : (P.info? t).map (fun i => (i.zero, i.size, i.bytes)) = some (some z, 1, b)) : ∃ i : TypeInfo, P.info? t = some i ∧ i.zero = some z ∧ i.size = 1 ∧ i.bytes = b := by
  cases hq : P.info? t with
  | none => rw [hq] at h; cases h
  | some i =>
    rw [hq] at h
    simp only [Option.map_some, Option.some.injEq, Prod.mk.injEq] at h
    exact ⟨i, rfl, h.1, h.2.1, h.2.2⟩

/-- What a loop holds that appends hashes. -/
def HashesAt (w : World) (l : List UInt8) (k : Nat) (v : Value) (wr : World) : Prop := wr.ownsRow w.heap.size 45 1 v k (nuL (hashes l k)) ∧ Below w.heap.size w wr

set_option maxRecDepth 100000 in
set_option maxHeartbeats 4000000 in
theorem rall_any (s : ByteArray) (hs : s.size ≤ 1000000) (w : World) :
    Calls Tryd.prog 26 #[.string s] w fun e w' => ∃ v, e = .returned v ∧ U32At (hashes s.data.toList s.size) v w' ∧ Below w.heap.size w w' := by
  obtain ⟨i0, hi, hz0, hz1, hz2⟩ := info_of info36
  have HI := Lib.hid hi
  have HZ0 := Lib.hid hz0
  have HZ1 := Lib.hid hz1
  have HZ2 := Lib.hid hz2
  obtain ⟨l, hl⟩ : ∃ l, l = s.data.toList := ⟨_, rfl⟩
  rw [← hl]
  have HL := Lib.hid hl
  clear hl hi hz0 hz1 hz2
  go_enter Tryd.func26, Tryd.ntmps26
  go_wp2
  go_loopw [3, 4] (fun v x wr => ∃ (k : Nat), k ≤ s.size ∧ x = .int .i64 ((k + 1 : Nat) : Int) ∧ HashesAt w l k v wr) (fun _ x _ => s.size + 1 - (intOf x).toNat)
  case atStart => exact ⟨0, Nat.zero_le _, rfl, World.ownsRow_nil _ _ _ _, Below.refl _ _⟩
  case round =>
    obtain ⟨k, hk, rfl, hown, K⟩ := hrel
    have HO := Lib.hid hown
    clear hown
    have HSK := Lib.hid hk
    obtain ⟨j, hj⟩ : ∃ j, j = k + 1 := ⟨_, rfl⟩
    rw [← hj]
    by_cases hlt : k < s.size
    · have hcut := cut_list s j (by omega)
      rw [← HL.out] at hcut
      obtain ⟨tx, htx⟩ : ∃ tx, s.extract 0 j = tx := ⟨_, rfl⟩
      rw [htx] at hcut
      have SU := rsum_any tx (by unfold maxLen; omega) wr
      rw [hcut.1, hj] at SU
      obtain ⟨r, hr⟩ : ∃ r, r = rsum (l.take (k + 1)) := ⟨_, rfl⟩
      rw [← hr] at SU
      have hsn : nuL (hashes l (k + 1)) = nuL (hashes l k) ++ [.int .u32 (r : Nat)] := by
        rw [hashes_snoc, ← hr]; simp [nuL]
      have HSN := Lib.hid hsn
      have HJ := Lib.hid hj
      have hj1 : (j : Int) ≤ s.size := by omega
      have hj2 : j ≤ s.size := by omega
      have hszw : w.heap.size ≤ wr.heap.size := K.size
      clear hcut hr hsn hj hlt hk
      go_wp2_with fail
      refine SU.mono ?_
      rintro e w2 ⟨rfl, rfl⟩
      go_wp2_with (at_builtin; refine wpList_append_own _ rfl _ _ 50 rfl w.heap.size 45 i0 (.int .u32 0) 1 4 Tryd.underlying50 HI.out HZ0.out HZ1.out HZ2.out rfl (by decide) _ _ _ rfl (HO.out.alloc _) ⟨wr.heap.size, 0, none⟩ 1 1 [.int .u32 (r : Nat)] rfl rfl ?c1 ?c2 ?c3 ?c4 ?c5 ?_)
      case c1 => exact cell_one_new _ _ _
      case c2 => first | rfl | (intro u hu; simp only [List.mem_singleton] at hu; subst hu; rfl)
      case c3 => have := HSK.out; unfold maxLen; omega
      case c4 => have := HSK.out; omega
      case c5 => first | omega | (simp; omega)
      intro v' w4 hown4 hg4 _
      have h6 : Below w.heap.size w w4 := (K.alloc hszw _).grown hg4 (by simp; omega) (fun k hk => (HO.out.lt k hk).1)
      clear HO K
      go_wp2
      go_roundw
      case rel => exact ⟨k + 1, by have := HJ.out; omega, congrArg (Value.int .i64) (by have := HJ.out; omega), by rw [HSN.out]; exact hown4, h6⟩
      case measure => have := HJ.out; have := HSK.out; simp [intOf]; omega
    · obtain rfl : k = s.size := by omega
      have hU : U32At (hashes l s.size) u3 wr := u32At_own (by rw [hashes_len]; exact HO.out)
      have HU := Lib.hid hU
      have hj1 : ¬ (j : Int) ≤ s.size := by omega
      clear hU HO hj
      go_wp2
      go_ret
      exact ⟨_, rfl, HU.out, K⟩

end Go.Proofs.YtimllddlcjnikaaDoor
