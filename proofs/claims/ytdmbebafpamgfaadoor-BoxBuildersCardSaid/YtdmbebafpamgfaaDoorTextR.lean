/- Bits back to bytes; the walk of the document's text. -/
import Derived.Test.YtdmbebafpamgfaaDoorRefSum
import Derived.Test.YtdmbebafpamgfaaDoorNumB
namespace Go.Proofs.YtdmbebafpamgfaaDoor
open Go.RowKit

/-- The bytes of so many eights of bits. -/
def unbits : Nat → List Bool → List UInt8
  | 0, _ => []
  | q + 1, L => UInt8.ofNat (ofBits (L.take 8)) :: unbits q (L.drop 8)

theorem unbits_len : ∀ (q : Nat) (L : List Bool), (unbits q L).length = q
  | 0, _ => rfl
  | q + 1, L => by simp [unbits, unbits_len q]

theorem byteBits_of (L : List Bool) (h : L.length = 8) : byteBits (UInt8.ofNat (ofBits L)) = L := by
  have hl := ofBits_lt L
  rw [h] at hl
  apply List.ext_getElem (by rw [byteBits_len, h])
  intro j h1 h2
  have hj : j < 8 := by omega
  have e := byteBits_get (UInt8.ofNat (ofBits L)) j hj
  rw [List.getD_eq_getElem?_getD, List.getElem?_eq_getElem h1] at e
  rw [show (byteBits (UInt8.ofNat (ofBits L)))[j] = (UInt8.ofNat (ofBits L)).toNat.testBit j from e, UInt8.toNat_ofNat', Nat.mod_eq_of_lt (by omega), ofBits_testBit]
  simp [List.getD, h2]

theorem bits_unbits : ∀ (q : Nat) (L : List Bool), L.length = 8 * q → bitsB (unbits q L) = L
  | 0, L, h => by
    obtain rfl := List.eq_nil_of_length_eq_zero (show L.length = 0 by omega)
    rfl
  | q + 1, L, h => by
    have ih := bits_unbits q (L.drop 8) (by rw [List.length_drop]; omega)
    have hb := byteBits_of (L.take 8) (by rw [List.length_take]; omega)
    simp only [unbits]
    rw [show ∀ (c : UInt8) (l : List UInt8), bitsB (c :: l) = byteBits c ++ bitsB l from fun c l => by simp [bitsB], ih, hb, List.take_append_drop]

theorem byteBits_inj {a b : UInt8} (h : byteBits a = byteBits b) : a = b := by
  have := congrArg ofBits h
  rw [ofBits_byte, ofBits_byte] at this
  exact UInt8.toNat_inj.1 this

theorem bits_inj : ∀ (a b : List UInt8), bitsB a = bitsB b → a = b
  | [], [], _ => rfl
  | [], c :: l, h => by have := congrArg List.length h; simp [bits_len] at this
  | c :: l, [], h => by have := congrArg List.length h; simp [bits_len] at this
  | a :: l, b :: m, h => by
    rw [show ∀ (c : UInt8) (l : List UInt8), bitsB (c :: l) = byteBits c ++ bitsB l from fun c l => by simp [bitsB],
      show ∀ (c : UInt8) (l : List UInt8), bitsB (c :: l) = byteBits c ++ bitsB l from fun c l => by simp [bitsB]] at h
    obtain ⟨h1, h2⟩ := List.append_inj h (by rw [byteBits_len, byteBits_len])
    rw [byteBits_inj h1, bits_inj l m h2]

theorem info5' : (Tryd.prog.info? 5).map (fun i => (i.zero, i.size, i.bytes)) = some (some (.int .u8 0), 1, 1) := by kernel_rfl

theorem byte_step (c m : Nat) (hm : m < 8) : c / 2 ^ (8 - (m + 1)) = 2 * (c / 2 ^ (8 - m)) + (c.testBit (7 - m)).toNat := by
  rw [show 8 - m = (8 - (m + 1)) + 1 by omega, Nat.pow_succ, ← Nat.div_div_eq_div_mul, Nat.testBit_eq_decide_div_mod_eq, show 7 - m = 8 - (m + 1) by omega]
  generalize c / 2 ^ (8 - (m + 1)) = y
  rcases Nat.mod_two_eq_zero_or_one y with h | h
  · rw [h]; simp; omega
  · rw [h]; simp; omega

set_option maxRecDepth 100000 in
set_option maxHeartbeats 1000000 in
theorem text_any (bs : List UInt8) (hbs : bs.length ≤ 100000) (g cap : Nat) (w : World) (hg : w.heap[g]? = some (.cells (boolA (bitsB bs)) 4 (0, 0))) :
    Calls Tryd.prog 54 #[.slice (some ⟨g, 0, none⟩) (8 * bs.length) cap] w fun e w' => e = .returned (.string (str bs)) ∧ Below w.heap.size w w' := by
  obtain ⟨i0, hi, hz0, hz1, hz2⟩ : ∃ i : TypeInfo, Tryd.prog.info? 5 = some i ∧ i.zero = some (.int .u8 0) ∧ i.size = 1 ∧ i.bytes = 1 := by
    have h := info5'
    cases hq : Tryd.prog.info? 5 with
    | none => rw [hq] at h; cases h
    | some i =>
      rw [hq] at h
      simp only [Option.map_some, Option.some.injEq, Prod.mk.injEq] at h
      exact ⟨i, rfl, h.1, h.2.1, h.2.2⟩
  have hgl : g < w.heap.size := (Array.getElem?_eq_some_iff.1 hg).1
  have HI := Lib.hid hi
  have HZ0 := Lib.hid hz0
  have HZ1 := Lib.hid hz1
  have HZ2 := Lib.hid hz2
  have hcell : ∀ i k, i < bs.length → k < 8 → w.cell? ⟨g, 8 * i + k, none⟩ = some (.bool ((bs.getD i 0).toNat.testBit k)) := fun i k hi hk => by
    have h1 : 8 * i + k < (bitsB bs).length := by rw [bits_len]; omega
    rw [cell_of_row _ _ _ _ _ _ hg, boolA_get _ _ h1]
    have h2 := bits_at bs i k hi hk
    rw [List.getD_eq_getElem?_getD, List.getElem?_eq_getElem h1] at h2
    rw [show (bitsB bs)[8 * i + k] = bs[i].toNat.testBit k from h2]
    simp [List.getD, hi]
  have HC := Lib.hid hcell
  clear hcell hi hz0 hz1 hz2
  go_enter Tryd.func54, Tryd.ntmps54
  go_wp2
  go_loopw [3, 4] (fun v x wr => ∃ (j : Nat), j ≤ bs.length ∧ x = .int .i64 (8 * (j : Int)) ∧ wr.ownsRow w.heap.size 5 1 v j ((bs.take j).map fun c => Value.int .u8 c.toNat) ∧ Below w.heap.size w wr) (fun _ x _ => 8 * bs.length - (intOf x).toNat)
  case atStart => exact ⟨0, Nat.zero_le _, rfl, World.ownsRow_nil _ _ _ _, Below.refl _ _⟩
  case round =>
    obtain ⟨j, hj, rfl, hown, hb⟩ := hrel
    by_cases hlt : j < bs.length
    · have c0 : ∀ k, k < 8 → wr.cell? ⟨g, 8 * j + k, none⟩ = some (.bool ((bs.getD j 0).toNat.testBit k)) := fun k hk => (hb.cell (p := ⟨g, 8 * j + k, none⟩) hgl).trans (HC.out j k hlt hk)
      have HC0 := Lib.hid c0
      have b1 : decide (8 * (j : Int) + 7 < 8 * (bs.length : Int)) = true := by simp; omega
      have htk := List.take_succ_eq_append_getElem hlt
      have HTK := Lib.hid htk
      obtain ⟨c, hc⟩ : ∃ c : UInt8, c = bs.getD j 0 := ⟨_, rfl⟩
      rw [← hc] at HC0
      have hcj : bs[j] = c := by rw [hc]; simp [List.getD, hlt]
      have HCJ := Lib.hid hcj
      have hcl := c.toNat_lt
      have hz : c.toNat / 2 ^ 8 = 0 := Nat.div_eq_of_lt (by omega)
      clear c0 htk hc hcj
      have HB := Lib.hid hb
      have HO := Lib.hid hown
      clear hb hown
      go_wp2
      go_loop [5, 6] (fun y x => ∃ (m q : Nat), m ≤ 8 ∧ x = .int .i64 (7 - (m : Int)) ∧ y = .int .u8 q ∧ q = c.toNat / 2 ^ (8 - m)) (fun _ x => (intOf x + 1).toNat)
      case atStart => exact ⟨0, 0, Nat.zero_le _, rfl, rfl, hz.symm⟩
      case round =>
        clear hz
        obtain ⟨m, q, hm, rfl, rfl, hq⟩ := hrel
        have HQ := Lib.hid hq
        by_cases hlm : m < 8
        · have c1 := HC0.out (7 - m) (by omega)
          have hql : q ≤ 127 := by
            rw [hq, show 8 - m = 1 + (7 - m) by omega, Nat.pow_add, ← Nat.div_div_eq_div_mul]
            exact Nat.le_trans (Nat.div_le_self _ _) (by omega)
          have hts := byte_step c.toNat m hlm
          rw [← hq] at hts
          obtain ⟨b, hb⟩ : ∃ b, b = c.toNat.testBit (7 - m) := ⟨_, rfl⟩
          rw [← hb] at c1 hts
          have HTS := Lib.hid hts
          have e5 : (8 * (j : Int) + (7 - (m : Int))).toNat = 8 * j + (7 - m) := by omega
          have i1 : (0 : Int) ≤ 8 * (j : Int) + (7 - (m : Int)) := by omega
          have i2 : 8 * (j : Int) + (7 - (m : Int)) < 8 * bs.length := by omega
          have hmi : (m : Int) ≤ 7 := by omega
          clear hq hb hts
          cases b with
          | false =>
            go_wp2
            go_round
            case rel => exact ⟨m + 1, q * 2, by omega, by congr 1; omega, rfl, by rw [HTS.out]; simp; omega⟩
            case measure => simp [intOf]; omega
          | true =>
            go_wp2
            go_round
            case rel => exact ⟨m + 1, q * 2 + 1, by omega, by congr 1; omega, rfl, by rw [HTS.out]; simp; omega⟩
            case measure => simp [intOf]; omega
        · obtain rfl : m = 8 := by omega
          have hq' : q = c.toNat := by rw [hq]; simp
          subst hq'
          clear hq HQ
          have hszw : w.heap.size ≤ wr.heap.size := HB.out.size
          go_wp2_with (at_builtin; refine wpList_append_own _ rfl _ _ 98 rfl w.heap.size 5 i0 (.int .u8 0) 1 1 Tryd.underlying98 HI.out HZ0.out HZ1.out HZ2.out rfl (by decide) _ _ _ rfl (HO.out.alloc _) ⟨wr.heap.size, 0, none⟩ 1 1 [.int .u8 c.toNat] rfl rfl ?c1 ?c2 ?c3 ?c4 ?c5 ?_)
          case c2 => rfl
          case c3 => unfold maxLen; omega
          case c4 => omega
          case c5 => first | omega | (simp; omega)
          intro v' w4 hown4 hg4 _
          have h6 : Below w.heap.size w w4 := (HB.out.alloc hszw _).grown hg4 (by simp; omega) (fun k hk => (HO.out.lt k hk).1)
          clear HO
          go_wp2
          go_roundw
          case rel =>
            refine ⟨j + 1, by omega, by go_num, ?_, h6⟩
            rw [HTK.out, List.map_append, HCJ.out, List.map_take]
            exact hown4
          case measure => simp [intOf]; omega
    · obtain rfl : j = bs.length := by omega
      rw [List.take_length] at hown
      have b1 : decide (8 * (bs.length : Int) + 7 < 8 * (bs.length : Int)) = false := by simp; omega
      rcases hown with ⟨_, ⟨rfl, h0⟩ | ⟨g', cap', cur, rfl, hbg, hrow, hn, hcap, hcs, htake⟩⟩
      · obtain rfl := List.eq_nil_of_length_eq_zero h0
        have hcv : (convert 98 9 (.slice none 0 0)).run Tryd.prog wr = .ok (.string (str [])) wr := by
          rw [run_convert_bytes_string wr 98 9 5 none 0 0 Tryd.underlying98 Tryd.underlying5 Tryd.underlying9]
          rfl
        go_wp2
        go_ret
        exact ⟨rfl, hb⟩
      · have hcv := conv_bytes (P := Tryd.prog) wr 98 9 5 g' bs.length cap' bs rfl Tryd.underlying98 Tryd.underlying5 Tryd.underlying9 (fun i hi => by
          rw [cell_of_row _ _ _ _ _ _ hrow]
          have := congrArg (fun l => l[i]?) htake
          simpa [List.getElem?_take, hi, Nat.mul_one] using this)
        clear hrow htake hcs HC
        go_wp2
        go_ret
        exact ⟨rfl, hb⟩

end Go.Proofs.YtdmbebafpamgfaaDoor
