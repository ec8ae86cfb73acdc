/- The walk of the document's Pad. -/
import Derived.Test.YtepcnedagmfpeaaDoorRev
import Derived.Laws.AppendOwn
import Derived.Outline
namespace Go.Proofs.YtepcnedagmfpeaaDoor
open Go.RowKit

theorem info5' : (Tryd.prog.info? 5).map (fun i => (i.zero, i.size, i.bytes)) = some (some (.int .u8 0), 1, 1) := by kernel_rfl

theorem be_div (n i : Nat) (h : i < 8) : (((n : Int) / 2 ^ (56 - 8 * i)) % 256 : Int) = (((beB 8 n).getD i 0).toNat : Int) := by
  have e : (2 : Int) ^ (56 - 8 * i) = ((256 ^ (7 - i) : Nat) : Int) := by
    rw [Int.natCast_pow, show ((256 : Nat) : Int) = 2 ^ 8 from rfl, ← Int.pow_mul]
    congr 1
    omega
  have hl : i < (beB 8 n).length := by rw [beB_len]; exact h
  rw [List.getD_eq_getElem?_getD, List.getElem?_eq_getElem hl, Option.getD_some, beB_get, e, UInt8.toNat_ofNat']
  have h7 : 8 - 1 - i = 7 - i := by omega
  rw [h7]
  omega

theorem zero_snoc (j : Nat) : str (128 :: List.replicate j 0) ++ ⟨#[0]⟩ = str (128 :: List.replicate (j + 1) 0) := by
  have h := str_append (128 :: List.replicate j 0) [0]
  rw [List.cons_append, show [(0 : UInt8)] = List.replicate 1 0 from rfl, List.replicate_append_replicate] at h
  exact h

theorem zero_size (j : Nat) : (str (128 :: List.replicate j 0)).size = 1 + j := by rw [str_size]; simp; omega

def Zs (z : Nat) (v : Value) : Prop := ∃ j s, j ≤ z ∧ v = .string s ∧ s = str (128 :: List.replicate j 0)

set_option maxHeartbeats 1000000 in
theorem rpad_any (n : Nat) (hn : n ≤ 1099511627776) (w : World) :
    Calls Tryd.prog 20 #[.int .i64 n] w fun e w' => e = .returned (.string (str (padL n))) ∧ Below w.heap.size w w' := by
  obtain ⟨i0, hi, hz0, hz1, hz2⟩ : ∃ i : TypeInfo, Tryd.prog.info? 5 = some i ∧ i.zero = some (.int .u8 0) ∧ i.size = 1 ∧ i.bytes = 1 := by
    have h := info5'
    cases hq : Tryd.prog.info? 5 with
    | none => rw [hq] at h; cases h
    | some i =>
      rw [hq] at h
      simp only [Option.map_some, Option.some.injEq, Prod.mk.injEq] at h
      exact ⟨i, rfl, h.1, h.2.1, h.2.2⟩
  have HI := Lib.hid hi
  have HZ0 := Lib.hid hz0
  have HZ1 := Lib.hid hz1
  have HZ2 := Lib.hid hz2
  clear hi hz0 hz1 hz2
  obtain ⟨z, hz⟩ : ∃ z, z = (119 - n % 64) % 64 := ⟨_, rfl⟩
  have hzm : (n + 9 + z) % 64 = 0 := by omega
  have hzl : z ≤ 63 := by omega
  have HZ := Lib.hid hz
  clear hz
  go_enter Tryd.func20, Tryd.ntmps20
  go_wp2
  go_loop [3] (fun x => Zs z x) (fun x => match x with | .string s => 70 - s.size | _ => 0)
  case atStart => exact ⟨0, _, Nat.zero_le _, rfl, rfl⟩
  case round =>
    obtain ⟨j, s, hj, rfl, hs⟩ := hrel
    have hsz : s.size = 1 + j := by rw [hs]; exact zero_size j
    have HS := Lib.hid hs
    clear hs
    by_cases hjz : j = z
    · subst hjz
      have em : (((n : Int) + (1 + (j : Int)) + 8) % 64) = 0 := by omega
      have HM := Lib.hid hzm
      clear hzm
      have hb8 : ∀ i, i < 8 → (((n : Int) * 8 / 2 ^ (56 - 8 * i)) % 256 : Int) = (((beB 8 (n * 8)).getD i 0).toNat : Int) := fun i h => by
        have := be_div (n * 8) i h
        rw [← this]
        congr 2
      have HB8 := Lib.hid hb8
      have hl8 := beB_len 8 (n * 8)
      obtain ⟨L, hL⟩ : ∃ L, L = beB 8 (n * 8) := ⟨_, rfl⟩
      rw [← hL] at HB8 hl8
      have HL := Lib.hid hL
      have HL8 := Lib.hid hl8
      clear hb8 hL hl8
      go_wp2
      go_loopw [5, 6] (fun v x wr => ∃ (i : Nat), i ≤ 8 ∧ x = .int .i64 i ∧ wr.ownsRow w.heap.size 5 1 v i ((L.take i).map fun c => Value.int .u8 c.toNat) ∧ Below w.heap.size w wr) (fun _ x _ => 8 - (intOf x).toNat)
      case atStart => exact ⟨0, Nat.zero_le _, rfl, World.ownsRow_nil _ _ _ _, Below.refl _ _⟩
      case round =>
        clear em
        obtain ⟨i, hi, rfl, hown, hb⟩ := hrel
        have HB := Lib.hid hb
        have HO := Lib.hid hown
        clear hb
        by_cases hlt : i < 8
        · have e1 : ((56 : Int) - 8 * i).toNat = 56 - 8 * i := by omega
          have hcv := HB8.out i hlt
          obtain ⟨c, hc⟩ : ∃ c : UInt8, c = L.getD i 0 := ⟨_, rfl⟩
          rw [← hc] at hcv
          have htk := List.take_succ_eq_append_getElem (l := L) (i := i) (by rw [HL8.out]; exact hlt)
          have hci : L[i]'(by rw [HL8.out]; exact hlt) = c := by rw [hc]; simp [List.getD, HL8.out, hlt]
          rw [hci] at htk
          have HTK := Lib.hid htk
          have hcl := c.toNat_lt
          clear hc hci htk hown
          have hszw : w.heap.size ≤ wr.heap.size := HB.out.size
          go_wp2_with (at_builtin; refine wpList_append_own _ rfl _ _ 60 rfl w.heap.size 5 i0 (.int .u8 0) 1 1 Tryd.underlying60 HI.out HZ0.out HZ1.out HZ2.out rfl (by decide) _ _ _ rfl (HO.out.alloc _) ⟨wr.heap.size, 0, none⟩ 1 1 [.int .u8 c.toNat] rfl rfl ?c1 ?c2 ?c3 ?c4 ?c5 ?_)
          case c1 => exact cell_one_new _ _ _
          case c2 => intro u hu; simp only [List.mem_singleton] at hu; subst hu; rfl
          case c3 => unfold maxLen; omega
          case c4 => omega
          case c5 => first | omega | (simp; omega)
          intro v' w4 hown4 hg4 _
          have h6 : Below w.heap.size w w4 := (HB.out.alloc hszw _).grown hg4 (by simp; omega) (fun k hk => (HO.out.lt k hk).1)
          clear HO
          go_wp2
          go_roundw
          case rel =>
            refine ⟨i + 1, by omega, by go_num, ?_, h6⟩
            rw [HTK.out, List.map_append, List.map_take]
            exact hown4
          case measure => simp [intOf]; omega
        · obtain rfl : i = 8 := by omega
          clear HO
          have ht : L.take 8 = L := List.take_of_length_le (by rw [HL8.out]; omega)
          rw [ht] at hown
          rcases hown with ⟨_, ⟨rfl, h0⟩ | ⟨g', cap', cur, rfl, hbg, hrow, hn', hcap, hcs, htake⟩⟩
          · omega
          · have hcv := conv_bytes (P := Tryd.prog) wr 60 9 5 g' 8 cap' L HL8.out Tryd.underlying60 Tryd.underlying5 Tryd.underlying9 (fun i hi => by
              rw [cell_of_row _ _ _ _ _ _ hrow]
              have := congrArg (fun l => l[i]?) htake
              have hi8 : i < 8 := by rw [← HL8.out]; exact hi
              simpa [List.getElem?_take, hi8, hi, Nat.mul_one] using this)
            have hfin : s ++ str L = str (padL n) := by
              have e8 : 8 * n % 18446744073709551616 = n * 8 := by omega
              rw [HS.out, HL.out, str_append]
              unfold padL
              rw [e8, ← HZ.out, List.cons_append]
            have hls : (str L).size = 8 := by rw [str_size, HL8.out]
            have HF := Lib.hid hfin
            clear hrow htake hcs ht hfin
            go_wp2
            go_ret
            exact ⟨by rw [← HF.out]; rfl, HB.out⟩
    · have em : ¬ (((n : Int) + (1 + (j : Int)) + 8) % 64) = 0 := by omega
      have HM := Lib.hid hzm
      clear hzm
      go_wp2
      go_round
      case rel =>
        exact ⟨j + 1, _, by omega, rfl, by rw [HS.out]; exact zero_snoc j⟩
      case measure =>
        simp only [ByteArray.size_append, hsz]
        show 70 - (1 + j + 1) < 70 - (1 + j)
        omega

end Go.Proofs.YtepcnedagmfpeaaDoor
