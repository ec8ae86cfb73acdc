/- The walks of the document's number, Text, size. -/
import Derived.Test.YtmobkjdncfdokaaDoorParseW
namespace Go.Proofs.YtmobkjdncfdokaaDoor
open Go.RowKit

/-- What the digits so far are. -/
def DigAt (n m : Nat) (L : List UInt8) : Prop := (L = [] ∧ m = n) ∨ (L ≠ [] ∧ (if m = 0 then L = Lib.decDigits n else Lib.decDigits m ++ L = Lib.decDigits n))

theorem DigAt.next {n m : Nat} {L : List UInt8} (h : DigAt n m L) (hm : 0 < m ∨ L = []) : DigAt n (m / 10) (UInt8.ofNat (48 + m % 10) :: L) := by
  right
  refine ⟨by simp, ?_⟩
  have key : (if m / 10 = 0 then UInt8.ofNat (48 + m % 10) :: L else Lib.decDigits (m / 10) ++ UInt8.ofNat (48 + m % 10) :: L) = Lib.decDigits m ++ L := by
    by_cases c : m < 10
    · rw [if_pos (by omega), dec_small c, Nat.mod_eq_of_lt c]; rfl
    · rw [if_neg (by omega), dec_big c, List.append_assoc]; rfl
  have all : Lib.decDigits m ++ L = Lib.decDigits n := by
    rcases h with ⟨rfl, rfl⟩ | ⟨h1, h2⟩
    · simp
    · rcases hm with hm | hm
      · rw [if_neg (by omega)] at h2; exact h2
      · exact absurd hm h1
  rw [all] at key
  split
  · rename_i h0; rw [if_pos h0] at key; exact key
  · rename_i h0; rw [if_neg h0] at key; exact key

theorem DigAt.len {n m : Nat} {L : List UInt8} (h : DigAt n m L) : L.length ≤ (Lib.decDigits n).length := by
  rcases h with ⟨rfl, rfl⟩ | ⟨h1, h2⟩
  · simp
  · split at h2
    · rw [h2]; exact Nat.le_refl _
    · rw [← h2, List.length_append]; omega

/-- How much is still to do. -/
def digMu : Value → Value → Nat
  | .int _ q, .string s => 2 * q.toNat + (if s.size = 0 then 1 else 0)
  | _, _ => 0

set_option maxRecDepth 100000 in
set_option maxHeartbeats 2000000 in
theorem number_any (n : Nat) (hn : n ≤ 9007199254740992) (w : World) :
    Calls Tryd.prog 23 #[.int .i64 n] w fun e w' => e = .returned (.string (str (Lib.decDigits n))) ∧ Below w.heap.size w w' := by
  have h16 := dec16 n hn
  go_enter Tryd.func23, Tryd.ntmps23
  go_wp2
  go_loopw [0, 3] (fun x y wr => ∃ (m : Nat) (L : List UInt8), m ≤ n ∧ x = .int .i64 m ∧ y = .string (str L) ∧ DigAt n m L ∧ Below w.heap.size w wr) (fun x y _ => digMu x y)
  case atStart => exact ⟨n, [], Nat.le_refl _, rfl, rfl, Or.inl ⟨rfl, rfl⟩, Below.refl _ _⟩
  case round =>
    obtain ⟨m, L, hm, rfl, rfl, hD, K⟩ := hrel
    have HD := Lib.hid hD
    have hlen := hD.len
    clear hD
    have hLs := str_size L
    by_cases hgo : 0 < m ∨ L = []
    · have HN := Lib.hid (HD.out.next hgo)
      have hmi : (m : Int) ≤ 9007199254740992 := by omega
      have hmod : (m : Int) % 10 < 10 := by omega
      have hmod0 : 0 ≤ (m : Int) % 10 := by omega
      obtain ⟨c, hc⟩ : ∃ c : UInt8, c = UInt8.ofNat (48 + m % 10) := ⟨_, rfl⟩
      have hcn : (c.toNat : Int) = 48 + (m : Int) % 10 := by
        rw [hc, digit_nat _ (Nat.mod_lt _ (by omega))]; omega
      have hconv : (convert 74 9 (.slice (some ⟨wr.heap.size, 0, none⟩) 1 1)).run Tryd.prog (wr.alloc (.cells #[.int .u8 (48 + (m : Int) % 10)] 5)) = .ok (.string (str [c])) (wr.alloc (.cells #[.int .u8 (48 + (m : Int) % 10)] 5)) :=
        conv_bytes _ 74 9 5 wr.heap.size 1 1 [c] rfl Tryd.underlying74 Tryd.underlying5 Tryd.underlying9 (fun j hj => by
          obtain rfl : j = 0 := by simp at hj; omega
          rw [cell_of_row _ _ 0 _ _ _ (heap_alloc_last wr _)]
          simp [hcn])
      have happ : str [c] ++ str L = str (c :: L) := by rw [str_append]; rfl
      rw [← hc] at HN
      have HA := Lib.hid happ
      have HK : Hid (Below w.heap.size w (wr.alloc (.cells #[.int .u8 (48 + (m : Int) % 10)] 5))) := K.alloc K.size _
      have hLi : (L.length : Int) ≤ 16 := by omega
      have hmu : digMu (.int .i64 ((m / 10 : Nat) : Int)) (.string (str (c :: L))) < digMu (.int .i64 m) (.string (str L)) := by
        have h1 := str_size (c :: L)
        rw [List.length_cons] at h1
        simp only [digMu, Int.toNat_natCast]
        rw [if_neg (by omega)]
        rcases hgo with h | h
        · have : m / 10 < m := by omega
          split <;> omega
        · rw [if_pos (by rw [hLs, h]; rfl)]
          have : m / 10 ≤ m := Nat.div_le_self _ _
          omega
      have HM := Lib.hid hmu
      have hs1 : (str [c]).size = 1 := str_size _
      clear happ hc hcn hmu
      by_cases hpos : 0 < m
      · have hpi : (0 : Int) < m := by omega
        clear hgo
        go_wp2
        go_roundw
        case rel =>
          rw [HA.out]
          exact ⟨m / 10, c :: L, by omega, by congr 1, rfl, HN.out, HK.out⟩
        case measure =>
          rw [HA.out]
          exact HM.out
      · have hpi : ¬ ((0 : Int) < m) := by omega
        have hL0 : L = [] := by rcases hgo with h | h; exact absurd h hpos; exact h
        subst hL0
        obtain rfl : m = 0 := by omega
        have e0 : str [] = ⟨#[]⟩ := rfl
        rw [e0] at hLs ⊢
        rw [e0] at HA HM
        have h48 : (48 : Int) + ((0 : Nat) : Int) % 10 = 48 := by decide
        rw [h48] at hconv HK
        clear hgo h48
        go_wp2
        go_roundw
        case rel =>
          rw [HA.out]
          exact ⟨0 / 10, [c], by omega, rfl, rfl, HN.out, HK.out⟩
        case measure =>
          rw [HA.out]
          exact HM.out
    · obtain rfl : m = 0 := by omega
      have hL0 : L ≠ [] := fun h => hgo (Or.inr h)
      have hfin : L = Lib.decDigits n := by
        rcases HD.out with ⟨h1, _⟩ | ⟨_, h2⟩
        · exact absurd h1 hL0
        · rw [if_pos rfl] at h2; exact h2
      have hne : ((str L).toList == []) = false := by
        rw [Lib.toList_data, str_list]
        exact beq_eq_false_iff_ne.2 hL0
      have HFn := Lib.hid hfin
      have hem : (str L).toList.isEmpty = false := by
        rw [Lib.toList_data, str_list]
        cases L with
        | nil => exact absurd rfl hL0
        | cons _ _ => rfl
      clear hfin hgo hL0
      go_wp2
      go_ret
      refine ⟨?_, K⟩
      show Ending.returned (Value.string (str L)) = _
      rw [HFn.out]

end Go.Proofs.YtmobkjdncfdokaaDoor
