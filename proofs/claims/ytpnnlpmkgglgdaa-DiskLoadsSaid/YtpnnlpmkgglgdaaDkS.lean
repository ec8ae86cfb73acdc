/- The statement's sectors: the walk of sector. -/
import Derived.Test.YtpnnlpmkgglgdaaRows
import Derived.Test.YtpnnlpmkgglgdaaGen
import Derived.Test.YtpnnlpmkgglgdaaDkM
import Derived.Test.YtpnnlpmkgglgdaaFlat
import Derived.Deep.LoopGhost
import Derived.Laws.Concat
namespace Go.Proofs.Ytpnnlpmkgglgdaa
open Go.RowKit

theorem str_of (s : ByteArray) : str s.data.toList = s := str_data s
theorem str_len (s : ByteArray) : s.data.toList.length = s.size := data_len s

theorem str_extract (l : List UInt8) (a n : Nat) (h : a + n ≤ l.length) : (str l).extract a (a + n) = str ((l.drop a).take n) := by
  have h1 := Lib.extract_eq (str l) a (a + n)
  rw [h1, str_list]
  unfold str
  congr 2
  rw [show a + n - a = n by omega]

set_option maxRecDepth 100000 in
set_option maxHeartbeats 1000000 in
theorem sector_any (s : ByteArray) (w : World) :
    Calls Try.prog 21 #[.string s] w fun e w' => e = .returned (.string (str (secT s.data.toList))) ∧ Below w.heap.size w w' := by
  have hs := str_len s
  have he := str_of s
  obtain ⟨l, hl⟩ : ∃ l, l = s.data.toList := ⟨_, rfl⟩
  rw [← hl] at hs he ⊢
  obtain ⟨tx, htx⟩ : ∃ tx, tx = str (secT l) := ⟨_, rfl⟩
  rw [← htx, ← he]
  have HX := Lib.hid htx
  clear htx hl he hs
  have HD : Hid (str [45] = ⟨#[45]⟩) := Lib.hid rfl
  go_enter Try.func21, Try.ntmps21
  go_wp2
  go_loopg [0] (128 - l.length) (fun g x wr => ∃ (k : Nat) (t : ByteArray), k + g = 128 - l.length ∧ x = .string t ∧ Hid (t = str (l ++ List.replicate k 45)) ∧ Hid (Kept w wr))
  case atStart => exact ⟨0, str l, by omega, rfl, Lib.hid (by simp), Lib.hid (Kept.refl w)⟩
  case round =>
    obtain ⟨k, t, hk, rfl, HT, HK⟩ := hrel
    have hts : t.size = l.length + k := by rw [HT.out, str_size]; simp
    by_cases h0 : t.size < 128
    · have hti : (t.size : Int) < 128 := by omega
      obtain ⟨t2, ht2⟩ : ∃ t2, t2 = t ++ ⟨#[45]⟩ := ⟨_, rfl⟩
      have A1 : ∀ w', (Op.stringOp .add t ⟨#[45]⟩).run Try.prog w' = .ok (.string t2) w' := fun w' => by rw [ht2]; exact run_string_add_sum w' t _ (by have : (⟨#[45]⟩ : ByteArray).size = 1 := rfl; omega)
      have HT2 : Hid (t2 = str (l ++ List.replicate (k + 1) 45)) := Lib.hid (by rw [ht2, HT.out, ← HD.out, str_append, List.append_assoc, ← List.replicate_succ'])
      clear ht2
      go_wp2
      go_roundg (128 - l.length - (k + 1))
      case measure => omega
      case rel => exact ⟨k + 1, t2, by omega, rfl, HT2, HK⟩
    · have hti : ¬ (t.size : Int) < 128 := by omega
      have hn : (128 : Nat) ≤ t.size := by omega
      have e1 : t.extract 0 128 = tx := by
        rw [HX.out, HT.out, str_take]
        unfold secT
        by_cases hl : l.length ≤ 128
        · rw [show k = 128 - l.length by omega]
        · rw [List.take_append_of_le_length (by omega), List.take_append_of_le_length (by omega)]
      clear hts h0
      go_wp2
      go_ret
      exact ⟨rfl, HK.out⟩

end Go.Proofs.Ytpnnlpmkgglgdaa
