/- The program's disk: the walk of Read. -/
import Derived.Test.YtpnnlpmkgglgdaaDtA
namespace Go.Proofs.Ytpnnlpmkgglgdaa
open Go.RowKit

section
variable {B g b c m : Nat} {s : Dk} {vp : Value} {w : World} (h : DAt B g b c m s vp w)
include h

set_option maxRecDepth 100000 in
set_option maxHeartbeats 1000000 in
theorem dread_any (hok : s.ok) (i : Int) (hi : (Lit.int .i64 i).wf = true) :
    Calls Try.prog 19 #[.pointer (some ⟨g, 0, none⟩), .int .i64 i] w fun e w' => e = .returned (.tuple #[.string (str (s.readT i)), .int .i64 (s.readE i)]) ∧ w = w' := by
  have RC := dreach_any h hok i
  by_cases hbad : s.down = true ∨ s.out i
  · have e2 : str (s.readT i) = ⟨#[]⟩ := by unfold Dk.readT; rw [if_pos hbad]; rfl
    have e1 : (s.readE i != 0) = true := by unfold Dk.readE; rw [bne_iff_ne]; split; · decide
                                            rcases hbad with x | x
                                            · contradiction
                                            · rw [if_pos x]; decide
    rw [e2]
    obtain ⟨r, hr⟩ : ∃ r, r = s.readE i := ⟨_, rfl⟩
    rw [← hr] at RC e1 ⊢
    clear h hok e2 hbad hr
    go_enter Try.func19, Try.ntmps19
    go_wp2_with fail
    refine RC.mono ?_
    rintro e w1 ⟨rfl, rfl⟩
    go_wp2
    first | go_ret | go_ret2
    exact ⟨rfl, rfl⟩
  · have hd : ¬ s.down = true := fun x => hbad (Or.inl x)
    have ho : ¬ s.out i := fun x => hbad (Or.inr x)
    have e1 : s.readE i = 0 := by unfold Dk.readE; rw [if_neg hd, if_neg ho]
    have e2 : s.readT i = s.vis i.toNat := by unfold Dk.readT; rw [if_neg hbad]
    rw [e1] at RC
    rw [e1, e2]
    unfold Dk.out at ho
    obtain ⟨q, rfl⟩ : ∃ q : Nat, i = q := ⟨i.toNat, by omega⟩
    rw [Int.toNat_natCast]
    have hqs : q < s.stands.length := by omega
    have hlk := h.map.look Try.underlying57 hi
    have c3 : w.cell? ⟨g, 3, none⟩ = some (.map (some m)) := h.cell 3 _ rfl
    rcases lastF_vis s q with ⟨hn, hv⟩ | ⟨j, hj, hjl, hv⟩
    · have hil := hok.image_len
      have hcv := h.dur.conv (128 * q) 128 (c - 128 * q) (by omega)
      have hsec : (s.image.drop (128 * q)).take 128 = s.vis q := by
        rw [hv, List.getD_eq_getElem?_getD, List.getElem?_eq_getElem hqs]
        exact flat_sect _ hok.sect q hqs
      rw [hsec] at hcv
      rw [hn] at hlk
      have hlk2 : (Instr.lookup 57 (.map (some m)) (.int .i64 (q : Int)) true).run Try.prog w = .ok (.tuple #[.int .i64 0, .bool false]) w := hlk
      obtain ⟨tv, htv⟩ : ∃ tv, tv = str (s.vis q) := ⟨_, rfl⟩
      rw [← htv] at hcv ⊢
      have SC := dsector_any h hok q hqs
      obtain ⟨a, ha⟩ : ∃ a, a = 128 * q := ⟨_, rfl⟩
      rw [← ha] at hcv SC
      clear h hok e1 e2 hbad hd hlk hn hv hsec htv ha hil hqs ho
      go_enter Try.func19, Try.ntmps19
      go_wp2_with fail
      refine RC.mono ?_
      rintro e w1 ⟨rfl, rfl⟩
      go_wp2_with fail
      refine SC.mono ?_
      rintro e w1 ⟨rfl, rfl⟩
      go_wp2
      first | go_ret | go_ret2
      exact ⟨rfl, rfl⟩
    · have hwl : ∀ p ∈ s.waits, p.2.length = 128 := fun p hp => (hok.wait p hp).2
      obtain ⟨gp, cp, cur, hvp, -, -, -, -, -, -, hby⟩ := own_cut h.pend rfl hwl j hjl
      have c2 : w.cell? ⟨g, 2, none⟩ = some vp := h.cell 2 _ rfl
      rw [hvp] at c2
      have hcv := conv_cells (w := w) gp (j * 129 + 1) 128 128 s.waits[j].2 (hwl _ (List.getElem_mem hjl)) hby
      rw [← hv] at hcv
      rw [hj] at hlk
      have hlk2 : (Instr.lookup 57 (.map (some m)) (.int .i64 (q : Int)) true).run Try.prog w = .ok (.tuple #[.int .i64 (j : Int), .bool true]) w := hlk
      obtain ⟨tv, htv⟩ : ∃ tv, tv = str (s.vis q) := ⟨_, rfl⟩
      rw [← htv] at hcv ⊢
      obtain ⟨k, hk⟩ : ∃ k, k = s.waits.length := ⟨_, rfl⟩
      rw [← hk] at c2 hjl
      have i1 : (0 : Int) ≤ j := by omega
      have i2 : (j : Int) < k := by omega
      clear h hok e1 e2 hbad hd hlk hj hv htv hby hk hvp hqs ho hwl
      go_enter Try.func19, Try.ntmps19
      go_wp2_with fail
      refine RC.mono ?_
      rintro e w1 ⟨rfl, rfl⟩
      go_wp2
      first | go_ret | go_ret2
      exact ⟨rfl, rfl⟩
end

end Go.Proofs.Ytpnnlpmkgglgdaa
