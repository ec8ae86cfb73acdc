/- The walk of HookParses. -/
import Derived.Test.YthgjooacapodnaaHkLc
namespace Go.Proofs.Ythgjooacapodnaa
open Go.RowKit

theorem wpList_pureK {P : Program} {ops : Array Oper} {rest : List Oper} {o : Oper} {a : Act} {w : World} {Q : Exit → Act → World → Prop} (hw : Region.wanted o (yielded ops a.tmps) = true) (v : Value) (ho : (execOp a.eval o).run P w = .ok (.value v) w)
    (h : ∀ K : Act → World → Prop, (∀ a w, wpList P ops Q rest a w → K a w) → K (a.put o.dst v) w) : wpList P ops Q (o :: rest) a w :=
  BigFrame.wpList_want hw fun K hK => by
    unfold Oper.wp
    rw [ho]
    exact h K hK

/-- The first digits alone. -/
def digAll (l : List UInt8) (k : Nat) : Bool := (l.take k).all fun c => digB c.toNat

theorem digAll_next (l : List UInt8) (k : Nat) (h : k < l.length) : digAll l (k + 1) = (digAll l k && digB (l[k]).toNat) := by
  unfold digAll
  rw [List.take_succ_eq_append_getElem h, List.all_append]
  simp

/-- A text that is no fingerprint's. -/
theorem parse_none (l : List UInt8) (h : parseL l = none) : (decide (l.length = 64) && digAll l 64) = false := by
  by_cases h64 : l.length = 64
  · cases hd : digAll l 64 with
    | false => simp
    | true =>
      exfalso
      unfold digAll at hd
      rw [List.take_of_length_le (by omega), List.all_eq_true] at hd
      obtain ⟨r, hr, _⟩ := unhex_some 32 l (by omega) (fun c hc => by rw [dig_val, hd c hc]; rfl)
      unfold parseL at h
      rw [if_pos h64, hr] at h
      cases h
  · simp [h64]

theorem parse_back (s : ByteArray) (r : List UInt8) (h : parseL s.data.toList = some r) : str (hexL r) = s ∧ r.length = 32 := by
  unfold parseL at h
  split at h
  · rename_i h64
    have h1 := hexL_unhex _ _ h
    have h2 := unhex_len _ _ h
    exact ⟨by rw [h1, str_data], by omega⟩
  · cases h

set_option maxRecDepth 100000 in
set_option maxHeartbeats 8000000 in
theorem walk_hookParses (s : ByteArray) (hs : s.size ≤ maxLen) (w : World) : Calls Try.prog 4 #[.string s] w (LawPost w) := by
  have PA := parse_any s hs w
  have hz := data_len s
  unfold maxLen at hs
  go_enter Try.func4, Try.ntmps4
  go_wp2_with fail
  refine PA.mono ?_
  rintro e w1 ⟨⟨r, hp, rfl⟩ | ⟨hp, rfl⟩, hb1⟩
  · obtain ⟨hback, hr⟩ := parse_back s r hp
    have RT := fun W => rtext_any r hr W
    rw [hback] at RT
    have HI := Lib.hid (fp_info r hr)
    have H1 := Lib.hid (fpA_one r)
    have HFS : Hid ((fpA r).size = 32) := by rw [fpA_size]; exact hr
    obtain ⟨F, hF⟩ : ∃ F, F = fpA r := ⟨_, rfl⟩
    rw [← hF] at RT HI H1 HFS ⊢
    have KA : Below w.heap.size w (w1.alloc (.cells F 23)) := hb1.alloc hb1.size _
    clear hF hback hp hr PA hz
    go_wp2_with (first
      | ((with_reducible refine wpList_store_row rfl _ _ _ rfl w1.heap.size F rfl rfl 23 _ (heap_alloc_last w1 _) HI.out ?_ H1.out ?_); (· rw [HFS.out]; rfl); rw [World.setRow_alloc_new])
      | (with_reducible refine wpList_load_row rfl _ _ rfl w1.heap.size rfl 23 F (0, 0) _ (heap_alloc_last w1 _) Try.underlying23 rfl HI.out ?_))
    refine (RT _).mono ?_
    rintro e w2 ⟨rfl, hb2⟩
    have k2 := Below.then' KA hb2 KA.size
    clear hb2 RT
    go_wp2_with fail
    refine (awake_any _).mono ?_
    rintro e w3 ⟨rfl, hb3⟩
    go_wp2
    go_ret
    exact ⟨rfl, Below.then' k2 hb3 k2.size⟩
  · have PN := Lib.hid (parse_none s.data.toList hp)
    have HI := Lib.hid (fp_info zeroL rfl)
    have H1 := Lib.hid (fpA_one zeroL)
    have HFS : Hid ((fpA zeroL).size = 32) := rfl
    have EQ := fun W => eq_fp zeroL zeroL rfl rfl W
    have beqE : (zeroL == zeroL) = true := by simp
    rw [beqE] at EQ
    rw [zeroL_cells] at HI H1 HFS EQ ⊢
    have KA : Below w.heap.size w (w1.alloc (.cells #[.int .u8 0, .int .u8 0, .int .u8 0, .int .u8 0, .int .u8 0, .int .u8 0, .int .u8 0, .int .u8 0, .int .u8 0, .int .u8 0, .int .u8 0, .int .u8 0, .int .u8 0, .int .u8 0, .int .u8 0, .int .u8 0, .int .u8 0, .int .u8 0, .int .u8 0, .int .u8 0, .int .u8 0, .int .u8 0, .int .u8 0, .int .u8 0, .int .u8 0, .int .u8 0, .int .u8 0, .int .u8 0, .int .u8 0, .int .u8 0, .int .u8 0, .int .u8 0] 23)) := hb1.alloc hb1.size _
    obtain ⟨L, hL⟩ : ∃ L, L = s.data.toList := ⟨_, rfl⟩
    obtain ⟨n, hn⟩ : ∃ n, n = s.size := ⟨_, rfl⟩
    have hLn : L.length = n := by rw [hL, hn]; exact hz
    have IX := fun (k : Nat) (h : k < L.length) w' => text_byte s (k : Int) k (by rw [← hL]; exact h) rfl w'
    have HIX : Hid (∀ (k : Nat) (h : k < L.length) (w' : World), (Instr.index 9 (.string s) (.int .i64 k)).run Try.prog w' = .ok (.int .u8 ((L[k]).toNat : Int)) w') := Lib.hid (by
      intro k h w'
      have := IX k h w'
      simp only [← hL] at this
      exact this)
    rw [← hL] at PN
    obtain ⟨f0, hf0⟩ : ∃ f, f = decide (n = 64) := ⟨_, rfl⟩
    have e64 : ((n : Int) == 64) = f0 := by
      rw [hf0, Bool.eq_iff_iff, beq_iff_eq, decide_eq_true_iff]
      omega
    have PN2 : Hid ((f0 && digAll L 64) = false) := Lib.hid (by
      rw [hf0, ← hLn]; exact PN.out)
    have e64' : ((s.size : Int) == 64) = f0 := by rw [← hn]; exact e64
    have HLN := Lib.hid hLn
    have HNN := Lib.hid hn
    have hn2 : n ≤ 2 ^ 63 - 1 := by rw [hn]; exact hs
    have HNZ : Hid ((s.size : Int) = (n : Int)) := Lib.hid (by rw [hn])
    clear hp PA hz beqE IX hf0 hLn PN e64 hL hn
    go_wp2_with ((with_reducible refine wpList_store_row rfl _ _ _ rfl w1.heap.size #[.int .u8 0, .int .u8 0, .int .u8 0, .int .u8 0, .int .u8 0, .int .u8 0, .int .u8 0, .int .u8 0, .int .u8 0, .int .u8 0, .int .u8 0, .int .u8 0, .int .u8 0, .int .u8 0, .int .u8 0, .int .u8 0, .int .u8 0, .int .u8 0, .int .u8 0, .int .u8 0, .int .u8 0, .int .u8 0, .int .u8 0, .int .u8 0, .int .u8 0, .int .u8 0, .int .u8 0, .int .u8 0, .int .u8 0, .int .u8 0, .int .u8 0, .int .u8 0] rfl rfl 23 _ (heap_alloc_last w1 _) HI.out ?_ H1.out ?_); (· rfl); rw [World.setRow_alloc_new])
    go_loopw [5, 6] (fun u x wr => ∃ (k : Nat) (f : Bool), k ≤ 64 ∧ k ≤ n ∧ x = .int .i64 k ∧ u = .bool f ∧ Hid (f = (f0 && digAll L k)) ∧ wr = w1.alloc (.cells #[.int .u8 0, .int .u8 0, .int .u8 0, .int .u8 0, .int .u8 0, .int .u8 0, .int .u8 0, .int .u8 0, .int .u8 0, .int .u8 0, .int .u8 0, .int .u8 0, .int .u8 0, .int .u8 0, .int .u8 0, .int .u8 0, .int .u8 0, .int .u8 0, .int .u8 0, .int .u8 0, .int .u8 0, .int .u8 0, .int .u8 0, .int .u8 0, .int .u8 0, .int .u8 0, .int .u8 0, .int .u8 0, .int .u8 0, .int .u8 0, .int .u8 0, .int .u8 0] 23)) (fun _ x _ => 64 - (intOf x).toNat)
    case atStart => exact ⟨0, f0, by omega, by omega, rfl, rfl, Lib.hid (by simp [digAll]), rfl⟩
    case round =>
      obtain ⟨k, f, hk64, hkn, rfl, rfl, HFE, rfl⟩ := hrel
      by_cases h1 : k < n
      · have i1 : (k : Int) < (s.size : Int) := by rw [HNZ.out]; omega
        have b1 : decide ((k : Int) < (s.size : Int)) = true := by simpa using i1
        by_cases h2 : k < 64
        · have i2 : (k : Int) < 64 := by omega
          have b2 : decide ((k : Int) < 64) = true := by simpa using i2
          have hkL : k < L.length := by rw [HLN.out]; exact h1
          have IX1 := HIX.out k hkL
          have HN1 := Lib.hid (digAll_next L k hkL)
          have hx := (L[k]).toNat_lt
          obtain ⟨x, hxx⟩ : ∃ x, x = (L[k]).toNat := ⟨_, rfl⟩
          rw [← hxx] at IX1 HN1 hx
          clear hxx
          by_cases d1 : 48 ≤ x
          · have c1 : decide ((x : Int) ≥ 48) = true := by simp; omega
            by_cases d2 : x ≤ 57
            · have c2 : decide ((x : Int) ≤ 57) = true := by simp; omega
              have hd : digB x = true := by unfold digB; simp [d1, d2]
              go_wp2
              go_roundw
              case rel => exact ⟨k + 1, _, by omega, by omega, by go_num, rfl, Lib.hid (by rw [HN1.out]; rw [hd, HFE.out]; simp), trivial⟩
              case measure => simp [intOf]; omega
            · have c2 : decide ((x : Int) ≤ 57) = false := by simp; omega
              by_cases d3 : 97 ≤ x
              · have c3 : decide ((x : Int) ≥ 97) = true := by simp; omega
                by_cases d4 : x ≤ 102
                · have c4 : decide ((x : Int) ≤ 102) = true := by simp; omega
                  have hd : digB x = true := by unfold digB; simp [d3, d4]
                  go_wp2
                  go_roundw
                  case rel => exact ⟨k + 1, _, by omega, by omega, by go_num, rfl, Lib.hid (by rw [HN1.out]; rw [hd, HFE.out]; simp), trivial⟩
                  case measure => simp [intOf]; omega
                · have c4 : decide ((x : Int) ≤ 102) = false := by simp; omega
                  have hd : digB x = false := by unfold digB; simp; omega
                  go_wp2
                  go_roundw
                  case rel => exact ⟨k + 1, _, by omega, by omega, by go_num, rfl, Lib.hid (by rw [HN1.out]; rw [hd]; simp), trivial⟩
                  case measure => simp [intOf]; omega
              · have c3 : decide ((x : Int) ≥ 97) = false := by simp; omega
                have hd : digB x = false := by unfold digB; simp; omega
                go_wp2
                go_roundw
                case rel => exact ⟨k + 1, _, by omega, by omega, by go_num, rfl, Lib.hid (by rw [HN1.out]; rw [hd]; simp), trivial⟩
                case measure => simp [intOf]; omega
          · have c1 : decide ((x : Int) ≥ 48) = false := by simp; omega
            have c3 : decide ((x : Int) ≥ 97) = false := by simp; omega
            have hd : digB x = false := by unfold digB; simp; omega
            go_wp2
            go_roundw
            case rel => exact ⟨k + 1, _, by omega, by omega, by go_num, rfl, Lib.hid (by rw [HN1.out]; rw [hd]; simp), trivial⟩
            case measure => simp [intOf]; omega
        · obtain rfl : k = 64 := by omega
          have hff : f = false := HFE.out.trans PN2.out
          subst hff
          clear PN2 HFE
          go_wp2_with (with_reducible refine wpList_stop (d := 51) rfl ?_)
          unfold Stopped
          refine BigFrame.wpList_want (by kernel_rfl) (fun K hK => ?_)
          go_simp
          refine hK _ _ ?_; clear hK K
          refine BigFrame.wpList_want (by kernel_rfl) (fun K hK => ?_)
          go_simp
          refine hK _ _ ?_; clear hK K
          refine wpList_load_rowK (by kernel_rfl) _ _ rfl w1.heap.size rfl 23 #[.int .u8 0, .int .u8 0, .int .u8 0, .int .u8 0, .int .u8 0, .int .u8 0, .int .u8 0, .int .u8 0, .int .u8 0, .int .u8 0, .int .u8 0, .int .u8 0, .int .u8 0, .int .u8 0, .int .u8 0, .int .u8 0, .int .u8 0, .int .u8 0, .int .u8 0, .int .u8 0, .int .u8 0, .int .u8 0, .int .u8 0, .int .u8 0, .int .u8 0, .int .u8 0, .int .u8 0, .int .u8 0, .int .u8 0, .int .u8 0, .int .u8 0, .int .u8 0] (0, 0) _ (heap_alloc_last w1 _) Try.underlying23 rfl HI.out (fun K hK => ?_)
          go_simp
          refine hK _ _ ?_; clear hK K
          refine BigFrame.wpList_want (by kernel_rfl) (fun K hK => ?_)
          go_simp
          refine hK _ _ ?_; clear hK K
          refine BigFrame.wpList_want (by kernel_rfl) (fun K hK => ?_)
          go_simp
          refine hK _ _ ?_; clear hK K
          refine BigFrame.wpList_want (by kernel_rfl) (fun K hK => ?_)
          go_simp
          refine hK _ _ ?_; clear hK K
          refine BigFrame.wpList_want (by kernel_rfl) (fun K hK => ?_)
          go_simp
          refine hK _ _ ?_; clear hK K
          refine BigFrame.wpList_want (by kernel_rfl) (fun K hK => ?_)
          go_simp
          refine hK _ _ ?_; clear hK K
          refine BigFrame.wpList_want (by kernel_rfl) (fun K hK => ?_)
          go_simp
          refine hK _ _ ?_; clear hK K
          refine BigFrame.wpList_want (by kernel_rfl) (fun K hK => ?_)
          go_simp
          refine hK _ _ ?_; clear hK K
          refine BigFrame.wpList_want (by kernel_rfl) (fun K hK => ?_)
          go_simp
          refine hK _ _ ?_; clear hK K
          refine BigFrame.wpList_want (by kernel_rfl) (fun K hK => ?_)
          go_simp
          refine (awake_any _).mono ?_
          rintro e w9 ⟨rfl, hb9⟩
          refine hK _ _ ?_; clear hK K
          refine BigFrame.wpList_want (by kernel_rfl) (fun K hK => ?_)
          go_simp
          refine hK _ _ ?_; clear hK K
          go_wp2
          go_ret
          exact ⟨rfl, Below.then' KA hb9 KA.size⟩
      · have i1 : ¬ (k : Int) < (s.size : Int) := by rw [HNZ.out]; omega
        have b1 : decide ((k : Int) < (s.size : Int)) = false := by simpa using i1
        have hff : f = false := by
          have he : digAll L k = digAll L 64 := by
            unfold digAll
            rw [List.take_of_length_le (by rw [HLN.out]; omega), List.take_of_length_le (by rw [HLN.out]; omega)]
          rw [HFE.out, he]
          exact PN2.out
        subst hff
        clear PN2 HFE
        go_wp2_with (with_reducible refine wpList_stop (d := 51) rfl ?_)
        unfold Stopped
        refine BigFrame.wpList_want (by kernel_rfl) (fun K hK => ?_)
        go_simp
        refine hK _ _ ?_; clear hK K
        refine BigFrame.wpList_want (by kernel_rfl) (fun K hK => ?_)
        go_simp
        refine hK _ _ ?_; clear hK K
        refine wpList_load_rowK (by kernel_rfl) _ _ rfl w1.heap.size rfl 23 #[.int .u8 0, .int .u8 0, .int .u8 0, .int .u8 0, .int .u8 0, .int .u8 0, .int .u8 0, .int .u8 0, .int .u8 0, .int .u8 0, .int .u8 0, .int .u8 0, .int .u8 0, .int .u8 0, .int .u8 0, .int .u8 0, .int .u8 0, .int .u8 0, .int .u8 0, .int .u8 0, .int .u8 0, .int .u8 0, .int .u8 0, .int .u8 0, .int .u8 0, .int .u8 0, .int .u8 0, .int .u8 0, .int .u8 0, .int .u8 0, .int .u8 0, .int .u8 0] (0, 0) _ (heap_alloc_last w1 _) Try.underlying23 rfl HI.out (fun K hK => ?_)
        go_simp
        refine hK _ _ ?_; clear hK K
        refine BigFrame.wpList_want (by kernel_rfl) (fun K hK => ?_)
        go_simp
        refine hK _ _ ?_; clear hK K
        refine BigFrame.wpList_want (by kernel_rfl) (fun K hK => ?_)
        go_simp
        refine hK _ _ ?_; clear hK K
        refine BigFrame.wpList_want (by kernel_rfl) (fun K hK => ?_)
        go_simp
        refine hK _ _ ?_; clear hK K
        refine BigFrame.wpList_want (by kernel_rfl) (fun K hK => ?_)
        go_simp
        refine hK _ _ ?_; clear hK K
        refine BigFrame.wpList_want (by kernel_rfl) (fun K hK => ?_)
        go_simp
        refine hK _ _ ?_; clear hK K
        refine BigFrame.wpList_want (by kernel_rfl) (fun K hK => ?_)
        go_simp
        refine hK _ _ ?_; clear hK K
        refine BigFrame.wpList_want (by kernel_rfl) (fun K hK => ?_)
        go_simp
        refine hK _ _ ?_; clear hK K
        refine BigFrame.wpList_want (by kernel_rfl) (fun K hK => ?_)
        go_simp
        refine hK _ _ ?_; clear hK K
        refine BigFrame.wpList_want (by kernel_rfl) (fun K hK => ?_)
        go_simp
        refine (awake_any _).mono ?_
        rintro e w9 ⟨rfl, hb9⟩
        refine hK _ _ ?_; clear hK K
        refine BigFrame.wpList_want (by kernel_rfl) (fun K hK => ?_)
        go_simp
        refine hK _ _ ?_; clear hK K
        go_wp2
        go_ret
        exact ⟨rfl, Below.then' KA hb9 KA.size⟩

end Go.Proofs.Ythgjooacapodnaa
