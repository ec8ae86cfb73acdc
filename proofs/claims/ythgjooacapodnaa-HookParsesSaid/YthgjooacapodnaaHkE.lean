/- What Minus deletes; IndexFunc, DeleteFunc: the walks. -/
import Derived.Test.YthgjooacapodnaaHkB
namespace Go.Proofs.Ythgjooacapodnaa
open Go.RowKit

set_option maxRecDepth 100000 in
set_option maxHeartbeats 1000000 in
theorem del_any (l : List UInt8) (hl : l.length = 32) (v : Value) (ls : List (List UInt8)) (hI : Incr ls) (hs : ls.length ≤ 1000000) (bx : Nat) (w : World) (h : FpsAt 32 ls v w) (hc : w.cell? ⟨bx, 0, none⟩ = some v) :
    Calls Try.prog 41 #[.agg (fpA l), .pointer (some ⟨bx, 0, none⟩)] w fun e w' => e = .returned (.bool (ls.contains l)) ∧ Below w.heap.size w w' := by
  obtain ⟨p, c, rfl, _⟩ := h.2
  have g0 := heap_alloc_last w (.cells (fpA l) 23)
  have K0 : Below w.heap.size w (w.alloc (.cells (fpA l) 23)) := (Below.refl _ _).alloc (Nat.le_refl _) _
  have c1 : (w.alloc (.cells (fpA l) 23)).cell? ⟨bx, 0, none⟩ = some (.slice p ls.length c) := (K0.cell (World.block_lt_of_cell? _ _ hc)).trans hc
  have C := bsearch_any l hl p c ls.length ls hI rfl hs _ (h.later K0)
  have HI := Lib.hid (fp_info l hl)
  obtain ⟨F, hFF⟩ : ∃ F, F = fpA l := ⟨_, rfl⟩
  rw [← hFF] at g0 K0 C HI c1 ⊢
  obtain ⟨r, hr⟩ : ∃ r, r = ls.contains l := ⟨_, rfl⟩
  obtain ⟨n, hn⟩ : ∃ n, n = ls.length := ⟨_, rfl⟩
  rw [← hr, ← hn] at C
  rw [← hn] at c1
  rw [← hr]
  clear hFF hr hn h hs hl hI hc
  go_enter Try.func41, Try.ntmps41
  go_wp2_with (first
    | (with_reducible refine wpList_load_row rfl _ _ rfl w.heap.size rfl 23 F (0, 0) _ g0 Try.underlying23 rfl HI.out ?_)
    | (go_at_call 42; refine C.mono ?_; rintro e w' ⟨i, rfl, hb⟩))
  go_ret
  exact ⟨rfl, Below.then' K0 hb K0.size⟩

def IdxPost (ls : List (List UInt8)) (p : List UInt8 → Bool) (w : World) (e : Ending) (w' : World) : Prop :=
  ((e = .returned (.int .i64 (-1)) ∧ ∀ l ∈ ls, p l = false) ∨ ∃ k : Nat, ∃ h : k < ls.length, e = .returned (.int .i64 k) ∧ p ls[k] = true ∧ ∀ l ∈ ls.take k, p l = false) ∧ Below w.heap.size w w'

set_option maxRecDepth 100000 in
set_option maxHeartbeats 1000000 in
theorem indexFunc_any (q : List UInt8 → Bool) (bx : Nat) (p : Option Addr) (c n : Nat) (ls : List (List UInt8)) (hn : n = ls.length) (hs : n ≤ 1000000) (w : World) (h : FpsAt 32 ls (.slice p n c) w)
    (hd : ∀ W, Kept w W → ∀ l : List UInt8, l.length = 32 → Calls Try.prog 41 #[.agg (fpA l), .pointer (some ⟨bx, 0, none⟩)] W fun e w' => e = .returned (.bool (q l)) ∧ Below W.heap.size W w') :
    Calls Try.prog 49 #[.slice p n c, .func (.func 41) #[] #[.pointer (some ⟨bx, 0, none⟩)]] w (IdxPost ls q w) := by
  have HF : Hid (FpsAt 32 ls (.slice p ls.length c) w) := by rw [← hn]; exact h
  have HN := Lib.hid hn
  have HD := Lib.hid hd
  clear hn h hd
  go_enter Try.func49, Try.ntmps49
  go_wp2
  go_loopw [8] (fun x wr => ∃ (k : Nat), k ≤ n ∧ x = .int .i64 k ∧ Hid (∀ l ∈ ls.take k, q l = false) ∧ Hid (Kept w wr)) (fun x _ => n - (intOf x).toNat)
  case atStart => exact ⟨0, by omega, rfl, (fun l hl => by simp at hl), Kept.refl w⟩
  case round =>
    obtain ⟨k, hkn, rfl, HC, HK⟩ := hrel
    by_cases hlt : k < n
    · have hkl : k < ls.length := by rw [← HN.out]; exact hlt
      have hltz : (k : Int) < (n : Int) := by omega
      have bz : decide ((k : Int) < (n : Int)) = true := by simpa using hltz
      obtain ⟨b, off, cs, t, fr, hp, hg, E1⟩ := HF.out.elem hkl
      subst hp
      have g1 : wr.heap[b]? = some (.cells cs t fr) := HK.out.row hg
      have IX1 := fun w' => idx_at b off n c k hlt w'
      have C := HD.out wr HK.out ls[k] (HF.out.1 _ (List.getElem_mem hkl))
      obtain ⟨X, hX⟩ : ∃ X, X = fpA ls[k] := ⟨_, rfl⟩
      obtain ⟨r, hr⟩ : ∃ r, r = q ls[k] := ⟨_, rfl⟩
      rw [← hX] at E1 C
      rw [← hr] at C
      have HR := Lib.hid hr
      clear hX hr hg
      cases r with
      | false =>
        go_wp2_with (first
          | (with_reducible refine wpList_load_sub rfl _ _ rfl b (off + k * 32) 32 rfl t cs fr _ g1 Try.underlying23 rfl infoFp E1.1 X E1.2 ?_)
          | (go_at_call 41; refine C.mono ?_; rintro e w2 ⟨rfl, hb⟩))
        go_roundw
        case rel => exact ⟨k + 1, by omega, by go_num, (fun l hl => by
          rw [List.take_succ_eq_append_getElem hkl] at hl
          rcases List.mem_append.1 hl with h | h
          · exact HC.out l h
          · rw [List.mem_singleton.1 h]; exact HR.out.symm), HK.out.then hb⟩
        case measure => simp [intOf]; omega
      | true =>
        go_wp2_with (first
          | (with_reducible refine wpList_load_sub rfl _ _ rfl b (off + k * 32) 32 rfl t cs fr _ g1 Try.underlying23 rfl infoFp E1.1 X E1.2 ?_)
          | (go_at_call 41; refine C.mono ?_; rintro e w2 ⟨rfl, hb⟩))
        go_ret
        exact ⟨Or.inr ⟨k, hkl, rfl, HR.out.symm, HC.out⟩, HK.out.then hb⟩
    · obtain rfl : k = n := by omega
      have bz : decide ((k : Int) < (k : Int)) = false := by simp
      go_wp2
      go_ret
      refine ⟨Or.inl ⟨rfl, fun l hl => HC.out l ?_⟩, HK.out⟩
      rw [List.take_of_length_le (by rw [← HN.out]; exact Nat.le_refl _)]
      exact hl

def DelPost (g cap : Nat) (ls : List (List UInt8)) (rest : List Value) (q : List UInt8 → Bool) (w : World) (e : Ending) (w' : World) : Prop :=
  ∃ ms rest', e = .returned (.slice (some ⟨g, 0, none⟩) ms.length cap) ∧ ms = ls.filter (fun x => !q x) ∧ ms.length ≤ ls.length ∧ RowAt g ms rest' w' ∧ ms.length * 32 + rest'.length = ls.length * 32 + rest.length ∧ w.grownBy w' (some g)

def DelIn (g n i j : Nat) (ls ms : List (List UInt8)) (rest : List Value) (q : List UInt8 → Bool) (w : World) : Prop :=
  ms.length = n ∧ ms.drop j = ls.drop j ∧ ms.take i = (ls.take j).filter (fun x => !q x) ∧ RowAt g ms rest w

theorem filter_take (ls : List (List UInt8)) (q : List UInt8 → Bool) (j : Nat) (hj : j < ls.length) : (ls.take (j + 1)).filter (fun x => !q x) = if q ls[j] then (ls.take j).filter (fun x => !q x) else (ls.take j).filter (fun x => !q x) ++ [ls[j]] := by
  rw [List.take_succ_eq_append_getElem hj, List.filter_append]
  cases h : q ls[j] <;> simp [h]

theorem filter_all (ls : List (List UInt8)) (q : List UInt8 → Bool) (h : ∀ l ∈ ls, q l = false) : ls.filter (fun x => !q x) = ls := by
  rw [List.filter_eq_self]
  intro a ha
  rw [h a ha]
  rfl

theorem grown_alloc {w w' : World} {g : Nat} (h : w.grownBy w' (some g)) (o : Obj) : w.grownBy (w'.alloc o) (some g) := grown_then h ((Below.refl _ w').alloc (Nat.le_refl _) o)

set_option maxRecDepth 100000 in
set_option maxHeartbeats 4000000 in
/-- slices.DeleteFunc of a row of fingerprints. -/
theorem deleteFunc_row (q : List UInt8 → Bool) (bx g cap : Nat) (ls : List (List UInt8)) (rest : List Value) (hs : ls.length ≤ 1000000) (hc : ls.length ≤ cap) (w : World) (h : RowAt g ls rest w)
    (hd : ∀ W, Below g w W → ∀ l : List UInt8, l.length = 32 → Calls Try.prog 41 #[.agg (fpA l), .pointer (some ⟨bx, 0, none⟩)] W fun e w' => e = .returned (.bool (q l)) ∧ Below W.heap.size W w') :
    Calls Try.prog 40 #[.slice (some ⟨g, 0, none⟩) ls.length cap, .func (.func 41) #[] #[.pointer (some ⟨bx, 0, none⟩)]] w (DelPost g cap ls rest q w) := by
  obtain ⟨n, hn⟩ : ∃ n, n = ls.length := ⟨_, rfl⟩
  have IF := indexFunc_any q bx (some ⟨g, 0, none⟩) cap n ls hn (by omega) w (by rw [hn]; exact h.fps) (fun W hW => hd W (Below.mono hW (Nat.le_of_lt h.lt)))
  have hv : Value.slice (some ⟨g, 0, none⟩) ls.length cap = .slice (some ⟨g, 0, none⟩) n cap := by rw [hn]
  rw [hv]
  rw [← hn] at hs hc
  have HN := Lib.hid hn
  have HR := Lib.hid h
  have HD := Lib.hid hd
  clear hn h hv hd
  go_enter Try.func40, Try.ntmps40
  go_wp2_with fail
  refine IF.mono ?_
  rintro e w1 ⟨⟨rfl, hall⟩ | ⟨k, hkl, rfl, hpk, hbef⟩, hb1⟩
  · have HA := Lib.hid hall
    clear hall IF
    go_wp2
    go_ret
    refine ⟨ls, rest, ?_, (filter_all ls q HA.out).symm, Nat.le_refl _, HR.out.kept hb1, rfl, kept_grown hb1 _⟩
    rw [← HN.out]; rfl
  · have hkn : k < n := by rw [HN.out]; exact hkl
    have bk : ((k : Int) == -1) = false := by rw [beq_eq_false_iff_ne]; omega
    have S0 : Hid (DelIn g n k (k + 1) ls ls rest q w1) := by
      have h1 := filter_take ls q k hkl
      rw [if_pos hpk, filter_all _ q hbef] at h1
      exact ⟨HN.out.symm, rfl, h1.symm, HR.out.kept hb1⟩
    have G0 : Hid (w.grownBy w1 (some g)) := kept_grown hb1 _
    clear IF hbef hpk hb1
    go_wp2
    go_loopw [5, 6, 7] (fun x y _z wr => ∃ (i j : Nat) (ms : List (List UInt8)), i < j ∧ j ≤ n ∧ x = .int .i64 i ∧ y = .int .i64 j ∧ Hid (DelIn g n i j ls ms rest q wr) ∧ Hid (w.grownBy wr (some g))) (fun _ y _ _ => n - (intOf y).toNat)
    case atStart => exact ⟨k, k + 1, ls, by omega, by omega, rfl, by go_num, S0, G0⟩
    case round =>
      clear S0 G0
      obtain ⟨i, j, ms, hij, hjn, rfl, rfl, HI, HG⟩ := hrel
      have hml : ms.length = n := HI.out.1
      by_cases hlt : j < n
      · have hltz : (j : Int) < (n : Int) := by omega
        have bz : decide ((j : Int) < (n : Int)) = true := by simpa using hltz
        have hjm : j < ms.length := by omega
        have him : i < ms.length := by omega
        have hjl : j < ls.length := by rw [← HN.out]; exact hlt
        have g1 : wr.heap[g]? = some (.cells (rowA ms rest) 23 (0, 0)) := HI.out.2.2.2.2
        have E1 := HI.out.2.2.2.elem j hjm
        have E2 := HI.out.2.2.2.elem i him
        have IX1 := fun w' => idx_at g 0 n cap j hlt w'
        have IX2 := fun w' => idx_at g 0 n cap i (by omega) w'
        rw [Nat.zero_add] at IX1 IX2
        have hx32 : ms[j].length = 32 := HI.out.2.2.2.1 _ (List.getElem_mem hjm)
        have HX : Hid (ms[j] = ls[j]) := by
          have hd := HI.out.2.1
          have g2 := congrArg (fun l => l[0]?) hd
          simp only [List.getElem?_drop] at g2
          rw [Nat.add_zero, List.getElem?_eq_getElem hjm, List.getElem?_eq_getElem hjl] at g2
          exact Option.some.inj g2
        have FT := Lib.hid (filter_take ls q j hjl)
        obtain ⟨W1, hW1⟩ : ∃ W1, W1 = wr.alloc (.cells (fpA ms[j]) 23) := ⟨_, rfl⟩
        have C := HD.out W1 (by rw [hW1]; exact below_of_grown (grown_alloc HG.out _) (Nat.le_of_lt HR.out.lt) (fun k hk => by cases hk; exact Nat.le_refl _)) ms[j] hx32
        have KW : Below wr.heap.size wr W1 := by rw [hW1]; exact (Below.refl _ wr).alloc (Nat.le_refl _) _
        have gN : W1.heap[wr.heap.size]? = some (.cells (fpA ms[j]) 23 (0, 0)) := by rw [hW1]; exact heap_alloc_new wr _
        obtain ⟨X, hX⟩ : ∃ X, X = fpA ms[j] := ⟨_, rfl⟩
        obtain ⟨r, hr⟩ : ∃ r, r = q ms[j] := ⟨_, rfl⟩
        have HXI : Hid ((Try.prog.info? 23).map (·.size) = some X.size) := by rw [hX]; exact fp_info _ hx32
        have HX1 : Hid (X.all (·.oneCell') = true) := by rw [hX]; exact fpA_one _
        have HXS : Hid (X.size = 32) := by rw [hX, fpA_size]; exact hx32
        rw [← hX] at E1 C gN hW1
        rw [← hr] at C
        have HRR := Lib.hid hr
        have HXX := Lib.hid hX
        have HW1 := Lib.hid hW1
        have HKP := Lib.hid (fun (w2 : World) (hb : Below W1.heap.size W1 w2) => (⟨(hb.block _ (Array.getElem?_eq_some_iff.1 gN).1).trans gN, HI.out.2.2.2.kept (Below.then' KW hb KW.size), Below.then' KW hb KW.size⟩ : w2.heap[wr.heap.size]? = some (.cells X 23 (0, 0)) ∧ RowAt g ms rest w2 ∧ Below wr.heap.size wr w2))
        rw [hW1] at C gN HKP
        clear hX hr hW1 hml hx32
        cases r with
        | true =>
          go_wp2_with (first
            | (with_reducible refine wpList_load_sub rfl _ _ rfl g (j * 32) 32 rfl 23 _ (0, 0) _ g1 Try.underlying23 rfl infoFp E1.1 X E1.2 ?_)
            | ((with_reducible refine wpList_store_row rfl _ _ _ rfl wr.heap.size X rfl rfl 23 _ (heap_alloc_last wr _) HXI.out ?_ HX1.out ?_); (· rw [HXS.out]; rfl); rw [World.setRow_alloc_new])
            | (with_reducible refine wpList_load_row rfl _ _ rfl wr.heap.size rfl 23 X (0, 0) _ gN Try.underlying23 rfl HXI.out ?_)
            | (go_at_call 41; refine C.mono ?_; rintro e w2 ⟨rfl, hb⟩))
          have K2 : Below wr.heap.size wr w2 := (HKP.out _ hb).2.2
          go_roundw
          case rel => exact ⟨i, j + 1, ms, by omega, by omega, rfl, by go_num, ⟨HI.out.1, by
            have := congrArg (List.drop 1) HI.out.2.1
            rw [List.drop_drop, List.drop_drop] at this
            exact this, by
            rw [FT.out, ← HX.out, if_pos HRR.out.symm]
            exact HI.out.2.2.1, HI.out.2.2.2.kept K2⟩, grown_then HG.out K2⟩
          case measure => simp [intOf]; omega
        | false =>
          have HFI : Hid (i * 32 + X.size ≤ (rowA ms rest).size) := by rw [HXS.out]; exact E2.1
          go_wp2_with (first
            | (with_reducible refine wpList_load_sub rfl _ _ rfl g (j * 32) 32 rfl 23 _ (0, 0) _ g1 Try.underlying23 rfl infoFp E1.1 X E1.2 ?_)
            | ((with_reducible refine wpList_store_row rfl _ _ _ rfl wr.heap.size X rfl rfl 23 _ (heap_alloc_last wr _) HXI.out ?_ HX1.out ?_); (· rw [HXS.out]; rfl); rw [World.setRow_alloc_new])
            | (with_reducible refine wpList_load_row rfl _ _ rfl wr.heap.size rfl 23 X (0, 0) _ gN Try.underlying23 rfl HXI.out ?_)
            | (with_reducible refine wpList_load_row rfl _ _ rfl wr.heap.size rfl 23 X (0, 0) _ gN2 Try.underlying23 rfl HXI.out ?_)
            | (with_reducible refine wpList_store_sub rfl _ _ _ rfl g (i * 32) X rfl rfl 23 _ gG2 HXI.out HFI.out HX1.out ?_)
            | (go_at_call 41; refine C.mono ?_; rintro e w2 ⟨rfl, hb⟩; have gN2 := (HKP.out _ hb).1; have gG2 := (HKP.out _ hb).2.1.2))
          have K2 : Below wr.heap.size wr w2 := (HKP.out _ hb).2.2
          have R2 := (HKP.out _ hb).2.1
          go_roundw
          case rel => exact ⟨i + 1, j + 1, ms.set i ms[j], by omega, by omega, by go_num, by go_num, by
            have hset := rowA_set ms rest R2.1 i him ms[j] (R2.1 _ (List.getElem_mem hjm))
            refine ⟨by rw [List.length_set]; exact HI.out.1, ?_, ?_, ?_⟩
            · have := congrArg (List.drop 1) HI.out.2.1
              rw [List.drop_drop, List.drop_drop] at this
              rw [List.drop_set_of_lt (by omega)]
              exact this
            · have hne : ¬ q ls[j] = true := by rw [← HX.out, ← HRR.out]; decide
              rw [FT.out, if_neg hne, ← HI.out.2.2.1, List.take_succ_eq_append_getElem (by rw [List.length_set]; exact him), List.getElem_set_self, List.take_set_of_le (Nat.le_refl _), HX.out]
            · rw [HXX.out, hset]
              exact R2.set (all32_set R2.1 i _ (R2.1 _ (List.getElem_mem hjm))), grown_row (grown_then HG.out K2) _⟩
          case measure => simp [intOf]; omega
      · obtain rfl : j = n := by omega
        have bz : decide ((j : Int) < (j : Int)) = false := by simp
        have CJ := fun w' => cut_lo g 0 j cap i (by omega) (by omega) w'
        have CH := fun w' => cut_hi g 0 j cap i (by omega) (by omega) w'
        rw [Nat.zero_add] at CJ
        have CC := fun ty => clear_at g j i (cap - i) ms rest wr HI.out.2.2.2 hml hij ty
        clear hml
        go_wp2
        go_ret
        have hms : ms.take i = ls.filter (fun x => !q x) := by
          have := HI.out.2.2.1
          rw [List.take_of_length_le (i := j) (by rw [← HN.out]; exact Nat.le_refl _)] at this
          exact this
        refine ⟨ms.take i, flatL (List.replicate (j - i) zeroL) ++ rest, ?_, hms, ?_, ?_, ?_, grown_row HG.out _⟩
        · rw [List.length_take, HI.out.1, Nat.min_eq_left (by omega)]; rfl
        · rw [List.length_take, HI.out.1]; have := HN.out; omega
        · exact HI.out.2.2.2.set (all32_take HI.out.2.2.2.1 i)
        · rw [List.length_take, HI.out.1, List.length_append, flatL_len _ (fun l hl => by rw [List.eq_of_mem_replicate hl]; rfl), List.length_replicate, Nat.min_eq_left (by omega), Nat.sub_mul]
          have h6 := Nat.mul_le_mul_right 32 (show i ≤ j by omega)
          have h7 := HN.out
          rw [← h7]
          omega

end Go.Proofs.Ythgjooacapodnaa
