/- How many first bits are 0, the document's; hooks. -/
import Derived.Test.YthgjooacapodnaaHkZ
import Derived.Test.YthgjooacapodnaaArr
import Derived.Deep.RegionHeld
import Derived.Deep.MidRow
namespace Go.Proofs.Ythgjooacapodnaa
open Go.RowKit

/-- What a bit is worth. -/
def worthN (k : Nat) : Nat := 128 / 2 ^ k

theorem worth_next (k : Nat) : worthN k / 2 = worthN (k + 1) := by
  unfold worthN
  rw [Nat.div_div_eq_div_mul, Nat.pow_succ]

theorem worth_pos : ∀ k : Fin 8, 0 < worthN k.val ∧ worthN k.val ≤ 128 := by decide +kernel
theorem worth_end : worthN 8 = 0 := by decide +kernel
theorem bit_set : ∀ (k : Fin 8) (x : Fin 256), x.val < 2 ^ (8 - k.val) → x.val / worthN k.val % 2 = 1 → x.val ≠ 0 ∧ 8 - Lib.bitLen x.val = k.val := by decide +kernel
theorem bit_clear : ∀ (k : Fin 8) (x : Fin 256), x.val < 2 ^ (8 - k.val) → x.val / worthN k.val % 2 ≠ 1 → x.val < 2 ^ (8 - (k.val + 1)) := by decide +kernel

set_option maxRecDepth 100000 in
set_option maxHeartbeats 1000000 in
theorem rzeros_any (l : List UInt8) (hl : l.length = 32) (w : World) :
    Calls Try.prog 15 #[.agg (fpA l)] w fun e w' => e = .returned (.int .i64 (zerosB l : Nat)) ∧ Below w.heap.size w w' := by
  have O0 := OneRow.made w l
  have HL := Lib.hid hl
  obtain ⟨z, hz⟩ : ∃ z, z = zerosB l := ⟨_, rfl⟩
  rw [← hz]
  obtain ⟨L, hLL⟩ : ∃ L, L = fpA l := ⟨_, rfl⟩
  have O1 : Hid (OneRow w l (w.alloc (.cells L 23))) := by rw [hLL]; exact O0
  rw [← hLL]
  have HZ := Lib.hid hz
  clear hz hl O0 hLL
  go_enter Try.func15, Try.ntmps15
  go_wp2
  go_loopw [3, 4] (fun y x wr => ∃ (i : Nat), i ≤ 32 ∧ x = .int .i64 i ∧ y = .int .i64 ((8 * i : Nat) : Int) ∧ zerosB l = 8 * i + zerosB (l.drop i) ∧ OneRow w l wr) (fun _ x _ => 32 - (intOf x).toNat)
  case atStart => exact ⟨0, by omega, rfl, rfl, by simp, O1.out⟩
  case round =>
    clear O1
    obtain ⟨i, hi, rfl, rfl, hzi, hro⟩ := hrel
    by_cases hi32 : i < 32
    · have hil : i < l.length := by rw [HL.out]; exact hi32
      have c1 := hro.cell i hil
      have hd := zerosB_drop l i hil
      have hg : l.getD i 0 = l[i] := by simp [List.getD, hil]
      rw [← hg] at hd
      obtain ⟨x, hx⟩ : ∃ x, x = (l.getD i 0).toNat := ⟨_, rfl⟩
      have hxb : x < 256 := by rw [hx]; exact (l.getD i 0).toNat_lt
      rw [← hx] at c1 hd
      have HR := Lib.hid hro
      have hz2 := HZ.out
      have HD := Lib.hid hd
      have HZI := Lib.hid hzi
      clear hro hg hx hd hzi
      go_wp2
      go_loopw [3, 5] (fun y m wq => ∃ (k : Nat), k ≤ 8 ∧ m = .int .i64 (worthN k : Nat) ∧ y = .int .i64 ((8 * i + k : Nat) : Int) ∧ x < 2 ^ (8 - k) ∧ wq = wr) (fun _ m _ => (intOf m).toNat)
      case atStart => exact ⟨0, by omega, rfl, rfl, by omega, rfl⟩
      case round =>
        obtain ⟨k, hk, rfl, rfl, hxk, rfl⟩ := hrel
        by_cases hk8 : k < 8
        · have wp := worth_pos ⟨k, hk8⟩
          have bs := bit_set ⟨k, hk8⟩ ⟨x, hxb⟩
          have bc := bit_clear ⟨k, hk8⟩ ⟨x, hxb⟩
          have wn := worth_next k
          simp only at wp bs bc
          obtain ⟨m, hm⟩ : ∃ m, m = worthN k := ⟨_, rfl⟩
          obtain ⟨m2, hm2⟩ : ∃ m2, m2 = worthN (k + 1) := ⟨_, rfl⟩
          rw [← hm] at wp bs bc wn ⊢
          rw [← hm2] at wn
          have HM2 := Lib.hid hm2
          clear hm hm2
          have g1 : (m : Int) > 0 := by omega
          have q1 : (x : Int).tdiv (m : Int) = ((x / m : Nat) : Int) := rfl
          have q2 : ((x / m : Nat) : Int).tmod 2 = ((x / m % 2 : Nat) : Int) := rfl
          have q3 : (m : Int).tdiv 2 = ((m2 : Nat) : Int) := by rw [← wn]; rfl
          have hne : (m : Int) ≠ 0 := by omega
          have hq : x / m ≤ x := Nat.div_le_self _ _
          obtain ⟨q, hqq⟩ : ∃ q, q = x / m := ⟨_, rfl⟩
          rw [← hqq] at q1 q2 bs bc hq
          have hm2b : m2 ≤ 128 := by omega
          have hm2l : m2 < m := by omega
          by_cases hb : q % 2 = 1
          · have r1 := bs hxk hb
            have b1 : (((q % 2 : Nat) : Int) == 1) = true := by rw [hb]; rfl
            have hzz : z = 8 * i + k := by
              have := HD.out
              rw [if_neg r1.1] at this
              rw [hz2, HZI.out, this, r1.2]
            have HZZ := Lib.hid hzz
            clear bs bc wn hqq hzz hz2
            go_wp2
            go_ret
            exact ⟨by rw [HZZ.out]; rfl, HR.out.2⟩
          · have r1 := bc hxk hb
            have b1 : (((q % 2 : Nat) : Int) == 1) = false := by
              rw [beq_eq_false_iff_ne]
              intro e
              exact hb (by omega)
            clear bs bc wn hqq hz2
            go_wp2
            go_roundw
            case rel => exact ⟨k + 1, by omega, congrArg (fun n : Nat => Value.int .i64 (n : Int)) HM2.out, by go_num, r1, trivial⟩
            case measure => simp [intOf]; omega
        · obtain rfl : k = 8 := by omega
          have h0 : x = 0 := by omega
          have hzn : zerosB l = 8 * (i + 1) + zerosB (l.drop (i + 1)) := by
            have := HD.out
            rw [if_pos h0] at this
            rw [HZI.out, this]; omega
          have HZN := Lib.hid hzn
          rw [worth_end]
          clear hzn hz2
          go_wp2
          go_roundw
          case rel => exact ⟨i + 1, by omega, by go_num, by go_num, HZN.out, HR.out⟩
          case measure => simp [intOf]; omega
    · obtain rfl : i = 32 := by omega
      rw [List.drop_eq_nil_of_le (by rw [HL.out]; exact Nat.le_refl _), zerosB_nil] at hzi
      have hzz : z = 8 * 32 := by rw [HZ.out, hzi]
      have HZZ := Lib.hid hzz
      have HR := Lib.hid hro
      clear hzz hzi hro
      go_wp2
      go_ret
      exact ⟨by rw [HZZ.out]; rfl, HR.out.2⟩

/-- The load of a number, in every world of the class. -/
theorem wpQuiet_load_int {P : Program} {ops : Array Oper} {C : World → Prop} {Q : Act → Prop} {a : Act} {o : Oper} {rest : List Oper} (hw : Region.wanted o (yielded ops a.tmps) = true) (ty : TypeId) (x : Operand) (ho : o.op = .load ty x)
    (p : Addr) (hx : a.eval x = .pointer (some p)) (k : IntKind) (hu : P.underlying ty = some (.int k)) (v : Value) (hg : ∀ W, C W → W.cell? p = some v)
    (h : ∀ K : Act → Prop, (∀ a, wpQuiet P ops C Q rest a → K a) → K (a.put o.dst v)) : wpQuiet P ops C Q (o :: rest) a := by
  refine wpQuiet_pure hw v (fun W hC => ?_) h
  have c := hg W hC
  have u := run_underlying hu
  simp [execOp, ho, hx, Instr.loadAt, Instr.sureAddr, loadVar, isAgg, u, c]

set_option maxRecDepth 100000 in
/-- What decides which fingerprints are hooks. -/
theorem hooksOf_any (b : Int) (w : World) :
    Calls Try.prog 34 #[.int .i64 b] w fun e w' => e = .returned (.func (.func 44) #[] #[.pointer (some ⟨w.heap.size, 0, none⟩)]) ∧
      w'.heap[w.heap.size]? = some (.cells #[.int .i64 (min b 256)] 3 (0, 0)) ∧ Below w.heap.size w w' := by
  by_cases h : (256 : Int) < b
  · have e1 : min b 256 = 256 := by omega
    rw [e1]
    clear e1
    go_enter Try.func34, Try.ntmps34
    go_wp2
    go_ret
    exact ⟨rfl, heap_alloc_new w _, (Below.refl _ _).alloc (Nat.le_refl _) _⟩
  · have e1 : min b 256 = b := by omega
    rw [e1]
    clear e1
    go_enter Try.func34, Try.ntmps34
    go_wp2
    go_ret
    exact ⟨rfl, heap_alloc_new w _, (Below.refl _ _).alloc (Nat.le_refl _) _⟩

set_option maxRecDepth 100000 in
theorem hook_any (l : List UInt8) (hl : l.length = 32) (m : Int) (b : Nat) (w : World) (hc : w.cell? ⟨b, 0, none⟩ = some (.int .i64 m)) :
    Calls Try.prog 44 #[.agg (fpA l), .pointer (some ⟨b, 0, none⟩)] w fun e w' => e = .returned (.bool (decide (m ≤ zerosB l))) ∧ Below w.heap.size w w' := by
  obtain ⟨W, hW⟩ : ∃ W, W = w.alloc (.cells (fpA l) 23) := ⟨_, rfl⟩
  have O1 : OneRow w l W := by rw [hW]; exact OneRow.made w l
  have c1 : W.cell? ⟨b, 0, none⟩ = some (.int .i64 m) := (O1.2.cell (World.block_lt_of_cell? _ _ hc)).trans hc
  have Z := fun w' => zeros_any l hl w'
  have HI := Lib.hid (fp_info l hl)
  obtain ⟨z, hz⟩ : ∃ z : Int, z = (zerosB l : Int) := ⟨_, rfl⟩
  rw [← hz] at Z ⊢
  obtain ⟨L, hLL⟩ : ∃ L, L = fpA l := ⟨_, rfl⟩
  rw [← hLL] at HI Z ⊢ hW
  have HW := Lib.hid hW
  have g1 : Hid (W.heap[w.heap.size]? = some (.cells L 23 (0, 0))) := by rw [hLL]; exact O1.1
  have HO := Lib.hid O1
  have HC := Lib.hid c1
  clear hz hc hl O1 hLL c1
  go_enter Try.func44, Try.ntmps44
  go_wp2
  rw [← HW.out]
  clear hW
  refine wp_region_kept (by kernel_rfl) (by kernel_rfl) ?_
  refine wpQuiet_load_row (by kernel_rfl) _ _ rfl w.heap.size rfl 23 L (0, 0) _ (fun _ h => h.row g1.out) Try.underlying23 rfl HI.out (fun K hK => ?_)
  go_simp
  refine hK _ ?_; clear hK K
  refine wpQuiet_call (by kernel_rfl) _ _ _ (fun W => by go_simp) (fun W h => Calls.kept_of h (Z W)) (fun K hK => ?_)
  go_simp
  refine hK _ ?_; clear hK K
  refine wpQuiet_load_int (by kernel_rfl) _ _ rfl ⟨b, 0, none⟩ rfl _ Try.underlying3 _ (fun _ h => h.cell HC.out) (fun K hK => ?_)
  go_simp
  refine hK _ ?_; clear hK K
  refine wpQuiet_pure (v := ?_) (by kernel_rfl) ?_ (fun K hK => ?_)
  case refine_2 => intro W _; go_simp; try with_reducible rfl
  go_simp
  refine hK _ ?_; clear hK K
  refine wpQuiet_pure (v := ?_) (by kernel_rfl) ?_ (fun K hK => ?_)
  case refine_2 => intro W _; go_simp; try with_reducible rfl
  go_simp
  refine hK _ ?_; clear hK K
  refine wpQuiet_nil ?_
  intro w2 hk
  go_wp2
  go_ret
  exact ⟨rfl, Below.then' HO.out.2 hk HO.out.2.size⟩

theorem range_of_row {w : World} {b : Nat} {C : Array Value} {T : TypeId} {f : Nat × Nat} (g : w.heap[b]? = some (.cells C T f)) : w.rangeAt b 0 C.toList := fun j v hv => by
  rw [cell_of_row _ _ _ _ _ _ g, Nat.zero_add, ← Array.getElem?_toList]; exact hv

set_option maxRecDepth 100000 in
set_option maxHeartbeats 1000000 in
theorem is_any (l : List UInt8) (hl : l.length = 32) (b : Int) (w : World) :
    Calls Try.prog 16 #[.agg (fpA l), .int .i64 b] w fun e w' => e = .returned (.bool (hookB l b)) ∧ Below w.heap.size w w' := by
  have HO := fun W => hooksOf_any b W
  have HH := fun m bq W => hook_any l hl m bq W
  have hh : decide (min b 256 ≤ (zerosB l : Int)) = hookB l b := rfl
  rw [← hh]
  clear hh
  obtain ⟨z, hz⟩ : ∃ z : Int, z = (zerosB l : Int) := ⟨_, rfl⟩
  rw [← hz] at HH ⊢
  obtain ⟨n, hn⟩ : ∃ n, n = min b 256 := ⟨_, rfl⟩
  rw [← hn] at HO ⊢
  have gC := heap_alloc_last w (.cells (fpA l) 23)
  have K0 : Below w.heap.size w (w.alloc (.cells (fpA l) 23)) := (Below.refl _ _).alloc (Nat.le_refl _) _
  have HLT : Hid ((Try.prog.info? 23).map (·.size) = some (fpA l).toList.length) := by rw [Array.length_toList]; exact fp_info l hl
  obtain ⟨L, hLL⟩ : ∃ L, L = fpA l := ⟨_, rfl⟩
  rw [← hLL] at gC K0 HLT HH ⊢
  clear hz hn hLL hl
  go_enter Try.func16, Try.ntmps16
  go_wp2_with fail
  obtain ⟨bx, hbx⟩ : ∃ bx, bx = w.heap.size := ⟨_, rfl⟩
  obtain ⟨W, hW⟩ : ∃ W, W = w.alloc (.cells L 23) := ⟨_, rfl⟩
  rw [← hW, ← hbx] at gC
  rw [← hW] at K0
  have R1 : W.drew.rangeAt bx 0 L.toList := range_of_row gC
  have HR := Lib.hid (fun (w' : World) (h : Below W.drew.heap.size W.drew w') => range_of_row ((h.block _ (Array.getElem?_eq_some_iff.1 gC).1).trans gC))
  have K1 := Below.refl W.drew.heap.size W.drew
  rw [← hW, ← hbx]
  clear gC hW hbx
  refine wp_region_held_drew (S := fun w' => w'.rangeAt bx 0 L.toList) (by kernel_rfl) R1 (fun hHeld => ?_)
  refine wpAnyH_take (i := 0) (v := ?_) rfl (by kernel_rfl) (by kernel_rfl) (by kernel_rfl) (fun _ _ _ h => h) (Or.inl ⟨by first | kernel_rfl | rfl, ?_⟩) (by assumption) ?_
  case refine_2 => intro w hSw; go_simp; try with_reducible rfl
  refine wpAnyH_take (i := 2) (v := .agg L) rfl (by kernel_rfl) (by kernel_rfl) (by kernel_rfl) (fun _ _ _ h => h) (yieldsIf_load_mid (by first | kernel_rfl | rfl) _ _ rfl bx 0 (by kernel_rfl) L.toList _ (fun _ h => h) Try.underlying23 rfl HLT.out) (by assumption) ?_
  refine wpAnyH_ready (rs := [1]) (by kernel_rfl) (by simp) (AllReadyH.cons rfl (fun K hK => ?_) AllReadyH.nil)
  go_simp
  refine (HO _).mono ?_
  rintro e w2 ⟨rfl, g2, hb2⟩
  have K2 := Below.then' K1 hb2 K1.size
  have c2 := cell_of_row _ _ 0 _ _ _ g2
  simp only [List.getElem?_toArray, List.getElem?_cons_zero] at c2
  have HK := HH _ _ _ c2
  clear hb2 K1 g2
  refine hK.out _ _ (HR.out _ K2) (fun _ => ?_)
  clear hK K
  refine wpAnyH_ready (rs := [3]) (by kernel_rfl) (by simp) (AllReadyH.cons rfl (fun K hK => ?_) AllReadyH.nil)
  go_simp
  refine HK.mono ?_
  rintro e w3 ⟨rfl, hb3⟩
  have K3 := Below.then' K2 hb3 K2.size
  clear hb3 K2 c2 HK
  refine hK.out _ _ (HR.out _ K3) (fun _ => ?_)
  clear hK K
  refine wpAnyH_take (i := 4) (v := ?_) rfl (by kernel_rfl) (by kernel_rfl) (by kernel_rfl) (fun _ _ _ h => h) (Or.inl ⟨by first | kernel_rfl | rfl, ?_⟩) (by assumption) ?_
  case refine_2 => intro w hSw; go_simp; try with_reducible rfl
  refine wpAnyH_done (by kernel_rfl) ?_ _
  go_wp2
  go_ret
  exact ⟨rfl, Below.then' K0.drew K3 K0.drew.size⟩

set_option maxRecDepth 100000 in
set_option maxHeartbeats 1000000 in
theorem ris_any (l : List UInt8) (hl : l.length = 32) (b : Int) (w : World) :
    Calls Try.prog 17 #[.agg (fpA l), .int .i64 b] w fun e w' => e = .returned (.bool (hookB l b)) ∧ Below w.heap.size w w' := by
  have Z := fun w' => rzeros_any l hl w'
  have hh : decide (min b 256 ≤ (zerosB l : Int)) = hookB l b := rfl
  rw [← hh]
  clear hh
  obtain ⟨z, hz⟩ : ∃ z : Int, z = (zerosB l : Int) := ⟨_, rfl⟩
  rw [← hz] at Z ⊢
  have gC := heap_alloc_last w (.cells (fpA l) 23)
  have K0 : Below w.heap.size w (w.alloc (.cells (fpA l) 23)) := (Below.refl _ _).alloc (Nat.le_refl _) _
  have HI := Lib.hid (fp_info l hl)
  obtain ⟨L, hLL⟩ : ∃ L, L = fpA l := ⟨_, rfl⟩
  rw [← hLL] at gC K0 HI Z ⊢
  clear hz hLL hl
  by_cases h : b > 256
  · have e1 : min b 256 = 256 := by omega
    rw [e1]
    clear e1
    go_enter Try.func17, Try.ntmps17
    go_wp2_with (first
      | (with_reducible refine wpList_load_row rfl _ _ rfl w.heap.size rfl 23 L (0, 0) _ gC Try.underlying23 rfl HI.out ?_)
      | (go_at_call 15; refine (Z _).mono ?_; rintro e w' ⟨rfl, hb⟩))
    go_ret
    exact ⟨rfl, Below.then' K0 hb K0.size⟩
  · have e1 : min b 256 = b := by omega
    rw [e1]
    clear e1
    go_enter Try.func17, Try.ntmps17
    go_wp2_with (first
      | (with_reducible refine wpList_load_row rfl _ _ rfl w.heap.size rfl 23 L (0, 0) _ gC Try.underlying23 rfl HI.out ?_)
      | (go_at_call 15; refine (Z _).mono ?_; rintro e w' ⟨rfl, hb⟩))
    go_ret
    exact ⟨rfl, Below.then' K0 hb K0.size⟩

end Go.Proofs.Ythgjooacapodnaa
