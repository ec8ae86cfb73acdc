/- How far texts are apart: the program's walk. -/
import Derived.Test.YtonhoahklmafgaaDoorApart
import Derived.Lib.BitFns
namespace Go.Proofs.YtonhoahklmafgaaDoor
open Go.RowKit

set_option maxRecDepth 100000 in
theorem len8_int_any (x : Int) (h0 : 0 ≤ x) (h1 : x ≤ 255) (w : World) :
    Calls Tryd.prog 34 #[.int .u8 x] w fun e w' => e = .returned (.int .i64 (Lib.bitLen x.toNat)) ∧ w' = w := by
  have hw : wrap64 (Lib.len8 x) = (Lib.bitLen x.toNat : Int) := by
    unfold wrap64
    exact Lib.len8_int x h0 h1
  rw [← hw]
  clear hw
  go_enter Tryd.func34, Tryd.ntmps34
  go_wp2
  go_ret
  exact ⟨rfl, rfl⟩

set_option maxRecDepth 100000 in
theorem ntz8_int_any (x : Int) (h0 : 0 ≤ x) (h1 : x ≤ 255) (w : World) :
    Calls Tryd.prog 33 #[.int .u8 x] w fun e w' => e = .returned (.int .i64 (Lib.trailingZeros8 x.toNat)) ∧ w' = w := by
  have hw : wrap64 (Lib.ntz8 x) = (Lib.trailingZeros8 x.toNat : Int) := by
    unfold wrap64
    exact Lib.ntz8_int x h0 h1
  rw [← hw]
  clear hw
  go_enter Tryd.func33, Tryd.ntmps33
  go_wp2
  go_ret
  exact ⟨rfl, rfl⟩

theorem len8_any (x : Nat) (h : x < 256) (w : World) :
    Calls Tryd.prog 34 #[.int .u8 x] w fun e w' => e = .returned (.int .i64 (Lib.bitLen x)) ∧ w' = w := len8_int_any x (by omega) (by omega) w

theorem ntz8_any (x : Nat) (h : x < 256) (w : World) :
    Calls Tryd.prog 33 #[.int .u8 x] w fun e w' => e = .returned (.int .i64 (Lib.trailingZeros8 x)) ∧ w' = w := ntz8_int_any x (by omega) (by omega) w

theorem ntz_bits : ∀ n : Fin 256, n.val ≠ 0 → Lib.trailingZeros8 n.val < 8 ∧ n.val.testBit (Lib.trailingZeros8 n.val) = true ∧ ∀ k : Fin 8, k.val < Lib.trailingZeros8 n.val → n.val.testBit k.val = false := by decide +kernel

theorem len_bits : ∀ n : Fin 256, n.val ≠ 0 → 1 ≤ Lib.bitLen n.val ∧ Lib.bitLen n.val ≤ 8 ∧ n.val.testBit (Lib.bitLen n.val - 1) = true ∧ ∀ k : Fin 8, Lib.bitLen n.val ≤ k.val → n.val.testBit k.val = false := by decide +kernel

/-- The first and the last byte in which texts differ tell how far they are apart. -/
theorem apart_bytes (a b : List UInt8) (hl : a.length = b.length) (F G : Nat) (hF : F < a.length) (hG : G < a.length)
    (h1 : (a.getD F 0).toNat ≠ (b.getD F 0).toNat) (h2 : (a.getD G 0).toNat ≠ (b.getD G 0).toNat)
    (h3 : ∀ j, j < F → a.getD j 0 = b.getD j 0) (h4 : ∀ j, G < j → j < a.length → a.getD j 0 = b.getD j 0) :
    ApartN (bitsB a) (bitsB b) (8 * (G : Int) + (Lib.bitLen ((a.getD G 0).toNat ^^^ (b.getD G 0).toNat) : Nat) - (8 * (F : Int) + (Lib.trailingZeros8 ((a.getD F 0).toNat ^^^ (b.getD F 0).toNat) : Nat))) := by
  have at1 : ∀ i k, i < a.length → k < 8 → (bitsB a).getD (8 * i + k) false = (a.getD i 0).toNat.testBit k := fun i k hi hk => by
    rw [bits_at a i k hi hk]; simp [List.getD, hi]
  have at2 : ∀ i k, i < a.length → k < 8 → (bitsB b).getD (8 * i + k) false = (b.getD i 0).toNat.testBit k := fun i k hi hk => by
    have hi' : i < b.length := by omega
    rw [bits_at b i k hi' hk]; simp [List.getD, hi']
  have xl : ∀ x y : UInt8, x.toNat ^^^ y.toNat < 256 := fun x y => Nat.xor_lt_two_pow (n := 8) x.toNat_lt y.toNat_lt
  have xn : ∀ x y : Nat, x ≠ y → x ^^^ y ≠ 0 := fun x y h e => h (by
    have := congrArg (· ^^^ y) e
    simpa [Nat.xor_assoc] using this)
  have tz := ntz_bits ⟨_, xl (a.getD F 0) (b.getD F 0)⟩ (xn _ _ h1)
  have bl := len_bits ⟨_, xl (a.getD G 0) (b.getD G 0)⟩ (xn _ _ h2)
  simp only at tz bl
  generalize Lib.trailingZeros8 ((a.getD F 0).toNat ^^^ (b.getD F 0).toNat) = z at *
  generalize Lib.bitLen ((a.getD G 0).toNat ^^^ (b.getD G 0).toNat) = g at *
  obtain ⟨z1, z2, z3⟩ := tz
  obtain ⟨g1, g2, g3, g4⟩ := bl
  have dF : (bitsB a).getD (8 * F + z) false ≠ (bitsB b).getD (8 * F + z) false := by
    rw [at1 F z hF z1, at2 F z hF z1]
    rw [Nat.testBit_xor] at z2
    intro e
    rw [e, Bool.xor_self] at z2
    cases z2
  have dG : (bitsB a).getD (8 * G + (g - 1)) false ≠ (bitsB b).getD (8 * G + (g - 1)) false := by
    rw [at1 G (g - 1) hG (by omega), at2 G (g - 1) hG (by omega)]
    rw [Nat.testBit_xor] at g3
    intro e
    rw [e, Bool.xor_self] at g3
    cases g3
  have lo : ∀ j, j < 8 * F + z → (bitsB a).getD j false = (bitsB b).getD j false := by
    intro j hj
    have ej : j = 8 * (j / 8) + j % 8 := by omega
    have hm : j % 8 < 8 := Nat.mod_lt _ (by omega)
    rw [ej, at1 _ _ (by omega) hm, at2 _ _ (by omega) hm]
    by_cases e : j / 8 = F
    · have := z3 ⟨j % 8, hm⟩ (by simp only; omega)
      simp only [Nat.testBit_xor] at this
      rw [e]
      generalize (a.getD F 0).toNat.testBit (j % 8) = p at *
      generalize (b.getD F 0).toNat.testBit (j % 8) = q at *
      cases p <;> cases q <;> first | rfl | cases this
    · rw [h3 (j / 8) (by omega)]
  have hi : ∀ j, 8 * G + (g - 1) < j → j < (bitsB a).length → (bitsB a).getD j false = (bitsB b).getD j false := by
    intro j hj hjl
    rw [bits_len] at hjl
    have ej : j = 8 * (j / 8) + j % 8 := by omega
    have hm : j % 8 < 8 := Nat.mod_lt _ (by omega)
    rw [ej, at1 _ _ (by omega) hm, at2 _ _ (by omega) hm]
    by_cases e : j / 8 = G
    · have := g4 ⟨j % 8, hm⟩ (by simp only; omega)
      simp only [Nat.testBit_xor] at this
      rw [e]
      generalize (a.getD G 0).toNat.testBit (j % 8) = p at *
      generalize (b.getD G 0).toNat.testBit (j % 8) = q at *
      cases p <;> cases q <;> first | rfl | cases this
    · rw [h4 (j / 8) (by omega) (by omega)]
  refine Or.inr ⟨8 * F + z, 8 * G + (g - 1), ?_, by rw [bits_len]; omega, dF, dG, lo, hi, by omega⟩
  refine Classical.byContradiction fun hn => ?_
  exact dF (hi _ (by omega) (by rw [bits_len]; omega))

theorem below_drewN' {B : Nat} {a w : World} (h : Below B a w) (n : Nat) : Below B a (w.drewN n) := ⟨h.os, h.tape, h.output, h.size, h.block⟩

set_option maxHeartbeats 1000000 in
theorem apart_any (s t : ByteArray) (hs : s.size ≤ 100000) (h : s.size = t.size) (w : World) :
    Calls Tryd.prog 21 #[.string s, .string t] w (ApartPost s t w) := by
  by_cases hst : s = t
  · subst hst
    clear h
    go_enter Tryd.func21, Tryd.ntmps21
    go_wp2
    go_ret2
    exact ⟨0, rfl, Or.inl ⟨rfl, rfl⟩, Below.refl _ _⟩
  · have b0 := text_ne' hst
    obtain ⟨d, hd, hdd⟩ : ∃ d, d < s.size ∧ s.data.toList.getD d 0 ≠ t.data.toList.getD d 0 := by
      refine Classical.byContradiction fun hn => hst (ByteArray.ext (Array.ext' ?_))
      apply List.ext_getElem
      · rw [data_len, data_len, h]
      · intro j h1 h2
        refine Classical.byContradiction fun hne => hn ⟨j, by rw [data_len] at h1; exact h1, ?_⟩
        rw [List.getD_eq_getElem?_getD, List.getD_eq_getElem?_getD, List.getElem?_eq_getElem h1, List.getElem?_eq_getElem h2]
        exact hne
    have gs : ∀ i (hi : i < s.size), s[i] = s.data.toList.getD i 0 := fun i hi => by
      have : i < s.data.toList.length := by rw [data_len]; exact hi
      rw [List.getD_eq_getElem?_getD, List.getElem?_eq_getElem this]; rfl
    have gt : ∀ i (hi : i < t.size), t[i] = t.data.toList.getD i 0 := fun i hi => by
      have : i < t.data.toList.length := by rw [data_len]; exact hi
      rw [List.getD_eq_getElem?_getD, List.getElem?_eq_getElem this]; rfl
    have sl := data_len s
    have tl := data_len t
    have HP := fun F G hF hG h1 h2 h3 h4 => apart_bytes s.data.toList t.data.toList (by rw [sl, tl, h]) F G hF hG h1 h2 h3 h4
    rw [sl] at HP
    obtain ⟨n, hn⟩ : ∃ n : Nat, n = s.size := ⟨_, rfl⟩
    have hnt : t.size = n := by rw [hn, h]
    have hns : s.size = n := hn.symm
    rw [hns] at hs hd HP
    have HPP := Lib.hid HP
    have HS := Lib.hid gs
    have HT := Lib.hid gt
    have HDD := Lib.hid hdd
    have hpos : (1 : Int) ≤ n := by omega
    clear gs gt hdd hst h sl tl hn HP
    go_enter Tryd.func21, Tryd.ntmps21
    go_wp2
    go_loopw [6] (fun x wr => ∃ (i : Nat), i ≤ d ∧ x = .int .i64 i ∧ (∀ j, j < i → s.data.toList.getD j 0 = t.data.toList.getD j 0) ∧ Below w.heap.size w wr) (fun x _ => d - (intOf x).toNat)
    case atStart => exact ⟨0, Nat.zero_le _, rfl, fun j hj => by omega, Below.refl _ _⟩
    case round =>
      obtain ⟨i, hi, rfl, hsame, hb⟩ := hrel
      have HSA := Lib.hid hsame
      have HB := Lib.hid hb
      have hin : i < n := by omega
      have his : i < s.size := by omega
      have hit : i < t.size := by omega
      have e1 := HS.out i his
      have e2 := HT.out i hit
      obtain ⟨x, hx⟩ : ∃ x : UInt8, x = s.data.toList.getD i 0 := ⟨_, rfl⟩
      obtain ⟨y, hy⟩ : ∃ y : UInt8, y = t.data.toList.getD i 0 := ⟨_, rfl⟩
      rw [← hx] at e1
      rw [← hy] at e2
      have HX := Lib.hid hx
      have HY := Lib.hid hy
      clear hsame hb hx hy
      by_cases hxy : x = y
      · subst hxy
        have hne : i ≠ d := fun e => HDD.out (by rw [← e, ← HX.out, ← HY.out])
        go_wp2
        go_quiet (fail)
        go_wp2
        go_roundw
        case rel =>
          refine ⟨i + 1, by omega, by go_num, fun j hj => ?_, below_drewN' HB.out nq⟩
          by_cases e : j = i
          · rw [e, ← HX.out, ← HY.out]
          · exact HSA.out j (by omega)
        case measure => simp [intOf]; omega
      · have hxn : x.toNat ≠ y.toNat := fun e => hxy (UInt8.toNat_inj.1 e)
        have b1 : ((x.toNat : Int) == (y.toNat : Int)) = false := by
          rw [beq_eq_false_iff_ne]
          omega
        have HXN := Lib.hid hxn
        clear hxy hxn
        go_wp2
        go_quiet (fail)
        go_wp2
        go_loopw [7] (fun z wr => ∃ (l : Nat), i ≤ l ∧ l < n ∧ z = .int .i64 l ∧ (∀ j, l < j → j < n → s.data.toList.getD j 0 = t.data.toList.getD j 0) ∧ Below w.heap.size w wr) (fun z _ => (intOf z).toNat)
        case atStart => exact ⟨n - 1, by omega, by omega, by congr 1; omega, fun j h1 h2 => by omega, below_drewN' HB.out nq⟩
        case round =>
          clear HB
          obtain ⟨l, hil, hln, rfl, hab, hb⟩ := hrel
          have HAB := Lib.hid hab
          have HB := Lib.hid hb
          have hls : l < s.size := by omega
          have hlt : l < t.size := by omega
          have e3 := HS.out l hls
          have e4 := HT.out l hlt
          obtain ⟨u, hu⟩ : ∃ x : UInt8, x = s.data.toList.getD l 0 := ⟨_, rfl⟩
          obtain ⟨v, hv⟩ : ∃ y : UInt8, y = t.data.toList.getD l 0 := ⟨_, rfl⟩
          rw [← hu] at e3
          rw [← hv] at e4
          have HU := Lib.hid hu
          have HV := Lib.hid hv
          clear hab hb hu hv
          by_cases huv : u = v
          · subst huv
            have hne : l ≠ i := fun e => HXN.out (by rw [HX.out, HY.out, ← e, ← HU.out, ← HV.out])
            have hl1 : (1 : Int) ≤ l := by omega
            go_wp2
            go_quiet (fail)
            go_wp2
            go_roundw
            case rel =>
              refine ⟨l - 1, by omega, by omega, by congr 1; omega, fun j h1 h2 => ?_, below_drewN' HB.out nq⟩
              by_cases e : j = l
              · rw [e, ← HU.out, ← HV.out]
              · exact HAB.out j (by omega) h2
            case measure => simp [intOf]; omega
          · have hun : u.toNat ≠ v.toNat := fun e => huv (UInt8.toNat_inj.1 e)
            have b2 : ((u.toNat : Int) == (v.toNat : Int)) = false := by
              rw [beq_eq_false_iff_ne]
              omega
            have hxl := x.toNat_lt
            have hyl := y.toNat_lt
            have hul := u.toNat_lt
            have hvl := v.toNat_lt
            have x1 := u8_xor_nat x.toNat y.toNat (by omega) (by omega)
            have x2 := u8_xor_nat u.toNat v.toNat (by omega) (by omega)
            have p1 : x.toNat ^^^ y.toNat < 256 := Nat.xor_lt_two_pow (n := 8) (by omega) (by omega)
            have p2 : u.toNat ^^^ v.toNat < 256 := Nat.xor_lt_two_pow (n := 8) (by omega) (by omega)
            have hap := HPP.out i l hin hln (by rw [← HX.out, ← HY.out]; exact HXN.out) (by rw [← HU.out, ← HV.out]; exact hun) HSA.out HAB.out
            rw [← HX.out, ← HY.out, ← HU.out, ← HV.out] at hap
            obtain ⟨q1, hq1⟩ : ∃ q : Nat, q = x.toNat ^^^ y.toNat := ⟨_, rfl⟩
            obtain ⟨q2, hq2⟩ : ∃ q : Nat, q = u.toNat ^^^ v.toNat := ⟨_, rfl⟩
            rw [← hq1] at x1 p1 hap
            rw [← hq2] at x2 p2 hap
            have TZ := ntz8_any q1 p1
            have BL := len8_any q2 p2
            have tl := Lib.trailingZeros8_le8 ⟨q1, p1⟩
            have bl := Lib.bitLen_le8 ⟨q2, p2⟩
            simp only at tl bl
            obtain ⟨z1, hz1⟩ : ∃ z : Nat, z = Lib.trailingZeros8 q1 := ⟨_, rfl⟩
            obtain ⟨z2, hz2⟩ : ∃ z : Nat, z = Lib.bitLen q2 := ⟨_, rfl⟩
            rw [← hz1] at TZ tl hap
            rw [← hz2] at BL bl hap
            have HAP := Lib.hid hap
            clear huv hun hap hq1 hq2 hz1 hz2 HPP HAB HSA
            go_wp2
            go_quiet (fail)
            go_wp2
            have s1 : IntKind.i64.wrap (8 * (i : Int)) = 8 * i := IntWalk.i64_in _ (by omega)
            have s2 : IntKind.i64.wrap (8 * (i : Int) + z1) = 8 * i + z1 := IntWalk.i64_in _ (by omega)
            have s3 : IntKind.i64.wrap (8 * (l : Int)) = 8 * l := IntWalk.i64_in _ (by omega)
            have s4 : IntKind.i64.wrap (8 * (l : Int) + z2) = 8 * l + z2 := IntWalk.i64_in _ (by omega)
            have hb1 := below_drewN' HB.out nq
            obtain ⟨W, hW⟩ : ∃ W, W = wr.drewN nq := ⟨_, rfl⟩
            rw [← hW] at hb1 ⊢
            have HB1 := Lib.hid hb1
            clear hb1 hW
            go_quiet ((go_at_call 33; exact Calls.quiet_of_same (TZ _)))
            go_wp2
            have hb2 := below_drewN' HB1.out nq
            obtain ⟨V, hV⟩ : ∃ V, V = W.drewN nq := ⟨_, rfl⟩
            rw [← hV] at hb2 ⊢
            have HB2 := Lib.hid hb2
            clear hb2 hV
            go_quiet ((go_at_call 34; exact Calls.quiet_of_same (BL _)))
            go_wp2
            go_ret2
            exact ⟨_, rfl, HAP.out, below_drewN' HB2.out nq⟩

def NotPost (w : World) (e : Ending) (w' : World) : Prop := e = .returned (.tuple #[.int .i64 0, .bool false]) ∧ w = w'

theorem apart_not (s t : ByteArray) (h : s.size ≠ t.size) (w : World) : Calls Tryd.prog 21 #[.string s, .string t] w (NotPost w) := by
  have b1 : ((s.size : Int) == (t.size : Int)) = false := by
    rw [beq_eq_false_iff_ne]
    omega
  have b2 : ((s.size : Int) != (t.size : Int)) = true := by rw [bne, b1]; rfl
  go_enter Tryd.func21, Tryd.ntmps21
  go_wp2
  go_ret2
  exact ⟨rfl, rfl⟩

theorem rapart_not (s t : ByteArray) (h : s.size ≠ t.size) (w : World) : Calls Tryd.prog 22 #[.string s, .string t] w (NotPost w) := by
  have b1 : ((s.size : Int) == (t.size : Int)) = false := by
    rw [beq_eq_false_iff_ne]
    omega
  have b2 : ((s.size : Int) != (t.size : Int)) = true := by rw [bne, b1]; rfl
  go_enter Tryd.func22, Tryd.ntmps22
  go_wp2
  go_ret2
  exact ⟨rfl, rfl⟩

end Go.Proofs.YtonhoahklmafgaaDoor
