/- The walks of DiskNobody, DiskLoads, out of the contracts. -/
import Derived.Test.YtpnnlpmkgglgdaaDkC
namespace Go.Proofs.Ytpnnlpmkgglgdaa
open Go.RowKit Go.ChangeShapes

/-- Of a disk that nobody made nothing comes. -/
structure NilDisk : Prop where
  fuse : ∀ (n : Int) w, Calls Try.prog 24 #[.pointer none, .int .i64 n] w fun e w' => e = .returned (.tuple #[]) ∧ Below w.heap.size w w'
  power : ∀ w, Calls Try.prog 23 #[.pointer none, .slice none 0 0] w fun e w' => e = .returned (.tuple #[]) ∧ Below w.heap.size w w'
  read : ∀ (i : Int) w, Calls Try.prog 19 #[.pointer none, .int .i64 i] w fun e w' => e = .returned (.tuple #[.string ⟨#[]⟩, .int .i64 4]) ∧ Below w.heap.size w w'
  write : ∀ (i : Int) (t : ByteArray) w, Calls Try.prog 20 #[.pointer none, .int .i64 i, .string t] w fun e w' => e = .returned (.int .i64 4) ∧ Below w.heap.size w w'
  flush : ∀ w, Calls Try.prog 22 #[.pointer none] w fun e w' => e = .returned (.int .i64 4) ∧ Below w.heap.size w w'
  spoil : ∀ (i : Int) (t : ByteArray) w, Calls Try.prog 25 #[.pointer none, .int .i64 i, .string t] w fun e w' => e = .returned (.int .i64 4) ∧ Below w.heap.size w w'
  len : ∀ w, Calls Try.prog 18 #[.pointer none] w fun e w' => e = .returned (.int .i64 0) ∧ Below w.heap.size w w'
  waits : ∀ w, Calls Try.prog 15 #[.pointer none] w fun e w' => e = .returned (.int .i64 0) ∧ Below w.heap.size w w'
  ops : ∀ w, Calls Try.prog 16 #[.pointer none] w fun e w' => e = .returned (.int .i64 0) ∧ Below w.heap.size w w'
  down : ∀ w, Calls Try.prog 17 #[.pointer none] w fun e w' => e = .returned (.bool false) ∧ Below w.heap.size w w'
  image : ∀ w, Calls Try.prog 14 #[.pointer none] w fun e w' => e = .returned (.string ⟨#[]⟩) ∧ Below w.heap.size w w'

set_option maxRecDepth 100000 in
set_option maxHeartbeats 4000000 in
theorem diskNobody_of (ND : NewDisk) (NL : NilDisk) (i : Int) (t : ByteArray) (w : World) : Calls Try.prog 6 #[.int .i64 i, .string t] w (LawPost w) := by
  have AW := fun W => dawake_of ND W
  have HNL := Lib.hid NL
  clear ND NL
  go_enter Try.func6, Try.ntmps6
  go_wp2_with fail
  refine (HNL.out.fuse i w).mono ?_
  rintro e w1 ⟨rfl, hb⟩
  have K1 : Hid (Kept w w1) := hb
  clear hb
  go_wp2_with fail
  refine (HNL.out.power w1).mono ?_
  rintro e w2 ⟨rfl, hb⟩
  have K2 : Hid (Kept w w2) := K1.out.then hb
  clear hb K1
  go_wp2_with fail
  refine (HNL.out.read i w2).mono ?_
  rintro e w3 ⟨rfl, hb⟩
  have K3 : Hid (Kept w w3) := K2.out.then hb
  clear hb K2
  go_wp2_with fail
  refine (HNL.out.write i t w3).mono ?_
  rintro e w4 ⟨rfl, hb⟩
  have K4 : Hid (Kept w w4) := K3.out.then hb
  clear hb K3
  go_wp2_with fail
  refine (HNL.out.flush w4).mono ?_
  rintro e w5 ⟨rfl, hb⟩
  have K5 : Hid (Kept w w5) := K4.out.then hb
  clear hb K4
  go_wp2_with fail
  refine (HNL.out.spoil i t w5).mono ?_
  rintro e w6 ⟨rfl, hb⟩
  have K6 : Hid (Kept w w6) := K5.out.then hb
  clear hb K5
  go_wp2_with fail
  refine (HNL.out.len w6).mono ?_
  rintro e w7 ⟨rfl, hb⟩
  have K7 : Hid (Kept w w7) := K6.out.then hb
  clear hb K6
  go_wp2_with fail
  refine (HNL.out.waits w7).mono ?_
  rintro e w8 ⟨rfl, hb⟩
  have K8 : Hid (Kept w w8) := K7.out.then hb
  clear hb K7
  go_wp2_with fail
  refine (HNL.out.ops w8).mono ?_
  rintro e w9 ⟨rfl, hb⟩
  have K9 : Hid (Kept w w9) := K8.out.then hb
  clear hb K8
  go_wp2_with fail
  refine (HNL.out.down w9).mono ?_
  rintro e w10 ⟨rfl, hb⟩
  have K10 : Hid (Kept w w10) := K9.out.then hb
  clear hb K9
  go_wp2_with fail
  refine (HNL.out.image w10).mono ?_
  rintro e w11 ⟨rfl, hb⟩
  have K11 : Hid (Kept w w11) := K10.out.then hb
  clear hb K10
  go_wp2_with fail
  refine (AW w11).mono ?_
  rintro e w12 ⟨rfl, hb⟩
  have K12 : Hid (Kept w w12) := K11.out.then hb
  clear hb K11
  go_wp2
  go_ret
  exact ⟨rfl, K12.out⟩

set_option maxRecDepth 100000 in
set_option maxHeartbeats 4000000 in
theorem diskLoads_of (ND : NewDisk) (LD : LoadDisk) (t : ByteArray) (ht : t.size ≤ maxLen) (w : World) : Calls Try.prog 4 #[.string t] w (LawPost w) := by
  have AW := fun W => dawake_of ND W
  by_cases h5 : t.size ≤ 5000
  · have i5 : ¬ (t.size : Int) > 5000 := by omega
    have LT := LD t ht w
    have MA := fun W => rmayd_any t W
    have hl := str_len t
    have he := str_of t
    obtain ⟨l, hll⟩ : ∃ l, l = t.data.toList := ⟨_, rfl⟩
    rw [← hll] at hl he LT MA
    have HL := Lib.hid hl
    have HE : Hid (str l = t) := he
    clear hl he hll ND LD
    go_enter Try.func4, Try.ntmps4
    go_wp2_with fail
    refine LT.mono ?_
    rintro e w1 ⟨hb1, ⟨hn, rfl⟩ | ⟨hy, ad, P, Bs0, rfl, D, hd0⟩⟩
    · rw [decide_eq_false hn] at MA
      have K1 : Hid (Kept w w1) := hb1
      clear hb1 hn LT
      go_wp2_with fail
      refine (MA w1).mono ?_
      rintro e w2 ⟨rfl, rfl⟩
      go_wp2_with fail
      refine (AW w1).mono ?_
      rintro e w3 ⟨rfl, hb⟩
      have K3 : Hid (Kept w w3) := K1.out.then hb
      clear hb K1
      go_wp2
      go_ret
      exact ⟨rfl, K3.out⟩
    · rw [decide_eq_true hy] at MA
      obtain ⟨s, hs⟩ : ∃ s, s = Dk.load l := ⟨_, rfl⟩
      rw [← hs] at hd0
      have HOK : Hid s.ok := Lib.hid (by rw [hs]; exact Dk.ok.load hy)
      have HIM : Hid (str s.image = t) := Lib.hid (by rw [hs, Dk.load_image hy]; exact HE.out)
      have HW0 : Hid (s.waits.length = 0 ∧ s.ops = 0 ∧ s.down = false) := Lib.hid (by rw [hs]; exact ⟨rfl, rfl, rfl⟩)
      obtain ⟨n, hn⟩ : ∃ n, n = s.stands.length := ⟨_, rfl⟩
      have hn2 : t.size = 128 * n := by
        have h1 : s.stands.length = l.length / 128 := by rw [hs]; exact secs_len l
        have h2 := hy.2.1
        rw [hn, h1, ← HL.out]
        omega
      have HRD : Hid (∀ i : Nat, i < n → s.readE i = 0 ∧ str (s.readT i) = t.extract (128 * i) (128 * i + 128)) := Lib.hid (fun i hi => by
        have ho : ¬ s.out i := by unfold Dk.out; omega
        have hd : ¬ s.down = true := by rw [hs]; exact Bool.false_ne_true
        refine ⟨by unfold Dk.readE; rw [if_neg hd, if_neg ho], ?_⟩
        have hv : s.readT i = (l.drop (128 * i)).take 128 := by
          unfold Dk.readT
          rw [if_neg (fun x => x.elim hd ho), Int.toNat_natCast]
          have hl2 : i < l.length / 128 := by
            have h1 : s.stands.length = l.length / 128 := by rw [hs]; exact secs_len l
            omega
          rw [hs]
          exact secs_get l i hl2
        rw [hv, ← HE.out]
        have h3 := str_extract l (128 * i) 128 (by rw [HL.out]; omega)
        exact h3.symm)
      have I1 : Hid (DIn w.heap.size P s w w1) := Lib.hid ⟨⟨Bs0, hd0⟩, hb1, hb1.size⟩
      have HD := Lib.hid D
      have HN := Lib.hid hn
      have HN2 := Lib.hid hn2
      have hn40 : n ≤ 39 := by omega
      clear hd0 hb1 D hs hy LT hn hn2
      go_wp2_with fail
      refine (MA w1).mono ?_
      rintro e w2 ⟨rfl, rfl⟩
      have C1 := din_image HD.out I1.out HOK.out
      rw [HIM.out] at C1
      have bt : (t.toList == t.toList) = true := by simp
      clear I1 MA
      go_wp2_with fail
      refine C1.mono ?_
      rintro e w3 ⟨rfl, hi⟩
      have C3 := din_waits HD.out hi
      rw [HW0.out.1] at C3
      clear hi C1
      go_wp2_with fail
      refine C3.mono ?_
      rintro e w4 ⟨rfl, hi⟩
      have C4 := din_ops HD.out hi
      rw [HW0.out.2.1] at C4
      clear hi C3
      go_wp2_with fail
      refine C4.mono ?_
      rintro e w5 ⟨rfl, hi⟩
      have C5 := din_down HD.out hi
      rw [HW0.out.2.2] at C5
      clear hi C4
      go_wp2_with fail
      refine C5.mono ?_
      rintro e w6 ⟨rfl, hi⟩
      have I6 := Lib.hid hi
      clear hi C5
      go_wp2
      go_loopg [5] n (fun gh s5 wx => ∃ i : Nat, i + gh = n ∧ s5 = .int .i64 i ∧ Hid (DIn w.heap.size P s w wx))
      case atStart => exact ⟨0, by omega, rfl, I6⟩
      case round =>
        clear I6
        obtain ⟨i, hig, rfl, HI⟩ := hrel
        have C7 := din_len HD.out HI.out HOK.out
        rw [← HN.out] at C7
        obtain ⟨i1, hi1⟩ : ∃ i1, i1 = i + 1 := ⟨_, rfl⟩
        have v1 : IntKind.i64.wrap ((i : Int) + 1) = (i1 : Int) := by rw [show (i : Int) + 1 = (i1 : Int) by omega]; exact IntWalk.i64_in _ (by omega)
        go_wp2_with fail
        refine C7.mono ?_
        rintro e w7 ⟨rfl, hi⟩
        have I7 := Lib.hid hi
        clear hi C7 HI
        by_cases hin : i < n
        · have hii : (i : Int) < n := by omega
          have hi40 : (i : Int) < 40 := by omega
          have C8 := din_read HD.out I7.out (i : Int) HOK.out (by rw [HW0.out.2.1]; decide) (by simp [Lit.wf, IntKind.min, IntKind.max, IntKind.signed, IntKind.bits]; omega)
          have hr := HRD.out i hin
          rw [hr.1] at C8
          obtain ⟨a, ha⟩ : ∃ a, a = 128 * i := ⟨_, rfl⟩
          obtain ⟨b, hb⟩ : ∃ b, b = a + 128 := ⟨_, rfl⟩
          have v2 : IntKind.i64.wrap ((i : Int) * 128) = (a : Int) := by rw [show (i : Int) * 128 = (a : Int) by omega]; exact IntWalk.i64_in _ (by omega)
          have v3 : IntKind.i64.wrap ((a : Int) + 128) = (b : Int) := by rw [show (a : Int) + 128 = (b : Int) by omega]; exact IntWalk.i64_in _ (by omega)
          have hr2 := hr.2
          rw [← ha, ← hb] at hr2
          obtain ⟨x, hx⟩ : ∃ x, x = str (s.readT i) := ⟨_, rfl⟩
          rw [← hx] at C8 hr2
          have i1' : (0 : Int) ≤ a := by omega
          have i2' : (a : Int) ≤ b := by omega
          have i3' : (b : Int) ≤ t.size := by have := HN2.out; omega
          have ex : t.extract a b = x := hr2.symm
          have bx : (x.toList == x.toList) = true := by simp
          clear hr hr2 hx ha hb
          go_wp2_with fail
          refine C8.mono ?_
          rintro e w8 ⟨rfl, hi⟩
          have I8 := Lib.hid hi
          clear hi C8 I7
          go_wp2
          go_roundg (n - i1)
          case measure => omega
          case rel => exact ⟨i1, by omega, by first | rfl | (congr 1; omega), I8⟩
        · have hii : ¬ (i : Int) < n := by omega
          have C9 := din_len HD.out I7.out HOK.out
          rw [← HN.out] at C9
          go_wp2_with fail
          refine C9.mono ?_
          rintro e w9 ⟨rfl, hi⟩
          have I9 := Lib.hid hi
          have vq : ((t.size : Int)).tdiv 128 = (n : Int) := by rw [HN2.out]; show ((128 * n : Nat) : Int).tdiv ((128 : Nat) : Int) = _; rw [← Int.ofNat_tdiv]; congr 1; omega
          have bq : ((n : Int) == (n : Int)) = true := by simp
          clear hi C9 I7
          go_wp2_with fail
          refine (AW w9).mono ?_
          rintro e w10 ⟨rfl, hb⟩
          have K10 : Hid (Below w.heap.size w w10) := Lib.hid (Below.then' I9.out.2.1 hb I9.out.2.2)
          clear hb I9
          go_wp2
          go_ret
          exact ⟨rfl, K10.out⟩
  · have i5 : (t.size : Int) > 5000 := by omega
    clear ND LD ht h5
    go_enter Try.func4, Try.ntmps4
    go_wp2_with fail
    refine (AW w).mono ?_
    rintro e w1 ⟨rfl, hb⟩
    go_wp2
    go_ret
    exact ⟨rfl, hb⟩

end Go.Proofs.Ytpnnlpmkgglgdaa
