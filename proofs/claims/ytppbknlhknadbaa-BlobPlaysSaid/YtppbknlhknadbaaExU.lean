/- The document's Count, Has, Plain, Join, Minus, Common, Lowest. -/
import Derived.Test.YtppbknlhknadbaaExV
namespace Go.Proofs.Ytppbknlhknadbaa
open Go.RowKit

set_option maxRecDepth 100000 in
set_option maxHeartbeats 1000000 in
theorem rcount_any (l : List (Int × Int)) (v : Value) (w : World) (h : RunsAt l v w) (hl : l.length ≤ 1048576) :
    Calls Try.prog 34 #[v] w fun e w' => e = .returned (.int .i64 (cntA (hasR l) : Nat)) ∧ Below w.heap.size w w' := by
  have RW := rrow_any l v w h hl
  obtain ⟨p, c, rfl, -, -⟩ := h.out
  obtain ⟨n, hn⟩ : ∃ n, n = l.length := ⟨_, rfl⟩
  rw [← hn] at RW ⊢
  obtain ⟨f, hf⟩ : ∃ f, f = hasR l := ⟨_, rfl⟩
  rw [← hf] at RW ⊢
  clear h hl hn hf
  go_enter Try.func34, Try.ntmps34
  go_wp2_with fail
  refine RW.mono ?_
  rintro e w1 ⟨b, rfl, hbl, hr, hb1⟩
  have HR := Lib.hid hr
  have HK1 := Lib.hid hb1
  clear RW hbl hr hb1
  go_wp2
  go_loopg [4, 5] 8192 (fun gh s4 s5 wx => ∃ k : Nat, k + gh = 8192 ∧ s5 = .int .i64 k ∧ s4 = .int .i64 (cntF f k : Nat) ∧ w1 = wx)
  case atStart => exact ⟨0, by omega, rfl, rfl, rfl⟩
  case round =>
    obtain ⟨k, hk, rfl, rfl, hwx⟩ := hrel
    subst hwx
    obtain ⟨k1, hk1⟩ : ∃ k1, k1 = k + 1 := ⟨_, rfl⟩
    have v1 : IntKind.i64.wrap ((k : Int) + 1) = (k1 : Int) := by rw [show (k : Int) + 1 = (k1 : Int) by omega]; exact IntWalk.i64_in _ (by omega)
    by_cases hkn : k < 8192
    · have hki : (k : Int) < 8192 := by omega
      have bk : decide ((k : Int) < 8192) = true := by simpa using hki
      have hki0 : (0 : Int) ≤ k := by omega
      have d1 := HR.out.cell k hkn
      have hle := cntF_le f k
      have hst : cntF f k1 = cntF f k + (if f k = true then 1 else 0) := by rw [hk1]; rfl
      obtain ⟨q, hq⟩ : ∃ q, q = cntF f k := ⟨_, rfl⟩
      obtain ⟨q1, hq1⟩ : ∃ q1, q1 = cntF f k1 := ⟨_, rfl⟩
      rw [← hq, ← hq1] at hst
      rw [← hq] at hle ⊢
      have HQ1 := Lib.hid hq1
      clear hq hq1
      cases hfk : f k with
      | false =>
        rw [hfk] at d1 hst
        have hqe : q1 = q := by simpa using hst
        have HE : Hid ((q : Int) = ((cntF f k1 : Nat) : Int)) := Lib.hid (by rw [← HQ1.out, hqe])
        clear hst hqe
        go_wp2
        go_roundg (8192 - k1)
        case measure => omega
        case rel => exact ⟨k1, by omega, by first | rfl | (congr 1; omega), by rw [HE.out], rfl⟩
      | true =>
        rw [hfk, if_pos rfl] at hst
        rw [hfk] at d1
        have v2 : IntKind.i64.wrap ((q : Int) + 1) = (q1 : Int) := by rw [show (q : Int) + 1 = (q1 : Int) by omega]; exact IntWalk.i64_in _ (by omega)
        clear hst
        go_wp2
        go_roundg (8192 - k1)
        case measure => omega
        case rel => exact ⟨k1, by omega, by first | rfl | (congr 1; omega), by rw [HQ1.out], rfl⟩
    · have hke : k = 8192 := by omega
      have hki : ¬ (k : Int) < 8192 := by omega
      have bk : decide ((k : Int) < 8192) = false := by simpa using hki
      have HE : Hid ((cntF f k : Nat) = cntA f) := Lib.hid (by rw [hke]; rfl)
      clear hke
      go_wp2
      go_ret
      exact ⟨by rw [HE.out]; rfl, HK1.out⟩

/-- Has a list a sector? -/
def hasSec (l : List (Int × Int)) (a : Int) : Bool := decide (0 ≤ a ∧ a < 8192) && hasR l a.toNat

set_option maxRecDepth 100000 in
set_option maxHeartbeats 1000000 in
theorem rhas_any (l : List (Int × Int)) (v : Value) (w : World) (h : RunsAt l v w) (hl : l.length ≤ 1048576) (a : Int) :
    Calls Try.prog 27 #[v, .int .i64 a] w fun e w' => e = .returned (.bool (hasSec l a)) ∧ Below w.heap.size w w' := by
  have RW := rrow_any l v w h hl
  obtain ⟨p, c, rfl, -, -⟩ := h.out
  obtain ⟨n, hn⟩ : ∃ n, n = l.length := ⟨_, rfl⟩
  rw [← hn] at RW ⊢
  obtain ⟨x, hx⟩ : ∃ x, x = hasSec l a := ⟨_, rfl⟩
  rw [← hx]
  unfold hasSec at hx
  obtain ⟨f, hf⟩ : ∃ f, f = hasR l := ⟨_, rfl⟩
  rw [← hf] at RW hx
  clear h hl hn hf
  by_cases h0 : a ≥ 0
  · by_cases h1 : a < 8192
    · rw [decide_eq_true ⟨h0, h1⟩, Bool.true_and] at hx
      obtain ⟨q, rfl⟩ : ∃ q : Nat, a = q := ⟨a.toNat, by omega⟩
      rw [Int.toNat_natCast] at hx
      have hq : q < 8192 := by omega
      clear h0
      have h0 : (q : Int) ≥ 0 := by omega
      have h00 : (0 : Int) ≤ q := by omega
      go_enter Try.func27, Try.ntmps27
      go_wp2_with fail
      refine RW.mono ?_
      rintro e w1 ⟨b, rfl, hbl, hr, hb1⟩
      have d1 := hr.cell q hq
      rw [← hx] at d1
      have HK1 := Lib.hid hb1
      clear RW hbl hr hb1 hx
      go_wp2
      go_ret
      exact ⟨rfl, HK1.out⟩
    · rw [decide_eq_false (fun y => h1 y.2), Bool.false_and] at hx
      subst hx
      clear RW
      go_enter Try.func27, Try.ntmps27
      go_wp2
      go_ret
      exact ⟨rfl, Below.refl _ _⟩
  · rw [decide_eq_false (fun y => h0 y.1), Bool.false_and] at hx
    subst hx
    clear RW
    go_enter Try.func27, Try.ntmps27
    go_wp2
    go_ret
    exact ⟨rfl, Below.refl _ _⟩

set_option maxRecDepth 100000 in
set_option maxHeartbeats 4000000 in
theorem rcommon_any (la lb : List (Int × Int)) (u v : Value) (w : World) (ha : RunsAt la u w) (hb : RunsAt lb v w) (hla : la.length ≤ 1048576) (hlb : lb.length ≤ 1048576) :
    Calls Try.prog 69 #[u, v] w fun e w' => ∃ x, e = .returned x ∧ OwnRuns w.heap.size (runsA (fun k => hasR la k && hasR lb k)) x w' ∧ Below w.heap.size w w' := by
  have RA := rrow_any la u w ha hla
  have RB := fun W (k : Kept w W) => rrow_any lb v W (hb.later k) hlb
  obtain ⟨pa, ca, rfl, -, -⟩ := ha.out
  obtain ⟨pb, cb, rfl, -, -⟩ := hb.out
  obtain ⟨n, hn⟩ : ∃ n, n = la.length := ⟨_, rfl⟩
  obtain ⟨m, hm⟩ : ∃ m, m = lb.length := ⟨_, rfl⟩
  rw [← hn] at RA ⊢
  rw [← hm] at RB ⊢
  obtain ⟨f, hf⟩ : ∃ f, f = hasR la := ⟨_, rfl⟩
  obtain ⟨g, hg⟩ : ∃ g, g = hasR lb := ⟨_, rfl⟩
  rw [← hf] at RA ⊢
  rw [← hg] at RB ⊢
  clear ha hb hla hlb hn hm hf hg
  go_enter Try.func69, Try.ntmps69
  go_wp2_with fail
  refine RA.mono ?_
  rintro e w1 ⟨bx, rfl, hbx, hrx, hb1⟩
  have RB1 := RB w1 hb1
  have HRX := Lib.hid hrx
  have HK1 := Lib.hid hb1
  have HBX := Lib.hid hbx
  clear RA RB hrx hb1 hbx
  go_wp2_with fail
  refine RB1.mono ?_
  rintro e w2 ⟨bz, rfl, hbz, hrz, hb2⟩
  have HRY := Lib.hid hrz
  have HK2 : Hid (Kept w w2) := Lib.hid ((show Kept w w1 from HK1.out).then hb2)
  have HNE : Hid (bz ≠ bx) := Lib.hid (by have := HRX.out.lt; omega)
  have R0 : Hid (RowF bx (fun j => if j < 0 then f j && g j else f j) w2) := Lib.hid ((HRX.out.kept hb2).congr (fun k _ => by simp))
  clear hrz hbz hb2 RB1
  go_wp2
  go_loopg [7] 8192 (fun gh s7 wx => ∃ k : Nat, k + gh = 8192 ∧ s7 = .int .i64 k ∧ Hid (RowF bx (fun j => if j < k then f j && g j else f j) wx) ∧ Hid (RowF bz g wx) ∧ Hid (Kept w wx))
  case atStart => exact ⟨0, by omega, rfl, R0, HRY, HK2⟩
  case round =>
    clear R0 HRY HK2 HRX HK1
    obtain ⟨k, hk, rfl, HX, HY, HK⟩ := hrel
    obtain ⟨k1, hk1⟩ : ∃ k1, k1 = k + 1 := ⟨_, rfl⟩
    have v1 : IntKind.i64.wrap ((k : Int) + 1) = (k1 : Int) := by rw [show (k : Int) + 1 = (k1 : Int) by omega]; exact IntWalk.i64_in _ (by omega)
    by_cases hkn : k < 8192
    · have hki : (k : Int) < 8192 := by omega
      have bk : decide ((k : Int) < 8192) = true := by simpa using hki
      have hki0 : (0 : Int) ≤ k := by omega
      have d1 : wr.cell? ⟨bx, k, none⟩ = some (.bool (f k)) := by have h := HX.out.cell k hkn; rw [if_neg (by omega)] at h; exact h
      have f1 := HX.out.froz k
      have d2 := HY.out.cell k hkn
      obtain ⟨x, hx⟩ : ∃ x, x = (f k && g k) := ⟨_, rfl⟩
      have HX2 : Hid (RowF bx (fun j => if j < k1 then f j && g j else f j) (wr.setCell ⟨bx, k, none⟩ (.bool x))) := Lib.hid ((HX.out.set k x).congr (fun j hj => by
        show (if j = k then x else if j < k then _ else _) = _
        by_cases e : j = k
        · subst e; rw [if_pos rfl, if_pos (by omega), hx]
        · rw [if_neg e]
          by_cases e2 : j < k
          · rw [if_pos e2, if_pos (by omega)]
          · rw [if_neg e2, if_neg (by omega)]))
      have HY2 : Hid (RowF bz g (wr.setCell ⟨bx, k, none⟩ (.bool x))) := Lib.hid (HY.out.stay (heap_setCell_other _ _ _ _ HNE.out))
      have HK3 : Hid (Kept w (wr.setCell ⟨bx, k, none⟩ (.bool x))) := Lib.hid (Below.setCell HK.out HBX.out _)
      cases hfk : f k with
      | false =>
        rw [hfk, Bool.false_and] at hx
        rw [hfk] at d1
        subst hx
        go_wp2
        go_roundg (8192 - k1)
        case measure => omega
        case rel => exact ⟨k1, by omega, by first | rfl | (congr 1; omega), HX2, HY2, HK3⟩
      | true =>
        rw [hfk, Bool.true_and] at hx
        rw [hfk] at d1
        obtain ⟨y, hy⟩ : ∃ y, y = g k := ⟨_, rfl⟩
        rw [← hy] at d2 hx
        subst hx
        clear hy
        go_wp2
        go_roundg (8192 - k1)
        case measure => omega
        case rel => exact ⟨k1, by omega, by first | rfl | (congr 1; omega), HX2, HY2, HK3⟩
    · have hki : ¬ (k : Int) < 8192 := by omega
      have bk : decide ((k : Int) < 8192) = false := by simpa using hki
      have hre : RowF bx (fun j => f j && g j) wr := HX.out.congr (fun j hj => by rw [if_pos (by omega)])
      have RN := rruns_any bx (fun j => f j && g j) wr hre
      clear hre
      go_wp2_with fail
      refine RN.mono ?_
      rintro e w3 ⟨x, rfl, ho, hb3⟩
      have HO : Hid (OwnRuns w.heap.size (runsA (fun k => f k && g k)) x w3) := Lib.hid (OwnRuns.base ho HK.out.size)
      have HK4 : Hid (Kept w w3) := Lib.hid ((show Kept w wr from HK.out).then hb3)
      clear ho hb3 RN
      go_wp2
      go_ret
      exact ⟨_, rfl, HO.out, HK4.out⟩

end Go.Proofs.Ytppbknlhknadbaa
