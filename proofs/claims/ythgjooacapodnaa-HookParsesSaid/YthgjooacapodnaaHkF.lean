/- Minus, Common, Of: the walks. -/
import Derived.Test.YthgjooacapodnaaHkE
namespace Go.Proofs.Ythgjooacapodnaa
open Go.RowKit

set_option maxRecDepth 100000 in
theorem deleteFunc_nil (bx : Nat) (w : World) :
    Calls Try.prog 40 #[.slice none 0 0, .func (.func 41) #[] #[.pointer (some ⟨bx, 0, none⟩)]] w fun e w' => e = .returned (.slice none 0 0) ∧ w' = w := by
  have IF : Calls Try.prog 49 #[.slice none 0 0, .func (.func 41) #[] #[.pointer (some ⟨bx, 0, none⟩)]] w fun e w' => e = .returned (.int .i64 (-1)) ∧ w' = w := by
    go_enter Try.func49, Try.ntmps49
    go_wp2
    refine wp_loop_rounds 1 ?_
    rw [rounds_succ]
    go_wp2
    go_ret
    exact ⟨rfl, rfl⟩
  go_enter Try.func40, Try.ntmps40
  go_wp2_with (go_at_call 49; refine IF.mono ?_; rintro e w' ⟨rfl, rfl⟩)
  go_ret
  exact ⟨rfl, rfl⟩

/-- slices.DeleteFunc of an own slice. -/
theorem deleteFunc_any (q : List UInt8 → Bool) (bx B : Nat) (ls : List (List UInt8)) (hs : ls.length ≤ 1000000) (v : Value) (w : World) (h : OwnFps B ls v w)
    (hd : ∀ W, Below B w W → ∀ l : List UInt8, l.length = 32 → Calls Try.prog 41 #[.agg (fpA l), .pointer (some ⟨bx, 0, none⟩)] W fun e w' => e = .returned (.bool (q l)) ∧ Below W.heap.size W w') :
    Calls Try.prog 40 #[v, .func (.func 41) #[] #[.pointer (some ⟨bx, 0, none⟩)]] w fun e w' => ∃ v', e = .returned v' ∧ OwnFps B (ls.filter fun x => !q x) v' w' ∧ w.grownBy w' v.ownBlock := by
  rcases h.parts with ⟨rfl, rfl⟩ | ⟨g, cap, rest, rfl, hB, hr, hc, hm, hsz⟩
  · refine (deleteFunc_nil bx w).mono ?_
    rintro e w' ⟨he, rfl⟩
    exact ⟨_, he, h, grown_same _ _⟩
  · refine (deleteFunc_row q bx g cap ls rest hs hc w hr (fun W hW => hd W (Below.mono hW hB))).mono ?_
    rintro e w' ⟨ms, rest', he, hms, hle, hr', hsz', hg⟩
    subst hms
    exact ⟨_, he, OwnFps.of_row hB hr' (by omega) hm (by omega), hg⟩

theorem setL_le (n : Nat) (ls : List (List UInt8)) (h : ∀ y ∈ ls, y.length = n) : (setL ls).length ≤ ls.length := by
  have hw : ∀ (l out : List (List UInt8)), (l.foldl add1 out).length ≤ out.length + l.length := by
    intro l
    induction l with
    | nil => intro out; simp
    | cons x l ih =>
      intro out
      rw [List.foldl_cons]
      have h1 := ih (add1 out x)
      have hi : ∀ o : List (List UInt8), (ins x o).length = o.length + 1 := by
        intro o
        induction o with
        | nil => rfl
        | cons a o ih2 => unfold ins; split <;> simp [ih2]
      have h2 : (add1 out x).length ≤ out.length + 1 := by
        unfold add1
        split
        · omega
        · rw [hi]; exact Nat.le_refl _
      rw [List.length_cons]
      omega
  have := hw ls []
  simpa [setL] using this

theorem minus_set (xs ys : List (List UInt8)) (ha : All32 xs) : (setL xs).filter (fun x => !(setL ys).contains x) = minusL xs ys := by
  have e : (fun x => !(setL ys).contains x) = fun x => !ys.contains x := by
    funext x
    congr 1
    rw [Bool.eq_iff_iff, List.contains_iff_mem, List.contains_iff_mem, setL_mem]
  rw [e]
  exact (setL_filter 32 xs _ ha).symm

set_option maxRecDepth 100000 in
set_option maxHeartbeats 1000000 in
/-- Minus. -/
theorem minus_any (va vb : Value) (xs ys : List (List UInt8)) (h1 : xs.length ≤ 1000000) (h2 : ys.length ≤ 1000000) (w : World) (ha : FpsAt 32 xs va w) (hb : FpsAt 32 ys vb w) :
    Calls Try.prog 29 #[va, vb] w fun e w' => ∃ v', e = .returned v' ∧ OwnFps w.heap.size (minusL xs ys) v' w' ∧ Below w.heap.size w w' := by
  have SB := set_any vb ys h2 w hb
  have SA := fun W => set_any va xs h1 W
  have h32a : All32 xs := ha.1
  have h32b : All32 ys := hb.1
  have HA := Lib.hid ha
  have HMS := Lib.hid (minus_set xs ys h32a)
  have INC := Lib.hid (setL_incr 32 ys h32b)
  have hl1 := Nat.le_trans (setL_le 32 xs h32a) h1
  have hl2 := Nat.le_trans (setL_le 32 ys h32b) h2
  obtain ⟨A, hA⟩ : ∃ A, A = setL xs := ⟨_, rfl⟩
  obtain ⟨B, hB⟩ : ∃ B, B = setL ys := ⟨_, rfl⟩
  obtain ⟨M, hM⟩ : ∃ M, M = minusL xs ys := ⟨_, rfl⟩
  rw [← hA] at SA hl1
  rw [← hB] at SB INC hl2
  rw [← hA, ← hB, ← hM] at HMS
  rw [← hM]
  clear hA hB hM ha hb h32a h32b h1 h2
  go_enter Try.func29, Try.ntmps29
  go_wp2_with fail
  refine SB.mono ?_
  rintro e w1 ⟨v1, rfl, ho1, hb1⟩
  obtain ⟨p, c, rfl, -⟩ := ho1.fps.2
  have HO1 := Lib.hid ho1
  clear ho1 SB
  go_wp2_with fail
  have KA : Below w1.heap.size w1 (w1.alloc (.cells #[.slice p B.length c] 37)) := (Below.refl _ _).alloc (Nat.le_refl _) _
  have cX : (w1.alloc (.cells #[.slice p B.length c] 37)).cell? ⟨w1.heap.size, 0, none⟩ = some (.slice p B.length c) := by
    rw [cell_of_row _ _ 0 _ _ _ (heap_alloc_new w1 _)]; rfl
  have hFB := HO1.out.fps.later KA
  have hlt : w1.heap.size < (w1.alloc (.cells #[.slice p B.length c] 37)).heap.size := by simp
  obtain ⟨W2, hW2⟩ : ∃ W2, W2 = w1.alloc (.cells #[.slice p B.length c] 37) := ⟨_, rfl⟩
  rw [← hW2] at KA cX hFB hlt ⊢
  have K2 : Below w.heap.size w W2 := Below.then' hb1 KA hb1.size
  clear hW2
  refine (SA W2 (HA.out.later (Below.then' hb1 KA hb1.size))).mono ?_
  rintro e w3 ⟨v3, rfl, ho3, hb3⟩
  have DF := deleteFunc_any (fun x => B.contains x) w1.heap.size W2.heap.size A hl1 v3 w3 ho3 (fun W hW l hl => by
    have K := hb3.trans hW
    exact del_any l hl (.slice p B.length c) B INC.out hl2 w1.heap.size W (hFB.later K) ((K.cell hlt).trans cX))
  have l3 := ho3.lt
  rw [HMS.out] at DF
  clear SA ho3 cX hFB
  go_wp2_with fail
  refine DF.mono ?_
  rintro e w4 ⟨v4, rfl, ho4, hg4⟩
  go_wp2
  go_ret
  refine ⟨_, rfl, ho4.base K2.size, ?_⟩
  have h4 : Below W2.heap.size w3 w4 := below_of_grown hg4 hb3.size (fun k hk => (l3 k hk).1)
  exact Below.then' K2 (hb3.trans h4) K2.size

theorem minus_len (xs ys : List (List UInt8)) (ha : All32 xs) : (minusL xs ys).length ≤ (setL xs).length := by
  have := (common_both 32 xs ys ha).2
  omega

set_option maxRecDepth 100000 in
set_option maxHeartbeats 1000000 in
/-- Common. -/
theorem common_any (va vb : Value) (xs ys : List (List UInt8)) (h1 : xs.length ≤ 1000000) (h2 : ys.length ≤ 1000000) (w : World) (ha : FpsAt 32 xs va w) (hb : FpsAt 32 ys vb w) :
    Calls Try.prog 28 #[va, vb] w fun e w' => e = .returned (.int .i64 (commonN xs ys : Nat)) ∧ Below w.heap.size w w' := by
  have SA := set_any va xs h1 w ha
  have SM := fun W (k : Below w.heap.size w W) => minus_any va vb xs ys h1 h2 W (ha.later k) (hb.later k)
  have hl := setL_le 32 xs ha.1
  have hm := minus_len xs ys ha.1
  obtain ⟨n, hn⟩ : ∃ n, n = commonN xs ys := ⟨_, rfl⟩
  have hcm : n = (setL xs).length - (minusL xs ys).length := hn
  rw [← hn]
  obtain ⟨A, hA⟩ : ∃ A, A = setL xs := ⟨_, rfl⟩
  obtain ⟨M, hM⟩ : ∃ M, M = minusL xs ys := ⟨_, rfl⟩
  rw [← hA] at SA hl hcm hm
  rw [← hM] at SM hcm hm
  have e1 : IntKind.i64.wrap ((A.length : Int) - (M.length : Int)) = (n : Int) := by simp [IntKind.wrap, IntKind.bits, IntKind.signed]; omega
  have e2 : ((A.length : Int) - (M.length : Int)) = (n : Int) := by omega
  have hb1 : A.length ≤ 1000000 := by omega
  have hb2 : M.length ≤ 1000000 := by omega
  clear hA hM hn ha hb h1 h2 hl hm hcm
  go_enter Try.func28, Try.ntmps28
  go_wp2_with fail
  refine SA.mono ?_
  rintro e w1 ⟨v1, rfl, ho1, hb1⟩
  obtain ⟨p1, c1, rfl, -⟩ := ho1.fps.2
  have S2 := SM w1 hb1
  clear SA SM ho1
  go_wp2_with fail
  refine S2.mono ?_
  rintro e w2 ⟨v2, rfl, ho2, hb2⟩
  obtain ⟨p2, c2, rfl, -⟩ := ho2.fps.2
  clear S2 ho2
  go_wp2
  go_ret
  exact ⟨by first | rfl | (rw [← e2]; rfl), Below.then' hb1 hb2 hb1.size⟩

end Go.Proofs.Ythgjooacapodnaa
