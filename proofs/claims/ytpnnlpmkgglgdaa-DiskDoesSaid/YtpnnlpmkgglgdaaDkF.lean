/- The walk of DiskDoes, out of the contracts. -/
import Derived.Test.YtpnnlpmkgglgdaaDkO
import Derived.Test.YtpnnlpmkgglgdaaDkE
import Derived.Test.YtpnnlpmkgglgdaaArr
namespace Go.Proofs.Ytpnnlpmkgglgdaa
open Go.RowKit Go.ChangeShapes

theorem cut_ops (s : Dk) : s.cut.ops = s.ops + 1 := rfl
theorem doS_ops (s : Dk) (kd i : Int) (t : ByteArray) (f : Bool) (l : List Bool) : (doS s kd i t f l).ops ≤ s.ops + 1 := by
  unfold doS
  split
  · omega
  split
  · unfold Dk.flushS
    split
    · omega
    · split
      · rw [cut_ops]; omega
      · show s.cut.ops ≤ _; rw [cut_ops]; omega
  split
  · show s.ops ≤ _; omega
  split
  · show s.ops ≤ _; omega
  split
  · unfold Dk.spoilS
    split
    · omega
    · show s.ops ≤ _; omega
  · unfold Dk.writeS
    split
    · omega
    · rw [cut_ops]; show s.ops + 1 ≤ _; omega

/-- Truths below stand. -/
theorem BoolAt.below {l : List Bool} {v : Value} {w w' : World} (h : BoolAt l v w) (hb : ∀ k, k < w.heap.size → w'.heap[k]? = w.heap[k]?) : BoolAt l v w' := by
  obtain ⟨p, c, rfl, h⟩ := h
  refine ⟨p, c, rfl, ?_⟩
  rcases h with h0 | ⟨b, off, hp, hc⟩
  · exact Or.inl h0
  · refine Or.inr ⟨b, off, hp, fun i hi => ?_⟩
    have h1 := hc i hi
    rw [← h1]
    exact World.cell?_of_block (hb b (World.block_lt_of_cell? _ _ h1))

theorem infoAct : (Try.prog.info? 32).map (·.size) = some 5 := by kernel_rfl

/-- The cells of an act in its row. -/
theorem act_cell {w : World} {b o : Nat} {cs : Array Value} {t : TypeId} {fr : Nat × Nat} {C : Array Value} (hg : w.heap[b]? = some (.cells cs t fr)) (hs : o + 5 ≤ cs.size) (he : cs.extract o (o + 5) = C) (j : Nat) (hj : j < 5) : w.cell? ⟨b, o + j, none⟩ = C[j]? := by
  rw [cell_of_row _ _ _ _ _ _ hg, ← he, Array.getElem?_extract, if_pos (by omega)]

set_option maxRecDepth 100000 in
set_option maxHeartbeats 8000000 in
theorem diskDoes_of (ND : NewDisk) (w : World) (n : Int) (_hnw : (Lit.int .i64 n).wf = true) (v : Value) (acs : List ActR) (hv : ActsAt acs v w) (_hl : acs.length ≤ maxLen) :
    Calls Try.prog 3 #[.int .i64 n, v] w (LawPost w) := by
  have AW := fun W => dawake_of ND W
  have NN := ND n w
  obtain ⟨p, c, rfl, -⟩ := hv.2
  have HV := Lib.hid hv
  obtain ⟨N, hN⟩ : ∃ N, N = acs.length := ⟨_, rfl⟩
  rw [← hN]
  have HN := Lib.hid hN
  have hNb : N ≤ 9223372036854775807 := by rw [hN]; simp only [maxLen] at _hl; omega
  clear ND hv hN
  go_enter Try.func3, Try.ntmps3
  go_wp2_with fail
  refine NN.mono ?_
  rintro e w1 ⟨hb1, ⟨hn, rfl⟩ | ⟨hy, ad, P, Bs0, rfl, D, hd0⟩⟩
  · have K1 : Hid (Kept w w1) := hb1
    by_cases h1 : n < 1
    · clear hb1 hn NN
      go_wp2_with fail
      refine (AW w1).mono ?_
      rintro e w3 ⟨rfl, hb⟩
      have K3 : Hid (Kept w w3) := K1.out.then hb
      clear hb K1
      go_wp2
      go_ret
      exact ⟨rfl, K3.out⟩
    · have h2 : n > 8192 := by omega
      clear hb1 hn NN
      go_wp2_with fail
      refine (AW w1).mono ?_
      rintro e w3 ⟨rfl, hb⟩
      have K3 : Hid (Kept w w3) := K1.out.then hb
      clear hb K1
      go_wp2
      go_ret
      exact ⟨rfl, K3.out⟩
  · have h1 : ¬ n < 1 := by omega
    have h2 : ¬ n > 8192 := by omega
    by_cases h40 : n > 40
    · have K1 : Hid (Kept w w1) := hb1
      clear hb1 hy NN D hd0
      go_wp2_with fail
      refine (AW w1).mono ?_
      rintro e w3 ⟨rfl, hb⟩
      have K3 : Hid (Kept w w3) := K1.out.then hb
      clear hb K1
      go_wp2
      go_ret
      exact ⟨rfl, K3.out⟩
    · obtain ⟨m, rfl⟩ : ∃ m : Nat, n = m := ⟨n.toNat, by omega⟩
      rw [Int.toNat_natCast] at hd0
      have RN := rnew_any m (by omega) w1
      have HOK0 : Hid (Dk.new m).ok := Lib.hid (Dk.ok.new (by omega) (by omega))
      have HD := Lib.hid D
      have HD0 := Lib.hid hd0
      have K1 : Hid (Kept w w1) := hb1
      clear D hd0 hb1 NN hy
      go_wp2_with fail
      refine RN.mono ?_
      rintro e w2 ⟨vs0, rfl, hr2, hb2⟩
      have K2 : Hid (Kept w w2) := K1.out.then hb2
      have hlt0 := HD.out.above _ _ _ HD0.out
      have PR0 : Hid (Pair w.heap.size w1.heap.size w1.heap.size P (Dk.new m) Bs0 vs0 (.slice none 0 0) w2) := Lib.hid
        ⟨HD.out.kept HD0.out hb2, hr2, fun k hk hk2 => by
          have h1 := (hlt0 k hk).2
          rcases hk2 with e | e | e
          · omega
          · have := (hr2.st.lt k e).1; omega
          · simp [Value.ownBlock] at e, hb2.size, fun k hk => ⟨(hlt0 k hk).1, Nat.lt_of_lt_of_le (hlt0 k hk).2 hb2.size⟩, HOK0.out⟩
      have HBr : Hid (w.heap.size ≤ w1.heap.size) := K1.out.size
      have HOP0 : Hid ((Dk.new m).ops ≤ 0) := Lib.hid (Nat.le_refl _)
      obtain ⟨s0', hs0'⟩ : ∃ s, s = Dk.new m := ⟨_, rfl⟩
      rw [← hs0'] at PR0 HOP0
      obtain ⟨g, hg⟩ : ∃ g, g = w1.heap.size := ⟨_, rfl⟩
      rw [← hg] at PR0 HBr ⊢
      clear hr2 hb2 RN hlt0 hs0' hg
      go_wp2
      go_loopg [8] N (fun gh s8 wx => ∃ (i : Nat) (s : Dk) (Bs : Nat → Prop) (vs vw : Value), i + gh = N ∧ i ≤ 60 ∧ s8 = .int .i64 i ∧ Hid (s.ops ≤ i) ∧ Hid (Pair w.heap.size g g P s Bs vs vw wx) ∧ Hid (Kept w wx))
      case atStart => exact ⟨0, s0', Bs0, vs0, _, by omega, by omega, rfl, HOP0, PR0, K2⟩
      case round =>
        clear PR0 K2 HOP0 HD0 HOK0 K1
        obtain ⟨i, s, Bs, vs, vw, hig, hi60, rfl, HOP, HPR, HK⟩ := hrel
        obtain ⟨i1, hi1⟩ : ∃ i1, i1 = i + 1 := ⟨_, rfl⟩
        have v1 : IntKind.i64.wrap ((i : Int) + 1) = (i1 : Int) := by rw [show (i : Int) + 1 = (i1 : Int) by omega]; exact IntWalk.i64_in _ (by omega)
        by_cases hin : i < N
        · by_cases hi6 : i < 60
          · have hii : (i : Int) < N := by omega
            have hi6i : (i : Int) < 60 := by omega
            have hil : i < acs.length := by rw [← HN.out]; exact hin
            have hva := HV.out.later HK.out
            obtain ⟨hgood, p', c', hpe, hc'⟩ := hva
            simp only [Value.slice.injEq] at hpe
            obtain ⟨rfl, -, -⟩ := hpe
            rcases hc' with h0 | ⟨b, off, rfl, hcell⟩
            · rw [h0] at hil; simp at hil
            obtain ⟨cs, tt, fr, hgr, hsz, hext⟩ := hcell i hil
            have ha := hgood _ (List.getElem_mem hil)
            have ha0 := (HV.out.1 _ (List.getElem_mem hil)).kv
            have c2 := act_cell hgr hsz hext 2 (by decide)
            have c4 := act_cell hgr hsz hext 4 (by decide)
            obtain ⟨a, hae⟩ : ∃ a, a = acs[i] := ⟨_, rfl⟩
            rw [← hae] at ha ha0 c2 c4 hext
            have c2' : wr.cell? ⟨b, off + i * 5 + 2, none⟩ = some (.string a.t) := c2
            have c4' : wr.cell? ⟨b, off + i * 5 + 4, none⟩ = some a.kv := c4
            obtain ⟨pk, ck, hkve, -⟩ := ha.kv
            rw [hkve] at c4'
            obtain ⟨t, ht⟩ : ∃ t, t = a.t := ⟨_, rfl⟩
            rw [← ht] at c2'
            obtain ⟨q, hq⟩ : ∃ q, q = a.l.length := ⟨_, rfl⟩
            rw [← hq] at c4'
            by_cases ht4 : t.size > 400
            · have hti : (t.size : Int) > 400 := by omega
              clear c2 c4 ha ha0 hcell hgr hsz hext hgood hae hq ht hkve hil
              go_wp2_with fail
              refine (AW wr).mono ?_
              rintro e w3 ⟨rfl, hb⟩
              have K3 : Hid (Kept w w3) := HK.out.then hb
              clear hb HK
              go_wp2
              go_ret
              exact ⟨rfl, K3.out⟩
            · have hti : ¬ (t.size : Int) > 400 := by omega
              by_cases hq1 : q > 100
              · have hqi : (q : Int) > 100 := by omega
                clear c2 c4 ha ha0 hcell hgr hsz hext hgood hae hq ht hkve hil
                go_wp2_with fail
                refine (AW wr).mono ?_
                rintro e w3 ⟨rfl, hb⟩
                have K3 : Hid (Kept w w3) := HK.out.then hb
                clear hb HK
                go_wp2
                go_ret
                exact ⟨rfl, K3.out⟩
              · have hqi : ¬ (q : Int) > 100 := by omega
                have DO := does_of HD.out HPR.out (Nat.le_trans HOP.out (by omega)) a.i ha.i a.t ha.t a.f a.l a.kv ha.kv a.kd (fun w' hsz' hkp => ha0.below (fun k hk => by
                  rw [hkp k hk (Nat.lt_of_lt_of_le hk HK.out.size)]; exact HK.out.block k hk))
                have HOP1 : Hid ((doS s a.kd a.i a.t a.f a.l).ops ≤ i1) := Lib.hid (by have h1 := doS_ops s a.kd a.i a.t a.f a.l; have h2 := HOP.out; omega)
                obtain ⟨s1, hs1⟩ : ∃ s1, s1 = doS s a.kd a.i a.t a.f a.l := ⟨_, rfl⟩
                rw [← hs1] at DO HOP1
                obtain ⟨X, hX⟩ : ∃ X, X = actA a.kd a.i a.t a.f a.kv := ⟨_, rfl⟩
                rw [← hX] at DO
                have hext2 : cs.extract (off + i * 5) (off + i * 5 + 5) = X := by rw [hX]; exact hext
                clear c2 c4 ha ha0 hcell hext hgood hae hq ht hkve hil hX hs1
                go_wp2_with (with_reducible refine wpList_load_sub rfl _ _ rfl b (off + i * 5) 5 rfl tt cs fr _ hgr Try.underlying32 rfl infoAct hsz X hext2 ?_)
                refine DO.mono ?_
                rintro e w3 ⟨rfl, ⟨Bs', vs', vw', hp', -⟩, hbut⟩
                have K3 : Hid (Kept w w3) := Lib.hid (hbut.kept (fun k hk => by
                  rcases hk with y | y
                  · exact (HPR.out.lt k y).1
                  · exact Nat.le_trans HBr.out (HPR.out.r.lt k y).1) HK.out HK.out.size)
                have HPR3 := Lib.hid hp'
                have SM := dsame_of HD.out hp'.d hp'.r hp'.ok
                clear hp' hbut DO HPR HK hgr hsz hext2
                go_wp2_with fail
                refine SM.mono ?_
                rintro e w4 ⟨rfl, hb4⟩
                have HPR4 := Lib.hid (HPR3.out.kept HD.out hb4)
                have K4 : Hid (Kept w w4) := K3.out.then hb4
                clear hb4 SM HPR3 K3
                go_wp2
                go_roundg (N - i1)
                case measure => omega
                case rel => exact ⟨i1, s1, Bs', vs', vw', by omega, by omega, by first | rfl | (congr 1; omega), HOP1, HPR4, K4⟩
          · have hii : (i : Int) < N := by omega
            have hi6i : ¬ (i : Int) < 60 := by omega
            go_wp2_with fail
            refine (AW wr).mono ?_
            rintro e w3 ⟨rfl, hb⟩
            have K3 : Hid (Kept w w3) := HK.out.then hb
            clear hb HK
            go_wp2
            go_ret
            exact ⟨rfl, K3.out⟩
        · have hii : ¬ (i : Int) < N := by omega
          go_wp2_with fail
          refine (AW wr).mono ?_
          rintro e w3 ⟨rfl, hb⟩
          have K3 : Hid (Kept w w3) := HK.out.then hb
          clear hb HK
          go_wp2
          go_ret
          exact ⟨rfl, K3.out⟩

end Go.Proofs.Ytpnnlpmkgglgdaa
