/- The walk of DiskKeeps, out of the contracts. -/
import Derived.Test.YtpnnlpmkgglgdaaDkK
import Derived.Deep.CutBlock
namespace Go.Proofs.Ytpnnlpmkgglgdaa
open Go.RowKit Go.ChangeShapes

set_option maxRecDepth 100000 in
set_option maxHeartbeats 16000000 in
theorem diskKeeps_of (ND : NewDisk) (w : World) (u1 : Value) (as1 : List ActR) (hv1 : ActsAt as1 u1 w) (hl1 : as1.length ≤ maxLen) (u2 : Value) (as2 : List ActR) (hv2 : ActsAt as2 u2 w) (hl2 : as2.length ≤ maxLen) (u3 : Value) (l : List Bool) (hv3 : BoolAt l u3 w) (_hl3 : l.length ≤ maxLen) :
    Calls Try.prog 5 #[u1, u2, u3] w (LawPost w) := by
  have AW := fun W => dawake_of ND W
  have NN := ND 8 w
  obtain ⟨p1, c1, rfl, -⟩ := hv1.2
  obtain ⟨p2, c2, rfl, -⟩ := hv2.2
  obtain ⟨p3, c3, rfl, -⟩ := id hv3
  have HV1 := Lib.hid hv1
  have HV2 := Lib.hid hv2
  have HV3 := Lib.hid hv3
  obtain ⟨N1, hN1⟩ : ∃ N, N = as1.length := ⟨_, rfl⟩
  obtain ⟨N2, hN2⟩ : ∃ N, N = as2.length := ⟨_, rfl⟩
  obtain ⟨q, hq⟩ : ∃ q, q = l.length := ⟨_, rfl⟩
  rw [← hN1, ← hN2, ← hq]
  have HN1 := Lib.hid hN1
  have HN2 := Lib.hid hN2
  have HQ := Lib.hid hq
  have hNb1 : N1 ≤ 9223372036854775807 := by rw [hN1]; simp only [maxLen] at hl1; omega
  have hNb2 : N2 ≤ 9223372036854775807 := by rw [hN2]; simp only [maxLen] at hl2; omega
  clear ND hv1 hv2 hv3 hN1 hN2 hl1 hl2 hq
  go_enter Try.func5, Try.ntmps5
  go_wp2_with fail
  refine NN.mono ?_
  rintro e w1 ⟨hb1, ⟨hn, _⟩ | ⟨-, ad, P, Bs0, rfl, D, hd0⟩⟩
  · exact absurd ⟨by decide, by decide⟩ hn
  rw [show Dk.new (8 : Int).toNat = Dk.new 8 from rfl] at hd0
  have HD := Lib.hid D
  have I1 : Hid (DIn w.heap.size P (wrS (Dk.new 8) as1 0) w w1) := Lib.hid ⟨⟨Bs0, hd0⟩, hb1, hb1.size⟩
  have HOKa : Hid (Dk.new 8).ok := Lib.hid (Dk.ok.new (by decide) (by decide))
  clear D hd0 hb1 NN
  have HCa := Lib.hid (new_calm 8)
  go_upto_block 0 with fail
  go_cut [9] from 27 to 49 (fun s9 wx => ∃ i : Nat, i ≤ 30 ∧ s9 = .int .i64 i ∧ Hid (DIn w.heap.size P (wrS (Dk.new 8) as1 i) w wx))
  case first =>
    go_wp2_with fail
    go_loopg [9] N1 (fun gh sl wx => ∃ i : Nat, i + gh = N1 ∧ i ≤ 30 ∧ sl = .int .i64 i ∧ Hid (DIn w.heap.size P (wrS (Dk.new 8) as1 i) w wx))
    case atStart => exact ⟨0, by omega, by omega, rfl, I1⟩
    case round =>
      clear I1
      obtain ⟨i, hig, hi30, rfl, HI⟩ := hrel
      obtain ⟨i1, hi1⟩ : ∃ i1, i1 = i + 1 := ⟨_, rfl⟩
      have v1 : IntKind.i64.wrap ((i : Int) + 1) = (i1 : Int) := by rw [show (i : Int) + 1 = (i1 : Int) by omega]; exact IntWalk.i64_in _ (by omega)
      have HC := Lib.hid (wrS_calm (Dk.new 8) HOKa.out (new_calm 8) as1 i)
      by_cases hin : i < N1 ∧ i < 30
      · have hii : (i : Int) < N1 := by omega
        have hi6i : (i : Int) < 30 := by omega
        have hil : i < as1.length := by rw [← HN1.out]; exact hin.1
        obtain ⟨hgood, p', c', hpe, hc'⟩ := HV1.out
        simp only [Value.slice.injEq] at hpe
        obtain ⟨rfl, -, -⟩ := hpe
        rcases hc' with h0 | ⟨b, off, rfl, hcell⟩
        · rw [h0] at hil; simp at hil
        obtain ⟨cs, tt, fr, hgr, hsz, hext⟩ := hcell i hil
        have ha := hgood _ (List.getElem_mem hil)
        have c1 := act_cell hgr hsz hext 1 (by decide)
        have c2 := act_cell hgr hsz hext 2 (by decide)
        have HNX : Hid (wrS (Dk.new 8) as1 i1 = (wrS (Dk.new 8) as1 i).writeS as1[i].i (secT as1[i].t.data.toList)) := Lib.hid (by rw [hi1]; exact wrS_next (Dk.new 8) as1 i hil)
        have hiw := ha.i
        obtain ⟨I, hI⟩ : ∃ I, I = as1[i].i := ⟨_, rfl⟩
        obtain ⟨t, ht⟩ : ∃ t, t = as1[i].t := ⟨_, rfl⟩
        have c1' : w.cell? ⟨b, off + i * 5 + 1, none⟩ = some (.int .i64 I) := by rw [hI]; exact c1
        have c2' : w.cell? ⟨b, off + i * 5 + 2, none⟩ = some (.string t) := by rw [ht]; exact c2
        rw [← hI] at hiw HNX
        rw [← ht] at HNX
        have HIW := Lib.hid hiw
        have HSS : Hid (∀ w', Below w.heap.size w w' → w'.cell? ⟨b, off + i * 5 + 1, none⟩ = some (.int .i64 I) ∧ w'.cell? ⟨b, off + i * 5 + 2, none⟩ = some (.string t)) := Lib.hid (fun w' hb => ⟨(Kept.cell hb c1'), (Kept.cell hb c2')⟩)
        have HOKi := Lib.hid HC.out.1
        have HLOi : Hid ((wrS (Dk.new 8) as1 i).ops ≤ 4294967295) := Lib.hid (by have h1 := HC.out.2.2.2.2.1; have h2 : (Dk.new 8).ops ≤ 0 := Nat.le_refl _; omega)
        obtain ⟨s1, hs1⟩ : ∃ s1, s1 = wrS (Dk.new 8) as1 i1 := ⟨_, rfl⟩
        rw [← hs1] at HNX
        have HS1 := Lib.hid hs1
        clear hs1 c1 c2 c1' c2' hI ht ha hgood hcell hgr hsz hext hil hiw hin HC
        go_wp2_with fail
        refine wp_region_held_drew (S := fun w' => w'.cell? ⟨b, off + i * 5 + 1, none⟩ = some (.int .i64 I) ∧ w'.cell? ⟨b, off + i * 5 + 2, none⟩ = some (.string t)) (by kernel_rfl) (HSS.out wr.drew (Below.drew HI.out.2.1)) (fun hHeld => ?_)
        refine wpAnyH_take (i := 0) (v := ?_) rfl (by kernel_rfl) (by kernel_rfl) (by kernel_rfl) (fun _ _ _ h => h) (Or.inl ⟨by first | kernel_rfl | rfl, ?_⟩) (by assumption) ?_
        case refine_2 => intro w hSw; go_simp; try with_reducible rfl
        refine wpAnyH_take (i := 1) (v := ?_) rfl (by kernel_rfl) (by kernel_rfl) (by kernel_rfl) (fun _ _ _ h => h) (Or.inl ⟨by first | kernel_rfl | rfl, ?_⟩) (by assumption) ?_
        case refine_2 => intro w hSw; go_simp; try with_reducible rfl
        refine wpAnyH_take (i := 2) (v := ?_) rfl (by kernel_rfl) (by kernel_rfl) (by kernel_rfl) (fun _ _ _ h => h) (Or.inl ⟨by first | kernel_rfl | rfl, ?_⟩) (by assumption) ?_
        case refine_2 => intro w hSw; go_simp; try with_reducible rfl
        refine wpAnyH_take (i := 3) (v := ?_) rfl (by kernel_rfl) (by kernel_rfl) (by kernel_rfl) (fun _ _ _ h => h) (Or.inl ⟨by first | kernel_rfl | rfl, ?_⟩) (by assumption) ?_
        case refine_2 => intro w hSw; go_simp; try with_reducible rfl
        refine wpAnyH_take (i := 4) (v := ?_) rfl (by kernel_rfl) (by kernel_rfl) (by kernel_rfl) (fun _ _ _ h => h) (Or.inl ⟨by first | kernel_rfl | rfl, ?_⟩) (by assumption) ?_
        case refine_2 => intro w hSw; go_simp; try with_reducible rfl
        refine wpAnyH_take (i := 5) (v := ?_) rfl (by kernel_rfl) (by kernel_rfl) (by kernel_rfl) (fun _ _ _ h => h) (Or.inl ⟨by first | kernel_rfl | rfl, ?_⟩) (by assumption) ?_
        case refine_2 => intro w hSw; have hc1 := hSw.1; have hc2 := hSw.2; clear hSw; go_simp; try with_reducible rfl
        refine wpAnyH_take (i := 6) (v := ?_) rfl (by kernel_rfl) (by kernel_rfl) (by kernel_rfl) (fun _ _ _ h => h) (Or.inl ⟨by first | kernel_rfl | rfl, ?_⟩) (by assumption) ?_
        case refine_2 => intro w hSw; go_simp; try with_reducible rfl
        refine wpAnyH_take (i := 7) (v := ?_) rfl (by kernel_rfl) (by kernel_rfl) (by kernel_rfl) (fun _ _ _ h => h) (Or.inl ⟨by first | kernel_rfl | rfl, ?_⟩) (by assumption) ?_
        case refine_2 => intro w hSw; go_simp; try with_reducible rfl
        refine wpAnyH_take (i := 8) (v := ?_) rfl (by kernel_rfl) (by kernel_rfl) (by kernel_rfl) (fun _ _ _ h => h) (Or.inl ⟨by first | kernel_rfl | rfl, ?_⟩) (by assumption) ?_
        case refine_2 => intro w hSw; go_simp; try with_reducible rfl
        refine wpAnyH_take (i := 9) (v := ?_) rfl (by kernel_rfl) (by kernel_rfl) (by kernel_rfl) (fun _ _ _ h => h) (Or.inl ⟨by first | kernel_rfl | rfl, ?_⟩) (by assumption) ?_
        case refine_2 => intro w hSw; go_simp; try with_reducible rfl
        refine wpAnyH_take (i := 10) (v := ?_) rfl (by kernel_rfl) (by kernel_rfl) (by kernel_rfl) (fun _ _ _ h => h) (Or.inl ⟨by first | kernel_rfl | rfl, ?_⟩) (by assumption) ?_
        case refine_2 => intro w hSw; have hc1 := hSw.1; have hc2 := hSw.2; clear hSw; go_simp; try with_reducible rfl
        refine wpAnyH_ready (rs := [11]) (by kernel_rfl) (by simp) (AllReadyH.cons rfl (fun K hK => ?_) AllReadyH.nil)
        go_simp
        refine (sector_any t wr.drew).mono ?_
        rintro e w3 ⟨rfl, hb3⟩
        have I3 := DIn.kept HD.out (DIn.kept HD.out HI.out (Below.drew (Below.refl _ _))) hb3
        have C3 := din_write HD.out I3 I (str (secT t.data.toList)) HOKi.out HLOi.out HIW.out (by rw [str_size, secT_len]; decide)
        rw [show (str (secT t.data.toList)).data.toList = secT t.data.toList from rfl, ← HNX.out] at C3
        have S3 := HSS.out w3 I3.2.1
        clear hb3 I3
        refine hK.out _ _ S3 (fun _ => ?_)
        clear hK K
        refine wpAnyH_ready (rs := [12]) (by kernel_rfl) (by simp) (AllReadyH.cons rfl (fun K hK => ?_) AllReadyH.nil)
        go_simp
        refine C3.mono ?_
        rintro e w4 ⟨rfl, hi4⟩
        have I4 := Lib.hid hi4
        have S4 := HSS.out w4 hi4.2.1
        clear hi4 C3
        refine hK.out _ _ S4 (fun _ => ?_)
        clear hK K
        refine wpAnyH_done (by kernel_rfl) ?_ _
        go_wp2
        go_roundg (N1 - i1)
        case measure => omega
        case rel => exact ⟨i1, by omega, by omega, by first | rfl | (congr 1; omega), Lib.hid (by rw [← HS1.out]; exact I4.out)⟩
      · clear HC
        have hsplit : (i : Int) < N1 ∧ ¬ (i : Int) < 30 ∨ ¬ (i : Int) < N1 := by omega
        rcases hsplit with ⟨hx, hy⟩ | hx
        all_goals
          go_wp2
          go_meet
          exact ⟨i, by omega, rfl, HI⟩
  case rest =>
    obtain ⟨i, hi30, rfl, HI⟩ := hcut
    clear I1
    have HCA := Lib.hid (wrS_calm (Dk.new 8) HOKa.out (new_calm 8) as1 i)
    have HFL := Lib.hid (flush_calm (wrS (Dk.new 8) as1 i) HCA.out.2.1)
    have C5 := din_flush HD.out HI.out HCA.out.1 (by have h1 := HCA.out.2.2.2.2.1; have h2 : (Dk.new 8).ops = 0 := rfl; omega)
    rw [HFL.out.1] at C5
    have HOKb := Lib.hid HCA.out.1.flush
    have HOPb : Hid ((wrS (Dk.new 8) as1 i).flushS.ops ≤ 31) := Lib.hid (by rw [HFL.out.2.2.2.2]; have h1 := HCA.out.2.2.2.2.1; have h2 : (Dk.new 8).ops = 0 := rfl; omega)
    have HSTb : Hid ((wrS (Dk.new 8) as1 i).flushS.stands.length = 8) := Lib.hid (by rw [HFL.out.2.2.2.1, HCA.out.2.2.1]; rfl)
    have HCb : Hid ((wrS (Dk.new 8) as1 i).flushS.calm ∧ (wrS (Dk.new 8) as1 i).flushS.waits = []) := Lib.hid ⟨HFL.out.2.1, HFL.out.2.2.1⟩
    obtain ⟨sB, hsB⟩ : ∃ s, s = (wrS (Dk.new 8) as1 i).flushS := ⟨_, rfl⟩
    rw [← hsB] at C5 HOKb HOPb HSTb HCb
    clear hsB HFL HCA
    go_wp2_with fail
    refine C5.mono ?_
    rintro e w5 ⟨rfl, hi5⟩
    have I5 := Lib.hid hi5
    clear hi5 C5 HI
    have C6 := din_image HD.out I5.out HOKb.out
    obtain ⟨im, him⟩ : ∃ im, im = str sB.image := ⟨_, rfl⟩
    rw [← him] at C6
    have HIM := Lib.hid him
    clear him
    go_wp2_with fail
    refine C6.mono ?_
    rintro e w6 ⟨rfl, hi6⟩
    have I6 : Hid (DIn w.heap.size P (wrS sB as2 0) w w6) := Lib.hid hi6
    clear hi6 C6 I5
    go_upto_block 2 with fail
    go_cut [11] from 55 to 77 (fun s11 wx => ∃ i : Nat, i ≤ 30 ∧ i ≤ N2 ∧ s11 = .int .i64 i ∧ Hid (DIn w.heap.size P (wrS sB as2 i) w wx))
    case first =>
      go_wp2_with fail
      go_loopg [11] N2 (fun gh sl wx => ∃ i : Nat, i + gh = N2 ∧ i ≤ 30 ∧ sl = .int .i64 i ∧ Hid (DIn w.heap.size P (wrS sB as2 i) w wx))
      case atStart => exact ⟨0, by omega, by omega, rfl, I6⟩
      case round =>
        clear I6
        obtain ⟨i, hig, hi30, rfl, HI⟩ := hrel
        obtain ⟨i1, hi1⟩ : ∃ i1, i1 = i + 1 := ⟨_, rfl⟩
        have v1 : IntKind.i64.wrap ((i : Int) + 1) = (i1 : Int) := by rw [show (i : Int) + 1 = (i1 : Int) by omega]; exact IntWalk.i64_in _ (by omega)
        have HC := Lib.hid (wrS_calm sB HOKb.out HCb.out.1 as2 i)
        by_cases hin : i < N2 ∧ i < 30
        · have hii : (i : Int) < N2 := by omega
          have hi6i : (i : Int) < 30 := by omega
          have hil : i < as2.length := by rw [← HN2.out]; exact hin.1
          obtain ⟨hgood, p', c', hpe, hc'⟩ := HV2.out
          simp only [Value.slice.injEq] at hpe
          obtain ⟨rfl, -, -⟩ := hpe
          rcases hc' with h0 | ⟨b, off, rfl, hcell⟩
          · rw [h0] at hil; simp at hil
          obtain ⟨cs, tt, fr, hgr, hsz, hext⟩ := hcell i hil
          have ha := hgood _ (List.getElem_mem hil)
          have c1 := act_cell hgr hsz hext 1 (by decide)
          have c2 := act_cell hgr hsz hext 2 (by decide)
          have HNX : Hid (wrS sB as2 i1 = (wrS sB as2 i).writeS as2[i].i (secT as2[i].t.data.toList)) := Lib.hid (by rw [hi1]; exact wrS_next sB as2 i hil)
          have hiw := ha.i
          obtain ⟨I, hI⟩ : ∃ I, I = as2[i].i := ⟨_, rfl⟩
          obtain ⟨t, ht⟩ : ∃ t, t = as2[i].t := ⟨_, rfl⟩
          have c1' : w.cell? ⟨b, off + i * 5 + 1, none⟩ = some (.int .i64 I) := by rw [hI]; exact c1
          have c2' : w.cell? ⟨b, off + i * 5 + 2, none⟩ = some (.string t) := by rw [ht]; exact c2
          rw [← hI] at hiw HNX
          rw [← ht] at HNX
          have HIW := Lib.hid hiw
          have HSS : Hid (∀ w', Below w.heap.size w w' → w'.cell? ⟨b, off + i * 5 + 1, none⟩ = some (.int .i64 I) ∧ w'.cell? ⟨b, off + i * 5 + 2, none⟩ = some (.string t)) := Lib.hid (fun w' hb => ⟨(Kept.cell hb c1'), (Kept.cell hb c2')⟩)
          have HOKi := Lib.hid HC.out.1
          have HLOi : Hid ((wrS sB as2 i).ops ≤ 4294967295) := Lib.hid (by have h1 := HC.out.2.2.2.2.1; have h2 : sB.ops ≤ 31 := HOPb.out; omega)
          obtain ⟨s1, hs1⟩ : ∃ s1, s1 = wrS sB as2 i1 := ⟨_, rfl⟩
          rw [← hs1] at HNX
          have HS1 := Lib.hid hs1
          clear hs1 c1 c2 c1' c2' hI ht ha hgood hcell hgr hsz hext hil hiw hin HC
          go_wp2_with fail
          refine wp_region_held_drew (S := fun w' => w'.cell? ⟨b, off + i * 5 + 1, none⟩ = some (.int .i64 I) ∧ w'.cell? ⟨b, off + i * 5 + 2, none⟩ = some (.string t)) (by kernel_rfl) (HSS.out wr.drew (Below.drew HI.out.2.1)) (fun hHeld => ?_)
          refine wpAnyH_take (i := 0) (v := ?_) rfl (by kernel_rfl) (by kernel_rfl) (by kernel_rfl) (fun _ _ _ h => h) (Or.inl ⟨by first | kernel_rfl | rfl, ?_⟩) (by assumption) ?_
          case refine_2 => intro w hSw; go_simp; try with_reducible rfl
          refine wpAnyH_take (i := 1) (v := ?_) rfl (by kernel_rfl) (by kernel_rfl) (by kernel_rfl) (fun _ _ _ h => h) (Or.inl ⟨by first | kernel_rfl | rfl, ?_⟩) (by assumption) ?_
          case refine_2 => intro w hSw; go_simp; try with_reducible rfl
          refine wpAnyH_take (i := 2) (v := ?_) rfl (by kernel_rfl) (by kernel_rfl) (by kernel_rfl) (fun _ _ _ h => h) (Or.inl ⟨by first | kernel_rfl | rfl, ?_⟩) (by assumption) ?_
          case refine_2 => intro w hSw; go_simp; try with_reducible rfl
          refine wpAnyH_take (i := 3) (v := ?_) rfl (by kernel_rfl) (by kernel_rfl) (by kernel_rfl) (fun _ _ _ h => h) (Or.inl ⟨by first | kernel_rfl | rfl, ?_⟩) (by assumption) ?_
          case refine_2 => intro w hSw; go_simp; try with_reducible rfl
          refine wpAnyH_take (i := 4) (v := ?_) rfl (by kernel_rfl) (by kernel_rfl) (by kernel_rfl) (fun _ _ _ h => h) (Or.inl ⟨by first | kernel_rfl | rfl, ?_⟩) (by assumption) ?_
          case refine_2 => intro w hSw; go_simp; try with_reducible rfl
          refine wpAnyH_take (i := 5) (v := ?_) rfl (by kernel_rfl) (by kernel_rfl) (by kernel_rfl) (fun _ _ _ h => h) (Or.inl ⟨by first | kernel_rfl | rfl, ?_⟩) (by assumption) ?_
          case refine_2 => intro w hSw; have hc1 := hSw.1; have hc2 := hSw.2; clear hSw; go_simp; try with_reducible rfl
          refine wpAnyH_take (i := 6) (v := ?_) rfl (by kernel_rfl) (by kernel_rfl) (by kernel_rfl) (fun _ _ _ h => h) (Or.inl ⟨by first | kernel_rfl | rfl, ?_⟩) (by assumption) ?_
          case refine_2 => intro w hSw; go_simp; try with_reducible rfl
          refine wpAnyH_take (i := 7) (v := ?_) rfl (by kernel_rfl) (by kernel_rfl) (by kernel_rfl) (fun _ _ _ h => h) (Or.inl ⟨by first | kernel_rfl | rfl, ?_⟩) (by assumption) ?_
          case refine_2 => intro w hSw; go_simp; try with_reducible rfl
          refine wpAnyH_take (i := 8) (v := ?_) rfl (by kernel_rfl) (by kernel_rfl) (by kernel_rfl) (fun _ _ _ h => h) (Or.inl ⟨by first | kernel_rfl | rfl, ?_⟩) (by assumption) ?_
          case refine_2 => intro w hSw; go_simp; try with_reducible rfl
          refine wpAnyH_take (i := 9) (v := ?_) rfl (by kernel_rfl) (by kernel_rfl) (by kernel_rfl) (fun _ _ _ h => h) (Or.inl ⟨by first | kernel_rfl | rfl, ?_⟩) (by assumption) ?_
          case refine_2 => intro w hSw; go_simp; try with_reducible rfl
          refine wpAnyH_take (i := 10) (v := ?_) rfl (by kernel_rfl) (by kernel_rfl) (by kernel_rfl) (fun _ _ _ h => h) (Or.inl ⟨by first | kernel_rfl | rfl, ?_⟩) (by assumption) ?_
          case refine_2 => intro w hSw; have hc1 := hSw.1; have hc2 := hSw.2; clear hSw; go_simp; try with_reducible rfl
          refine wpAnyH_ready (rs := [11]) (by kernel_rfl) (by simp) (AllReadyH.cons rfl (fun K hK => ?_) AllReadyH.nil)
          go_simp
          refine (sector_any t wr.drew).mono ?_
          rintro e w3 ⟨rfl, hb3⟩
          have I3 := DIn.kept HD.out (DIn.kept HD.out HI.out (Below.drew (Below.refl _ _))) hb3
          have C3 := din_write HD.out I3 I (str (secT t.data.toList)) HOKi.out HLOi.out HIW.out (by rw [str_size, secT_len]; decide)
          rw [show (str (secT t.data.toList)).data.toList = secT t.data.toList from rfl, ← HNX.out] at C3
          have S3 := HSS.out w3 I3.2.1
          clear hb3 I3
          refine hK.out _ _ S3 (fun _ => ?_)
          clear hK K
          refine wpAnyH_ready (rs := [12]) (by kernel_rfl) (by simp) (AllReadyH.cons rfl (fun K hK => ?_) AllReadyH.nil)
          go_simp
          refine C3.mono ?_
          rintro e w4 ⟨rfl, hi4⟩
          have I4 := Lib.hid hi4
          have S4 := HSS.out w4 hi4.2.1
          clear hi4 C3
          refine hK.out _ _ S4 (fun _ => ?_)
          clear hK K
          refine wpAnyH_done (by kernel_rfl) ?_ _
          go_wp2
          go_roundg (N2 - i1)
          case measure => omega
          case rel => exact ⟨i1, by omega, by omega, by first | rfl | (congr 1; omega), Lib.hid (by rw [← HS1.out]; exact I4.out)⟩
        · clear HC
          have hsplit : (i : Int) < N2 ∧ ¬ (i : Int) < 30 ∨ ¬ (i : Int) < N2 := by omega
          rcases hsplit with ⟨hx, hy⟩ | hx
          all_goals
            go_wp2
            go_meet
            exact ⟨i, by omega, by omega, rfl, HI⟩
    case rest =>
      obtain ⟨j, hj30, hjN, rfl, HJ⟩ := hcut
      clear I6
      have HCJ := Lib.hid (wrS_calm sB HOKb.out HCb.out.1 as2 j)
      have C8 := din_power HD.out HJ.out l (.slice p3 q c3) HCJ.out.1 (by have h1 := HCJ.out.2.2.2.2.1; have h2 := HOPb.out; omega) (fun w' _ hk' => by
        rw [HQ.out]; exact HV3.out.below (fun k hk => (hk' k hk (Nat.lt_of_lt_of_le hk HJ.out.2.2)).trans ((show Kept w wc from HJ.out.2.1).block k hk)))
      have KP := Lib.hid (fun k hk => keeps_at sB HOKb.out HCb.out.1 HCb.out.2 as2 j l k hk)
      have HOKp := Lib.hid (HCJ.out.1.power l)
      have HSTp : Hid (((wrS sB as2 j).powerS l).stands.length = 8) := Lib.hid (by
        show (standK (keepL l) (wrS sB as2 j).stands _ _).length = 8
        rw [standK_len, HCJ.out.2.2.1]; exact HSTb.out)
      obtain ⟨sP, hsP⟩ : ∃ s, s = (wrS sB as2 j).powerS l := ⟨_, rfl⟩
      rw [← hsP] at C8 HOKp HSTp KP
      clear hsP HCJ
      go_wp2_with fail
      refine C8.mono ?_
      rintro e w8 ⟨rfl, hi8⟩
      have I8 := Lib.hid hi8
      clear hi8 C8 HJ
      have C9 := din_image HD.out I8.out HOKp.out
      obtain ⟨nw, hnw⟩ : ∃ nw, nw = str sP.image := ⟨_, rfl⟩
      rw [← hnw] at C9
      have HNW := Lib.hid hnw
      clear hnw
      go_wp2_with fail
      refine C9.mono ?_
      rintro e w9 ⟨rfl, hi9⟩
      have I9 := Lib.hid hi9
      clear hi9 C9 I8
      have hz1 : im.size = 1024 := by rw [HIM.out, str_size, HOKb.out.image_len, HSTb.out]
      have hz2 : nw.size = 1024 := by rw [HNW.out, str_size, HOKp.out.image_len, HSTp.out]
      have HZ1 := Lib.hid hz1
      have HZ2 := Lib.hid hz2
      have bz : ((nw.size : Int) != (im.size : Int)) = false := by rw [hz1, hz2]; rfl
      clear hz1 hz2
      go_wp2_with fail
      go_loopg [13] 8 (fun gh s13 wx => ∃ k : Nat, k + gh = 8 ∧ s13 = .int .i64 k ∧ Hid (DIn w.heap.size P sP w wx))
      case atStart => exact ⟨0, by omega, rfl, I9⟩
      case round =>
        clear I9 bz
        obtain ⟨k, hkg, rfl, HK⟩ := hrel
        by_cases hk8 : k < 8
        · have hk8i : (k : Int) < 8 := by omega
          obtain ⟨k1, hk1⟩ : ∃ k1, k1 = k + 1 := ⟨_, rfl⟩
          have v1 : IntKind.i64.wrap ((k : Int) + 1) = (k1 : Int) := by rw [show (k : Int) + 1 = (k1 : Int) by omega]; exact IntWalk.i64_in _ (by omega)
          obtain ⟨a, ha⟩ : ∃ a, a = 128 * k := ⟨_, rfl⟩
          obtain ⟨b, hb⟩ : ∃ b, b = a + 128 := ⟨_, rfl⟩
          have v2 : IntKind.i64.wrap ((k : Int) * 128) = (a : Int) := by rw [show (k : Int) * 128 = (a : Int) by omega]; exact IntWalk.i64_in _ (by omega)
          have v3 : IntKind.i64.wrap ((a : Int) + 128) = (b : Int) := by rw [show (a : Int) + 128 = (b : Int) by omega]; exact IntWalk.i64_in _ (by omega)
          obtain ⟨x, hx, hor⟩ := KP.out k (by rw [HSTb.out]; exact hk8)
          obtain ⟨tk, htk⟩ : ∃ tk, tk = str x := ⟨_, rfl⟩
          obtain ⟨uk, huk⟩ : ∃ uk, uk = str (sB.stands[k]'(by rw [HSTb.out]; exact hk8)) := ⟨_, rfl⟩
          have e1 : nw.extract a b = tk := by
            have hl : k < sP.stands.length := by rw [HSTp.out]; exact hk8
            rw [htk, HNW.out, hb, str_extract _ _ _ (by rw [HOKp.out.image_len, HSTp.out]; omega), ha]
            show str ((sP.stands.flatten.drop (128 * k)).take 128) = _
            rw [flat_sect _ HOKp.out.sect k hl]
            rw [List.getElem?_eq_getElem hl] at hx
            rw [Option.some.inj hx]
          have e2 : im.extract a b = uk := by
            have hl : k < sB.stands.length := by rw [HSTb.out]; exact hk8
            rw [huk, HIM.out, hb, str_extract _ _ _ (by rw [HOKb.out.image_len, HSTb.out]; omega), ha]
            show str ((sB.stands.flatten.drop (128 * k)).take 128) = _
            rw [flat_sect _ HOKb.out.sect k hl]
          have i1 : (0 : Int) ≤ a := by omega
          have i2 : (a : Int) ≤ b := by omega
          have i3 : (b : Int) ≤ nw.size := by have := HZ2.out; omega
          have i3' : (b : Int) ≤ im.size := by have := HZ1.out; omega
          have i4 : ¬ (b : Int) < a := by omega
          obtain ⟨fb, hfb⟩ : ∃ fb, (tk.toList == uk.toList) = fb := ⟨_, rfl⟩
          have HF : Hid (fb = true ∨ 0 < q ∧ ∃ j', 0 ≤ j' ∧ j' < N2 ∧ j' < 30 ∧ (as2.getD j' default).i = (k : Int) ∧ str (secT (as2.getD j' default).t.data.toList) = tk) := Lib.hid (by
            rcases hor with e | ⟨h0, j', h1, h2, h3⟩
            · left; rw [← hfb, htk, huk, e]; simp
            · right; exact ⟨by rw [HQ.out]; exact h0, j', by omega, by omega, by omega, h2, by rw [htk, h3]⟩)
          obtain ⟨wo, hwo⟩ : ∃ wo : World, wo = wr := ⟨_, rfl⟩
          subst hwo
          have HA := Lib.hid ha
          have HB := Lib.hid hb
          clear ha hb hx hor htk huk KP
          go_wp2_with fail
          clear v2 v3 e1 e2 hfb i1 i2 i3 i3' i4
          go_loopg [15, 16] N2 (fun gh s15 s16 wy => ∃ (i : Nat) (f : Bool), i + gh = N2 ∧ i ≤ 30 ∧ s16 = .int .i64 i ∧ s15 = .bool f ∧
            Hid (f = true ∨ 0 < q ∧ ∃ j', i ≤ j' ∧ j' < N2 ∧ j' < 30 ∧ (as2.getD j' default).i = (k : Int) ∧ str (secT (as2.getD j' default).t.data.toList) = tk) ∧ Hid (DIn w.heap.size P sP w wy))
          case atStart => exact ⟨0, fb, by omega, by omega, rfl, rfl, HF, HK⟩
          case round =>
            clear HF HK
            obtain ⟨i, f, hig, hi30, rfl, rfl, HF, HK⟩ := hrel
            by_cases hin : (i < N2 ∧ i < 30) ∧ 0 < q
            · obtain ⟨⟨hiN, hi3⟩, hq0⟩ := hin
              have g1 : (i : Int) < N2 := by omega
              have g2 : (i : Int) < 30 := by omega
              have g3 : (q : Int) > 0 := by omega
              obtain ⟨n1, hn1⟩ : ∃ n1, n1 = i + 1 := ⟨_, rfl⟩
              have v4 : IntKind.i64.wrap ((i : Int) + 1) = (n1 : Int) := by rw [show (i : Int) + 1 = (n1 : Int) by omega]; exact IntWalk.i64_in _ (by omega)
              cases f with
              | true =>
                clear HF
                go_wp2
                go_roundg (N2 - n1)
                case measure => omega
                case rel => exact ⟨n1, true, by omega, by omega, by first | rfl | (congr 1; omega), rfl, Lib.hid (Or.inl rfl), HK⟩
              | false =>
                have HJ := Lib.hid (HF.out.resolve_left (by simp))
                have hil : i < as2.length := by rw [← HN2.out]; exact hiN
                obtain ⟨hgood, p', c', hpe, hc'⟩ := HV2.out
                simp only [Value.slice.injEq] at hpe
                obtain ⟨rfl, -, -⟩ := hpe
                rcases hc' with h0 | ⟨b, off, rfl, hcell⟩
                · rw [h0] at hil; simp at hil
                obtain ⟨cs, tt, fr, hgr, hsz, hext⟩ := hcell i hil
                have c1 := act_cell hgr hsz hext 1 (by decide)
                have c2 := act_cell hgr hsz hext 2 (by decide)
                have hgd : as2.getD i default = as2[i] := by rw [List.getD_eq_getElem?_getD, List.getElem?_eq_getElem hil]; rfl
                obtain ⟨I, hI⟩ : ∃ I, I = as2[i].i := ⟨_, rfl⟩
                obtain ⟨t, ht⟩ : ∃ t, t = as2[i].t := ⟨_, rfl⟩
                have c1' : wr.cell? ⟨b, off + i * 5 + 1, none⟩ = some (.int .i64 I) := Kept.cell HK.out.2.1 (by rw [hI]; exact c1)
                have c2' : wr.cell? ⟨b, off + i * 5 + 2, none⟩ = some (.string t) := Kept.cell HK.out.2.1 (by rw [ht]; exact c2)
                have hgI : (as2.getD i default).i = I := by rw [hgd, hI]
                have hgT : (as2.getD i default).t = t := by rw [hgd, ht]
                obtain ⟨z, hz⟩ : ∃ z, z = str (secT t.data.toList) := ⟨_, rfl⟩
                by_cases hIk : I = (k : Int)
                · have bI : (I == (k : Int)) = true := by simpa using hIk
                  obtain ⟨gb, hgb⟩ : ∃ gb, (tk.toList == z.toList) = gb := ⟨_, rfl⟩
                  have SC := sector_any t wr
                  rw [← hz] at SC
                  have HREL : Hid (gb = true ∨ 0 < q ∧ ∃ j', n1 ≤ j' ∧ j' < N2 ∧ j' < 30 ∧ (as2.getD j' default).i = (k : Int) ∧ str (secT (as2.getD j' default).t.data.toList) = tk) := Lib.hid (by
                    obtain ⟨h0, j', h1, h2, h3, h4, h5⟩ := HJ.out
                    by_cases hj : j' = i
                    · left
                      subst hj
                      rw [hgT, ← hz] at h5
                      rw [← hgb, h5]; simp
                    · right; exact ⟨h0, j', by omega, h2, h3, h4, h5⟩)
                  clear hz hgI hgT c1 c2 hgd hI ht hgood hcell hgr hsz hext hil hIk HF HJ
                  go_wp2_with fail
                  refine SC.mono ?_
                  rintro e w12 ⟨rfl, hb12⟩
                  have I12 := Lib.hid (DIn.kept HD.out HK.out hb12)
                  clear hb12 HK SC
                  go_wp2
                  go_roundg (N2 - n1)
                  case measure => omega
                  case rel => exact ⟨n1, gb, by omega, by omega, by first | rfl | (congr 1; omega), rfl, HREL, I12⟩
                · have bI : (I == (k : Int)) = false := by simpa using hIk
                  have HREL : Hid (false = true ∨ 0 < q ∧ ∃ j', n1 ≤ j' ∧ j' < N2 ∧ j' < 30 ∧ (as2.getD j' default).i = (k : Int) ∧ str (secT (as2.getD j' default).t.data.toList) = tk) := Lib.hid (by
                    obtain ⟨h0, j', h1, h2, h3, h4, h5⟩ := HJ.out
                    right
                    refine ⟨h0, j', ?_, h2, h3, h4, h5⟩
                    by_cases hj : j' = i
                    · subst hj; exact absurd (hgI.symm.trans h4) hIk
                    · omega)
                  clear hz hgI hgT c1 c2 hgd hI ht hgood hcell hgr hsz hext hil hIk HF HJ
                  go_wp2
                  go_roundg (N2 - n1)
                  case measure => omega
                  case rel => exact ⟨n1, false, by omega, by omega, by first | rfl | (congr 1; omega), rfl, HREL, HK⟩
            · have hft : f = true := by
                rcases HF.out with e | ⟨h0, j', h1, h2, h3, -⟩
                · exact e
                · exact absurd ⟨⟨by omega, by omega⟩, h0⟩ hin
              subst hft
              have hsplit : ((i : Int) < N2 ∧ (i : Int) < 30 ∧ ¬ (q : Int) > 0) ∨ ((i : Int) < N2 ∧ ¬ (i : Int) < 30) ∨ ¬ (i : Int) < N2 := by omega
              clear hin HF
              rcases hsplit with ⟨g1, g2, g3⟩ | ⟨g1, g2⟩ | g1
              all_goals
                go_wp2
                go_roundg (8 - k1)
                case measure => omega
                case rel => exact ⟨k1, by omega, by first | rfl | (congr 1; omega), HK⟩
        · have hk8i : ¬ (k : Int) < 8 := by omega
          clear hk8
          go_wp2_with fail
          refine (AW wr).mono ?_
          rintro e w12 ⟨rfl, hb12⟩
          have I12 := Lib.hid (DIn.kept HD.out HK.out hb12)
          clear hb12 HK
          go_wp2
          go_ret
          exact ⟨rfl, I12.out.2.1⟩
end Go.Proofs.Ytpnnlpmkgglgdaa
