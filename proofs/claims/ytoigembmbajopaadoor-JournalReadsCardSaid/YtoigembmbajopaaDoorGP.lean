/- JournalRecs out of the contracts. JournalJoins out of the contracts. The journal's example. -/
import Derived.Test.YtoigembmbajopaaDoorGL
namespace Go.Proofs.YtoigembmbajopaaDoor
open Go.RowKit

theorem txE_none : txE [] = 3 ∧ txT [] = [] := ⟨rfl, rfl⟩
theorem txE_bad {L : List Rc} (h0 : L.length ≠ 0) (h1 : L.length ≤ 30) (hm : ¬ ∀ r ∈ L, mayR r) : txE L = 1 ∧ txT L = [] := by
  have e : txE L = 1 := by unfold txE; rw [if_neg (by omega), if_neg hm]
  exact ⟨e, by unfold txT; rw [e]; rfl⟩
theorem txE_good {L : List Rc} (h0 : L.length ≠ 0) (h1 : L.length ≤ 30) (hm : ∀ r ∈ L, mayR r) : txE L = 0 ∧ txT L = txB L ∧ okTx L ∧ (txB L).length ≤ 6010 := by
  have e : txE L = 0 := by unfold txE; rw [if_neg (by omega), if_pos hm]
  refine ⟨e, by unfold txT; rw [if_pos e], ⟨by omega, hm⟩, ?_⟩
  have := recsB_len L hm
  rw [txB_len]
  unfold txP
  rw [List.length_append, leB_len]
  omega

set_option maxRecDepth 100000 in
set_option maxHeartbeats 16000000 in
theorem journalRecs_of (JC : JCheckOk) (JS : JSameOk) (JT : JTxOk) (JR : JReadOk) (AW : AwakeJ) (L : List Rc) (v : Value) (w : World) (h : RecsAt L v w) (hl : L.length ≤ maxLen) (hT : TabAt w) :
    Calls Tryd.prog 3 #[v] w fun e w' => e = .returned (.bool true) ∧ Kept w w' := by
  have SM := small13_any L v w h hl
  have HT := Lib.hid hT
  have HA := Lib.hid h
  obtain ⟨p, c, rfl, -⟩ := h.sliced
  obtain ⟨n, hn⟩ : ∃ n, n = L.length := ⟨_, rfl⟩
  rw [← hn] at SM HA ⊢
  have HLN := Lib.hid hn
  by_cases hs : smallJ L
  · rw [decide_eq_true hs] at SM
    obtain ⟨A, eA, hA⟩ := h
    rw [← hn] at hA
    have gA := fun i hi => hA.at_k eA i hi
    have GA := Lib.hid gA
    have HS := Lib.hid hs
    have HN30 : Hid (n ≤ 30) := Lib.hid (by rw [hn]; exact hs.1)
    clear hA eA gA hT hl hs hn
    go_enter Tryd.func3, Tryd.ntmps3
    go_wp2_with fail
    refine SM.mono ?_
    rintro e w1 ⟨rfl, rfl⟩
    clear SM
    go_wp2
    go_loopg [3, 4] n (fun gh s3 s4 wx => ∃ (k : Nat) (my : Bool), k + gh = n ∧ s4 = .int .i64 k ∧ s3 = .bool my ∧ Hid (my = decide (∀ r ∈ L.take k, mayR r)) ∧ Hid (Kept w wx))
    case atStart => exact ⟨0, true, by omega, rfl, rfl, Lib.hid (by simp), Lib.hid (Kept.refl w)⟩
    case round =>
      obtain ⟨k, my, hk, rfl, rfl, HM, HK0⟩ := hrel
      have hn30 := HN30.out
      by_cases hkn : k < n
      · have hki : (k : Int) < n := by omega
        have bk : decide ((k : Int) < (n : Int)) = true := by simpa using hki
        have hki0 : (0 : Int) ≤ k := by omega
        have hn0 : (0 : Int) < n := by omega
        have hn0n : 0 < n := by omega
        obtain ⟨k1, hk1⟩ : ∃ k1, k1 = k + 1 := ⟨_, rfl⟩
        have v1 : IntKind.i64.wrap ((k : Int) + 1) = (k1 : Int) := by rw [show (k : Int) + 1 = (k1 : Int) by omega]; exact IntWalk.i64_in _ (by omega)
        obtain ⟨q, uv, -, hqm, hqa, b, off, hpq, hqg⟩ := GA.out 0 (by omega)
        obtain ⟨r, tv, e1, hrm, hra, b', off', hpr, hrg⟩ := GA.out k hkn
        rw [hpq] at hpr
        simp only [Option.some.injEq, Addr.mk.injEq, and_true] at hpr
        obtain ⟨rfl, rfl⟩ := hpr
        subst hpq
        have hqg : w.rangeAt b off (recC q uv).toList := by simpa using hqg
        have oq := HS.out.2 q hqm
        have or_ := HS.out.2 r hrm
        have MY := fun W (kk : Kept w W) => rmay13_any r tv W (hra.later kk) (by have := or_.1; omega)
        have CK0 := fun W (kk : Kept w W) => JC r tv W (hra.later kk) or_
        have CS := fun W (kk : Kept w W) => JS r q tv uv W (hra.later kk) (hqa.later kk) or_ oq
        have CR := fun W (kk : Kept w W) => rsame13_any r q tv uv W (hra.later kk) (hqa.later kk) (by have := or_.1; omega)
        unfold recV at MY CK0 CS CR
        obtain ⟨X, hX⟩ : ∃ X, X = recC r tv := ⟨_, rfl⟩
        obtain ⟨Y, hY⟩ : ∃ Y, Y = recC q uv := ⟨_, rfl⟩
        rw [← hX] at MY CK0 CS CR hrg
        rw [← hY] at CS CR hqg
        have HXs : Hid ((Tryd.prog.info? 30).map (·.size) = some X.size) := Lib.hid (by rw [hX]; exact infoRc)
        have HXt : Hid ((Tryd.prog.info? 30).map (·.size) = some X.toList.length) := Lib.hid (by rw [Array.length_toList]; exact HXs.out)
        have HYs : Hid ((Tryd.prog.info? 30).map (·.size) = some Y.size) := Lib.hid (by rw [hY]; exact infoRc)
        obtain ⟨sb, hsb⟩ : ∃ sb, sb = decide (r = q) := ⟨_, rfl⟩
        rw [← hsb] at CS CR
        have hss : (sb != sb) = false := by cases sb <;> rfl
        obtain ⟨mb, hmb⟩ : ∃ mb, mb = decide (mayR r) := ⟨_, rfl⟩
        rw [← hmb] at MY
        have HMB := Lib.hid hmb
        have HMY : Hid ((my && mb) = decide (∀ r ∈ L.take k1, mayR r)) := Lib.hid (by
          rw [hk1, List.take_add_one, e1, HM.out, hmb]
          rw [← Bool.decide_and]
          refine decide_eq_decide.2 ⟨fun y x hx => ?_, fun y => ⟨fun x hx => y x (List.mem_append.2 (Or.inl hx)), y r (List.mem_append.2 (Or.inr (List.mem_singleton.2 rfl)))⟩⟩
          rcases List.mem_append.1 hx with z | z
          · exact y.1 x z
          · rw [List.mem_singleton.1 z]; exact y.2)
        have HK1 : Hid (k1 = k + 1 ∧ k + gk = n) := Lib.hid ⟨hk1, hk⟩
        have HC := range_kept hrg HK0.out
        have hrg0 := hrg
        clear e1 hrm hqm hra hqa oq or_ hX hY hsb hmb hk1 hk HM hn30 hrg
        go_wp2_with (first
          | (with_reducible refine wpList_load_mid rfl _ _ rfl b (off + k * 5) rfl X.toList _ HC Tryd.underlying30 rfl HXt.out ?_)
          | fail)
        refine (MY _ HK0.out).mono ?_
        rintro e w4 ⟨rfl, hb4⟩
        have HK : Hid (Kept w w4) := Lib.hid ((show Kept w wr from HK0.out).then hb4)
        have HX := range_kept hrg0 HK.out
        have HY := range_kept hqg HK.out
        clear MY HC hb4 HK0 hrg0 hqg
        cases my <;> cases mb
        · go_wp2_with fail
          have CK := fun W kk => CK0 W kk
          rw [if_neg (of_decide_eq_false HMB.out.symm)] at CK
          clear CK0
          refine wp_region_kept (by kernel_rfl) (by kernel_rfl) ?_
          refine wpQuiet_pure (v := ?_) (by kernel_rfl) ?_ (fun K hK => ?_)
          case refine_2 => intro W _; go_simp; try with_reducible rfl
          go_simp
          refine hK _ ?_; clear hK K
          refine wpQuiet_pure (v := ?_) (by kernel_rfl) ?_ (fun K hK => ?_)
          case refine_2 => intro W _; go_simp; try with_reducible rfl
          go_simp
          refine hK _ ?_; clear hK K
          refine wpQuiet_pure (v := ?_) (by kernel_rfl) ?_ (fun K hK => ?_)
          case refine_2 => intro W _; go_simp; try with_reducible rfl
          go_simp
          refine hK _ ?_; clear hK K
          refine wpQuiet_load_part (by kernel_rfl) _ _ rfl b (off + k * 5) rfl X.toList _ (fun W h => range_kept HX h) Tryd.underlying30 rfl (by rw [Array.length_toList]; exact HXs.out) (fun K hK => ?_)
          go_simp
          refine hK _ ?_; clear hK K
          refine wpQuiet_call (by kernel_rfl) _ _ _ (fun W => by go_simp) (fun W h => Calls.kept_of h (CK W (HK.out.then h))) (fun K hK => ?_)
          go_simp
          refine hK _ ?_; clear hK K
          refine wpQuiet_pure (by kernel_rfl) (.bool false) (fun W _ => by go_simp) (fun K hK => ?_)
          go_simp
          refine hK _ ?_; clear hK K
          refine wpQuiet_pure (v := ?_) (by kernel_rfl) ?_ (fun K hK => ?_)
          case refine_2 => intro W _; go_simp; try with_reducible rfl
          go_simp
          refine hK _ ?_; clear hK K
          refine wpQuiet_pure (by kernel_rfl) (.bool false) (fun W _ => by go_simp) (fun K hK => ?_)
          go_simp
          refine hK _ ?_; clear hK K
          refine wpQuiet_pure (v := ?_) (by kernel_rfl) ?_ (fun K hK => ?_)
          case refine_2 => intro W _; go_simp; try with_reducible rfl
          go_simp
          refine hK _ ?_; clear hK K
          refine wpQuiet_pure (v := ?_) (by kernel_rfl) ?_ (fun K hK => ?_)
          case refine_2 => intro W _; go_simp; try with_reducible rfl
          go_simp
          refine hK _ ?_; clear hK K
          refine wpQuiet_pure (v := ?_) (by kernel_rfl) ?_ (fun K hK => ?_)
          case refine_2 => intro W _; go_simp; try with_reducible rfl
          go_simp
          refine hK _ ?_; clear hK K
          refine wpQuiet_pure (v := ?_) (by kernel_rfl) ?_ (fun K hK => ?_)
          case refine_2 => intro W _; go_simp; try with_reducible rfl
          go_simp
          refine hK _ ?_; clear hK K
          refine wpQuiet_pure (v := ?_) (by kernel_rfl) ?_ (fun K hK => ?_)
          case refine_2 => intro W _; go_simp; try with_reducible rfl
          go_simp
          refine hK _ ?_; clear hK K
          refine wpQuiet_pure (v := ?_) (by kernel_rfl) ?_ (fun K hK => ?_)
          case refine_2 => intro W _; go_simp; try with_reducible rfl
          go_simp
          refine hK _ ?_; clear hK K
          refine wpQuiet_pure (v := ?_) (by kernel_rfl) ?_ (fun K hK => ?_)
          case refine_2 => intro W _; go_simp; try with_reducible rfl
          go_simp
          refine hK _ ?_; clear hK K
          refine wpQuiet_load_part (by kernel_rfl) _ _ rfl b (off + k * 5) rfl X.toList _ (fun W h => range_kept HX h) Tryd.underlying30 rfl (by rw [Array.length_toList]; exact HXs.out) (fun K hK => ?_)
          go_simp
          refine hK _ ?_; clear hK K
          refine wpQuiet_call (by kernel_rfl) _ _ _ (fun W => by go_simp) (fun W h => Calls.kept_of h (CK W (HK.out.then h))) (fun K hK => ?_)
          go_simp
          refine hK _ ?_; clear hK K
          refine wpQuiet_pure (by kernel_rfl) (.bool false) (fun W _ => by go_simp) (fun K hK => ?_)
          go_simp
          refine hK _ ?_; clear hK K
          refine wpQuiet_pure (by kernel_rfl) (.bool false) (fun W _ => by go_simp) (fun K hK => ?_)
          go_simp
          refine hK _ ?_; clear hK K
          refine wpQuiet_pure (by kernel_rfl) (.bool false) (fun W _ => by go_simp) (fun K hK => ?_)
          go_simp
          refine hK _ ?_; clear hK K
          refine wpQuiet_pure (v := ?_) (by kernel_rfl) ?_ (fun K hK => ?_)
          case refine_2 => intro W _; go_simp; try with_reducible rfl
          go_simp
          refine hK _ ?_; clear hK K
          refine wpQuiet_pure (v := ?_) (by kernel_rfl) ?_ (fun K hK => ?_)
          case refine_2 => intro W _; go_simp; try with_reducible rfl
          go_simp
          refine hK _ ?_; clear hK K
          refine wpQuiet_pure (v := ?_) (by kernel_rfl) ?_ (fun K hK => ?_)
          case refine_2 => intro W _; go_simp; try with_reducible rfl
          go_simp
          refine hK _ ?_; clear hK K
          refine wpQuiet_pure (v := ?_) (by kernel_rfl) ?_ (fun K hK => ?_)
          case refine_2 => intro W _; go_simp; try with_reducible rfl
          go_simp
          refine hK _ ?_; clear hK K
          refine wpQuiet_load_part (by kernel_rfl) _ _ rfl b (off + k * 5) rfl X.toList _ (fun W h => range_kept HX h) Tryd.underlying30 rfl (by rw [Array.length_toList]; exact HXs.out) (fun K hK => ?_)
          go_simp
          refine hK _ ?_; clear hK K
          refine wpQuiet_pure (v := ?_) (by kernel_rfl) ?_ (fun K hK => ?_)
          case refine_2 => intro W _; go_simp; try with_reducible rfl
          go_simp
          refine hK _ ?_; clear hK K
          refine wpQuiet_pure (v := ?_) (by kernel_rfl) ?_ (fun K hK => ?_)
          case refine_2 => intro W _; go_simp; try with_reducible rfl
          go_simp
          refine hK _ ?_; clear hK K
          refine wpQuiet_load_part (by kernel_rfl) _ _ rfl b (off) rfl Y.toList _ (fun W h => range_kept HY h) Tryd.underlying30 rfl (by rw [Array.length_toList]; exact HYs.out) (fun K hK => ?_)
          go_simp
          refine hK _ ?_; clear hK K
          refine wpQuiet_call (by kernel_rfl) _ _ _ (fun W => by go_simp) (fun W h => Calls.kept_of h (CS W (HK.out.then h))) (fun K hK => ?_)
          go_simp
          refine hK _ ?_; clear hK K
          refine wpQuiet_pure (v := ?_) (by kernel_rfl) ?_ (fun K hK => ?_)
          case refine_2 => intro W _; go_simp; try with_reducible rfl
          go_simp
          refine hK _ ?_; clear hK K
          refine wpQuiet_pure (v := ?_) (by kernel_rfl) ?_ (fun K hK => ?_)
          case refine_2 => intro W _; go_simp; try with_reducible rfl
          go_simp
          refine hK _ ?_; clear hK K
          refine wpQuiet_pure (v := ?_) (by kernel_rfl) ?_ (fun K hK => ?_)
          case refine_2 => intro W _; go_simp; try with_reducible rfl
          go_simp
          refine hK _ ?_; clear hK K
          refine wpQuiet_load_part (by kernel_rfl) _ _ rfl b (off + k * 5) rfl X.toList _ (fun W h => range_kept HX h) Tryd.underlying30 rfl (by rw [Array.length_toList]; exact HXs.out) (fun K hK => ?_)
          go_simp
          refine hK _ ?_; clear hK K
          refine wpQuiet_pure (v := ?_) (by kernel_rfl) ?_ (fun K hK => ?_)
          case refine_2 => intro W _; go_simp; try with_reducible rfl
          go_simp
          refine hK _ ?_; clear hK K
          refine wpQuiet_pure (v := ?_) (by kernel_rfl) ?_ (fun K hK => ?_)
          case refine_2 => intro W _; go_simp; try with_reducible rfl
          go_simp
          refine hK _ ?_; clear hK K
          refine wpQuiet_load_part (by kernel_rfl) _ _ rfl b (off) rfl Y.toList _ (fun W h => range_kept HY h) Tryd.underlying30 rfl (by rw [Array.length_toList]; exact HYs.out) (fun K hK => ?_)
          go_simp
          refine hK _ ?_; clear hK K
          refine wpQuiet_call (by kernel_rfl) _ _ _ (fun W => by go_simp) (fun W h => Calls.kept_of h (CR W (HK.out.then h))) (fun K hK => ?_)
          go_simp
          refine hK _ ?_; clear hK K
          refine wpQuiet_pure (by kernel_rfl) (.bool false) (fun W _ => by go_simp) (fun K hK => ?_)
          go_simp
          refine hK _ ?_; clear hK K
          refine wpQuiet_pure (by kernel_rfl) (.bool false) (fun W _ => by go_simp) (fun K hK => ?_)
          go_simp
          refine hK _ ?_; clear hK K
          refine wpQuiet_nil ?_
          intro w5 hk5
          have K5 : Hid (Kept w w5) := Lib.hid (HK.out.then hk5)
          clear hk5 CK CS CR HX HY
          go_wp2
          go_roundg (n - k1)
          · exact ⟨k1, _, by have := HK1.out; omega, by first | rfl | (have := HK1.out; simp; omega), rfl, Lib.hid (HMY.out), K5⟩
          · have := HK1.out; omega
        · go_wp2_with fail
          have CK := fun W kk => CK0 W kk
          rw [if_pos (of_decide_eq_true HMB.out.symm)] at CK
          clear CK0
          refine wp_region_kept (by kernel_rfl) (by kernel_rfl) ?_
          refine wpQuiet_pure (v := ?_) (by kernel_rfl) ?_ (fun K hK => ?_)
          case refine_2 => intro W _; go_simp; try with_reducible rfl
          go_simp
          refine hK _ ?_; clear hK K
          refine wpQuiet_pure (v := ?_) (by kernel_rfl) ?_ (fun K hK => ?_)
          case refine_2 => intro W _; go_simp; try with_reducible rfl
          go_simp
          refine hK _ ?_; clear hK K
          refine wpQuiet_pure (v := ?_) (by kernel_rfl) ?_ (fun K hK => ?_)
          case refine_2 => intro W _; go_simp; try with_reducible rfl
          go_simp
          refine hK _ ?_; clear hK K
          refine wpQuiet_load_part (by kernel_rfl) _ _ rfl b (off + k * 5) rfl X.toList _ (fun W h => range_kept HX h) Tryd.underlying30 rfl (by rw [Array.length_toList]; exact HXs.out) (fun K hK => ?_)
          go_simp
          refine hK _ ?_; clear hK K
          refine wpQuiet_call (by kernel_rfl) _ _ _ (fun W => by go_simp) (fun W h => Calls.kept_of h (CK W (HK.out.then h))) (fun K hK => ?_)
          go_simp
          refine hK _ ?_; clear hK K
          refine wpQuiet_pure (by kernel_rfl) (.bool true) (fun W _ => by go_simp) (fun K hK => ?_)
          go_simp
          refine hK _ ?_; clear hK K
          refine wpQuiet_pure (v := ?_) (by kernel_rfl) ?_ (fun K hK => ?_)
          case refine_2 => intro W _; go_simp; try with_reducible rfl
          go_simp
          refine hK _ ?_; clear hK K
          refine wpQuiet_pure (by kernel_rfl) (.bool false) (fun W _ => by go_simp) (fun K hK => ?_)
          go_simp
          refine hK _ ?_; clear hK K
          refine wpQuiet_pure (v := ?_) (by kernel_rfl) ?_ (fun K hK => ?_)
          case refine_2 => intro W _; go_simp; try with_reducible rfl
          go_simp
          refine hK _ ?_; clear hK K
          refine wpQuiet_pure (v := ?_) (by kernel_rfl) ?_ (fun K hK => ?_)
          case refine_2 => intro W _; go_simp; try with_reducible rfl
          go_simp
          refine hK _ ?_; clear hK K
          refine wpQuiet_pure (v := ?_) (by kernel_rfl) ?_ (fun K hK => ?_)
          case refine_2 => intro W _; go_simp; try with_reducible rfl
          go_simp
          refine hK _ ?_; clear hK K
          refine wpQuiet_pure (v := ?_) (by kernel_rfl) ?_ (fun K hK => ?_)
          case refine_2 => intro W _; go_simp; try with_reducible rfl
          go_simp
          refine hK _ ?_; clear hK K
          go_big_quiet_skip
          go_big_quiet_skip
          go_big_quiet_skip
          go_big_quiet_skip
          go_big_quiet_skip
          go_big_quiet_skip
          refine wpQuiet_pure (by kernel_rfl) (.bool false) (fun W _ => by go_simp) (fun K hK => ?_)
          go_simp
          refine hK _ ?_; clear hK K
          refine wpQuiet_pure (by kernel_rfl) (.bool false) (fun W _ => by go_simp) (fun K hK => ?_)
          go_simp
          refine hK _ ?_; clear hK K
          refine wpQuiet_pure (v := ?_) (by kernel_rfl) ?_ (fun K hK => ?_)
          case refine_2 => intro W _; go_simp; try with_reducible rfl
          go_simp
          refine hK _ ?_; clear hK K
          refine wpQuiet_pure (v := ?_) (by kernel_rfl) ?_ (fun K hK => ?_)
          case refine_2 => intro W _; go_simp; try with_reducible rfl
          go_simp
          refine hK _ ?_; clear hK K
          refine wpQuiet_pure (v := ?_) (by kernel_rfl) ?_ (fun K hK => ?_)
          case refine_2 => intro W _; go_simp; try with_reducible rfl
          go_simp
          refine hK _ ?_; clear hK K
          refine wpQuiet_pure (v := ?_) (by kernel_rfl) ?_ (fun K hK => ?_)
          case refine_2 => intro W _; go_simp; try with_reducible rfl
          go_simp
          refine hK _ ?_; clear hK K
          refine wpQuiet_load_part (by kernel_rfl) _ _ rfl b (off + k * 5) rfl X.toList _ (fun W h => range_kept HX h) Tryd.underlying30 rfl (by rw [Array.length_toList]; exact HXs.out) (fun K hK => ?_)
          go_simp
          refine hK _ ?_; clear hK K
          refine wpQuiet_pure (v := ?_) (by kernel_rfl) ?_ (fun K hK => ?_)
          case refine_2 => intro W _; go_simp; try with_reducible rfl
          go_simp
          refine hK _ ?_; clear hK K
          refine wpQuiet_pure (v := ?_) (by kernel_rfl) ?_ (fun K hK => ?_)
          case refine_2 => intro W _; go_simp; try with_reducible rfl
          go_simp
          refine hK _ ?_; clear hK K
          refine wpQuiet_load_part (by kernel_rfl) _ _ rfl b (off) rfl Y.toList _ (fun W h => range_kept HY h) Tryd.underlying30 rfl (by rw [Array.length_toList]; exact HYs.out) (fun K hK => ?_)
          go_simp
          refine hK _ ?_; clear hK K
          refine wpQuiet_call (by kernel_rfl) _ _ _ (fun W => by go_simp) (fun W h => Calls.kept_of h (CS W (HK.out.then h))) (fun K hK => ?_)
          go_simp
          refine hK _ ?_; clear hK K
          refine wpQuiet_pure (v := ?_) (by kernel_rfl) ?_ (fun K hK => ?_)
          case refine_2 => intro W _; go_simp; try with_reducible rfl
          go_simp
          refine hK _ ?_; clear hK K
          refine wpQuiet_pure (v := ?_) (by kernel_rfl) ?_ (fun K hK => ?_)
          case refine_2 => intro W _; go_simp; try with_reducible rfl
          go_simp
          refine hK _ ?_; clear hK K
          refine wpQuiet_pure (v := ?_) (by kernel_rfl) ?_ (fun K hK => ?_)
          case refine_2 => intro W _; go_simp; try with_reducible rfl
          go_simp
          refine hK _ ?_; clear hK K
          refine wpQuiet_load_part (by kernel_rfl) _ _ rfl b (off + k * 5) rfl X.toList _ (fun W h => range_kept HX h) Tryd.underlying30 rfl (by rw [Array.length_toList]; exact HXs.out) (fun K hK => ?_)
          go_simp
          refine hK _ ?_; clear hK K
          refine wpQuiet_pure (v := ?_) (by kernel_rfl) ?_ (fun K hK => ?_)
          case refine_2 => intro W _; go_simp; try with_reducible rfl
          go_simp
          refine hK _ ?_; clear hK K
          refine wpQuiet_pure (v := ?_) (by kernel_rfl) ?_ (fun K hK => ?_)
          case refine_2 => intro W _; go_simp; try with_reducible rfl
          go_simp
          refine hK _ ?_; clear hK K
          refine wpQuiet_load_part (by kernel_rfl) _ _ rfl b (off) rfl Y.toList _ (fun W h => range_kept HY h) Tryd.underlying30 rfl (by rw [Array.length_toList]; exact HYs.out) (fun K hK => ?_)
          go_simp
          refine hK _ ?_; clear hK K
          refine wpQuiet_call (by kernel_rfl) _ _ _ (fun W => by go_simp) (fun W h => Calls.kept_of h (CR W (HK.out.then h))) (fun K hK => ?_)
          go_simp
          refine hK _ ?_; clear hK K
          refine wpQuiet_pure (by kernel_rfl) (.bool false) (fun W _ => by go_simp) (fun K hK => ?_)
          go_simp
          refine hK _ ?_; clear hK K
          refine wpQuiet_pure (by kernel_rfl) (.bool false) (fun W _ => by go_simp) (fun K hK => ?_)
          go_simp
          refine hK _ ?_; clear hK K
          refine wpQuiet_nil ?_
          intro w5 hk5
          have K5 : Hid (Kept w w5) := Lib.hid (HK.out.then hk5)
          clear hk5 CK CS CR HX HY
          go_wp2
          go_roundg (n - k1)
          · exact ⟨k1, _, by have := HK1.out; omega, by first | rfl | (have := HK1.out; simp; omega), rfl, Lib.hid (HMY.out), K5⟩
          · have := HK1.out; omega
        · go_wp2_with fail
          have CK := fun W kk => CK0 W kk
          rw [if_neg (of_decide_eq_false HMB.out.symm)] at CK
          clear CK0
          refine wp_region_kept (by kernel_rfl) (by kernel_rfl) ?_
          refine wpQuiet_pure (v := ?_) (by kernel_rfl) ?_ (fun K hK => ?_)
          case refine_2 => intro W _; go_simp; try with_reducible rfl
          go_simp
          refine hK _ ?_; clear hK K
          refine wpQuiet_pure (v := ?_) (by kernel_rfl) ?_ (fun K hK => ?_)
          case refine_2 => intro W _; go_simp; try with_reducible rfl
          go_simp
          refine hK _ ?_; clear hK K
          refine wpQuiet_pure (v := ?_) (by kernel_rfl) ?_ (fun K hK => ?_)
          case refine_2 => intro W _; go_simp; try with_reducible rfl
          go_simp
          refine hK _ ?_; clear hK K
          refine wpQuiet_load_part (by kernel_rfl) _ _ rfl b (off + k * 5) rfl X.toList _ (fun W h => range_kept HX h) Tryd.underlying30 rfl (by rw [Array.length_toList]; exact HXs.out) (fun K hK => ?_)
          go_simp
          refine hK _ ?_; clear hK K
          refine wpQuiet_call (by kernel_rfl) _ _ _ (fun W => by go_simp) (fun W h => Calls.kept_of h (CK W (HK.out.then h))) (fun K hK => ?_)
          go_simp
          refine hK _ ?_; clear hK K
          refine wpQuiet_pure (by kernel_rfl) (.bool false) (fun W _ => by go_simp) (fun K hK => ?_)
          go_simp
          refine hK _ ?_; clear hK K
          refine wpQuiet_pure (v := ?_) (by kernel_rfl) ?_ (fun K hK => ?_)
          case refine_2 => intro W _; go_simp; try with_reducible rfl
          go_simp
          refine hK _ ?_; clear hK K
          refine wpQuiet_pure (by kernel_rfl) (.bool false) (fun W _ => by go_simp) (fun K hK => ?_)
          go_simp
          refine hK _ ?_; clear hK K
          refine wpQuiet_pure (v := ?_) (by kernel_rfl) ?_ (fun K hK => ?_)
          case refine_2 => intro W _; go_simp; try with_reducible rfl
          go_simp
          refine hK _ ?_; clear hK K
          refine wpQuiet_pure (v := ?_) (by kernel_rfl) ?_ (fun K hK => ?_)
          case refine_2 => intro W _; go_simp; try with_reducible rfl
          go_simp
          refine hK _ ?_; clear hK K
          refine wpQuiet_pure (v := ?_) (by kernel_rfl) ?_ (fun K hK => ?_)
          case refine_2 => intro W _; go_simp; try with_reducible rfl
          go_simp
          refine hK _ ?_; clear hK K
          refine wpQuiet_pure (v := ?_) (by kernel_rfl) ?_ (fun K hK => ?_)
          case refine_2 => intro W _; go_simp; try with_reducible rfl
          go_simp
          refine hK _ ?_; clear hK K
          refine wpQuiet_pure (v := ?_) (by kernel_rfl) ?_ (fun K hK => ?_)
          case refine_2 => intro W _; go_simp; try with_reducible rfl
          go_simp
          refine hK _ ?_; clear hK K
          refine wpQuiet_pure (v := ?_) (by kernel_rfl) ?_ (fun K hK => ?_)
          case refine_2 => intro W _; go_simp; try with_reducible rfl
          go_simp
          refine hK _ ?_; clear hK K
          refine wpQuiet_pure (v := ?_) (by kernel_rfl) ?_ (fun K hK => ?_)
          case refine_2 => intro W _; go_simp; try with_reducible rfl
          go_simp
          refine hK _ ?_; clear hK K
          refine wpQuiet_load_part (by kernel_rfl) _ _ rfl b (off + k * 5) rfl X.toList _ (fun W h => range_kept HX h) Tryd.underlying30 rfl (by rw [Array.length_toList]; exact HXs.out) (fun K hK => ?_)
          go_simp
          refine hK _ ?_; clear hK K
          refine wpQuiet_call (by kernel_rfl) _ _ _ (fun W => by go_simp) (fun W h => Calls.kept_of h (CK W (HK.out.then h))) (fun K hK => ?_)
          go_simp
          refine hK _ ?_; clear hK K
          refine wpQuiet_pure (by kernel_rfl) (.bool false) (fun W _ => by go_simp) (fun K hK => ?_)
          go_simp
          refine hK _ ?_; clear hK K
          refine wpQuiet_pure (by kernel_rfl) (.bool false) (fun W _ => by go_simp) (fun K hK => ?_)
          go_simp
          refine hK _ ?_; clear hK K
          refine wpQuiet_pure (by kernel_rfl) (.bool false) (fun W _ => by go_simp) (fun K hK => ?_)
          go_simp
          refine hK _ ?_; clear hK K
          refine wpQuiet_pure (v := ?_) (by kernel_rfl) ?_ (fun K hK => ?_)
          case refine_2 => intro W _; go_simp; try with_reducible rfl
          go_simp
          refine hK _ ?_; clear hK K
          refine wpQuiet_pure (v := ?_) (by kernel_rfl) ?_ (fun K hK => ?_)
          case refine_2 => intro W _; go_simp; try with_reducible rfl
          go_simp
          refine hK _ ?_; clear hK K
          refine wpQuiet_pure (v := ?_) (by kernel_rfl) ?_ (fun K hK => ?_)
          case refine_2 => intro W _; go_simp; try with_reducible rfl
          go_simp
          refine hK _ ?_; clear hK K
          refine wpQuiet_pure (v := ?_) (by kernel_rfl) ?_ (fun K hK => ?_)
          case refine_2 => intro W _; go_simp; try with_reducible rfl
          go_simp
          refine hK _ ?_; clear hK K
          refine wpQuiet_load_part (by kernel_rfl) _ _ rfl b (off + k * 5) rfl X.toList _ (fun W h => range_kept HX h) Tryd.underlying30 rfl (by rw [Array.length_toList]; exact HXs.out) (fun K hK => ?_)
          go_simp
          refine hK _ ?_; clear hK K
          refine wpQuiet_pure (v := ?_) (by kernel_rfl) ?_ (fun K hK => ?_)
          case refine_2 => intro W _; go_simp; try with_reducible rfl
          go_simp
          refine hK _ ?_; clear hK K
          refine wpQuiet_pure (v := ?_) (by kernel_rfl) ?_ (fun K hK => ?_)
          case refine_2 => intro W _; go_simp; try with_reducible rfl
          go_simp
          refine hK _ ?_; clear hK K
          refine wpQuiet_load_part (by kernel_rfl) _ _ rfl b (off) rfl Y.toList _ (fun W h => range_kept HY h) Tryd.underlying30 rfl (by rw [Array.length_toList]; exact HYs.out) (fun K hK => ?_)
          go_simp
          refine hK _ ?_; clear hK K
          refine wpQuiet_call (by kernel_rfl) _ _ _ (fun W => by go_simp) (fun W h => Calls.kept_of h (CS W (HK.out.then h))) (fun K hK => ?_)
          go_simp
          refine hK _ ?_; clear hK K
          refine wpQuiet_pure (v := ?_) (by kernel_rfl) ?_ (fun K hK => ?_)
          case refine_2 => intro W _; go_simp; try with_reducible rfl
          go_simp
          refine hK _ ?_; clear hK K
          refine wpQuiet_pure (v := ?_) (by kernel_rfl) ?_ (fun K hK => ?_)
          case refine_2 => intro W _; go_simp; try with_reducible rfl
          go_simp
          refine hK _ ?_; clear hK K
          refine wpQuiet_pure (v := ?_) (by kernel_rfl) ?_ (fun K hK => ?_)
          case refine_2 => intro W _; go_simp; try with_reducible rfl
          go_simp
          refine hK _ ?_; clear hK K
          refine wpQuiet_load_part (by kernel_rfl) _ _ rfl b (off + k * 5) rfl X.toList _ (fun W h => range_kept HX h) Tryd.underlying30 rfl (by rw [Array.length_toList]; exact HXs.out) (fun K hK => ?_)
          go_simp
          refine hK _ ?_; clear hK K
          refine wpQuiet_pure (v := ?_) (by kernel_rfl) ?_ (fun K hK => ?_)
          case refine_2 => intro W _; go_simp; try with_reducible rfl
          go_simp
          refine hK _ ?_; clear hK K
          refine wpQuiet_pure (v := ?_) (by kernel_rfl) ?_ (fun K hK => ?_)
          case refine_2 => intro W _; go_simp; try with_reducible rfl
          go_simp
          refine hK _ ?_; clear hK K
          refine wpQuiet_load_part (by kernel_rfl) _ _ rfl b (off) rfl Y.toList _ (fun W h => range_kept HY h) Tryd.underlying30 rfl (by rw [Array.length_toList]; exact HYs.out) (fun K hK => ?_)
          go_simp
          refine hK _ ?_; clear hK K
          refine wpQuiet_call (by kernel_rfl) _ _ _ (fun W => by go_simp) (fun W h => Calls.kept_of h (CR W (HK.out.then h))) (fun K hK => ?_)
          go_simp
          refine hK _ ?_; clear hK K
          refine wpQuiet_pure (by kernel_rfl) (.bool false) (fun W _ => by go_simp) (fun K hK => ?_)
          go_simp
          refine hK _ ?_; clear hK K
          refine wpQuiet_pure (by kernel_rfl) (.bool false) (fun W _ => by go_simp) (fun K hK => ?_)
          go_simp
          refine hK _ ?_; clear hK K
          refine wpQuiet_nil ?_
          intro w5 hk5
          have K5 : Hid (Kept w w5) := Lib.hid (HK.out.then hk5)
          clear hk5 CK CS CR HX HY
          go_wp2
          go_roundg (n - k1)
          · exact ⟨k1, _, by have := HK1.out; omega, by first | rfl | (have := HK1.out; simp; omega), rfl, Lib.hid (HMY.out), K5⟩
          · have := HK1.out; omega
        · go_wp2_with fail
          have CK := fun W kk => CK0 W kk
          rw [if_pos (of_decide_eq_true HMB.out.symm)] at CK
          clear CK0
          refine wp_region_kept (by kernel_rfl) (by kernel_rfl) ?_
          refine wpQuiet_pure (v := ?_) (by kernel_rfl) ?_ (fun K hK => ?_)
          case refine_2 => intro W _; go_simp; try with_reducible rfl
          go_simp
          refine hK _ ?_; clear hK K
          refine wpQuiet_pure (v := ?_) (by kernel_rfl) ?_ (fun K hK => ?_)
          case refine_2 => intro W _; go_simp; try with_reducible rfl
          go_simp
          refine hK _ ?_; clear hK K
          refine wpQuiet_pure (v := ?_) (by kernel_rfl) ?_ (fun K hK => ?_)
          case refine_2 => intro W _; go_simp; try with_reducible rfl
          go_simp
          refine hK _ ?_; clear hK K
          refine wpQuiet_load_part (by kernel_rfl) _ _ rfl b (off + k * 5) rfl X.toList _ (fun W h => range_kept HX h) Tryd.underlying30 rfl (by rw [Array.length_toList]; exact HXs.out) (fun K hK => ?_)
          go_simp
          refine hK _ ?_; clear hK K
          refine wpQuiet_call (by kernel_rfl) _ _ _ (fun W => by go_simp) (fun W h => Calls.kept_of h (CK W (HK.out.then h))) (fun K hK => ?_)
          go_simp
          refine hK _ ?_; clear hK K
          refine wpQuiet_pure (by kernel_rfl) (.bool true) (fun W _ => by go_simp) (fun K hK => ?_)
          go_simp
          refine hK _ ?_; clear hK K
          refine wpQuiet_pure (v := ?_) (by kernel_rfl) ?_ (fun K hK => ?_)
          case refine_2 => intro W _; go_simp; try with_reducible rfl
          go_simp
          refine hK _ ?_; clear hK K
          refine wpQuiet_pure (by kernel_rfl) (.bool false) (fun W _ => by go_simp) (fun K hK => ?_)
          go_simp
          refine hK _ ?_; clear hK K
          refine wpQuiet_pure (v := ?_) (by kernel_rfl) ?_ (fun K hK => ?_)
          case refine_2 => intro W _; go_simp; try with_reducible rfl
          go_simp
          refine hK _ ?_; clear hK K
          refine wpQuiet_pure (v := ?_) (by kernel_rfl) ?_ (fun K hK => ?_)
          case refine_2 => intro W _; go_simp; try with_reducible rfl
          go_simp
          refine hK _ ?_; clear hK K
          refine wpQuiet_pure (v := ?_) (by kernel_rfl) ?_ (fun K hK => ?_)
          case refine_2 => intro W _; go_simp; try with_reducible rfl
          go_simp
          refine hK _ ?_; clear hK K
          refine wpQuiet_pure (v := ?_) (by kernel_rfl) ?_ (fun K hK => ?_)
          case refine_2 => intro W _; go_simp; try with_reducible rfl
          go_simp
          refine hK _ ?_; clear hK K
          go_big_quiet_skip
          go_big_quiet_skip
          go_big_quiet_skip
          go_big_quiet_skip
          go_big_quiet_skip
          go_big_quiet_skip
          refine wpQuiet_pure (by kernel_rfl) (.bool false) (fun W _ => by go_simp) (fun K hK => ?_)
          go_simp
          refine hK _ ?_; clear hK K
          refine wpQuiet_pure (by kernel_rfl) (.bool false) (fun W _ => by go_simp) (fun K hK => ?_)
          go_simp
          refine hK _ ?_; clear hK K
          refine wpQuiet_pure (v := ?_) (by kernel_rfl) ?_ (fun K hK => ?_)
          case refine_2 => intro W _; go_simp; try with_reducible rfl
          go_simp
          refine hK _ ?_; clear hK K
          refine wpQuiet_pure (v := ?_) (by kernel_rfl) ?_ (fun K hK => ?_)
          case refine_2 => intro W _; go_simp; try with_reducible rfl
          go_simp
          refine hK _ ?_; clear hK K
          refine wpQuiet_pure (v := ?_) (by kernel_rfl) ?_ (fun K hK => ?_)
          case refine_2 => intro W _; go_simp; try with_reducible rfl
          go_simp
          refine hK _ ?_; clear hK K
          refine wpQuiet_pure (v := ?_) (by kernel_rfl) ?_ (fun K hK => ?_)
          case refine_2 => intro W _; go_simp; try with_reducible rfl
          go_simp
          refine hK _ ?_; clear hK K
          refine wpQuiet_load_part (by kernel_rfl) _ _ rfl b (off + k * 5) rfl X.toList _ (fun W h => range_kept HX h) Tryd.underlying30 rfl (by rw [Array.length_toList]; exact HXs.out) (fun K hK => ?_)
          go_simp
          refine hK _ ?_; clear hK K
          refine wpQuiet_pure (v := ?_) (by kernel_rfl) ?_ (fun K hK => ?_)
          case refine_2 => intro W _; go_simp; try with_reducible rfl
          go_simp
          refine hK _ ?_; clear hK K
          refine wpQuiet_pure (v := ?_) (by kernel_rfl) ?_ (fun K hK => ?_)
          case refine_2 => intro W _; go_simp; try with_reducible rfl
          go_simp
          refine hK _ ?_; clear hK K
          refine wpQuiet_load_part (by kernel_rfl) _ _ rfl b (off) rfl Y.toList _ (fun W h => range_kept HY h) Tryd.underlying30 rfl (by rw [Array.length_toList]; exact HYs.out) (fun K hK => ?_)
          go_simp
          refine hK _ ?_; clear hK K
          refine wpQuiet_call (by kernel_rfl) _ _ _ (fun W => by go_simp) (fun W h => Calls.kept_of h (CS W (HK.out.then h))) (fun K hK => ?_)
          go_simp
          refine hK _ ?_; clear hK K
          refine wpQuiet_pure (v := ?_) (by kernel_rfl) ?_ (fun K hK => ?_)
          case refine_2 => intro W _; go_simp; try with_reducible rfl
          go_simp
          refine hK _ ?_; clear hK K
          refine wpQuiet_pure (v := ?_) (by kernel_rfl) ?_ (fun K hK => ?_)
          case refine_2 => intro W _; go_simp; try with_reducible rfl
          go_simp
          refine hK _ ?_; clear hK K
          refine wpQuiet_pure (v := ?_) (by kernel_rfl) ?_ (fun K hK => ?_)
          case refine_2 => intro W _; go_simp; try with_reducible rfl
          go_simp
          refine hK _ ?_; clear hK K
          refine wpQuiet_load_part (by kernel_rfl) _ _ rfl b (off + k * 5) rfl X.toList _ (fun W h => range_kept HX h) Tryd.underlying30 rfl (by rw [Array.length_toList]; exact HXs.out) (fun K hK => ?_)
          go_simp
          refine hK _ ?_; clear hK K
          refine wpQuiet_pure (v := ?_) (by kernel_rfl) ?_ (fun K hK => ?_)
          case refine_2 => intro W _; go_simp; try with_reducible rfl
          go_simp
          refine hK _ ?_; clear hK K
          refine wpQuiet_pure (v := ?_) (by kernel_rfl) ?_ (fun K hK => ?_)
          case refine_2 => intro W _; go_simp; try with_reducible rfl
          go_simp
          refine hK _ ?_; clear hK K
          refine wpQuiet_load_part (by kernel_rfl) _ _ rfl b (off) rfl Y.toList _ (fun W h => range_kept HY h) Tryd.underlying30 rfl (by rw [Array.length_toList]; exact HYs.out) (fun K hK => ?_)
          go_simp
          refine hK _ ?_; clear hK K
          refine wpQuiet_call (by kernel_rfl) _ _ _ (fun W => by go_simp) (fun W h => Calls.kept_of h (CR W (HK.out.then h))) (fun K hK => ?_)
          go_simp
          refine hK _ ?_; clear hK K
          refine wpQuiet_pure (by kernel_rfl) (.bool false) (fun W _ => by go_simp) (fun K hK => ?_)
          go_simp
          refine hK _ ?_; clear hK K
          refine wpQuiet_pure (by kernel_rfl) (.bool false) (fun W _ => by go_simp) (fun K hK => ?_)
          go_simp
          refine hK _ ?_; clear hK K
          refine wpQuiet_nil ?_
          intro w5 hk5
          have K5 : Hid (Kept w w5) := Lib.hid (HK.out.then hk5)
          clear hk5 CK CS CR HX HY
          go_wp2
          go_roundg (n - k1)
          · exact ⟨k1, _, by have := HK1.out; omega, by first | rfl | (have := HK1.out; simp; omega), rfl, Lib.hid (HMY.out), K5⟩
          · have := HK1.out; omega
      · have hki : ¬ (k : Int) < n := by omega
        have bk : decide ((k : Int) < (n : Int)) = false := by simpa using hki
        have HMA : Hid (my = decide (∀ r ∈ L, mayR r)) := Lib.hid (by
          have h := HM.out
          rw [List.take_of_length_le (by have := HLN.out; omega)] at h
          exact h)
        have T1 := JT L (.slice p n c) wr (HA.out.later HK0.out) HS.out (HT.out.later HK0.out)
        by_cases h0 : n = 0
        · have hL : L = [] := List.length_eq_zero_iff.1 (by have := HLN.out; omega)
          subst hL
          have ee : ((n : Int) == 0) = true := by rw [beq_iff_eq]; omega
          have hst : str (txT []) = ⟨#[]⟩ := rfl
          rw [txE_none.1, hst] at T1
          clear HM HMA hst h0
          go_wp2_with fail
          refine T1.mono ?_
          rintro e w2 ⟨rfl, hb2⟩
          have K2 := Lib.hid ((show Kept w wr from HK0.out).then hb2)
          have A3 := AW w2 (HT.out.later K2.out)
          clear T1 AW hb2
          go_wp2_with fail
          refine A3.mono ?_
          rintro e w3 ⟨rfl, hb3⟩
          have K3 := Lib.hid ((show Kept w w2 from K2.out).then hb3)
          clear A3 hb3
          go_wp2
          first | go_ret | go_ret2
          exact ⟨rfl, K3.out⟩
        · have ee : ((n : Int) == 0) = false := by rw [beq_eq_false_iff_ne]; omega
          have hLn : L.length ≠ 0 := by have := HLN.out; omega
          by_cases hm : ∀ r ∈ L, mayR r
          · obtain ⟨x1, x2, x3, x4⟩ := txE_good hLn HS.out.1 hm
            rw [x1, x2] at T1
            obtain rfl : my = true := by rw [HMA.out]; exact decide_eq_true hm
            obtain ⟨t, ht⟩ : ∃ t, t = str (txB L) := ⟨_, rfl⟩
            rw [← ht] at T1
            have R1 := fun W (hw : TabAt W) => JR t W (by rw [ht, str_size]; omega) hw
            have TX := fun W (kk : Kept w W) => rtx13_any L (.slice p n c) W (HA.out.later kk) hm (by have := HS.out.1; omega)
            rw [← ht] at TX
            have HTL : Hid (t.data.toList = txB L) := Lib.hid (by rw [ht, str_list])
            have HX3 := Lib.hid x3
            have tt : (t.toList == t.toList) = true := by simp
            unfold JReadPost at R1
            clear HM HMA x1 x2 x3 x4 ht hm hLn JT JR
            go_wp2_with fail
            refine T1.mono ?_
            rintro e w2 ⟨rfl, hb2⟩
            have K2 := Lib.hid ((show Kept w wr from HK0.out).then hb2)
            have R2 := R1 w2 (HT.out.later K2.out)
            clear T1 R1 hb2
            go_wp2_with fail
            refine R2.mono ?_
            rintro e w3 ⟨hb3, hcs⟩
            have K3 := Lib.hid ((show Kept w w2 from K2.out).then hb3)
            rcases hcs with ⟨hno, -⟩ | ⟨M, gv, hj, rfl, hg⟩
            · exact absurd ⟨[L], by rw [HTL.out]; exact JRd.tx HX3.out⟩ hno
            · have hM : M = [L] := hj.one (by rw [HTL.out]; exact JRd.tx HX3.out)
              subst hM
              obtain ⟨vs, hvs⟩ := hg
              obtain ⟨pg, cg, hpg, -, -⟩ := hvs.out
              subst hpg
              obtain ⟨l1, v1, e1, -, hra, bg, og, rfl, hcg⟩ := hvs.at_k 0 (by simp)
              obtain rfl : L = l1 := by simpa using e1
              have hcg : w3.cell? ⟨bg, og, none⟩ = some v1 := by simpa using hcg
              obtain ⟨pv1, cv1, rfl, -⟩ := hra.sliced
              have SA := fun W (kk : Kept w3 W) (k0 : Kept w W) => rsameAll_any L L _ (.slice p n c) W (hra.later kk) (HA.out.later k0) (by have := HS.out.1; omega) (fun r hr => by have := (HS.out.2 r hr).1; omega)
              have hLL : decide (L = L) = true := decide_eq_true rfl
              rw [hLL, ← HLN.out] at SA
              have TX3 := TX w3 K3.out
              have HG3 := Lib.hid hcg
              rw [← HLN.out] at HG3
              clear R2 hb3 hj hvs hra e1 TX hcg
              go_wp2_with fail
              refine TX3.mono ?_
              rintro e w4 ⟨rfl, hb4⟩
              have K4 := Lib.hid ((show Kept w w3 from K3.out).then hb4)
              have g4 := Kept.cell hb4 HG3.out
              have SA4 := SA w4 hb4 K4.out
              clear TX3 SA hb4 HG3
              go_wp2_with fail
              refine SA4.mono ?_
              rintro e w5 ⟨rfl, hb5⟩
              have K5 := Lib.hid ((show Kept w w4 from K4.out).then hb5)
              have A5 := AW w5 (HT.out.later K5.out)
              clear SA4 AW hb5 g4
              go_wp2_with fail
              refine A5.mono ?_
              rintro e w6 ⟨rfl, hb6⟩
              have K6 := Lib.hid ((show Kept w w5 from K5.out).then hb6)
              clear A5 hb6
              go_wp2
              first | go_ret | go_ret2
              exact ⟨rfl, K6.out⟩
          · obtain ⟨x1, x2⟩ := txE_bad hLn HS.out.1 hm
            have hst : str (txT L) = ⟨#[]⟩ := by rw [x2]; rfl
            rw [x1, hst] at T1
            obtain rfl : my = false := by rw [HMA.out]; exact decide_eq_false hm
            clear HM HMA x1 x2 hst hm hLn
            go_wp2_with fail
            refine T1.mono ?_
            rintro e w2 ⟨rfl, hb2⟩
            have K2 := Lib.hid ((show Kept w wr from HK0.out).then hb2)
            have A3 := AW w2 (HT.out.later K2.out)
            clear T1 AW hb2
            go_wp2_with fail
            refine A3.mono ?_
            rintro e w3 ⟨rfl, hb3⟩
            have K3 := Lib.hid ((show Kept w w2 from K2.out).then hb3)
            clear A3 hb3
            go_wp2
            first | go_ret | go_ret2
            exact ⟨rfl, K3.out⟩
  · rw [decide_eq_false hs] at SM
    have A0 := AW w hT
    clear h hl hT hs hn HA AW
    go_enter Tryd.func3, Tryd.ntmps3
    go_wp2_with fail
    refine SM.mono ?_
    rintro e w1 ⟨rfl, rfl⟩
    clear SM
    go_wp2_with fail
    refine A0.mono ?_
    rintro e w1 ⟨rfl, hb1⟩
    have K1 := Lib.hid hb1
    clear A0 hb1
    go_wp2
    first | go_ret | go_ret2
    exact ⟨rfl, K1.out⟩

end Go.Proofs.YtoigembmbajopaaDoor
namespace Go.Proofs.YtoigembmbajopaaDoor
open Go.RowKit

/-- Slices in a row of one's own, of records that lay before. -/
structure Wants (w0 : World) (G : List (List Rc)) (vs : List Value) (v : Value) (w : World) : Prop where
  own : w.ownsRow w0.heap.size 22 1 v G.length vs
  len : vs.length = G.length
  each : ∀ i (h : i < G.length) (h' : i < vs.length), RecsAt G[i] vs[i] w0
theorem Wants.nil (w : World) : Wants w [] [] (.slice none 0 0) w := ⟨World.ownsRow_nil _ _ _ _, rfl, fun i h => by simp at h⟩
theorem Wants.stay {w0 w w' : World} {G : List (List Rc)} {vs : List Value} {v : Value} (h : Wants w0 G vs v w) (k : Kept w w') : Wants w0 G vs v w' := ⟨own_stay h.own (fun j e => k.block j (h.own.lt j e).2), h.len, h.each⟩
theorem Wants.at_ {w0 w : World} {G : List (List Rc)} {vs : List Value} {v : Value} (h : Wants w0 G vs v w) (k : Kept w0 w) : TxsAt G v w :=
  ⟨vs, TxsIn.own h.own h.len (fun x hx => by
    obtain ⟨i, hi, rfl⟩ := List.mem_iff_getElem.1 hx
    obtain ⟨p, c, e, -⟩ := (h.each i (by rw [← h.len]; exact hi) hi).sliced
    rw [e]; rfl) (fun i h1 h2 => (h.each i h1 h2).later k)⟩
theorem Wants.app {w0 w w' : World} {G : List (List Rc)} {vs : List Value} {v v' : Value} {l : List Rc} {x : Value} (h : Wants w0 G vs v w) (hx : RecsAt l x w0) (h4 : w'.ownsRow w0.heap.size 22 1 v' (G.length + 1) (vs ++ [x])) : Wants w0 (G ++ [l]) (vs ++ [x]) v' w' := by
  refine ⟨by rw [List.length_append]; exact h4, by rw [List.length_append, List.length_append, h.len]; rfl, fun i h1 h2 => ?_⟩
  by_cases hi : i < G.length
  · have hv : i < vs.length := by rw [h.len]; exact hi
    rw [List.getElem_append_left hi, List.getElem_append_left hv]
    exact h.each i hi hv
  · have e : i = G.length := by rw [List.length_append] at h1; simp at h1; omega
    subst e
    have e2 : (vs ++ [x])[G.length]'h2 = x := by
      rw [List.getElem_append_right (by rw [h.len]; exact Nat.le_refl _)]
      simp
    rw [e2]
    simpa using hx

set_option maxRecDepth 100000 in
set_option maxHeartbeats 16000000 in
theorem journalJoins_of (JT : JTxOk) (JR : JReadOk) (AW : AwakeJ) (L : List (List Rc)) (v : Value) (w : World) (h : TxsAt L v w) (_ : L.length ≤ maxLen) (hr : ∀ l ∈ L, l.length ≤ maxLen) (hT : TabAt w) :
    Calls Tryd.prog 5 #[v] w fun e w' => e = .returned (.bool true) ∧ Kept w w' := by
  obtain ⟨ir, hir, hx⟩ := Option.map_eq_some_iff.1 infoRcs
  simp only [Prod.mk.injEq] at hx
  obtain ⟨hz0, hz1, hz2⟩ := hx
  have HIR := Lib.hid hir
  have HZ0 := Lib.hid hz0
  have HZ1 := Lib.hid hz1
  have HZ2 := Lib.hid hz2
  have HT := Lib.hid hT
  have HRL := Lib.hid hr
  obtain ⟨vs0, hA⟩ := h
  obtain ⟨p, c, rfl, -, -⟩ := hA.out
  have gA := fun i hi => hA.at_k i hi
  obtain ⟨n, hn⟩ : ∃ n, n = L.length := ⟨_, rfl⟩
  rw [← hn] at gA ⊢
  have GA := Lib.hid gA
  clear hir hz0 hz1 hz2 hT hr hA gA hn
  go_enter Tryd.func5, Tryd.ntmps5
  go_wp2
  go_loopg [3, 4, 5] n (fun gh s3 s4 s5 wx => ∃ (k : Nat) (G : List (List Rc)) (vs : List Value) (X : ByteArray), k + gh = n ∧ s5 = .int .i64 k ∧ s4 = .string X ∧ Hid (k ≤ 8 ∧ G.length ≤ k ∧ X.size ≤ 6010 * k) ∧ Hid (X = str (txsB G)) ∧ Hid (∀ l ∈ G, okTx l) ∧ Hid (Wants w G vs s3 wx) ∧ Hid (Kept w wx))
  case atStart => exact ⟨0, [], [], ⟨#[]⟩, by omega, rfl, rfl, Lib.hid (by simp [ByteArray.size]), Lib.hid rfl, Lib.hid (fun l hl => by simp at hl), Lib.hid (Wants.nil w), Lib.hid (Kept.refl w)⟩
  case round =>
    obtain ⟨k, G, vs, X, hk, rfl, rfl, HB, HX, HG, HW, HK⟩ := hrel
    obtain ⟨pw, cw, hw, -, -⟩ := own_slice HW.out.own
    subst hw
    have hb8 := HB.out.1
    by_cases hgo : k < n ∧ k < 8
    · obtain ⟨hkn, hk8⟩ := hgo
      have hki : (k : Int) < n := by omega
      have bk : decide ((k : Int) < (n : Int)) = true := by simpa using hki
      have bk8 : decide ((k : Int) < 8) = true := decide_eq_true (by omega)
      have hki0 : (0 : Int) ≤ k := by omega
      obtain ⟨k1, hk1⟩ : ∃ k1, k1 = k + 1 := ⟨_, rfl⟩
      have v1 : IntKind.i64.wrap ((k : Int) + 1) = (k1 : Int) := by rw [show (k : Int) + 1 = (k1 : Int) by omega]; exact IntWalk.i64_in _ (by omega)
      obtain ⟨l, lv, e1, hlm, hra, b, off, rfl, hrg⟩ := GA.out k hkn
      obtain ⟨pl, cl, hlv, -⟩ := hra.sliced
      have SM := fun W (kk : Kept w W) => small13_any l lv W (hra.later kk) (HRL.out l hlm)
      have TX := fun W (kk : Kept w W) (hs : smallJ l) => JT l lv W (hra.later kk) hs (HT.out.later kk)
      have HRA := Lib.hid hra
      obtain ⟨ll, hll⟩ : ∃ x, x = l.length := ⟨_, rfl⟩
      rw [← hll] at hlv
      subst hlv
      have HLL := Lib.hid hll
      have c0 : wr.cell? ⟨b, off + k, none⟩ = some (.slice pl ll cl) := HK.out.cell hrg
      have HK1 : Hid (k1 = k + 1 ∧ k + gk = n ∧ k < 8) := Lib.hid ⟨hk1, hk, hk8⟩
      obtain ⟨sl, hsl⟩ : ∃ x, x = decide (smallJ l) := ⟨_, rfl⟩
      rw [← hsl] at SM
      have HSL := Lib.hid hsl
      clear e1 hlm hra hrg hk1 hk hk8 hb8 hll hsl
      go_wp2_with fail
      refine (SM wr HK.out).mono ?_
      rintro e w1 ⟨rfl, rfl⟩
      clear SM
      cases sl with
      | false =>
        have A0 := AW wr (HT.out.later HK.out)
        clear TX c0 AW
        go_wp2_with fail
        refine A0.mono ?_
        rintro e w2 ⟨rfl, hb2⟩
        have K2 := Lib.hid ((show Kept w wr from HK.out).then hb2)
        clear A0 hb2
        go_wp2
        first | go_ret | go_ret2
        exact ⟨rfl, K2.out⟩
      | true =>
        have hsm := of_decide_eq_true HSL.out.symm
        have T1 := TX wr HK.out hsm
        clear TX
        by_cases he : txE l = 0
        · have hok : okTx l ∧ txT l = txB l ∧ (txB l).length ≤ 6010 := by
            have h0 : l.length ≠ 0 := fun h0 => by
              unfold txE at he
              rw [if_pos (Or.inl h0)] at he
              exact absurd he (by decide)
            have hm : ∀ r ∈ l, mayR r := Decidable.byContradiction fun hm => by
              have := (txE_bad h0 hsm.1 hm).1
              rw [he] at this
              exact absurd this (by decide)
            obtain ⟨_, a2, a3, a4⟩ := txE_good h0 hsm.1 hm
            exact ⟨a3, a2, a4⟩
          rw [he, hok.2.1] at T1
          obtain ⟨t, ht⟩ : ∃ t, t = str (txB l) := ⟨_, rfl⟩
          rw [← ht] at T1
          obtain ⟨tz, htz⟩ : ∃ z, z = t.size := ⟨_, rfl⟩
          have zt : t.size = tz := htz.symm
          have htl : tz ≤ 6010 := by rw [htz, ht, str_size]; exact hok.2.2
          obtain ⟨xz, hxz⟩ : ∃ z, z = X.size := ⟨_, rfl⟩
          have zx : X.size = xz := hxz.symm
          have hxl : xz ≤ 6010 * k := by rw [hxz]; exact HB.out.2.2
          obtain ⟨Y, hY⟩ : ∃ Y, Y = X ++ t := ⟨_, rfl⟩
          have cY : X ++ t = Y := hY.symm
          have s1 : ¬ 9223372036854775807 < xz + tz := by have := HK1.out; omega
          have HY : Hid (Y = str (txsB (G ++ [l]))) := Lib.hid (by
            rw [hY, HX.out, ht, str_append]
            congr 1
            unfold txsB
            rw [List.flatMap_append]
            simp)
          have HB1 : Hid (k1 ≤ 8 ∧ (G ++ [l]).length ≤ k1 ∧ Y.size ≤ 6010 * k1) := Lib.hid (by
            have := HK1.out
            have h2 := HB.out.2.1
            rw [hY, ByteArray.size_append, List.length_append]
            simp only [List.length_cons, List.length_nil]
            omega)
          have HG1 : Hid (∀ q ∈ G ++ [l], okTx q) := Lib.hid (fun q hq => by
            rcases List.mem_append.1 hq with z | z
            · exact HG.out q z
            · rw [List.mem_singleton.1 z]; exact hok.1)
          clear hsm he hok ht htz htl hxz hxl hY HX HG
          go_wp2_with fail
          refine T1.mono ?_
          rintro e w2 ⟨rfl, hb2⟩
          have K2 := Lib.hid ((show Kept w wr from HK.out).then hb2)
          have HW2 := Lib.hid (HW.out.stay hb2)
          have d0 := Kept.cell hb2 c0
          have HBS2 : Hid (w.heap.size ≤ w2.heap.size) := Lib.hid K2.out.size
          have HFL : Hid (FlatAt 1 1 [Value.slice pl ll cl] (.slice (some ⟨w2.heap.size, 0, none⟩) 1 1) (w2.alloc (.cells #[.slice pl ll cl] 22))) := Lib.hid (FlatAt.new w2 22 1 1 1 #[.slice pl ll cl] rfl (by intro y hy; simp at hy; subst hy; rfl))
          clear T1 hb2 c0 HW HK
          go_wp2_with (at_builtin; refine wpList_append_flat rfl _ _ 36 rfl w.heap.size 22 ir (.slice none 0 0) 1 24 Tryd.underlying36 HIR.out HZ0.out HZ1.out HZ2.out rfl (by decide) _ _ _ rfl (HW2.out.own.alloc _) _ 1 [Value.slice pl ll cl] rfl HFL.out ?wa1 ?wa2 ?wa3 ?_)
          case wa1 => have := HB.out; unfold maxLen; omega
          case wa2 => have := HB.out; omega
          case wa3 => have := HBS2.out; simp; omega
          intro v' w3 hown3 hg3 _
          have HW3 : Hid (Wants w (G ++ [l]) (vs ++ [.slice pl ll cl]) v' w3) := Lib.hid (HW2.out.app HRA.out hown3)
          have HK3 : Hid (Kept w w3) := Lib.hid (by
            refine ⟨hg3.os.trans K2.out.os, hg3.tape.trans K2.out.tape, hg3.output.trans K2.out.output, by have := hg3.size; have := K2.out.size; simp at *; omega, fun j hj => ?_⟩
            have hs := K2.out.size
            rw [hg3.block j (by simp; omega) (fun e => by have := (HW2.out.own.lt j e.symm).1; omega), Below.heap_alloc _ _ _ (by omega)]
            exact K2.out.block j hj)
          clear hown3 hg3 HW2 HFL K2 d0 HB
          go_wp2
          go_roundg (n - k1)
          · exact ⟨k1, G ++ [l], vs ++ [.slice pl ll cl], Y, by have := HK1.out; omega, by first | rfl | (congr 1; have := HK1.out; omega), rfl, HB1, HY, HG1, HW3, HK3⟩
          · have := HK1.out; omega
        · have be : (txE l == 0) = false := by rw [beq_eq_false_iff_ne]; exact he
          obtain ⟨te, hte⟩ : ∃ x, x = txE l := ⟨_, rfl⟩
          rw [← hte] at T1 be
          obtain ⟨tt, htt⟩ : ∃ x, x = str (txT l) := ⟨_, rfl⟩
          rw [← htt] at T1
          have HB1 : Hid (k1 ≤ 8 ∧ G.length ≤ k1 ∧ X.size ≤ 6010 * k1) := Lib.hid (by have := HK1.out; have h2 := HB.out; omega)
          clear hsm he hte htt
          go_wp2_with fail
          refine T1.mono ?_
          rintro e w2 ⟨rfl, hb2⟩
          have K2 := Lib.hid ((show Kept w wr from HK.out).then hb2)
          have HW2 := Lib.hid (HW.out.stay hb2)
          clear T1 hb2 HW HK HB c0
          go_wp2
          go_roundg (n - k1)
          · exact ⟨k1, G, vs, X, by have := HK1.out; omega, by first | rfl | (congr 1; have := HK1.out; omega), rfl, HB1, HX, HG, HW2, K2⟩
          · have := HK1.out; omega
    · have hcase : (decide ((k : Int) < (n : Int)) = false ∧ ¬ k < n) ∨ ((decide ((k : Int) < (n : Int)) = true ∧ k < n) ∧ (decide ((k : Int) < 8) = false ∧ ¬ k < 8)) := by
        by_cases h1 : (k : Int) < n
        · exact Or.inr ⟨⟨decide_eq_true h1, by omega⟩, decide_eq_false (by omega), by omega⟩
        · exact Or.inl ⟨decide_eq_false h1, by omega⟩
      have HXZ := HB.out
      have R1 := JR X wr (by omega) (HT.out.later HK.out)
      have hxl : X.data.toList = txsB G := by rw [HX.out, str_list]
      rw [hxl] at R1
      unfold JReadPost at R1
      have HJ : Hid (JRd (txsB G) G) := Lib.hid ⟨rfl, HG.out⟩
      have HGL : Hid (G.length ≤ 8) := Lib.hid (by omega)
      obtain ⟨gl, hgl⟩ : ∃ x, x = G.length := ⟨_, rfl⟩
      have HGE := Lib.hid hgl
      rw [← hgl]
      clear hgo HXZ hxl hb8 hk hgl HB
      rcases hcase with ⟨b1, b3⟩ | ⟨⟨b1, b3⟩, b2, b4⟩
      all_goals (
        go_wp2_with fail
        refine R1.mono ?_
        rintro e w2 ⟨hb2, hcs⟩
        have K2 := Lib.hid ((show Kept w wr from HK.out).then hb2)
        rcases hcs with ⟨hno, -⟩ | ⟨M, gv, hj, rfl, hg⟩
        · exact absurd ⟨G, HJ.out⟩ hno
        · obtain rfl : M = G := hj.one HJ.out
          have AL := all13_any M M gv (.slice pw gl cw) w2 hg (by rw [HGE.out]; exact (HW.out.stay hb2).at_ K2.out) (by have := HGL.out; omega) (fun l hl => ((HJ.out).2 l hl).mid)
          have hMM : decide (M = M) = true := decide_eq_true rfl
          rw [hMM] at AL
          obtain ⟨vg, hvg⟩ := hg
          obtain ⟨pg, cg, hpg, -, -⟩ := hvg.out
          rw [← HGE.out] at hpg
          subst hpg
          clear R1 hb2 hj hvg
          go_wp2_with fail
          refine AL.mono ?_
          rintro e w3 ⟨rfl, hb3⟩
          have K3 := Lib.hid ((show Kept w w2 from K2.out).then hb3)
          have A3 := AW w3 (HT.out.later K3.out)
          clear AL hb3
          go_wp2_with fail
          refine A3.mono ?_
          rintro e w4 ⟨rfl, hb4⟩
          have K4 := Lib.hid ((show Kept w w3 from K3.out).then hb4)
          clear A3 hb4
          go_wp2
          first | go_ret | go_ret2
          exact ⟨rfl, K4.out⟩)

end Go.Proofs.YtoigembmbajopaaDoor
namespace Go.Proofs.YtoigembmbajopaaDoor
open Go.RowKit

def r7 : Rc := ⟨4, 7, [], 0, []⟩
def t7 : List UInt8 := txB [r7]
def s7a : Dk := Dk.new 5
def s7b : Dk := (jAp s7a 2 0 t7).1
theorem r7_may : ∀ r ∈ [r7], mayR r := by decide
theorem r7_small : smallJ [r7] := by decide
theorem r7_tx : txE [r7] = 0 ∧ txT [r7] = t7 ∧ okTx [r7] := by
  obtain ⟨a, b, c, -⟩ := txE_good (L := [r7]) (by decide) (by decide) r7_may
  exact ⟨a, b, c⟩
theorem t7_is : t7.length = 15 ∧ t7.getD 0 0 = 7 ∧ t7.getD 8 0 = 1 ∧ t7.getD 10 0 = 4 ∧ t7.getD 11 0 = 7 := by decide +kernel
theorem s7_app : (jAp s7a 2 0 t7).2 = (15, 0) := by decide +kernel
theorem s7_load : jLd s7b 2 15 = (t7, 0) := by decide +kernel
theorem s7_ops : s7a.ops = 0 ∧ s7b.ops ≤ 2 := by decide +kernel
theorem jAp_ok {s : Dk} (h : s.ok) (j u : Int) (t : List UInt8) : (jAp s j u t).1.ok := by
  unfold jAp
  split
  · exact h
  · split
    · exact h
    · unfold jApp
      split
      · exact h
      · split
        · exact h
        · exact putG_ok _ _ _ _ h
theorem s7_ok0 : s7a.ok := Dk.ok.new (by decide) (by decide)
theorem s7_ok1 : s7b.ok := jAp_ok s7_ok0 2 0 t7

set_option maxRecDepth 100000 in
set_option maxHeartbeats 8000000 in
theorem jawake_of (ND : NewDisk) (JT : JTxOk) (JR : JReadOk) (JL : JLoadOk) (JA : JAppendOk) : AwakeJ := fun w hT => by
  have HT := Lib.hid hT
  obtain ⟨t, ht⟩ : ∃ t, t = str t7 := ⟨_, rfl⟩
  have HTE := Lib.hid ht
  have zt : t.size = 15 := by rw [ht, str_size]; exact t7_is.1
  have hxl : t.data.toList = t7 := by rw [ht, str_list]
  have hg : ∀ (k : Nat) (h : k < t.size), t[k] = t7.getD k 0 := fun k h => by
    rw [← hxl, List.getD_eq_getElem?_getD, Array.getElem?_toList]
    have : t.data[k]? = some t.data[k] := Array.getElem?_eq_getElem h
    rw [this]; rfl
  have hx0 : t[0].toNat = 7 := by rw [hg 0 (by omega), t7_is.2.1]; rfl
  have hx8 : t[8].toNat = 1 := by rw [hg 8 (by omega), t7_is.2.2.1]; rfl
  have hx10 : t[10].toNat = 4 := by rw [hg 10 (by omega), t7_is.2.2.2.1]; rfl
  have hx11 : t[11].toNat = 7 := by rw [hg 11 (by omega), t7_is.2.2.2.2]; rfl
  have HXL := Lib.hid hxl
  have tt : (t.toList == t.toList) = true := by simp
  obtain ⟨W1, hW1⟩ : ∃ W1, W1 = w.alloc (.cells #[.int .i64 4, .int .u32 7, .string ⟨#[]⟩, .int .i64 0, .slice none 0 0] 30) := ⟨_, rfl⟩
  have HW1 := Lib.hid hW1
  have K1 : Hid (Kept w W1) := Lib.hid (by rw [hW1]; exact box_below _ _)
  have hra : RecsAt [r7] (.slice (some ⟨w.heap.size, 0, none⟩) 1 1) W1 := ⟨[(r7, .slice none 0 0)], rfl, fun a ha => by
      rw [List.mem_singleton.1 ha]
      exact ⟨RunsAt.nil _ _, by unfold I64; decide, by decide, by decide, by unfold I64; decide⟩, fun p n c e => by simp only [Value.slice.injEq] at e; omega, by
      rw [hW1]
      exact FlatAt.new w 30 5 1 1 #[.int .i64 4, .int .u32 7, .string ⟨#[]⟩, .int .i64 0, .slice none 0 0] rfl (by intro y hy; simp at hy; rcases hy with rfl | rfl | rfl | rfl | rfl <;> rfl)⟩
  have T1 := JT [r7] _ W1 hra r7_small (HT.out.later K1.out)
  rw [r7_tx.1, r7_tx.2.1, ← ht] at T1
  have ND5 := fun W => ND 5 W
  have HJL := Lib.hid JL
  have HJA := Lib.hid JA
  have HJR := Lib.hid JR
  clear hT hW1 hra ht hxl hg ND JT JL JA JR
  go_enter Tryd.func10, Tryd.ntmps10
  go_wp2_with (rw [← HW1.out])
  refine T1.mono ?_
  rintro e w2 ⟨rfl, hb2⟩
  have K2 := Lib.hid ((show Kept w W1 from K1.out).then hb2)
  have N5 := ND5 w2
  clear T1 hb2 ND5
  go_wp2_with fail
  refine N5.mono ?_
  rintro e w3 ⟨hb3, ⟨hn, _⟩ | ⟨-, ad, P, Bs0, rfl, D, hd0⟩⟩
  · exact absurd ⟨by decide, by decide⟩ hn
  rw [show Dk.new (5 : Int).toNat = s7a from rfl] at hd0
  have HD := Lib.hid D
  have HAB := Lib.hid (D.above _ _ _ hd0)
  have K3 := Lib.hid ((show Kept w w2 from K2.out).then hb3)
  have AP := HJA.out _ _ _ D s7a Bs0 w3 2 0 t hd0 s7_ok0 (by rw [s7_ops.1]; omega) (by unfold I64; omega) (by unfold I64; omega) (by rw [zt]; decide)
  rw [HXL.out, s7_app] at AP
  have hb2s : w.heap.size ≤ w2.heap.size := K2.out.size
  have HBS := Lib.hid hb2s
  clear N5 hb3 D hd0 HJA hb2s
  go_wp2_with fail
  refine AP.mono ?_
  rintro e w4 ⟨rfl, ⟨Bs1, hd1, hs1⟩, hb4⟩
  have K4 : Hid (Kept w w4) := Lib.hid (ButBy.kept hb4 (fun k hk => Nat.le_trans HBS.out (HAB.out k hk).1) K3.out K3.out.size)
  have LD := HJL.out _ _ _ HD.out s7b Bs1 w4 2 15 hd1 s7_ok1 (by have := s7_ops.2; omega) (by unfold I64; omega) (by unfold I64; omega)
  rw [s7_load, ← HTE.out] at LD
  clear AP hd1 hs1 hb4 HJL
  go_wp2_with fail
  refine LD.mono ?_
  rintro e w5 ⟨rfl, hb5⟩
  have K5 := Lib.hid ((show Kept w w4 from K4.out).then hb5)
  have R5 := HJR.out t w5 (by omega) (HT.out.later K5.out)
  unfold JReadPost at R5
  clear LD hb5 HJR
  go_wp2_with fail
  refine R5.mono ?_
  rintro e w6 ⟨hb6, hcs⟩
  have K6 := Lib.hid ((show Kept w w5 from K5.out).then hb6)
  rcases hcs with ⟨hno, -⟩ | ⟨M, gv, hj, rfl, hg⟩
  · exact absurd ⟨[[r7]], by rw [HXL.out]; exact JRd.tx r7_tx.2.2⟩ hno
  · have hM : M = [[r7]] := hj.one (by rw [HXL.out]; exact JRd.tx r7_tx.2.2)
    subst hM
    obtain ⟨vs, hvs⟩ := hg
    obtain ⟨pg, cg, hpg, -, -⟩ := hvs.out
    subst hpg
    obtain ⟨l1, v1, e1, -, hra, bg, og, rfl, hcg⟩ := hvs.at_k 0 (by simp)
    obtain rfl : [r7] = l1 := by simpa using e1
    obtain ⟨A1, eA1, hA1⟩ := hra
    obtain ⟨pa, ca, hpa, -, -⟩ := hA1.out
    have la : A1.length = 1 := by have := RecsIn.len eA1; simpa using this.symm
    rw [la] at hpa
    subst hpa
    obtain ⟨r1, tv1, e2, -, -, b1, o1, rfl, hrg⟩ := hA1.at_k eA1 0 (by omega)
    obtain rfl : r7 = r1 := by simpa using e2
    have d0 : w6.cell? ⟨bg, og, none⟩ = some (.slice (some ⟨b1, o1, none⟩) 1 ca) := by simpa using hcg
    have d1 : w6.cell? ⟨b1, o1 + 1, none⟩ = some (.int .u32 7) := by have := hrg 1 _ rfl; rw [Nat.zero_mul, Nat.add_zero] at this; exact this
    clear R5 hb6 hj hvs hcg e1 eA1 hA1 la e2 hrg
    go_wp2
    first | go_ret | go_ret2
    exact ⟨rfl, K6.out⟩

end Go.Proofs.YtoigembmbajopaaDoor
