/- The landed journal's Append; a nil disk. The walks of the six laws of journal, out of the contracts of the landed code. -/
import Derived.Test.YtoigembmbajopaaDoorHA
import Derived.Test.YtoigembmbajopaaDoorHE
import Derived.Test.YtoigembmbajopaaDoorGM
import Derived.Test.YtoigembmbajopaaDoorGQ
import Derived.Test.YtoigembmbajopaaDoorGY
namespace Go.Proofs.YtoigembmbajopaaDoor
open Go.RowKit

theorem empty_text (t : ByteArray) : t.toList.isEmpty = decide (t.size = 0) := by
  have h := data_len t
  have e : t.toList = t.data.toList := by rw [ByteArray.toList_eq]
  rw [e]
  cases h2 : t.data.toList with
  | nil =>
    have h3 : t.size = 0 := by rw [← h, h2]; rfl
    rw [h3]; rfl
  | cons a l =>
    have h3 : t.size = l.length + 1 := by rw [← h, h2]; rfl
    rw [h3]; simp

set_option maxRecDepth 100000 in
set_option maxHeartbeats 16000000 in
theorem appendOkJ : JAppendOk := by
  intro B x P D s Bs w j u t hp hok hlo hj hu ht
  have RF := jrefuses_any D hp hok j u hj hu
  have DN := fun W (k : Kept w W) => D.down s Bs W (D.kept hp k)
  have WR := fun W (k : Kept w W) => jwrite_any D (D.kept hp k) hok hlo
  have HKP : Hid (∀ W, Kept w W → P s Bs W) := Lib.hid (fun W k => D.kept hp k)
  obtain ⟨ad, hx⟩ := D.ptr
  subst hx
  obtain ⟨R, hR⟩ : ∃ R, R = jAp s j u t.data.toList := ⟨_, rfl⟩
  rw [← hR]
  have HR := Lib.hid hR
  have hdl := data_len t
  obtain ⟨tz, htz⟩ : ∃ tz, tz = t.size := ⟨_, rfl⟩
  have zt : t.size = tz := htz.symm
  rw [zt] at ht hdl
  have hmost := hok.most
  unfold maxLen at ht
  have HOK := Lib.hid hok
  clear hp D hR
  by_cases hf : jFits s.stands.length j u
  · rw [if_pos hf] at RF
    have hf' := hf
    unfold jFits at hf'
    obtain ⟨z, rfl⟩ : ∃ z : Nat, u = z := ⟨u.toNat, by omega⟩
    obtain ⟨m, hm⟩ : ∃ m : Int, m = j * 128 := ⟨_, rfl⟩
    have v1 : IntKind.i64.wrap (j * 128) = m := by rw [← hm]; exact IntWalk.i64_in _ (by omega)
    obtain ⟨y, hy⟩ : ∃ y : Int, y = m - (z : Int) := ⟨_, rfl⟩
    have v2 : IntKind.i64.wrap (m - (z : Int)) = y := by rw [← hy]; exact IntWalk.i64_in _ (by omega)
    by_cases hfull : (tz : Int) > y
    · have b1 : decide ((tz : Int) > y) = true := decide_eq_true hfull
      have e1 : R = (s, 0, 100) := by rw [HR.out]; unfold jAp; rw [if_neg (fun z => z hf), if_pos (by omega)]
      have HE := Lib.hid e1
      clear hf hf' hfull hm hy WR DN e1 htz
      go_enter Tryd.func24, Tryd.ntmps24
      go_wp2_with fail
      refine RF.mono ?_
      rintro e w1 ⟨rfl, hb1⟩
      have K1 := Lib.hid hb1
      clear RF hb1
      go_wp2
      first | go_ret | go_ret2
      exact ⟨by rw [HE.out]; rfl, ⟨Bs, by rw [HE.out]; exact HKP.out _ K1.out, fun k hk => Or.inl hk⟩, ButBy.below K1.out⟩
    · have b1 : decide ((tz : Int) > y) = false := decide_eq_false hfull
      have e1 : R = ((jApp s z t.data.toList).1, if (jApp s z t.data.toList).2 = 0 then (z : Int) + t.data.toList.length else 0, (jApp s z t.data.toList).2) := by
        rw [HR.out]; unfold jAp; rw [if_neg (fun z => z hf), if_neg (by omega), Int.toNat_natCast]
      by_cases hd : s.down = true
      · rw [hd] at DN
        have e2 : jApp s z t.data.toList = (s, 90) := by unfold jApp; rw [if_pos hd]
        have HE : Hid (R = (s, 0, 90)) := Lib.hid (by rw [e1, e2]; rfl)
        clear hf hf' hfull hm hy WR e1 e2 hd htz
        go_enter Tryd.func24, Tryd.ntmps24
        go_wp2_with fail
        refine RF.mono ?_
        rintro e w1 ⟨rfl, hb1⟩
        have K1 := Lib.hid hb1
        have D1 := DN w1 hb1
        clear RF hb1 DN
        go_wp2_with fail
        refine D1.mono ?_
        rintro e w2 ⟨rfl, hb2⟩
        have K2 := Lib.hid ((show Kept w w1 from K1.out).then hb2)
        clear D1 hb2
        go_wp2
        first | go_ret | go_ret2
        exact ⟨by rw [HE.out]; rfl, ⟨Bs, by rw [HE.out]; exact HKP.out _ K2.out, fun k hk => Or.inl hk⟩, ButBy.below K2.out⟩
      · have hd' : s.down = false := by simpa using hd
        rw [hd'] at DN
        by_cases h0 : tz = 0
        · have b2 : t.toList.isEmpty = true := by rw [empty_text, zt]; exact decide_eq_true h0
          have b3 : (t.toList == []) = true := by rw [← b2]; cases t.toList <;> rfl
          have e2 : jApp s z t.data.toList = (s, 0) := by unfold jApp; rw [if_neg hd, if_pos (by omega)]
          have HE : Hid (R = (s, (z : Int), 0)) := Lib.hid (by rw [e1, e2, if_pos rfl, hdl, h0]; simp)
          clear hf hf' hfull hm hy WR e1 e2 hd hd' htz h0
          go_enter Tryd.func24, Tryd.ntmps24
          go_wp2_with fail
          refine RF.mono ?_
          rintro e w1 ⟨rfl, hb1⟩
          have K1 := Lib.hid hb1
          have D1 := DN w1 hb1
          clear RF hb1 DN
          go_wp2_with fail
          refine D1.mono ?_
          rintro e w2 ⟨rfl, hb2⟩
          have K2 := Lib.hid ((show Kept w w1 from K1.out).then hb2)
          clear D1 hb2
          go_wp2
          first | go_ret | go_ret2
          exact ⟨by rw [HE.out]; rfl, ⟨Bs, by rw [HE.out]; exact HKP.out _ K2.out, fun k hk => Or.inl hk⟩, ButBy.below K2.out⟩
        · have b2 : t.toList.isEmpty = false := by rw [empty_text, zt]; exact decide_eq_false h0
          have b3 : (t.toList == []) = false := by cases h : t.toList with
            | nil => rw [h] at b2; cases b2
            | cons a l => rfl
          obtain ⟨f, hff⟩ : ∃ f, f = z / 128 := ⟨_, rfl⟩
          obtain ⟨q, hq⟩ : ∃ q, q = z % 128 := ⟨_, rfl⟩
          obtain ⟨f2, hf2⟩ : ∃ f2, f2 = 2 + f := ⟨_, rfl⟩
          have d1 : (z : Int).tdiv 128 = (f : Int) := by rw [Int.tdiv_eq_ediv_of_nonneg (by omega)]; omega
          have d2 : (z : Int) / 128 = (f : Int) := by omega
          have d3 : IntKind.i64.wrap (f : Int) = (f : Int) := IntWalk.i64_in _ (by omega)
          have d4 : (z : Int).tmod 128 = (q : Int) := by rw [Int.tmod_eq_emod_of_nonneg (by omega)]; omega
          have d5 : (z : Int) % 128 = (q : Int) := by omega
          have d6 : IntKind.i64.wrap (q : Int) = (q : Int) := IntWalk.i64_in _ (by omega)
          have d7 : IntKind.i64.wrap (2 + (f : Int)) = (f2 : Int) := by rw [show 2 + (f : Int) = (f2 : Int) by omega]; exact IntWalk.i64_in _ (by omega)
          obtain ⟨n, hn⟩ : ∃ n, n = cntJ (q + tz) := ⟨_, rfl⟩
          have hby := cntJ_bytes (q + tz)
          rw [← hn] at hby
          have hvl := hok.vis_len (2 + f) (by omega)
          have hTl : (jApT s z t.data.toList).length = q + tz := by
            unfold jApT
            rw [List.length_append, List.length_take, ← hff, hvl, ← hq, hdl]; omega
          obtain ⟨RW, hRW⟩ : ∃ RW, RW = putG s (secJ f n) ((s.vis (2 + f)).take q ++ t.data.toList) 0 n := ⟨_, rfl⟩
          have e2 : jApp s z t.data.toList = RW := by
            unfold jApp
            rw [if_neg hd, if_neg (by omega), hTl, ← hn, hRW]
            unfold jApT
            rw [← hff, ← hq]
          have WC := fun W (k : Kept w W) => WR W k hd' f q n t (by omega) (by rw [zt, hn]) (by omega) (by omega) (f2 : Int) (by omega) (q : Int) rfl
          rw [← hRW] at WC
          obtain ⟨sw, ew, hsw⟩ : ∃ sw ew, RW = (sw, ew) := ⟨_, _, rfl⟩
          rw [hsw] at WC e2
          have HE : Hid (R = (sw, if ew = 0 then (z : Int) + tz else 0, ew)) := Lib.hid (by rw [e1, e2, hdl])
          obtain ⟨v, hv⟩ : ∃ v : Int, v = (z : Int) + tz := ⟨_, rfl⟩
          have v3 : IntKind.i64.wrap ((z : Int) + (tz : Int)) = v := by rw [← hv]; exact IntWalk.i64_in _ (by omega)
          rw [← hv] at HE
          unfold DPost at WC
          clear hf hf' hfull hm hy WR e1 e2 hd hd' htz h0 hff hq hf2 hn hby hvl hTl hRW hsw hv RW hmost
          go_enter Tryd.func24, Tryd.ntmps24
          go_wp2_with fail
          refine RF.mono ?_
          rintro e w1 ⟨rfl, hb1⟩
          have K1 := Lib.hid hb1
          have D1 := DN w1 hb1
          clear RF hb1 DN
          go_wp2_with fail
          refine D1.mono ?_
          rintro e w2 ⟨rfl, hb2⟩
          have K2 := Lib.hid ((show Kept w w1 from K1.out).then hb2)
          have W2 := WC w2 K2.out
          clear D1 hb2 WC
          go_wp2_with fail
          refine W2.mono ?_
          rintro e w3 ⟨rfl, ⟨C3, hp3, hc3⟩, hb3⟩
          have HP3 := Lib.hid hp3
          have HC3 : Hid (∀ k, C3 k → Bs k ∨ w.heap.size ≤ k) := Lib.hid (fun k hk => (hc3 k hk).imp id (fun z => Nat.le_trans K2.out.size z))
          have HB3 : Hid (ButBy Bs w w3) := Lib.hid ((ButBy.below K2.out).trans hb3)
          clear W2 hp3 hc3 hb3
          by_cases he : ew = 0
          · subst he
            have HE2 : Hid (R = (sw, v, 0)) := Lib.hid (by rw [HE.out, if_pos rfl])
            go_wp2
            first | go_ret | go_ret2
            exact ⟨by rw [HE2.out]; rfl, ⟨C3, by rw [HE2.out]; exact HP3.out, HC3.out⟩, HB3.out⟩
          · have be : (ew != 0) = true := by simpa using he
            have HE2 : Hid (R = (sw, 0, ew)) := Lib.hid (by rw [HE.out, if_neg he])
            clear he
            go_wp2
            first | go_ret | go_ret2
            exact ⟨by rw [HE2.out]; rfl, ⟨C3, by rw [HE2.out]; exact HP3.out, HC3.out⟩, HB3.out⟩
  · rw [if_neg hf] at RF
    have HE : Hid (R = (s, 0, 1)) := Lib.hid (by rw [HR.out]; unfold jAp; rw [if_pos hf])
    clear hf WR DN htz
    go_enter Tryd.func24, Tryd.ntmps24
    go_wp2_with fail
    refine RF.mono ?_
    rintro e w1 ⟨rfl, hb1⟩
    have K1 := Lib.hid hb1
    clear RF hb1
    go_wp2
    first | go_ret | go_ret2
    exact ⟨by rw [HE.out]; rfl, ⟨Bs, by rw [HE.out]; exact HKP.out _ K1.out, fun k hk => Or.inl hk⟩, ButBy.below K1.out⟩

set_option maxRecDepth 100000 in
theorem dlen_nilJ (w : World) : Calls Tryd.prog 101 #[.pointer none] w fun e w' => e = .returned (.int .i64 0) ∧ w = w' := by
  go_enter Tryd.func101, Tryd.ntmps101
  go_wp2_with fail
  refine (dmade_nil _).mono ?_
  rintro e w' ⟨rfl, rfl⟩
  go_wp2
  go_ret
  exact ⟨rfl, rfl⟩
set_option maxRecDepth 100000 in
theorem jrefuses_nil (j u : Int) (w : World) : Calls Tryd.prog 68 #[.pointer none, .int .i64 j, .int .i64 u] w fun e w' => e = .returned (.int .i64 4) ∧ w = w' := by
  go_enter Tryd.func68, Tryd.ntmps68
  go_wp2_with fail
  refine (dlen_nilJ _).mono ?_
  rintro e w' ⟨rfl, rfl⟩
  go_wp2
  go_ret
  exact ⟨rfl, rfl⟩
set_option maxRecDepth 100000 in
theorem nilOkJ : JNilOk := by
  refine ⟨fun j u w _ _ => ?_, fun j u t w _ _ _ => ?_⟩
  · go_enter Tryd.func26, Tryd.ntmps26
    go_wp2_with fail
    refine (jrefuses_nil j u _).mono ?_
    rintro e w' ⟨rfl, hw⟩
    subst hw
    go_wp2
    first | go_ret | go_ret2
    exact ⟨rfl, Kept.refl _⟩
  · go_enter Tryd.func24, Tryd.ntmps24
    go_wp2_with fail
    refine (jrefuses_nil j u _).mono ?_
    rintro e w' ⟨rfl, hw⟩
    subst hw
    go_wp2
    first | go_ret | go_ret2
    exact ⟨rfl, Kept.refl _⟩

end Go.Proofs.YtoigembmbajopaaDoor
namespace Go.Proofs.YtoigembmbajopaaDoor

theorem jawake : AwakeJ := jawake_of newDisk txOk readOk loadOkJ appendOkJ
theorem walk_journalRecs (w : World) (v : Value) (L : List Rc) (hv : RecsAt L v w) (hl : L.length ≤ maxLen) (hT : TabAt w) :
    Calls Tryd.prog 3 #[v] w (LawPost w) := journalRecs_of checkOk sameOkJ txOk readOk jawake L v w hv hl hT
theorem walk_journalReads (s : ByteArray) (_ : s.size ≤ maxLen) (w : World) (hT : TabAt w) :
    Calls Tryd.prog 4 #[.string s] w (LawPost w) := journalReads_of readOk jawake s w hT
theorem walk_journalJoins (w : World) (v : Value) (L : List (List Rc)) (hv : TxsArg L v w) (hl : L.length ≤ maxLen) (hT : TabAt w) :
    Calls Tryd.prog 5 #[v] w (LawPost w) := journalJoins_of txOk readOk jawake L v w hv.1 hl hv.2 hT
theorem walk_journalAppends (w : World) (v : Value) (hv : CaseAt v w) (hT : TabAt w) :
    Calls Tryd.prog 6 #[v] w (LawPost w) := by
  obtain ⟨n, zs, vb, fz, j, u, t, l, vk, rfl, ⟨hn, hf, hj, hu⟩, ht, ⟨hb, hz, hzl⟩, hk, hkl⟩ := hv
  exact journalAppends_of newDisk loadOkJ appendOkJ jawake n hn zs vb fz j u hf hj hu t ht l vk w hb hz hzl hk hkl hT
theorem walk_journalAhead (w : World) (v : Value) (hv : CaseAt v w) (hT : TabAt w) :
    Calls Tryd.prog 7 #[v] w (LawPost w) := by
  obtain ⟨n, zs, vb, fz, j, u, t, l, vk, rfl, ⟨hn, hf, hj, hu⟩, ht, ⟨hb, hz, hzl⟩, hk, hkl⟩ := hv
  exact journalAhead_of newDisk loadOkJ appendOkJ jawake n hn zs vb fz j u hf hj hu t ht l vk w hb hz hzl hk hkl hT
theorem walk_journalNobody (w : World) (v : Value) (hv : CaseAt v w) (hT : TabAt w) :
    Calls Tryd.prog 8 #[v] w (LawPost w) := by
  obtain ⟨n, zs, vb, fz, j, u, t, l, vk, rfl, ⟨hn, hf, hj, hu⟩, ht, ⟨hb, hz, hzl⟩, hk, hkl⟩ := hv
  exact journalNobody_of nilOkJ jawake n vb fz j u hj hu t ht vk w hT

end Go.Proofs.YtoigembmbajopaaDoor
