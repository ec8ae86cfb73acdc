/- The landed extent's contracts, by their names; New, and a map that nobody made. -/
import Derived.Test.YtkdodffnakdckaaEcU
namespace Go.Proofs.Ytkdodffnakdckaa
open Go.RowKit

theorem mayOk : XMayOk := fun l v w a b h hl ha hb => emay_any l v w a b h (by omega) ha hb
theorem countOk : XCountOk := fun l v w h hl => ecount_any l v w h (by omega)
theorem hasOk : XHasOk := fun l v w a h hl _ => ehas_any l v w a h (by omega)
theorem own_out {l : List (Int × Int)} {f : FuncId} {args : Array Value} {w : World} (hw : wfR l) (h : Calls Try.prog f args w fun e w' => ∃ x, e = .returned x ∧ OwnRuns w.heap.size l x w' ∧ Below w.heap.size w w') :
    Calls Try.prog f args w fun e w' => ∃ x, e = .returned x ∧ RunsAt l x w' ∧ Kept w w' := h.mono fun _ _ ⟨x, he, ho, hb⟩ => ⟨x, he, ho.at_ hw, hb⟩
theorem plainOk : XPlainOk := fun l v w h hl => own_out (runsA_wf _) (eplain_any l v w h (by omega))
theorem joinOk : XJoinOk := fun la lb u v w ha hb hla hlb => own_out (runsA_wf _) (ejoin_any la lb u v w ha hb (by omega) (by omega))
theorem minusOk : XMinusOk := fun la lb u v w ha hb hla hlb => own_out (runsA_wf _) (eminus_any la lb u v w ha hb (by omega) (by omega))
theorem commonOk : XCommonOk := fun la lb u v w ha hb hla hlb => own_out (runsA_wf _) (ecommon_any la lb u v w ha hb (by omega) (by omega))
theorem lowestOk : XLowestOk := fun l v w n h hl hn => (elowest_any l v w n h (by omega) hn).mono fun _ _ ⟨x, he, ho, hb⟩ => ⟨x, he, ho.at_ (lowL_wf _ _), hb⟩

/-- A map of the program's, whatever its blocks. -/
def EMapP (B g : Nat) (s : Mp) (Bs : Nat → Prop) (w : World) : Prop := ∃ v, Bs = MBs g v ∧ EMap B g s v w
theorem mapOk (B g : Nat) : MapOk B (.pointer (some ⟨g, 0, none⟩)) (EMapP B g) where
  above := by rintro s _ w ⟨v, rfl, h⟩ k hk; exact h.lt k hk
  stay := by rintro s _ w w' ⟨v, rfl, h⟩ _ hk; exact ⟨v, rfl, h.stay hk⟩
  take := by
    rintro s _ w n ⟨v, rfl, h⟩ hs hn
    refine (etake_any h n hn).mono ?_
    rintro e w' ⟨y, z, he, hy, ha, hnw, hm, hsub, hb⟩
    exact ⟨y, _, he, hy, ha, hnw, ⟨z, rfl, hm⟩, hsub, hb⟩
  hold := by
    rintro s _ w l v ⟨u, rfl, h⟩ hs hl hl9 ha
    refine (ehold_any h hs l v hl hl9 ha).mono ?_
    rintro e w' ⟨z, he, hm, hsub, hb⟩
    exact ⟨_, he, ⟨z, rfl, hm⟩, hsub, hb⟩
  give := by
    rintro s _ w l v ⟨u, rfl, h⟩ hs hl hl9 ha
    refine (egive_any h hs l v hl hl9 ha).mono ?_
    rintro e w' ⟨z, he, hm, hsub, hb⟩
    exact ⟨_, he, ⟨z, rfl, hm⟩, hsub, hb⟩
  free := by
    rintro s _ w ⟨v, rfl, h⟩ hs
    refine (efree_any h).mono ?_
    rintro e w' ⟨y, he, ho, hb⟩
    exact ⟨y, he, ho.at_ (runsA_wf _), (LiveAt.own ho (runsA_wf _) (fun k hk => (h.lt k hk).2)).apart, hb⟩
  room := by
    rintro s _ w ⟨v, rfl, h⟩ hs
    exact eroom_any h

def NewPost (a b : Int) (w : World) (e : Ending) (w' : World) : Prop := Kept w w' ∧
  ((¬ (0 ≤ a ∧ a ≤ b ∧ b ≤ 8192) ∧ e = .returned (.tuple #[.pointer none, .int .i64 5])) ∨
   ((0 ≤ a ∧ a ≤ b ∧ b ≤ 8192) ∧ ∃ ad P Bs, e = .returned (.tuple #[.pointer (some ad), .int .i64 0]) ∧ MapOk w.heap.size (.pointer (some ad)) P ∧ P ⟨a.toNat, b.toNat, fun _ => false⟩ Bs w'))

set_option maxRecDepth 100000 in
set_option maxHeartbeats 4000000 in
theorem new_any (a b : Int) (w : World) : Calls Try.prog 28 #[.int .i64 a, .int .i64 b] w (NewPost a b w) := by
  by_cases h1 : a < 0
  · go_enter Try.func28, Try.ntmps28
    go_wp2
    go_ret2
    exact ⟨Kept.refl w, Or.inl ⟨by omega, rfl⟩⟩
  · by_cases h2 : a > b
    · go_enter Try.func28, Try.ntmps28
      go_wp2
      go_ret2
      exact ⟨Kept.refl w, Or.inl ⟨by omega, rfl⟩⟩
    · by_cases h3 : b > 8192
      · go_enter Try.func28, Try.ntmps28
        go_wp2
        go_ret2
        exact ⟨Kept.refl w, Or.inl ⟨by omega, rfl⟩⟩
      · obtain ⟨n, rfl⟩ : ∃ n : Nat, a = n := ⟨a.toNat, by omega⟩
        obtain ⟨m, rfl⟩ : ∃ m : Nat, b = m := ⟨b.toNat, by omega⟩
        obtain ⟨d, hd⟩ : ∃ d : Nat, d = m - n := ⟨_, rfl⟩
        have v1 : IntKind.i64.wrap ((m : Int) - (n : Int)) = (d : Int) := by rw [show (m : Int) - (n : Int) = (d : Int) by omega]; exact IntWalk.i64_in _ (by omega)
        have hwf : wfR [((n : Int), (d : Int))] := fun r hr => by rw [List.mem_singleton.1 hr]; show ((-9223372036854775808 : Int) ≤ (n : Int) ∧ (n : Int) ≤ 9223372036854775807) ∧ ((-9223372036854775808 : Int) ≤ (d : Int) ∧ (d : Int) ≤ 9223372036854775807); omega
        have PL := eplain_any [((n : Int), (d : Int))] _ _ (RunsAt.new w [((n : Int), (d : Int))] hwf 1 rfl #[.int .i64 (n : Int), .int .i64 (d : Int)] rfl) (by simp)
        have he : runsA (hasR [((n : Int), (d : Int))]) = runsA (freeF ⟨n, m, fun _ => false⟩) := runsA_congr fun k hk => by
          rw [hasR_one]
          unfold inR freeF
          simp only [Bool.not_false, Bool.and_true]
          exact decide_eq_decide.2 (by omega)
        rw [he] at PL
        have HK1 := Lib.hid (box_below w (.cells #[.int .i64 (n : Int), .int .i64 (d : Int)] 57))
        have HRG : Hid (0 ≤ (n : Int) ∧ (n : Int) ≤ (m : Int) ∧ (m : Int) ≤ 8192) := Lib.hid (by omega)
        clear hd hwf he
        go_enter Try.func28, Try.ntmps28
        go_wp2_with fail
        refine PL.mono ?_
        rintro e w1 ⟨v, rfl, ho, hb1⟩
        have HK2 : Hid (Kept w w1) := Lib.hid ((show Kept w _ from HK1.out).then hb1)
        have hsz : w.heap.size ≤ w1.heap.size := HK2.out.size
        have hob : w.heap.size ≤ (w.alloc (.cells #[.int .i64 (n : Int), .int .i64 (d : Int)] 57)).heap.size := by simp
        have HE : Hid (EMap w.heap.size w1.heap.size ⟨n, m, fun _ => false⟩ v (w1.alloc (.cells (mapA w1.heap.size ⟨n, m, fun _ => false⟩ v) 69))) := Lib.hid
          ⟨hsz, heap_alloc_last w1 _, OwnRuns.base (show OwnRuns _ (runsA (freeF ⟨n, m, fun _ => false⟩)) v _ from own_stay ho (fun k e => (box_below w1 _).block k (World.ownsRow.lt ho k e).2)) hob⟩
        have HK3 : Hid (Kept w (w1.alloc (.cells (mapA w1.heap.size ⟨n, m, fun _ => false⟩ v) 69))) := Lib.hid (HK2.out.then (box_below w1 _))
        obtain ⟨pv, cv, hv, -, -⟩ := own_slice ho
        obtain ⟨lv, hlv⟩ : ∃ lv, lv = (runsA (freeF ⟨n, m, fun _ => false⟩)).length := ⟨_, rfl⟩
        rw [← hlv] at hv
        subst hv
        clear PL ho hb1 hsz hob hlv
        go_wp2
        go_ret2
        refine ⟨HK3.out, Or.inr ⟨HRG.out, ⟨w1.heap.size, 0, none⟩, EMapP w.heap.size w1.heap.size, _, rfl, mapOk _ _, _, rfl, HE.out⟩⟩

theorem newOk : XNewOk := fun a b w _ _ => new_any a b w

set_option maxRecDepth 100000 in
theorem emade_nil (w : World) : Calls Try.prog 49 #[.pointer none] w fun e w' => e = .returned (.bool false) ∧ w = w' := by
  go_enter Try.func49, Try.ntmps49
  go_wp2
  go_ret
  exact ⟨rfl, rfl⟩
set_option maxRecDepth 100000 in
theorem erefuses_nil (p : Option Addr) (n c : Nat) (w : World) : Calls Try.prog 50 #[.pointer none, .slice p n c] w fun e w' => e = .returned (.int .i64 4) ∧ w = w' := by
  go_enter Try.func50, Try.ntmps50
  go_wp2_with fail
  refine (emade_nil _).mono ?_
  rintro e w' ⟨rfl, rfl⟩
  go_wp2
  go_ret
  exact ⟨rfl, rfl⟩
set_option maxRecDepth 100000 in
theorem efree_nil (w : World) : Calls Try.prog 35 #[.pointer none] w fun e w' => e = .returned (.slice none 0 0) ∧ w = w' := by
  go_enter Try.func35, Try.ntmps35
  go_wp2_with fail
  refine (emade_nil _).mono ?_
  rintro e w' ⟨rfl, rfl⟩
  go_wp2
  go_ret
  exact ⟨rfl, rfl⟩

set_option maxRecDepth 100000 in
set_option maxHeartbeats 1000000 in
theorem nilOk : XNilOk := by
  refine ⟨fun n w => ?_, fun p n c w => ?_, fun p n c w => ?_, fun w => ?_, fun w => ?_⟩
  · go_enter Try.func30, Try.ntmps30
    go_wp2_with fail
    refine (emade_nil _).mono ?_
    rintro e w' ⟨rfl, rfl⟩
    go_wp2
    go_ret2
    exact ⟨⟨_, _, rfl⟩, Kept.refl _⟩
  · go_enter Try.func32, Try.ntmps32
    go_wp2_with fail
    refine (erefuses_nil _ _ _ _).mono ?_
    rintro e w' ⟨rfl, rfl⟩
    go_wp2
    go_ret
    exact ⟨rfl, Kept.refl _⟩
  · go_enter Try.func34, Try.ntmps34
    go_wp2_with fail
    refine (erefuses_nil _ _ _ _).mono ?_
    rintro e w' ⟨rfl, rfl⟩
    go_wp2
    go_ret
    exact ⟨rfl, Kept.refl _⟩
  · refine (efree_nil w).mono ?_
    rintro e w' ⟨rfl, rfl⟩
    exact ⟨⟨_, _, rfl⟩, Kept.refl _⟩
  · have CT := fun W => ecount_any [] (.slice none 0 0) W (RunsAt.nil W 0) (by simp)
    have hz : cntA (hasR []) = 0 := cntF_none fun _ _ => rfl
    rw [hz] at CT
    clear hz
    go_enter Try.func37, Try.ntmps37
    go_wp2_with fail
    refine (efree_nil _).mono ?_
    rintro e w' ⟨rfl, rfl⟩
    go_wp2_with fail
    refine (CT _).mono ?_
    rintro e w2 ⟨rfl, hb⟩
    have HB := Lib.hid hb
    clear CT hb
    go_wp2
    go_ret
    exact ⟨rfl, HB.out⟩

end Go.Proofs.Ytkdodffnakdckaa
