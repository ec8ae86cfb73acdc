/- The walk of a search's step. -/
import Derived.Test.YtimllddlcjnikaaDoorCutW
import Derived.Deep.RegionHeld
namespace Go.Proofs.YtimllddlcjnikaaDoor
open Go.RowKit

theorem tab_grown {w w' : World} {b : Nat} (h : TabAt w) (hb : 0 ≠ b) (hg : w.grownBy w' (some b)) : TabAt w' := fun i hi => by
  have h0 := h i hi
  have hlt := World.block_lt_of_cell? _ _ h0
  unfold World.cell? at *
  rw [hg.block _ hlt (by intro e; exact hb (Option.some.inj e))]
  exact h0

theorem grown_drew (w : World) (r : Option Nat) : w.grownBy w.drew r := ⟨rfl, rfl, rfl, Nat.le_refl _, fun _ _ _ => rfl⟩

set_option maxRecDepth 100000 in
set_option maxHeartbeats 4000000 in
theorem step_any (b o : Nat) (T : TypeId) (R0 C : Array Value) (n fr h k : Nat) (s : ByteArray) (hs : s.size ≤ 1000000) (w : World) (hT : TabAt w) (hb : 0 ≠ b)
    (hI : SrchIn b o T R0 C n fr h k w) (hn : n < s.size) (hfr : fr ≤ 4097) (hf : fr ≤ n → 16 ≤ fr ∧ h = rsum (s.data.toList.take n)) :
    Calls Tryd.prog 38 #[.pointer (some ⟨b, o, none⟩), .string s] w fun e w' => e = .returned (.tuple #[]) ∧
      SrchIn b o T R0 C (n + 1) fr (rsum (s.data.toList.take (n + 1))) k w' ∧ w.grownBy w' (some b) := by
  have hz := data_len s
  have c13 := hI.cn
  have c14 := hI.cf
  have c15 := hI.ch
  have HI := Lib.hid hI
  have HB := Lib.hid hb
  obtain ⟨l, hl⟩ : ∃ l, l = s.data.toList := ⟨_, rfl⟩
  rw [← hl] at hz hf ⊢
  have HL := Lib.hid hl
  have HZ := Lib.hid hz
  clear hl hz hb
  by_cases hc : n < fr
  · have hcut := cut_list s (n + 1) (by omega)
    rw [← HL.out] at hcut
    obtain ⟨tx, htx⟩ : ∃ tx, s.extract 0 (n + 1) = tx := ⟨_, rfl⟩
    rw [htx] at hcut
    have SU := sum_any tx (by unfold maxLen; omega)
    rw [hcut.1] at SU
    obtain ⟨r, hr⟩ : ∃ r, r = rsum (l.take (n + 1)) := ⟨_, rfl⟩
    rw [← hr] at SU ⊢
    have HR := Lib.hid hr
    have e1 : ((n : Int) + 1).toNat = n + 1 := by omega
    have hi1 : (n : Int) + 1 ≤ s.size := by omega
    have hi2 : n + 1 ≤ s.size := by omega
    have hci : (n : Int) < fr := by omega
    clear hcut hr hI hf hc hfr
    go_enter Tryd.func38, Tryd.ntmps38
    go_wp2
    go_quiet (fail)
    obtain ⟨W, hW⟩ : ∃ W, W = w.drewN nq := ⟨_, rfl⟩
    have hTW : TabAt W := by rw [hW]; exact hT
    have HIW : SrchIn b o T R0 C n fr h k W := by rw [hW]; exact HI.out.drewN nq
    have HGW : w.grownBy W (some b) := by rw [hW]; exact grown_below (below_drewN' (Below.refl _ _) nq) _
    have c13' := HIW.cn
    rw [← hW]
    clear hW c13 c14 c15
    go_wp2_with fail
    refine (SU _ hTW).mono ?_
    rintro e w1 ⟨rfl, hb1⟩
    have H1 := HIW.later hb1
    have f1 := H1.frozen (o + 15)
    have k1 := H1.ch
    have H2 := H1.setH r
    have f2 := H2.frozen (o + 13)
    have k2 := H2.cn
    have H3 := H2.setN (n + 1)
    have HH := Lib.hid H3
    have HG : w.grownBy ((w1.setCell ⟨b, o + 15, none⟩ (.int .u32 r)).setCell ⟨b, o + 13, none⟩ (.int .i64 ((n + 1 : Nat) : Int))) (some b) :=
      grown_trans (grown_trans (grown_trans HGW (grown_below hb1 _)) (grown_set _ _ _ _)) (grown_set _ _ _ _)
    have HGG := Lib.hid HG
    have ecast : ((n + 1 : Nat) : Int) = (n : Int) + 1 := rfl
    clear HG H1 H2 H3 HIW HGW hb1
    go_wp2
    go_end0
    exact ⟨rfl, HH.out, HGG.out⟩
  · obtain ⟨h16, hh⟩ := hf (by omega)
    have hlz : l.length = s.size := HZ.out
    have hsl := rsum_slid (l.take n) (l[n]'(by omega)) (by rw [List.length_take]; omega)
    have hlen : (l.take n).length = n := by rw [List.length_take]; omega
    have hge : (l.take n)[(l.take n).length - 16]'(by omega) = l[n - 16]'(by omega) := by
      rw [List.getElem_take]; congr 1; omega
    rw [hge, ← List.take_succ_eq_append_getElem (by omega), ← hh] at hsl
    obtain ⟨q, hq⟩ : ∃ q, q = n - 16 := ⟨_, rfl⟩
    obtain ⟨a, ha⟩ : ∃ a : UInt8, l[n - 16]'(by omega) = a := ⟨_, rfl⟩
    obtain ⟨c, hc2⟩ : ∃ c : UInt8, l[n]'(by omega) = c := ⟨_, rfl⟩
    rw [ha, hc2] at hsl
    have hqs : q < s.size := by omega
    have ho1 : s[q].toNat = a.toNat := by subst hq; subst ha; simp only [HL.out]; rfl
    have ho2 : (s.data[q]'hqs).toNat = a.toNat := ho1
    have hc1 : s[n].toNat = c.toNat := by subst hc2; simp only [HL.out]; rfl
    have hc3 : (s.data[n]'hn).toNat = c.toNat := hc1
    have hpl : h < 2147483647 := by rw [hh]; exact rsum_lt _
    have SL := fun w' h' => slide_any h hpl a c w' h'
    obtain ⟨r, hr⟩ : ∃ r, r = rslide h a c := ⟨_, rfl⟩
    rw [← hr] at SL hsl
    rw [hsl]
    have hci : ¬ (n : Int) < fr := by omega
    have v2 : IntKind.i64.wrap ((n : Int) - 16) = (q : Int) := by rw [show (n : Int) - 16 = (q : Int) by omega]; exact IntWalk.i64_in _ (by omega)
    have hq0 : (0 : Int) ≤ (q : Int) := by omega
    have hq1 : (q : Int) < s.size := by omega
    have hn1 : (n : Int) < s.size := by omega
    clear hI hf hfr hc hh hsl hr hge hlen hlz hq ha hc2 HL HZ
    go_enter Tryd.func38, Tryd.ntmps38
    go_wp2
    go_quiet (fail)
    obtain ⟨W, hW⟩ : ∃ W, W = w.drewN nq := ⟨_, rfl⟩
    have hTW : TabAt W := by rw [hW]; exact hT
    have HIW : SrchIn b o T R0 C n fr h k W := by rw [hW]; exact HI.out.drewN nq
    have HGW : w.grownBy W (some b) := by rw [hW]; exact grown_below (below_drewN' (Below.refl _ _) nq) _
    rw [← hW]
    clear hW c13 c14 c15
    go_wp2
    have m1 := HIW.cn
    have m2 := HIW.ch
    have f1 := HIW.frozen (o + 15)
    have H2 := HIW.setH r
    have f2 := H2.frozen (o + 13)
    have k2 := H2.cn
    have H3 := H2.setN (n + 1)
    have HH := Lib.hid H3
    have HG : w.grownBy ((W.setCell ⟨b, o + 15, none⟩ (.int .u32 r)).setCell ⟨b, o + 13, none⟩ (.int .i64 ((n + 1 : Nat) : Int))) (some b) :=
      grown_trans (grown_trans HGW (grown_set _ _ _ _)) (grown_set _ _ _ _)
    have HGG := Lib.hid HG
    have SQ := SL W.drew hTW
    clear HG H2 H3 HIW HGW hT HI SL
    refine wp_region_held_drew (S := fun w' => w'.cell? ⟨b, o + 13, none⟩ = some (.int .i64 n)) (by kernel_rfl) m1 (fun hHeld => ?_)
    refine wpAnyH_take (i := 0) (v := ?_) rfl (by kernel_rfl) (by kernel_rfl) (by kernel_rfl) (fun _ _ _ h => h) (Or.inl ⟨by rfl, ?_⟩) (by assumption) ?_
    case refine_2 => intro w hSw; go_simp; try with_reducible rfl
    refine wpAnyH_take (i := 1) (v := ?_) rfl (by kernel_rfl) (by kernel_rfl) (by kernel_rfl) (fun _ _ _ h => h) (Or.inl ⟨by rfl, ?_⟩) (by assumption) ?_
    case refine_2 => intro w hSw; go_simp; try with_reducible rfl
    refine wpAnyH_take (i := 2) (v := ?_) rfl (by kernel_rfl) (by kernel_rfl) (by kernel_rfl) (fun _ _ _ h => h) (Or.inl ⟨by rfl, ?_⟩) (by assumption) ?_
    case refine_2 => intro w hSw; go_simp; try with_reducible rfl
    refine wpAnyH_take (i := 3) (v := ?_) rfl (by kernel_rfl) (by kernel_rfl) (by kernel_rfl) (fun _ _ _ h => h) (Or.inl ⟨by rfl, ?_⟩) (by assumption) ?_
    case refine_2 => intro w hSw; go_simp; try with_reducible rfl
    refine wpAnyH_take (i := 5) (v := ?_) rfl (by kernel_rfl) (by kernel_rfl) (by kernel_rfl) (fun _ _ _ h => h) (Or.inl ⟨by rfl, ?_⟩) (by assumption) ?_
    case refine_2 => intro w hSw; go_simp; try with_reducible rfl
    refine wpAnyH_take (i := 6) (v := ?_) rfl (by kernel_rfl) (by kernel_rfl) (by kernel_rfl) (fun _ _ _ h => h) (Or.inl ⟨by rfl, ?_⟩) (by assumption) ?_
    case refine_2 => intro w hSw; go_simp; try with_reducible rfl
    refine wpAnyH_take (i := 7) (v := ?_) rfl (by kernel_rfl) (by kernel_rfl) (by kernel_rfl) (fun _ _ _ h => h) (Or.inl ⟨by rfl, ?_⟩) (by assumption) ?_
    case refine_2 => intro w hSw; go_simp; try with_reducible rfl
    refine wpAnyH_take (i := 8) (v := ?_) rfl (by kernel_rfl) (by kernel_rfl) (by kernel_rfl) (fun _ _ _ h => h) (Or.inl ⟨by rfl, ?_⟩) (by assumption) ?_
    case refine_2 => intro w hSw; go_simp; try with_reducible rfl
    refine wpAnyH_take (i := 9) (v := ?_) rfl (by kernel_rfl) (by kernel_rfl) (by kernel_rfl) (fun _ _ _ h => h) (Or.inl ⟨by rfl, ?_⟩) (by assumption) ?_
    case refine_2 => intro w hSw; go_simp; try with_reducible rfl
    refine wpAnyH_take (i := 10) (v := ?_) rfl (by kernel_rfl) (by kernel_rfl) (by kernel_rfl) (fun _ _ _ h => h) (Or.inl ⟨by rfl, ?_⟩) (by assumption) ?_
    case refine_2 => intro w hSw; go_simp; try with_reducible rfl
    refine wpAnyH_take (i := 11) (v := ?_) rfl (by kernel_rfl) (by kernel_rfl) (by kernel_rfl) (fun _ _ _ h => h) (Or.inl ⟨by rfl, ?_⟩) (by assumption) ?_
    case refine_2 => intro w hSw; go_simp; try with_reducible rfl
    refine wpAnyH_take (i := 12) (v := ?_) rfl (by kernel_rfl) (by kernel_rfl) (by kernel_rfl) (fun _ _ _ h => h) (Or.inl ⟨by rfl, ?_⟩) (by assumption) ?_
    case refine_2 => intro w hSw; go_simp; try with_reducible rfl
    refine wpAnyH_take (i := 13) (v := ?_) rfl (by kernel_rfl) (by kernel_rfl) (by kernel_rfl) (fun _ _ _ h => h) (Or.inl ⟨by rfl, ?_⟩) (by assumption) ?_
    case refine_2 => intro w hSw; go_simp; try with_reducible rfl
    refine wpAnyH_take (i := 14) (v := ?_) rfl (by kernel_rfl) (by kernel_rfl) (by kernel_rfl) (fun _ _ _ h => h) (Or.inl ⟨by rfl, ?_⟩) (by assumption) ?_
    case refine_2 => intro w hSw; go_simp; try with_reducible rfl
    refine wpAnyH_take (i := 15) (v := ?_) rfl (by kernel_rfl) (by kernel_rfl) (by kernel_rfl) (fun _ _ _ h => h) (Or.inl ⟨by rfl, ?_⟩) (by assumption) ?_
    case refine_2 => intro w hSw; go_simp; try with_reducible rfl
    refine wpAnyH_take (i := 16) (v := ?_) rfl (by kernel_rfl) (by kernel_rfl) (by kernel_rfl) (fun _ _ _ h => h) (Or.inl ⟨by rfl, ?_⟩) (by assumption) ?_
    case refine_2 => intro w hSw; go_simp; try with_reducible rfl
    refine wpAnyH_take (i := 17) (v := ?_) rfl (by kernel_rfl) (by kernel_rfl) (by kernel_rfl) (fun _ _ _ h => h) (Or.inl ⟨by rfl, ?_⟩) (by assumption) ?_
    case refine_2 => intro w hSw; go_simp; try with_reducible rfl
    refine wpAnyH_ready (rs := [4]) (by kernel_rfl) (by simp) (AllReadyH.cons rfl (fun K hK => ?_) AllReadyH.nil)
    go_simp
    refine hK.out _ _ m1 (fun _ => ?_)
    clear hK K
    refine wpAnyH_ready (rs := [18]) (by kernel_rfl) (by simp) (AllReadyH.cons rfl (fun K hK => ?_) AllReadyH.nil)
    go_simp
    refine SQ.mono ?_
    rintro e w' ⟨rfl, rfl⟩
    refine hK.out _ _ m1 (fun _ => ?_)
    clear hK K
    refine wpAnyH_take (i := 19) (v := ?_) rfl (by kernel_rfl) (by kernel_rfl) (by kernel_rfl) (fun _ _ _ h => h) (Or.inl ⟨by rfl, ?_⟩) (by assumption) ?_
    case refine_2 => intro w hSw; go_simp; try with_reducible rfl
    refine wpAnyH_take (i := 20) (v := ?_) rfl (by kernel_rfl) (by kernel_rfl) (by kernel_rfl) (fun _ _ _ h => h) (Or.inl ⟨by rfl, ?_⟩) (by assumption) ?_
    case refine_2 => intro w hSw; go_simp; try with_reducible rfl
    refine wpAnyH_take (i := 21) (v := ?_) rfl (by kernel_rfl) (by kernel_rfl) (by kernel_rfl) (fun _ _ _ h => h) (Or.inl ⟨by rfl, ?_⟩) (by assumption) ?_
    case refine_2 => intro w hSw; go_simp; try with_reducible rfl
    refine wpAnyH_take (i := 22) (v := ?_) rfl (by kernel_rfl) (by kernel_rfl) (by kernel_rfl) (fun _ _ _ h => h) (Or.inl ⟨by rfl, ?_⟩) (by assumption) ?_
    case refine_2 => intro w hSw; go_simp; try with_reducible rfl
    refine wpAnyH_take (i := 23) (v := ?_) rfl (by kernel_rfl) (by kernel_rfl) (by kernel_rfl) (fun _ _ _ h => h) (Or.inl ⟨by rfl, ?_⟩) (by assumption) ?_
    case refine_2 => intro w hSw; go_simp; try with_reducible rfl
    refine wpAnyH_ready (rs := [24]) (by kernel_rfl) (by simp) (AllReadyH.cons rfl (fun K hK => ?_) AllReadyH.nil)
    go_simp
    refine hK.out _ _ k2 (fun _ => ?_)
    clear hK K
    refine wpAnyH_done (by kernel_rfl) ?_ _
    go_wp2
    go_end0
    exact ⟨rfl, HH.out.drew, grown_trans HGG.out (grown_drew _ _)⟩

end Go.Proofs.YtimllddlcjnikaaDoor
