/- The landed extent's Map: Hold, Give. -/
import Derived.Test.YtkdodffnakdckaaEcT
namespace Go.Proofs.Ytkdodffnakdckaa
open Go.RowKit

theorem valid_in {fr te : Int} {l : List (Int × Int)} (h : validL fr te l) {k : Nat} (hk : hasR l k = true) : fr ≤ (k : Int) ∧ (k : Int) < te := by
  obtain ⟨r, hr, h1, h2⟩ := (hasR_iff _ _).1 hk
  obtain ⟨i, hi, rfl⟩ := List.mem_iff_getElem.1 hr
  have hf : fr ≤ l[i].1 ∧ 1 ≤ l[i].2 ∧ l[i].1 + l[i].2 ≤ te := validL_fit h i hi
  omega
theorem runs_pos (f : Nat → Bool) : 0 < (runsA f).length ↔ 0 < cntA f := by
  have h1 := (runsA_plain f).count
  rw [cntA_again] at h1
  constructor
  · intro h
    have := (runsA_plain f).sum_pos (fun e => by rw [e] at h; simp at h)
    omega
  · intro h
    refine Nat.pos_of_ne_zero fun e => ?_
    rw [List.eq_nil_of_length_eq_zero e] at h1
    have : sumR [] = 0 := rfl
    omega

def HoldPost (B g : Nat) (s : Mp) (v : Value) (w : World) (l : List (Int × Int)) (e : Ending) (w' : World) : Prop :=
  ∃ z, e = .returned (.int .i64 (holdE s l)) ∧ EMap B g (holdS s l) z w' ∧ (∀ k, MBs g z k → MBs g v k ∨ w.heap.size ≤ k) ∧ ButBy (MBs g v) w w'

set_option maxRecDepth 100000 in
set_option maxHeartbeats 4000000 in
theorem ehold_any {B g : Nat} {s : Mp} {v : Value} {w : World} (h : EMap B g s v w) (hs : s.ok) (l : List (Int × Int)) (lv : Value) (hl : RunsAt l lv w) (hl9 : l.length ≤ 65536) (ha : Apart lv (MBs g v)) :
    Calls Try.prog 32 #[.pointer (some ⟨g, 0, none⟩), lv] w (HoldPost B g s v w l) := by
  have RF := erefuses_any h hs l lv hl (by omega)
  have hlt := (Array.getElem?_eq_some_iff.1 h.row).1
  have hB := h.base
  have FS : validL s.fr s.to_ l → ∀ W (k : Kept w W), Calls Try.prog 21 #[lv, v] W fun e w' => ∃ x, e = .returned x ∧ OwnRuns W.heap.size (runsA (fun k => hasR l k && s.tk k)) x w' ∧ Kept W w' := fun hv W k => by
    have hm := eminus_any l (runsA (freeF s)) lv v W (hl.later k) ((h.own.at_ (runsA_wf _)).later k) (by omega) (Nat.le_trans (runsA_len _) (by omega))
    have he : runsA (fun k => hasR l k && !hasR (runsA (freeF s)) k) = runsA (fun k => hasR l k && s.tk k) := runsA_congr fun k hk => by
      rw [runsA_has _ k hk]
      cases hlk : hasR l k with
      | false => simp
      | true =>
        have hin := valid_in hv hlk
        unfold freeF
        rw [decide_eq_true (by omega)]
        simp
    rw [he] at hm
    exact hm
  have SN : validL s.fr s.to_ l → ∀ W (k : Kept w W), Calls Try.prog 21 #[v, lv] W fun e w' => ∃ x, e = .returned x ∧ OwnRuns W.heap.size (runsA (freeF ⟨s.fr, s.to_, fun k => s.tk k || hasR l k⟩)) x w' ∧ Kept W w' := fun hv W k => by
    have hm := eminus_any (runsA (freeF s)) l v lv W ((h.own.at_ (runsA_wf _)).later k) (hl.later k) (Nat.le_trans (runsA_len _) (by omega)) (by omega)
    have he : runsA (fun k => hasR (runsA (freeF s)) k && !hasR l k) = runsA (freeF ⟨s.fr, s.to_, fun k => s.tk k || hasR l k⟩) := runsA_congr fun k hk => by
      rw [runsA_has _ k hk]
      cases hlk : hasR l k with
      | false => unfold freeF; simp [hlk]
      | true =>
        have hin := valid_in hv hlk
        unfold freeF
        simp only [hlk]
        rw [decide_eq_true (by omega)]
        simp
    rw [he] at hm
    exact hm
  have HNV : Hid (¬ validL s.fr s.to_ l → holdE s l = 1 ∧ holdS s l = s) := Lib.hid (fun hv => by
    have e1 : holdE s l = 1 := by unfold holdE; rw [if_pos hv]
    exact ⟨e1, by unfold holdS; rw [e1, if_neg (by decide)]⟩)
  have HBIG : Hid (validL s.fr s.to_ l → 0 < (runsA (fun k => hasR l k && s.tk k)).length → holdE s l = 100 ∧ holdS s l = s) := Lib.hid (fun hv hp => by
    have e1 : holdE s l = 100 := by unfold holdE; rw [if_neg (fun x => x hv), if_pos (by rw [cntA_congr (g := fun k => hasR l k && s.tk k) (fun k _ => Bool.and_comm _ _)]; exact (runs_pos _).1 hp)]
    exact ⟨e1, by unfold holdS; rw [e1, if_neg (by decide)]⟩)
  have HOK : Hid (validL s.fr s.to_ l → ¬ 0 < (runsA (fun k => hasR l k && s.tk k)).length → holdE s l = 0 ∧ holdS s l = ⟨s.fr, s.to_, fun k => s.tk k || hasR l k⟩) := Lib.hid (fun hv hp => by
    have e1 : holdE s l = 0 := by unfold holdE; rw [if_neg (fun x => x hv), if_neg (fun x => hp ((runs_pos _).2 (by rw [cntA_congr (f := fun k => hasR l k && s.tk k) (fun k _ => Bool.and_comm _ _)]; exact x)))]
    exact ⟨e1, by unfold holdS; rw [e1, if_pos rfl]⟩)
  obtain ⟨lp, lc, hlv, -, -⟩ := hl.out
  obtain ⟨p, c, hv, -, -⟩ := own_slice h.own
  have HV := Lib.hid hv
  obtain ⟨nf, hnf⟩ : ∃ nf, nf = (runsA (freeF s)).length := ⟨_, rfl⟩
  rw [← hnf] at hv HV
  obtain ⟨nl, hnl⟩ : ∃ nl, nl = l.length := ⟨_, rfl⟩
  rw [← hnl] at hlv
  subst hlv
  have HH := Lib.hid h
  have HFS := Lib.hid FS
  have HSN := Lib.hid SN
  have HLT := Lib.hid hlt
  have HBB := Lib.hid hB
  clear h hs hl hl9 ha hnf hnl FS SN hlt hB hv
  unfold HoldPost
  obtain ⟨er, her⟩ : ∃ er, er = holdE s l := ⟨_, rfl⟩
  rw [← her] at HNV HBIG HOK ⊢
  clear her
  by_cases hva : validL s.fr s.to_ l
  · rw [if_pos hva] at RF
    have FS := fun W k => HFS.out hva W k
    have HSN2 := Lib.hid (HSN.out hva)
    have HBIG2 := Lib.hid (HBIG.out hva)
    have HOK2 := Lib.hid (HOK.out hva)
    clear hva HFS HSN HNV HBIG HOK
    rw [HV.out] at FS
    have HFS := Lib.hid FS
    clear FS
    go_enter Try.func32, Try.ntmps32
    go_wp2_with fail
    refine RF.mono ?_
    rintro e w1 ⟨rfl, hb1⟩
    have c3 := (HH.out.kept hb1).cell 3 _ rfl
    rw [HV.out] at c3
    have FS := HFS.out w1 hb1
    have HK1 := Lib.hid hb1
    clear RF hb1 HFS
    go_wp2_with fail
    refine FS.mono ?_
    rintro e w2 ⟨x, rfl, hx, hb2⟩
    have HK2 : Hid (Kept w w2) := Lib.hid (HK1.out.then hb2)
    have h2 := HH.out.kept HK2.out
    have c4 := h2.cell 3 _ rfl
    rw [HV.out] at c4
    obtain ⟨px, cx, hxe, -, -⟩ := own_slice hx
    obtain ⟨lx, hlx⟩ : ∃ lx, lx = (runsA (fun k => hasR l k && s.tk k)).length := ⟨_, rfl⟩
    rw [← hlx] at hxe HBIG2 HOK2
    subst hxe
    have HH2 := Lib.hid h2
    clear FS hx hb2 h2 c3 hlx
    by_cases hpos : 0 < lx
    · have hpi : (lx : Int) > 0 := by omega
      have bp : decide ((lx : Int) > 0) = true := decide_eq_true hpi
      have HR := Lib.hid (HBIG2.out hpos)
      have HE : Hid (EMap B g (holdS s l) v w2) := Lib.hid (by rw [HR.out.2]; exact HH2.out)
      clear hpos HBIG2 HOK2 HSN2 c4
      go_wp2
      go_ret
      refine ⟨v, by rw [HR.out.1]; rfl, HE.out, fun k hk => Or.inl hk, ButBy.below HK2.out⟩
    · have hpi : ¬ (lx : Int) > 0 := by omega
      have bp : decide ((lx : Int) > 0) = false := decide_eq_false hpi
      have HR := Lib.hid (HOK2.out hpos)
      have SN := HSN2.out w2 HK2.out
      rw [HV.out] at SN
      clear hpos HBIG2 HOK2 HSN2
      go_wp2_with fail
      refine SN.mono ?_
      rintro e w3 ⟨z, rfl, hz, hb3⟩
      have h3 := HH2.out.kept hb3
      have c5 := h3.cell 3 _ rfl
      have f5 := h3.froz 3
      rw [HV.out] at c5
      have HE : Hid (EMap B g (holdS s l) z (w3.setCell ⟨g, 3, none⟩ z)) := Lib.hid (by
        rw [HR.out.2]
        exact h3.turn rfl rfl hz (by have := HBB.out; have := HLT.out; have := HK2.out.size; omega) (by have := HLT.out; have := HK2.out.size; omega))
      have HK3 : Hid (Kept w w3) := Lib.hid (HK2.out.then hb3)
      have HZ := Lib.hid hz
      obtain ⟨pz, cz, hze, -, -⟩ := own_slice hz
      obtain ⟨lz, hlz⟩ : ∃ lz, lz = (runsA (freeF ⟨s.fr, s.to_, fun k => s.tk k || hasR l k⟩)).length := ⟨_, rfl⟩
      rw [← hlz] at hze
      subst hze
      clear SN hz hb3 h3 c4 hlz
      go_wp2
      go_ret
      refine ⟨_, by rw [HR.out.1]; rfl, HE.out, ?_, ?_⟩
      · intro k hk
        rcases hk with hk | hk
        · exact Or.inl (Or.inl hk)
        · exact Or.inr (Nat.le_trans HK2.out.size (World.ownsRow.lt HZ.out k hk).1)
      · exact ButBy.setCell (ButBy.below HK3.out) g 3 _ (Or.inl rfl)
  · rw [if_neg hva] at RF
    have HR := Lib.hid (HNV.out hva)
    clear hva HFS HSN HNV HBIG HOK
    go_enter Try.func32, Try.ntmps32
    go_wp2_with fail
    refine RF.mono ?_
    rintro e w1 ⟨rfl, hb1⟩
    have HE : Hid (EMap B g (holdS s l) v w1) := Lib.hid (by rw [HR.out.2]; exact HH.out.kept hb1)
    have HK1 := Lib.hid hb1
    clear RF hb1
    go_wp2
    go_ret
    exact ⟨v, by rw [HR.out.1]; rfl, HE.out, fun k hk => Or.inl hk, ButBy.below HK1.out⟩

def GivePost (B g : Nat) (s : Mp) (v : Value) (w : World) (l : List (Int × Int)) (e : Ending) (w' : World) : Prop :=
  ∃ z, e = .returned (.int .i64 (giveE s l)) ∧ EMap B g (giveS s l) z w' ∧ (∀ k, MBs g z k → MBs g v k ∨ w.heap.size ≤ k) ∧ ButBy (MBs g v) w w'

set_option maxRecDepth 100000 in
set_option maxHeartbeats 4000000 in
theorem egive_any {B g : Nat} {s : Mp} {v : Value} {w : World} (h : EMap B g s v w) (hs : s.ok) (l : List (Int × Int)) (lv : Value) (hl : RunsAt l lv w) (hl9 : l.length ≤ 65536) (ha : Apart lv (MBs g v)) :
    Calls Try.prog 34 #[.pointer (some ⟨g, 0, none⟩), lv] w (GivePost B g s v w l) := by
  have RF := erefuses_any h hs l lv hl (by omega)
  have hlt := (Array.getElem?_eq_some_iff.1 h.row).1
  have hB := h.base
  have FS : validL s.fr s.to_ l → ∀ W (k : Kept w W), Calls Try.prog 22 #[lv, v] W fun e w' => ∃ x, e = .returned x ∧ OwnRuns W.heap.size (runsA (fun k => hasR l k && !s.tk k)) x w' ∧ Kept W w' := fun hv W k => by
    have hm := ecommon_any l (runsA (freeF s)) lv v W (hl.later k) ((h.own.at_ (runsA_wf _)).later k) (by omega) (Nat.le_trans (runsA_len _) (by omega))
    have he : runsA (fun k => hasR l k && hasR (runsA (freeF s)) k) = runsA (fun k => hasR l k && !s.tk k) := runsA_congr fun k hk => by
      rw [runsA_has _ k hk]
      cases hlk : hasR l k with
      | false => simp
      | true =>
        have hin := valid_in hv hlk
        unfold freeF
        rw [decide_eq_true (by omega)]
        simp
    rw [he] at hm
    exact hm
  have SN : validL s.fr s.to_ l → ∀ W (k : Kept w W), Calls Try.prog 20 #[v, lv] W fun e w' => ∃ x, e = .returned x ∧ OwnRuns W.heap.size (runsA (freeF ⟨s.fr, s.to_, fun k => s.tk k && !hasR l k⟩)) x w' ∧ Kept W w' := fun hv W k => by
    have hm := ejoin_any (runsA (freeF s)) l v lv W ((h.own.at_ (runsA_wf _)).later k) (hl.later k) (Nat.le_trans (runsA_len _) (by omega)) (by omega)
    have he : runsA (fun k => hasR (runsA (freeF s)) k || hasR l k) = runsA (freeF ⟨s.fr, s.to_, fun k => s.tk k && !hasR l k⟩) := runsA_congr fun k hk => by
      rw [runsA_has _ k hk]
      cases hlk : hasR l k with
      | false => unfold freeF; simp [hlk]
      | true =>
        have hin := valid_in hv hlk
        unfold freeF
        simp only [hlk]
        rw [decide_eq_true (by omega)]
        simp
    rw [he] at hm
    exact hm
  have HNV : Hid (¬ validL s.fr s.to_ l → giveE s l = 1 ∧ giveS s l = s) := Lib.hid (fun hv => by
    have e1 : giveE s l = 1 := by unfold giveE; rw [if_pos hv]
    exact ⟨e1, by unfold giveS; rw [e1, if_neg (by decide)]⟩)
  have HBIG : Hid (validL s.fr s.to_ l → 0 < (runsA (fun k => hasR l k && !s.tk k)).length → giveE s l = 6 ∧ giveS s l = s) := Lib.hid (fun hv hp => by
    have e1 : giveE s l = 6 := by unfold giveE; rw [if_neg (fun x => x hv), if_pos (by rw [show cntA (fun k => hasR l k && !s.tk k) = cntA (fun k => hasR l k && !s.tk k) from rfl]; exact (runs_pos _).1 hp)]
    exact ⟨e1, by unfold giveS; rw [e1, if_neg (by decide)]⟩)
  have HOK : Hid (validL s.fr s.to_ l → ¬ 0 < (runsA (fun k => hasR l k && !s.tk k)).length → giveE s l = 0 ∧ giveS s l = ⟨s.fr, s.to_, fun k => s.tk k && !hasR l k⟩) := Lib.hid (fun hv hp => by
    have e1 : giveE s l = 0 := by unfold giveE; rw [if_neg (fun x => x hv), if_neg (fun x => hp ((runs_pos _).2 (by rw [show cntA (fun k => hasR l k && !s.tk k) = cntA (fun k => hasR l k && !s.tk k) from rfl]; exact x)))]
    exact ⟨e1, by unfold giveS; rw [e1, if_pos rfl]⟩)
  obtain ⟨lp, lc, hlv, -, -⟩ := hl.out
  obtain ⟨p, c, hv, -, -⟩ := own_slice h.own
  have HV := Lib.hid hv
  obtain ⟨nf, hnf⟩ : ∃ nf, nf = (runsA (freeF s)).length := ⟨_, rfl⟩
  rw [← hnf] at hv HV
  obtain ⟨nl, hnl⟩ : ∃ nl, nl = l.length := ⟨_, rfl⟩
  rw [← hnl] at hlv
  subst hlv
  have HH := Lib.hid h
  have HFS := Lib.hid FS
  have HSN := Lib.hid SN
  have HLT := Lib.hid hlt
  have HBB := Lib.hid hB
  clear h hs hl hl9 ha hnf hnl FS SN hlt hB hv
  unfold GivePost
  obtain ⟨er, her⟩ : ∃ er, er = giveE s l := ⟨_, rfl⟩
  rw [← her] at HNV HBIG HOK ⊢
  clear her
  by_cases hva : validL s.fr s.to_ l
  · rw [if_pos hva] at RF
    have FS := fun W k => HFS.out hva W k
    have HSN2 := Lib.hid (HSN.out hva)
    have HBIG2 := Lib.hid (HBIG.out hva)
    have HOK2 := Lib.hid (HOK.out hva)
    clear hva HFS HSN HNV HBIG HOK
    rw [HV.out] at FS
    have HFS := Lib.hid FS
    clear FS
    go_enter Try.func34, Try.ntmps34
    go_wp2_with fail
    refine RF.mono ?_
    rintro e w1 ⟨rfl, hb1⟩
    have c3 := (HH.out.kept hb1).cell 3 _ rfl
    rw [HV.out] at c3
    have FS := HFS.out w1 hb1
    have HK1 := Lib.hid hb1
    clear RF hb1 HFS
    go_wp2_with fail
    refine FS.mono ?_
    rintro e w2 ⟨x, rfl, hx, hb2⟩
    have HK2 : Hid (Kept w w2) := Lib.hid (HK1.out.then hb2)
    have h2 := HH.out.kept HK2.out
    have c4 := h2.cell 3 _ rfl
    rw [HV.out] at c4
    obtain ⟨px, cx, hxe, -, -⟩ := own_slice hx
    obtain ⟨lx, hlx⟩ : ∃ lx, lx = (runsA (fun k => hasR l k && !s.tk k)).length := ⟨_, rfl⟩
    rw [← hlx] at hxe HBIG2 HOK2
    subst hxe
    have HH2 := Lib.hid h2
    clear FS hx hb2 h2 c3 hlx
    by_cases hpos : 0 < lx
    · have hpi : (lx : Int) > 0 := by omega
      have bp : decide ((lx : Int) > 0) = true := decide_eq_true hpi
      have HR := Lib.hid (HBIG2.out hpos)
      have HE : Hid (EMap B g (giveS s l) v w2) := Lib.hid (by rw [HR.out.2]; exact HH2.out)
      clear hpos HBIG2 HOK2 HSN2 c4
      go_wp2
      go_ret
      refine ⟨v, by rw [HR.out.1]; rfl, HE.out, fun k hk => Or.inl hk, ButBy.below HK2.out⟩
    · have hpi : ¬ (lx : Int) > 0 := by omega
      have bp : decide ((lx : Int) > 0) = false := decide_eq_false hpi
      have HR := Lib.hid (HOK2.out hpos)
      have SN := HSN2.out w2 HK2.out
      rw [HV.out] at SN
      clear hpos HBIG2 HOK2 HSN2
      go_wp2_with fail
      refine SN.mono ?_
      rintro e w3 ⟨z, rfl, hz, hb3⟩
      have h3 := HH2.out.kept hb3
      have c5 := h3.cell 3 _ rfl
      have f5 := h3.froz 3
      rw [HV.out] at c5
      have HE : Hid (EMap B g (giveS s l) z (w3.setCell ⟨g, 3, none⟩ z)) := Lib.hid (by
        rw [HR.out.2]
        exact h3.turn rfl rfl hz (by have := HBB.out; have := HLT.out; have := HK2.out.size; omega) (by have := HLT.out; have := HK2.out.size; omega))
      have HK3 : Hid (Kept w w3) := Lib.hid (HK2.out.then hb3)
      have HZ := Lib.hid hz
      obtain ⟨pz, cz, hze, -, -⟩ := own_slice hz
      obtain ⟨lz, hlz⟩ : ∃ lz, lz = (runsA (freeF ⟨s.fr, s.to_, fun k => s.tk k && !hasR l k⟩)).length := ⟨_, rfl⟩
      rw [← hlz] at hze
      subst hze
      clear SN hz hb3 h3 c4 hlz
      go_wp2
      go_ret
      refine ⟨_, by rw [HR.out.1]; rfl, HE.out, ?_, ?_⟩
      · intro k hk
        rcases hk with hk | hk
        · exact Or.inl (Or.inl hk)
        · exact Or.inr (Nat.le_trans HK2.out.size (World.ownsRow.lt HZ.out k hk).1)
      · exact ButBy.setCell (ButBy.below HK3.out) g 3 _ (Or.inl rfl)
  · rw [if_neg hva] at RF
    have HR := Lib.hid (HNV.out hva)
    clear hva HFS HSN HNV HBIG HOK
    go_enter Try.func34, Try.ntmps34
    go_wp2_with fail
    refine RF.mono ?_
    rintro e w1 ⟨rfl, hb1⟩
    have HE : Hid (EMap B g (giveS s l) v w1) := Lib.hid (by rw [HR.out.2]; exact HH.out.kept hb1)
    have HK1 := Lib.hid hb1
    clear RF hb1
    go_wp2
    go_ret
    exact ⟨v, by rw [HR.out.1]; rfl, HE.out, fun k hk => Or.inl hk, ButBy.below HK1.out⟩

end Go.Proofs.Ytkdodffnakdckaa
