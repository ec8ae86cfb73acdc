/- The landed index: Len, Peek, Look, Hooks. -/
import Derived.Test.YtaajadmaamjebaaSyJ
namespace Go.Proofs.Ytaajadmaamjebaa
open Go.RowKit

theorem run_neq_ptr_other {P : Program} (w : World) {tp te : TypeId} {j : TypeInfo} {a b : Addr} {ca cb : Array Value} {ta tb : TypeId} (hp : P.underlying tp = some (.pointer te)) (hte : P.info? te = some j) (hsz : j.size ≠ 0)
    (hne : a ≠ b) (ha : w.heap[a.block]? = some (.cells ca ta (0, 0))) (hb : w.heap[b.block]? = some (.cells cb tb (0, 0))) :
    (binOp .neq tp (.pointer (some a)) (.pointer (some b))).run P w = .ok (.bool true) w := by
  have h : ∀ d : Nat, (Op.equalIn (d + 1) tp (.pointer (some a)) (.pointer (some b))).run P w = .ok false w := fun d => by
    simp [Op.equalIn, run_underlying hp, sizeOf, typeInfo, hte, hsz, run_sameAddr_other w hne ha hb]
  simp only [binOp]
  simp [Op.equal, Op.maxDepth, h 9999]
theorem info_nd : ∃ j, Try.prog.info? 67 = some j ∧ j.size ≠ 0 := by
  have h : (Try.prog.info? 67).map (·.size) = some 35 := by kernel_rfl
  obtain ⟨j, hj, e⟩ := Option.map_eq_some_iff.1 h
  exact ⟨j, hj, by rw [e]; decide⟩
/-- Two nodes held against each other. -/
theorem nd_neq {σ : Ring} {w : World} (H : NdsAt σ w) {a b : Nat} {x y : Nd} (ha : σ a = some x) (hb : σ b = some y) : (binOp .neq 53 (.pointer (some ⟨a, 0, none⟩)) (.pointer (some ⟨b, 0, none⟩))).run Try.prog w = .ok (.bool (decide (a ≠ b))) w := by
  obtain ⟨j, hj, hs⟩ := info_nd
  by_cases h : a = b
  · subst h
    rw [decide_eq_false (by simp)]
    exact Lib.run_neq_ptr_same w _ Try.underlying53 hj
  · rw [decide_eq_true h]
    exact run_neq_ptr_other w Try.underlying53 hj hs (fun e => h (congrArg Addr.block e)) (H.row a x ha) (H.row b y hb)

set_option maxRecDepth 100000 in
theorem ylen_any (B bx : Nat) (per most : Int) (R : List SRow) (Bs : Nat → Prop) (w : World) (H : IxP B bx per most R Bs w) :
    Calls Try.prog 11 #[.pointer (some ⟨bx, 0, none⟩)] w fun e w' => e = .returned (.int .i64 (lenS R : Nat)) ∧ Kept w w' := by
  obtain ⟨bm, be, L, σ, f, H⟩ := H
  have c0 := H.low.x.c0
  have c3 := H.low.x.c3
  have MK := xmade_self bx w c0
  clear H c0
  go_enter Try.func11, Try.ntmps11
  go_wp2_with (go_at_call 28; refine MK.mono ?_; rintro e w2 ⟨rfl, rfl⟩)
  go_ret
  exact ⟨rfl, Below.refl _ _⟩

set_option maxRecDepth 100000 in
set_option maxHeartbeats 2000000 in
theorem ypeek_any (B bx : Nat) (per most : Int) (R : List SRow) (Bs : Nat → Prop) (w : World) (h : List UInt8) (H : IxP B bx per most R Bs w) (ok : OkI per most R) (h32 : h.length = 32) :
    Calls Try.prog 14 #[.pointer (some ⟨bx, 0, none⟩), .agg (fpA h)] w fun e w' => (∃ v, e = .returned v ∧ ∀ W, OnNew w w' W → UsAt (peekS R h) v W) ∧ Kept w w' := by
  obtain ⟨bm, be, L, σ, f, H⟩ := H
  have HI := Lib.hid (fp_info h h32)
  have K1 := box_below w (.cells (fpA h) 47)
  have H1 := H.later K1
  have FI := xfind_any bx bm be R.length per most (lenS R : Nat) f h h32 _ H1.low.x H1.low.m
  have g0 := heap_alloc_last w (.cells (fpA h) 47)
  have HK1 := Lib.hid K1
  have HH1 := Lib.hid H1
  have HOK := Lib.hid ok
  obtain ⟨F, hFF⟩ : ∃ F, F = fpA h := ⟨_, rfl⟩
  rw [← hFF] at HI g0 FI HK1 HH1 ⊢
  cases hf : f h with
  | none =>
    have hp : peekS R h = [] := peek_none (H.absent hf)
    rw [hp]
    rw [hf] at FI
    unfold ptV at FI
    clear hFF H ok K1 H1 hf hp h32
    go_enter Try.func14, Try.ntmps14
    go_wp2_with (first
      | (with_reducible refine wpList_load_row rfl _ _ rfl w.heap.size rfl 47 F (0, 0) _ g0 Try.underlying47 rfl HI.out ?_)
      | (go_at_call 33; refine FI.mono ?_; rintro e w2 ⟨rfl, hk2⟩))
    go_ret
    exact ⟨⟨_, rfl, fun W _ => RowsAt.nil W 0⟩, (show Kept w _ from HK1.out).then hk2⟩
  | some b =>
    obtain ⟨L1, L2, R1, R2, d, hL, hR, hlen, hd, hdh⟩ := H.found hf
    have hb : b ∈ L := by rw [hL]; exact List.mem_append_right _ (List.mem_cons_self ..)
    have hp : peekS R h = d.ms := by
      have := ok.ok.one
      rw [hR] at this ⊢
      exact (at_split_all (nodup_front this)).2.1
    have hlp := ok.peek h
    rw [hp] at hlp ⊢
    rw [hf] at FI
    unfold ptV pB at FI
    have CV : Hid (∀ W, Kept (w.alloc (.cells F 47)) W → W.cell? ⟨b, 32, none⟩ = some d.v ∧ OwnU B d.ms d.v W) := Lib.hid (fun W k => ⟨(HH1.out.later k).low.nds.cv hd, (HH1.out.later k).own b hb d hd⟩)
    have CL := fun W (k : Kept (w.alloc (.cells F 47)) W) => uclone_any d.v d.ms (by omega) W ((CV.out W k).2.us)
    have HLO : Hid (∀ m ∈ d.ms, wfU m) := Lib.hid (H.own b hb d hd).lo
    obtain ⟨v, hv⟩ : ∃ v, v = d.v := ⟨_, rfl⟩
    obtain ⟨ms, hms⟩ : ∃ ms, ms = d.ms := ⟨_, rfl⟩
    rw [← hv] at CV CL
    rw [← hms] at CV CL HLO ⊢
    clear hFF H ok K1 H1 hf hp h32 hlp hL hR hlen hd hdh hb hv hms
    go_enter Try.func14, Try.ntmps14
    go_wp2_with (first
      | (with_reducible refine wpList_load_row rfl _ _ rfl w.heap.size rfl 47 F (0, 0) _ g0 Try.underlying47 rfl HI.out ?_)
      | (go_at_call 33; refine FI.mono ?_; rintro e w2 ⟨rfl, hk2⟩; have cv := (CV.out w2 hk2).1; have CL2 := CL w2 hk2; have HK2 := Lib.hid hk2; clear hk2)
      | (go_at_call 34; refine CL2.mono ?_; rintro e w3 ⟨v3, rfl, ho3, hk3⟩))
    go_ret
    refine ⟨⟨_, rfl, fun W hW => RowsAt.own encU HLO.out (own_stay ho3 (fun q hq => hW q ?_ (ho3.lt q hq).2))⟩, ((show Kept w _ from HK1.out).then HK2.out).then hk3⟩
    have h1 := (ho3.lt q hq).1
    have h2 := ((show Kept w _ from HK1.out).then HK2.out).size
    omega

theorem onNew_late {w w2 w3 W : World} (h : OnNew w w3 W) (hs : w.heap.size ≤ w2.heap.size) : OnNew w2 w3 W := fun j hj hj2 => h j (by omega) hj2
/-- A call that changes nothing. -/
theorem xpost_same {B bx : Nat} {per most : Int} {R : List SRow} {Bs : Nat → Prop} {w w' : World} (H : IxP B bx per most R Bs w) (k : Kept w w') : XPost (IxP B bx per most) Bs R w w' :=
  ⟨⟨Bs, H.later k, fun _ hk => Or.inl hk⟩, but_of_kept k⟩

set_option maxRecDepth 100000 in
set_option maxHeartbeats 2000000 in
theorem ylook_any (B bx : Nat) (per most : Int) (R : List SRow) (Bs : Nat → Prop) (w : World) (h : List UInt8) (H : IxP B bx per most R Bs w) (ok : OkI per most R) (h32 : h.length = 32) :
    Calls Try.prog 15 #[.pointer (some ⟨bx, 0, none⟩), .agg (fpA h)] w fun e w' => (∃ v, e = .returned v ∧ ∀ W, OnNew w w' W → UsAt (peekS R h) v W) ∧ XPost (IxP B bx per most) Bs (lookS R h) w w' := by
  have HP := Lib.hid H
  obtain ⟨bm, be, L, σ, f, H⟩ := H
  have HI := Lib.hid (fp_info h h32)
  have K1 := box_below w (.cells (fpA h) 47)
  have H1 := H.later K1
  have FI := xfind_any bx bm be R.length per most (lenS R : Nat) f h h32 _ H1.low.x H1.low.m
  have g0 := heap_alloc_last w (.cells (fpA h) 47)
  have HK1 := Lib.hid K1
  have HH1 := Lib.hid H1
  have HPE := Lib.hid (fun (Q : List SRow) (Cs : Nat → Prop) (W : World) (HQ : IxP B bx per most Q Cs W) (okQ : OkI per most Q) => ypeek_any B bx per most Q Cs W h HQ okQ h32)
  obtain ⟨F, hFF⟩ : ∃ F, F = fpA h := ⟨_, rfl⟩
  rw [← hFF] at HI g0 FI HK1 HH1 HPE ⊢
  have HOK := Lib.hid ok
  cases hf : f h with
  | none =>
    obtain ⟨-, -, hl⟩ := at_none_all (H.absent hf)
    rw [hl]
    rw [hf] at FI
    unfold ptV at FI
    clear hFF H ok K1 H1 hf hl h32
    go_enter Try.func15, Try.ntmps15
    go_wp2_with (first
      | (with_reducible refine wpList_load_row rfl _ _ rfl w.heap.size rfl 47 F (0, 0) _ g0 Try.underlying47 rfl HI.out ?_)
      | (with_reducible refine wpList_load_row rfl _ _ rfl w.heap.size rfl 47 F (0, 0) _ g2 Try.underlying47 rfl HI.out ?_)
      | (go_at_call 33; refine FI.mono ?_; rintro e w2 ⟨rfl, hk2⟩; have g2 := hk2.row g0; have PE := HPE.out R Bs w2 ⟨bm, be, L, σ, f, HH1.out.later hk2⟩ HOK.out; have HK2 := Lib.hid hk2; clear hk2)
      | (go_at_call 14; refine PE.mono ?_; rintro e w3 ⟨⟨v3, rfl, ho3⟩, hk3⟩))
    go_ret
    have hk := (show Kept w _ from HK1.out).then HK2.out
    exact ⟨⟨_, rfl, fun W hW => ho3 W (onNew_late hW hk.size)⟩, xpost_same HP.out (hk.then hk3)⟩
  | some b =>
    obtain ⟨L1, L2, R1, R2, d, hL, hR, hlen, hd, hdh⟩ := H.found hf
    have hfr : ∀ r ∈ R1, r.1 ≠ h := by
      have := ok.ok.one
      rw [hR] at this
      exact nodup_front this
    have hsp := at_split_all (R2 := R2) (ms := d.ms) hfr
    rw [← hR] at hsp
    obtain ⟨-, hpe, hlk⟩ := hsp
    have okL := ok.look h
    have hpl : peekS (lookS R h) h = peekS R h := by
      have h1 := okL.ok.one
      rw [hlk] at h1
      have h2 := (at_split_all (R1 := R1 ++ R2) (R2 := []) (ms := d.ms) (nodup_front h1)).2.1
      rw [hlk, hpe]; exact h2
    rw [hf] at FI
    unfold ptV pB at FI
    have US : Hid (∀ W, Kept (w.alloc (.cells F 47)) W → Calls Try.prog 35 #[.pointer (some ⟨bx, 0, none⟩), .pointer (some ⟨b, 0, none⟩)] W fun e w' =>
      e = .returned (.tuple #[]) ∧ IxP B bx per most (lookS R h) Bs w' ∧ ButBy Bs W w') := Lib.hid (fun W k => by
      have HW := HH1.out.later k
      rw [hL, hR] at HW
      refine (fu_use B bx bm be per most L1 L2 b σ f R1 R2 (h, d.ms) Bs W HW hlen).mono ?_
      rintro e w' ⟨he, σ', hF, -, hb⟩
      rw [hlk]
      exact ⟨he, ⟨bm, be, _, σ', f, hF⟩, hb⟩)
    have HOL := Lib.hid okL
    have HPL := Lib.hid hpl
    have HBS : Hid (∀ k, Bs k → w.heap.size ≤ k → False) := Lib.hid (fun k hk hk2 => by have := (H.blk k hk).2; omega)
    clear hFF H ok K1 H1 hf h32 hfr hpe hlk okL hpl hL hR hlen hd hdh
    go_enter Try.func15, Try.ntmps15
    go_wp2_with (first
      | (with_reducible refine wpList_load_row rfl _ _ rfl w.heap.size rfl 47 F (0, 0) _ g0 Try.underlying47 rfl HI.out ?_)
      | (with_reducible refine wpList_load_row rfl _ _ rfl w.heap.size rfl 47 F (0, 0) _ g3 Try.underlying47 rfl HI.out ?_)
      | (go_at_call 33; refine FI.mono ?_; rintro e w2 ⟨rfl, hk2⟩; have US2 := US.out w2 hk2; have g2 := hk2.row g0; have HK2 := Lib.hid hk2; clear hk2)
      | (go_at_call 35; refine US2.mono ?_; rintro e w3 ⟨rfl, hP3, hb3⟩; have HP3 := Lib.hid hP3; have HB3 := Lib.hid hb3; have PE := HPE.out (lookS R h) Bs w3 hP3 HOL.out; have g3 := (hb3.block w.heap.size (Array.getElem?_eq_some_iff.1 g2).1 (fun e => HBS.out _ e (Nat.le_refl _))).trans g2; clear hP3 hb3 g2 US2)
      | (go_at_call 14; refine PE.mono ?_; rintro e w4 ⟨⟨v4, rfl, ho4⟩, hk4⟩))
    go_ret
    have hk := (show Kept w _ from HK1.out).then HK2.out
    have hb := (but_of_kept (Bs := Bs) hk).trans HB3.out
    refine ⟨⟨_, rfl, fun W hW => ?_⟩, ⟨Bs, HP3.out.later hk4, fun _ hk => Or.inl hk⟩, hb.then_kept hk4⟩
    have := ho4 W (onNew_late hW hb.size)
    rw [HPL.out] at this
    exact this

set_option maxRecDepth 100000 in
set_option maxHeartbeats 8000000 in
theorem yhooks_any (B bx : Nat) (per most : Int) (R : List SRow) (Bs : Nat → Prop) (w : World) (H : IxP B bx per most R Bs w) (ok : OkI per most R) :
    Calls Try.prog 17 #[.pointer (some ⟨bx, 0, none⟩)] w fun e w' => (∃ v, e = .returned v ∧ FpsAt 32 (R.map Prod.fst) v w') ∧ Kept w w' := by
  obtain ⟨ti, hi, hi1, hi2, tz, hz, hzs⟩ := info_fp
  obtain ⟨bm, be, L, σ, f, H⟩ := H
  obtain ⟨n, hn⟩ : ∃ n, n = L.length := ⟨_, rfl⟩
  obtain ⟨K, hK⟩ : ∃ K, K = R.map Prod.fst := ⟨_, rfl⟩
  rw [← hK]
  have HN : Hid (n = L.length ∧ n ≤ 65536 ∧ K.length = n) := Lib.hid ⟨hn, by have := H.len; have h2 := ok.rows.1; omega, by rw [hK, List.length_map, hn, H.len]⟩
  have HA32 : Hid (All32 K) := Lib.hid (fun l hl => by
    rw [hK] at hl
    obtain ⟨r, hr, rfl⟩ := List.mem_map.1 hl
    exact ok.ok.key r hr)
  have HH := Lib.hid H
  have HKK : Hid (∀ k (hk : k < L.length) (d : Nd), σ L[k] = some d → K[k]? = some d.h) := Lib.hid (fun k hk d hd => by
    have h1 : (L.map (rwR σ))[k]? = (R.map some)[k]? := by rw [H.rows]
    rw [List.getElem?_map, List.getElem?_map, List.getElem?_eq_getElem hk] at h1
    rw [hK, List.getElem?_map]
    unfold rwR at h1
    simp only [Option.map_some, hd] at h1
    cases hr : R[k]? with
    | none => rw [hr] at h1; cases h1
    | some r =>
      rw [hr] at h1
      have e := Option.some.inj h1
      have e2 := Option.some.inj e
      rw [Option.map_some, ← e2])
  have HNX : Hid (∀ k (hk : k < L.length) (d : Nd), σ L[k] = some d → d.n = L.getD (k + 1) be) := Lib.hid (fun k hk d hd => by
    have e : L = L.take k ++ L[k] :: L.drop (k + 1) := by rw [List.getElem_cons_drop, List.take_append_drop]
    have hp := H.low.path
    rw [e] at hp
    have h1 := path_next hp
    unfold nxR at h1
    rw [hd] at h1
    have h2 := Option.some.inj h1
    rw [h2, List.headD_eq_head?_getD, List.head?_drop, List.getD_eq_getElem?_getD])
  obtain ⟨dbe, hbe⟩ := H.low.mem be (List.mem_cons_self ..)
  have hh : dbe.n = L.getD 0 be := by
    have h1 := path_head H.low.path
    unfold nxR at h1
    rw [hbe] at h1
    have h2 := Option.some.inj h1
    rw [h2]
    cases L <;> rfl
  have c0 := H.low.x.c0
  have c5 := H.low.x.c5
  have cb := H.low.nds.cn hbe
  rw [hh] at cb
  unfold pB at cb
  have HBE := Lib.hid hbe
  have HNB : Hid (∀ k, k < L.length → L.getD k be ≠ be) := Lib.hid (fun k hk e => by
    rw [List.getD_eq_getElem?_getD, List.getElem?_eq_getElem hk] at e
    have e2 : L[k] = be := e
    exact (List.nodup_cons.1 H.low.nod).1 (by rw [← e2]; exact List.getElem_mem hk))
  have MK := xmade_self bx w c0
  clear H ok hn hK hbe hh c0
  obtain ⟨hd0, hhd0⟩ : ∃ x, x = L.getD 0 be := ⟨_, rfl⟩
  rw [← hhd0] at cb
  have HD0 := Lib.hid hhd0
  clear hhd0
  go_enter Try.func17, Try.ntmps17
  go_wp2_with (go_at_call 28; refine MK.mono ?_; rintro e w2 ⟨rfl, rfl⟩)
  go_loopg [3, 4] n (fun gh y3 y4 wr => ∃ (k : Nat) (b : Nat), k + gh = n ∧ y4 = .pointer (some ⟨b, 0, none⟩) ∧ Hid (b = L.getD k be) ∧ Hid (wr.ownsRow w.heap.size 47 32 y3 k (flatL (K.take k))) ∧ Hid (Kept w wr))
  case atStart => exact ⟨0, hd0, by omega, rfl, HD0, Lib.hid (World.ownsRow_nil _ _ _ _), Lib.hid (Below.refl _ w)⟩
  case round =>
    obtain ⟨k, b, hk, rfl, HBK, HOW, HK⟩ := hrel
    have HW := Lib.hid (HH.out.later HK.out)
    have d5 := HW.out.low.x.c5
    obtain ⟨pv, cv, htv, -, -⟩ := own_slice HOW.out
    subst htv
    by_cases hlt : k < n
    · have hkL : k < L.length := by rw [← HN.out.1]; exact hlt
      have hbL : b = L[k] := by rw [HBK.out, List.getD_eq_getElem?_getD, List.getElem?_eq_getElem hkL]; rfl
      obtain ⟨d, hd⟩ := HH.out.low.mem b (List.mem_cons_of_mem _ (by rw [hbL]; exact List.getElem_mem hkL))
      have hdL : σ L[k] = some d := by rw [← hbL]; exact hd
      have hne : b ≠ be := by rw [HBK.out]; exact HNB.out k hkL
      have EQ1 := nd_neq HW.out.low.nds hd HBE.out
      rw [decide_eq_true hne] at EQ1
      have h32 := (HH.out.low.nds.h32 b d hd).1
      have hKk := HKK.out k hkL d hdL
      have hnx := HNX.out k hkL d hdL
      have g2 := HW.out.low.nds.row b d hd
      have hfp := nd_fp h32
      have htk : K.take (k + 1) = K.take k ++ [d.h] := by rw [List.take_add_one, hKk]; rfl
      have HONE := Lib.hid (fun (W : World) => fps_one W d.h h32 1)
      have CNX : Hid (∀ W, Kept w W → W.cell? ⟨b, 34, none⟩ = some (pB d.n)) := Lib.hid (fun W kw => (HH.out.later kw).low.nds.cn hd)
      obtain ⟨nx, hnx2⟩ : ∃ x, x = d.n := ⟨_, rfl⟩
      rw [← hnx2] at hnx CNX
      obtain ⟨C2, hC2⟩ : ∃ x, x = ndA d := ⟨_, rfl⟩
      rw [← hC2] at g2 hfp
      obtain ⟨xl, hxl⟩ : ∃ x, x = d.h := ⟨_, rfl⟩
      rw [← hxl] at hfp HONE htk
      obtain ⟨X, hX⟩ : ∃ X, X = fpA xl := ⟨_, rfl⟩
      have HXS : Hid (X.size = 32) := Lib.hid (by rw [hX, fpA_size, hxl]; exact h32)
      rw [← hX] at hfp HONE
      have HES := Lib.hid hfp
      obtain ⟨k1, hk1⟩ : ∃ k1, k1 = k + 1 := ⟨_, rfl⟩
      have HKN : Hid (k1 = k + 1 ∧ k + gk = n ∧ k < n) := Lib.hid ⟨hk1, hk, hlt⟩
      have HTK : Hid (flatL (K.take k1) = flatL (K.take k) ++ flatL [xl]) := Lib.hid (by rw [hk1, htk, flatL_append])
      have HNXB : Hid (nx = L.getD k1 be) := Lib.hid (by rw [hk1]; exact hnx)
      clear hkL hbL hd hdL hne h32 hKk hnx hfp htk hnx2 hC2 hxl hX hk1 hk hlt
      go_wp2_with (first
        | (with_reducible refine wpList_load_sub rfl _ _ rfl b 0 32 rfl 67 C2 (0, 0) _ g2 Try.underlying47 rfl infoFp HES.out.1 X HES.out.2 ?_)
        | (with_reducible refine wpList_build1 rfl _ rfl X rfl HXS.out ?_)
        | (at_builtin; refine wpList_append_fps rfl _ _ 34 rfl w.heap.size 47 ti tz 32 Try.underlying34 hi hz hi1 hi2 hzs _ _ _ rfl (HOW.out.alloc _) _ [xl] rfl (HONE.out _) ?qd2 ?qd3 ?qd4 ?_))
      case qd2 => have := HKN.out; have := HN.out.2.1; rw [List.length_singleton]; unfold maxLen; omega
      case qd3 => have := HKN.out; have := HN.out.2.1; rw [List.length_singleton]; omega
      case qd4 => have := HK.out.size; simp; omega
      intro v4 w9 hown hgrow
      have HK9 : Hid (Kept w w9) := Lib.hid (append_keptX HK.out (Nat.le_refl _) HOW.out hgrow)
      have HOW9 : Hid (w9.ownsRow w.heap.size 47 32 v4 k1 (flatL (K.take k1))) := Lib.hid (by
        rw [HTK.out, HKN.out.1]
        exact hown)
      have c34 := CNX.out w9 HK9.out
      unfold pB at c34
      clear hown hgrow g2 EQ1 d5
      go_wp2
      go_roundg (n - k1)
      · exact ⟨k1, nx, by have := HKN.out; omega, rfl, HNXB, HOW9, HK9⟩
      · have := HKN.out; omega
    · have hkn : k = n := by omega
      have hbb : b = be := by rw [HBK.out, List.getD_eq_getElem?_getD, List.getElem?_eq_none (by rw [hkn, HN.out.1]; exact Nat.le_refl _)]; rfl
      have EQ1 := nd_neq HW.out.low.nds HBE.out HBE.out
      rw [decide_eq_false (by simp)] at EQ1
      have HF : Hid (FpsAt 32 K (.slice pv k cv) wr) := Lib.hid (by
        have h := HOW.out
        have e : K.take k = K := List.take_of_length_le (by rw [HN.out.2.2]; omega)
        rw [e] at h
        have h2 : OwnFps w.heap.size K (.slice pv k cv) wr := ⟨HA32.out, by rw [HN.out.2.2, ← hkn]; exact h⟩
        exact h2.fps)
      subst hbb
      clear hk hlt hkn
      go_wp2
      go_ret
      exact ⟨⟨_, rfl, HF.out⟩, HK.out⟩

end Go.Proofs.Ytaajadmaamjebaa
