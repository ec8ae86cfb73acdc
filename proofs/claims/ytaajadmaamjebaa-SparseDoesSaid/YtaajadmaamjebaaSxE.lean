/- SparseNewest out of the contracts. -/
import Derived.Test.YtaajadmaamjebaaSxC
namespace Go.Proofs.Ytaajadmaamjebaa
open Go.RowKit

/-- An index by itself. -/
structure Solo (w0 : World) (per most : Int) (P : List SRow → (Nat → Prop) → World → Prop) (R : List SRow) (Bs : Nat → Prop) (w : World) : Prop where
  p : P R Bs w
  ok : OkI per most R
  kept : Kept w0 w
  low : ∀ m, Bs m → w0.heap.size ≤ m
section
variable {B : Nat} {w0 w w' : World} {x : Value} {per most : Int} {P : List SRow → (Nat → Prop) → World → Prop} {Bs : Nat → Prop} {R R' : List SRow}
theorem Solo.later (D : IdxOk B x per most P) (h : Solo w0 per most P R Bs w) (k : Kept w w') : Solo w0 per most P R Bs w' := ⟨D.kept h.p k, h.ok, h.kept.then k, h.low⟩
theorem Solo.prog (h : Solo w0 per most P R Bs w) (hp : XPost P Bs R' w w') (ho : OkI per most R') : ∃ Bs', Solo w0 per most P R' Bs' w' := by
  obtain ⟨⟨Bs', h1, h2⟩, hb⟩ := hp
  refine ⟨Bs', h1, ho, ButBy.kept hb (fun m hm => h.low m hm) h.kept h.kept.size, fun m hm => ?_⟩
  rcases h2 m hm with z | z
  · exact h.low m z
  · exact Nat.le_trans h.kept.size z
theorem Solo.fps (h : Solo w0 per most P R Bs w) {ls : List (List UInt8)} {v : Value} (hf : FpsAt 32 ls v w0) : FpsOff Bs ls v w := fun W _ hW =>
  hf.agree (fun j hj => (hW j (Nat.lt_of_lt_of_le hj h.kept.size) (fun e => by have := h.low j e; omega)).trans (h.kept.block j hj))
end
theorem head_get {l : List Nat} {m : Nat} (h : l.head? = some m) : 0 < l.length ∧ ∀ hl : 0 < l.length, l[0] = m := by
  cases l with
  | nil => cases h
  | cons a l => exact ⟨by simp, fun _ => by simpa using h⟩
/-- What is sure of the newest. -/
theorem newest_sure {per most : Int} (hp : 1 ≤ per) (hm : 1 ≤ most) {man : Nat} (hman : man < 4294967296) {R : List SRow} (h : OkS per R) {ls : List (List UInt8)} (h32 : ∀ k ∈ ls, k.length = 32) (z : Int) (hz : (lenS R : Int) ≤ z) (i : Nat) (hi : i < (setL ls).length)
    (hs : z + ls.length ≤ most ∨ (i = (setL ls).length - 1 ∧ 0 < (peekS (putS per most man R ls) (setL ls)[i]).length)) :
    (peekS (putS per most man R ls) (setL ls)[i]).head? = some man := by
  have hS : ∀ k ∈ setL ls, k.length = 32 := fun k hk => h32 k ((setL_mem ls k).1 hk)
  have hput : putS per most man R ls = (setL ls).foldl (putOne per most man) R := if_pos ⟨by omega, by omega⟩
  have hlen := setL_len ls
  rcases hs with h1 | ⟨h1, h2⟩
  · rw [hput]
    exact newest_all hp hman (setL ls) R h hS (by omega) _ (Or.inl (List.getElem_mem hi))
  · rw [hput] at h2 ⊢
    have e : setL ls = (setL ls).take i ++ [(setL ls)[i]] := by
      rw [← List.take_succ_eq_append_getElem hi, List.take_of_length_le (by omega)]
    obtain ⟨k, hk⟩ : ∃ k, k = (setL ls)[i] := ⟨_, rfl⟩
    obtain ⟨T, hT⟩ : ∃ T, T = (setL ls).take i := ⟨_, rfl⟩
    have hk32 : k.length = 32 := by rw [hk]; exact hS _ (List.getElem_mem hi)
    have hT32 : ∀ k ∈ T, k.length = 32 := fun k hk => hS k (by rw [hT] at hk; exact List.mem_of_mem_take hk)
    have hf : (setL ls).foldl (putOne per most man) R = putOne per most man (T.foldl (putOne per most man) R) k := by
      rw [hT, hk]
      exact (congrArg (List.foldl (putOne per most man) R) e).trans (by rw [List.foldl_append]; rfl)
    rw [← hk] at h2 ⊢
    rw [hf] at h2 ⊢
    rcases newest_last (most := most) (OkS.fold most hp hman T R h hT32) hp hman hk32 with y | y
    · rw [y] at h2; simp at h2
    · exact y

set_option maxRecDepth 100000 in
set_option maxHeartbeats 32000000 in
theorem sparseNewest_of (CN : NewIdx) (AW : AwakeS) (p : Nat) (hp : p < 256) (m : Nat) (hm : m < 65536) (l : List AcS) (v : Value) (man : Nat) (hman : man < 4294967296) (ls : List (List UInt8)) (vh : Value) (w : World) (H : AcsAt l v w) (HF : FpsAt 32 ls vh w) :
    Calls Try.prog 4 #[.int .u8 (p : Nat), .int .u16 (m : Nat), v, .int .u32 (man : Nat), vh] w fun e w' => e = .returned (.bool true) ∧ Kept w w' := by
  obtain ⟨q, hq⟩ : ∃ q, q = p % 64 := ⟨_, rfl⟩
  have hq64 : q < 64 := by omega
  obtain ⟨per, hper⟩ : ∃ x : Int, x = 1 + (q : Int) := ⟨_, rfl⟩
  obtain ⟨most, hmost⟩ : ∃ x : Int, x = 1 + (m : Int) := ⟨_, rfl⟩
  have t1 : (p : Int).tmod 64 = (q : Int) := by rw [Int.tmod_eq_emod_of_nonneg (by omega)]; omega
  have u1 : IntKind.i64.wrap (q : Int) = (q : Int) := IntWalk.i64_in _ (by omega)
  have u2 : IntKind.i64.wrap (1 + (q : Int)) = per := by rw [hper]; exact IntWalk.i64_in _ (by omega)
  have u3 : IntKind.i64.wrap (m : Int) = (m : Int) := IntWalk.i64_in _ (by omega)
  have u4 : IntKind.i64.wrap (1 + (m : Int)) = most := by rw [hmost]; exact IntWalk.i64_in _ (by omega)
  have CN0 := CN per most w (wf_of_leS _ (by omega) (by omega)) (wf_of_leS _ (by omega) (by omega))
  have HB : Hid ((1 ≤ per ∧ per ≤ 64) ∧ 1 ≤ most ∧ most ≤ 65536) := Lib.hid ⟨⟨by omega, by omega⟩, by omega, by omega⟩
  have HU : Hid (IntKind.i64.wrap (m : Int) = (m : Int) ∧ IntKind.i64.wrap (1 + (m : Int)) = most) := Lib.hid ⟨u3, u4⟩
  obtain ⟨AA, hA, hin⟩ := H
  obtain ⟨pa, ca, rfl, -, -⟩ := hin.rows.out encAc
  obtain ⟨n, hn⟩ : ∃ n, n = AA.length := ⟨_, rfl⟩
  rw [← hn] at hin ⊢
  have HIN := Lib.hid hin
  have HN := Lib.hid hn
  have HF0 := Lib.hid HF
  obtain ⟨h32, ph, ch, rfl, -⟩ := HF
  obtain ⟨hl, hhl⟩ : ∃ x, x = ls.length := ⟨_, rfl⟩
  rw [← hhl] at HF0 ⊢
  have HHL := Lib.hid hhl
  have H32 := Lib.hid h32
  have HMAN := Lib.hid hman
  clear hq hq64 hper hmost hp hm hA hin hn h32 hhl hman CN
  go_enter Try.func4, Try.ntmps4
  go_wp2_with fail
  refine CN0.mono ?_
  rintro e w1 ⟨hk1, h⟩
  have HK1 : Hid (Kept w w1) := Lib.hid hk1
  clear hk1 CN0 t1 u1 u2 u3 u4
  rcases h with ⟨hno, -⟩ | ⟨-, ad, P, Bs, rfl, D, hp0⟩
  · exact absurd ⟨⟨by have := HB.out; omega, HB.out.1.2⟩, by have := HB.out; omega, HB.out.2.2⟩ hno
  have HSO : Hid (∃ Bs R, Solo w per most P R Bs w1 ∧ (lenS R : Int) ≤ 0) := Lib.hid ⟨Bs, [], ⟨hp0, OkI.nil ⟨by have := HB.out; omega, HB.out.1.2⟩ ⟨by have := HB.out; omega, HB.out.2.2⟩, HK1.out, fun m hm => (D.above _ _ _ hp0 m hm).1⟩, Int.le_refl _⟩
  clear hp0
  by_cases h20 : 20 < hl
  · have b20 : decide ((hl : Int) > 20) = true := decide_eq_true (by omega)
    have b20i : (20 : Int) < hl := by omega
    have CA := AW w1
    clear h20 AW HSO
    go_wp2_with fail
    refine CA.mono ?_
    rintro e w3 ⟨rfl, hb⟩
    have HK3 : Hid (Kept w w3) := Lib.hid ((show Kept w w1 from HK1.out).then hb)
    clear hb CA
    go_wp2
    go_ret
    exact ⟨rfl, HK3.out⟩
  have b20 : decide ((hl : Int) > 20) = false := decide_eq_false (by omega)
  have b20i : ¬ (20 : Int) < hl := by omega
  have HH20 : Hid (hl ≤ 20) := Lib.hid (by omega)
  clear h20
  go_wp2
  clear b20 b20i
  go_loopg [13, 14] n (fun gh zz y wr => ∃ (k : Nat) (z : Int), k + gh = n ∧ zz = .int .i64 z ∧ y = .int .i64 k ∧ k ≤ 20 ∧ (0 ≤ z ∧ z ≤ 20 * k) ∧ Hid (∃ Bs R, Solo w per most P R Bs wr ∧ (lenS R : Int) ≤ z) ∧ Hid (Kept w wr))
  case atStart => exact ⟨0, 0, by omega, rfl, rfl, by omega, by omega, HSO, HK1⟩
  case round =>
    clear HSO HK1
    obtain ⟨k, z, hk, rfl, rfl, hk20, hz, HSR, HKR⟩ := hrel
    by_cases hlt : k < n ∧ k < 20
    · obtain ⟨hlt, h20⟩ := hlt
      have hki : (k : Int) < n := by omega
      have bk : decide ((k : Int) < (n : Int)) = true := by simpa using hki
      have bq : decide ((k : Int) < 20) = true := decide_eq_true (by omega)
      have hki0 : (0 : Int) ≤ k := by omega
      have hkA : k < AA.length := by rw [← HN.out]; exact hlt
      obtain ⟨b, off, cs, t, fr, hpp, hg0, -, -, h2, h1⟩ := HIN.out.act HN.out hlt
      subst hpp
      have hat := HIN.out.each _ (List.getElem_mem hkA)
      obtain ⟨AC, hAC⟩ : ∃ a, a = AA[k] := ⟨_, rfl⟩
      rw [← hAC] at hat h2 h1
      have hfp := hat.hooks
      obtain ⟨hk32, pt, ct, htv, -⟩ := hat.hooks
      have IX := fun W => idx_rec (P := Try.prog) (k := 3) Try.underlying22 (fun w => Try.sizeOf36 w) b off n ca k hlt W
      obtain ⟨k1, hk1⟩ : ∃ k1, k1 = k + 1 := ⟨_, rfl⟩
      have v1 : IntKind.i64.wrap ((k : Int) + 1) = (k1 : Int) := by rw [show (k : Int) + 1 = (k1 : Int) by omega]; exact IntWalk.i64_in _ (by omega)
      have g2 := HKR.out.row hg0
      obtain ⟨mm, hmm⟩ : ∃ m, m = AC.1.hooks.length := ⟨_, rfl⟩
      obtain ⟨ma, hma⟩ : ∃ m, m = AC.1.man := ⟨_, rfl⟩
      have c2 : wr.cell? ⟨b, off + k * 3 + 2, none⟩ = some (.slice pt mm ct) := by rw [cell_of_row _ _ _ _ _ _ g2, h2, htv, hmm]
      have c1 : wr.cell? ⟨b, off + k * 3 + 1, none⟩ = some (.int .u32 (ma : Nat)) := by rw [cell_of_row _ _ _ _ _ _ g2, h1, hma]
      by_cases hm20 : 20 < mm
      · have bm : decide ((mm : Int) > 20) = true := decide_eq_true (by omega)
        have bmi : (20 : Int) < mm := by omega
        have CA := AW wr
        clear hk1 hk hlt h20 hk20 hz hkA hg0 h2 h1 hat hAC hfp hk32 htv g2 hmm hma hm20 AW
        go_wp2_with fail
        refine CA.mono ?_
        rintro e w3 ⟨rfl, hb⟩
        have HK3 : Hid (Kept w w3) := Lib.hid ((show Kept w wr from HKR.out).then hb)
        clear hb CA
        go_wp2
        go_ret
        exact ⟨rfl, HK3.out⟩
      · have bm : decide ((mm : Int) > 20) = false := decide_eq_false (by omega)
        have bmi : ¬ (20 : Int) < mm := by omega
        obtain ⟨Bs', R', hs, hls'⟩ := HSR.out
        obtain ⟨z1, hz1⟩ : ∃ z1, z1 = z + (mm : Int) := ⟨_, rfl⟩
        have vz : IntKind.i64.wrap (z + (mm : Int)) = z1 := by rw [hz1]; exact IntWalk.i64_in _ (by omega)
        have HZ : Hid ((0 ≤ z1 ∧ z1 ≤ 20 * k1) ∧ (lenS (putS per most ma R' AC.1.hooks) : Int) ≤ z1) := Lib.hid ⟨by omega, by
          have := putS_len per most ma R' AC.1.hooks
          rw [← hmm] at this
          omega⟩
        have HKK : Hid (k1 = k + 1 ∧ k + gk = n ∧ k < n ∧ k < 20 ∧ mm ≤ 20) := Lib.hid ⟨hk1, hk, hlt, h20, by omega⟩
        have HML : Hid (mm = AC.1.hooks.length) := Lib.hid hmm
        have HFP : Hid (FpsAt 32 AC.1.hooks (.slice pt mm ct) w) := Lib.hid (by rw [hmm, ← htv]; exact hfp)
        have HMA : Hid (ma < 4294967296) := Lib.hid (by rw [hma]; exact hat.man)
        have HS := Lib.hid hs
        have HC2 := Lib.hid c2
        have HK32 := Lib.hid hk32
        clear hk1 hk hlt h20 hk20 hz hkA hg0 h2 h1 hat hAC hfp hk32 htv g2 hmm hma hm20 hs hls' hz1 HSR
        go_wp2_with fail
        refine wp_region_kept_tail 11 (by kernel_rfl) (by decide) (by kernel_rfl) (by kernel_rfl) ?_
        simp only [List.take_succ_cons, List.take_zero, List.drop_succ_cons, List.drop_zero]
        refine wpQuiet_pure (v := ?_) (by kernel_rfl) ?_ (fun K hK => ?_)
        case refine_2 => intro W _; go_simp; try with_reducible rfl
        go_simp
        refine hK _ ?_; clear hK K
        refine wpQuiet_pure (v := ?_) (by kernel_rfl) ?_ (fun K hK => ?_)
        case refine_2 => intro W _; go_simp; try with_reducible rfl
        go_simp
        refine hK _ ?_; clear hK K
        refine wpQuiet_pure (v := ?_) (by kernel_rfl) ?_ (fun K hK => ?_)
        case refine_2 => intro W _; go_simp; try with_reducible rfl
        go_simp
        refine hK _ ?_; clear hK K
        refine wpQuiet_pure (v := ?_) (by kernel_rfl) ?_ (fun K hK => ?_)
        case refine_2 => intro W hW; have e0 := IX W; go_simp; try with_reducible rfl
        go_simp
        refine hK _ ?_; clear hK K
        refine wpQuiet_pure (v := ?_) (by kernel_rfl) ?_ (fun K hK => ?_)
        case refine_2 => intro W _; go_simp; try with_reducible rfl
        go_simp
        refine hK _ ?_; clear hK K
        refine wpQuiet_load_cell (by kernel_rfl) _ _ rfl ⟨b, off + k * 3 + 1, none⟩ rfl _ Try.underlying33 rfl _ (fun _ h => h.cell c1) (fun K hK => ?_)
        go_simp
        refine hK _ ?_; clear hK K
        refine wpQuiet_pure (v := ?_) (by kernel_rfl) ?_ (fun K hK => ?_)
        case refine_2 => intro W _; go_simp; try with_reducible rfl
        go_simp
        refine hK _ ?_; clear hK K
        refine wpQuiet_pure (v := ?_) (by kernel_rfl) ?_ (fun K hK => ?_)
        case refine_2 => intro W _; go_simp; try with_reducible rfl
        go_simp
        refine hK _ ?_; clear hK K
        refine wpQuiet_pure (v := ?_) (by kernel_rfl) ?_ (fun K hK => ?_)
        case refine_2 => intro W hW; have e0 := IX W; go_simp; try with_reducible rfl
        go_simp
        refine hK _ ?_; clear hK K
        refine wpQuiet_pure (v := ?_) (by kernel_rfl) ?_ (fun K hK => ?_)
        case refine_2 => intro W _; go_simp; try with_reducible rfl
        go_simp
        refine hK _ ?_; clear hK K
        refine wpQuiet_load_cell (by kernel_rfl) _ _ rfl ⟨b, off + k * 3 + 2, none⟩ rfl _ Try.underlying34 rfl _ (fun _ h => h.cell c2) (fun K hK => ?_)
        go_simp
        refine hK _ ?_; clear hK K
        refine wpQuiet_nil ?_
        intro w3 hk3
        have HS3 := Lib.hid (HS.out.later D hk3)
        have CP := D.put R' Bs' w3 ma AC.1.hooks (.slice pt mm ct) HS3.out.p HS3.out.ok HMA.out (by have := HML.out; have := HKK.out; omega) (HS3.out.fps HFP.out)
        clear hk3 c1 c2 HS
        go_wp2_with fail
        refine CP.mono ?_
        rintro e w4 ⟨rfl, hx⟩
        have HC4 : Hid (w4.cell? ⟨b, off + k * 3 + 2, none⟩ = some (.slice pt mm ct)) := Lib.hid (by
          have hb4 := HS3.out.prog hx (HS3.out.ok.put HMA.out HK32.out)
          obtain ⟨Bx, hsx⟩ := hb4
          obtain ⟨b', off', cs', t', fr', hp', hg', -, -, h2', -⟩ := HIN.out.act HN.out (show k < n from HKK.out.2.2.1)
          have e := Option.some.inj hp'
          simp only [Addr.mk.injEq, and_true] at e
          obtain ⟨rfl, rfl⟩ := e
          have hrw := HKR.out.row hg'
          have h3 := HC2.out
          rw [cell_of_row _ _ _ _ _ _ hrw] at h3
          rw [cell_of_row _ _ _ _ _ _ (hsx.kept.row hg')]
          exact h3)
        obtain ⟨Bs4, hs4⟩ := HS3.out.prog hx (HS3.out.ok.put HMA.out HK32.out)
        have HS4 := Lib.hid hs4
        have c2 := HC4.out
        clear hx hs4 CP HS3
        go_wp2
        go_roundg (n - k1)
        · exact ⟨k1, z1, by have := HKK.out; omega, rfl, by first | rfl | (have := HKK.out; congr 1; omega), by have := HKK.out; omega, HZ.out.1, Lib.hid ⟨_, _, HS4.out, HZ.out.2⟩, Lib.hid HS4.out.kept⟩
        · have := HKK.out; omega
    · obtain ⟨Bs', R', hs, hls'⟩ := HSR.out
      have HS := Lib.hid hs
      have CP := D.put R' Bs' wr man ls (.slice ph hl ch) hs.p hs.ok HMAN.out (by have := HH20.out; have := HHL.out; omega) (hs.fps HF0.out)
      obtain ⟨zh, hzh⟩ : ∃ zh, zh = z + (hl : Int) := ⟨_, rfl⟩
      have vz : IntKind.i64.wrap (z + (hl : Int)) = zh := by rw [hzh]; exact IntWalk.i64_in _ (by have := HH20.out; omega)
      have HSU : Hid (∀ (i : Nat) (hi : i < (setL ls).length), (zh ≤ most ∨ (i = (setL ls).length - 1 ∧ 0 < (peekS (putS per most man R' ls) (setL ls)[i]).length)) → (peekS (putS per most man R' ls) (setL ls)[i]).head? = some man) := Lib.hid (fun i hi hor => newest_sure HB.out.1.1 HB.out.2.1 HMAN.out hs.ok.ok H32.out z hls' i hi (by
        have e : z + (ls.length : Int) = zh := by rw [hzh, ← HHL.out]
        rw [e]; exact hor))
      have HEXIT : Hid ((k < n ∧ ¬ k < 20) ∨ ¬ k < n) := Lib.hid (by
        by_cases h : k < n
        · exact Or.inl ⟨h, fun h2 => hlt ⟨h, h2⟩⟩
        · exact Or.inr h)
      have HHK := Lib.hid hk
      clear hs hls' hlt hk20 hz hzh HSR hk
      have MAIN : ∀ w4, (XPost P Bs' (putS per most man R' ls) wr w4) → ∃ Bs4, Solo w per most P (putS per most man R' ls) Bs4 w4 := fun w4 hx => HS.out.prog hx (HS.out.ok.put HMAN.out H32.out)
      have HMAIN := Lib.hid MAIN
      clear MAIN
      rcases HEXIT.out with ⟨h1, h2⟩ | h1
      · have bk : decide ((k : Int) < (n : Int)) = true := decide_eq_true (by omega)
        have hki : (k : Int) < n := by omega
        have bq : decide ((k : Int) < 20) = false := decide_eq_false (by omega)
        have bqi : ¬ (k : Int) < 20 := by omega
        clear h1 h2 HEXIT
        go_wp2_with fail
        refine CP.mono ?_
        rintro e w4 ⟨rfl, hx⟩
        obtain ⟨Bs4, hs4⟩ := HMAIN.out w4 hx
        have HS4 := Lib.hid hs4
        have CS := rset_any (.slice ph hl ch) ls (by have := HH20.out; have := HHL.out; omega) w4 (HF0.out.later hs4.kept)
        clear hx hs4 CP HMAIN HS
        go_wp2_with fail
        refine CS.mono ?_
        rintro e w5 ⟨vs, rfl, hown, hb5⟩
        have hfs := hown.fps
        obtain ⟨-, ps, cs, hvs, -⟩ := hfs
        subst hvs
        obtain ⟨sn, hsn⟩ : ∃ x, x = (setL ls).length := ⟨_, rfl⟩
        have HFS : Hid (FpsAt 32 (setL ls) (.slice ps sn cs) w5) := Lib.hid (by rw [hsn]; exact hown.fps)
        have HSN := Lib.hid hsn
        rw [← hsn]
        have HS5 := Lib.hid (HS4.out.later D hb5)
        have HSL : Hid (sn ≤ 20) := Lib.hid (by have h1 := setL_len ls; have h2 := HH20.out; have h3 := HHL.out; rw [← hsn, ← h3] at h1; omega)
        obtain ⟨RF, hRF⟩ : ∃ r, r = putS per most man R' ls := ⟨_, rfl⟩
        rw [← hRF] at HS5 HSU
        clear hsn hown hb5 CS HS4 hRF
        go_wp2
        go_loopg [16] sn (fun gh y wr => ∃ (i : Nat), i + gh = sn ∧ y = .int .i64 i ∧ Hid (Kept w5 wr))
        case atStart => exact ⟨0, by omega, rfl, Lib.hid (Kept.refl w5)⟩
        case round =>
          obtain ⟨i, hi, rfl, HKX⟩ := hrel
          have HSX := Lib.hid (HS5.out.later D HKX.out)
          by_cases hlt : i < sn
          · have hii : (i : Int) < sn := by omega
            have bi : decide ((i : Int) < (sn : Int)) = true := by simpa using hii
            have hii0 : (0 : Int) ≤ i := by omega
            have hil : i < (setL ls).length := by rw [← HSN.out]; exact hlt
            obtain ⟨bb, oo, cc, tt, ff, hpb, hgb, hsb, heb⟩ := (show FpsAt 32 (setL ls) (.slice ps (setL ls).length cs) w5 by rw [← HSN.out]; exact HFS.out).elem hil
            subst hpb
            have hsure := HSU.out i hil
            obtain ⟨h, hh⟩ : ∃ h, h = (setL ls)[i] := ⟨_, rfl⟩
            rw [← hh] at heb hsure
            have hh32 : h.length = 32 := by rw [hh]; exact HFS.out.1 _ (List.getElem_mem hil)
            have CK := D.peek RF Bs4 wr h HSX.out.p HSX.out.ok hh32
            obtain ⟨F, hF⟩ : ∃ F, F = fpA h := ⟨_, rfl⟩
            rw [← hF] at heb CK
            obtain ⟨L, hL⟩ : ∃ L, L = peekS RF h := ⟨_, rfl⟩
            rw [← hL] at CK hsure
            have hLL : L.length ≤ 64 := by rw [hL]; exact HSX.out.ok.peek h
            rw [← HSN.out] at hsure
            have HSURE := Lib.hid hsure
            have HES : Hid (oo + i * 32 + 32 ≤ cc.size ∧ cc.extract (oo + i * 32) (oo + i * 32 + 32) = F) := Lib.hid ⟨hsb, heb⟩
            have g2 := HKX.out.row hgb
            have IX := fun W => idx_rec (P := Try.prog) (k := 32) Try.underlying34 (fun w => Try.sizeOf47 w) bb oo sn cs i hlt W
            obtain ⟨i1, hi1⟩ : ∃ i1, i1 = i + 1 := ⟨_, rfl⟩
            have v1 : IntKind.i64.wrap ((i : Int) + 1) = (i1 : Int) := by rw [show (i : Int) + 1 = (i1 : Int) by omega]; exact IntWalk.i64_in _ (by have := HSL.out; omega)
            obtain ⟨sm, hsm⟩ : ∃ sm, sm = sn - 1 := ⟨_, rfl⟩
            have v2 : IntKind.i64.wrap ((sn : Int) - 1) = (sm : Int) := by rw [show (sn : Int) - 1 = (sm : Int) by omega]; exact IntWalk.i64_in _ (by have := HSL.out; omega)
            have HII : Hid (i1 = i + 1 ∧ i + gk = sn ∧ i < sn ∧ sm = sn - 1) := Lib.hid ⟨hi1, hi, hlt, hsm⟩
            obtain ⟨u3, u4⟩ := HU.out
            clear hi1 hi hlt hil hgb hsb heb hsure hh hh32 hF hL hsm
            go_wp2_with (with_reducible refine wpList_load_sub rfl _ _ rfl bb (oo + i * 32) 32 rfl tt cc ff _ g2 Try.underlying47 rfl infoFp HES.out.1 F HES.out.2 ?_)
            refine CK.mono ?_
            rintro e w6 ⟨⟨vl, rfl, hnew⟩, hb6⟩
            have hus := hnew w6 (fun _ _ _ => rfl)
            have HK6 : Hid (Kept w5 w6) := Lib.hid (HKX.out.then hb6)
            obtain ⟨pl, cl, rfl, hcl, hcell⟩ := hus.out encU
            obtain ⟨lk, hlk⟩ : ∃ x, x = L.length := ⟨_, rfl⟩
            rw [← hlk] at hcl hLL HSURE ⊢
            have HLK := Lib.hid hlk
            have HCELL := Lib.hid hcell
            clear hnew hb6 CK g2 hus hcell hlk IX
            have GOOD : (zh ≤ most ∨ (i = sn - 1 ∧ 0 < lk)) → 0 < lk ∧ ∃ b off, pl = some ⟨b, off, none⟩ ∧ w6.cell? ⟨b, off, none⟩ = some (.int .u32 (man : Nat)) := fun hor => by
              obtain ⟨h1, h2⟩ := head_get (HSURE.out hor)
              have h3 := h2 h1
              rw [← HLK.out] at h1
              refine ⟨h1, ?_⟩
              rcases HCELL.out with h0 | ⟨b, off, hp, hc⟩
              · omega
              · have := hc 0 (by rw [← HLK.out]; exact h1) 0 _ rfl
                rw [h3] at this
                simp only [Nat.zero_mul, Nat.add_zero] at this
                exact ⟨b, off, hp, this⟩
            have HGOOD := Lib.hid GOOD
            clear GOOD
            by_cases hz1 : zh ≤ most
            · obtain ⟨hp0, b, off, rfl, x0⟩ := HGOOD.out (Or.inl hz1)
              have bz : decide (zh ≤ most) = true := decide_eq_true hz1
              have bl0 : ((lk : Int) == 0) = false := beq_eq_false_iff_ne.2 (by omega)
              have bl1 : (0 : Int) < lk := by omega
              have bne : ((man : Int) != (man : Int)) = false := by simp
              clear hz1 hp0 HGOOD HCELL
              go_wp2
              go_roundg (sn - i1)
              · exact ⟨i1, by have := HII.out; omega, by first | rfl | (have := HII.out; congr 1; omega), HK6⟩
              · have := HII.out; omega
            · have bz : decide (zh ≤ most) = false := decide_eq_false hz1
              by_cases hi2 : i = sm
              · have bi2 : ((i : Int) == (sm : Int)) = true := beq_iff_eq.2 (by omega)
                by_cases hp0 : 0 < lk
                · obtain ⟨-, b, off, rfl, x0⟩ := HGOOD.out (Or.inr ⟨by have := HII.out; omega, hp0⟩)
                  have bl0 : ((lk : Int) == 0) = false := beq_eq_false_iff_ne.2 (by omega)
                  have bl2 : decide ((lk : Int) > 0) = true := decide_eq_true (by omega)
                  have bl1 : (0 : Int) < lk := by omega
                  have bne : ((man : Int) != (man : Int)) = false := by simp
                  clear hz1 hp0 HGOOD HCELL hi2
                  go_wp2
                  go_roundg (sn - i1)
                  · exact ⟨i1, by have := HII.out; omega, by first | rfl | (have := HII.out; congr 1; omega), HK6⟩
                  · have := HII.out; omega
                · have bl2 : decide ((lk : Int) > 0) = false := decide_eq_false (by omega)
                  have bl1 : ¬ (0 : Int) < lk := by omega
                  clear hz1 hp0 HGOOD HCELL hi2
                  go_wp2
                  go_roundg (sn - i1)
                  · exact ⟨i1, by have := HII.out; omega, by first | rfl | (have := HII.out; congr 1; omega), HK6⟩
                  · have := HII.out; omega
              · have bi2 : ((i : Int) == (sm : Int)) = false := beq_eq_false_iff_ne.2 (by omega)
                clear hz1 HGOOD HCELL hi2
                go_wp2
                go_roundg (sn - i1)
                · exact ⟨i1, by have := HII.out; omega, by first | rfl | (have := HII.out; congr 1; omega), HK6⟩
                · have := HII.out; omega
          · have hii : ¬ (i : Int) < sn := by omega
            have bi : decide ((i : Int) < (sn : Int)) = false := by simpa using hii
            have CA := AW wr
            clear hlt hi AW
            go_wp2_with fail
            refine CA.mono ?_
            rintro e w7 ⟨rfl, hb⟩
            have HK7 : Hid (Kept w w7) := Lib.hid (HSX.out.kept.then hb)
            clear hb CA
            go_wp2
            go_ret
            exact ⟨rfl, HK7.out⟩
      · have bk : decide ((k : Int) < (n : Int)) = false := decide_eq_false (by omega)
        have hki : ¬ (k : Int) < n := by omega
        clear h1 HEXIT
        go_wp2_with fail
        refine CP.mono ?_
        rintro e w4 ⟨rfl, hx⟩
        obtain ⟨Bs4, hs4⟩ := HMAIN.out w4 hx
        have HS4 := Lib.hid hs4
        have CS := rset_any (.slice ph hl ch) ls (by have := HH20.out; have := HHL.out; omega) w4 (HF0.out.later hs4.kept)
        clear hx hs4 CP HMAIN HS
        go_wp2_with fail
        refine CS.mono ?_
        rintro e w5 ⟨vs, rfl, hown, hb5⟩
        have hfs := hown.fps
        obtain ⟨-, ps, cs, hvs, -⟩ := hfs
        subst hvs
        obtain ⟨sn, hsn⟩ : ∃ x, x = (setL ls).length := ⟨_, rfl⟩
        have HFS : Hid (FpsAt 32 (setL ls) (.slice ps sn cs) w5) := Lib.hid (by rw [hsn]; exact hown.fps)
        have HSN := Lib.hid hsn
        rw [← hsn]
        have HS5 := Lib.hid (HS4.out.later D hb5)
        have HSL : Hid (sn ≤ 20) := Lib.hid (by have h1 := setL_len ls; have h2 := HH20.out; have h3 := HHL.out; rw [← hsn, ← h3] at h1; omega)
        obtain ⟨RF, hRF⟩ : ∃ r, r = putS per most man R' ls := ⟨_, rfl⟩
        rw [← hRF] at HS5 HSU
        clear hsn hown hb5 CS HS4 hRF
        go_wp2
        go_loopg [16] sn (fun gh y wr => ∃ (i : Nat), i + gh = sn ∧ y = .int .i64 i ∧ Hid (Kept w5 wr))
        case atStart => exact ⟨0, by omega, rfl, Lib.hid (Kept.refl w5)⟩
        case round =>
          obtain ⟨i, hi, rfl, HKX⟩ := hrel
          have HSX := Lib.hid (HS5.out.later D HKX.out)
          by_cases hlt : i < sn
          · have hii : (i : Int) < sn := by omega
            have bi : decide ((i : Int) < (sn : Int)) = true := by simpa using hii
            have hii0 : (0 : Int) ≤ i := by omega
            have hil : i < (setL ls).length := by rw [← HSN.out]; exact hlt
            obtain ⟨bb, oo, cc, tt, ff, hpb, hgb, hsb, heb⟩ := (show FpsAt 32 (setL ls) (.slice ps (setL ls).length cs) w5 by rw [← HSN.out]; exact HFS.out).elem hil
            subst hpb
            have hsure := HSU.out i hil
            obtain ⟨h, hh⟩ : ∃ h, h = (setL ls)[i] := ⟨_, rfl⟩
            rw [← hh] at heb hsure
            have hh32 : h.length = 32 := by rw [hh]; exact HFS.out.1 _ (List.getElem_mem hil)
            have CK := D.peek RF Bs4 wr h HSX.out.p HSX.out.ok hh32
            obtain ⟨F, hF⟩ : ∃ F, F = fpA h := ⟨_, rfl⟩
            rw [← hF] at heb CK
            obtain ⟨L, hL⟩ : ∃ L, L = peekS RF h := ⟨_, rfl⟩
            rw [← hL] at CK hsure
            have hLL : L.length ≤ 64 := by rw [hL]; exact HSX.out.ok.peek h
            rw [← HSN.out] at hsure
            have HSURE := Lib.hid hsure
            have HES : Hid (oo + i * 32 + 32 ≤ cc.size ∧ cc.extract (oo + i * 32) (oo + i * 32 + 32) = F) := Lib.hid ⟨hsb, heb⟩
            have g2 := HKX.out.row hgb
            have IX := fun W => idx_rec (P := Try.prog) (k := 32) Try.underlying34 (fun w => Try.sizeOf47 w) bb oo sn cs i hlt W
            obtain ⟨i1, hi1⟩ : ∃ i1, i1 = i + 1 := ⟨_, rfl⟩
            have v1 : IntKind.i64.wrap ((i : Int) + 1) = (i1 : Int) := by rw [show (i : Int) + 1 = (i1 : Int) by omega]; exact IntWalk.i64_in _ (by have := HSL.out; omega)
            obtain ⟨sm, hsm⟩ : ∃ sm, sm = sn - 1 := ⟨_, rfl⟩
            have v2 : IntKind.i64.wrap ((sn : Int) - 1) = (sm : Int) := by rw [show (sn : Int) - 1 = (sm : Int) by omega]; exact IntWalk.i64_in _ (by have := HSL.out; omega)
            have HII : Hid (i1 = i + 1 ∧ i + gk = sn ∧ i < sn ∧ sm = sn - 1) := Lib.hid ⟨hi1, hi, hlt, hsm⟩
            obtain ⟨u3, u4⟩ := HU.out
            clear hi1 hi hlt hil hgb hsb heb hsure hh hh32 hF hL hsm
            go_wp2_with (with_reducible refine wpList_load_sub rfl _ _ rfl bb (oo + i * 32) 32 rfl tt cc ff _ g2 Try.underlying47 rfl infoFp HES.out.1 F HES.out.2 ?_)
            refine CK.mono ?_
            rintro e w6 ⟨⟨vl, rfl, hnew⟩, hb6⟩
            have hus := hnew w6 (fun _ _ _ => rfl)
            have HK6 : Hid (Kept w5 w6) := Lib.hid (HKX.out.then hb6)
            obtain ⟨pl, cl, rfl, hcl, hcell⟩ := hus.out encU
            obtain ⟨lk, hlk⟩ : ∃ x, x = L.length := ⟨_, rfl⟩
            rw [← hlk] at hcl hLL HSURE ⊢
            have HLK := Lib.hid hlk
            have HCELL := Lib.hid hcell
            clear hnew hb6 CK g2 hus hcell hlk IX
            have GOOD : (zh ≤ most ∨ (i = sn - 1 ∧ 0 < lk)) → 0 < lk ∧ ∃ b off, pl = some ⟨b, off, none⟩ ∧ w6.cell? ⟨b, off, none⟩ = some (.int .u32 (man : Nat)) := fun hor => by
              obtain ⟨h1, h2⟩ := head_get (HSURE.out hor)
              have h3 := h2 h1
              rw [← HLK.out] at h1
              refine ⟨h1, ?_⟩
              rcases HCELL.out with h0 | ⟨b, off, hp, hc⟩
              · omega
              · have := hc 0 (by rw [← HLK.out]; exact h1) 0 _ rfl
                rw [h3] at this
                simp only [Nat.zero_mul, Nat.add_zero] at this
                exact ⟨b, off, hp, this⟩
            have HGOOD := Lib.hid GOOD
            clear GOOD
            by_cases hz1 : zh ≤ most
            · obtain ⟨hp0, b, off, rfl, x0⟩ := HGOOD.out (Or.inl hz1)
              have bz : decide (zh ≤ most) = true := decide_eq_true hz1
              have bl0 : ((lk : Int) == 0) = false := beq_eq_false_iff_ne.2 (by omega)
              have bl1 : (0 : Int) < lk := by omega
              have bne : ((man : Int) != (man : Int)) = false := by simp
              clear hz1 hp0 HGOOD HCELL
              go_wp2
              go_roundg (sn - i1)
              · exact ⟨i1, by have := HII.out; omega, by first | rfl | (have := HII.out; congr 1; omega), HK6⟩
              · have := HII.out; omega
            · have bz : decide (zh ≤ most) = false := decide_eq_false hz1
              by_cases hi2 : i = sm
              · have bi2 : ((i : Int) == (sm : Int)) = true := beq_iff_eq.2 (by omega)
                by_cases hp0 : 0 < lk
                · obtain ⟨-, b, off, rfl, x0⟩ := HGOOD.out (Or.inr ⟨by have := HII.out; omega, hp0⟩)
                  have bl0 : ((lk : Int) == 0) = false := beq_eq_false_iff_ne.2 (by omega)
                  have bl2 : decide ((lk : Int) > 0) = true := decide_eq_true (by omega)
                  have bl1 : (0 : Int) < lk := by omega
                  have bne : ((man : Int) != (man : Int)) = false := by simp
                  clear hz1 hp0 HGOOD HCELL hi2
                  go_wp2
                  go_roundg (sn - i1)
                  · exact ⟨i1, by have := HII.out; omega, by first | rfl | (have := HII.out; congr 1; omega), HK6⟩
                  · have := HII.out; omega
                · have bl2 : decide ((lk : Int) > 0) = false := decide_eq_false (by omega)
                  have bl1 : ¬ (0 : Int) < lk := by omega
                  clear hz1 hp0 HGOOD HCELL hi2
                  go_wp2
                  go_roundg (sn - i1)
                  · exact ⟨i1, by have := HII.out; omega, by first | rfl | (have := HII.out; congr 1; omega), HK6⟩
                  · have := HII.out; omega
              · have bi2 : ((i : Int) == (sm : Int)) = false := beq_eq_false_iff_ne.2 (by omega)
                clear hz1 HGOOD HCELL hi2
                go_wp2
                go_roundg (sn - i1)
                · exact ⟨i1, by have := HII.out; omega, by first | rfl | (have := HII.out; congr 1; omega), HK6⟩
                · have := HII.out; omega
          · have hii : ¬ (i : Int) < sn := by omega
            have bi : decide ((i : Int) < (sn : Int)) = false := by simpa using hii
            have CA := AW wr
            clear hlt hi AW
            go_wp2_with fail
            refine CA.mono ?_
            rintro e w7 ⟨rfl, hb⟩
            have HK7 : Hid (Kept w w7) := Lib.hid (HSX.out.kept.then hb)
            clear hb CA
            go_wp2
            go_ret
            exact ⟨rfl, HK7.out⟩

end Go.Proofs.Ytaajadmaamjebaa
