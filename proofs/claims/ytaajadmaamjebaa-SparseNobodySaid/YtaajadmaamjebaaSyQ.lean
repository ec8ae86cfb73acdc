/- The landed index: Put. -/
import Derived.Test.YtaajadmaamjebaaGN
import Derived.Test.YtaajadmaamjebaaHkMs
namespace Go.Proofs.Ytaajadmaamjebaa
open Go.RowKit

theorem fold_ok {per most : Int} {man : Nat} (hman : man < 4294967296) : ∀ (S : List (List UInt8)) (R : List SRow), OkI per most R → (∀ k ∈ S, k.length = 32) → OkI per most (S.foldl (landOne per most man) R)
  | [], _, ok, _ => ok
  | h :: S, _, ok, h32 => fold_ok hman S _ (landOne_ok ok (h32 h (List.mem_cons_self ..)) hman) (fun k hk => h32 k (List.mem_cons_of_mem _ hk))
theorem IxP.base {B bx : Nat} {per most : Int} {R : List SRow} {Bs : Nat → Prop} {w : World} (h : IxP B bx per most R Bs w) : B ≤ w.heap.size ∧ ∀ k, Bs k → B ≤ k ∧ k < w.heap.size := by
  obtain ⟨bm, be, L, σ, f, h⟩ := h
  refine ⟨?_, h.blk⟩
  have := h.blk bx h.cov.1
  omega

set_option maxRecDepth 100000 in
set_option maxHeartbeats 4000000 in
theorem yput_any (B bx : Nat) (p : Nat) (most : Int) (R : List SRow) (Bs : Nat → Prop) (w : World) (man : Nat) (ls : List (List UInt8)) (vs : Value) (H : IxP B bx (p : Int) most R Bs w) (ok : OkI (p : Int) most R) (hman : man < 4294967296) (hls : ls.length ≤ 1000) (hv : FpsAt 32 ls vs w) :
    Calls Try.prog 12 #[.pointer (some ⟨bx, 0, none⟩), .int .u32 (man : Nat), vs] w fun e w' => e = .returned (.tuple #[]) ∧ XPost (IxP B bx (p : Int) most) Bs (putS (p : Int) most man R ls) w w' := by
  have c0 : w.cell? ⟨bx, 0, none⟩ = some (.pointer (some ⟨bx, 0, none⟩)) := by
    obtain ⟨bm, be, L, σ, f, h⟩ := H
    exact h.low.x.c0
  have MK := xmade_self bx w c0
  have ST := hset_any vs ls (by omega) w hv
  have h32 : ∀ k ∈ setL ls, k.length = 32 := fun k hk => hv.1 k ((setL_mem ls k).1 hk)
  have hsl := setL_le 32 ls hv.1
  have HPUT : Hid ((setL ls).foldl (landOne (p : Int) most man) R = putS (p : Int) most man R ls) := Lib.hid (put_land (setL ls) R ok h32 hman)
  obtain ⟨S, hS⟩ : ∃ S, S = setL ls := ⟨_, rfl⟩
  rw [← hS] at ST h32 hsl HPUT
  have H32 := Lib.hid h32
  have HH := Lib.hid H
  have HOK := Lib.hid ok
  have HMAN := Lib.hid hman
  have HBL := Lib.hid H.base
  obtain ⟨n, hn⟩ : ∃ n, n = S.length := ⟨_, rfl⟩
  have HN : Hid (n = S.length ∧ n ≤ 1000) := Lib.hid ⟨hn, by omega⟩
  clear H ok hman hls hv c0 h32 hsl hS hn
  go_enter Try.func12, Try.ntmps12
  go_wp2_with (go_at_call 28; refine MK.mono ?_; rintro e w2 ⟨rfl, rfl⟩)
  refine ST.mono ?_
  rintro e w1 ⟨v1, rfl, ho1, hb1⟩
  have hfp := ho1.fps
  obtain ⟨pv, cv, hv1, -⟩ := hfp.2
  subst hv1
  rw [← HN.out.1] at hfp ho1 ⊢
  have HFP := Lib.hid hfp
  have HO1 := Lib.hid ho1
  have HB1 := Lib.hid hb1
  have X0 : Hid (XPost (IxP B bx (p : Int) most) Bs R w1 w1) := Lib.hid ⟨⟨Bs, HH.out.later hb1, fun k hk => Or.inl hk⟩, but_refl _ _⟩
  clear hfp ho1 hb1 ST MK
  go_wp2
  go_loopg [14] n (fun gh y14 wr => ∃ (k : Nat), k + gh = n ∧ y14 = .int .i64 k ∧ Hid (XPost (IxP B bx (p : Int) most) Bs ((S.take k).foldl (landOne (p : Int) most man) R) w1 wr))
  case atStart => exact ⟨0, by omega, rfl, X0⟩
  case round =>
    clear X0
    obtain ⟨k, hk, rfl, HX⟩ := hrel
    by_cases hlt : k < n
    · have hki : (k : Int) < n := by omega
      have bk : decide ((k : Int) < (n : Int)) = true := by simpa using hki
      have hkS : k < S.length := by rw [← HN.out.1]; exact hlt
      obtain ⟨b, off, cs, t, fr, hp, hg, E1⟩ := (HN.out.1 ▸ HFP.out : FpsAt 32 S (.slice pv S.length cv) w1).elem hkS
      subst hp
      have hbl : b < w1.heap.size := (Array.getElem?_eq_some_iff.1 hg).1
      have hbB : ¬ Bs b := fun e => by
        have h1 := (HBL.out.2 b e).2
        have h2 := (HO1.out.lt b rfl).1
        omega
      obtain ⟨⟨Cs, hP, hC⟩, hBy⟩ := HX.out
      have g1 : wr.heap[b]? = some (.cells cs t fr) := (hBy.block b hbl hbB).trans hg
      have IX1 := fun w' => idx_at b off n cv k hlt w'
      have hk32 := H32.out S[k] (List.getElem_mem hkS)
      have HXI : Hid ((Try.prog.info? 47).map (·.size) = some (fpA S[k]).size) := Lib.hid (fp_info _ hk32)
      have HX1 : Hid ((fpA S[k]).all (·.oneCell') = true) := Lib.hid (fpA_one _)
      have HXS : Hid ((fpA S[k]).size = 32) := Lib.hid (by rw [fpA_size]; exact hk32)
      have htk : S.take (k + 1) = S.take k ++ [S[k]] := List.take_succ_eq_append_getElem hkS
      obtain ⟨Q, hQ⟩ : ∃ Q, Q = (S.take k).foldl (landOne (p : Int) most man) R := ⟨_, rfl⟩
      have hfold : (S.take (k + 1)).foldl (landOne (p : Int) most man) R = landOne (p : Int) most man Q S[k] := by rw [htk, List.foldl_append, ← hQ]; rfl
      have okQ : OkI (p : Int) most Q := by rw [hQ]; exact fold_ok HMAN.out _ R HOK.out (fun x hx => H32.out x (List.mem_of_mem_take hx))
      rw [← hQ] at hP
      have KB := box_below wr (.cells (fpA S[k]) 47)
      have gN := heap_alloc_last wr (.cells (fpA S[k]) 47)
      have hP2 := hP.later KB
      have PU := yput1_any B bx p most Q Cs _ man S[k] hP2.base.1 hP2 okQ HMAN.out hk32
      have HNEXT : Hid (∀ w', XPost (IxP B bx (p : Int) most) Cs (landOne (p : Int) most man Q S[k]) (wr.alloc (.cells (fpA S[k]) 47)) w' → XPost (IxP B bx (p : Int) most) Bs (landOne (p : Int) most man Q S[k]) w1 w') := Lib.hid (fun w' h => by
        obtain ⟨⟨Ds, h1, h2⟩, h3⟩ := h
        have hs1 := hBy.size
        have hs2 := KB.size
        refine ⟨⟨Ds, h1, fun j hj => ?_⟩, but_sub (hBy.then_kept KB) h3 hC⟩
        rcases h2 j hj with x | x
        · exact hC j x
        · exact Or.inr (by omega))
      obtain ⟨X, hX⟩ : ∃ X, X = fpA S[k] := ⟨_, rfl⟩
      obtain ⟨T, hT⟩ : ∃ T, T = landOne (p : Int) most man Q S[k] := ⟨_, rfl⟩
      rw [← hX] at E1 HXI HX1 HXS KB gN PU HNEXT
      rw [← hT] at PU HNEXT hfold
      have HES := Lib.hid E1
      obtain ⟨k1, hk1⟩ : ∃ k1, k1 = k + 1 := ⟨_, rfl⟩
      have v1 : IntKind.i64.wrap ((k : Int) + 1) = (k1 : Int) := by rw [show (k : Int) + 1 = (k1 : Int) by omega]; exact IntWalk.i64_in _ (by have := HN.out.2; omega)
      have HKK : Hid (k1 = k + 1 ∧ k + gk = n ∧ k < n) := Lib.hid ⟨hk1, hk, hlt⟩
      have HFO : Hid ((S.take k1).foldl (landOne (p : Int) most man) R = T) := Lib.hid (by rw [hk1]; exact hfold)
      clear hbl hbB hP hC hBy hk32 htk hQ hfold okQ KB hP2 hX hT E1 hk1 hk hlt hg hkS HX
      go_wp2_with (first
        | (with_reducible refine wpList_load_sub rfl _ _ rfl b (off + k * 32) 32 rfl t cs fr _ g1 Try.underlying47 rfl infoFp HES.out.1 X HES.out.2 ?_)
        | ((with_reducible refine wpList_store_row rfl _ _ _ rfl wr.heap.size X rfl rfl 47 _ (heap_alloc_last wr _) HXI.out ?_ HX1.out ?_); (· rw [HXS.out]; rfl); rw [World.setRow_alloc_new])
        | (with_reducible refine wpList_load_row rfl _ _ rfl wr.heap.size rfl 47 X (0, 0) _ gN Try.underlying47 rfl HXI.out ?_)
        | (go_at_call 30; refine PU.mono ?_; rintro e w2 ⟨rfl, hx2⟩; have HX2 := Lib.hid (HNEXT.out w2 hx2); clear hx2))
      go_roundg (n - k1)
      · exact ⟨k1, by have := HKK.out; omega, by first | rfl | (have := HKK.out; congr 1; omega), by rw [HFO.out]; exact HX2⟩
      · have := HKK.out; omega
    · have hki : ¬ (k : Int) < n := by omega
      have bk : decide ((k : Int) < (n : Int)) = false := by simpa using hki
      have hkn : k = n := by omega
      have HF : Hid (XPost (IxP B bx (p : Int) most) Bs (putS (p : Int) most man R ls) w wr) := Lib.hid (by
        have h := HX.out
        rw [hkn, HN.out.1, List.take_length, HPUT.out] at h
        obtain ⟨⟨Cs, h1, h2⟩, h3⟩ := h
        have hs := HB1.out.size
        refine ⟨⟨Cs, h1, fun j hj => ?_⟩, (but_of_kept HB1.out).trans h3⟩
        rcases h2 j hj with x | x
        · exact Or.inl x
        · exact Or.inr (by omega))
      clear hk hlt hkn HX
      go_wp2
      first | go_ret | go_end0
      exact ⟨rfl, HF.out⟩

end Go.Proofs.Ytaajadmaamjebaa
