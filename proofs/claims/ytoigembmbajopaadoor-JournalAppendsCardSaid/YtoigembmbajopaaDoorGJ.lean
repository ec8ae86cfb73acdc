/- The document's Put, Get, Copy. The document's Get, Copy. The document's Load, Append. -/
import Derived.Test.YtoigembmbajopaaDoorGH
import Derived.Test.YtoigembmbajopaaDoorGI
import Derived.Test.YtoigembmbajopaaDoorGA
import Derived.Deep.RegionHeld
namespace Go.Proofs.YtoigembmbajopaaDoor
open Go.RowKit

/-- A call, by its contract. -/
theorem wp_calledB {P : Program} {o : Oper} {a : Act} {w : World} {K : Act → World → Prop} {Q : Exit → Act → World → Prop} (f : FuncId) (args : Array Value)
    (ho : (execOp a.eval o).run P w = .ok (.enter f args) w) (h : Calls P f args w fun e w' => ∃ v, e = .returned v ∧ K (a.put o.dst v) w') : Oper.wp P o a w K Q := by
  unfold Oper.wp
  rw [ho]
  exact h.mono fun e w' ⟨v, he, hk⟩ => by subst he; exact hk

theorem part_is (t : ByteArray) (k e : Nat) (he : e = min t.size (128 * k + 128)) (h : 128 * k ≤ t.size) : rpFill (t.extract (128 * k) e) 128 = str (partB t.data.toList k) := by
  have hl := data_len t
  have hx := Lib.extract_eq t (128 * k) e
  have h2 : (t.data.toList.drop (128 * k)).take (e - 128 * k) = (t.data.toList.drop (128 * k)).take 128 := by
    by_cases hc : 128 * k + 128 ≤ t.size
    · rw [show e - 128 * k = 128 by omega]
    · rw [List.take_of_length_le (by rw [List.length_drop]; omega), List.take_of_length_le (by rw [List.length_drop]; omega)]
  have hx2 : t.extract (128 * k) e = str ((t.data.toList.drop (128 * k)).take 128) := by
    rw [hx]
    unfold str
    congr 2
  rw [hx2]
  unfold rpFill partB fillL
  rw [str_append, str_size]
  congr 3
  omega

end Go.Proofs.YtoigembmbajopaaDoor
namespace Go.Proofs.YtoigembmbajopaaDoor
open Go.RowKit

theorem visK_len (i : Nat) : ∀ (ws : List (Nat × List UInt8)) (t : List UInt8), t.length = 128 → (∀ p ∈ ws, p.2.length = 128) → (visK i t ws).length = 128
  | [], t, h, _ => h
  | p :: ws, t, h, hw => by
    show (visK i (if p.1 = i then p.2 else t) ws).length = 128
    refine visK_len i ws _ ?_ (fun q hq => hw q (List.mem_cons_of_mem _ hq))
    split
    · exact hw p (List.mem_cons_self ..)
    · exact h
theorem Dk.ok.vis_len {s : Dk} (h : s.ok) (i : Nat) (hi : i < s.stands.length) : (s.vis i).length = 128 := by
  unfold Dk.vis
  refine visK_len i _ _ ?_ (fun p hp => (h.wait p hp).2)
  rw [List.getD_eq_getElem?_getD, List.getElem?_eq_getElem hi]
  exact h.sect _ (List.getElem_mem hi)
theorem flat_vis_len {s : Dk} (h : s.ok) : ∀ (L : List Nat), (∀ k ∈ L, k < s.stands.length) → (L.flatMap s.vis).length = 128 * L.length
  | [], _ => rfl
  | k :: L, hk => by
    rw [List.flatMap_cons, List.length_append, h.vis_len k (hk k (List.mem_cons_self ..)), flat_vis_len h L (fun j hj => hk j (List.mem_cons_of_mem _ hj)), List.length_cons]
    omega
theorem bGet_len {s : Dk} (h : s.ok) (l : List (Int × Int)) (size : Int) : (bGet s l size).1.length ≤ 1048576 := by
  unfold bGet
  split
  · exact Nat.zero_le _
  · next hf =>
    split
    · exact Nat.zero_le _
    · have hf' := Decidable.not_not.1 hf
      obtain ⟨f1, f2, f3, f4, f5⟩ := fitB_list hf'
      have h2 := cntA_le (hasR l)
      have h3 := hf'.2.2.2
      have h4 := flat_vis_len h (allR l) (fun k hk => by have := (f4 k hk).1; omega)
      show (((allR l).flatMap s.vis).take size.toNat).length ≤ _
      rw [List.length_take]
      omega

end Go.Proofs.YtoigembmbajopaaDoor
namespace Go.Proofs.YtoigembmbajopaaDoor
open Go.RowKit

/-- So many sectors of a journal, from the a-th on. -/
def secJ (a n : Nat) : List Nat := (List.range n).map fun i => 2 + a + i
def cntJ (z : Nat) : Nat := (z + 127) / 128
/-- What is loaded of a journal; what is written behind it. -/
def jLoad (s : Dk) (used : Nat) : List UInt8 × Int := if s.down = true then ([], 90) else (((secJ 0 (cntJ used)).flatMap s.vis).take used, 0)
def jApT (s : Dk) (used : Nat) (t : List UInt8) : List UInt8 := (s.vis (2 + used / 128)).take (used % 128) ++ t
def jApp (s : Dk) (used : Nat) (t : List UInt8) : Dk × Int :=
  if s.down = true then (s, 90) else if t.length = 0 then (s, 0) else putG s (secJ (used / 128) (cntJ (jApT s used t).length)) (jApT s used t) 0 (cntJ (jApT s used t).length)
theorem cntJ_bytes (z : Nat) : z ≤ 128 * cntJ z ∧ 128 * cntJ z < z + 128 := by unfold cntJ; omega
theorem secJ_len (a n : Nat) : (secJ a n).length = n := by unfold secJ; simp
theorem secJ_at (a n i : Nat) (h : i < n) : (secJ a n).getD i 0 = 2 + a + i := by
  unfold secJ
  rw [List.getD_eq_getElem?_getD, List.getElem?_eq_getElem (by simp; exact h), List.getElem_map, List.getElem_range]
  rfl
theorem secJ_succ (a n : Nat) : secJ a (n + 1) = secJ a n ++ [2 + a + n] := by unfold secJ; rw [List.range_succ, List.map_append]; rfl
theorem secJ_mem {a n k : Nat} (h : k ∈ secJ a n) : 2 + a ≤ k ∧ k < 2 + a + n := by
  unfold secJ at h
  obtain ⟨i, hi, rfl⟩ := List.mem_map.1 h
  rw [List.mem_range] at hi
  omega
theorem Dk.up_read {s : Dk} (hd : s.down = false) (k : Nat) (h : k < s.stands.length) : s.readT (k : Int) = s.vis k ∧ s.readE (k : Int) = 0 := by
  have ho : ¬ s.out (k : Int) := by unfold Dk.out; omega
  refine ⟨?_, ?_⟩
  · unfold Dk.readT; rw [if_neg (by rw [hd]; simp; exact ho), Int.toNat_natCast]
  · unfold Dk.readE; rw [if_neg (by rw [hd]; decide), if_neg ho]

set_option maxRecDepth 100000 in
set_option maxHeartbeats 8000000 in
theorem rload13_any {B g : Nat} {s : Dk} {vs vw : Value} {w : World} (h : RAt B g s vs vw w) (hok : s.ok) (hlo : s.ops ≤ 4294967296) (used : Nat) (hu : 2 + cntJ used ≤ s.stands.length) :
    Calls Tryd.prog 31 #[.pointer (some ⟨g, 0, none⟩), .int .i64 used] w fun e w' => e = .returned (.tuple #[.string (str (jLoad s used).1), .int .i64 (jLoad s used).2]) ∧ w = w' := by
  have c4 : w.cell? ⟨g, 4, none⟩ = some (.bool s.down) := h.cell 4 _ rfl
  have hmost := hok.most
  by_cases hd : s.down = true
  · rw [hd] at c4
    have HF : Hid (jLoad s used = ([], 90)) := Lib.hid (by unfold jLoad; rw [if_pos hd])
    clear h hok hlo hu hmost hd
    go_enter Tryd.func31, Tryd.ntmps31
    go_wp2
    first | go_ret | go_ret2
    exact ⟨by rw [HF.out]; rfl, rfl⟩
  · have hd' : s.down = false := by simpa using hd
    rw [hd'] at c4
    obtain ⟨n, hn⟩ : ∃ n, n = cntJ used := ⟨_, rfl⟩
    have hby := cntJ_bytes used
    rw [← hn] at hby hu
    have HF : Hid (jLoad s used = (((secJ 0 n).flatMap s.vis).take used, 0)) := Lib.hid (by unfold jLoad; rw [if_neg hd, ← hn])
    have HR := Lib.hid h
    have HOK := Lib.hid hok
    have HLO := Lib.hid hlo
    have HBY := Lib.hid hby
    have HUN : Hid (2 + n ≤ s.stands.length ∧ n ≤ 8192) := Lib.hid ⟨hu, by omega⟩
    have HDN := Lib.hid hd'
    have X0 : Hid ((⟨#[]⟩ : ByteArray) = str ((secJ 0 0).flatMap s.vis)) := Lib.hid rfl
    clear h hok hlo hu hmost hd hd' hn hby
    go_enter Tryd.func31, Tryd.ntmps31
    go_wp2
    go_loopg [6, 7] n (fun gh s6 s7 wx => ∃ (k : Nat) (X : ByteArray), k + gh = n ∧ s6 = .string X ∧ s7 = .int .i64 k ∧ Hid (X = str ((secJ 0 k).flatMap s.vis)) ∧ Hid (X.size = 128 * k) ∧ w = wx)
    case atStart => exact ⟨0, _, by omega, rfl, rfl, X0, Lib.hid rfl, rfl⟩
    case round =>
      clear X0
      obtain ⟨k, X, hkn, rfl, rfl, HX, HXZ, rfl⟩ := hrel
      have hby := HBY.out
      have hun := HUN.out
      obtain ⟨m1, hm1⟩ : ∃ m1, m1 = 128 * k := ⟨_, rfl⟩
      have w1 : IntKind.i64.wrap ((k : Int) * 128) = (m1 : Int) := by rw [show (k : Int) * 128 = (m1 : Int) by omega]; exact IntWalk.i64_in _ (by omega)
      by_cases hlt : k < n
      · have bk : decide ((m1 : Int) < (used : Int)) = true := decide_eq_true (by omega)
        have bl : m1 < used := by omega
        obtain ⟨k1, hk1⟩ : ∃ k1, k1 = k + 1 := ⟨_, rfl⟩
        obtain ⟨y, hy⟩ : ∃ y, y = 2 + k := ⟨_, rfl⟩
        have w2 : IntKind.i64.wrap (2 + (k : Int)) = (y : Int) := by rw [show 2 + (k : Int) = (y : Int) by omega]; exact IntWalk.i64_in _ (by omega)
        have w3 : IntKind.i64.wrap ((k : Int) + 1) = (k1 : Int) := by rw [show (k : Int) + 1 = (k1 : Int) by omega]; exact IntWalk.i64_in _ (by omega)
        have hrd := Dk.up_read HDN.out y (by omega)
        have hvl := HOK.out.vis_len y (by omega)
        have CR := rread_any HR.out HOK.out HLO.out (y : Int)
        rw [hrd.1, hrd.2] at CR
        obtain ⟨V, hV⟩ : ∃ V, V = str (s.vis y) := ⟨_, rfl⟩
        rw [← hV] at CR
        have zV : V.size = 128 := by rw [hV, str_size]; exact hvl
        have zX := HXZ.out
        obtain ⟨Y, hY⟩ : ∃ Y, Y = X ++ V := ⟨_, rfl⟩
        have zY : Y.size = 128 * k1 := by rw [hY, ByteArray.size_append]; omega
        have HY : Hid (Y = str ((secJ 0 k1).flatMap s.vis)) := Lib.hid (by
          rw [hY, hk1, secJ_succ, List.flatMap_append, HX.out, hV, hy]
          simp only [str_append, List.flatMap_cons, List.flatMap_nil, List.append_nil, Nat.add_zero])
        have HYZ := Lib.hid zY
        have cY : X ++ V = Y := hY.symm
        have s1 : ¬ 9223372036854775807 < 128 * k + 128 := by omega
        have HK1 := Lib.hid hk1
        clear hrd hvl hV hY HX HXZ zY hby hun hm1 hy
        go_wp2_with fail
        refine CR.mono ?_
        rintro e w9 ⟨rfl, rfl⟩
        clear CR
        go_wp2
        go_roundg (n - k1)
        case measure => have := HK1.out; omega
        case rel => exact ⟨k1, Y, by have := HK1.out; omega, rfl, by first | rfl | (congr 1; have := HK1.out; omega), HY, HYZ, rfl⟩
      · have bk : decide ((m1 : Int) < (used : Int)) = false := decide_eq_false (by omega)
        have bl : ¬ m1 < used := by omega
        have hke : k = n := by omega
        obtain ⟨x0, hx0⟩ : ∃ x0, x0 = 128 * k := ⟨_, rfl⟩
        have zX : X.size = x0 := by rw [hx0]; exact HXZ.out
        have b1 : (0 : Int) ≤ (used : Int) := by omega
        have b2 : (used : Int) ≤ (x0 : Int) := by omega
        have b3 : ¬ ((x0 : Int) < (used : Int)) := by omega
        have b4 : ¬ ((used : Int) < 0) := by omega
        have hXe : X.extract 0 used = str (jLoad s used).1 := by
          rw [Lib.extract_eq X 0 used, HF.out, HX.out, hke]
          unfold str
          simp
        have HE := Lib.hid hXe
        have HF2 : Hid ((jLoad s used).2 = 0) := Lib.hid (by rw [HF.out])
        clear hby hke hXe hun hm1 hx0
        go_wp2
        first | go_ret | go_ret2
        exact ⟨by rw [← HE.out, HF2.out]; rfl, rfl⟩

set_option maxRecDepth 100000 in
set_option maxHeartbeats 16000000 in
theorem rapp13_any {B g : Nat} {s : Dk} {vs vw : Value} {w : World} (h : RAt B g s vs vw w) (hok : s.ok) (hlo : s.ops ≤ 4294900000) (hB : B ≤ w.heap.size) (used : Nat) (t : ByteArray) (hfit : t.size ≠ 0 → 256 + used + t.size ≤ 128 * s.stands.length) :
    Calls Tryd.prog 28 #[.pointer (some ⟨g, 0, none⟩), .int .i64 used, .string t] w (RPost B g (jApp s used t.data.toList).1 vs vw (.int .i64 (jApp s used t.data.toList).2) w) := by
  have c4 : w.cell? ⟨g, 4, none⟩ = some (.bool s.down) := h.cell 4 _ rfl
  have hmost := hok.most
  have hdl : t.data.toList.length = t.size := data_len t
  obtain ⟨R, hR⟩ : ∃ R, R = jApp s used t.data.toList := ⟨_, rfl⟩
  rw [← hR]
  have HR := Lib.hid h
  by_cases hd : s.down = true
  · rw [hd] at c4
    have HF : Hid (R = (s, 90)) := Lib.hid (by rw [hR]; unfold jApp; rw [if_pos hd])
    clear h hok hlo hfit hmost hd hdl hR
    go_enter Tryd.func28, Tryd.ntmps28
    go_wp2
    first | go_ret | go_ret2
    exact ⟨by rw [HF.out]; rfl, vs, vw, by rw [HF.out]; exact HR.out, fun k hk => Or.inl hk, ButBy.below (Below.refl _ _)⟩
  · have hd' : s.down = false := by simpa using hd
    rw [hd'] at c4
    by_cases ht0 : t.size = 0
    · have b0 : decide ((t.size : Int) = 0) = true := decide_eq_true (by omega)
      have b1 : ((t.size : Int) == 0) = true := by rw [beq_iff_eq]; omega
      have HF : Hid (R = (s, 0)) := Lib.hid (by rw [hR]; unfold jApp; rw [if_neg hd, if_pos (by omega)])
      clear h hok hlo hfit hmost hd hd' hdl hR
      go_enter Tryd.func28, Tryd.ntmps28
      go_wp2
      first | go_ret | go_ret2
      exact ⟨by rw [HF.out]; rfl, vs, vw, by rw [HF.out]; exact HR.out, fun k hk => Or.inl hk, ButBy.below (Below.refl _ _)⟩
    · have hfit := hfit ht0
      have b1 : ((t.size : Int) == 0) = false := by rw [beq_eq_false_iff_ne]; omega
      obtain ⟨f, hf⟩ : ∃ f, f = used / 128 := ⟨_, rfl⟩
      obtain ⟨q, hq⟩ : ∃ q, q = used % 128 := ⟨_, rfl⟩
      obtain ⟨f2, hf2⟩ : ∃ f2, f2 = 2 + f := ⟨_, rfl⟩
      have d1 : (used : Int).tdiv 128 = (f : Int) := by rw [Int.tdiv_eq_ediv_of_nonneg (by omega)]; omega
      have d2 : (used : Int) / 128 = (f : Int) := by omega
      have d3 : IntKind.i64.wrap (f : Int) = (f : Int) := IntWalk.i64_in _ (by omega)
      have d4 : (used : Int).tmod 128 = (q : Int) := by rw [Int.tmod_eq_emod_of_nonneg (by omega)]; omega
      have d5 : (used : Int) % 128 = (q : Int) := by omega
      have d6 : IntKind.i64.wrap (q : Int) = (q : Int) := IntWalk.i64_in _ (by omega)
      have d7 : IntKind.i64.wrap (2 + (f : Int)) = (f2 : Int) := by rw [show 2 + (f : Int) = (f2 : Int) by omega]; exact IntWalk.i64_in _ (by omega)
      have hf2s : f2 < s.stands.length := by omega
      have hrd := Dk.up_read hd' f2 hf2s
      have hvl := hok.vis_len f2 hf2s
      have CR := rread_any h hok (by omega) (f2 : Int)
      rw [hrd.1, hrd.2] at CR
      obtain ⟨V, hV⟩ : ∃ V, V = str (s.vis f2) := ⟨_, rfl⟩
      rw [← hV] at CR
      have zV : V.size = 128 := by rw [hV, str_size]; exact hvl
      obtain ⟨H, hH⟩ : ∃ H, H = V.extract 0 q := ⟨_, rfl⟩
      have hHs : H = str ((s.vis f2).take q) := by
        rw [hH, hV, Lib.extract_eq]
        unfold str
        simp
      have zH : H.size = q := by rw [hHs, str_size, List.length_take]; omega
      obtain ⟨T, hT⟩ : ∃ T, T = H ++ t := ⟨_, rfl⟩
      have hTl : T.data.toList = jApT s used t.data.toList := by
        have e : T = str (jApT s used t.data.toList) := by
          rw [hT, hHs]
          unfold jApT
          rw [← str_append, str_data, ← hf, ← hq, hf2]
        rw [e, str_list]
      have zT : T.size = q + t.size := by rw [hT, ByteArray.size_append, zH]
      obtain ⟨n, hn⟩ : ∃ n, n = cntJ T.size := ⟨_, rfl⟩
      have hby := cntJ_bytes T.size
      rw [← hn] at hby
      have hTZ : (jApT s used t.data.toList).length = T.size := by rw [← hTl]; exact data_len T
      have HF : Hid (R = putG s (secJ f n) T.data.toList 0 n) := Lib.hid (by rw [hR]; unfold jApp; rw [if_neg hd, if_neg (by omega), hTZ, ← hn, ← hTl, ← hf])
      have hfn : f2 + n ≤ s.stands.length := by omega
      have hn8 : n ≤ 8192 := by omega
      have HOK := Lib.hid hok
      have HLO := Lib.hid hlo
      have HBW := Lib.hid hB
      have HBY := Lib.hid hby
      have HN8 : Hid (f2 + n ≤ 8192 ∧ f2 = 2 + f) := Lib.hid ⟨by omega, hf2⟩
      have cH : V.extract 0 q = H := hH.symm
      have cT : H ++ t = T := hT.symm
      have s0 : (0 : Int) ≤ (q : Int) := by omega
      have s1 : (q : Int) ≤ 128 := by omega
      have s2 : ¬ 9223372036854775807 < q + t.size := by omega
      obtain ⟨z, hz⟩ : ∃ z, z = T.size := ⟨_, rfl⟩
      have zTz : T.size = z := hz.symm
      have HZ : Hid (z ≤ 128 * n ∧ 128 * n < z + 128) := Lib.hid (by rw [hz]; exact hby)
      clear h hok hlo hfit hmost hd hd' hdl hR hf hq hf2 hf2s hrd hvl hV hH hHs hT hTl zT hn hby hTZ hfn hn8 hz hB HBY ht0
      go_enter Tryd.func28, Tryd.ntmps28
      go_wp2_with fail
      refine CR.mono ?_
      rintro e w9 ⟨rfl, rfl⟩
      clear CR
      go_wp2
      go_loopg [10] n (fun gh s10 wx => ∃ (k : Nat) (sk : Dk) (vk wk : Value), k + gh = n ∧ s10 = .int .i64 k ∧ Hid (R = putG sk (secJ f n) T.data.toList k gh) ∧ Hid (sk.ok ∧ sk.ops ≤ s.ops + k) ∧ Hid (RAt B g sk vk wk wx) ∧ Hid (∀ j, RBs g vk wk j → RBs g vs vw j ∨ w.heap.size ≤ j) ∧ Hid (ButBy (fun j => j = g) w wx))
      case atStart => exact ⟨0, s, vs, vw, by omega, rfl, HF, Lib.hid ⟨HOK.out, Nat.le_refl _⟩, HR, Lib.hid (fun j hj => Or.inl hj), Lib.hid (ButBy.below (Below.refl _ _))⟩
      case round =>
        obtain ⟨k, sk, vk, wk, hkn, rfl, HG, HSK, HRK, HSB, HBB⟩ := hrel
        have hby := HZ.out
        have hn8 := HN8.out
        obtain ⟨m1, hm1⟩ : ∃ m1, m1 = 128 * k := ⟨_, rfl⟩
        have w1 : IntKind.i64.wrap ((k : Int) * 128) = (m1 : Int) := by rw [show (k : Int) * 128 = (m1 : Int) by omega]; exact IntWalk.i64_in _ (by omega)
        by_cases hlt : k < n
        · have bk : decide ((m1 : Int) < (z : Int)) = true := decide_eq_true (by omega)
          have bl : m1 < z := by omega
          obtain ⟨m2, hm2⟩ : ∃ m2, m2 = m1 + 128 := ⟨_, rfl⟩
          obtain ⟨k1, hk1⟩ : ∃ k1, k1 = k + 1 := ⟨_, rfl⟩
          obtain ⟨y, hy⟩ : ∃ y, y = f2 + k := ⟨_, rfl⟩
          have w2 : IntKind.i64.wrap ((m1 : Int) + 128) = (m2 : Int) := by rw [show (m1 : Int) + 128 = (m2 : Int) by omega]; exact IntWalk.i64_in _ (by omega)
          have w3 : IntKind.i64.wrap ((k : Int) + 1) = (k1 : Int) := by rw [show (k : Int) + 1 = (k1 : Int) by omega]; exact IntWalk.i64_in _ (by omega)
          have w4 : IntKind.i64.wrap ((f2 : Int) + (k : Int)) = (y : Int) := by rw [show (f2 : Int) + (k : Int) = (y : Int) by omega]; exact IntWalk.i64_in _ (by omega)
          have hgd : (secJ f n).getD k 0 = y := by rw [secJ_at f n k hlt, hy, hn8.2]
          obtain ⟨hi, hhi⟩ : ∃ hi, hi = min z m2 := ⟨_, rfl⟩
          have hmin : ((m2 : Int) < z ∧ hi = m2) ∨ (¬ (m2 : Int) < z ∧ hi = z) := by omega
          have hpart : T.extract m1 hi = str ((T.data.toList.drop (128 * k)).take 128) := by
            rw [Lib.extract_eq T m1 hi, hm1]
            have h2 : (T.data.toList.drop (128 * k)).take (hi - 128 * k) = (T.data.toList.drop (128 * k)).take 128 := by
              have hl := data_len T
              rw [zTz] at hl
              by_cases hc : m2 ≤ z
              · rw [show hi - 128 * k = 128 by omega]
              · rw [List.take_of_length_le (by rw [List.length_drop]; omega), List.take_of_length_le (by rw [List.length_drop]; omega)]
            unfold str
            congr 2
          obtain ⟨P, hP⟩ : ∃ P, P = T.extract m1 hi := ⟨_, rfl⟩
          rw [← hP] at hpart
          have hPe : T.extract m1 hi = P := hP.symm
          have FC := rpfill_any ((T.data.toList.drop (128 * k)).take 128) 128 (by omega)
          rw [← hpart] at FC
          obtain ⟨F, hF⟩ : ∃ F, F = str (partB T.data.toList k) := ⟨_, rfl⟩
          have hFF : str (fillL ((T.data.toList.drop (128 * k)).take 128) 128) = F := by rw [hF]; rfl
          rw [hFF] at FC
          have HFL : Hid (F.data.toList = partB T.data.toList k) := Lib.hid (by rw [hF, str_list])
          have HGD := Lib.hid hgd
          have b1 : (m1 : Int) ≤ z := by omega
          have b2 : (m1 : Int) ≤ hi := by omega
          have b3 : (hi : Int) ≤ z := by omega
          have b0 : (0 : Int) ≤ m1 := by omega
          have b4 : (0 : Int) ≤ hi := by omega
          have HK1 : Hid (k1 = k + 1 ∧ k + gk = n) := Lib.hid ⟨hk1, hkn⟩
          obtain ⟨gg, rfl⟩ : ∃ gg, gk = gg + 1 := ⟨gk - 1, by omega⟩
          clear hm1 hm2 hgd hhi hpart hP hF hy hFF hby hn8 hk1 hkn
          rcases hmin with ⟨hq, rfl⟩ | ⟨hq, rfl⟩
          all_goals (
            go_wp2_with fail
            refine (FC _).mono ?_
            rintro e u1 ⟨rfl, hb⟩
            have hku : Kept wr u1 := hb
            have R1 := Lib.hid (HRK.out.kept hku)
            have BB1 := Lib.hid (HBB.out.then_kept hku)
            have CW := rwrite_any R1.out HSK.out.1 (by have := HSK.out.2; have := HLO.out; have := HK1.out; have := HN8.out; omega) (Nat.le_trans HBW.out BB1.out.size) (y : Int) F
            clear hb hku HRK HBB FC
            go_wp2_with fail
            refine CW.mono ?_
            rintro e u2 ⟨rfl, vk2, wk2, hr2, hs2, hb2⟩
            rw [HFL.out] at hr2 ⊢
            have R2 := Lib.hid hr2
            have BB2 := Lib.hid (BB1.out.trans hb2)
            have S2 : Hid (∀ j, RBs g vk2 wk2 j → RBs g vs vw j ∨ w.heap.size ≤ j) := Lib.hid (fun j hj => by
              rcases hs2 j hj with z | z
              · exact HSB.out j z
              · exact Or.inr (Nat.le_trans BB1.out.size z))
            have SK2 : Hid ((sk.writeS (y : Int) (partB T.data.toList k)).ok ∧ (sk.writeS (y : Int) (partB T.data.toList k)).ops ≤ s.ops + k1) := Lib.hid ⟨HSK.out.1.write _ _, by have := HSK.out.2; have h3 := writeS_ops sk (y : Int) (partB T.data.toList k); have := HK1.out; omega⟩
            clear hr2 hs2 hb2 R1 BB1 CW
            obtain ⟨er, her⟩ : ∃ er, er = sk.writeE (y : Int) (partB T.data.toList k) := ⟨_, rfl⟩
            rw [← her]
            have HPG : Hid (R = if er = 0 then putG (sk.writeS (y : Int) (partB T.data.toList k)) (secJ f n) T.data.toList k1 gg else (sk.writeS (y : Int) (partB T.data.toList k), er)) := Lib.hid (by
              rw [HG.out]
              show (if sk.writeE ((secJ f n).getD k 0 : Nat) (partB T.data.toList k) = 0 then putG (sk.writeS ((secJ f n).getD k 0 : Nat) (partB T.data.toList k)) (secJ f n) T.data.toList (k + 1) gg else (sk.writeS ((secJ f n).getD k 0 : Nat) (partB T.data.toList k), sk.writeE ((secJ f n).getD k 0 : Nat) (partB T.data.toList k))) = _
              rw [HGD.out, her, HK1.out.1])
            clear her
            by_cases he : er = 0
            · subst he
              have HG2 : Hid (R = putG (sk.writeS (y : Int) (partB T.data.toList k)) (secJ f n) T.data.toList k1 gg) := Lib.hid (by rw [HPG.out, if_pos rfl])
              go_wp2
              go_roundg gg
              · exact ⟨k1, _, vk2, wk2, by have := HK1.out; omega, by first | rfl | (congr 1; have := HK1.out; omega), HG2, SK2, R2, S2, BB2⟩
              · omega
            · have be : (er != 0) = true := by simpa using he
              have HF : Hid (R = (sk.writeS (y : Int) (partB T.data.toList k), er)) := Lib.hid (by rw [HPG.out, if_neg he])
              clear he
              go_wp2
              first | go_ret | go_ret2
              exact ⟨by rw [HF.out]; rfl, vk2, wk2, by rw [HF.out]; exact R2.out, S2.out, BB2.out⟩)
        · have bk : decide ((m1 : Int) < (z : Int)) = false := decide_eq_false (by omega)
          have bl : ¬ m1 < z := by omega
          have HF : Hid (R = (sk, 0)) := Lib.hid (by rw [HG.out, show gk = 0 by omega]; rfl)
          clear hby hn8 hm1 hkn
          go_wp2
          first | go_ret | go_ret2
          exact ⟨by rw [HF.out]; rfl, vk, wk, by rw [HF.out]; exact HRK.out, HSB.out, HBB.out⟩

end Go.Proofs.YtoigembmbajopaaDoor
