/- An append of texts; the walk of End. -/
import Derived.Test.YtimllddlcjnikaaDoorCutWr
namespace Go.Proofs.YtimllddlcjnikaaDoor
open Go.RowKit

/-- 'append(l, p...)' of texts onto a row of the call's own, whatever p is. -/
theorem wpList_append_texts {P : Program} {ops : Array Oper} {rest : List Oper} {o : Oper} {a : Act} {w : World} {Q : Exit → Act → World → Prop} (hgd : o.guard = none) (s x : Operand) (t : TypeId)
    (ho : o.op = .call { callee := .builtin .append, args := #[s, x], argTypes := #[t, t] })
    (base : Nat) (e : TypeId) (i : TypeInfo) (z : Value) (bytes : Nat) (ht : P.underlying t = some (.slice e)) (hi : P.info? e = some i) (hz : i.zero = some z)
    (hsize : i.size = 1) (hby : i.bytes = bytes) (hzs : z.cells.size = 1)
    (v : Value) (n : Nat) (xs : List Value) (hs : a.eval s = v) (hown : w.ownsRow base e 1 v n xs)
    (u : Value) (ss : List ByteArray) (hx : a.eval x = u) (hu : StrAt ss u w)
    (h63 : n + ss.length ≤ maxLen) (hbytes : (n + ss.length) * bytes ≤ 140737488355328) (hbase : base ≤ w.heap.size)
    (h : ∀ v' w', w'.ownsRow base e 1 v' (n + ss.length) (xs ++ stL ss) → w.grownBy w' v.ownBlock → wpList P ops Q rest (a.put o.dst v') w') : wpList P ops Q (o :: rest) a w := by
  obtain ⟨p, c, rfl, hc⟩ := hu
  rcases hc with hss | ⟨b, off, rfl, hcell⟩
  · subst hss
    cases p with
    | some ad =>
      exact wpList_append_own w hgd s x t ho base e i z 1 bytes ht hi hz hsize hby hzs (by decide) v n xs hs hown ad 0 c [] hx rfl (fun j u hj => by simp at hj) (fun u hu => by simp at hu) h63 hbytes hbase (fun v' w' h1 h2 _ => h v' w' (by simpa [stL] using h1) h2)
    | none =>
      refine wpList_plain hgd fun K hK => ?_
      have hfin := h v w (by simpa [stL] using hown) (grown_refl w _)
      rcases hown.2 with ⟨rfl, rfl⟩ | ⟨g, cap, cur, rfl, hb, hg, hnc, hcm, hcs, htake⟩
      · unfold Oper.wp execOp
        simp only [ho, resolve, invoke, builtin, Sem.run_bind, Sem.run_pure, Result.andThen_ok, List.map_toArray, List.map_cons, List.map_nil, hs, hx]
        have hr : (Builtin.append_ #[t, t] o.type #[.slice none 0 0, .slice none 0 c]).run P w = .ok (.slice none 0 0) w := by
          simp [Builtin.append_, run_underlying ht, sizeOf, typeInfo, hi, hsize, Builtin.lenOf, Builtin.firstCells]
        simp only [List.length_nil, hr]
        exact hK _ _ hfin
      · unfold Oper.wp execOp
        simp only [ho, resolve, invoke, builtin, Sem.run_bind, Sem.run_pure, Result.andThen_ok, List.map_toArray, List.map_cons, List.map_nil, hs, hx]
        have hr : (Builtin.append_ #[t, t] o.type #[.slice (some ⟨g, 0, none⟩) n cap, .slice none 0 c]).run P w = .ok (.slice (some ⟨g, 0, none⟩) n cap) w := by
          simp [Builtin.append_, run_underlying ht, sizeOf, typeInfo, hi, hsize, Builtin.lenOf, Builtin.firstCells, hnc, storeCells]
        simp only [List.length_nil, hr]
        exact hK _ _ hfin
  · exact wpList_append_own w hgd s x t ho base e i z 1 bytes ht hi hz hsize hby hzs (by decide) v n xs hs hown ⟨b, off, none⟩ ss.length c (stL ss) hx (by rw [stL_len, Nat.mul_one])
      (fun j u hj => by
        rw [addr_add]
        have hjl : j < ss.length := by have := (List.getElem?_eq_some_iff.1 hj).1; rwa [stL_len] at this
        rw [stL_get _ _ hjl] at hj
        rw [← hj]
        exact hcell j hjl)
      (fun u hu => by
        obtain ⟨y, _, rfl⟩ := List.mem_map.1 hu
        rfl) h63 hbytes hbase (fun v' w' h1 h2 _ => h v' w' h1 h2)

set_option maxRecDepth 100000 in
set_option maxHeartbeats 4000000 in
theorem cend_no (B xb : Nat) (C : Array Value) (n fr h k : Nat) (w : World) (hc : CutAt B xb C n fr h k [] w) :
    Calls Tryd.prog 22 #[.pointer (some ⟨xb, 0, none⟩)] w fun e w' => e = .returned (.slice none 0 0) ∧ w = w' := by
  have LE : Calls Tryd.prog 21 #[.pointer (some ⟨xb, 0, none⟩)] w fun e w' => e = .returned (.int .i64 0) ∧ w = w' := left_any B xb C n fr h k [] w hc
  clear hc
  go_enter Tryd.func22, Tryd.ntmps22
  go_wp2_with fail
  refine LE.mono ?_
  rintro e w' ⟨rfl, rfl⟩
  go_wp2
  go_ret
  exact ⟨rfl, rfl⟩

set_option maxRecDepth 100000 in
set_option maxHeartbeats 4000000 in
theorem cend_yes (B xb : Nat) (C : Array Value) (mn mx dm db n fr h k : Nat) (hC : IsConf C mn mx dm db) (h1 : 1 ≤ mn) (h2 : mn ≤ 4096) (l : List UInt8) (hl : l.length ≤ 1000000) (h0 : l ≠ []) (w : World) (hBw : B ≤ w.heap.size) (hc : CutAt B xb C n fr h k l w) :
    Calls Tryd.prog 22 #[.pointer (some ⟨xb, 0, none⟩)] w fun e w' => ∃ v, e = .returned v ∧ StrAt [str l] v w' ∧ CutAt B xb C (mn - 1) (max mn 16) 0 0 [] w' ∧ Below B w w' ∧ KeptBut xb w w' := by
  have LE := left_any B xb C n fr h k l w hc
  have ST := bstr_any B xb C n fr h k l hl w hBw hc
  have CL := fun w => clone_any (str l) (by rw [str_size]; omega) w
  have RE := fun w' hB' h' => breset_any B xb C n fr h k l w' hB' h'
  have NS := newSearch_any C mn mx dm db hC h1 h2
  have HLI : Hid ((Tryd.prog.info? 23).map (·.size) = some 13) := info_conf
  have HFI : Hid ((Tryd.prog.info? 47).map (·.size) = some (srchA C (mn - 1) (max mn 16) 0 0).size) := by rw [srchA_size _ _ _ _ _ hC.size]; exact info_srch
  have HSZ : Hid ((srchA C (mn - 1) (max mn 16) 0 0).size = 17) := srchA_size _ _ _ _ _ hC.size
  have HON := Lib.hid (srchA_one C (mn - 1) (max mn 16) 0 0 hC.one)
  have HCS := Lib.hid hC.size
  have hlp : l.length ≠ 0 := fun e => h0 (List.eq_nil_of_length_eq_zero e)
  have hlb : ((l.length : Int) == 0) = false := by simpa using hlp
  obtain ⟨m, hm⟩ : ∃ m, m = l.length := ⟨_, rfl⟩
  rw [← hm] at LE hlb
  obtain ⟨tx, htx⟩ : ∃ tx, tx = str l := ⟨_, rfl⟩
  rw [← htx] at ST CL ⊢
  clear hc hC hm h0 hlp htx
  go_enter Tryd.func22, Tryd.ntmps22
  go_wp2_with fail
  refine LE.mono ?_
  rintro e w' ⟨rfl, rfl⟩
  go_wp2_with fail
  refine ST.mono ?_
  rintro e w1 ⟨rfl, hC1, K1, KB1⟩
  go_wp2_with fail
  refine (CL _).mono ?_
  rintro e w2 ⟨rfl, hb2⟩
  have hs1 := KB1.size
  have hC2 := hC1.later hb2
  have K2 := Below.then' K1 hb2 (Nat.le_trans hBw hs1)
  have KB2 := KB1.trans (KeptBut.below hb2)
  have hs2 := KB2.size
  clear hC1 K1 KB1 hb2
  go_wp2_with fail
  refine (RE _ (Nat.le_trans hBw hs2) hC2).mono ?_
  rintro e w3 ⟨rfl, hC3, hb3, hG3⟩
  have K3 := K2.trans hb3
  have KB3 := KB2.trans (KeptBut.grown hG3)
  have hs3 := KB3.size
  have HC3 := Lib.hid hC3
  obtain ⟨hB3, R3, p3, v3, hg3, hr3, _⟩ := hC3
  have hRS := hr3.srch.size
  have hRC := hr3.srch.conf
  clear hC2 K2 KB2 hb3 hG3 hr3
  go_wp2_with (with_reducible refine wpList_load_sub rfl _ _ rfl xb 3 13 rfl 60 R3 (0, 0) _ hg3 Tryd.underlying23 rfl HLI.out (by omega) C hRC ?_)
  refine (NS _).mono ?_
  rintro e w4 ⟨rfl, hb4⟩
  obtain ⟨hB4, R4, p4, v4, hg4, hr4, hp4, hown4, hne4⟩ := HC3.out.later hb4
  have K4 := Below.then' K3 hb4 (Nat.le_trans hBw hs3)
  have KB4 := KB3.trans (KeptBut.below hb4)
  have hr5 := laid_row hr4 HCS.out (mn - 1) (max mn 16) 0 0
  have HSTO : Hid (3 + (srchA C (mn - 1) (max mn 16) 0 0).size ≤ R4.size) := by rw [HSZ.out, hr4.size]; exact (show 3 + 17 ≤ 20 by decide)
  have hG5 : w4.grownBy (w4.setRow xb (laidOver R4 3 (srchA C (mn - 1) (max mn 16) 0 0).toList)) (some xb) := ⟨rfl, rfl, rfl, by simp, fun q _ hq => setRow_other _ _ _ _ (fun e => hq (by rw [e]))⟩
  have hC5 : CutAt B xb C (mn - 1) (max mn 16) 0 0 [] (w4.setRow xb (laidOver R4 3 (srchA C (mn - 1) (max mn 16) 0 0).toList)) := ⟨hB4, _, p4, v4, setRow_heap _ _ _ _ _ _ hg4, hr5, hp4, hown4.kept hG5 (Or.inr hne4), hne4⟩
  have HC5 := Lib.hid hC5
  have K5 := below_touch K4 hG5 (Nat.le_trans hBw KB4.size) hB4
  have KB5 := KB4.trans (KeptBut.grown hG5)
  clear hg3 hRS hRC HC3 K3 KB3 hb4 hr4 hr5 hown4 hne4 hp4 K4 KB4 hC5 hG5
  go_wp2_with (with_reducible refine wpList_store_sub rfl _ _ _ rfl xb 3 (srchA C (mn - 1) (max mn 16) 0 0) rfl rfl 60 R4 hg4 HFI.out HSTO.out HON.out ?_)
  obtain ⟨W, hW⟩ : ∃ W, W = w4.setRow xb (laidOver R4 3 (srchA C (mn - 1) (max mn 16) 0 0).toList) := ⟨_, rfl⟩
  rw [← hW] at HC5 K5 KB5
  have hsW := KB5.size
  have gW := heap_alloc_last W (.cells #[.string tx] 9)
  try rw [← hW]
  clear hg4 HSTO
  go_ret
  refine ⟨_, rfl, ⟨_, _, rfl, Or.inr ⟨_, 0, rfl, fun i hi => ?_⟩⟩, HC5.out.later (box_below _ _), K5.alloc (Nat.le_trans hBw hsW) _, KB5.trans (KeptBut.below (box_below _ _))⟩
  have hi0 : i = 0 := by simp at hi; omega
  subst hi0
  have hWz : W.heap.size = w4.heap.size := by rw [hW]; simp
  rw [← hWz, cell_of_row _ _ _ _ _ _ gW]
  rfl

end Go.Proofs.YtimllddlcjnikaaDoor
