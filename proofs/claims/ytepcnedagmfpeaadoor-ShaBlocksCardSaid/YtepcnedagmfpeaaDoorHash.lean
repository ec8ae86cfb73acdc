/- The walks of a Hash: New, Write, Len, Sum. -/
import Derived.Test.YtepcnedagmfpeaaDoorSumP
import Derived.Test.YtepcnedagmfpeaaDoorEq
import Derived.Laws.EntriesVeiled
import Derived.OrdersHeld
import Derived.Deep.RegionHeld
import Derived.LaidEqlPtr
namespace Go.Proofs.YtepcnedagmfpeaaDoor
open Go.RowKit

/-- The cells of a Hash. -/
def hashA (hh : Nat) (T : Array Value) (hb : Nat) : Array Value :=
  (Value.pointer (some ⟨hh, 0, none⟩) :: (T.toList ++ [Value.func (.func 24) #[] #[.pointer (some ⟨hb, 0, none⟩)]])).toArray

theorem hashA_size (hh : Nat) (T : Array Value) (hb : Nat) (h : T.size = 73) : (hashA hh T hb).size = 75 := by simp [hashA, h]
theorem hashA_self (hh : Nat) (T : Array Value) (hb : Nat) : (hashA hh T hb)[0]? = some (.pointer (some ⟨hh, 0, none⟩)) := rfl
theorem hashA_take (hh : Nat) (T : Array Value) (hb : Nat) (h : T.size = 73) : (hashA hh T hb)[74]? = some (.func (.func 24) #[] #[.pointer (some ⟨hb, 0, none⟩)]) := by
  simp only [hashA, List.getElem?_toArray, List.getElem?_cons_succ]
  rw [List.getElem?_append_right (by simp [h])]
  simp [h]
theorem hashA_len (hh : Nat) (T : Array Value) (hb : Nat) (h : T.size = 73) : (hashA hh T hb)[73]? = T[72]? := by
  simp only [hashA, List.getElem?_toArray, List.getElem?_cons_succ]
  rw [List.getElem?_append_left (by simp [h])]
  simp
theorem hashA_text (hh : Nat) (T : Array Value) (hb : Nat) (h : T.size = 73) : (hashA hh T hb).extract 1 (1 + 73) = T := by
  apply Array.ext'
  simp only [hashA, List.extract_toArray, List.extract_eq_take_drop]
  rw [List.drop_succ_cons, List.drop_zero, List.take_append_of_le_length (by simp [h])]
  exact List.take_of_length_le (by simp [h])
theorem hashA_lay (hh : Nat) (T U : Array Value) (hb : Nat) (h : T.size = 73) (hU : U.size = 73) : laidOver (hashA hh T hb) 1 U.toList = hashA hh U hb := by
  apply Array.ext'
  have hTl : T.toList.length = 73 := by simp [h]
  simp only [laidOver, hashA, Array.length_toList, hU, List.take_succ_cons, List.take_zero, List.drop_succ_cons]
  rw [List.drop_append_of_le_length (by omega), List.drop_of_length_le (by omega)]
  simp

/-- A Hash that holds the text l: its own block, and that of the variable that its closure holds. -/
def IsHash (B hh hb : Nat) (l : List UInt8) (w : World) : Prop :=
  B ≤ hh ∧ B ≤ hb ∧ hh ≠ hb ∧ ∃ T, IsText l T ∧ w.heap[hh]? = some (.cells (hashA hh T hb) 59 (0, 0)) ∧ w.heap[hb]? = some (.cells #[.pointer (some ⟨hh, 0, none⟩)] 29 (0, 0))

theorem IsHash.later {B hh hb : Nat} {l : List UInt8} {w w' : World} (h : IsHash B hh hb l w) (hb' : Below w.heap.size w w') : IsHash B hh hb l w' := by
  obtain ⟨h1, h2, h3, T, hT, a, b⟩ := h
  exact ⟨h1, h2, h3, T, hT, (hb'.block _ (Array.getElem?_eq_some_iff.1 a).1).trans a, (hb'.block _ (Array.getElem?_eq_some_iff.1 b).1).trans b⟩

/-- Behind a call on a Hash: it holds the text l; nothing else has turned. -/
def HashPost (B hh hb : Nat) (w : World) (l : List UInt8) (v : Value) (e : Ending) (w' : World) : Prop := e = .returned v ∧ IsHash B hh hb l w' ∧ Below B w w'

set_option maxRecDepth 100000 in
set_option maxHeartbeats 1000000 in
theorem take_any (B hh hb : Nat) (l : List UInt8) (s : ByteArray) (hl : l.length + s.size ≤ 1000000000000000) (w : World) (hH : IsHash B hh hb l w) (hB : B ≤ w.heap.size) (hTab : TabAt w) :
    Calls Tryd.prog 24 #[.string s, .pointer (some ⟨hb, 0, none⟩)] w (HashPost B hh hb w (l ++ s.data.toList) (.tuple #[])) := by
  obtain ⟨h1, h2, h3, T, hT, ga, gb⟩ := hH
  have MO := more_any l T hT s hl
  have hTs := isText_size hT
  have cb : w.drew.cell? ⟨hb, 0, none⟩ = some (.pointer (some ⟨hh, 0, none⟩)) := cell_of_row w.drew _ _ _ _ _ gb
  go_enter Tryd.func24, Tryd.ntmps24
  go_wp2
  refine wp_region_held_drew (S := fun w' => w'.cell? ⟨hb, 0, none⟩ = some (.pointer (some ⟨hh, 0, none⟩))) (by kernel_rfl) cb (fun hHeld => ?_)
  refine wpAnyH_take (i := 0) (v := ?_) rfl (by kernel_rfl) (by kernel_rfl) (by kernel_rfl) (fun _ _ _ h => h) (Or.inl ⟨by rfl, ?_⟩) (by assumption) ?_
  case refine_2 =>
    intro w hSw
    go_simp
    try with_reducible rfl
  refine wpAnyH_take (i := 1) (v := ?_) rfl (by kernel_rfl) (by kernel_rfl) (by kernel_rfl) (fun _ _ _ h => h) (Or.inl ⟨by rfl, ?_⟩) (by assumption) ?_
  case refine_2 =>
    intro w hSw
    go_simp
    try with_reducible rfl
  refine wpAnyH_take (i := 2) (v := ?_) rfl (by kernel_rfl) (by kernel_rfl) (by kernel_rfl) (fun _ _ _ h => h) (Or.inl ⟨by rfl, ?_⟩) (by assumption) ?_
  case refine_2 =>
    intro w hSw
    go_simp
    try with_reducible rfl
  refine wpAnyH_take (i := 3) (v := ?_) rfl (by kernel_rfl) (by kernel_rfl) (by kernel_rfl) (fun _ _ _ h => h) (Or.inl ⟨by rfl, ?_⟩) (by assumption) ?_
  case refine_2 =>
    intro w hSw
    go_simp
    try with_reducible rfl
  refine wpAnyH_take (i := 5) (v := ?_) rfl (by kernel_rfl) (by kernel_rfl) (by kernel_rfl) (fun _ _ _ h => h) (Or.inl ⟨by rfl, ?_⟩) (by assumption) ?_
  case refine_2 =>
    intro w hSw
    go_simp
    try with_reducible rfl
  refine wpAnyH_ready (rs := [4]) (by kernel_rfl) (by simp) (AllReadyH.cons rfl (fun K hK => ?_) AllReadyH.nil)
  rw [if_pos (by rfl)]
  refine wp_load_sub 53 (.tmp 6) rfl hh 1 73 rfl 59 (hashA hh T hb) (0, 0) _ ga Tryd.underlying53 rfl infoTx (by rw [hashA_size hh T hb hTs]; omega) T (hashA_text hh T hb hTs) ?_
  refine hK.out _ _ cb (fun _ => ?_)
  clear hK K
  refine wpAnyH_ready (rs := [6]) (by kernel_rfl) (by simp) (AllReadyH.cons rfl (fun K hK => ?_) AllReadyH.nil)
  go_simp
  refine (MO _ (hTab.later (Below.refl _ _).drew)).mono ?_
  rintro e w2 ⟨U, hU, rfl, hb2⟩
  have cb2 := (hb2.cell (p := ⟨hb, 0, none⟩) (World.block_lt_of_cell? _ _ cb)).trans cb
  have ga2 := (hb2.block hh (Array.getElem?_eq_some_iff.1 ga).1).trans ga
  have gb2 := (hb2.block hb (Array.getElem?_eq_some_iff.1 gb).1).trans gb
  have K2 : Below B w w2 := ((Below.refl B w).drew).trans (hb2.mono hB)
  refine hK.out _ _ cb2 (fun _ => ?_)
  clear hK K
  refine wpAnyH_ready (rs := [7]) (by kernel_rfl) (by simp) (AllReadyH.cons rfl (fun K hK => ?_) AllReadyH.nil)
  go_simp
  refine hK.out _ _ cb2 (fun _ => ?_)
  clear hK K
  refine wpAnyH_ready (rs := [8]) (by kernel_rfl) (by simp) (AllReadyH.cons rfl (fun K hK => ?_) AllReadyH.nil)
  go_simp
  refine hK.out _ _ cb2 (fun _ => ?_)
  clear hK K
  refine wpAnyH_ready (rs := [9]) (by kernel_rfl) (by simp) (AllReadyH.cons rfl (fun K hK => ?_) AllReadyH.nil)
  rw [if_pos (by rfl)]
  have hUs := isText_size hU
  refine wp_store_sub 53 (.tmp 11) (.tmp 9) rfl hh 1 U rfl rfl 59 (hashA hh T hb) ga2 (isText_info hU) (by rw [hashA_size hh T hb hTs, hUs]; omega) (isText_one hU) ?_
  rw [hashA_lay hh T U hb hTs hUs]
  have gb3 := (setRow_other w2 hh hb (hashA hh U hb) (by omega)).trans gb2
  have ga3 := setRow_heap w2 hh (hashA hh T hb) (hashA hh U hb) 59 (0, 0) ga2
  refine hK.out _ _ ((cell_of_row _ _ _ _ _ _ gb3).trans rfl) (fun _ => ?_)
  clear hK K
  refine wpAnyH_done (by kernel_rfl) ?_ _
  go_wp2
  go_end0
  exact ⟨rfl, ⟨h1, h2, h3, U, hU, ga3, gb3⟩, below_setRow K2 h1 _⟩

theorem infoHs : (Tryd.prog.info? 59).map (·.size) = some 75 := by kernel_rfl

theorem made_yes (B hh hb : Nat) (l : List UInt8) (w : World) (hH : IsHash B hh hb l w) :
    Calls Tryd.prog 25 #[.pointer (some ⟨hh, 0, none⟩)] w fun e w' => e = .returned (.bool true) ∧ w = w' := by
  obtain ⟨h1, h2, h3, T, hT, ga, gb⟩ := hH
  have c0 : w.cell? ⟨hh, 0, none⟩ = some (.pointer (some ⟨hh, 0, none⟩)) := cell_of_row w _ _ _ _ _ ga
  obtain ⟨ti, hti⟩ := info_some infoHs
  have heq := fun w' => run_eql_ptr_same (P := Tryd.prog) w' (⟨hh, 0, none⟩ : Addr) Tryd.underlying29 hti
  clear ga gb hT h3 hti
  go_enter Tryd.func25, Tryd.ntmps25
  go_wp2
  go_ret
  exact ⟨rfl, rfl⟩

theorem made_no (w : World) :
    Calls Tryd.prog 25 #[.pointer none] w fun e w' => e = .returned (.bool false) ∧ w = w' := by
  go_enter Tryd.func25, Tryd.ntmps25
  go_wp2
  go_ret
  exact ⟨rfl, rfl⟩

set_option maxRecDepth 100000 in
theorem write_any (B hh hb : Nat) (l : List UInt8) (s : ByteArray) (hl : l.length + s.size ≤ 1000000000000000) (w : World) (hH : IsHash B hh hb l w) (hB : B ≤ w.heap.size) (hTab : TabAt w) :
    Calls Tryd.prog 12 #[.pointer (some ⟨hh, 0, none⟩), .string s] w (HashPost B hh hb w (l ++ s.data.toList) (.int .i64 0)) := by
  have MD := made_yes B hh hb l w hH
  have TK := take_any B hh hb l s hl w hH hB hTab
  obtain ⟨h1, h2, h3, T, hT, ga, gb⟩ := hH
  have hTs := isText_size hT
  have c74 : w.cell? ⟨hh, 74, none⟩ = some (.func (.func 24) #[] #[.pointer (some ⟨hb, 0, none⟩)]) := (cell_of_row w _ _ _ _ _ ga).trans (hashA_take hh T hb hTs)
  clear ga gb hT hTs h1 h2 h3
  go_enter Tryd.func12, Tryd.ntmps12
  go_wp2_with fail
  refine MD.mono ?_
  rintro e w' ⟨rfl, rfl⟩
  go_wp2_with fail
  refine TK.mono ?_
  rintro e w2 ⟨rfl, hI, hb2⟩
  go_wp2
  go_ret
  exact ⟨rfl, hI, hb2⟩

theorem write_no (s : ByteArray) (w : World) :
    Calls Tryd.prog 12 #[.pointer none, .string s] w fun e w' => e = .returned (.int .i64 4) ∧ w = w' := by
  have MD := made_no
  go_enter Tryd.func12, Tryd.ntmps12
  go_wp2_with ((with_reducible refine (MD _).mono ?_); rintro e w' ⟨rfl, rfl⟩)
  go_ret
  exact ⟨rfl, rfl⟩

theorem len_any (B hh hb : Nat) (l : List UInt8) (w : World) (hH : IsHash B hh hb l w) :
    Calls Tryd.prog 13 #[.pointer (some ⟨hh, 0, none⟩)] w fun e w' => e = .returned (.int .i64 l.length) ∧ w = w' := by
  have MD := made_yes B hh hb l w hH
  obtain ⟨h1, h2, h3, T, hT, ga, gb⟩ := hH
  have hTs := isText_size hT
  have c73 : w.cell? ⟨hh, 73, none⟩ = some (.int .i64 l.length) := (cell_of_row w _ _ _ _ _ ga).trans ((hashA_len hh T hb hTs).trans (isText_len hT))
  clear ga gb hT hTs h1 h2 h3
  go_enter Tryd.func13, Tryd.ntmps13
  go_wp2_with ((with_reducible refine MD.mono ?_); rintro e w' ⟨rfl, rfl⟩)
  go_ret
  exact ⟨rfl, rfl⟩

theorem len_no (w : World) :
    Calls Tryd.prog 13 #[.pointer none] w fun e w' => e = .returned (.int .i64 0) ∧ w = w' := by
  have MD := made_no
  go_enter Tryd.func13, Tryd.ntmps13
  go_wp2_with ((with_reducible refine (MD _).mono ?_); rintro e w' ⟨rfl, rfl⟩)
  go_ret
  exact ⟨rfl, rfl⟩

end Go.Proofs.YtepcnedagmfpeaaDoor
