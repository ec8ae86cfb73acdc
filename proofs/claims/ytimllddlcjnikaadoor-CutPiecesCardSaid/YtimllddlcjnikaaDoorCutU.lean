/- The walks of Cut, of the document's Cut. -/
import Derived.Test.YtimllddlcjnikaaDoorCutM2
namespace Go.Proofs.YtimllddlcjnikaaDoor
open Go.RowKit

theorem tab_lt {w : World} (h : TabAt w) : 0 < w.heap.size := World.block_lt_of_cell? _ _ (h 0 (by decide))
theorem tab_keep {B : Nat} {w w' : World} (h : TabAt w) (hB : 0 < B) (hb : Below B w w') : TabAt w' := fun i hi => (hb.cell hB).trans (h i hi)

/-- The first chunk's end, 0 where the settings can't cut. -/
def cutI (a b c d : Int) (l : List UInt8) : Nat := if MayC a b c d then cutN a.toNat b.toNat c.toNat d.toNat l else 0

theorem cutI_le (a b c d : Int) (l : List UInt8) : cutI a b c d l ≤ l.length := by
  unfold cutI
  split
  · rename_i h
    obtain ⟨h1, h2, _⟩ := h
    exact cutN_le _ _ _ _ (by omega) (by omega) l
  · exact Nat.zero_le _

theorem mayC_nats {a b c d : Int} (h : MayC a b c d) : ∃ mn mx dm db : Nat, a = mn ∧ b = mx ∧ c = dm ∧ d = db ∧ 1 ≤ mn ∧ mn ≤ mx ∧ mx ≤ 4096 ∧ 1 ≤ dm ∧ dm ≤ 1048576 ∧ 1 ≤ db ∧ db ≤ 1048576 := by
  obtain ⟨h1, h2, h3, h4, h5, h6, h7⟩ := h
  exact ⟨a.toNat, b.toNat, c.toNat, d.toNat, by omega, by omega, by omega, by omega, by omega, by omega, by omega, by omega, by omega, by omega, by omega⟩

set_option maxRecDepth 100000 in
set_option maxHeartbeats 2000000 in
theorem cut_any (s : ByteArray) (hs : s.size ≤ 1000000) (C : Array Value) (a b c d : Int) (hC : IsConf C a b c d) (w : World) (hT : TabAt w) :
    Calls Tryd.prog 11 #[.string s, .agg C] w fun e w' => e = .returned (.int .i64 (cutI a b c d s.data.toList : Nat)) ∧ Below w.heap.size w w' := by
  have MA := may_any C a b c d hC
  have HLI : Hid ((Tryd.prog.info? 23).map (·.size) = some C.size) := by rw [hC.size]; exact info_conf
  have gC := heap_alloc_last w (.cells C 23)
  have K0 := box_below w (.cells C 23)
  by_cases hM : MayC a b c d
  · obtain ⟨mn, mx, dm, db, rfl, rfl, rfl, rfl, h1, h2, h3, h4, h5, h6, h7⟩ := mayC_nats hM
    have hcu : cutI mn mx dm db s.data.toList = cutN mn mx dm db s.data.toList := by unfold cutI; rw [if_pos hM]; rfl
    rw [hcu]
    rw [decide_eq_true hM] at MA
    have NS := newSearch_any C mn mx dm db hC h1 (by omega)
    have hrow := srchA_row C (mn - 1) (max mn 16) 0 0 hC.size
    have HFI : Hid ((Tryd.prog.info? 47).map (·.size) = some (srchA C (mn - 1) (max mn 16) 0 0).size) := by rw [srchA_size _ _ _ _ _ hC.size]; exact info_srch
    have HUS : Hid ((#[Value.int .i64 0, .int .i64 0, .int .i64 0, .int .i64 0, .int .i64 0, .int .i64 0, .int .i64 0, .int .i64 0, .int .i64 0, .int .i64 0, .int .i64 0, .int .i64 0, .int .i64 0, .int .i64 0, .int .i64 0, .int .u32 0, .int .i64 0] : Array Value).size = (srchA C (mn - 1) (max mn 16) 0 0).size) := (srchA_size _ _ _ _ _ hC.size).symm
    have HON := Lib.hid (srchA_one C (mn - 1) (max mn 16) 0 0 hC.one)
    obtain ⟨D, hD⟩ : ∃ D, D = srchA C (mn - 1) (max mn 16) 0 0 := ⟨_, rfl⟩
    rw [← hD] at NS HFI HUS HON hrow
    have HS := Lib.hid (Srch.start (dm := dm) (db := db) h1 h2 h3 s.data.toList)
    have HR := Lib.hid hrow
    have HC := Lib.hid hC
    have EN := fun t5 W hTW hb hI => end_any t5 0 47 D C mn mx dm db (mn - 1) (max mn 16) 0 0 hC h1 h2 h3 h4 h5 h6 h7 s hs W hTW hb hI HS.out
    have ht := tab_lt hT
    obtain ⟨r0, hr0⟩ : ∃ r, r = cutN mn mx dm db s.data.toList := ⟨_, rfl⟩
    have HR0 := Lib.hid hr0
    rw [← hr0]
    clear hcu hM hD hrow hr0 hC
    go_enter Tryd.func11, Tryd.ntmps11
    go_wp2_with (with_reducible refine wpList_load_row rfl _ _ rfl w.heap.size rfl 23 C (0, 0) _ gC Tryd.underlying23 rfl HLI.out ?_)
    refine (MA _).mono ?_
    rintro e w1 ⟨rfl, hb1⟩
    have g1 := (hb1.block _ (Array.getElem?_eq_some_iff.1 gC).1).trans gC
    have K1 := Below.then' K0 hb1 K0.size
    clear hb1 K0 gC
    go_wp2_with (with_reducible refine wpList_load_row rfl _ _ rfl w.heap.size rfl 23 C (0, 0) _ g1 Tryd.underlying23 rfl HLI.out ?_)
    refine (NS _).mono ?_
    rintro e w2 ⟨rfl, hb2⟩
    have K2 := Below.then' K1 hb2 K1.size
    clear hb2 K1 g1
    go_wp2_with (with_reducible refine wpList_store_row rfl _ _ _ rfl w2.heap.size D rfl rfl 47 _ (heap_alloc_last w2 _) HFI.out HUS.out HON.out ?_)
    rw [World.setRow_alloc_new]
    obtain ⟨t5, ht5⟩ : ∃ t, t = w2.heap.size := ⟨_, rfl⟩
    obtain ⟨W, hW⟩ : ∃ W, W = w2.alloc (.cells D 47) := ⟨_, rfl⟩
    have G5 : SrchIn t5 0 47 D C (mn - 1) (max mn 16) 0 0 W := ⟨D, by rw [hW, ht5]; exact heap_alloc_last w2 _, HR.out, Other.refl _ _⟩
    have hsz2 := K2.size
    have KW : Below w.heap.size w W := by rw [hW]; exact K2.alloc hsz2 _
    have E := EN t5 W (hT.later KW) (by omega) G5
    rw [← hW, ← ht5]
    go_wp2_with fail
    refine E.mono ?_
    rintro e w3 ⟨r, n', fr', h', k', rfl, hE, hI, hG⟩
    have hrr : r = r0 := hE.1.trans HR0.out.symm
    rw [hrr]
    have K3 := below_touch KW hG KW.size (by omega : w.heap.size ≤ t5)
    clear hE hI hG G5 E EN
    go_wp2
    go_ret
    exact ⟨rfl, K3⟩
  · have hcu : cutI a b c d s.data.toList = 0 := by unfold cutI; rw [if_neg hM]
    rw [hcu]
    rw [decide_eq_false hM] at MA
    clear hcu hC
    go_enter Tryd.func11, Tryd.ntmps11
    go_wp2_with (with_reducible refine wpList_load_row rfl _ _ rfl w.heap.size rfl 23 C (0, 0) _ gC Tryd.underlying23 rfl HLI.out ?_)
    refine (MA _).mono ?_
    rintro e w1 ⟨rfl, hb1⟩
    go_wp2
    go_ret
    exact ⟨rfl, Below.then' K0 hb1 K0.size⟩

end Go.Proofs.YtimllddlcjnikaaDoor
