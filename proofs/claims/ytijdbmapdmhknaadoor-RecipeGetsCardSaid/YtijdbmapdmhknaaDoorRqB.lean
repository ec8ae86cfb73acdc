/- The page's example of recipes, out of the contracts. -/
import Derived.Test.YtijdbmapdmhknaaDoorRqA
namespace Go.Proofs.YtijdbmapdmhknaaDoor
open Go.RowKit

/-! ### The page's example -/
def exR : Rp := ⟨[97], 3, -2, 2, [9]⟩
theorem ex_of : ofQ [97] [1, 2, 3] [9] = some exR := by decide
theorem ex_mayQ : mayQ exR := by decide
theorem ex_sizeQ : (recpB exR).length = 31 := recpB_len exR
def AwakeQ : Prop := ∀ w, TabAt w → Calls Tryd.prog 13 #[] w fun e w' => e = .returned (.bool true) ∧ Kept w w'

set_option maxRecDepth 100000 in
set_option maxHeartbeats 16000000 in
theorem awakeQ_of (CO : ROfAt) (CP : RPutOk) (CZ : RSizeOk) : AwakeQ := by
  intro w hT
  obtain ⟨W1, hW1⟩ : ∃ W, W = w.alloc (.cells #[.int .u32 9] 53) := ⟨_, rfl⟩
  have hk1 : Kept w W1 := by rw [hW1]; exact box_below _ _
  have hU : UsAt [9] (.slice (some ⟨w.heap.size, 0, none⟩) 1 1) W1 := by
    refine ⟨fun p n c e => by simp only [Value.slice.injEq] at e; omega, fun a ha => by rw [List.mem_singleton.1 ha]; show 9 < 4294967296; omega, ?_⟩
    rw [hW1]
    exact FlatAt.new w 53 1 1 1 #[.int .u32 9] rfl (fun x hx => by simp at hx; rw [hx]; rfl)
  have C1 := CO [97] ⟨#[1, 2, 3]⟩ [9] _ W1 (by decide) (by decide) hU (by decide)
  have e1 : ofQ [97] (⟨#[1, 2, 3]⟩ : ByteArray).data.toList [9] = some exR := ex_of
  rw [e1, show str [97] = ⟨#[97]⟩ from rfl] at C1
  have C1' : Calls Tryd.prog 21 #[.string ⟨#[97]⟩, .string ⟨#[1, 2, 3]⟩, .slice (some ⟨w.heap.size, 0, none⟩) 1 1] W1 fun e w' => (∃ u, e = .returned (.tuple #[u, .int .i64 0]) ∧ RpIs exR u w') ∧ Kept W1 w' := C1
  have C3 := fun W => CZ ⟨#[97]⟩ 1 W (by decide) (by decide)
  have e3 : sizeVQ (⟨#[97]⟩ : ByteArray).size 1 = 31 := by decide
  rw [e3] at C3
  have HW1 := Lib.hid hW1
  have HK1 := Lib.hid hk1
  have HT := Lib.hid hT
  have HCP := Lib.hid CP
  have HC3 := Lib.hid C3
  clear hT hW1 hk1 hU C1 e1 e3 CO CP CZ C3
  go_enter Tryd.func13, Tryd.ntmps13
  go_wp2_with fail
  rw [← HW1.out]
  refine C1'.mono ?_
  rintro e w2 ⟨⟨u, rfl, hu⟩, hk2⟩
  have hp := HCP.out exR u
  obtain ⟨tv, rfl, hm, hwf⟩ := hu
  obtain ⟨p, c, rfl, -, -⟩ := hm.out encU
  have hu2 : RpIs exR (.agg #[.string ⟨#[97]⟩, .int .i64 3, .int .i64 (-2), .int .i64 2, .slice p 1 c]) w2 := ⟨_, rfl, hm, hwf⟩
  obtain ⟨W3, hW3⟩ : ∃ W, W = w2.alloc (.cells #[.string ⟨#[97]⟩, .int .i64 3, .int .i64 (-2), .int .i64 2, .slice p 1 c] 24) := ⟨_, rfl⟩
  have hk3 : Kept w2 W3 := by rw [hW3]; exact box_below _ _
  have HK3 : Hid (Kept w W3) := Lib.hid ((HK1.out.then hk2).then hk3)
  have HR3 : Hid (Row5 w2.heap.size (.string ⟨#[97]⟩) (.int .i64 3) (.int .i64 (-2)) (.int .i64 2) (.slice p 1 c) W3) := Lib.hid ⟨by rw [hW3]; exact heap_alloc_last w2 _⟩
  have C2 := HCP.out exR _ W3 (hu2.later hk3) (by decide) (HT.out.later HK3.out)
  rw [if_pos ex_mayQ, show putVQ exR = str (recpB exR) from if_pos ex_mayQ] at C2
  obtain ⟨P, hP⟩ : ∃ P, P = str (recpB exR) := ⟨_, rfl⟩
  have hPs : P.size = 31 := by rw [hP, str_size, ex_sizeQ]
  rw [← hP] at C2
  have HW3 := Lib.hid hW3
  have hval : Value.agg (rpC exR (.slice p exR.mans.length c)) = .agg #[.string ⟨#[97]⟩, .int .i64 3, .int .i64 (-2), .int .i64 2, .slice p 1 c] := rfl
  rw [hval]
  clear hp hm hwf hu2 hk2 hk3 hW3 hP hval C1' HW1 HK1 HCP
  go_wp2_with fail
  rw [← HW3.out]
  refine C2.mono ?_
  rintro e w4 ⟨rfl, hk4⟩
  have HK4 := Lib.hid (HK3.out.then hk4)
  have HR4 := Lib.hid (HR3.out.later hk4)
  have d1 := HR4.out.c1
  have d2 := HR4.out.c2
  have d3 := HR4.out.c3
  have d4 := HR4.out.c4
  clear hk4 C2 HW3 HK3 HR3
  have C3 := HC3.out
  go_wp2_with fail
  refine (C3 _).mono ?_
  rintro e w5 ⟨rfl, hk5⟩
  have HK5 := Lib.hid (HK4.out.then hk5)
  clear hk5 C3
  go_wp2
  go_ret
  exact ⟨rfl, HK5.out⟩

end Go.Proofs.YtijdbmapdmhknaaDoor
