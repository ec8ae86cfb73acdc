/- hook.Set: the walk, where the other texts were built without it. -/
import Derived.Test.YtaajadmaamjebaaHD
import Derived.Test.YtaajadmaamjebaaHkS
namespace Go.Proofs.Ytaajadmaamjebaa
open Go.RowKit

set_option maxRecDepth 100000 in
/-- Set. -/
theorem hset_any (v : Value) (ls : List (List UInt8)) (hs : ls.length ≤ 1000000) (w : World) (h : FpsAt 32 ls v w) :
    Calls Try.prog 29 #[v] w fun e w' => ∃ v', e = .returned v' ∧ OwnFps w.heap.size (setL ls) v' w' ∧ Below w.heap.size w w' := by
  have h32 : All32 ls := h.1
  have C := clone_any v ls hs w h
  clear h
  go_enter Try.func29, Try.ntmps29
  go_wp2_with fail
  refine C.mono ?_
  rintro e w1 ⟨v1, rfl, ho1, hb1⟩
  have S := sort_any w.heap.size ls hs v1 w1 ho1
  have l1 := ho1.lt
  clear ho1 C
  go_wp2_with fail
  refine S.mono ?_
  rintro e w2 ⟨rfl, ms, hp, hpw, ho2, hg2⟩
  have hlen := hp.length_eq
  have K := compact_any w.heap.size ms (by omega) v1 w2 ho2
  have hset := once_set 32 ls ms h32 hp hpw
  rw [hset] at K
  have hb2 : Below w.heap.size w w2 := hb1.grown hg2 hb1.size (fun k hk => (l1 k hk).1)
  clear hset hpw hp S ho2 hg2 hb1
  go_wp2_with fail
  refine K.mono ?_
  rintro e w3 ⟨v3, rfl, ho3, hg3, hbl⟩
  go_wp2
  go_ret
  exact ⟨_, rfl, ho3, hb2.grown hg3 hb2.size (fun k hk => (l1 k hk).1)⟩

end Go.Proofs.Ytaajadmaamjebaa
