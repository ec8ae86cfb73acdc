/- The walks of the five laws of super, out of the contracts of the program's calls (SuY: checkOk .. slotOk). -/
import Derived.Test.YtlfmmhalheohdaaDoorSuY
namespace Go.Proofs.YtlfmmhalheohdaaDoor

theorem walk_superPuts (w : World) (s : Sb) (u : Value) (hu : SbAt s u w) (o : Sb) (v : Value) (hv : SbAt o v w) (hT : TabAt w) :
    Calls Tryd.prog 3 #[u, v] w (LawPost w) := superPuts_of checkOk putOk getOk pickOk nextOk sameOk needOk slotOk s o u v w hu hv hT
theorem walk_superGets (t : ByteArray) (_ : t.size ≤ maxLen) (w : World) (hT : TabAt w) :
    Calls Tryd.prog 4 #[.string t] w (LawPost w) := superGets_of checkOk putOk getOk pickOk nextOk sameOk needOk slotOk t w hT
theorem walk_superPicks (a : ByteArray) (_ : a.size ≤ maxLen) (b : ByteArray) (_ : b.size ≤ maxLen) (w : World) (hT : TabAt w) :
    Calls Tryd.prog 5 #[.string a, .string b] w (LawPost w) := superPicks_of checkOk putOk getOk pickOk nextOk sameOk needOk slotOk a b w hT
theorem walk_superNewer (w : World) (s : Sb) (u : Value) (hu : SbAt s u w) (n : Int) (wn : (Lit.int .i64 n).wf = true) (t : ByteArray) (_ : t.size ≤ maxLen) (hT : TabAt w) :
    Calls Tryd.prog 6 #[u, .int .i64 n, .string t] w (LawPost w) := superNewer_of checkOk putOk getOk pickOk nextOk sameOk needOk slotOk s u n (wf_I64 wn) t w hu hT
theorem walk_superNeeds (n : Int) (wn : (Lit.int .i64 n).wf = true) (q : Int) (wq : (Lit.int .u64 q).wf = true) (w : World) (hT : TabAt w) :
    Calls Tryd.prog 7 #[.int .i64 n, .int .u64 q] w (LawPost w) := by
  have h0 := wf_u64 wq
  obtain ⟨k, rfl⟩ : ∃ k : Nat, q = k := ⟨q.toNat, by omega⟩
  exact superNeeds_of checkOk putOk getOk pickOk nextOk sameOk needOk slotOk n (wf_I64 wn) k (by omega) w hT

end Go.Proofs.YtlfmmhalheohdaaDoor
