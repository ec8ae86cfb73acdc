/- The walks of the laws of manifest, out of the contracts of the landed code (its last text is called MnJ: checkOkM .. sameOkM). -/
import Derived.Test.YteompckehokdoaaDoorMnJ
import Derived.Test.YteompckehokdoaaDoorMnY
import Derived.Test.YteompckehokdoaaDoorMnV
namespace Go.Proofs.YteompckehokdoaaDoor

theorem mawake : AwakeM := mawake_of putOkM getOkM turnOkM placesOkM sizeOkM bytesOkM sameOkM checkOkM
theorem walk_manifestPuts (w : World) (m : Mf) (v : Value) (hv : ManIs m v w) (o : Mf) (u : Value) (hu : ManIs o u w) (hT : TabAt w) :
    Calls Tryd.prog 3 #[v, u] w (LawPost w) := manifestPuts_of checkOkM putOkM getOkM sameOkM sizeOkM mawake m o v u w hv hu hT
theorem walk_manifestGets (s : ByteArray) (_ : s.size ≤ maxLen) (w : World) (hT : TabAt w) :
    Calls Tryd.prog 4 #[.string s] w (LawPost w) := manifestGets_of getOkM mawake s w hT
theorem walk_manifestTurns (w : World) (m : Mf) (v : Value) (hv : ManIs m v w) (F T : List Pl) (u : Value) (hu : MovesAt F T u w) (hT : TabAt w) :
    Calls Tryd.prog 5 #[v, u] w (LawPost w) := manifestTurns_of turnOkM mawake m F T v u w hv hu hT
theorem walk_manifestBack (w : World) (m : Mf) (v : Value) (hv : ManIs m v w) (n : Int) (wn : (Lit.int .u32 n).wf = true) (hT : TabAt w) :
    Calls Tryd.prog 6 #[v, .int .u32 n] w (LawPost w) := by
  have h := wfM_u32 wn
  obtain ⟨i, rfl⟩ := Int.eq_ofNat_of_zero_le h.1
  exact manifestBack_of turnOkM mawake m i (by omega) v w hv hT

end Go.Proofs.YteompckehokdoaaDoor
