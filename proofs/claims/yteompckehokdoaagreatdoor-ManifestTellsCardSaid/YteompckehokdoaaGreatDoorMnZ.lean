/- The walks of the laws of manifest, out of the contracts of the landed code (its last text is called MnJ: checkOkM .. sameOkM). -/
import Derived.Test.YteompckehokdoaaGreatDoorMnJ
import Derived.Test.YteompckehokdoaaGreatDoorGL
import Derived.Test.YteompckehokdoaaGreatDoorMnTl
import Derived.Test.YteompckehokdoaaGreatDoorMnO
namespace Go.Proofs.YteompckehokdoaaGreatDoor

theorem mawake : AwakeM := mawake_of putOkM getOkM turnOkM placesOkM sizeOkM bytesOkM sameOkM checkOkM
theorem walk_manifestTells (w : World) (m : Mf) (v : Value) (hv : ManIs m v w) (bits : Int) (wb : (Lit.int .i64 bits).wf = true) (n : Int) (wn : (Lit.int .i64 n).wf = true) (hT : TabAt w) :
    Calls Tryz.prog 3 #[v, .int .i64 bits, .int .i64 n] w (LawPost w) := manifestTells_of placesOkM bytesOkM hooksOkM sizeOkM mawake m bits n wb wn v w hv hT
end Go.Proofs.YteompckehokdoaaGreatDoor
