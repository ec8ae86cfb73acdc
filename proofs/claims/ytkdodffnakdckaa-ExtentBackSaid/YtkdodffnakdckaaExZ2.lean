/- The walks of the laws ExtentBack, out of the contracts of the program's calls. -/
import Derived.Test.YtkdodffnakdckaaExY
import Derived.Test.YtkdodffnakdckaaExD
import Derived.Test.YtkdodffnakdckaaExO
namespace Go.Proofs.Ytkdodffnakdckaa

theorem walk_extentBack (w : World) (a : Int) (wa : (Lit.int .u16 a).wf = true) (v : Value) (l : List (Int × Int)) (hv : RunsAt l v w) (hl : l.length ≤ maxLen) (n : Int) (wn : (Lit.int .u16 n).wf = true) (k : Int) (wk : (Lit.int .u16 k).wf = true) :
    Calls Try.prog 7 #[.int .u16 a, v, .int .u16 n, .int .u16 k] w (LawPost w) := extentBack_of plainOk minusOk newOk w a wa v l hv n wn k wk

end Go.Proofs.Ytkdodffnakdckaa
