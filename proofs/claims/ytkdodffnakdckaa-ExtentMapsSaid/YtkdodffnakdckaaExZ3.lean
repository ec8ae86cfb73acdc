/- The walks of the laws ExtentMaps, out of the contracts of the program's calls. -/
import Derived.Test.YtkdodffnakdckaaExY
import Derived.Test.YtkdodffnakdckaaExF
namespace Go.Proofs.Ytkdodffnakdckaa

theorem walk_extentMaps (w : World) (a : Int) (wa : (Lit.int .i64 a).wf = true) (b : Int) (wb : (Lit.int .i64 b).wf = true) (v : Value) (acs : List ActM) (hv : ActsM acs v w) (hl : acs.length ≤ maxLen) :
    Calls Try.prog 6 #[.int .i64 a, .int .i64 b, v] w (LawPost w) := extentMaps_of plainOk minusOk newOk w a b (wf_I64 wa) (wf_I64 wb) v acs hv

end Go.Proofs.Ytkdodffnakdckaa
