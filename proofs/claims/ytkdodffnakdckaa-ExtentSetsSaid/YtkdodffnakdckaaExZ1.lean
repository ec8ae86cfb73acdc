/- The walks of the laws ExtentTells, ExtentSets, ExtentLowest, ExtentNobody, out of the contracts of the program's calls. -/
import Derived.Test.YtkdodffnakdckaaExY
import Derived.Test.YtkdodffnakdckaaExB
import Derived.Test.YtkdodffnakdckaaExO
namespace Go.Proofs.Ytkdodffnakdckaa

theorem walk_extentTells (w : World) (v : Value) (l : List (Int × Int)) (hv : RunsAt l v w) (hl : l.length ≤ maxLen) (a : Int) (wa : (Lit.int .i64 a).wf = true) (b : Int) (wb : (Lit.int .i64 b).wf = true) (c : Int) (wc : (Lit.int .i64 c).wf = true) :
    Calls Try.prog 3 #[v, .int .i64 a, .int .i64 b, .int .i64 c] w (LawPost w) := extentTells_of plainOk minusOk mayOk countOk hasOk w v l hv a b c (wf_I64 wa) (wf_I64 wb) (wf_I64 wc)
theorem walk_extentSets (w : World) (u : Value) (a : List (Int × Int)) (hu : RunsAt a u w) (ha : a.length ≤ maxLen) (v : Value) (b : List (Int × Int)) (hv : RunsAt b v w) (hb : b.length ≤ maxLen) :
    Calls Try.prog 4 #[u, v] w (LawPost w) := extentSets_of plainOk minusOk joinOk commonOk countOk w u a hu v b hv
theorem walk_extentLowest (w : World) (v : Value) (l : List (Int × Int)) (hv : RunsAt l v w) (hl : l.length ≤ maxLen) (n : Int) (wn : (Lit.int .i64 n).wf = true) :
    Calls Try.prog 5 #[v, .int .i64 n] w (LawPost w) := extentLowest_of plainOk minusOk countOk lowestOk w v l hv n (wf_I64 wn)
theorem walk_extentNobody (w : World) (n : Int) (wn : (Lit.int .i64 n).wf = true) (v : Value) (l : List (Int × Int)) (hv : RunsAt l v w) (hl : l.length ≤ maxLen) :
    Calls Try.prog 8 #[.int .i64 n, v] w (LawPost w) := extentNobody_of plainOk minusOk nilOk w n v l hv

end Go.Proofs.Ytkdodffnakdckaa
