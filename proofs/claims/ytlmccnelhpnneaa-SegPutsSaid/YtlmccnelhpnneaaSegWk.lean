/- The walks of SegFirst, SegNobody, SegPuts: the contracts, put together. -/
import Derived.Test.YtlmccnelhpnneaaSegE
import Derived.Test.YtlmccnelhpnneaaSegG
import Derived.Test.YtlmccnelhpnneaaSegQ
namespace Go.Proofs.Ytlmccnelhpnneaa
open Go.RowKit

theorem walk_segFirst (w : World) (v0 : Value) (ls0 : List (List UInt8)) (hv : FpsAt 32 ls0 v0 w ∧ CapOkF v0) (hl : ls0.length ≤ maxLen) (C : Array Value) (a b d : Int) (hC : IsSeg C a b d) :
    Calls Try.prog 3 #[v0, .agg C] w (LawPost w) := segFirst_of mayOk cutOk allOk w v0 ls0 hv hl C a b d hC

theorem walk_segNobody (l : List UInt8) (hl : l.length = 32) (w : World) :
    Calls Try.prog 7 #[.agg (fpA l)] w (LawPost w) := segNobody_of mayOk cutOk allOk nilOk w l hl

theorem walk_segPuts (w : World) (v0 : Value) (ls0 : List (List UInt8)) (hv : FpsAt 32 ls0 v0 w ∧ CapOkF v0) (hl : ls0.length ≤ maxLen) (C : Array Value) (a b d : Int) (hC : IsSeg C a b d) (r : Int) (hr : (Lit.int .u16 r).wf = true) :
    Calls Try.prog 6 #[v0, .agg C, .int .u16 r] w (LawPost w) := segPuts_of mayOk cutOk allOk newOk w v0 ls0 hv hl C a b d hC r hr

end Go.Proofs.Ytlmccnelhpnneaa
