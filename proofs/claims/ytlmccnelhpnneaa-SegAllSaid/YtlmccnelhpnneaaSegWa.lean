/- The walk of SegAll: the contracts, put together. -/
import Derived.Test.YtlmccnelhpnneaaSegT
import Derived.Test.YtlmccnelhpnneaaSegI
namespace Go.Proofs.Ytlmccnelhpnneaa
open Go.RowKit

theorem walk_segAll (w : World) (v0 : Value) (ls0 : List (List UInt8)) (hv : FpsAt 32 ls0 v0 w ∧ CapOkF v0) (hl : ls0.length ≤ maxLen) (C : Array Value) (a b d : Int) (hC : IsSeg C a b d) :
    Calls Try.prog 4 #[v0, .agg C] w (LawPost w) := segAll_of mayOk cutOk allOk (splitOk_of splitOwn) w v0 ls0 hv hl C a b d hC

end Go.Proofs.Ytlmccnelhpnneaa
