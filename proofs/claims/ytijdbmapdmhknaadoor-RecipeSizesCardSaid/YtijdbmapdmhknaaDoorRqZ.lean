/- The walks of the laws of recipe, out of the contracts of the landed code (its last text is called RqY: rcheckOk, rsizeOk, rputOk, rgetOk, rsameOk, rweightOk, rofOk, rfitsOk, rjoinOk). -/
import Derived.Test.YtijdbmapdmhknaaDoorRqY
import Derived.Test.YtijdbmapdmhknaaDoorRqN
import Derived.Test.YtijdbmapdmhknaaDoorGI
namespace Go.Proofs.YtijdbmapdmhknaaDoor

theorem rawake : AwakeQ := awakeQ_of rofOk.at rputOk rsizeOk
theorem walk_recipePuts (w : World) (r : Rp) (v : Value) (hv : RpIs r v w) (o : Rp) (u : Value) (hu : RpIs o u w) (hT : TabAt w) :
    Calls Tryd.prog 3 #[v, u] w (LawPost w) := recipePuts_of rcheckOk rputOk rgetOk rsameOk rsizeOk rweightOk rawake r o v u w hv hu hT
theorem walk_recipeGets (s : ByteArray) (_ : s.size ≤ maxLen) (w : World) (hT : TabAt w) :
    Calls Tryd.prog 4 #[.string s] w (LawPost w) := recipeGets_of rgetOk rputOk rawake s w hT
theorem walk_recipeSizes (s : ByteArray) (_ : s.size ≤ maxLen) (n : Int) (wn : (Lit.int .i64 n).wf = true) (w : World) (hT : TabAt w) :
    Calls Tryd.prog 5 #[.string s, .int .i64 n] w (LawPost w) := recipeSizes_of rsizeOk rawake s n wn w hT
theorem walk_recipeFits (w : World) (name : ByteArray) (_ : name.size ≤ maxLen) (s : ByteArray) (_ : s.size ≤ maxLen) (t : ByteArray) (_ : t.size ≤ maxLen) (v : Value) (l : List Nat) (hv : UsAt l v w) (_ : l.length ≤ maxLen) (hT : TabAt w) :
    Calls Tryd.prog 6 #[.string name, .string s, .string t, v] w (LawPost w) := recipeFits_of rofOk.at rfitsOk rawake name s t l v w hv hT
theorem walk_recipeJoins (w : World) (name : ByteArray) (_ : name.size ≤ maxLen) (v : Value) (l : List Rp) (hv : RpsAt l v w) (_ : l.length ≤ maxLen) (u : Value) (ss : List ByteArray) (hu : StrAt ss u w) (_ : ss.length ≤ maxLen ∧ ∀ s ∈ ss, s.size ≤ maxLen) (hT : TabAt w) :
    Calls Tryd.prog 7 #[.string name, v, u] w (LawPost w) := recipeJoins_of rofOk rfitsOk rjoinOk rawake name l v ss u w hv hu hT

end Go.Proofs.YtijdbmapdmhknaaDoor
