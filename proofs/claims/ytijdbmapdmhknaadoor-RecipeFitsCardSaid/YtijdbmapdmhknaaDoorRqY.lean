/- The contracts of the landed recipes, all together. -/
import Derived.Test.YtijdbmapdmhknaaDoorRyJ
namespace Go.Proofs.YtijdbmapdmhknaaDoor

theorem recipe_contracts : RCheckOk ∧ RSizeOk ∧ RPutOk ∧ RGetOk ∧ RSameOk ∧ RWeightOk ∧ ROfOk ∧ RFitsOk ∧ RJoinOk :=
  ⟨rcheckOk, rsizeOk, rputOk, rgetOk, rsameOk, rweightOk, rofOk, rfitsOk, rjoinOk⟩

end Go.Proofs.YtijdbmapdmhknaaDoor
