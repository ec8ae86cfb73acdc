/- The landed manifests' contracts, all of them. -/
import Derived.Test.YteompckehokdoaaDoorMjB
import Derived.Test.YteompckehokdoaaDoorGO
import Derived.Test.YteompckehokdoaaDoorGR
import Derived.Test.YteompckehokdoaaDoorGS
