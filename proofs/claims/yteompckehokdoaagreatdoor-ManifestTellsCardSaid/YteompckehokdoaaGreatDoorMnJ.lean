/- The landed manifests' contracts, all of them. -/
import Derived.Test.YteompckehokdoaaGreatDoorGU
import Derived.Test.YteompckehokdoaaGreatDoorGO
import Derived.Test.YteompckehokdoaaGreatDoorGR
import Derived.Test.YteompckehokdoaaGreatDoorGS
import Derived.Test.YteompckehokdoaaGreatDoorMjH
