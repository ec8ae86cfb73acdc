/- pack's numbers (all of them lie in Num). -/
import Derived.Test.YtdmbebafpamgfaaDoorNum
