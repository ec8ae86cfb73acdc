/- The contracts of the landed super: needOk, slotOk, checkOk, sameOk, nextOk, putOk, getOk, pickOk. -/
import Derived.Test.YtlfmmhalheohdaaDoorSuD
import Derived.Test.YtlfmmhalheohdaaDoorSuO
import Derived.Test.YtlfmmhalheohdaaDoorGJ
