/- What the texts on instruments have in common. -/
import Derived.Test.YtkfgmkgbicahgaaDoorInsF
import Derived.Test.YtkfgmkgbicahgaaDoorPut
import Derived.Test.YtkfgmkgbicahgaaDoorRetI
