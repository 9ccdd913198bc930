/- What the texts on instruments have in common. -/
import Derived.Test.YtbdffmacpajebaaDoorInsF
import Derived.Test.YtbdffmacpajebaaDoorPut
import Derived.Test.YtbdffmacpajebaaDoorRetI
