/- Nothing of the library is laid here in this seat. -/
import Derived.Test.YtmhloojnekjfhaaDoorProg
