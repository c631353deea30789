/- All of layer 9; no condition. -/
import Derived.Test.YtfglgapocmnfpaaPt45
import Derived.Test.YtfglgapocmnfpaaPt44
import Derived.Test.YtfglgapocmnfpaaPt46

