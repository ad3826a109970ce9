/- What the laws of letters that are only written stand on. -/
import Derived.Test.YtmllaighjhpbmaaLtEncL
import Derived.Test.YtmllaighjhpbmaaLtOpen
import Derived.Test.YtmllaighjhpbmaaLtKeysW
import Derived.Test.YtmllaighjhpbmaaLtOtherW
import Derived.Test.YtmllaighjhpbmaaLtRisingW
namespace Go.Proofs.Ytmllaighjhpbmaa

end Go.Proofs.Ytmllaighjhpbmaa
