/- What a law of letters stands on. -/
import Derived.Test.YtmllaighjhpbmaaLtDecL
import Derived.Test.YtmllaighjhpbmaaLtBackW
import Derived.Test.YtmllaighjhpbmaaLtOpen
namespace Go.Proofs.Ytmllaighjhpbmaa

end Go.Proofs.Ytmllaighjhpbmaa
