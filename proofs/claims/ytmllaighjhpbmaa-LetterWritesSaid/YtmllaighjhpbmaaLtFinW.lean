/- What a law of letters stands on. -/
import Derived.Test.YtmllaighjhpbmaaLtEncL
import Derived.Test.YtmllaighjhpbmaaLtWritesW
namespace Go.Proofs.Ytmllaighjhpbmaa

end Go.Proofs.Ytmllaighjhpbmaa
