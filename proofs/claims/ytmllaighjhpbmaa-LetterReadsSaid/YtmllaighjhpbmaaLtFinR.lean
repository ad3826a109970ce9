/- What a law of letters stands on. -/
import Derived.Test.YtmllaighjhpbmaaLtDecL
import Derived.Test.YtmllaighjhpbmaaLtReadsW
namespace Go.Proofs.Ytmllaighjhpbmaa

end Go.Proofs.Ytmllaighjhpbmaa
