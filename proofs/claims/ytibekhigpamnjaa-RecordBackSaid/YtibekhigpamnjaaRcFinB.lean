/- Texts that a proof needs, brought together; no condition. -/
import Derived.Test.YtibekhigpamnjaaRcEncL
import Derived.Test.YtibekhigpamnjaaRcDecL
import Derived.Test.YtibekhigpamnjaaRcOpen
import Derived.Test.YtibekhigpamnjaaRcBackW
namespace Go.Proofs.Ytibekhigpamnjaa

end Go.Proofs.Ytibekhigpamnjaa
