/- Texts that a proof needs, brought together; no condition. -/
import Derived.Test.YtibekhigpamnjaaRcEncL
import Derived.Test.YtibekhigpamnjaaRcOpen
import Derived.Test.YtibekhigpamnjaaRcWritesW
namespace Go.Proofs.Ytibekhigpamnjaa

end Go.Proofs.Ytibekhigpamnjaa
