/- All that the proofs of layer 5 stand on. -/
import Derived.Test.YtlamjkagjkmbeaaSuDone4
import Derived.Test.YtlamjkagjkmbeaaSuBackW
import Derived.Test.YtlamjkagjkmbeaaSuLaw3
namespace Go.Proofs.Ytlamjkagjkmbeaa
end Go.Proofs.Ytlamjkagjkmbeaa
