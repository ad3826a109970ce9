/- What the law of redo stands on; imports alone. -/
import Derived.Test.YtjehjbkcdpidbaaRlDone
import Derived.Test.YtjehjbkcdpidbaaA8
namespace Go.Proofs.Ytjehjbkcdpidbaa

end Go.Proofs.Ytjehjbkcdpidbaa
