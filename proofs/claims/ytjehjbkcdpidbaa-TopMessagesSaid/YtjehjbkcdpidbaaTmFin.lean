/- What the law of letters that last stands on; imports alone. -/
import Derived.Test.YtjehjbkcdpidbaaRlDone
import Derived.Test.YtjehjbkcdpidbaaTmMsg
namespace Go.Proofs.Ytjehjbkcdpidbaa

end Go.Proofs.Ytjehjbkcdpidbaa
