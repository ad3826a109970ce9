/- What the law of redo stands on; imports alone. -/
import Derived.Test.YtjehjbkcdpidbaaGreatRlDone
import Derived.Test.YtjehjbkcdpidbaaGreatA14
namespace Go.Proofs.YtjehjbkcdpidbaaGreat

end Go.Proofs.YtjehjbkcdpidbaaGreat
