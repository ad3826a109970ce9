/- What the law of records that last stands on; imports alone. -/
import Derived.Test.YtjehjbkcdpidbaaGreatRlDone
import Derived.Test.YtjehjbkcdpidbaaGreatTrMain
namespace Go.Proofs.YtjehjbkcdpidbaaGreat

end Go.Proofs.YtjehjbkcdpidbaaGreat
