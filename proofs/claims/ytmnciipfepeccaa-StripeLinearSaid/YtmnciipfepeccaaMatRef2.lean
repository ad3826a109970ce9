/- What the document's own answers for matrices do: products with their checks, rows, what is picked, generators; one contract a function; no condition but the form's reach. -/
import Derived.Test.YtmnciipfepeccaaMatRef
namespace Go.Proofs.Ytmnciipfepeccaa
open Go.RowKit

end Go.Proofs.Ytmnciipfepeccaa
