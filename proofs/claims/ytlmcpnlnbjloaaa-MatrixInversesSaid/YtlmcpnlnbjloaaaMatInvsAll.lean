/- MatrixInverses' walk over the landed package, whole. -/
import Derived.Test.YtlmcpnlnbjloaaaMatRInvAll
import Derived.Test.YtlmcpnlnbjloaaaMatLandInv2
namespace Go.Proofs.Ytlmcpnlnbjloaaa
open Go.RowKit

theorem inverses_whole (r c : Int) (s : ByteArray) (w : World) :
    Calls Try.prog 4 #[.agg #[.int .i64 r, .int .i64 c, .string s]] w fun e w' => e = .returned (.bool true) ∧ Below w.heap.size w w' :=
  inverses_walk gen_example invAll rinvAll r c s w

end Go.Proofs.Ytlmcpnlnbjloaaa
