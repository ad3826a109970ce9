/- MatrixBack's walk over the landed package, whole. -/
import Derived.Test.YtlmcpnlnbjloaaaMatBack
import Derived.Test.YtlmcpnlnbjloaaaMatLandInv
namespace Go.Proofs.Ytlmcpnlnbjloaaa
open Go.RowKit

theorem mback_whole (n : Int) (x : ByteArray) (w : World) :
    Calls Try.prog 8 #[.int .i64 n, .string x] w fun e w' => e = .returned (.bool true) ∧ Below w.heap.size w w' :=
  mback_walk gen_example mul_yes inv_yes ident_yes n x w

end Go.Proofs.Ytlmcpnlnbjloaaa
