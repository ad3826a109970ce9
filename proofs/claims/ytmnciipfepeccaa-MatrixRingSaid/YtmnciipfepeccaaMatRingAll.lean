/- Products do not hang on which are taken first; the identity changes nothing, from both sides: of the landed code. -/
import Derived.Test.YtmnciipfepeccaaMatRing
import Derived.Test.YtmnciipfepeccaaMatLandMul
namespace Go.Proofs.Ytmnciipfepeccaa
open Go.RowKit

theorem mring_whole (A B C : Int) (x y : ByteArray) (hx : x.size ≤ reachBytes) (hy : y.size ≤ reachBytes) (w : World) :
    Calls Try.prog 3 #[.agg #[.int .i64 A, .int .i64 B, .int .i64 C], .string x, .string y] w fun e w' => e = .returned (.bool true) ∧ Below w.heap.size w w' :=
  mring_walk gen_example mul_yes ident_yes A B C x y hx hy w

end Go.Proofs.Ytmnciipfepeccaa
