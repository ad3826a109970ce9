/- What the document's own Check of records answers; contract; no condition but the range. (Written by wip/gen_rccheck.py.) -/
import Derived.Test.YtibekhigpamnjaaRcCheck0
import Derived.Test.YtibekhigpamnjaaRcCheck1
import Derived.Test.YtibekhigpamnjaaRcCheck2
import Derived.Test.YtibekhigpamnjaaRcCheck3
import Derived.Test.YtibekhigpamnjaaRcCheck4
namespace Go.Proofs.Ytibekhigpamnjaa
namespace Rc
open Go.RowKit Bk Lt

theorem check_any (A B : Option Addr) (c d : Nat) (r : Rec) (w : World) (ha : StrsAt w A r.keys) (hb : WrsAt w B r.ws) (hr : RecRng r) :
    Calls Try.prog 12 #[recV r A B c d] w fun e w' => e = .returned (.int .i64 (ckN r : Int)) ∧ Below w.heap.size w w' := by
  by_cases hh : headOk r
  · by_cases h1 : r.kind = 1 ∨ r.kind = 2
    · exact check_g1 A B c d r w ha hb hr hh (Lib.hid h1)
    by_cases h2 : r.kind = 3
    · exact check_g2 A B c d r w ha hb hr hh (Lib.hid h2)
    by_cases h3 : r.kind = 4 ∨ r.kind = 5
    · exact check_g3 A B c d r w ha hb hr hh (Lib.hid h3)
    exact check_g4 A B c d r w ha hb hr hh (Lib.hid (by omega))
  · exact check_bad A B c d r w ha hb hr hh

end Rc
end Go.Proofs.Ytibekhigpamnjaa
