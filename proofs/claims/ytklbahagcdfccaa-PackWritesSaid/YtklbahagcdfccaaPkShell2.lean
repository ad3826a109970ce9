/- The laws of package pack over a pack as an argument. -/
import Derived.Test.YtklbahagcdfccaaPkCuts
import Derived.Test.YtklbahagcdfccaaPkWrites
import Derived.Test.YtklbahagcdfccaaPkGrows
import Derived.Test.YtklbahagcdfccaaPkGrows
import Derived.Test.YtklbahagcdfccaaPkShell
namespace Go.Proofs.Ytklbahagcdfccaa
namespace Pk
open Go.RowKit Bk

theorem back_arg (HE : EncodeAll) (HD : DecodeAll) (v : Value) (ns : List Int) (ts : List ByteArray) (s : ByteArray) (w : World) (hv : PackArg w v ns ts) (hreach : s.size ≤ reachBytes) :
    Calls Try.prog 5 #[v, .string s] w fun e w' => e = .returned (.bool true) ∧ Below w.heap.size w w' := by
  obtain ⟨A, B, c, d, rfl, h1, h2, h3, _⟩ := hv
  exact back_walk HE HD A B c d ns ts s w h1 h2 h3 hreach

theorem cuts_arg (HE : EncodeAll) (HD : DecodeAll) (v : Value) (ns : List Int) (ts : List ByteArray) (x : Int) (w : World) (hv : PackArg w v ns ts) :
    Calls Try.prog 6 #[v, .int .i64 x] w fun e w' => e = .returned (.bool true) ∧ Below w.heap.size w w' := by
  obtain ⟨A, B, c, d, rfl, h1, h2, h3, _⟩ := hv
  exact cuts_walk HE HD A B c d ns ts x w h1 h2 h3

theorem writes_arg (HC : CheckAll) (HE : EncodeAll) (HN : NumberAll) (v : Value) (ns : List Int) (ts : List ByteArray) (x : Int) (hx : -9223372036854775808 ≤ x ∧ x ≤ 9223372036854775807) (w : World) (hv : PackArg w v ns ts) :
    Calls Try.prog 3 #[v, .int .i64 x] w fun e w' => e = .returned (.bool true) ∧ Below w.heap.size w w' := by
  obtain ⟨A, B, c, d, rfl, h1, h2, h3, h4, h5⟩ := hv
  exact writes_walk HC HE HN A B c d ns ts x hx w h1 h2 h3 h4 (fun h => ⟨by rw [(h5 h).1]; rfl, (h5 h).2⟩)

theorem grows_arg (HE : EncodeAll) (v : Value) (ns : List Int) (ts : List ByteArray) (s : ByteArray) (w : World) (hv : PackArg w v ns ts) (hreach : s.size ≤ reachBytes) :
    Calls Try.prog 8 #[v, .string s] w fun e w' => e = .returned (.bool true) ∧ Below w.heap.size w w' := by
  obtain ⟨A, B, c, d, rfl, h1, h2, h3, h4, _⟩ := hv
  exact grows_walk HE A B c d ns ts s hreach w h1 h2 h3 h4

end Pk
end Go.Proofs.Ytklbahagcdfccaa
