/- Generators are those of the document: the law's walk, over what the package's Generator answers. -/
import Derived.Test.YtmnciipfepeccaaMatLaw0
import Derived.Test.YtmnciipfepeccaaMatTold
import Derived.Test.YtmnciipfepeccaaMatGen
import Derived.Deep.RegionHeld3
import Derived.Deep.DeepCutAuto
import Derived.Deep.DrawnRows
namespace Go.Proofs.Ytmnciipfepeccaa
open Go.RowKit

/-- a generator's rows, columns, bytes and number, or why there is none -/
def genAns (k m : Int) : Value :=
  if 1 ≤ k ∧ k ≤ 255 ∧ 0 ≤ m ∧ m ≤ 255 - k then .tuple #[.agg #[.int .i64 (k + m), .int .i64 k, .string ⟨(tabL (k.toNat + m.toNat) k.toNat (GfU.gen k.toNat)).toArray⟩], .int .i64 0]
  else .tuple #[.agg #[.int .i64 0, .int .i64 0, .string ⟨#[]⟩], .int .i64 1]

theorem genAns_form (k m : Int) : ∃ x y z e, genAns k m = .tuple #[.agg #[.int .i64 x, .int .i64 y, .string z], .int .i64 e] := by
  unfold genAns
  split
  · exact ⟨_, _, _, _, rfl⟩
  · exact ⟨_, _, _, _, rfl⟩

def GenAll : Prop := ∀ (k m : Int) (w : World), Calls Try.prog 35 #[.int .i64 k, .int .i64 m] w fun e w' => e = .returned (genAns k m) ∧ Below w.heap.size w w'

end Go.Proofs.Ytmnciipfepeccaa
