/-
  No cell of these rows narrows 'for every input' (looked for: loops, veiled, ifaces, maps, wideKeys, modest, calm, conditions, laid).
  DERIVED. THE GIVEN ROWS OF THIS SEAT. 9 by the template 'for every input the law returns true; each argument reads behind the call as it read before'; 0 by the template 'total and deterministic' (their statements: YtmnciipfepeccaaTotals.lean).
  GIVEN WITH THE SEED: the statements are not yours to turn. If you find one false, say at which input.
  Laid BY PROGRAM, IN A SANDBOX (cutbox-rows.mjs): the forced cells as the released guide's own fill.sh prints them over the translation bd2de8fd77a98dbc… (all of the seat's roots in one cut). By AI agents, Wed Nov 11 2026. No macro, syntax, notation, axiom, sorry.
-/
import Derived.Test.YtmnciipfepeccaaChecked
import GoSem.Claim
import GoSem.ClaimJoined
import GoSem.ClaimMapViews
import Derived.JoinedTies
import Derived.KernelRfl
namespace Go.Proofs.Ytmnciipfepeccaa
/- THE CELL 'sum', in the pinned program and in every row, IS THE sha256 OF THE DUMP (.gsa) THAT YtmnciipfepeccaaProg.lean LOADS. Nothing in Lean hashes anything: it is a label: what it is worth is what the hold of that sum in a sandbox is worth. -/
noncomputable def Try.pinned : Pinned := { name := "ytmnciipfepeccaa", sum := "bd2de8fd77a98dbcc0eb288101655b89ccc4d7f5606ff5013a57b904abf8111b", checked := Try.checked }
namespace Rows
def none {H : Type} : Left H := { results := [], args := [] }

/-- 'corncriblaw02.MatrixRing': WHATEVER THE INPUT: true; the input reads as it did. -/
def matrixRingSpec : ChangeSpec := { name := "matrixRing", fn := fun _ => fun
  | [d1, d2, d3] => { results := [.lit (.bool true)], args := [d1, d2, d3] }
  | _ => none }
def matrixRingRow : OpenClaim := { program := "ytmnciipfepeccaa", sum := "bd2de8fd77a98dbcc0eb288101655b89ccc4d7f5606ff5013a57b904abf8111b", func := "corncrib/corncriblaw02.MatrixRing", spec := "matrixRing", unfollowed := true, recurses := true, apart := false }
def MatrixRingSaid : Prop := matrixRingRow.holds Try.pinned (OpenSpec.ofChange matrixRingSpec)

/-- ITS FALSE NEIGHBOUR: 'it returns false'. Refute it at one input. -/
def matrixRingWrong : ChangeSpec := { name := "matrixRing", fn := fun _ => fun
  | [d1, d2, d3] => { results := [.lit (.bool false)], args := [d1, d2, d3] }
  | _ => none }
def MatrixRingWrongFalsely : Prop := matrixRingRow.holds Try.pinned (OpenSpec.ofChange matrixRingWrong)

/-- 'corncriblaw02.MatrixRows': WHATEVER THE INPUT: true; the input reads as it did. -/
def matrixRowsSpec : ChangeSpec := { name := "matrixRows", fn := fun _ => fun
  | [d1, d2, d3] => { results := [.lit (.bool true)], args := [d1, d2, d3] }
  | _ => none }
def matrixRowsRow : OpenClaim := { program := "ytmnciipfepeccaa", sum := "bd2de8fd77a98dbcc0eb288101655b89ccc4d7f5606ff5013a57b904abf8111b", func := "corncrib/corncriblaw02.MatrixRows", spec := "matrixRows", unfollowed := true, recurses := true, apart := false }
def MatrixRowsSaid : Prop := matrixRowsRow.holds Try.pinned (OpenSpec.ofChange matrixRowsSpec)

/-- ITS FALSE NEIGHBOUR: 'it returns false'. Refute it at one input. -/
def matrixRowsWrong : ChangeSpec := { name := "matrixRows", fn := fun _ => fun
  | [d1, d2, d3] => { results := [.lit (.bool false)], args := [d1, d2, d3] }
  | _ => none }
def MatrixRowsWrongFalsely : Prop := matrixRowsRow.holds Try.pinned (OpenSpec.ofChange matrixRowsWrong)

/-- 'corncriblaw03.StripeSplits': WHATEVER THE INPUT: true; the input reads as it did. -/
def stripeSplitsSpec : ChangeSpec := { name := "stripeSplits", fn := fun _ => fun
  | [d1, d2, d3] => { results := [.lit (.bool true)], args := [d1, d2, d3] }
  | _ => none }
def stripeSplitsRow : OpenClaim := { program := "ytmnciipfepeccaa", sum := "bd2de8fd77a98dbcc0eb288101655b89ccc4d7f5606ff5013a57b904abf8111b", func := "corncrib/corncriblaw03.StripeSplits", spec := "stripeSplits", unfollowed := true, recurses := true, apart := false }
def StripeSplitsSaid : Prop := stripeSplitsRow.holds Try.pinned (OpenSpec.ofChange stripeSplitsSpec)

/-- ITS FALSE NEIGHBOUR: 'it returns false'. Refute it at one input. -/
def stripeSplitsWrong : ChangeSpec := { name := "stripeSplits", fn := fun _ => fun
  | [d1, d2, d3] => { results := [.lit (.bool false)], args := [d1, d2, d3] }
  | _ => none }
def StripeSplitsWrongFalsely : Prop := stripeSplitsRow.holds Try.pinned (OpenSpec.ofChange stripeSplitsWrong)

/-- 'corncriblaw03.StripeJoins': WHATEVER THE INPUT: true; the input reads as it did. -/
def stripeJoinsSpec : ChangeSpec := { name := "stripeJoins", fn := fun _ => fun
  | [d] => { results := [.lit (.bool true)], args := [d] }
  | _ => none }
def stripeJoinsRow : OpenClaim := { program := "ytmnciipfepeccaa", sum := "bd2de8fd77a98dbcc0eb288101655b89ccc4d7f5606ff5013a57b904abf8111b", func := "corncrib/corncriblaw03.StripeJoins", spec := "stripeJoins", unfollowed := true, recurses := true, apart := false }
def StripeJoinsSaid : Prop := stripeJoinsRow.holds Try.pinned (OpenSpec.ofChange stripeJoinsSpec)

/-- ITS FALSE NEIGHBOUR: 'it returns false'. Refute it at one input. -/
def stripeJoinsWrong : ChangeSpec := { name := "stripeJoins", fn := fun _ => fun
  | [d] => { results := [.lit (.bool false)], args := [d] }
  | _ => none }
def StripeJoinsWrongFalsely : Prop := stripeJoinsRow.holds Try.pinned (OpenSpec.ofChange stripeJoinsWrong)

/-- 'corncriblaw03.StripeCodes': WHATEVER THE INPUT: true; the input reads as it did. -/
def stripeCodesSpec : ChangeSpec := { name := "stripeCodes", fn := fun _ => fun
  | [d1, d2, d3] => { results := [.lit (.bool true)], args := [d1, d2, d3] }
  | _ => none }
def stripeCodesRow : OpenClaim := { program := "ytmnciipfepeccaa", sum := "bd2de8fd77a98dbcc0eb288101655b89ccc4d7f5606ff5013a57b904abf8111b", func := "corncrib/corncriblaw03.StripeCodes", spec := "stripeCodes", unfollowed := true, recurses := true, apart := false }
def StripeCodesSaid : Prop := stripeCodesRow.holds Try.pinned (OpenSpec.ofChange stripeCodesSpec)

/-- ITS FALSE NEIGHBOUR: 'it returns false'. Refute it at one input. -/
def stripeCodesWrong : ChangeSpec := { name := "stripeCodes", fn := fun _ => fun
  | [d1, d2, d3] => { results := [.lit (.bool false)], args := [d1, d2, d3] }
  | _ => none }
def StripeCodesWrongFalsely : Prop := stripeCodesRow.holds Try.pinned (OpenSpec.ofChange stripeCodesWrong)

/-- 'corncriblaw03.StripeParity': WHATEVER THE INPUT: true; the input reads as it did. -/
def stripeParitySpec : ChangeSpec := { name := "stripeParity", fn := fun _ => fun
  | [d1, d2, d3] => { results := [.lit (.bool true)], args := [d1, d2, d3] }
  | _ => none }
def stripeParityRow : OpenClaim := { program := "ytmnciipfepeccaa", sum := "bd2de8fd77a98dbcc0eb288101655b89ccc4d7f5606ff5013a57b904abf8111b", func := "corncrib/corncriblaw03.StripeParity", spec := "stripeParity", unfollowed := true, recurses := true, apart := false }
def StripeParitySaid : Prop := stripeParityRow.holds Try.pinned (OpenSpec.ofChange stripeParitySpec)

/-- ITS FALSE NEIGHBOUR: 'it returns false'. Refute it at one input. -/
def stripeParityWrong : ChangeSpec := { name := "stripeParity", fn := fun _ => fun
  | [d1, d2, d3] => { results := [.lit (.bool false)], args := [d1, d2, d3] }
  | _ => none }
def StripeParityWrongFalsely : Prop := stripeParityRow.holds Try.pinned (OpenSpec.ofChange stripeParityWrong)

/-- 'corncriblaw03.StripeBack': WHATEVER THE INPUT: true; the input reads as it did. -/
def stripeBackSpec : ChangeSpec := { name := "stripeBack", fn := fun _ => fun
  | [d1, d2] => { results := [.lit (.bool true)], args := [d1, d2] }
  | _ => none }
def stripeBackRow : OpenClaim := { program := "ytmnciipfepeccaa", sum := "bd2de8fd77a98dbcc0eb288101655b89ccc4d7f5606ff5013a57b904abf8111b", func := "corncrib/corncriblaw03.StripeBack", spec := "stripeBack", unfollowed := true, recurses := true, apart := false }
def StripeBackSaid : Prop := stripeBackRow.holds Try.pinned (OpenSpec.ofChange stripeBackSpec)

/-- ITS FALSE NEIGHBOUR: 'it returns false'. Refute it at one input. -/
def stripeBackWrong : ChangeSpec := { name := "stripeBack", fn := fun _ => fun
  | [d1, d2] => { results := [.lit (.bool false)], args := [d1, d2] }
  | _ => none }
def StripeBackWrongFalsely : Prop := stripeBackRow.holds Try.pinned (OpenSpec.ofChange stripeBackWrong)

/-- 'corncriblaw03.StripeLinear': WHATEVER THE INPUT: true; the input reads as it did. -/
def stripeLinearSpec : ChangeSpec := { name := "stripeLinear", fn := fun _ => fun
  | [d1, d2, d3] => { results := [.lit (.bool true)], args := [d1, d2, d3] }
  | _ => none }
def stripeLinearRow : OpenClaim := { program := "ytmnciipfepeccaa", sum := "bd2de8fd77a98dbcc0eb288101655b89ccc4d7f5606ff5013a57b904abf8111b", func := "corncrib/corncriblaw03.StripeLinear", spec := "stripeLinear", unfollowed := true, recurses := true, apart := false }
def StripeLinearSaid : Prop := stripeLinearRow.holds Try.pinned (OpenSpec.ofChange stripeLinearSpec)

/-- ITS FALSE NEIGHBOUR: 'it returns false'. Refute it at one input. -/
def stripeLinearWrong : ChangeSpec := { name := "stripeLinear", fn := fun _ => fun
  | [d1, d2, d3] => { results := [.lit (.bool false)], args := [d1, d2, d3] }
  | _ => none }
def StripeLinearWrongFalsely : Prop := stripeLinearRow.holds Try.pinned (OpenSpec.ofChange stripeLinearWrong)

/-- 'corncriblaw03.StripeSizes': WHATEVER THE INPUT: true; the input reads as it did. -/
def stripeSizesSpec : ChangeSpec := { name := "stripeSizes", fn := fun _ => fun
  | [d1, d2] => { results := [.lit (.bool true)], args := [d1, d2] }
  | _ => none }
def stripeSizesRow : OpenClaim := { program := "ytmnciipfepeccaa", sum := "bd2de8fd77a98dbcc0eb288101655b89ccc4d7f5606ff5013a57b904abf8111b", func := "corncrib/corncriblaw03.StripeSizes", spec := "stripeSizes", unfollowed := true, recurses := true, apart := false }
def StripeSizesSaid : Prop := stripeSizesRow.holds Try.pinned (OpenSpec.ofChange stripeSizesSpec)

/-- ITS FALSE NEIGHBOUR: 'it returns false'. Refute it at one input. -/
def stripeSizesWrong : ChangeSpec := { name := "stripeSizes", fn := fun _ => fun
  | [d1, d2] => { results := [.lit (.bool false)], args := [d1, d2] }
  | _ => none }
def StripeSizesWrongFalsely : Prop := stripeSizesRow.holds Try.pinned (OpenSpec.ofChange stripeSizesWrong)

/- THE SECOND FORM. 'bulk': how many values and letters a reading holds, each counted each time it is reached (what is shared counts as often as it is met; a slice's spare places count too). A statement '..UptoSaid' is the law's where the arguments, and the package variables that the reading takes, are together of bulk at most 1048576: NARROWER than '..Said'. Prove '..Said' where nothing that the law and all that it calls make is longer than what came in: it says more and counts as full. Else prove '..UptoSaid'. A law counts once. -/
mutual
def uptoBulk {H : Type} : DataW H → Nat
  | .lit (.string bytes) => bytes.length + 1
  | .lit _ => 1
  | .nil => 1
  | .ptr d => uptoBulk d + 1
  | .slice elems spare => uptoBulkAll elems + uptoBulkAll spare + 1
  | .agg parts => uptoBulkAll parts + 1
  | .iface _ d => uptoBulk d + 1
  | .map entries => uptoBulkEntries entries + 1
  | .held _ => 1
def uptoBulkAll {H : Type} : List (DataW H) → Nat
  | [] => 0
  | d :: r => uptoBulk d + uptoBulkAll r
def uptoBulkEntries {H : Type} : List (Lit × DataW H) → Nat
  | [] => 0
  | x :: r => uptoBulkEntry x + uptoBulkEntries r
def uptoBulkEntry {H : Type} : Lit × DataW H → Nat
  | (.string bytes, d) => bytes.length + uptoBulk d + 1
  | (_, d) => uptoBulk d + 1
 end
def uptoSmall : (H : Type) → List (DataW H) → Bool := fun _ ds => decide (uptoBulkAll ds ≤ 1048576)
def OpenSpec.upto (s : _root_.Go.ChangeSpec) : _root_.Go.OpenSpec := { _root_.Go.OpenSpec.ofChange s with cond := some uptoSmall }

/-- 'corncriblaw02.MatrixRing', WHERE WHAT IT READS IS OF BULK AT MOST 1048576: true; the input reads as it did. -/
def matrixRingUptoRow : OpenClaim := { program := "ytmnciipfepeccaa", sum := "bd2de8fd77a98dbcc0eb288101655b89ccc4d7f5606ff5013a57b904abf8111b", func := "corncrib/corncriblaw02.MatrixRing", spec := "matrixRing", unfollowed := true, recurses := true, apart := false, narrowed := true }
def MatrixRingUptoSaid : Prop := matrixRingUptoRow.holds Try.pinned (OpenSpec.upto matrixRingSpec)

/-- 'corncriblaw02.MatrixRows', WHERE WHAT IT READS IS OF BULK AT MOST 1048576: true; the input reads as it did. -/
def matrixRowsUptoRow : OpenClaim := { program := "ytmnciipfepeccaa", sum := "bd2de8fd77a98dbcc0eb288101655b89ccc4d7f5606ff5013a57b904abf8111b", func := "corncrib/corncriblaw02.MatrixRows", spec := "matrixRows", unfollowed := true, recurses := true, apart := false, narrowed := true }
def MatrixRowsUptoSaid : Prop := matrixRowsUptoRow.holds Try.pinned (OpenSpec.upto matrixRowsSpec)

/-- 'corncriblaw03.StripeSplits', WHERE WHAT IT READS IS OF BULK AT MOST 1048576: true; the input reads as it did. -/
def stripeSplitsUptoRow : OpenClaim := { program := "ytmnciipfepeccaa", sum := "bd2de8fd77a98dbcc0eb288101655b89ccc4d7f5606ff5013a57b904abf8111b", func := "corncrib/corncriblaw03.StripeSplits", spec := "stripeSplits", unfollowed := true, recurses := true, apart := false, narrowed := true }
def StripeSplitsUptoSaid : Prop := stripeSplitsUptoRow.holds Try.pinned (OpenSpec.upto stripeSplitsSpec)

/-- 'corncriblaw03.StripeJoins', WHERE WHAT IT READS IS OF BULK AT MOST 1048576: true; the input reads as it did. -/
def stripeJoinsUptoRow : OpenClaim := { program := "ytmnciipfepeccaa", sum := "bd2de8fd77a98dbcc0eb288101655b89ccc4d7f5606ff5013a57b904abf8111b", func := "corncrib/corncriblaw03.StripeJoins", spec := "stripeJoins", unfollowed := true, recurses := true, apart := false, narrowed := true }
def StripeJoinsUptoSaid : Prop := stripeJoinsUptoRow.holds Try.pinned (OpenSpec.upto stripeJoinsSpec)

/-- 'corncriblaw03.StripeCodes', WHERE WHAT IT READS IS OF BULK AT MOST 1048576: true; the input reads as it did. -/
def stripeCodesUptoRow : OpenClaim := { program := "ytmnciipfepeccaa", sum := "bd2de8fd77a98dbcc0eb288101655b89ccc4d7f5606ff5013a57b904abf8111b", func := "corncrib/corncriblaw03.StripeCodes", spec := "stripeCodes", unfollowed := true, recurses := true, apart := false, narrowed := true }
def StripeCodesUptoSaid : Prop := stripeCodesUptoRow.holds Try.pinned (OpenSpec.upto stripeCodesSpec)

/-- 'corncriblaw03.StripeParity', WHERE WHAT IT READS IS OF BULK AT MOST 1048576: true; the input reads as it did. -/
def stripeParityUptoRow : OpenClaim := { program := "ytmnciipfepeccaa", sum := "bd2de8fd77a98dbcc0eb288101655b89ccc4d7f5606ff5013a57b904abf8111b", func := "corncrib/corncriblaw03.StripeParity", spec := "stripeParity", unfollowed := true, recurses := true, apart := false, narrowed := true }
def StripeParityUptoSaid : Prop := stripeParityUptoRow.holds Try.pinned (OpenSpec.upto stripeParitySpec)

/-- 'corncriblaw03.StripeBack', WHERE WHAT IT READS IS OF BULK AT MOST 1048576: true; the input reads as it did. -/
def stripeBackUptoRow : OpenClaim := { program := "ytmnciipfepeccaa", sum := "bd2de8fd77a98dbcc0eb288101655b89ccc4d7f5606ff5013a57b904abf8111b", func := "corncrib/corncriblaw03.StripeBack", spec := "stripeBack", unfollowed := true, recurses := true, apart := false, narrowed := true }
def StripeBackUptoSaid : Prop := stripeBackUptoRow.holds Try.pinned (OpenSpec.upto stripeBackSpec)

/-- 'corncriblaw03.StripeLinear', WHERE WHAT IT READS IS OF BULK AT MOST 1048576: true; the input reads as it did. -/
def stripeLinearUptoRow : OpenClaim := { program := "ytmnciipfepeccaa", sum := "bd2de8fd77a98dbcc0eb288101655b89ccc4d7f5606ff5013a57b904abf8111b", func := "corncrib/corncriblaw03.StripeLinear", spec := "stripeLinear", unfollowed := true, recurses := true, apart := false, narrowed := true }
def StripeLinearUptoSaid : Prop := stripeLinearUptoRow.holds Try.pinned (OpenSpec.upto stripeLinearSpec)

/-- 'corncriblaw03.StripeSizes', WHERE WHAT IT READS IS OF BULK AT MOST 1048576: true; the input reads as it did. -/
def stripeSizesUptoRow : OpenClaim := { program := "ytmnciipfepeccaa", sum := "bd2de8fd77a98dbcc0eb288101655b89ccc4d7f5606ff5013a57b904abf8111b", func := "corncrib/corncriblaw03.StripeSizes", spec := "stripeSizes", unfollowed := true, recurses := true, apart := false, narrowed := true }
def StripeSizesUptoSaid : Prop := stripeSizesUptoRow.holds Try.pinned (OpenSpec.upto stripeSizesSpec)

end Rows
end Go.Proofs.Ytmnciipfepeccaa
