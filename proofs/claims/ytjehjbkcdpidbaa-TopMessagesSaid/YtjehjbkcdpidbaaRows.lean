/-
  No cell of these rows narrows 'for every input' (looked for: loops, veiled, ifaces, maps, wideKeys, modest, calm, conditions, laid).
  DERIVED. THE GIVEN ROWS OF THIS SEAT. 4 by the template 'for every input the law returns true; each argument reads behind the call as it read before'; 0 by the template 'total and deterministic' (their statements: YtjehjbkcdpidbaaTotals.lean).
  GIVEN WITH THE SEED: the statements are not yours to turn. If you find one false, say at which input.
  Laid BY PROGRAM, IN A SANDBOX (cutbox-rows.mjs): the forced cells as the released guide's own fill.sh prints them over the translation 9a340409732e8dd6… (all of the seat's roots in one cut). By AI agents, Wed Nov 11 2026. No macro, syntax, notation, axiom, sorry.
-/
import Derived.Test.YtjehjbkcdpidbaaChecked
import GoSem.Claim
import GoSem.ClaimJoined
import GoSem.ClaimMapViews
import Derived.JoinedTies
import Derived.KernelRfl
namespace Go.Proofs.Ytjehjbkcdpidbaa
/- THE CELL 'sum', in the pinned program and in every row, IS THE sha256 OF THE DUMP (.gsa) THAT YtjehjbkcdpidbaaProg.lean LOADS. Nothing in Lean hashes anything: it is a label: what it is worth is what the hold of that sum in a sandbox is worth. -/
noncomputable def Try.pinned : Pinned := { name := "ytjehjbkcdpidbaa", sum := "9a340409732e8dd61608fa0ae960289c5bd761572a52bc4e74b01e662a0620e0", checked := Try.checked }
namespace Rows
def none {H : Type} : Left H := { results := [], args := [] }

/-- 'corncriblaw10.RedoFresh': WHATEVER THE INPUT: true; the input reads as it did. -/
def redoFreshSpec : ChangeSpec := { name := "redoFresh", fn := fun _ => fun
  | [d1, d2] => { results := [.lit (.bool true)], args := [d1, d2] }
  | _ => none }
def redoFreshRow : OpenClaim := { program := "ytjehjbkcdpidbaa", sum := "9a340409732e8dd61608fa0ae960289c5bd761572a52bc4e74b01e662a0620e0", func := "corncrib/corncriblaw10.RedoFresh", spec := "redoFresh", inPlace := ["internal/abi.NoEscape", "internal/bytealg.MakeNoZero"], unfollowed := true, recurses := true, apart := false }
def RedoFreshSaid : Prop := redoFreshRow.holds Try.pinned (OpenSpec.ofChange redoFreshSpec)

/-- ITS FALSE NEIGHBOUR: 'it returns false'. Refute it at one input. -/
def redoFreshWrong : ChangeSpec := { name := "redoFresh", fn := fun _ => fun
  | [d1, d2] => { results := [.lit (.bool false)], args := [d1, d2] }
  | _ => none }
def RedoFreshWrongFalsely : Prop := redoFreshRow.holds Try.pinned (OpenSpec.ofChange redoFreshWrong)

/-- 'corncriblaw10.RedoRoom': WHATEVER THE INPUT: true; the input reads as it did. -/
def redoRoomSpec : ChangeSpec := { name := "redoRoom", fn := fun _ => fun
  | [d] => { results := [.lit (.bool true)], args := [d] }
  | _ => none }
def redoRoomRow : OpenClaim := { program := "ytjehjbkcdpidbaa", sum := "9a340409732e8dd61608fa0ae960289c5bd761572a52bc4e74b01e662a0620e0", func := "corncrib/corncriblaw10.RedoRoom", spec := "redoRoom", inPlace := ["internal/abi.NoEscape", "internal/bytealg.MakeNoZero"], unfollowed := true, recurses := true, apart := false }
def RedoRoomSaid : Prop := redoRoomRow.holds Try.pinned (OpenSpec.ofChange redoRoomSpec)

/-- ITS FALSE NEIGHBOUR: 'it returns false'. Refute it at one input. -/
def redoRoomWrong : ChangeSpec := { name := "redoRoom", fn := fun _ => fun
  | [d] => { results := [.lit (.bool false)], args := [d] }
  | _ => none }
def RedoRoomWrongFalsely : Prop := redoRoomRow.holds Try.pinned (OpenSpec.ofChange redoRoomWrong)

/-- 'corncriblaw10.RedoRestarts': WHATEVER THE INPUT: true; the input reads as it did. -/
def redoRestartsSpec : ChangeSpec := { name := "redoRestarts", fn := fun _ => fun
  | [d1, d2] => { results := [.lit (.bool true)], args := [d1, d2] }
  | _ => none }
def redoRestartsRow : OpenClaim := { program := "ytjehjbkcdpidbaa", sum := "9a340409732e8dd61608fa0ae960289c5bd761572a52bc4e74b01e662a0620e0", func := "corncrib/corncriblaw10.RedoRestarts", spec := "redoRestarts", inPlace := ["internal/abi.NoEscape", "internal/bytealg.MakeNoZero"], unfollowed := true, recurses := true, apart := false }
def RedoRestartsSaid : Prop := redoRestartsRow.holds Try.pinned (OpenSpec.ofChange redoRestartsSpec)

/-- ITS FALSE NEIGHBOUR: 'it returns false'. Refute it at one input. -/
def redoRestartsWrong : ChangeSpec := { name := "redoRestarts", fn := fun _ => fun
  | [d1, d2] => { results := [.lit (.bool false)], args := [d1, d2] }
  | _ => none }
def RedoRestartsWrongFalsely : Prop := redoRestartsRow.holds Try.pinned (OpenSpec.ofChange redoRestartsWrong)

/-- 'corncribtop.TopMessages': WHATEVER THE INPUT: true; the input reads as it did. -/
def topMessagesSpec : ChangeSpec := { name := "topMessages", fn := fun _ => fun
  | [d1, d2] => { results := [.lit (.bool true)], args := [d1, d2] }
  | _ => none }
def topMessagesRow : OpenClaim := { program := "ytjehjbkcdpidbaa", sum := "9a340409732e8dd61608fa0ae960289c5bd761572a52bc4e74b01e662a0620e0", func := "corncrib/corncribtop.TopMessages", spec := "topMessages", inPlace := ["internal/abi.NoEscape", "internal/bytealg.MakeNoZero"], unfollowed := true, recurses := true, apart := false }
def TopMessagesSaid : Prop := topMessagesRow.holds Try.pinned (OpenSpec.ofChange topMessagesSpec)

/-- ITS FALSE NEIGHBOUR: 'it returns false'. Refute it at one input. -/
def topMessagesWrong : ChangeSpec := { name := "topMessages", fn := fun _ => fun
  | [d1, d2] => { results := [.lit (.bool false)], args := [d1, d2] }
  | _ => none }
def TopMessagesWrongFalsely : Prop := topMessagesRow.holds Try.pinned (OpenSpec.ofChange topMessagesWrong)

/- THE SECOND FORM. 'bulk': how many values and letters a reading holds, each counted each time it is reached (what is shared counts as often as it is met; a slice's spare places count too). A statement '..UptoSaid' is the law's where the arguments, and the package variables that the reading takes, are together of bulk at most 1048576: NARROWER than '..Said'. Prove '..Said' where nothing that the law and all that it calls make is longer than what came in: it says more and counts as full. Else prove '..UptoSaid'. A law counts once. -/
mutual
def uptoBulk {H : Type} : DataW H → Nat
  | .lit (.string bytes) => bytes.length + 1
  | .lit _ => 1
  | .nil => 1
  | .ptr d => uptoBulk d + 1
  | .slice elems spare => uptoBulkAll elems + uptoBulkAll spare + 1
  | .agg parts => uptoBulkAll parts + 1
  | .iface _ d => uptoBulk d + 1
  | .map entries => uptoBulkEntries entries + 1
  | .held _ => 1
def uptoBulkAll {H : Type} : List (DataW H) → Nat
  | [] => 0
  | d :: r => uptoBulk d + uptoBulkAll r
def uptoBulkEntries {H : Type} : List (Lit × DataW H) → Nat
  | [] => 0
  | x :: r => uptoBulkEntry x + uptoBulkEntries r
def uptoBulkEntry {H : Type} : Lit × DataW H → Nat
  | (.string bytes, d) => bytes.length + uptoBulk d + 1
  | (_, d) => uptoBulk d + 1
 end
def uptoSmall : (H : Type) → List (DataW H) → Bool := fun _ ds => decide (uptoBulkAll ds ≤ 1048576)
def OpenSpec.upto (s : _root_.Go.ChangeSpec) : _root_.Go.OpenSpec := { _root_.Go.OpenSpec.ofChange s with cond := some uptoSmall }

/-- 'corncriblaw10.RedoFresh', WHERE WHAT IT READS IS OF BULK AT MOST 1048576: true; the input reads as it did. -/
def redoFreshUptoRow : OpenClaim := { program := "ytjehjbkcdpidbaa", sum := "9a340409732e8dd61608fa0ae960289c5bd761572a52bc4e74b01e662a0620e0", func := "corncrib/corncriblaw10.RedoFresh", spec := "redoFresh", inPlace := ["internal/abi.NoEscape", "internal/bytealg.MakeNoZero"], unfollowed := true, recurses := true, apart := false, narrowed := true }
def RedoFreshUptoSaid : Prop := redoFreshUptoRow.holds Try.pinned (OpenSpec.upto redoFreshSpec)

/-- 'corncriblaw10.RedoRoom', WHERE WHAT IT READS IS OF BULK AT MOST 1048576: true; the input reads as it did. -/
def redoRoomUptoRow : OpenClaim := { program := "ytjehjbkcdpidbaa", sum := "9a340409732e8dd61608fa0ae960289c5bd761572a52bc4e74b01e662a0620e0", func := "corncrib/corncriblaw10.RedoRoom", spec := "redoRoom", inPlace := ["internal/abi.NoEscape", "internal/bytealg.MakeNoZero"], unfollowed := true, recurses := true, apart := false, narrowed := true }
def RedoRoomUptoSaid : Prop := redoRoomUptoRow.holds Try.pinned (OpenSpec.upto redoRoomSpec)

/-- 'corncriblaw10.RedoRestarts', WHERE WHAT IT READS IS OF BULK AT MOST 1048576: true; the input reads as it did. -/
def redoRestartsUptoRow : OpenClaim := { program := "ytjehjbkcdpidbaa", sum := "9a340409732e8dd61608fa0ae960289c5bd761572a52bc4e74b01e662a0620e0", func := "corncrib/corncriblaw10.RedoRestarts", spec := "redoRestarts", inPlace := ["internal/abi.NoEscape", "internal/bytealg.MakeNoZero"], unfollowed := true, recurses := true, apart := false, narrowed := true }
def RedoRestartsUptoSaid : Prop := redoRestartsUptoRow.holds Try.pinned (OpenSpec.upto redoRestartsSpec)

/-- 'corncribtop.TopMessages', WHERE WHAT IT READS IS OF BULK AT MOST 1048576: true; the input reads as it did. -/
def topMessagesUptoRow : OpenClaim := { program := "ytjehjbkcdpidbaa", sum := "9a340409732e8dd61608fa0ae960289c5bd761572a52bc4e74b01e662a0620e0", func := "corncrib/corncribtop.TopMessages", spec := "topMessages", inPlace := ["internal/abi.NoEscape", "internal/bytealg.MakeNoZero"], unfollowed := true, recurses := true, apart := false, narrowed := true }
def TopMessagesUptoSaid : Prop := topMessagesUptoRow.holds Try.pinned (OpenSpec.upto topMessagesSpec)

end Rows
end Go.Proofs.Ytjehjbkcdpidbaa
