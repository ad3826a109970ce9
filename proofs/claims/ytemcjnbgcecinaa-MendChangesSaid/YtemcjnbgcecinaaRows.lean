/-
  No cell of these rows narrows 'for every input' (looked for: loops, veiled, ifaces, maps, wideKeys, modest, calm, conditions, laid).
  DERIVED. THE GIVEN ROWS OF THIS SEAT. 6 by the template 'for every input the law returns true; each argument reads behind the call as it read before'; 0 by the template 'total and deterministic' (their statements: YtemcjnbgcecinaaTotals.lean).
  GIVEN WITH THE SEED: the statements are not yours to turn. If you find one false, say at which input.
  Laid BY PROGRAM, IN A SANDBOX (cutbox-rows.mjs): the forced cells as the released guide's own fill.sh prints them over the translation f8cb9109d92c876b… (all of the seat's roots in one cut). By AI agents, Wed Nov 11 2026. No macro, syntax, notation, axiom, sorry.
-/
import Derived.Test.YtemcjnbgcecinaaChecked
import GoSem.Claim
import GoSem.ClaimJoined
import GoSem.ClaimMapViews
import Derived.JoinedTies
import Derived.KernelRfl
namespace Go.Proofs.Ytemcjnbgcecinaa
/- THE CELL 'sum', in the pinned program and in every row, IS THE sha256 OF THE DUMP (.gsa) THAT YtemcjnbgcecinaaProg.lean LOADS. Nothing in Lean hashes anything: it is a label: what it is worth is what the hold of that sum in a sandbox is worth. -/
noncomputable def Try.pinned : Pinned := { name := "ytemcjnbgcecinaa", sum := "f8cb9109d92c876b73d2d05cc4994d38dd4ccf3a28253ce510f3a719c61314c4", checked := Try.checked }
namespace Rows
def none {H : Type} : Left H := { results := [], args := [] }

/-- 'corncriblaw04.MendChecks': WHATEVER THE INPUT: true; the input reads as it did. -/
def mendChecksSpec : ChangeSpec := { name := "mendChecks", fn := fun _ => fun
  | [d1, d2, d3] => { results := [.lit (.bool true)], args := [d1, d2, d3] }
  | _ => none }
def mendChecksRow : OpenClaim := { program := "ytemcjnbgcecinaa", sum := "f8cb9109d92c876b73d2d05cc4994d38dd4ccf3a28253ce510f3a719c61314c4", func := "corncrib/corncriblaw04.MendChecks", spec := "mendChecks", unfollowed := true, recurses := true, apart := false }
def MendChecksSaid : Prop := mendChecksRow.holds Try.pinned (OpenSpec.ofChange mendChecksSpec)

/-- ITS FALSE NEIGHBOUR: 'it returns false'. Refute it at one input. -/
def mendChecksWrong : ChangeSpec := { name := "mendChecks", fn := fun _ => fun
  | [d1, d2, d3] => { results := [.lit (.bool false)], args := [d1, d2, d3] }
  | _ => none }
def MendChecksWrongFalsely : Prop := mendChecksRow.holds Try.pinned (OpenSpec.ofChange mendChecksWrong)

/-- 'corncriblaw04.MendMakes': WHATEVER THE INPUT: true; the input reads as it did. -/
def mendMakesSpec : ChangeSpec := { name := "mendMakes", fn := fun _ => fun
  | [d1, d2] => { results := [.lit (.bool true)], args := [d1, d2] }
  | _ => none }
def mendMakesRow : OpenClaim := { program := "ytemcjnbgcecinaa", sum := "f8cb9109d92c876b73d2d05cc4994d38dd4ccf3a28253ce510f3a719c61314c4", func := "corncrib/corncriblaw04.MendMakes", spec := "mendMakes", unfollowed := true, recurses := true, apart := false }
def MendMakesSaid : Prop := mendMakesRow.holds Try.pinned (OpenSpec.ofChange mendMakesSpec)

/-- ITS FALSE NEIGHBOUR: 'it returns false'. Refute it at one input. -/
def mendMakesWrong : ChangeSpec := { name := "mendMakes", fn := fun _ => fun
  | [d1, d2] => { results := [.lit (.bool false)], args := [d1, d2] }
  | _ => none }
def MendMakesWrongFalsely : Prop := mendMakesRow.holds Try.pinned (OpenSpec.ofChange mendMakesWrong)

/-- 'corncriblaw04.MendOnes': WHATEVER THE INPUT: true; the input reads as it did. -/
def mendOnesSpec : ChangeSpec := { name := "mendOnes", fn := fun _ => fun
  | [d1, d2, d3] => { results := [.lit (.bool true)], args := [d1, d2, d3] }
  | _ => none }
def mendOnesRow : OpenClaim := { program := "ytemcjnbgcecinaa", sum := "f8cb9109d92c876b73d2d05cc4994d38dd4ccf3a28253ce510f3a719c61314c4", func := "corncrib/corncriblaw04.MendOnes", spec := "mendOnes", unfollowed := true, recurses := true, apart := false }
def MendOnesSaid : Prop := mendOnesRow.holds Try.pinned (OpenSpec.ofChange mendOnesSpec)

/-- ITS FALSE NEIGHBOUR: 'it returns false'. Refute it at one input. -/
def mendOnesWrong : ChangeSpec := { name := "mendOnes", fn := fun _ => fun
  | [d1, d2, d3] => { results := [.lit (.bool false)], args := [d1, d2, d3] }
  | _ => none }
def MendOnesWrongFalsely : Prop := mendOnesRow.holds Try.pinned (OpenSpec.ofChange mendOnesWrong)

/-- 'corncriblaw04.MendAny': WHATEVER THE INPUT: true; the input reads as it did. -/
def mendAnySpec : ChangeSpec := { name := "mendAny", fn := fun _ => fun
  | [d1, d2, d3] => { results := [.lit (.bool true)], args := [d1, d2, d3] }
  | _ => none }
def mendAnyRow : OpenClaim := { program := "ytemcjnbgcecinaa", sum := "f8cb9109d92c876b73d2d05cc4994d38dd4ccf3a28253ce510f3a719c61314c4", func := "corncrib/corncriblaw04.MendAny", spec := "mendAny", unfollowed := true, recurses := true, apart := false }
def MendAnySaid : Prop := mendAnyRow.holds Try.pinned (OpenSpec.ofChange mendAnySpec)

/-- ITS FALSE NEIGHBOUR: 'it returns false'. Refute it at one input. -/
def mendAnyWrong : ChangeSpec := { name := "mendAny", fn := fun _ => fun
  | [d1, d2, d3] => { results := [.lit (.bool false)], args := [d1, d2, d3] }
  | _ => none }
def MendAnyWrongFalsely : Prop := mendAnyRow.holds Try.pinned (OpenSpec.ofChange mendAnyWrong)

/-- 'corncriblaw04.MendTurned': WHATEVER THE INPUT: true; the input reads as it did. -/
def mendTurnedSpec : ChangeSpec := { name := "mendTurned", fn := fun _ => fun
  | [d1, d2, d3] => { results := [.lit (.bool true)], args := [d1, d2, d3] }
  | _ => none }
def mendTurnedRow : OpenClaim := { program := "ytemcjnbgcecinaa", sum := "f8cb9109d92c876b73d2d05cc4994d38dd4ccf3a28253ce510f3a719c61314c4", func := "corncrib/corncriblaw04.MendTurned", spec := "mendTurned", unfollowed := true, recurses := true, apart := false }
def MendTurnedSaid : Prop := mendTurnedRow.holds Try.pinned (OpenSpec.ofChange mendTurnedSpec)

/-- ITS FALSE NEIGHBOUR: 'it returns false'. Refute it at one input. -/
def mendTurnedWrong : ChangeSpec := { name := "mendTurned", fn := fun _ => fun
  | [d1, d2, d3] => { results := [.lit (.bool false)], args := [d1, d2, d3] }
  | _ => none }
def MendTurnedWrongFalsely : Prop := mendTurnedRow.holds Try.pinned (OpenSpec.ofChange mendTurnedWrong)

/-- 'corncriblaw04.MendChanges': WHATEVER THE INPUT: true; the input reads as it did. -/
def mendChangesSpec : ChangeSpec := { name := "mendChanges", fn := fun _ => fun
  | [d1, d2, d3] => { results := [.lit (.bool true)], args := [d1, d2, d3] }
  | _ => none }
def mendChangesRow : OpenClaim := { program := "ytemcjnbgcecinaa", sum := "f8cb9109d92c876b73d2d05cc4994d38dd4ccf3a28253ce510f3a719c61314c4", func := "corncrib/corncriblaw04.MendChanges", spec := "mendChanges", unfollowed := true, recurses := true, apart := false }
def MendChangesSaid : Prop := mendChangesRow.holds Try.pinned (OpenSpec.ofChange mendChangesSpec)

/-- ITS FALSE NEIGHBOUR: 'it returns false'. Refute it at one input. -/
def mendChangesWrong : ChangeSpec := { name := "mendChanges", fn := fun _ => fun
  | [d1, d2, d3] => { results := [.lit (.bool false)], args := [d1, d2, d3] }
  | _ => none }
def MendChangesWrongFalsely : Prop := mendChangesRow.holds Try.pinned (OpenSpec.ofChange mendChangesWrong)

/- THE SECOND FORM. 'bulk': how many values and letters a reading holds, each counted each time it is reached (what is shared counts as often as it is met; a slice's spare places count too). A statement '..UptoSaid' is the law's where the arguments, and the package variables that the reading takes, are together of bulk at most 1048576: NARROWER than '..Said'. Prove '..Said' where nothing that the law and all that it calls make is longer than what came in: it says more and counts as full. Else prove '..UptoSaid'. A law counts once. -/
mutual
def uptoBulk {H : Type} : DataW H → Nat
  | .lit (.string bytes) => bytes.length + 1
  | .lit _ => 1
  | .nil => 1
  | .ptr d => uptoBulk d + 1
  | .slice elems spare => uptoBulkAll elems + uptoBulkAll spare + 1
  | .agg parts => uptoBulkAll parts + 1
  | .iface _ d => uptoBulk d + 1
  | .map entries => uptoBulkEntries entries + 1
  | .held _ => 1
def uptoBulkAll {H : Type} : List (DataW H) → Nat
  | [] => 0
  | d :: r => uptoBulk d + uptoBulkAll r
def uptoBulkEntries {H : Type} : List (Lit × DataW H) → Nat
  | [] => 0
  | x :: r => uptoBulkEntry x + uptoBulkEntries r
def uptoBulkEntry {H : Type} : Lit × DataW H → Nat
  | (.string bytes, d) => bytes.length + uptoBulk d + 1
  | (_, d) => uptoBulk d + 1
 end
def uptoSmall : (H : Type) → List (DataW H) → Bool := fun _ ds => decide (uptoBulkAll ds ≤ 1048576)
def OpenSpec.upto (s : _root_.Go.ChangeSpec) : _root_.Go.OpenSpec := { _root_.Go.OpenSpec.ofChange s with cond := some uptoSmall }

/-- 'corncriblaw04.MendChecks', WHERE WHAT IT READS IS OF BULK AT MOST 1048576: true; the input reads as it did. -/
def mendChecksUptoRow : OpenClaim := { program := "ytemcjnbgcecinaa", sum := "f8cb9109d92c876b73d2d05cc4994d38dd4ccf3a28253ce510f3a719c61314c4", func := "corncrib/corncriblaw04.MendChecks", spec := "mendChecks", unfollowed := true, recurses := true, apart := false, narrowed := true }
def MendChecksUptoSaid : Prop := mendChecksUptoRow.holds Try.pinned (OpenSpec.upto mendChecksSpec)

/-- 'corncriblaw04.MendMakes', WHERE WHAT IT READS IS OF BULK AT MOST 1048576: true; the input reads as it did. -/
def mendMakesUptoRow : OpenClaim := { program := "ytemcjnbgcecinaa", sum := "f8cb9109d92c876b73d2d05cc4994d38dd4ccf3a28253ce510f3a719c61314c4", func := "corncrib/corncriblaw04.MendMakes", spec := "mendMakes", unfollowed := true, recurses := true, apart := false, narrowed := true }
def MendMakesUptoSaid : Prop := mendMakesUptoRow.holds Try.pinned (OpenSpec.upto mendMakesSpec)

/-- 'corncriblaw04.MendOnes', WHERE WHAT IT READS IS OF BULK AT MOST 1048576: true; the input reads as it did. -/
def mendOnesUptoRow : OpenClaim := { program := "ytemcjnbgcecinaa", sum := "f8cb9109d92c876b73d2d05cc4994d38dd4ccf3a28253ce510f3a719c61314c4", func := "corncrib/corncriblaw04.MendOnes", spec := "mendOnes", unfollowed := true, recurses := true, apart := false, narrowed := true }
def MendOnesUptoSaid : Prop := mendOnesUptoRow.holds Try.pinned (OpenSpec.upto mendOnesSpec)

/-- 'corncriblaw04.MendAny', WHERE WHAT IT READS IS OF BULK AT MOST 1048576: true; the input reads as it did. -/
def mendAnyUptoRow : OpenClaim := { program := "ytemcjnbgcecinaa", sum := "f8cb9109d92c876b73d2d05cc4994d38dd4ccf3a28253ce510f3a719c61314c4", func := "corncrib/corncriblaw04.MendAny", spec := "mendAny", unfollowed := true, recurses := true, apart := false, narrowed := true }
def MendAnyUptoSaid : Prop := mendAnyUptoRow.holds Try.pinned (OpenSpec.upto mendAnySpec)

/-- 'corncriblaw04.MendTurned', WHERE WHAT IT READS IS OF BULK AT MOST 1048576: true; the input reads as it did. -/
def mendTurnedUptoRow : OpenClaim := { program := "ytemcjnbgcecinaa", sum := "f8cb9109d92c876b73d2d05cc4994d38dd4ccf3a28253ce510f3a719c61314c4", func := "corncrib/corncriblaw04.MendTurned", spec := "mendTurned", unfollowed := true, recurses := true, apart := false, narrowed := true }
def MendTurnedUptoSaid : Prop := mendTurnedUptoRow.holds Try.pinned (OpenSpec.upto mendTurnedSpec)

/-- 'corncriblaw04.MendChanges', WHERE WHAT IT READS IS OF BULK AT MOST 1048576: true; the input reads as it did. -/
def mendChangesUptoRow : OpenClaim := { program := "ytemcjnbgcecinaa", sum := "f8cb9109d92c876b73d2d05cc4994d38dd4ccf3a28253ce510f3a719c61314c4", func := "corncrib/corncriblaw04.MendChanges", spec := "mendChanges", unfollowed := true, recurses := true, apart := false, narrowed := true }
def MendChangesUptoSaid : Prop := mendChangesUptoRow.holds Try.pinned (OpenSpec.upto mendChangesSpec)

end Rows
end Go.Proofs.Ytemcjnbgcecinaa
