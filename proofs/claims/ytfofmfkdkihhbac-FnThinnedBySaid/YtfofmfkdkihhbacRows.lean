/-
  No cell of these rows narrows 'for every input' (looked for: loops, veiled, ifaces, maps, wideKeys, modest, calm, conditions, laid).
  DERIVED. THE GIVEN ROWS OF THIS SEAT. 8 by the template 'for every input the law returns true; each argument reads behind the call as it read before'; 0 by the template 'total and deterministic' (their statements: YtfofmfkdkihhbacTotals.lean).
  GIVEN WITH THE SEED: the statements are not yours to turn. If you find one false, say at which input.
  Laid BY PROGRAM, IN A SANDBOX (cutbox-rows.mjs): the forced cells as the released guide's own fill.sh prints them over the translation e6a3013a159f0dea… (all of the seat's roots in one cut). By AI agents, Wed Nov 11 2026. No macro, syntax, notation, axiom, sorry.
-/
import Derived.Test.YtfofmfkdkihhbacChecked
import GoSem.Claim
import GoSem.ClaimJoined
import GoSem.ClaimMapViews
import Derived.JoinedTies
import Derived.KernelRfl
namespace Go.Proofs.Ytfofmfkdkihhbac
/- THE CELL 'sum', in the pinned program and in every row, IS THE sha256 OF THE DUMP (.gsa) THAT YtfofmfkdkihhbacProg.lean LOADS. Nothing in Lean hashes anything: it is a label: what it is worth is what the hold of that sum in a sandbox is worth. -/
noncomputable def Try.pinned : Pinned := { name := "ytfofmfkdkihhbac", sum := "e6a3013a159f0dea016756fb5aa4790bc126fd4b74f079c3a470ec2e9e3012e0", checked := Try.checked }
namespace Rows
def none {H : Type} : Left H := { results := [], args := [] }

/-- 'laws.FnFoundIn': WHATEVER THE INPUT: true; the input reads as it did. -/
def fnFoundInSpec : ChangeSpec := { name := "fnFoundIn", fn := fun _ => fun
  | [d] => { results := [.lit (.bool true)], args := [d] }
  | _ => none }
def fnFoundInRow : OpenClaim := { program := "ytfofmfkdkihhbac", sum := "e6a3013a159f0dea016756fb5aa4790bc126fd4b74f079c3a470ec2e9e3012e0", func := "loop.example/growingpictures/laws.FnFoundIn", spec := "fnFoundIn", unfollowed := true, recurses := true, apart := false }
def FnFoundInSaid : Prop := fnFoundInRow.holds Try.pinned (OpenSpec.ofChange fnFoundInSpec)

/-- ITS FALSE NEIGHBOUR: 'it returns false'. Refute it at one input. -/
def fnFoundInWrong : ChangeSpec := { name := "fnFoundIn", fn := fun _ => fun
  | [d] => { results := [.lit (.bool false)], args := [d] }
  | _ => none }
def FnFoundInWrongFalsely : Prop := fnFoundInRow.holds Try.pinned (OpenSpec.ofChange fnFoundInWrong)

/-- 'laws.FnExactFoundIn': WHATEVER THE INPUT: true; the input reads as it did. -/
def fnExactFoundInSpec : ChangeSpec := { name := "fnExactFoundIn", fn := fun _ => fun
  | [d1, d2] => { results := [.lit (.bool true)], args := [d1, d2] }
  | _ => none }
def fnExactFoundInRow : OpenClaim := { program := "ytfofmfkdkihhbac", sum := "e6a3013a159f0dea016756fb5aa4790bc126fd4b74f079c3a470ec2e9e3012e0", func := "loop.example/growingpictures/laws.FnExactFoundIn", spec := "fnExactFoundIn", unfollowed := true, recurses := true, apart := false }
def FnExactFoundInSaid : Prop := fnExactFoundInRow.holds Try.pinned (OpenSpec.ofChange fnExactFoundInSpec)

/-- ITS FALSE NEIGHBOUR: 'it returns false'. Refute it at one input. -/
def fnExactFoundInWrong : ChangeSpec := { name := "fnExactFoundIn", fn := fun _ => fun
  | [d1, d2] => { results := [.lit (.bool false)], args := [d1, d2] }
  | _ => none }
def FnExactFoundInWrongFalsely : Prop := fnExactFoundInRow.holds Try.pinned (OpenSpec.ofChange fnExactFoundInWrong)

/-- 'laws.FnThinnedBy': WHATEVER THE INPUT: true; the input reads as it did. -/
def fnThinnedBySpec : ChangeSpec := { name := "fnThinnedBy", fn := fun _ => fun
  | [d] => { results := [.lit (.bool true)], args := [d] }
  | _ => none }
def fnThinnedByRow : OpenClaim := { program := "ytfofmfkdkihhbac", sum := "e6a3013a159f0dea016756fb5aa4790bc126fd4b74f079c3a470ec2e9e3012e0", func := "loop.example/growingpictures/laws.FnThinnedBy", spec := "fnThinnedBy", unfollowed := true, recurses := true, apart := false }
def FnThinnedBySaid : Prop := fnThinnedByRow.holds Try.pinned (OpenSpec.ofChange fnThinnedBySpec)

/-- ITS FALSE NEIGHBOUR: 'it returns false'. Refute it at one input. -/
def fnThinnedByWrong : ChangeSpec := { name := "fnThinnedBy", fn := fun _ => fun
  | [d] => { results := [.lit (.bool false)], args := [d] }
  | _ => none }
def FnThinnedByWrongFalsely : Prop := fnThinnedByRow.holds Try.pinned (OpenSpec.ofChange fnThinnedByWrong)

/-- 'laws.FnExactThinnedBy': WHATEVER THE INPUT: true; the input reads as it did. -/
def fnExactThinnedBySpec : ChangeSpec := { name := "fnExactThinnedBy", fn := fun _ => fun
  | [d1, d2] => { results := [.lit (.bool true)], args := [d1, d2] }
  | _ => none }
def fnExactThinnedByRow : OpenClaim := { program := "ytfofmfkdkihhbac", sum := "e6a3013a159f0dea016756fb5aa4790bc126fd4b74f079c3a470ec2e9e3012e0", func := "loop.example/growingpictures/laws.FnExactThinnedBy", spec := "fnExactThinnedBy", unfollowed := true, recurses := true, apart := false }
def FnExactThinnedBySaid : Prop := fnExactThinnedByRow.holds Try.pinned (OpenSpec.ofChange fnExactThinnedBySpec)

/-- ITS FALSE NEIGHBOUR: 'it returns false'. Refute it at one input. -/
def fnExactThinnedByWrong : ChangeSpec := { name := "fnExactThinnedBy", fn := fun _ => fun
  | [d1, d2] => { results := [.lit (.bool false)], args := [d1, d2] }
  | _ => none }
def FnExactThinnedByWrongFalsely : Prop := fnExactThinnedByRow.holds Try.pinned (OpenSpec.ofChange fnExactThinnedByWrong)

/-- 'laws.FnLoneSpots': WHATEVER THE INPUT: true; the input reads as it did. -/
def fnLoneSpotsSpec : ChangeSpec := { name := "fnLoneSpots", fn := fun _ => fun
  | [d] => { results := [.lit (.bool true)], args := [d] }
  | _ => none }
def fnLoneSpotsRow : OpenClaim := { program := "ytfofmfkdkihhbac", sum := "e6a3013a159f0dea016756fb5aa4790bc126fd4b74f079c3a470ec2e9e3012e0", func := "loop.example/growingpictures/laws.FnLoneSpots", spec := "fnLoneSpots", unfollowed := true, recurses := true, apart := false }
def FnLoneSpotsSaid : Prop := fnLoneSpotsRow.holds Try.pinned (OpenSpec.ofChange fnLoneSpotsSpec)

/-- ITS FALSE NEIGHBOUR: 'it returns false'. Refute it at one input. -/
def fnLoneSpotsWrong : ChangeSpec := { name := "fnLoneSpots", fn := fun _ => fun
  | [d] => { results := [.lit (.bool false)], args := [d] }
  | _ => none }
def FnLoneSpotsWrongFalsely : Prop := fnLoneSpotsRow.holds Try.pinned (OpenSpec.ofChange fnLoneSpotsWrong)

/-- 'laws.FnExactLoneSpots': WHATEVER THE INPUT: true; the input reads as it did. -/
def fnExactLoneSpotsSpec : ChangeSpec := { name := "fnExactLoneSpots", fn := fun _ => fun
  | [d] => { results := [.lit (.bool true)], args := [d] }
  | _ => none }
def fnExactLoneSpotsRow : OpenClaim := { program := "ytfofmfkdkihhbac", sum := "e6a3013a159f0dea016756fb5aa4790bc126fd4b74f079c3a470ec2e9e3012e0", func := "loop.example/growingpictures/laws.FnExactLoneSpots", spec := "fnExactLoneSpots", unfollowed := true, recurses := true, apart := false }
def FnExactLoneSpotsSaid : Prop := fnExactLoneSpotsRow.holds Try.pinned (OpenSpec.ofChange fnExactLoneSpotsSpec)

/-- ITS FALSE NEIGHBOUR: 'it returns false'. Refute it at one input. -/
def fnExactLoneSpotsWrong : ChangeSpec := { name := "fnExactLoneSpots", fn := fun _ => fun
  | [d] => { results := [.lit (.bool false)], args := [d] }
  | _ => none }
def FnExactLoneSpotsWrongFalsely : Prop := fnExactLoneSpotsRow.holds Try.pinned (OpenSpec.ofChange fnExactLoneSpotsWrong)

/-- 'laws.FnBorderOf': WHATEVER THE INPUT: true; the input reads as it did. -/
def fnBorderOfSpec : ChangeSpec := { name := "fnBorderOf", fn := fun _ => fun
  | [d] => { results := [.lit (.bool true)], args := [d] }
  | _ => none }
def fnBorderOfRow : OpenClaim := { program := "ytfofmfkdkihhbac", sum := "e6a3013a159f0dea016756fb5aa4790bc126fd4b74f079c3a470ec2e9e3012e0", func := "loop.example/growingpictures/laws.FnBorderOf", spec := "fnBorderOf", unfollowed := true, recurses := true, apart := false }
def FnBorderOfSaid : Prop := fnBorderOfRow.holds Try.pinned (OpenSpec.ofChange fnBorderOfSpec)

/-- ITS FALSE NEIGHBOUR: 'it returns false'. Refute it at one input. -/
def fnBorderOfWrong : ChangeSpec := { name := "fnBorderOf", fn := fun _ => fun
  | [d] => { results := [.lit (.bool false)], args := [d] }
  | _ => none }
def FnBorderOfWrongFalsely : Prop := fnBorderOfRow.holds Try.pinned (OpenSpec.ofChange fnBorderOfWrong)

/-- 'laws.FnExactBorderOf': WHATEVER THE INPUT: true; the input reads as it did. -/
def fnExactBorderOfSpec : ChangeSpec := { name := "fnExactBorderOf", fn := fun _ => fun
  | [d] => { results := [.lit (.bool true)], args := [d] }
  | _ => none }
def fnExactBorderOfRow : OpenClaim := { program := "ytfofmfkdkihhbac", sum := "e6a3013a159f0dea016756fb5aa4790bc126fd4b74f079c3a470ec2e9e3012e0", func := "loop.example/growingpictures/laws.FnExactBorderOf", spec := "fnExactBorderOf", unfollowed := true, recurses := true, apart := false }
def FnExactBorderOfSaid : Prop := fnExactBorderOfRow.holds Try.pinned (OpenSpec.ofChange fnExactBorderOfSpec)

/-- ITS FALSE NEIGHBOUR: 'it returns false'. Refute it at one input. -/
def fnExactBorderOfWrong : ChangeSpec := { name := "fnExactBorderOf", fn := fun _ => fun
  | [d] => { results := [.lit (.bool false)], args := [d] }
  | _ => none }
def FnExactBorderOfWrongFalsely : Prop := fnExactBorderOfRow.holds Try.pinned (OpenSpec.ofChange fnExactBorderOfWrong)

/- THE SECOND FORM. 'bulk': how many values and letters a reading holds, each counted each time it is reached (what is shared counts as often as it is met; a slice's spare places count too). A statement '..UptoSaid' is the law's where the arguments, and the package variables that the reading takes, are together of bulk at most 1048576: NARROWER than '..Said'. Prove '..Said' where nothing that the law and all that it calls make is longer than what came in: it says more and counts as full. Else prove '..UptoSaid'. A law counts once. -/
mutual
def uptoBulk {H : Type} : DataW H → Nat
  | .lit (.string bytes) => bytes.length + 1
  | .lit _ => 1
  | .nil => 1
  | .ptr d => uptoBulk d + 1
  | .slice elems spare => uptoBulkAll elems + uptoBulkAll spare + 1
  | .agg parts => uptoBulkAll parts + 1
  | .iface _ d => uptoBulk d + 1
  | .map entries => uptoBulkEntries entries + 1
  | .held _ => 1
def uptoBulkAll {H : Type} : List (DataW H) → Nat
  | [] => 0
  | d :: r => uptoBulk d + uptoBulkAll r
def uptoBulkEntries {H : Type} : List (Lit × DataW H) → Nat
  | [] => 0
  | x :: r => uptoBulkEntry x + uptoBulkEntries r
def uptoBulkEntry {H : Type} : Lit × DataW H → Nat
  | (.string bytes, d) => bytes.length + uptoBulk d + 1
  | (_, d) => uptoBulk d + 1
 end
def uptoSmall : (H : Type) → List (DataW H) → Bool := fun _ ds => decide (uptoBulkAll ds ≤ 1048576)
def OpenSpec.upto (s : _root_.Go.ChangeSpec) : _root_.Go.OpenSpec := { _root_.Go.OpenSpec.ofChange s with cond := some uptoSmall }

/-- 'laws.FnFoundIn', WHERE WHAT IT READS IS OF BULK AT MOST 1048576: true; the input reads as it did. -/
def fnFoundInUptoRow : OpenClaim := { program := "ytfofmfkdkihhbac", sum := "e6a3013a159f0dea016756fb5aa4790bc126fd4b74f079c3a470ec2e9e3012e0", func := "loop.example/growingpictures/laws.FnFoundIn", spec := "fnFoundIn", unfollowed := true, recurses := true, apart := false, narrowed := true }
def FnFoundInUptoSaid : Prop := fnFoundInUptoRow.holds Try.pinned (OpenSpec.upto fnFoundInSpec)

/-- 'laws.FnExactFoundIn', WHERE WHAT IT READS IS OF BULK AT MOST 1048576: true; the input reads as it did. -/
def fnExactFoundInUptoRow : OpenClaim := { program := "ytfofmfkdkihhbac", sum := "e6a3013a159f0dea016756fb5aa4790bc126fd4b74f079c3a470ec2e9e3012e0", func := "loop.example/growingpictures/laws.FnExactFoundIn", spec := "fnExactFoundIn", unfollowed := true, recurses := true, apart := false, narrowed := true }
def FnExactFoundInUptoSaid : Prop := fnExactFoundInUptoRow.holds Try.pinned (OpenSpec.upto fnExactFoundInSpec)

/-- 'laws.FnThinnedBy', WHERE WHAT IT READS IS OF BULK AT MOST 1048576: true; the input reads as it did. -/
def fnThinnedByUptoRow : OpenClaim := { program := "ytfofmfkdkihhbac", sum := "e6a3013a159f0dea016756fb5aa4790bc126fd4b74f079c3a470ec2e9e3012e0", func := "loop.example/growingpictures/laws.FnThinnedBy", spec := "fnThinnedBy", unfollowed := true, recurses := true, apart := false, narrowed := true }
def FnThinnedByUptoSaid : Prop := fnThinnedByUptoRow.holds Try.pinned (OpenSpec.upto fnThinnedBySpec)

/-- 'laws.FnExactThinnedBy', WHERE WHAT IT READS IS OF BULK AT MOST 1048576: true; the input reads as it did. -/
def fnExactThinnedByUptoRow : OpenClaim := { program := "ytfofmfkdkihhbac", sum := "e6a3013a159f0dea016756fb5aa4790bc126fd4b74f079c3a470ec2e9e3012e0", func := "loop.example/growingpictures/laws.FnExactThinnedBy", spec := "fnExactThinnedBy", unfollowed := true, recurses := true, apart := false, narrowed := true }
def FnExactThinnedByUptoSaid : Prop := fnExactThinnedByUptoRow.holds Try.pinned (OpenSpec.upto fnExactThinnedBySpec)

/-- 'laws.FnLoneSpots', WHERE WHAT IT READS IS OF BULK AT MOST 1048576: true; the input reads as it did. -/
def fnLoneSpotsUptoRow : OpenClaim := { program := "ytfofmfkdkihhbac", sum := "e6a3013a159f0dea016756fb5aa4790bc126fd4b74f079c3a470ec2e9e3012e0", func := "loop.example/growingpictures/laws.FnLoneSpots", spec := "fnLoneSpots", unfollowed := true, recurses := true, apart := false, narrowed := true }
def FnLoneSpotsUptoSaid : Prop := fnLoneSpotsUptoRow.holds Try.pinned (OpenSpec.upto fnLoneSpotsSpec)

/-- 'laws.FnExactLoneSpots', WHERE WHAT IT READS IS OF BULK AT MOST 1048576: true; the input reads as it did. -/
def fnExactLoneSpotsUptoRow : OpenClaim := { program := "ytfofmfkdkihhbac", sum := "e6a3013a159f0dea016756fb5aa4790bc126fd4b74f079c3a470ec2e9e3012e0", func := "loop.example/growingpictures/laws.FnExactLoneSpots", spec := "fnExactLoneSpots", unfollowed := true, recurses := true, apart := false, narrowed := true }
def FnExactLoneSpotsUptoSaid : Prop := fnExactLoneSpotsUptoRow.holds Try.pinned (OpenSpec.upto fnExactLoneSpotsSpec)

/-- 'laws.FnBorderOf', WHERE WHAT IT READS IS OF BULK AT MOST 1048576: true; the input reads as it did. -/
def fnBorderOfUptoRow : OpenClaim := { program := "ytfofmfkdkihhbac", sum := "e6a3013a159f0dea016756fb5aa4790bc126fd4b74f079c3a470ec2e9e3012e0", func := "loop.example/growingpictures/laws.FnBorderOf", spec := "fnBorderOf", unfollowed := true, recurses := true, apart := false, narrowed := true }
def FnBorderOfUptoSaid : Prop := fnBorderOfUptoRow.holds Try.pinned (OpenSpec.upto fnBorderOfSpec)

/-- 'laws.FnExactBorderOf', WHERE WHAT IT READS IS OF BULK AT MOST 1048576: true; the input reads as it did. -/
def fnExactBorderOfUptoRow : OpenClaim := { program := "ytfofmfkdkihhbac", sum := "e6a3013a159f0dea016756fb5aa4790bc126fd4b74f079c3a470ec2e9e3012e0", func := "loop.example/growingpictures/laws.FnExactBorderOf", spec := "fnExactBorderOf", unfollowed := true, recurses := true, apart := false, narrowed := true }
def FnExactBorderOfUptoSaid : Prop := fnExactBorderOfUptoRow.holds Try.pinned (OpenSpec.upto fnExactBorderOfSpec)

end Rows
end Go.Proofs.Ytfofmfkdkihhbac
