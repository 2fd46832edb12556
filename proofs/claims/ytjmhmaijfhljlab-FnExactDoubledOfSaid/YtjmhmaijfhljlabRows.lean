/-
  No cell of these rows narrows 'for every input' (looked for: loops, veiled, ifaces, maps, wideKeys, modest, calm, conditions, laid).
  DERIVED. THE GIVEN ROWS OF THIS SEAT. 7 by the template 'for every input the law returns true; each argument reads behind the call as it read before'; 0 by the template 'total and deterministic' (their statements: YtjmhmaijfhljlabTotals.lean).
  GIVEN WITH THE SEED: the statements are not yours to turn. If you find one false, say at which input.
  Laid BY PROGRAM, IN A SANDBOX (cutbox-rows.mjs): the forced cells as the released guide's own fill.sh prints them over the translation 3e3d04c55be02b49… (all of the seat's roots in one cut). By AI agents, Wed Nov 11 2026. No macro, syntax, notation, axiom, sorry.
-/
import Derived.Test.YtjmhmaijfhljlabChecked
import GoSem.Claim
import GoSem.ClaimJoined
import GoSem.ClaimMapViews
import Derived.JoinedTies
import Derived.KernelRfl
namespace Go.Proofs.Ytjmhmaijfhljlab
/- THE CELL 'sum', in the pinned program and in every row, IS THE sha256 OF THE DUMP (.gsa) THAT YtjmhmaijfhljlabProg.lean LOADS. Nothing in Lean hashes anything: it is a label: what it is worth is what the hold of that sum in a sandbox is worth. -/
noncomputable def Try.pinned : Pinned := { name := "ytjmhmaijfhljlab", sum := "3e3d04c55be02b49c44bab6d965f3ef5e348545b526fab1986029979559066ff", checked := Try.checked }
namespace Rows
def none {H : Type} : Left H := { results := [], args := [] }

/-- 'laws.FnBoxOf': WHATEVER THE INPUT: true; the input reads as it did. -/
def fnBoxOfSpec : ChangeSpec := { name := "fnBoxOf", fn := fun _ => fun
  | [d1, d2] => { results := [.lit (.bool true)], args := [d1, d2] }
  | _ => none }
def fnBoxOfRow : OpenClaim := { program := "ytjmhmaijfhljlab", sum := "3e3d04c55be02b49c44bab6d965f3ef5e348545b526fab1986029979559066ff", func := "loop.example/growingpictures/laws.FnBoxOf", spec := "fnBoxOf", unfollowed := true, recurses := true, apart := false }
def FnBoxOfSaid : Prop := fnBoxOfRow.holds Try.pinned (OpenSpec.ofChange fnBoxOfSpec)

/-- ITS FALSE NEIGHBOUR: 'it returns false'. Refute it at one input. -/
def fnBoxOfWrong : ChangeSpec := { name := "fnBoxOf", fn := fun _ => fun
  | [d1, d2] => { results := [.lit (.bool false)], args := [d1, d2] }
  | _ => none }
def FnBoxOfWrongFalsely : Prop := fnBoxOfRow.holds Try.pinned (OpenSpec.ofChange fnBoxOfWrong)

/-- 'laws.FnExactHasSpot': WHATEVER THE INPUT: true; the input reads as it did. -/
def fnExactHasSpotSpec : ChangeSpec := { name := "fnExactHasSpot", fn := fun _ => fun
  | [d1, d2] => { results := [.lit (.bool true)], args := [d1, d2] }
  | _ => none }
def fnExactHasSpotRow : OpenClaim := { program := "ytjmhmaijfhljlab", sum := "3e3d04c55be02b49c44bab6d965f3ef5e348545b526fab1986029979559066ff", func := "loop.example/growingpictures/laws.FnExactHasSpot", spec := "fnExactHasSpot", unfollowed := true, recurses := true, apart := false }
def FnExactHasSpotSaid : Prop := fnExactHasSpotRow.holds Try.pinned (OpenSpec.ofChange fnExactHasSpotSpec)

/-- ITS FALSE NEIGHBOUR: 'it returns false'. Refute it at one input. -/
def fnExactHasSpotWrong : ChangeSpec := { name := "fnExactHasSpot", fn := fun _ => fun
  | [d1, d2] => { results := [.lit (.bool false)], args := [d1, d2] }
  | _ => none }
def FnExactHasSpotWrongFalsely : Prop := fnExactHasSpotRow.holds Try.pinned (OpenSpec.ofChange fnExactHasSpotWrong)

/-- 'laws.FnExactUnionOf': WHATEVER THE INPUT: true; the input reads as it did. -/
def fnExactUnionOfSpec : ChangeSpec := { name := "fnExactUnionOf", fn := fun _ => fun
  | [d1, d2] => { results := [.lit (.bool true)], args := [d1, d2] }
  | _ => none }
def fnExactUnionOfRow : OpenClaim := { program := "ytjmhmaijfhljlab", sum := "3e3d04c55be02b49c44bab6d965f3ef5e348545b526fab1986029979559066ff", func := "loop.example/growingpictures/laws.FnExactUnionOf", spec := "fnExactUnionOf", unfollowed := true, recurses := true, apart := false }
def FnExactUnionOfSaid : Prop := fnExactUnionOfRow.holds Try.pinned (OpenSpec.ofChange fnExactUnionOfSpec)

/-- ITS FALSE NEIGHBOUR: 'it returns false'. Refute it at one input. -/
def fnExactUnionOfWrong : ChangeSpec := { name := "fnExactUnionOf", fn := fun _ => fun
  | [d1, d2] => { results := [.lit (.bool false)], args := [d1, d2] }
  | _ => none }
def FnExactUnionOfWrongFalsely : Prop := fnExactUnionOfRow.holds Try.pinned (OpenSpec.ofChange fnExactUnionOfWrong)

/-- 'laws.FnExactMovedBy': WHATEVER THE INPUT: true; the input reads as it did. -/
def fnExactMovedBySpec : ChangeSpec := { name := "fnExactMovedBy", fn := fun _ => fun
  | [d1, d2] => { results := [.lit (.bool true)], args := [d1, d2] }
  | _ => none }
def fnExactMovedByRow : OpenClaim := { program := "ytjmhmaijfhljlab", sum := "3e3d04c55be02b49c44bab6d965f3ef5e348545b526fab1986029979559066ff", func := "loop.example/growingpictures/laws.FnExactMovedBy", spec := "fnExactMovedBy", apart := false }
def FnExactMovedBySaid : Prop := fnExactMovedByRow.holds Try.pinned (OpenSpec.ofChange fnExactMovedBySpec)

/-- ITS FALSE NEIGHBOUR: 'it returns false'. Refute it at one input. -/
def fnExactMovedByWrong : ChangeSpec := { name := "fnExactMovedBy", fn := fun _ => fun
  | [d1, d2] => { results := [.lit (.bool false)], args := [d1, d2] }
  | _ => none }
def FnExactMovedByWrongFalsely : Prop := fnExactMovedByRow.holds Try.pinned (OpenSpec.ofChange fnExactMovedByWrong)

/-- 'laws.FnExactSumOf': WHATEVER THE INPUT: true; the input reads as it did. -/
def fnExactSumOfSpec : ChangeSpec := { name := "fnExactSumOf", fn := fun _ => fun
  | [d1, d2] => { results := [.lit (.bool true)], args := [d1, d2] }
  | _ => none }
def fnExactSumOfRow : OpenClaim := { program := "ytjmhmaijfhljlab", sum := "3e3d04c55be02b49c44bab6d965f3ef5e348545b526fab1986029979559066ff", func := "loop.example/growingpictures/laws.FnExactSumOf", spec := "fnExactSumOf", unfollowed := true, recurses := true, apart := false }
def FnExactSumOfSaid : Prop := fnExactSumOfRow.holds Try.pinned (OpenSpec.ofChange fnExactSumOfSpec)

/-- ITS FALSE NEIGHBOUR: 'it returns false'. Refute it at one input. -/
def fnExactSumOfWrong : ChangeSpec := { name := "fnExactSumOf", fn := fun _ => fun
  | [d1, d2] => { results := [.lit (.bool false)], args := [d1, d2] }
  | _ => none }
def FnExactSumOfWrongFalsely : Prop := fnExactSumOfRow.holds Try.pinned (OpenSpec.ofChange fnExactSumOfWrong)

/-- 'laws.FnExactDoubledOf': WHATEVER THE INPUT: true; the input reads as it did. -/
def fnExactDoubledOfSpec : ChangeSpec := { name := "fnExactDoubledOf", fn := fun _ => fun
  | [d] => { results := [.lit (.bool true)], args := [d] }
  | _ => none }
def fnExactDoubledOfRow : OpenClaim := { program := "ytjmhmaijfhljlab", sum := "3e3d04c55be02b49c44bab6d965f3ef5e348545b526fab1986029979559066ff", func := "loop.example/growingpictures/laws.FnExactDoubledOf", spec := "fnExactDoubledOf", unfollowed := true, recurses := true, apart := false }
def FnExactDoubledOfSaid : Prop := fnExactDoubledOfRow.holds Try.pinned (OpenSpec.ofChange fnExactDoubledOfSpec)

/-- ITS FALSE NEIGHBOUR: 'it returns false'. Refute it at one input. -/
def fnExactDoubledOfWrong : ChangeSpec := { name := "fnExactDoubledOf", fn := fun _ => fun
  | [d] => { results := [.lit (.bool false)], args := [d] }
  | _ => none }
def FnExactDoubledOfWrongFalsely : Prop := fnExactDoubledOfRow.holds Try.pinned (OpenSpec.ofChange fnExactDoubledOfWrong)

/-- 'laws.FnExactDifferencesOf': WHATEVER THE INPUT: true; the input reads as it did. -/
def fnExactDifferencesOfSpec : ChangeSpec := { name := "fnExactDifferencesOf", fn := fun _ => fun
  | [d] => { results := [.lit (.bool true)], args := [d] }
  | _ => none }
def fnExactDifferencesOfRow : OpenClaim := { program := "ytjmhmaijfhljlab", sum := "3e3d04c55be02b49c44bab6d965f3ef5e348545b526fab1986029979559066ff", func := "loop.example/growingpictures/laws.FnExactDifferencesOf", spec := "fnExactDifferencesOf", unfollowed := true, recurses := true, apart := false }
def FnExactDifferencesOfSaid : Prop := fnExactDifferencesOfRow.holds Try.pinned (OpenSpec.ofChange fnExactDifferencesOfSpec)

/-- ITS FALSE NEIGHBOUR: 'it returns false'. Refute it at one input. -/
def fnExactDifferencesOfWrong : ChangeSpec := { name := "fnExactDifferencesOf", fn := fun _ => fun
  | [d] => { results := [.lit (.bool false)], args := [d] }
  | _ => none }
def FnExactDifferencesOfWrongFalsely : Prop := fnExactDifferencesOfRow.holds Try.pinned (OpenSpec.ofChange fnExactDifferencesOfWrong)

/- THE SECOND FORM. 'bulk': how many values and letters a reading holds, each counted each time it is reached (what is shared counts as often as it is met; a slice's spare places count too). A statement '..UptoSaid' is the law's where the arguments, and the package variables that the reading takes, are together of bulk at most 1048576: NARROWER than '..Said'. Prove '..Said' where nothing that the law and all that it calls make is longer than what came in: it says more and counts as full. Else prove '..UptoSaid'. A law counts once. -/
mutual
def uptoBulk {H : Type} : DataW H → Nat
  | .lit (.string bytes) => bytes.length + 1
  | .lit _ => 1
  | .nil => 1
  | .ptr d => uptoBulk d + 1
  | .slice elems spare => uptoBulkAll elems + uptoBulkAll spare + 1
  | .agg parts => uptoBulkAll parts + 1
  | .iface _ d => uptoBulk d + 1
  | .map entries => uptoBulkEntries entries + 1
  | .held _ => 1
def uptoBulkAll {H : Type} : List (DataW H) → Nat
  | [] => 0
  | d :: r => uptoBulk d + uptoBulkAll r
def uptoBulkEntries {H : Type} : List (Lit × DataW H) → Nat
  | [] => 0
  | x :: r => uptoBulkEntry x + uptoBulkEntries r
def uptoBulkEntry {H : Type} : Lit × DataW H → Nat
  | (.string bytes, d) => bytes.length + uptoBulk d + 1
  | (_, d) => uptoBulk d + 1
 end
def uptoSmall : (H : Type) → List (DataW H) → Bool := fun _ ds => decide (uptoBulkAll ds ≤ 1048576)
def OpenSpec.upto (s : _root_.Go.ChangeSpec) : _root_.Go.OpenSpec := { _root_.Go.OpenSpec.ofChange s with cond := some uptoSmall }

/-- 'laws.FnBoxOf', WHERE WHAT IT READS IS OF BULK AT MOST 1048576: true; the input reads as it did. -/
def fnBoxOfUptoRow : OpenClaim := { program := "ytjmhmaijfhljlab", sum := "3e3d04c55be02b49c44bab6d965f3ef5e348545b526fab1986029979559066ff", func := "loop.example/growingpictures/laws.FnBoxOf", spec := "fnBoxOf", unfollowed := true, recurses := true, apart := false, narrowed := true }
def FnBoxOfUptoSaid : Prop := fnBoxOfUptoRow.holds Try.pinned (OpenSpec.upto fnBoxOfSpec)

/-- 'laws.FnExactHasSpot', WHERE WHAT IT READS IS OF BULK AT MOST 1048576: true; the input reads as it did. -/
def fnExactHasSpotUptoRow : OpenClaim := { program := "ytjmhmaijfhljlab", sum := "3e3d04c55be02b49c44bab6d965f3ef5e348545b526fab1986029979559066ff", func := "loop.example/growingpictures/laws.FnExactHasSpot", spec := "fnExactHasSpot", unfollowed := true, recurses := true, apart := false, narrowed := true }
def FnExactHasSpotUptoSaid : Prop := fnExactHasSpotUptoRow.holds Try.pinned (OpenSpec.upto fnExactHasSpotSpec)

/-- 'laws.FnExactUnionOf', WHERE WHAT IT READS IS OF BULK AT MOST 1048576: true; the input reads as it did. -/
def fnExactUnionOfUptoRow : OpenClaim := { program := "ytjmhmaijfhljlab", sum := "3e3d04c55be02b49c44bab6d965f3ef5e348545b526fab1986029979559066ff", func := "loop.example/growingpictures/laws.FnExactUnionOf", spec := "fnExactUnionOf", unfollowed := true, recurses := true, apart := false, narrowed := true }
def FnExactUnionOfUptoSaid : Prop := fnExactUnionOfUptoRow.holds Try.pinned (OpenSpec.upto fnExactUnionOfSpec)

/-- 'laws.FnExactMovedBy', WHERE WHAT IT READS IS OF BULK AT MOST 1048576: true; the input reads as it did. -/
def fnExactMovedByUptoRow : OpenClaim := { program := "ytjmhmaijfhljlab", sum := "3e3d04c55be02b49c44bab6d965f3ef5e348545b526fab1986029979559066ff", func := "loop.example/growingpictures/laws.FnExactMovedBy", spec := "fnExactMovedBy", apart := false, narrowed := true }
def FnExactMovedByUptoSaid : Prop := fnExactMovedByUptoRow.holds Try.pinned (OpenSpec.upto fnExactMovedBySpec)

/-- 'laws.FnExactSumOf', WHERE WHAT IT READS IS OF BULK AT MOST 1048576: true; the input reads as it did. -/
def fnExactSumOfUptoRow : OpenClaim := { program := "ytjmhmaijfhljlab", sum := "3e3d04c55be02b49c44bab6d965f3ef5e348545b526fab1986029979559066ff", func := "loop.example/growingpictures/laws.FnExactSumOf", spec := "fnExactSumOf", unfollowed := true, recurses := true, apart := false, narrowed := true }
def FnExactSumOfUptoSaid : Prop := fnExactSumOfUptoRow.holds Try.pinned (OpenSpec.upto fnExactSumOfSpec)

/-- 'laws.FnExactDoubledOf', WHERE WHAT IT READS IS OF BULK AT MOST 1048576: true; the input reads as it did. -/
def fnExactDoubledOfUptoRow : OpenClaim := { program := "ytjmhmaijfhljlab", sum := "3e3d04c55be02b49c44bab6d965f3ef5e348545b526fab1986029979559066ff", func := "loop.example/growingpictures/laws.FnExactDoubledOf", spec := "fnExactDoubledOf", unfollowed := true, recurses := true, apart := false, narrowed := true }
def FnExactDoubledOfUptoSaid : Prop := fnExactDoubledOfUptoRow.holds Try.pinned (OpenSpec.upto fnExactDoubledOfSpec)

/-- 'laws.FnExactDifferencesOf', WHERE WHAT IT READS IS OF BULK AT MOST 1048576: true; the input reads as it did. -/
def fnExactDifferencesOfUptoRow : OpenClaim := { program := "ytjmhmaijfhljlab", sum := "3e3d04c55be02b49c44bab6d965f3ef5e348545b526fab1986029979559066ff", func := "loop.example/growingpictures/laws.FnExactDifferencesOf", spec := "fnExactDifferencesOf", unfollowed := true, recurses := true, apart := false, narrowed := true }
def FnExactDifferencesOfUptoSaid : Prop := fnExactDifferencesOfUptoRow.holds Try.pinned (OpenSpec.upto fnExactDifferencesOfSpec)

end Rows
end Go.Proofs.Ytjmhmaijfhljlab
