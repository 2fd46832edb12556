/-
  No cell of these rows narrows 'for every input' (looked for: loops, veiled, ifaces, maps, wideKeys, modest, calm, conditions, laid).
  DERIVED. THE GIVEN ROWS OF THIS SEAT. 8 by the template 'for every input the law returns true; each argument reads behind the call as it read before'; 0 by the template 'total and deterministic' (their statements: YtfofmfkdkihhbaaTotals.lean).
  GIVEN WITH THE SEED: the statements are not yours to turn. If you find one false, say at which input.
  Laid BY PROGRAM, IN A SANDBOX (cutbox-rows.mjs): the forced cells as the released guide's own fill.sh prints them over the translation 8c8ab09dae1a8605… (all of the seat's roots in one cut). By AI agents, Wed Nov 11 2026. No macro, syntax, notation, axiom, sorry.
-/
import Derived.Test.YtfofmfkdkihhbaaChecked
import GoSem.Claim
import GoSem.ClaimJoined
import GoSem.ClaimMapViews
import Derived.JoinedTies
import Derived.KernelRfl
namespace Go.Proofs.Ytfofmfkdkihhbaa
/- THE CELL 'sum', in the pinned program and in every row, IS THE sha256 OF THE DUMP (.gsa) THAT YtfofmfkdkihhbaaProg.lean LOADS. Nothing in Lean hashes anything: it is a label: what it is worth is what the hold of that sum in a sandbox is worth. -/
noncomputable def Try.pinned : Pinned := { name := "ytfofmfkdkihhbaa", sum := "8c8ab09dae1a8605acfdbd286cc2b31aff2ddd72d83e510eab06e7bfb3c0fce1", checked := Try.checked }
namespace Rows
def none {H : Type} : Left H := { results := [], args := [] }

/-- 'laws.FnHasSpot': WHATEVER THE INPUT: true; the input reads as it did. -/
def fnHasSpotSpec : ChangeSpec := { name := "fnHasSpot", fn := fun _ => fun
  | [d] => { results := [.lit (.bool true)], args := [d] }
  | _ => none }
def fnHasSpotRow : OpenClaim := { program := "ytfofmfkdkihhbaa", sum := "8c8ab09dae1a8605acfdbd286cc2b31aff2ddd72d83e510eab06e7bfb3c0fce1", func := "loop.example/growingpictures/laws.FnHasSpot", spec := "fnHasSpot", unfollowed := true, recurses := true, apart := false }
def FnHasSpotSaid : Prop := fnHasSpotRow.holds Try.pinned (OpenSpec.ofChange fnHasSpotSpec)

/-- ITS FALSE NEIGHBOUR: 'it returns false'. Refute it at one input. -/
def fnHasSpotWrong : ChangeSpec := { name := "fnHasSpot", fn := fun _ => fun
  | [d] => { results := [.lit (.bool false)], args := [d] }
  | _ => none }
def FnHasSpotWrongFalsely : Prop := fnHasSpotRow.holds Try.pinned (OpenSpec.ofChange fnHasSpotWrong)

/-- 'laws.FnExactHasSpot': WHATEVER THE INPUT: true; the input reads as it did. -/
def fnExactHasSpotSpec : ChangeSpec := { name := "fnExactHasSpot", fn := fun _ => fun
  | [d1, d2] => { results := [.lit (.bool true)], args := [d1, d2] }
  | _ => none }
def fnExactHasSpotRow : OpenClaim := { program := "ytfofmfkdkihhbaa", sum := "8c8ab09dae1a8605acfdbd286cc2b31aff2ddd72d83e510eab06e7bfb3c0fce1", func := "loop.example/growingpictures/laws.FnExactHasSpot", spec := "fnExactHasSpot", unfollowed := true, recurses := true, apart := false }
def FnExactHasSpotSaid : Prop := fnExactHasSpotRow.holds Try.pinned (OpenSpec.ofChange fnExactHasSpotSpec)

/-- ITS FALSE NEIGHBOUR: 'it returns false'. Refute it at one input. -/
def fnExactHasSpotWrong : ChangeSpec := { name := "fnExactHasSpot", fn := fun _ => fun
  | [d1, d2] => { results := [.lit (.bool false)], args := [d1, d2] }
  | _ => none }
def FnExactHasSpotWrongFalsely : Prop := fnExactHasSpotRow.holds Try.pinned (OpenSpec.ofChange fnExactHasSpotWrong)

/-- 'laws.FnMovedBy': WHATEVER THE INPUT: true; the input reads as it did. -/
def fnMovedBySpec : ChangeSpec := { name := "fnMovedBy", fn := fun _ => fun
  | [d] => { results := [.lit (.bool true)], args := [d] }
  | _ => none }
def fnMovedByRow : OpenClaim := { program := "ytfofmfkdkihhbaa", sum := "8c8ab09dae1a8605acfdbd286cc2b31aff2ddd72d83e510eab06e7bfb3c0fce1", func := "loop.example/growingpictures/laws.FnMovedBy", spec := "fnMovedBy", unfollowed := true, recurses := true, apart := false }
def FnMovedBySaid : Prop := fnMovedByRow.holds Try.pinned (OpenSpec.ofChange fnMovedBySpec)

/-- ITS FALSE NEIGHBOUR: 'it returns false'. Refute it at one input. -/
def fnMovedByWrong : ChangeSpec := { name := "fnMovedBy", fn := fun _ => fun
  | [d] => { results := [.lit (.bool false)], args := [d] }
  | _ => none }
def FnMovedByWrongFalsely : Prop := fnMovedByRow.holds Try.pinned (OpenSpec.ofChange fnMovedByWrong)

/-- 'laws.FnDoubledOf': WHATEVER THE INPUT: true; the input reads as it did. -/
def fnDoubledOfSpec : ChangeSpec := { name := "fnDoubledOf", fn := fun _ => fun
  | [d] => { results := [.lit (.bool true)], args := [d] }
  | _ => none }
def fnDoubledOfRow : OpenClaim := { program := "ytfofmfkdkihhbaa", sum := "8c8ab09dae1a8605acfdbd286cc2b31aff2ddd72d83e510eab06e7bfb3c0fce1", func := "loop.example/growingpictures/laws.FnDoubledOf", spec := "fnDoubledOf", unfollowed := true, recurses := true, apart := false }
def FnDoubledOfSaid : Prop := fnDoubledOfRow.holds Try.pinned (OpenSpec.ofChange fnDoubledOfSpec)

/-- ITS FALSE NEIGHBOUR: 'it returns false'. Refute it at one input. -/
def fnDoubledOfWrong : ChangeSpec := { name := "fnDoubledOf", fn := fun _ => fun
  | [d] => { results := [.lit (.bool false)], args := [d] }
  | _ => none }
def FnDoubledOfWrongFalsely : Prop := fnDoubledOfRow.holds Try.pinned (OpenSpec.ofChange fnDoubledOfWrong)

/-- 'laws.FnDifferencesOf': WHATEVER THE INPUT: true; the input reads as it did. -/
def fnDifferencesOfSpec : ChangeSpec := { name := "fnDifferencesOf", fn := fun _ => fun
  | [d] => { results := [.lit (.bool true)], args := [d] }
  | _ => none }
def fnDifferencesOfRow : OpenClaim := { program := "ytfofmfkdkihhbaa", sum := "8c8ab09dae1a8605acfdbd286cc2b31aff2ddd72d83e510eab06e7bfb3c0fce1", func := "loop.example/growingpictures/laws.FnDifferencesOf", spec := "fnDifferencesOf", unfollowed := true, recurses := true, apart := false }
def FnDifferencesOfSaid : Prop := fnDifferencesOfRow.holds Try.pinned (OpenSpec.ofChange fnDifferencesOfSpec)

/-- ITS FALSE NEIGHBOUR: 'it returns false'. Refute it at one input. -/
def fnDifferencesOfWrong : ChangeSpec := { name := "fnDifferencesOf", fn := fun _ => fun
  | [d] => { results := [.lit (.bool false)], args := [d] }
  | _ => none }
def FnDifferencesOfWrongFalsely : Prop := fnDifferencesOfRow.holds Try.pinned (OpenSpec.ofChange fnDifferencesOfWrong)

/-- 'laws.FnBallOf': WHATEVER THE INPUT: true; the input reads as it did. -/
def fnBallOfSpec : ChangeSpec := { name := "fnBallOf", fn := fun _ => fun
  | [d] => { results := [.lit (.bool true)], args := [d] }
  | _ => none }
def fnBallOfRow : OpenClaim := { program := "ytfofmfkdkihhbaa", sum := "8c8ab09dae1a8605acfdbd286cc2b31aff2ddd72d83e510eab06e7bfb3c0fce1", func := "loop.example/growingpictures/laws.FnBallOf", spec := "fnBallOf", unfollowed := true, recurses := true, apart := false }
def FnBallOfSaid : Prop := fnBallOfRow.holds Try.pinned (OpenSpec.ofChange fnBallOfSpec)

/-- ITS FALSE NEIGHBOUR: 'it returns false'. Refute it at one input. -/
def fnBallOfWrong : ChangeSpec := { name := "fnBallOf", fn := fun _ => fun
  | [d] => { results := [.lit (.bool false)], args := [d] }
  | _ => none }
def FnBallOfWrongFalsely : Prop := fnBallOfRow.holds Try.pinned (OpenSpec.ofChange fnBallOfWrong)

/-- 'laws.FnFarFrom': WHATEVER THE INPUT: true; the input reads as it did. -/
def fnFarFromSpec : ChangeSpec := { name := "fnFarFrom", fn := fun _ => fun
  | [d] => { results := [.lit (.bool true)], args := [d] }
  | _ => none }
def fnFarFromRow : OpenClaim := { program := "ytfofmfkdkihhbaa", sum := "8c8ab09dae1a8605acfdbd286cc2b31aff2ddd72d83e510eab06e7bfb3c0fce1", func := "loop.example/growingpictures/laws.FnFarFrom", spec := "fnFarFrom", unfollowed := true, recurses := true, apart := false }
def FnFarFromSaid : Prop := fnFarFromRow.holds Try.pinned (OpenSpec.ofChange fnFarFromSpec)

/-- ITS FALSE NEIGHBOUR: 'it returns false'. Refute it at one input. -/
def fnFarFromWrong : ChangeSpec := { name := "fnFarFrom", fn := fun _ => fun
  | [d] => { results := [.lit (.bool false)], args := [d] }
  | _ => none }
def FnFarFromWrongFalsely : Prop := fnFarFromRow.holds Try.pinned (OpenSpec.ofChange fnFarFromWrong)

/-- 'laws.FnGrownBall': WHATEVER THE INPUT: true; the input reads as it did. -/
def fnGrownBallSpec : ChangeSpec := { name := "fnGrownBall", fn := fun _ => fun
  | [d] => { results := [.lit (.bool true)], args := [d] }
  | _ => none }
def fnGrownBallRow : OpenClaim := { program := "ytfofmfkdkihhbaa", sum := "8c8ab09dae1a8605acfdbd286cc2b31aff2ddd72d83e510eab06e7bfb3c0fce1", func := "loop.example/growingpictures/laws.FnGrownBall", spec := "fnGrownBall", unfollowed := true, recurses := true, apart := false }
def FnGrownBallSaid : Prop := fnGrownBallRow.holds Try.pinned (OpenSpec.ofChange fnGrownBallSpec)

/-- ITS FALSE NEIGHBOUR: 'it returns false'. Refute it at one input. -/
def fnGrownBallWrong : ChangeSpec := { name := "fnGrownBall", fn := fun _ => fun
  | [d] => { results := [.lit (.bool false)], args := [d] }
  | _ => none }
def FnGrownBallWrongFalsely : Prop := fnGrownBallRow.holds Try.pinned (OpenSpec.ofChange fnGrownBallWrong)

/- THE SECOND FORM. 'bulk': how many values and letters a reading holds, each counted each time it is reached (what is shared counts as often as it is met; a slice's spare places count too). A statement '..UptoSaid' is the law's where the arguments, and the package variables that the reading takes, are together of bulk at most 1048576: NARROWER than '..Said'. Prove '..Said' where nothing that the law and all that it calls make is longer than what came in: it says more and counts as full. Else prove '..UptoSaid'. A law counts once. -/
mutual
def uptoBulk {H : Type} : DataW H → Nat
  | .lit (.string bytes) => bytes.length + 1
  | .lit _ => 1
  | .nil => 1
  | .ptr d => uptoBulk d + 1
  | .slice elems spare => uptoBulkAll elems + uptoBulkAll spare + 1
  | .agg parts => uptoBulkAll parts + 1
  | .iface _ d => uptoBulk d + 1
  | .map entries => uptoBulkEntries entries + 1
  | .held _ => 1
def uptoBulkAll {H : Type} : List (DataW H) → Nat
  | [] => 0
  | d :: r => uptoBulk d + uptoBulkAll r
def uptoBulkEntries {H : Type} : List (Lit × DataW H) → Nat
  | [] => 0
  | x :: r => uptoBulkEntry x + uptoBulkEntries r
def uptoBulkEntry {H : Type} : Lit × DataW H → Nat
  | (.string bytes, d) => bytes.length + uptoBulk d + 1
  | (_, d) => uptoBulk d + 1
 end
def uptoSmall : (H : Type) → List (DataW H) → Bool := fun _ ds => decide (uptoBulkAll ds ≤ 1048576)
def OpenSpec.upto (s : _root_.Go.ChangeSpec) : _root_.Go.OpenSpec := { _root_.Go.OpenSpec.ofChange s with cond := some uptoSmall }

/-- 'laws.FnHasSpot', WHERE WHAT IT READS IS OF BULK AT MOST 1048576: true; the input reads as it did. -/
def fnHasSpotUptoRow : OpenClaim := { program := "ytfofmfkdkihhbaa", sum := "8c8ab09dae1a8605acfdbd286cc2b31aff2ddd72d83e510eab06e7bfb3c0fce1", func := "loop.example/growingpictures/laws.FnHasSpot", spec := "fnHasSpot", unfollowed := true, recurses := true, apart := false, narrowed := true }
def FnHasSpotUptoSaid : Prop := fnHasSpotUptoRow.holds Try.pinned (OpenSpec.upto fnHasSpotSpec)

/-- 'laws.FnExactHasSpot', WHERE WHAT IT READS IS OF BULK AT MOST 1048576: true; the input reads as it did. -/
def fnExactHasSpotUptoRow : OpenClaim := { program := "ytfofmfkdkihhbaa", sum := "8c8ab09dae1a8605acfdbd286cc2b31aff2ddd72d83e510eab06e7bfb3c0fce1", func := "loop.example/growingpictures/laws.FnExactHasSpot", spec := "fnExactHasSpot", unfollowed := true, recurses := true, apart := false, narrowed := true }
def FnExactHasSpotUptoSaid : Prop := fnExactHasSpotUptoRow.holds Try.pinned (OpenSpec.upto fnExactHasSpotSpec)

/-- 'laws.FnMovedBy', WHERE WHAT IT READS IS OF BULK AT MOST 1048576: true; the input reads as it did. -/
def fnMovedByUptoRow : OpenClaim := { program := "ytfofmfkdkihhbaa", sum := "8c8ab09dae1a8605acfdbd286cc2b31aff2ddd72d83e510eab06e7bfb3c0fce1", func := "loop.example/growingpictures/laws.FnMovedBy", spec := "fnMovedBy", unfollowed := true, recurses := true, apart := false, narrowed := true }
def FnMovedByUptoSaid : Prop := fnMovedByUptoRow.holds Try.pinned (OpenSpec.upto fnMovedBySpec)

/-- 'laws.FnDoubledOf', WHERE WHAT IT READS IS OF BULK AT MOST 1048576: true; the input reads as it did. -/
def fnDoubledOfUptoRow : OpenClaim := { program := "ytfofmfkdkihhbaa", sum := "8c8ab09dae1a8605acfdbd286cc2b31aff2ddd72d83e510eab06e7bfb3c0fce1", func := "loop.example/growingpictures/laws.FnDoubledOf", spec := "fnDoubledOf", unfollowed := true, recurses := true, apart := false, narrowed := true }
def FnDoubledOfUptoSaid : Prop := fnDoubledOfUptoRow.holds Try.pinned (OpenSpec.upto fnDoubledOfSpec)

/-- 'laws.FnDifferencesOf', WHERE WHAT IT READS IS OF BULK AT MOST 1048576: true; the input reads as it did. -/
def fnDifferencesOfUptoRow : OpenClaim := { program := "ytfofmfkdkihhbaa", sum := "8c8ab09dae1a8605acfdbd286cc2b31aff2ddd72d83e510eab06e7bfb3c0fce1", func := "loop.example/growingpictures/laws.FnDifferencesOf", spec := "fnDifferencesOf", unfollowed := true, recurses := true, apart := false, narrowed := true }
def FnDifferencesOfUptoSaid : Prop := fnDifferencesOfUptoRow.holds Try.pinned (OpenSpec.upto fnDifferencesOfSpec)

/-- 'laws.FnBallOf', WHERE WHAT IT READS IS OF BULK AT MOST 1048576: true; the input reads as it did. -/
def fnBallOfUptoRow : OpenClaim := { program := "ytfofmfkdkihhbaa", sum := "8c8ab09dae1a8605acfdbd286cc2b31aff2ddd72d83e510eab06e7bfb3c0fce1", func := "loop.example/growingpictures/laws.FnBallOf", spec := "fnBallOf", unfollowed := true, recurses := true, apart := false, narrowed := true }
def FnBallOfUptoSaid : Prop := fnBallOfUptoRow.holds Try.pinned (OpenSpec.upto fnBallOfSpec)

/-- 'laws.FnFarFrom', WHERE WHAT IT READS IS OF BULK AT MOST 1048576: true; the input reads as it did. -/
def fnFarFromUptoRow : OpenClaim := { program := "ytfofmfkdkihhbaa", sum := "8c8ab09dae1a8605acfdbd286cc2b31aff2ddd72d83e510eab06e7bfb3c0fce1", func := "loop.example/growingpictures/laws.FnFarFrom", spec := "fnFarFrom", unfollowed := true, recurses := true, apart := false, narrowed := true }
def FnFarFromUptoSaid : Prop := fnFarFromUptoRow.holds Try.pinned (OpenSpec.upto fnFarFromSpec)

/-- 'laws.FnGrownBall', WHERE WHAT IT READS IS OF BULK AT MOST 1048576: true; the input reads as it did. -/
def fnGrownBallUptoRow : OpenClaim := { program := "ytfofmfkdkihhbaa", sum := "8c8ab09dae1a8605acfdbd286cc2b31aff2ddd72d83e510eab06e7bfb3c0fce1", func := "loop.example/growingpictures/laws.FnGrownBall", spec := "fnGrownBall", unfollowed := true, recurses := true, apart := false, narrowed := true }
def FnGrownBallUptoSaid : Prop := fnGrownBallUptoRow.holds Try.pinned (OpenSpec.upto fnGrownBallSpec)

end Rows
end Go.Proofs.Ytfofmfkdkihhbaa
