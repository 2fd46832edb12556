/-
  No cell of these rows narrows 'for every input' (looked for: loops, veiled, ifaces, maps, wideKeys, modest, calm, conditions, laid).
  DERIVED. THE GIVEN ROWS OF THIS SEAT. 10 by the template 'for every input the law returns true; each argument reads behind the call as it read before'; 0 by the template 'total and deterministic' (their statements: YtpdpfjebikdgjaaTotals.lean).
  GIVEN WITH THE SEED: the statements are not yours to turn. If you find one false, say at which input.
  Laid BY PROGRAM, IN A SANDBOX (cutbox-rows.mjs): the forced cells as the released guide's own fill.sh prints them over the translation c291ca4230d100c8… (all of the seat's roots in one cut). By AI agents, Wed Nov 11 2026. No macro, syntax, notation, axiom, sorry.
-/
import Derived.Test.YtpdpfjebikdgjaaChecked
import GoSem.Claim
import GoSem.ClaimJoined
import GoSem.ClaimMapViews
import Derived.JoinedTies
import Derived.KernelRfl
namespace Go.Proofs.Ytpdpfjebikdgjaa
/- THE CELL 'sum', in the pinned program and in every row, IS THE sha256 OF THE DUMP (.gsa) THAT YtpdpfjebikdgjaaProg.lean LOADS. Nothing in Lean hashes anything: it is a label: what it is worth is what the hold of that sum in a sandbox is worth. -/
noncomputable def Try.pinned : Pinned := { name := "ytpdpfjebikdgjaa", sum := "c291ca4230d100c8d09958251e94d10c21acfd3800c8263c5323fab26072fc3d", checked := Try.checked }
namespace Rows
def none {H : Type} : Left H := { results := [], args := [] }

/-- 'laws.FnDistanceOf': WHATEVER THE INPUT: true; the input reads as it did. -/
def fnDistanceOfSpec : ChangeSpec := { name := "fnDistanceOf", fn := fun _ => fun
  | [d1, d2] => { results := [.lit (.bool true)], args := [d1, d2] }
  | _ => none }
def fnDistanceOfRow : OpenClaim := { program := "ytpdpfjebikdgjaa", sum := "c291ca4230d100c8d09958251e94d10c21acfd3800c8263c5323fab26072fc3d", func := "loop.example/growingpictures/laws.FnDistanceOf", spec := "fnDistanceOf", unfollowed := true, recurses := true, apart := false }
def FnDistanceOfSaid : Prop := fnDistanceOfRow.holds Try.pinned (OpenSpec.ofChange fnDistanceOfSpec)

/-- ITS FALSE NEIGHBOUR: 'it returns false'. Refute it at one input. -/
def fnDistanceOfWrong : ChangeSpec := { name := "fnDistanceOf", fn := fun _ => fun
  | [d1, d2] => { results := [.lit (.bool false)], args := [d1, d2] }
  | _ => none }
def FnDistanceOfWrongFalsely : Prop := fnDistanceOfRow.holds Try.pinned (OpenSpec.ofChange fnDistanceOfWrong)

/-- 'laws.FnBallOf': WHATEVER THE INPUT: true; the input reads as it did. -/
def fnBallOfSpec : ChangeSpec := { name := "fnBallOf", fn := fun _ => fun
  | [d] => { results := [.lit (.bool true)], args := [d] }
  | _ => none }
def fnBallOfRow : OpenClaim := { program := "ytpdpfjebikdgjaa", sum := "c291ca4230d100c8d09958251e94d10c21acfd3800c8263c5323fab26072fc3d", func := "loop.example/growingpictures/laws.FnBallOf", spec := "fnBallOf", unfollowed := true, recurses := true, apart := false }
def FnBallOfSaid : Prop := fnBallOfRow.holds Try.pinned (OpenSpec.ofChange fnBallOfSpec)

/-- ITS FALSE NEIGHBOUR: 'it returns false'. Refute it at one input. -/
def fnBallOfWrong : ChangeSpec := { name := "fnBallOf", fn := fun _ => fun
  | [d] => { results := [.lit (.bool false)], args := [d] }
  | _ => none }
def FnBallOfWrongFalsely : Prop := fnBallOfRow.holds Try.pinned (OpenSpec.ofChange fnBallOfWrong)

/-- 'laws.FnFarFrom': WHATEVER THE INPUT: true; the input reads as it did. -/
def fnFarFromSpec : ChangeSpec := { name := "fnFarFrom", fn := fun _ => fun
  | [d] => { results := [.lit (.bool true)], args := [d] }
  | _ => none }
def fnFarFromRow : OpenClaim := { program := "ytpdpfjebikdgjaa", sum := "c291ca4230d100c8d09958251e94d10c21acfd3800c8263c5323fab26072fc3d", func := "loop.example/growingpictures/laws.FnFarFrom", spec := "fnFarFrom", unfollowed := true, recurses := true, apart := false }
def FnFarFromSaid : Prop := fnFarFromRow.holds Try.pinned (OpenSpec.ofChange fnFarFromSpec)

/-- ITS FALSE NEIGHBOUR: 'it returns false'. Refute it at one input. -/
def fnFarFromWrong : ChangeSpec := { name := "fnFarFrom", fn := fun _ => fun
  | [d] => { results := [.lit (.bool false)], args := [d] }
  | _ => none }
def FnFarFromWrongFalsely : Prop := fnFarFromRow.holds Try.pinned (OpenSpec.ofChange fnFarFromWrong)

/-- 'laws.FnGrownBall': WHATEVER THE INPUT: true; the input reads as it did. -/
def fnGrownBallSpec : ChangeSpec := { name := "fnGrownBall", fn := fun _ => fun
  | [d] => { results := [.lit (.bool true)], args := [d] }
  | _ => none }
def fnGrownBallRow : OpenClaim := { program := "ytpdpfjebikdgjaa", sum := "c291ca4230d100c8d09958251e94d10c21acfd3800c8263c5323fab26072fc3d", func := "loop.example/growingpictures/laws.FnGrownBall", spec := "fnGrownBall", unfollowed := true, recurses := true, apart := false }
def FnGrownBallSaid : Prop := fnGrownBallRow.holds Try.pinned (OpenSpec.ofChange fnGrownBallSpec)

/-- ITS FALSE NEIGHBOUR: 'it returns false'. Refute it at one input. -/
def fnGrownBallWrong : ChangeSpec := { name := "fnGrownBall", fn := fun _ => fun
  | [d] => { results := [.lit (.bool false)], args := [d] }
  | _ => none }
def FnGrownBallWrongFalsely : Prop := fnGrownBallRow.holds Try.pinned (OpenSpec.ofChange fnGrownBallWrong)

/-- 'laws.FnCountBall': WHATEVER THE INPUT: true; the input reads as it did. -/
def fnCountBallSpec : ChangeSpec := { name := "fnCountBall", fn := fun _ => fun
  | [d] => { results := [.lit (.bool true)], args := [d] }
  | _ => none }
def fnCountBallRow : OpenClaim := { program := "ytpdpfjebikdgjaa", sum := "c291ca4230d100c8d09958251e94d10c21acfd3800c8263c5323fab26072fc3d", func := "loop.example/growingpictures/laws.FnCountBall", spec := "fnCountBall", unfollowed := true, recurses := true, apart := false }
def FnCountBallSaid : Prop := fnCountBallRow.holds Try.pinned (OpenSpec.ofChange fnCountBallSpec)

/-- ITS FALSE NEIGHBOUR: 'it returns false'. Refute it at one input. -/
def fnCountBallWrong : ChangeSpec := { name := "fnCountBall", fn := fun _ => fun
  | [d] => { results := [.lit (.bool false)], args := [d] }
  | _ => none }
def FnCountBallWrongFalsely : Prop := fnCountBallRow.holds Try.pinned (OpenSpec.ofChange fnCountBallWrong)

/-- 'laws.FnExactDistanceOf': WHATEVER THE INPUT: true; the input reads as it did. -/
def fnExactDistanceOfSpec : ChangeSpec := { name := "fnExactDistanceOf", fn := fun _ => fun
  | [d1, d2, d3] => { results := [.lit (.bool true)], args := [d1, d2, d3] }
  | _ => none }
def fnExactDistanceOfRow : OpenClaim := { program := "ytpdpfjebikdgjaa", sum := "c291ca4230d100c8d09958251e94d10c21acfd3800c8263c5323fab26072fc3d", func := "loop.example/growingpictures/laws.FnExactDistanceOf", spec := "fnExactDistanceOf", unfollowed := true, recurses := true, apart := false }
def FnExactDistanceOfSaid : Prop := fnExactDistanceOfRow.holds Try.pinned (OpenSpec.ofChange fnExactDistanceOfSpec)

/-- ITS FALSE NEIGHBOUR: 'it returns false'. Refute it at one input. -/
def fnExactDistanceOfWrong : ChangeSpec := { name := "fnExactDistanceOf", fn := fun _ => fun
  | [d1, d2, d3] => { results := [.lit (.bool false)], args := [d1, d2, d3] }
  | _ => none }
def FnExactDistanceOfWrongFalsely : Prop := fnExactDistanceOfRow.holds Try.pinned (OpenSpec.ofChange fnExactDistanceOfWrong)

/-- 'laws.FnExactBallOf': WHATEVER THE INPUT: true; the input reads as it did. -/
def fnExactBallOfSpec : ChangeSpec := { name := "fnExactBallOf", fn := fun _ => fun
  | [d1, d2] => { results := [.lit (.bool true)], args := [d1, d2] }
  | _ => none }
def fnExactBallOfRow : OpenClaim := { program := "ytpdpfjebikdgjaa", sum := "c291ca4230d100c8d09958251e94d10c21acfd3800c8263c5323fab26072fc3d", func := "loop.example/growingpictures/laws.FnExactBallOf", spec := "fnExactBallOf", unfollowed := true, recurses := true, apart := false }
def FnExactBallOfSaid : Prop := fnExactBallOfRow.holds Try.pinned (OpenSpec.ofChange fnExactBallOfSpec)

/-- ITS FALSE NEIGHBOUR: 'it returns false'. Refute it at one input. -/
def fnExactBallOfWrong : ChangeSpec := { name := "fnExactBallOf", fn := fun _ => fun
  | [d1, d2] => { results := [.lit (.bool false)], args := [d1, d2] }
  | _ => none }
def FnExactBallOfWrongFalsely : Prop := fnExactBallOfRow.holds Try.pinned (OpenSpec.ofChange fnExactBallOfWrong)

/-- 'laws.FnExactFarFrom': WHATEVER THE INPUT: true; the input reads as it did. -/
def fnExactFarFromSpec : ChangeSpec := { name := "fnExactFarFrom", fn := fun _ => fun
  | [d1, d2, d3] => { results := [.lit (.bool true)], args := [d1, d2, d3] }
  | _ => none }
def fnExactFarFromRow : OpenClaim := { program := "ytpdpfjebikdgjaa", sum := "c291ca4230d100c8d09958251e94d10c21acfd3800c8263c5323fab26072fc3d", func := "loop.example/growingpictures/laws.FnExactFarFrom", spec := "fnExactFarFrom", unfollowed := true, recurses := true, apart := false }
def FnExactFarFromSaid : Prop := fnExactFarFromRow.holds Try.pinned (OpenSpec.ofChange fnExactFarFromSpec)

/-- ITS FALSE NEIGHBOUR: 'it returns false'. Refute it at one input. -/
def fnExactFarFromWrong : ChangeSpec := { name := "fnExactFarFrom", fn := fun _ => fun
  | [d1, d2, d3] => { results := [.lit (.bool false)], args := [d1, d2, d3] }
  | _ => none }
def FnExactFarFromWrongFalsely : Prop := fnExactFarFromRow.holds Try.pinned (OpenSpec.ofChange fnExactFarFromWrong)

/-- 'laws.FnExactGrownBall': WHATEVER THE INPUT: true; the input reads as it did. -/
def fnExactGrownBallSpec : ChangeSpec := { name := "fnExactGrownBall", fn := fun _ => fun
  | [d1, d2, d3] => { results := [.lit (.bool true)], args := [d1, d2, d3] }
  | _ => none }
def fnExactGrownBallRow : OpenClaim := { program := "ytpdpfjebikdgjaa", sum := "c291ca4230d100c8d09958251e94d10c21acfd3800c8263c5323fab26072fc3d", func := "loop.example/growingpictures/laws.FnExactGrownBall", spec := "fnExactGrownBall", unfollowed := true, recurses := true, apart := false }
def FnExactGrownBallSaid : Prop := fnExactGrownBallRow.holds Try.pinned (OpenSpec.ofChange fnExactGrownBallSpec)

/-- ITS FALSE NEIGHBOUR: 'it returns false'. Refute it at one input. -/
def fnExactGrownBallWrong : ChangeSpec := { name := "fnExactGrownBall", fn := fun _ => fun
  | [d1, d2, d3] => { results := [.lit (.bool false)], args := [d1, d2, d3] }
  | _ => none }
def FnExactGrownBallWrongFalsely : Prop := fnExactGrownBallRow.holds Try.pinned (OpenSpec.ofChange fnExactGrownBallWrong)

/-- 'laws.FnExactCountBall': WHATEVER THE INPUT: true; the input reads as it did. -/
def fnExactCountBallSpec : ChangeSpec := { name := "fnExactCountBall", fn := fun _ => fun
  | [d1, d2] => { results := [.lit (.bool true)], args := [d1, d2] }
  | _ => none }
def fnExactCountBallRow : OpenClaim := { program := "ytpdpfjebikdgjaa", sum := "c291ca4230d100c8d09958251e94d10c21acfd3800c8263c5323fab26072fc3d", func := "loop.example/growingpictures/laws.FnExactCountBall", spec := "fnExactCountBall", unfollowed := true, recurses := true, apart := false }
def FnExactCountBallSaid : Prop := fnExactCountBallRow.holds Try.pinned (OpenSpec.ofChange fnExactCountBallSpec)

/-- ITS FALSE NEIGHBOUR: 'it returns false'. Refute it at one input. -/
def fnExactCountBallWrong : ChangeSpec := { name := "fnExactCountBall", fn := fun _ => fun
  | [d1, d2] => { results := [.lit (.bool false)], args := [d1, d2] }
  | _ => none }
def FnExactCountBallWrongFalsely : Prop := fnExactCountBallRow.holds Try.pinned (OpenSpec.ofChange fnExactCountBallWrong)

/- THE SECOND FORM. 'bulk': how many values and letters a reading holds, each counted each time it is reached (what is shared counts as often as it is met; a slice's spare places count too). A statement '..UptoSaid' is the law's where the arguments, and the package variables that the reading takes, are together of bulk at most 1048576: NARROWER than '..Said'. Prove '..Said' where nothing that the law and all that it calls make is longer than what came in: it says more and counts as full. Else prove '..UptoSaid'. A law counts once. -/
mutual
def uptoBulk {H : Type} : DataW H → Nat
  | .lit (.string bytes) => bytes.length + 1
  | .lit _ => 1
  | .nil => 1
  | .ptr d => uptoBulk d + 1
  | .slice elems spare => uptoBulkAll elems + uptoBulkAll spare + 1
  | .agg parts => uptoBulkAll parts + 1
  | .iface _ d => uptoBulk d + 1
  | .map entries => uptoBulkEntries entries + 1
  | .held _ => 1
def uptoBulkAll {H : Type} : List (DataW H) → Nat
  | [] => 0
  | d :: r => uptoBulk d + uptoBulkAll r
def uptoBulkEntries {H : Type} : List (Lit × DataW H) → Nat
  | [] => 0
  | x :: r => uptoBulkEntry x + uptoBulkEntries r
def uptoBulkEntry {H : Type} : Lit × DataW H → Nat
  | (.string bytes, d) => bytes.length + uptoBulk d + 1
  | (_, d) => uptoBulk d + 1
 end
def uptoSmall : (H : Type) → List (DataW H) → Bool := fun _ ds => decide (uptoBulkAll ds ≤ 1048576)
def OpenSpec.upto (s : _root_.Go.ChangeSpec) : _root_.Go.OpenSpec := { _root_.Go.OpenSpec.ofChange s with cond := some uptoSmall }

/-- 'laws.FnDistanceOf', WHERE WHAT IT READS IS OF BULK AT MOST 1048576: true; the input reads as it did. -/
def fnDistanceOfUptoRow : OpenClaim := { program := "ytpdpfjebikdgjaa", sum := "c291ca4230d100c8d09958251e94d10c21acfd3800c8263c5323fab26072fc3d", func := "loop.example/growingpictures/laws.FnDistanceOf", spec := "fnDistanceOf", unfollowed := true, recurses := true, apart := false, narrowed := true }
def FnDistanceOfUptoSaid : Prop := fnDistanceOfUptoRow.holds Try.pinned (OpenSpec.upto fnDistanceOfSpec)

/-- 'laws.FnBallOf', WHERE WHAT IT READS IS OF BULK AT MOST 1048576: true; the input reads as it did. -/
def fnBallOfUptoRow : OpenClaim := { program := "ytpdpfjebikdgjaa", sum := "c291ca4230d100c8d09958251e94d10c21acfd3800c8263c5323fab26072fc3d", func := "loop.example/growingpictures/laws.FnBallOf", spec := "fnBallOf", unfollowed := true, recurses := true, apart := false, narrowed := true }
def FnBallOfUptoSaid : Prop := fnBallOfUptoRow.holds Try.pinned (OpenSpec.upto fnBallOfSpec)

/-- 'laws.FnFarFrom', WHERE WHAT IT READS IS OF BULK AT MOST 1048576: true; the input reads as it did. -/
def fnFarFromUptoRow : OpenClaim := { program := "ytpdpfjebikdgjaa", sum := "c291ca4230d100c8d09958251e94d10c21acfd3800c8263c5323fab26072fc3d", func := "loop.example/growingpictures/laws.FnFarFrom", spec := "fnFarFrom", unfollowed := true, recurses := true, apart := false, narrowed := true }
def FnFarFromUptoSaid : Prop := fnFarFromUptoRow.holds Try.pinned (OpenSpec.upto fnFarFromSpec)

/-- 'laws.FnGrownBall', WHERE WHAT IT READS IS OF BULK AT MOST 1048576: true; the input reads as it did. -/
def fnGrownBallUptoRow : OpenClaim := { program := "ytpdpfjebikdgjaa", sum := "c291ca4230d100c8d09958251e94d10c21acfd3800c8263c5323fab26072fc3d", func := "loop.example/growingpictures/laws.FnGrownBall", spec := "fnGrownBall", unfollowed := true, recurses := true, apart := false, narrowed := true }
def FnGrownBallUptoSaid : Prop := fnGrownBallUptoRow.holds Try.pinned (OpenSpec.upto fnGrownBallSpec)

/-- 'laws.FnCountBall', WHERE WHAT IT READS IS OF BULK AT MOST 1048576: true; the input reads as it did. -/
def fnCountBallUptoRow : OpenClaim := { program := "ytpdpfjebikdgjaa", sum := "c291ca4230d100c8d09958251e94d10c21acfd3800c8263c5323fab26072fc3d", func := "loop.example/growingpictures/laws.FnCountBall", spec := "fnCountBall", unfollowed := true, recurses := true, apart := false, narrowed := true }
def FnCountBallUptoSaid : Prop := fnCountBallUptoRow.holds Try.pinned (OpenSpec.upto fnCountBallSpec)

/-- 'laws.FnExactDistanceOf', WHERE WHAT IT READS IS OF BULK AT MOST 1048576: true; the input reads as it did. -/
def fnExactDistanceOfUptoRow : OpenClaim := { program := "ytpdpfjebikdgjaa", sum := "c291ca4230d100c8d09958251e94d10c21acfd3800c8263c5323fab26072fc3d", func := "loop.example/growingpictures/laws.FnExactDistanceOf", spec := "fnExactDistanceOf", unfollowed := true, recurses := true, apart := false, narrowed := true }
def FnExactDistanceOfUptoSaid : Prop := fnExactDistanceOfUptoRow.holds Try.pinned (OpenSpec.upto fnExactDistanceOfSpec)

/-- 'laws.FnExactBallOf', WHERE WHAT IT READS IS OF BULK AT MOST 1048576: true; the input reads as it did. -/
def fnExactBallOfUptoRow : OpenClaim := { program := "ytpdpfjebikdgjaa", sum := "c291ca4230d100c8d09958251e94d10c21acfd3800c8263c5323fab26072fc3d", func := "loop.example/growingpictures/laws.FnExactBallOf", spec := "fnExactBallOf", unfollowed := true, recurses := true, apart := false, narrowed := true }
def FnExactBallOfUptoSaid : Prop := fnExactBallOfUptoRow.holds Try.pinned (OpenSpec.upto fnExactBallOfSpec)

/-- 'laws.FnExactFarFrom', WHERE WHAT IT READS IS OF BULK AT MOST 1048576: true; the input reads as it did. -/
def fnExactFarFromUptoRow : OpenClaim := { program := "ytpdpfjebikdgjaa", sum := "c291ca4230d100c8d09958251e94d10c21acfd3800c8263c5323fab26072fc3d", func := "loop.example/growingpictures/laws.FnExactFarFrom", spec := "fnExactFarFrom", unfollowed := true, recurses := true, apart := false, narrowed := true }
def FnExactFarFromUptoSaid : Prop := fnExactFarFromUptoRow.holds Try.pinned (OpenSpec.upto fnExactFarFromSpec)

/-- 'laws.FnExactGrownBall', WHERE WHAT IT READS IS OF BULK AT MOST 1048576: true; the input reads as it did. -/
def fnExactGrownBallUptoRow : OpenClaim := { program := "ytpdpfjebikdgjaa", sum := "c291ca4230d100c8d09958251e94d10c21acfd3800c8263c5323fab26072fc3d", func := "loop.example/growingpictures/laws.FnExactGrownBall", spec := "fnExactGrownBall", unfollowed := true, recurses := true, apart := false, narrowed := true }
def FnExactGrownBallUptoSaid : Prop := fnExactGrownBallUptoRow.holds Try.pinned (OpenSpec.upto fnExactGrownBallSpec)

/-- 'laws.FnExactCountBall', WHERE WHAT IT READS IS OF BULK AT MOST 1048576: true; the input reads as it did. -/
def fnExactCountBallUptoRow : OpenClaim := { program := "ytpdpfjebikdgjaa", sum := "c291ca4230d100c8d09958251e94d10c21acfd3800c8263c5323fab26072fc3d", func := "loop.example/growingpictures/laws.FnExactCountBall", spec := "fnExactCountBall", unfollowed := true, recurses := true, apart := false, narrowed := true }
def FnExactCountBallUptoSaid : Prop := fnExactCountBallUptoRow.holds Try.pinned (OpenSpec.upto fnExactCountBallSpec)

end Rows
end Go.Proofs.Ytpdpfjebikdgjaa
