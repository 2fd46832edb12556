/-
  No cell of these rows narrows 'for every input' (looked for: loops, veiled, ifaces, maps, wideKeys, modest, calm, conditions, laid).
  DERIVED. THE GIVEN ROWS OF THIS SEAT. 10 by the template 'for every input the law returns true; each argument reads behind the call as it read before'; 0 by the template 'total and deterministic' (their statements: YtiifklgfdhhfoaaTotals.lean).
  GIVEN WITH THE SEED: the statements are not yours to turn. If you find one false, say at which input.
  Laid BY PROGRAM, IN A SANDBOX (cutbox-rows.mjs): the forced cells as the released guide's own fill.sh prints them over the translation 071adb2c1b3ca595… (all of the seat's roots in one cut). By AI agents, Wed Nov 11 2026. No macro, syntax, notation, axiom, sorry.
-/
import Derived.Test.YtiifklgfdhhfoaaChecked
import GoSem.Claim
import GoSem.ClaimJoined
import GoSem.ClaimMapViews
import Derived.JoinedTies
import Derived.KernelRfl
namespace Go.Proofs.Ytiifklgfdhhfoaa
/- THE CELL 'sum', in the pinned program and in every row, IS THE sha256 OF THE DUMP (.gsa) THAT YtiifklgfdhhfoaaProg.lean LOADS. Nothing in Lean hashes anything: it is a label: what it is worth is what the hold of that sum in a sandbox is worth. -/
noncomputable def Try.pinned : Pinned := { name := "ytiifklgfdhhfoaa", sum := "071adb2c1b3ca59523ebca712ec14ef5a2c6fec54d0604c09d4c452c15bc2b07", checked := Try.checked }
namespace Rows
def none {H : Type} : Left H := { results := [], args := [] }

/-- 'laws.FnPatternOk': WHATEVER THE INPUT: true; the input reads as it did. -/
def fnPatternOkSpec : ChangeSpec := { name := "fnPatternOk", fn := fun _ => fun
  | [d] => { results := [.lit (.bool true)], args := [d] }
  | _ => none }
def fnPatternOkRow : OpenClaim := { program := "ytiifklgfdhhfoaa", sum := "071adb2c1b3ca59523ebca712ec14ef5a2c6fec54d0604c09d4c452c15bc2b07", func := "loop.example/growingpictures/laws.FnPatternOk", spec := "fnPatternOk", unfollowed := true, recurses := true, apart := false }
def FnPatternOkSaid : Prop := fnPatternOkRow.holds Try.pinned (OpenSpec.ofChange fnPatternOkSpec)

/-- ITS FALSE NEIGHBOUR: 'it returns false'. Refute it at one input. -/
def fnPatternOkWrong : ChangeSpec := { name := "fnPatternOk", fn := fun _ => fun
  | [d] => { results := [.lit (.bool false)], args := [d] }
  | _ => none }
def FnPatternOkWrongFalsely : Prop := fnPatternOkRow.holds Try.pinned (OpenSpec.ofChange fnPatternOkWrong)

/-- 'laws.FnFoundIn': WHATEVER THE INPUT: true; the input reads as it did. -/
def fnFoundInSpec : ChangeSpec := { name := "fnFoundIn", fn := fun _ => fun
  | [d] => { results := [.lit (.bool true)], args := [d] }
  | _ => none }
def fnFoundInRow : OpenClaim := { program := "ytiifklgfdhhfoaa", sum := "071adb2c1b3ca59523ebca712ec14ef5a2c6fec54d0604c09d4c452c15bc2b07", func := "loop.example/growingpictures/laws.FnFoundIn", spec := "fnFoundIn", unfollowed := true, recurses := true, apart := false }
def FnFoundInSaid : Prop := fnFoundInRow.holds Try.pinned (OpenSpec.ofChange fnFoundInSpec)

/-- ITS FALSE NEIGHBOUR: 'it returns false'. Refute it at one input. -/
def fnFoundInWrong : ChangeSpec := { name := "fnFoundIn", fn := fun _ => fun
  | [d] => { results := [.lit (.bool false)], args := [d] }
  | _ => none }
def FnFoundInWrongFalsely : Prop := fnFoundInRow.holds Try.pinned (OpenSpec.ofChange fnFoundInWrong)

/-- 'laws.FnThinnedBy': WHATEVER THE INPUT: true; the input reads as it did. -/
def fnThinnedBySpec : ChangeSpec := { name := "fnThinnedBy", fn := fun _ => fun
  | [d] => { results := [.lit (.bool true)], args := [d] }
  | _ => none }
def fnThinnedByRow : OpenClaim := { program := "ytiifklgfdhhfoaa", sum := "071adb2c1b3ca59523ebca712ec14ef5a2c6fec54d0604c09d4c452c15bc2b07", func := "loop.example/growingpictures/laws.FnThinnedBy", spec := "fnThinnedBy", unfollowed := true, recurses := true, apart := false }
def FnThinnedBySaid : Prop := fnThinnedByRow.holds Try.pinned (OpenSpec.ofChange fnThinnedBySpec)

/-- ITS FALSE NEIGHBOUR: 'it returns false'. Refute it at one input. -/
def fnThinnedByWrong : ChangeSpec := { name := "fnThinnedBy", fn := fun _ => fun
  | [d] => { results := [.lit (.bool false)], args := [d] }
  | _ => none }
def FnThinnedByWrongFalsely : Prop := fnThinnedByRow.holds Try.pinned (OpenSpec.ofChange fnThinnedByWrong)

/-- 'laws.FnLoneSpots': WHATEVER THE INPUT: true; the input reads as it did. -/
def fnLoneSpotsSpec : ChangeSpec := { name := "fnLoneSpots", fn := fun _ => fun
  | [d] => { results := [.lit (.bool true)], args := [d] }
  | _ => none }
def fnLoneSpotsRow : OpenClaim := { program := "ytiifklgfdhhfoaa", sum := "071adb2c1b3ca59523ebca712ec14ef5a2c6fec54d0604c09d4c452c15bc2b07", func := "loop.example/growingpictures/laws.FnLoneSpots", spec := "fnLoneSpots", unfollowed := true, recurses := true, apart := false }
def FnLoneSpotsSaid : Prop := fnLoneSpotsRow.holds Try.pinned (OpenSpec.ofChange fnLoneSpotsSpec)

/-- ITS FALSE NEIGHBOUR: 'it returns false'. Refute it at one input. -/
def fnLoneSpotsWrong : ChangeSpec := { name := "fnLoneSpots", fn := fun _ => fun
  | [d] => { results := [.lit (.bool false)], args := [d] }
  | _ => none }
def FnLoneSpotsWrongFalsely : Prop := fnLoneSpotsRow.holds Try.pinned (OpenSpec.ofChange fnLoneSpotsWrong)

/-- 'laws.FnBorderOf': WHATEVER THE INPUT: true; the input reads as it did. -/
def fnBorderOfSpec : ChangeSpec := { name := "fnBorderOf", fn := fun _ => fun
  | [d] => { results := [.lit (.bool true)], args := [d] }
  | _ => none }
def fnBorderOfRow : OpenClaim := { program := "ytiifklgfdhhfoaa", sum := "071adb2c1b3ca59523ebca712ec14ef5a2c6fec54d0604c09d4c452c15bc2b07", func := "loop.example/growingpictures/laws.FnBorderOf", spec := "fnBorderOf", unfollowed := true, recurses := true, apart := false }
def FnBorderOfSaid : Prop := fnBorderOfRow.holds Try.pinned (OpenSpec.ofChange fnBorderOfSpec)

/-- ITS FALSE NEIGHBOUR: 'it returns false'. Refute it at one input. -/
def fnBorderOfWrong : ChangeSpec := { name := "fnBorderOf", fn := fun _ => fun
  | [d] => { results := [.lit (.bool false)], args := [d] }
  | _ => none }
def FnBorderOfWrongFalsely : Prop := fnBorderOfRow.holds Try.pinned (OpenSpec.ofChange fnBorderOfWrong)

/-- 'laws.FnExactPatternOk': WHATEVER THE INPUT: true; the input reads as it did. -/
def fnExactPatternOkSpec : ChangeSpec := { name := "fnExactPatternOk", fn := fun _ => fun
  | [d] => { results := [.lit (.bool true)], args := [d] }
  | _ => none }
def fnExactPatternOkRow : OpenClaim := { program := "ytiifklgfdhhfoaa", sum := "071adb2c1b3ca59523ebca712ec14ef5a2c6fec54d0604c09d4c452c15bc2b07", func := "loop.example/growingpictures/laws.FnExactPatternOk", spec := "fnExactPatternOk", unfollowed := true, recurses := true, apart := false }
def FnExactPatternOkSaid : Prop := fnExactPatternOkRow.holds Try.pinned (OpenSpec.ofChange fnExactPatternOkSpec)

/-- ITS FALSE NEIGHBOUR: 'it returns false'. Refute it at one input. -/
def fnExactPatternOkWrong : ChangeSpec := { name := "fnExactPatternOk", fn := fun _ => fun
  | [d] => { results := [.lit (.bool false)], args := [d] }
  | _ => none }
def FnExactPatternOkWrongFalsely : Prop := fnExactPatternOkRow.holds Try.pinned (OpenSpec.ofChange fnExactPatternOkWrong)

/-- 'laws.FnExactFoundIn': WHATEVER THE INPUT: true; the input reads as it did. -/
def fnExactFoundInSpec : ChangeSpec := { name := "fnExactFoundIn", fn := fun _ => fun
  | [d1, d2] => { results := [.lit (.bool true)], args := [d1, d2] }
  | _ => none }
def fnExactFoundInRow : OpenClaim := { program := "ytiifklgfdhhfoaa", sum := "071adb2c1b3ca59523ebca712ec14ef5a2c6fec54d0604c09d4c452c15bc2b07", func := "loop.example/growingpictures/laws.FnExactFoundIn", spec := "fnExactFoundIn", unfollowed := true, recurses := true, apart := false }
def FnExactFoundInSaid : Prop := fnExactFoundInRow.holds Try.pinned (OpenSpec.ofChange fnExactFoundInSpec)

/-- ITS FALSE NEIGHBOUR: 'it returns false'. Refute it at one input. -/
def fnExactFoundInWrong : ChangeSpec := { name := "fnExactFoundIn", fn := fun _ => fun
  | [d1, d2] => { results := [.lit (.bool false)], args := [d1, d2] }
  | _ => none }
def FnExactFoundInWrongFalsely : Prop := fnExactFoundInRow.holds Try.pinned (OpenSpec.ofChange fnExactFoundInWrong)

/-- 'laws.FnExactThinnedBy': WHATEVER THE INPUT: true; the input reads as it did. -/
def fnExactThinnedBySpec : ChangeSpec := { name := "fnExactThinnedBy", fn := fun _ => fun
  | [d1, d2] => { results := [.lit (.bool true)], args := [d1, d2] }
  | _ => none }
def fnExactThinnedByRow : OpenClaim := { program := "ytiifklgfdhhfoaa", sum := "071adb2c1b3ca59523ebca712ec14ef5a2c6fec54d0604c09d4c452c15bc2b07", func := "loop.example/growingpictures/laws.FnExactThinnedBy", spec := "fnExactThinnedBy", unfollowed := true, recurses := true, apart := false }
def FnExactThinnedBySaid : Prop := fnExactThinnedByRow.holds Try.pinned (OpenSpec.ofChange fnExactThinnedBySpec)

/-- ITS FALSE NEIGHBOUR: 'it returns false'. Refute it at one input. -/
def fnExactThinnedByWrong : ChangeSpec := { name := "fnExactThinnedBy", fn := fun _ => fun
  | [d1, d2] => { results := [.lit (.bool false)], args := [d1, d2] }
  | _ => none }
def FnExactThinnedByWrongFalsely : Prop := fnExactThinnedByRow.holds Try.pinned (OpenSpec.ofChange fnExactThinnedByWrong)

/-- 'laws.FnExactLoneSpots': WHATEVER THE INPUT: true; the input reads as it did. -/
def fnExactLoneSpotsSpec : ChangeSpec := { name := "fnExactLoneSpots", fn := fun _ => fun
  | [d] => { results := [.lit (.bool true)], args := [d] }
  | _ => none }
def fnExactLoneSpotsRow : OpenClaim := { program := "ytiifklgfdhhfoaa", sum := "071adb2c1b3ca59523ebca712ec14ef5a2c6fec54d0604c09d4c452c15bc2b07", func := "loop.example/growingpictures/laws.FnExactLoneSpots", spec := "fnExactLoneSpots", unfollowed := true, recurses := true, apart := false }
def FnExactLoneSpotsSaid : Prop := fnExactLoneSpotsRow.holds Try.pinned (OpenSpec.ofChange fnExactLoneSpotsSpec)

/-- ITS FALSE NEIGHBOUR: 'it returns false'. Refute it at one input. -/
def fnExactLoneSpotsWrong : ChangeSpec := { name := "fnExactLoneSpots", fn := fun _ => fun
  | [d] => { results := [.lit (.bool false)], args := [d] }
  | _ => none }
def FnExactLoneSpotsWrongFalsely : Prop := fnExactLoneSpotsRow.holds Try.pinned (OpenSpec.ofChange fnExactLoneSpotsWrong)

/-- 'laws.FnExactBorderOf': WHATEVER THE INPUT: true; the input reads as it did. -/
def fnExactBorderOfSpec : ChangeSpec := { name := "fnExactBorderOf", fn := fun _ => fun
  | [d] => { results := [.lit (.bool true)], args := [d] }
  | _ => none }
def fnExactBorderOfRow : OpenClaim := { program := "ytiifklgfdhhfoaa", sum := "071adb2c1b3ca59523ebca712ec14ef5a2c6fec54d0604c09d4c452c15bc2b07", func := "loop.example/growingpictures/laws.FnExactBorderOf", spec := "fnExactBorderOf", unfollowed := true, recurses := true, apart := false }
def FnExactBorderOfSaid : Prop := fnExactBorderOfRow.holds Try.pinned (OpenSpec.ofChange fnExactBorderOfSpec)

/-- ITS FALSE NEIGHBOUR: 'it returns false'. Refute it at one input. -/
def fnExactBorderOfWrong : ChangeSpec := { name := "fnExactBorderOf", fn := fun _ => fun
  | [d] => { results := [.lit (.bool false)], args := [d] }
  | _ => none }
def FnExactBorderOfWrongFalsely : Prop := fnExactBorderOfRow.holds Try.pinned (OpenSpec.ofChange fnExactBorderOfWrong)

/- THE SECOND FORM. 'bulk': how many values and letters a reading holds, each counted each time it is reached (what is shared counts as often as it is met; a slice's spare places count too). A statement '..UptoSaid' is the law's where the arguments, and the package variables that the reading takes, are together of bulk at most 1048576: NARROWER than '..Said'. Prove '..Said' where nothing that the law and all that it calls make is longer than what came in: it says more and counts as full. Else prove '..UptoSaid'. A law counts once. -/
mutual
def uptoBulk {H : Type} : DataW H → Nat
  | .lit (.string bytes) => bytes.length + 1
  | .lit _ => 1
  | .nil => 1
  | .ptr d => uptoBulk d + 1
  | .slice elems spare => uptoBulkAll elems + uptoBulkAll spare + 1
  | .agg parts => uptoBulkAll parts + 1
  | .iface _ d => uptoBulk d + 1
  | .map entries => uptoBulkEntries entries + 1
  | .held _ => 1
def uptoBulkAll {H : Type} : List (DataW H) → Nat
  | [] => 0
  | d :: r => uptoBulk d + uptoBulkAll r
def uptoBulkEntries {H : Type} : List (Lit × DataW H) → Nat
  | [] => 0
  | x :: r => uptoBulkEntry x + uptoBulkEntries r
def uptoBulkEntry {H : Type} : Lit × DataW H → Nat
  | (.string bytes, d) => bytes.length + uptoBulk d + 1
  | (_, d) => uptoBulk d + 1
 end
def uptoSmall : (H : Type) → List (DataW H) → Bool := fun _ ds => decide (uptoBulkAll ds ≤ 1048576)
def OpenSpec.upto (s : _root_.Go.ChangeSpec) : _root_.Go.OpenSpec := { _root_.Go.OpenSpec.ofChange s with cond := some uptoSmall }

/-- 'laws.FnPatternOk', WHERE WHAT IT READS IS OF BULK AT MOST 1048576: true; the input reads as it did. -/
def fnPatternOkUptoRow : OpenClaim := { program := "ytiifklgfdhhfoaa", sum := "071adb2c1b3ca59523ebca712ec14ef5a2c6fec54d0604c09d4c452c15bc2b07", func := "loop.example/growingpictures/laws.FnPatternOk", spec := "fnPatternOk", unfollowed := true, recurses := true, apart := false, narrowed := true }
def FnPatternOkUptoSaid : Prop := fnPatternOkUptoRow.holds Try.pinned (OpenSpec.upto fnPatternOkSpec)

/-- 'laws.FnFoundIn', WHERE WHAT IT READS IS OF BULK AT MOST 1048576: true; the input reads as it did. -/
def fnFoundInUptoRow : OpenClaim := { program := "ytiifklgfdhhfoaa", sum := "071adb2c1b3ca59523ebca712ec14ef5a2c6fec54d0604c09d4c452c15bc2b07", func := "loop.example/growingpictures/laws.FnFoundIn", spec := "fnFoundIn", unfollowed := true, recurses := true, apart := false, narrowed := true }
def FnFoundInUptoSaid : Prop := fnFoundInUptoRow.holds Try.pinned (OpenSpec.upto fnFoundInSpec)

/-- 'laws.FnThinnedBy', WHERE WHAT IT READS IS OF BULK AT MOST 1048576: true; the input reads as it did. -/
def fnThinnedByUptoRow : OpenClaim := { program := "ytiifklgfdhhfoaa", sum := "071adb2c1b3ca59523ebca712ec14ef5a2c6fec54d0604c09d4c452c15bc2b07", func := "loop.example/growingpictures/laws.FnThinnedBy", spec := "fnThinnedBy", unfollowed := true, recurses := true, apart := false, narrowed := true }
def FnThinnedByUptoSaid : Prop := fnThinnedByUptoRow.holds Try.pinned (OpenSpec.upto fnThinnedBySpec)

/-- 'laws.FnLoneSpots', WHERE WHAT IT READS IS OF BULK AT MOST 1048576: true; the input reads as it did. -/
def fnLoneSpotsUptoRow : OpenClaim := { program := "ytiifklgfdhhfoaa", sum := "071adb2c1b3ca59523ebca712ec14ef5a2c6fec54d0604c09d4c452c15bc2b07", func := "loop.example/growingpictures/laws.FnLoneSpots", spec := "fnLoneSpots", unfollowed := true, recurses := true, apart := false, narrowed := true }
def FnLoneSpotsUptoSaid : Prop := fnLoneSpotsUptoRow.holds Try.pinned (OpenSpec.upto fnLoneSpotsSpec)

/-- 'laws.FnBorderOf', WHERE WHAT IT READS IS OF BULK AT MOST 1048576: true; the input reads as it did. -/
def fnBorderOfUptoRow : OpenClaim := { program := "ytiifklgfdhhfoaa", sum := "071adb2c1b3ca59523ebca712ec14ef5a2c6fec54d0604c09d4c452c15bc2b07", func := "loop.example/growingpictures/laws.FnBorderOf", spec := "fnBorderOf", unfollowed := true, recurses := true, apart := false, narrowed := true }
def FnBorderOfUptoSaid : Prop := fnBorderOfUptoRow.holds Try.pinned (OpenSpec.upto fnBorderOfSpec)

/-- 'laws.FnExactPatternOk', WHERE WHAT IT READS IS OF BULK AT MOST 1048576: true; the input reads as it did. -/
def fnExactPatternOkUptoRow : OpenClaim := { program := "ytiifklgfdhhfoaa", sum := "071adb2c1b3ca59523ebca712ec14ef5a2c6fec54d0604c09d4c452c15bc2b07", func := "loop.example/growingpictures/laws.FnExactPatternOk", spec := "fnExactPatternOk", unfollowed := true, recurses := true, apart := false, narrowed := true }
def FnExactPatternOkUptoSaid : Prop := fnExactPatternOkUptoRow.holds Try.pinned (OpenSpec.upto fnExactPatternOkSpec)

/-- 'laws.FnExactFoundIn', WHERE WHAT IT READS IS OF BULK AT MOST 1048576: true; the input reads as it did. -/
def fnExactFoundInUptoRow : OpenClaim := { program := "ytiifklgfdhhfoaa", sum := "071adb2c1b3ca59523ebca712ec14ef5a2c6fec54d0604c09d4c452c15bc2b07", func := "loop.example/growingpictures/laws.FnExactFoundIn", spec := "fnExactFoundIn", unfollowed := true, recurses := true, apart := false, narrowed := true }
def FnExactFoundInUptoSaid : Prop := fnExactFoundInUptoRow.holds Try.pinned (OpenSpec.upto fnExactFoundInSpec)

/-- 'laws.FnExactThinnedBy', WHERE WHAT IT READS IS OF BULK AT MOST 1048576: true; the input reads as it did. -/
def fnExactThinnedByUptoRow : OpenClaim := { program := "ytiifklgfdhhfoaa", sum := "071adb2c1b3ca59523ebca712ec14ef5a2c6fec54d0604c09d4c452c15bc2b07", func := "loop.example/growingpictures/laws.FnExactThinnedBy", spec := "fnExactThinnedBy", unfollowed := true, recurses := true, apart := false, narrowed := true }
def FnExactThinnedByUptoSaid : Prop := fnExactThinnedByUptoRow.holds Try.pinned (OpenSpec.upto fnExactThinnedBySpec)

/-- 'laws.FnExactLoneSpots', WHERE WHAT IT READS IS OF BULK AT MOST 1048576: true; the input reads as it did. -/
def fnExactLoneSpotsUptoRow : OpenClaim := { program := "ytiifklgfdhhfoaa", sum := "071adb2c1b3ca59523ebca712ec14ef5a2c6fec54d0604c09d4c452c15bc2b07", func := "loop.example/growingpictures/laws.FnExactLoneSpots", spec := "fnExactLoneSpots", unfollowed := true, recurses := true, apart := false, narrowed := true }
def FnExactLoneSpotsUptoSaid : Prop := fnExactLoneSpotsUptoRow.holds Try.pinned (OpenSpec.upto fnExactLoneSpotsSpec)

/-- 'laws.FnExactBorderOf', WHERE WHAT IT READS IS OF BULK AT MOST 1048576: true; the input reads as it did. -/
def fnExactBorderOfUptoRow : OpenClaim := { program := "ytiifklgfdhhfoaa", sum := "071adb2c1b3ca59523ebca712ec14ef5a2c6fec54d0604c09d4c452c15bc2b07", func := "loop.example/growingpictures/laws.FnExactBorderOf", spec := "fnExactBorderOf", unfollowed := true, recurses := true, apart := false, narrowed := true }
def FnExactBorderOfUptoSaid : Prop := fnExactBorderOfUptoRow.holds Try.pinned (OpenSpec.upto fnExactBorderOfSpec)

end Rows
end Go.Proofs.Ytiifklgfdhhfoaa
