/-
  No cell of these rows narrows 'for every input' (looked for: loops, veiled, ifaces, maps, wideKeys, modest, calm, conditions, laid).
  DERIVED. THE GIVEN ROWS OF THIS SEAT. 10 by the template 'for every input the law returns true; each argument reads behind the call as it read before'; 0 by the template 'total and deterministic' (their statements: YtbbeinhjkfjipaaTotals.lean).
  GIVEN WITH THE SEED: the statements are not yours to turn. If you find one false, say at which input.
  Laid BY PROGRAM, IN A SANDBOX (cutbox-rows.mjs): the forced cells as the released guide's own fill.sh prints them over the translation a01b831d86eec5f7… (all of the seat's roots in one cut). By AI agents, Wed Nov 11 2026. No macro, syntax, notation, axiom, sorry.
-/
import Derived.Test.YtbbeinhjkfjipaaChecked
import GoSem.Claim
import GoSem.ClaimJoined
import GoSem.ClaimMapViews
import Derived.JoinedTies
import Derived.KernelRfl
namespace Go.Proofs.Ytbbeinhjkfjipaa
/- THE CELL 'sum', in the pinned program and in every row, IS THE sha256 OF THE DUMP (.gsa) THAT YtbbeinhjkfjipaaProg.lean LOADS. Nothing in Lean hashes anything: it is a label: what it is worth is what the hold of that sum in a sandbox is worth. -/
noncomputable def Try.pinned : Pinned := { name := "ytbbeinhjkfjipaa", sum := "a01b831d86eec5f7645150007fdc0f03bf5b092e5eefd592811419292eac8bb5", checked := Try.checked }
namespace Rows
def none {H : Type} : Left H := { results := [], args := [] }

/-- 'laws.FnCornersOf': WHATEVER THE INPUT: true; the input reads as it did. -/
def fnCornersOfSpec : ChangeSpec := { name := "fnCornersOf", fn := fun _ => fun
  | [d] => { results := [.lit (.bool true)], args := [d] }
  | _ => none }
def fnCornersOfRow : OpenClaim := { program := "ytbbeinhjkfjipaa", sum := "a01b831d86eec5f7645150007fdc0f03bf5b092e5eefd592811419292eac8bb5", func := "loop.example/growingpictures/laws.FnCornersOf", spec := "fnCornersOf", unfollowed := true, recurses := true, plainKeys := false, apart := false }
def FnCornersOfSaid : Prop := fnCornersOfRow.holds Try.pinned (OpenSpec.ofChange fnCornersOfSpec)

/-- ITS FALSE NEIGHBOUR: 'it returns false'. Refute it at one input. -/
def fnCornersOfWrong : ChangeSpec := { name := "fnCornersOf", fn := fun _ => fun
  | [d] => { results := [.lit (.bool false)], args := [d] }
  | _ => none }
def FnCornersOfWrongFalsely : Prop := fnCornersOfRow.holds Try.pinned (OpenSpec.ofChange fnCornersOfWrong)

/-- 'laws.FnBorderSides': WHATEVER THE INPUT: true; the input reads as it did. -/
def fnBorderSidesSpec : ChangeSpec := { name := "fnBorderSides", fn := fun _ => fun
  | [d] => { results := [.lit (.bool true)], args := [d] }
  | _ => none }
def fnBorderSidesRow : OpenClaim := { program := "ytbbeinhjkfjipaa", sum := "a01b831d86eec5f7645150007fdc0f03bf5b092e5eefd592811419292eac8bb5", func := "loop.example/growingpictures/laws.FnBorderSides", spec := "fnBorderSides", unfollowed := true, recurses := true, plainKeys := false, apart := false }
def FnBorderSidesSaid : Prop := fnBorderSidesRow.holds Try.pinned (OpenSpec.ofChange fnBorderSidesSpec)

/-- ITS FALSE NEIGHBOUR: 'it returns false'. Refute it at one input. -/
def fnBorderSidesWrong : ChangeSpec := { name := "fnBorderSides", fn := fun _ => fun
  | [d] => { results := [.lit (.bool false)], args := [d] }
  | _ => none }
def FnBorderSidesWrongFalsely : Prop := fnBorderSidesRow.holds Try.pinned (OpenSpec.ofChange fnBorderSidesWrong)

/-- 'laws.FnSidesOf': WHATEVER THE INPUT: true; the input reads as it did. -/
def fnSidesOfSpec : ChangeSpec := { name := "fnSidesOf", fn := fun _ => fun
  | [d] => { results := [.lit (.bool true)], args := [d] }
  | _ => none }
def fnSidesOfRow : OpenClaim := { program := "ytbbeinhjkfjipaa", sum := "a01b831d86eec5f7645150007fdc0f03bf5b092e5eefd592811419292eac8bb5", func := "loop.example/growingpictures/laws.FnSidesOf", spec := "fnSidesOf", unfollowed := true, recurses := true, plainKeys := false, apart := false }
def FnSidesOfSaid : Prop := fnSidesOfRow.holds Try.pinned (OpenSpec.ofChange fnSidesOfSpec)

/-- ITS FALSE NEIGHBOUR: 'it returns false'. Refute it at one input. -/
def fnSidesOfWrong : ChangeSpec := { name := "fnSidesOf", fn := fun _ => fun
  | [d] => { results := [.lit (.bool false)], args := [d] }
  | _ => none }
def FnSidesOfWrongFalsely : Prop := fnSidesOfRow.holds Try.pinned (OpenSpec.ofChange fnSidesOfWrong)

/-- 'laws.FnEulerOf': WHATEVER THE INPUT: true; the input reads as it did. -/
def fnEulerOfSpec : ChangeSpec := { name := "fnEulerOf", fn := fun _ => fun
  | [d] => { results := [.lit (.bool true)], args := [d] }
  | _ => none }
def fnEulerOfRow : OpenClaim := { program := "ytbbeinhjkfjipaa", sum := "a01b831d86eec5f7645150007fdc0f03bf5b092e5eefd592811419292eac8bb5", func := "loop.example/growingpictures/laws.FnEulerOf", spec := "fnEulerOf", unfollowed := true, recurses := true, plainKeys := false, apart := false }
def FnEulerOfSaid : Prop := fnEulerOfRow.holds Try.pinned (OpenSpec.ofChange fnEulerOfSpec)

/-- ITS FALSE NEIGHBOUR: 'it returns false'. Refute it at one input. -/
def fnEulerOfWrong : ChangeSpec := { name := "fnEulerOf", fn := fun _ => fun
  | [d] => { results := [.lit (.bool false)], args := [d] }
  | _ => none }
def FnEulerOfWrongFalsely : Prop := fnEulerOfRow.holds Try.pinned (OpenSpec.ofChange fnEulerOfWrong)

/-- 'laws.FnQuadsOf': WHATEVER THE INPUT: true; the input reads as it did. -/
def fnQuadsOfSpec : ChangeSpec := { name := "fnQuadsOf", fn := fun _ => fun
  | [d] => { results := [.lit (.bool true)], args := [d] }
  | _ => none }
def fnQuadsOfRow : OpenClaim := { program := "ytbbeinhjkfjipaa", sum := "a01b831d86eec5f7645150007fdc0f03bf5b092e5eefd592811419292eac8bb5", func := "loop.example/growingpictures/laws.FnQuadsOf", spec := "fnQuadsOf", unfollowed := true, recurses := true, plainKeys := false, apart := false }
def FnQuadsOfSaid : Prop := fnQuadsOfRow.holds Try.pinned (OpenSpec.ofChange fnQuadsOfSpec)

/-- ITS FALSE NEIGHBOUR: 'it returns false'. Refute it at one input. -/
def fnQuadsOfWrong : ChangeSpec := { name := "fnQuadsOf", fn := fun _ => fun
  | [d] => { results := [.lit (.bool false)], args := [d] }
  | _ => none }
def FnQuadsOfWrongFalsely : Prop := fnQuadsOfRow.holds Try.pinned (OpenSpec.ofChange fnQuadsOfWrong)

/-- 'laws.FnExactCornersOf': WHATEVER THE INPUT: true; the input reads as it did. -/
def fnExactCornersOfSpec : ChangeSpec := { name := "fnExactCornersOf", fn := fun _ => fun
  | [d] => { results := [.lit (.bool true)], args := [d] }
  | _ => none }
def fnExactCornersOfRow : OpenClaim := { program := "ytbbeinhjkfjipaa", sum := "a01b831d86eec5f7645150007fdc0f03bf5b092e5eefd592811419292eac8bb5", func := "loop.example/growingpictures/laws.FnExactCornersOf", spec := "fnExactCornersOf", unfollowed := true, recurses := true, plainKeys := false, apart := false }
def FnExactCornersOfSaid : Prop := fnExactCornersOfRow.holds Try.pinned (OpenSpec.ofChange fnExactCornersOfSpec)

/-- ITS FALSE NEIGHBOUR: 'it returns false'. Refute it at one input. -/
def fnExactCornersOfWrong : ChangeSpec := { name := "fnExactCornersOf", fn := fun _ => fun
  | [d] => { results := [.lit (.bool false)], args := [d] }
  | _ => none }
def FnExactCornersOfWrongFalsely : Prop := fnExactCornersOfRow.holds Try.pinned (OpenSpec.ofChange fnExactCornersOfWrong)

/-- 'laws.FnExactBorderSides': WHATEVER THE INPUT: true; the input reads as it did. -/
def fnExactBorderSidesSpec : ChangeSpec := { name := "fnExactBorderSides", fn := fun _ => fun
  | [d] => { results := [.lit (.bool true)], args := [d] }
  | _ => none }
def fnExactBorderSidesRow : OpenClaim := { program := "ytbbeinhjkfjipaa", sum := "a01b831d86eec5f7645150007fdc0f03bf5b092e5eefd592811419292eac8bb5", func := "loop.example/growingpictures/laws.FnExactBorderSides", spec := "fnExactBorderSides", plainKeys := false, apart := false }
def FnExactBorderSidesSaid : Prop := fnExactBorderSidesRow.holds Try.pinned (OpenSpec.ofChange fnExactBorderSidesSpec)

/-- ITS FALSE NEIGHBOUR: 'it returns false'. Refute it at one input. -/
def fnExactBorderSidesWrong : ChangeSpec := { name := "fnExactBorderSides", fn := fun _ => fun
  | [d] => { results := [.lit (.bool false)], args := [d] }
  | _ => none }
def FnExactBorderSidesWrongFalsely : Prop := fnExactBorderSidesRow.holds Try.pinned (OpenSpec.ofChange fnExactBorderSidesWrong)

/-- 'laws.FnExactSidesOf': WHATEVER THE INPUT: true; the input reads as it did. -/
def fnExactSidesOfSpec : ChangeSpec := { name := "fnExactSidesOf", fn := fun _ => fun
  | [d] => { results := [.lit (.bool true)], args := [d] }
  | _ => none }
def fnExactSidesOfRow : OpenClaim := { program := "ytbbeinhjkfjipaa", sum := "a01b831d86eec5f7645150007fdc0f03bf5b092e5eefd592811419292eac8bb5", func := "loop.example/growingpictures/laws.FnExactSidesOf", spec := "fnExactSidesOf", plainKeys := false, apart := false }
def FnExactSidesOfSaid : Prop := fnExactSidesOfRow.holds Try.pinned (OpenSpec.ofChange fnExactSidesOfSpec)

/-- ITS FALSE NEIGHBOUR: 'it returns false'. Refute it at one input. -/
def fnExactSidesOfWrong : ChangeSpec := { name := "fnExactSidesOf", fn := fun _ => fun
  | [d] => { results := [.lit (.bool false)], args := [d] }
  | _ => none }
def FnExactSidesOfWrongFalsely : Prop := fnExactSidesOfRow.holds Try.pinned (OpenSpec.ofChange fnExactSidesOfWrong)

/-- 'laws.FnExactEulerOf': WHATEVER THE INPUT: true; the input reads as it did. -/
def fnExactEulerOfSpec : ChangeSpec := { name := "fnExactEulerOf", fn := fun _ => fun
  | [d] => { results := [.lit (.bool true)], args := [d] }
  | _ => none }
def fnExactEulerOfRow : OpenClaim := { program := "ytbbeinhjkfjipaa", sum := "a01b831d86eec5f7645150007fdc0f03bf5b092e5eefd592811419292eac8bb5", func := "loop.example/growingpictures/laws.FnExactEulerOf", spec := "fnExactEulerOf", unfollowed := true, recurses := true, plainKeys := false, apart := false }
def FnExactEulerOfSaid : Prop := fnExactEulerOfRow.holds Try.pinned (OpenSpec.ofChange fnExactEulerOfSpec)

/-- ITS FALSE NEIGHBOUR: 'it returns false'. Refute it at one input. -/
def fnExactEulerOfWrong : ChangeSpec := { name := "fnExactEulerOf", fn := fun _ => fun
  | [d] => { results := [.lit (.bool false)], args := [d] }
  | _ => none }
def FnExactEulerOfWrongFalsely : Prop := fnExactEulerOfRow.holds Try.pinned (OpenSpec.ofChange fnExactEulerOfWrong)

/-- 'laws.FnExactQuadsOf': WHATEVER THE INPUT: true; the input reads as it did. -/
def fnExactQuadsOfSpec : ChangeSpec := { name := "fnExactQuadsOf", fn := fun _ => fun
  | [d] => { results := [.lit (.bool true)], args := [d] }
  | _ => none }
def fnExactQuadsOfRow : OpenClaim := { program := "ytbbeinhjkfjipaa", sum := "a01b831d86eec5f7645150007fdc0f03bf5b092e5eefd592811419292eac8bb5", func := "loop.example/growingpictures/laws.FnExactQuadsOf", spec := "fnExactQuadsOf", unfollowed := true, recurses := true, plainKeys := false, apart := false }
def FnExactQuadsOfSaid : Prop := fnExactQuadsOfRow.holds Try.pinned (OpenSpec.ofChange fnExactQuadsOfSpec)

/-- ITS FALSE NEIGHBOUR: 'it returns false'. Refute it at one input. -/
def fnExactQuadsOfWrong : ChangeSpec := { name := "fnExactQuadsOf", fn := fun _ => fun
  | [d] => { results := [.lit (.bool false)], args := [d] }
  | _ => none }
def FnExactQuadsOfWrongFalsely : Prop := fnExactQuadsOfRow.holds Try.pinned (OpenSpec.ofChange fnExactQuadsOfWrong)

/- THE SECOND FORM. 'bulk': how many values and letters a reading holds, each counted each time it is reached (what is shared counts as often as it is met; a slice's spare places count too). A statement '..UptoSaid' is the law's where the arguments, and the package variables that the reading takes, are together of bulk at most 1048576: NARROWER than '..Said'. Prove '..Said' where nothing that the law and all that it calls make is longer than what came in: it says more and counts as full. Else prove '..UptoSaid'. A law counts once. -/
mutual
def uptoBulk {H : Type} : DataW H → Nat
  | .lit (.string bytes) => bytes.length + 1
  | .lit _ => 1
  | .nil => 1
  | .ptr d => uptoBulk d + 1
  | .slice elems spare => uptoBulkAll elems + uptoBulkAll spare + 1
  | .agg parts => uptoBulkAll parts + 1
  | .iface _ d => uptoBulk d + 1
  | .map entries => uptoBulkEntries entries + 1
  | .held _ => 1
def uptoBulkAll {H : Type} : List (DataW H) → Nat
  | [] => 0
  | d :: r => uptoBulk d + uptoBulkAll r
def uptoBulkEntries {H : Type} : List (Lit × DataW H) → Nat
  | [] => 0
  | x :: r => uptoBulkEntry x + uptoBulkEntries r
def uptoBulkEntry {H : Type} : Lit × DataW H → Nat
  | (.string bytes, d) => bytes.length + uptoBulk d + 1
  | (_, d) => uptoBulk d + 1
 end
def uptoSmall : (H : Type) → List (DataW H) → Bool := fun _ ds => decide (uptoBulkAll ds ≤ 1048576)
def OpenSpec.upto (s : _root_.Go.ChangeSpec) : _root_.Go.OpenSpec := { _root_.Go.OpenSpec.ofChange s with cond := some uptoSmall }

/-- 'laws.FnCornersOf', WHERE WHAT IT READS IS OF BULK AT MOST 1048576: true; the input reads as it did. -/
def fnCornersOfUptoRow : OpenClaim := { program := "ytbbeinhjkfjipaa", sum := "a01b831d86eec5f7645150007fdc0f03bf5b092e5eefd592811419292eac8bb5", func := "loop.example/growingpictures/laws.FnCornersOf", spec := "fnCornersOf", unfollowed := true, recurses := true, plainKeys := false, apart := false, narrowed := true }
def FnCornersOfUptoSaid : Prop := fnCornersOfUptoRow.holds Try.pinned (OpenSpec.upto fnCornersOfSpec)

/-- 'laws.FnBorderSides', WHERE WHAT IT READS IS OF BULK AT MOST 1048576: true; the input reads as it did. -/
def fnBorderSidesUptoRow : OpenClaim := { program := "ytbbeinhjkfjipaa", sum := "a01b831d86eec5f7645150007fdc0f03bf5b092e5eefd592811419292eac8bb5", func := "loop.example/growingpictures/laws.FnBorderSides", spec := "fnBorderSides", unfollowed := true, recurses := true, plainKeys := false, apart := false, narrowed := true }
def FnBorderSidesUptoSaid : Prop := fnBorderSidesUptoRow.holds Try.pinned (OpenSpec.upto fnBorderSidesSpec)

/-- 'laws.FnSidesOf', WHERE WHAT IT READS IS OF BULK AT MOST 1048576: true; the input reads as it did. -/
def fnSidesOfUptoRow : OpenClaim := { program := "ytbbeinhjkfjipaa", sum := "a01b831d86eec5f7645150007fdc0f03bf5b092e5eefd592811419292eac8bb5", func := "loop.example/growingpictures/laws.FnSidesOf", spec := "fnSidesOf", unfollowed := true, recurses := true, plainKeys := false, apart := false, narrowed := true }
def FnSidesOfUptoSaid : Prop := fnSidesOfUptoRow.holds Try.pinned (OpenSpec.upto fnSidesOfSpec)

/-- 'laws.FnEulerOf', WHERE WHAT IT READS IS OF BULK AT MOST 1048576: true; the input reads as it did. -/
def fnEulerOfUptoRow : OpenClaim := { program := "ytbbeinhjkfjipaa", sum := "a01b831d86eec5f7645150007fdc0f03bf5b092e5eefd592811419292eac8bb5", func := "loop.example/growingpictures/laws.FnEulerOf", spec := "fnEulerOf", unfollowed := true, recurses := true, plainKeys := false, apart := false, narrowed := true }
def FnEulerOfUptoSaid : Prop := fnEulerOfUptoRow.holds Try.pinned (OpenSpec.upto fnEulerOfSpec)

/-- 'laws.FnQuadsOf', WHERE WHAT IT READS IS OF BULK AT MOST 1048576: true; the input reads as it did. -/
def fnQuadsOfUptoRow : OpenClaim := { program := "ytbbeinhjkfjipaa", sum := "a01b831d86eec5f7645150007fdc0f03bf5b092e5eefd592811419292eac8bb5", func := "loop.example/growingpictures/laws.FnQuadsOf", spec := "fnQuadsOf", unfollowed := true, recurses := true, plainKeys := false, apart := false, narrowed := true }
def FnQuadsOfUptoSaid : Prop := fnQuadsOfUptoRow.holds Try.pinned (OpenSpec.upto fnQuadsOfSpec)

/-- 'laws.FnExactCornersOf', WHERE WHAT IT READS IS OF BULK AT MOST 1048576: true; the input reads as it did. -/
def fnExactCornersOfUptoRow : OpenClaim := { program := "ytbbeinhjkfjipaa", sum := "a01b831d86eec5f7645150007fdc0f03bf5b092e5eefd592811419292eac8bb5", func := "loop.example/growingpictures/laws.FnExactCornersOf", spec := "fnExactCornersOf", unfollowed := true, recurses := true, plainKeys := false, apart := false, narrowed := true }
def FnExactCornersOfUptoSaid : Prop := fnExactCornersOfUptoRow.holds Try.pinned (OpenSpec.upto fnExactCornersOfSpec)

/-- 'laws.FnExactBorderSides', WHERE WHAT IT READS IS OF BULK AT MOST 1048576: true; the input reads as it did. -/
def fnExactBorderSidesUptoRow : OpenClaim := { program := "ytbbeinhjkfjipaa", sum := "a01b831d86eec5f7645150007fdc0f03bf5b092e5eefd592811419292eac8bb5", func := "loop.example/growingpictures/laws.FnExactBorderSides", spec := "fnExactBorderSides", plainKeys := false, apart := false, narrowed := true }
def FnExactBorderSidesUptoSaid : Prop := fnExactBorderSidesUptoRow.holds Try.pinned (OpenSpec.upto fnExactBorderSidesSpec)

/-- 'laws.FnExactSidesOf', WHERE WHAT IT READS IS OF BULK AT MOST 1048576: true; the input reads as it did. -/
def fnExactSidesOfUptoRow : OpenClaim := { program := "ytbbeinhjkfjipaa", sum := "a01b831d86eec5f7645150007fdc0f03bf5b092e5eefd592811419292eac8bb5", func := "loop.example/growingpictures/laws.FnExactSidesOf", spec := "fnExactSidesOf", plainKeys := false, apart := false, narrowed := true }
def FnExactSidesOfUptoSaid : Prop := fnExactSidesOfUptoRow.holds Try.pinned (OpenSpec.upto fnExactSidesOfSpec)

/-- 'laws.FnExactEulerOf', WHERE WHAT IT READS IS OF BULK AT MOST 1048576: true; the input reads as it did. -/
def fnExactEulerOfUptoRow : OpenClaim := { program := "ytbbeinhjkfjipaa", sum := "a01b831d86eec5f7645150007fdc0f03bf5b092e5eefd592811419292eac8bb5", func := "loop.example/growingpictures/laws.FnExactEulerOf", spec := "fnExactEulerOf", unfollowed := true, recurses := true, plainKeys := false, apart := false, narrowed := true }
def FnExactEulerOfUptoSaid : Prop := fnExactEulerOfUptoRow.holds Try.pinned (OpenSpec.upto fnExactEulerOfSpec)

/-- 'laws.FnExactQuadsOf', WHERE WHAT IT READS IS OF BULK AT MOST 1048576: true; the input reads as it did. -/
def fnExactQuadsOfUptoRow : OpenClaim := { program := "ytbbeinhjkfjipaa", sum := "a01b831d86eec5f7645150007fdc0f03bf5b092e5eefd592811419292eac8bb5", func := "loop.example/growingpictures/laws.FnExactQuadsOf", spec := "fnExactQuadsOf", unfollowed := true, recurses := true, plainKeys := false, apart := false, narrowed := true }
def FnExactQuadsOfUptoSaid : Prop := fnExactQuadsOfUptoRow.holds Try.pinned (OpenSpec.upto fnExactQuadsOfSpec)

end Rows
end Go.Proofs.Ytbbeinhjkfjipaa
