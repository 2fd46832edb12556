/-
  No cell of these rows narrows 'for every input' (looked for: loops, veiled, ifaces, maps, wideKeys, modest, calm, conditions, laid).
  DERIVED. THE GIVEN ROWS OF THIS SEAT. 8 by the template 'for every input the law returns true; each argument reads behind the call as it read before'; 0 by the template 'total and deterministic' (their statements: YtdfpgfnfoippmaaTotals.lean).
  GIVEN WITH THE SEED: the statements are not yours to turn. If you find one false, say at which input.
  Laid BY PROGRAM, IN A SANDBOX (cutbox-rows.mjs): the forced cells as the released guide's own fill.sh prints them over the translation ba8930bb7308615b… (all of the seat's roots in one cut). By AI agents, Wed Nov 11 2026. No macro, syntax, notation, axiom, sorry.
-/
import Derived.Test.YtdfpgfnfoippmaaChecked
import GoSem.Claim
import GoSem.ClaimJoined
import GoSem.ClaimMapViews
import Derived.JoinedTies
import Derived.KernelRfl
namespace Go.Proofs.Ytdfpgfnfoippmaa
/- THE CELL 'sum', in the pinned program and in every row, IS THE sha256 OF THE DUMP (.gsa) THAT YtdfpgfnfoippmaaProg.lean LOADS. Nothing in Lean hashes anything: it is a label: what it is worth is what the hold of that sum in a sandbox is worth. -/
noncomputable def Try.pinned : Pinned := { name := "ytdfpgfnfoippmaa", sum := "ba8930bb7308615b96cd6795600739c23baa9e8bbc823457168b60898cd20c57", checked := Try.checked }
namespace Rows
def none {H : Type} : Left H := { results := [], args := [] }

/-- 'laws.FnRadiusAt': WHATEVER THE INPUT: true; the input reads as it did. -/
def fnRadiusAtSpec : ChangeSpec := { name := "fnRadiusAt", fn := fun _ => fun
  | [d] => { results := [.lit (.bool true)], args := [d] }
  | _ => none }
def fnRadiusAtRow : OpenClaim := { program := "ytdfpgfnfoippmaa", sum := "ba8930bb7308615b96cd6795600739c23baa9e8bbc823457168b60898cd20c57", func := "loop.example/growingpictures/laws.FnRadiusAt", spec := "fnRadiusAt", unfollowed := true, recurses := true, apart := false }
def FnRadiusAtSaid : Prop := fnRadiusAtRow.holds Try.pinned (OpenSpec.ofChange fnRadiusAtSpec)

/-- ITS FALSE NEIGHBOUR: 'it returns false'. Refute it at one input. -/
def fnRadiusAtWrong : ChangeSpec := { name := "fnRadiusAt", fn := fun _ => fun
  | [d] => { results := [.lit (.bool false)], args := [d] }
  | _ => none }
def FnRadiusAtWrongFalsely : Prop := fnRadiusAtRow.holds Try.pinned (OpenSpec.ofChange fnRadiusAtWrong)

/-- 'laws.FnCentresOf': WHATEVER THE INPUT: true; the input reads as it did. -/
def fnCentresOfSpec : ChangeSpec := { name := "fnCentresOf", fn := fun _ => fun
  | [d] => { results := [.lit (.bool true)], args := [d] }
  | _ => none }
def fnCentresOfRow : OpenClaim := { program := "ytdfpgfnfoippmaa", sum := "ba8930bb7308615b96cd6795600739c23baa9e8bbc823457168b60898cd20c57", func := "loop.example/growingpictures/laws.FnCentresOf", spec := "fnCentresOf", unfollowed := true, recurses := true, apart := false }
def FnCentresOfSaid : Prop := fnCentresOfRow.holds Try.pinned (OpenSpec.ofChange fnCentresOfSpec)

/-- ITS FALSE NEIGHBOUR: 'it returns false'. Refute it at one input. -/
def fnCentresOfWrong : ChangeSpec := { name := "fnCentresOf", fn := fun _ => fun
  | [d] => { results := [.lit (.bool false)], args := [d] }
  | _ => none }
def FnCentresOfWrongFalsely : Prop := fnCentresOfRow.holds Try.pinned (OpenSpec.ofChange fnCentresOfWrong)

/-- 'laws.FnGreatestOf': WHATEVER THE INPUT: true; the input reads as it did. -/
def fnGreatestOfSpec : ChangeSpec := { name := "fnGreatestOf", fn := fun _ => fun
  | [d] => { results := [.lit (.bool true)], args := [d] }
  | _ => none }
def fnGreatestOfRow : OpenClaim := { program := "ytdfpgfnfoippmaa", sum := "ba8930bb7308615b96cd6795600739c23baa9e8bbc823457168b60898cd20c57", func := "loop.example/growingpictures/laws.FnGreatestOf", spec := "fnGreatestOf", unfollowed := true, recurses := true, apart := false }
def FnGreatestOfSaid : Prop := fnGreatestOfRow.holds Try.pinned (OpenSpec.ofChange fnGreatestOfSpec)

/-- ITS FALSE NEIGHBOUR: 'it returns false'. Refute it at one input. -/
def fnGreatestOfWrong : ChangeSpec := { name := "fnGreatestOf", fn := fun _ => fun
  | [d] => { results := [.lit (.bool false)], args := [d] }
  | _ => none }
def FnGreatestOfWrongFalsely : Prop := fnGreatestOfRow.holds Try.pinned (OpenSpec.ofChange fnGreatestOfWrong)

/-- 'laws.FnPictureFrom': WHATEVER THE INPUT: true; the input reads as it did. -/
def fnPictureFromSpec : ChangeSpec := { name := "fnPictureFrom", fn := fun _ => fun
  | [d] => { results := [.lit (.bool true)], args := [d] }
  | _ => none }
def fnPictureFromRow : OpenClaim := { program := "ytdfpgfnfoippmaa", sum := "ba8930bb7308615b96cd6795600739c23baa9e8bbc823457168b60898cd20c57", func := "loop.example/growingpictures/laws.FnPictureFrom", spec := "fnPictureFrom", unfollowed := true, recurses := true, apart := false }
def FnPictureFromSaid : Prop := fnPictureFromRow.holds Try.pinned (OpenSpec.ofChange fnPictureFromSpec)

/-- ITS FALSE NEIGHBOUR: 'it returns false'. Refute it at one input. -/
def fnPictureFromWrong : ChangeSpec := { name := "fnPictureFrom", fn := fun _ => fun
  | [d] => { results := [.lit (.bool false)], args := [d] }
  | _ => none }
def FnPictureFromWrongFalsely : Prop := fnPictureFromRow.holds Try.pinned (OpenSpec.ofChange fnPictureFromWrong)

/-- 'laws.FnExactRadiusAt': WHATEVER THE INPUT: true; the input reads as it did. -/
def fnExactRadiusAtSpec : ChangeSpec := { name := "fnExactRadiusAt", fn := fun _ => fun
  | [d1, d2, d3] => { results := [.lit (.bool true)], args := [d1, d2, d3] }
  | _ => none }
def fnExactRadiusAtRow : OpenClaim := { program := "ytdfpgfnfoippmaa", sum := "ba8930bb7308615b96cd6795600739c23baa9e8bbc823457168b60898cd20c57", func := "loop.example/growingpictures/laws.FnExactRadiusAt", spec := "fnExactRadiusAt", unfollowed := true, recurses := true, apart := false }
def FnExactRadiusAtSaid : Prop := fnExactRadiusAtRow.holds Try.pinned (OpenSpec.ofChange fnExactRadiusAtSpec)

/-- ITS FALSE NEIGHBOUR: 'it returns false'. Refute it at one input. -/
def fnExactRadiusAtWrong : ChangeSpec := { name := "fnExactRadiusAt", fn := fun _ => fun
  | [d1, d2, d3] => { results := [.lit (.bool false)], args := [d1, d2, d3] }
  | _ => none }
def FnExactRadiusAtWrongFalsely : Prop := fnExactRadiusAtRow.holds Try.pinned (OpenSpec.ofChange fnExactRadiusAtWrong)

/-- 'laws.FnExactCentresOf': WHATEVER THE INPUT: true; the input reads as it did. -/
def fnExactCentresOfSpec : ChangeSpec := { name := "fnExactCentresOf", fn := fun _ => fun
  | [d1, d2] => { results := [.lit (.bool true)], args := [d1, d2] }
  | _ => none }
def fnExactCentresOfRow : OpenClaim := { program := "ytdfpgfnfoippmaa", sum := "ba8930bb7308615b96cd6795600739c23baa9e8bbc823457168b60898cd20c57", func := "loop.example/growingpictures/laws.FnExactCentresOf", spec := "fnExactCentresOf", unfollowed := true, recurses := true, apart := false }
def FnExactCentresOfSaid : Prop := fnExactCentresOfRow.holds Try.pinned (OpenSpec.ofChange fnExactCentresOfSpec)

/-- ITS FALSE NEIGHBOUR: 'it returns false'. Refute it at one input. -/
def fnExactCentresOfWrong : ChangeSpec := { name := "fnExactCentresOf", fn := fun _ => fun
  | [d1, d2] => { results := [.lit (.bool false)], args := [d1, d2] }
  | _ => none }
def FnExactCentresOfWrongFalsely : Prop := fnExactCentresOfRow.holds Try.pinned (OpenSpec.ofChange fnExactCentresOfWrong)

/-- 'laws.FnExactGreatestOf': WHATEVER THE INPUT: true; the input reads as it did. -/
def fnExactGreatestOfSpec : ChangeSpec := { name := "fnExactGreatestOf", fn := fun _ => fun
  | [d1, d2] => { results := [.lit (.bool true)], args := [d1, d2] }
  | _ => none }
def fnExactGreatestOfRow : OpenClaim := { program := "ytdfpgfnfoippmaa", sum := "ba8930bb7308615b96cd6795600739c23baa9e8bbc823457168b60898cd20c57", func := "loop.example/growingpictures/laws.FnExactGreatestOf", spec := "fnExactGreatestOf", unfollowed := true, recurses := true, apart := false }
def FnExactGreatestOfSaid : Prop := fnExactGreatestOfRow.holds Try.pinned (OpenSpec.ofChange fnExactGreatestOfSpec)

/-- ITS FALSE NEIGHBOUR: 'it returns false'. Refute it at one input. -/
def fnExactGreatestOfWrong : ChangeSpec := { name := "fnExactGreatestOf", fn := fun _ => fun
  | [d1, d2] => { results := [.lit (.bool false)], args := [d1, d2] }
  | _ => none }
def FnExactGreatestOfWrongFalsely : Prop := fnExactGreatestOfRow.holds Try.pinned (OpenSpec.ofChange fnExactGreatestOfWrong)

/-- 'laws.FnExactPictureFrom': WHATEVER THE INPUT: true; the input reads as it did. -/
def fnExactPictureFromSpec : ChangeSpec := { name := "fnExactPictureFrom", fn := fun _ => fun
  | [d1, d2] => { results := [.lit (.bool true)], args := [d1, d2] }
  | _ => none }
def fnExactPictureFromRow : OpenClaim := { program := "ytdfpgfnfoippmaa", sum := "ba8930bb7308615b96cd6795600739c23baa9e8bbc823457168b60898cd20c57", func := "loop.example/growingpictures/laws.FnExactPictureFrom", spec := "fnExactPictureFrom", unfollowed := true, recurses := true, apart := false }
def FnExactPictureFromSaid : Prop := fnExactPictureFromRow.holds Try.pinned (OpenSpec.ofChange fnExactPictureFromSpec)

/-- ITS FALSE NEIGHBOUR: 'it returns false'. Refute it at one input. -/
def fnExactPictureFromWrong : ChangeSpec := { name := "fnExactPictureFrom", fn := fun _ => fun
  | [d1, d2] => { results := [.lit (.bool false)], args := [d1, d2] }
  | _ => none }
def FnExactPictureFromWrongFalsely : Prop := fnExactPictureFromRow.holds Try.pinned (OpenSpec.ofChange fnExactPictureFromWrong)

/- THE SECOND FORM. 'bulk': how many values and letters a reading holds, each counted each time it is reached (what is shared counts as often as it is met; a slice's spare places count too). A statement '..UptoSaid' is the law's where the arguments, and the package variables that the reading takes, are together of bulk at most 1048576: NARROWER than '..Said'. Prove '..Said' where nothing that the law and all that it calls make is longer than what came in: it says more and counts as full. Else prove '..UptoSaid'. A law counts once. -/
mutual
def uptoBulk {H : Type} : DataW H → Nat
  | .lit (.string bytes) => bytes.length + 1
  | .lit _ => 1
  | .nil => 1
  | .ptr d => uptoBulk d + 1
  | .slice elems spare => uptoBulkAll elems + uptoBulkAll spare + 1
  | .agg parts => uptoBulkAll parts + 1
  | .iface _ d => uptoBulk d + 1
  | .map entries => uptoBulkEntries entries + 1
  | .held _ => 1
def uptoBulkAll {H : Type} : List (DataW H) → Nat
  | [] => 0
  | d :: r => uptoBulk d + uptoBulkAll r
def uptoBulkEntries {H : Type} : List (Lit × DataW H) → Nat
  | [] => 0
  | x :: r => uptoBulkEntry x + uptoBulkEntries r
def uptoBulkEntry {H : Type} : Lit × DataW H → Nat
  | (.string bytes, d) => bytes.length + uptoBulk d + 1
  | (_, d) => uptoBulk d + 1
 end
def uptoSmall : (H : Type) → List (DataW H) → Bool := fun _ ds => decide (uptoBulkAll ds ≤ 1048576)
def OpenSpec.upto (s : _root_.Go.ChangeSpec) : _root_.Go.OpenSpec := { _root_.Go.OpenSpec.ofChange s with cond := some uptoSmall }

/-- 'laws.FnRadiusAt', WHERE WHAT IT READS IS OF BULK AT MOST 1048576: true; the input reads as it did. -/
def fnRadiusAtUptoRow : OpenClaim := { program := "ytdfpgfnfoippmaa", sum := "ba8930bb7308615b96cd6795600739c23baa9e8bbc823457168b60898cd20c57", func := "loop.example/growingpictures/laws.FnRadiusAt", spec := "fnRadiusAt", unfollowed := true, recurses := true, apart := false, narrowed := true }
def FnRadiusAtUptoSaid : Prop := fnRadiusAtUptoRow.holds Try.pinned (OpenSpec.upto fnRadiusAtSpec)

/-- 'laws.FnCentresOf', WHERE WHAT IT READS IS OF BULK AT MOST 1048576: true; the input reads as it did. -/
def fnCentresOfUptoRow : OpenClaim := { program := "ytdfpgfnfoippmaa", sum := "ba8930bb7308615b96cd6795600739c23baa9e8bbc823457168b60898cd20c57", func := "loop.example/growingpictures/laws.FnCentresOf", spec := "fnCentresOf", unfollowed := true, recurses := true, apart := false, narrowed := true }
def FnCentresOfUptoSaid : Prop := fnCentresOfUptoRow.holds Try.pinned (OpenSpec.upto fnCentresOfSpec)

/-- 'laws.FnGreatestOf', WHERE WHAT IT READS IS OF BULK AT MOST 1048576: true; the input reads as it did. -/
def fnGreatestOfUptoRow : OpenClaim := { program := "ytdfpgfnfoippmaa", sum := "ba8930bb7308615b96cd6795600739c23baa9e8bbc823457168b60898cd20c57", func := "loop.example/growingpictures/laws.FnGreatestOf", spec := "fnGreatestOf", unfollowed := true, recurses := true, apart := false, narrowed := true }
def FnGreatestOfUptoSaid : Prop := fnGreatestOfUptoRow.holds Try.pinned (OpenSpec.upto fnGreatestOfSpec)

/-- 'laws.FnPictureFrom', WHERE WHAT IT READS IS OF BULK AT MOST 1048576: true; the input reads as it did. -/
def fnPictureFromUptoRow : OpenClaim := { program := "ytdfpgfnfoippmaa", sum := "ba8930bb7308615b96cd6795600739c23baa9e8bbc823457168b60898cd20c57", func := "loop.example/growingpictures/laws.FnPictureFrom", spec := "fnPictureFrom", unfollowed := true, recurses := true, apart := false, narrowed := true }
def FnPictureFromUptoSaid : Prop := fnPictureFromUptoRow.holds Try.pinned (OpenSpec.upto fnPictureFromSpec)

/-- 'laws.FnExactRadiusAt', WHERE WHAT IT READS IS OF BULK AT MOST 1048576: true; the input reads as it did. -/
def fnExactRadiusAtUptoRow : OpenClaim := { program := "ytdfpgfnfoippmaa", sum := "ba8930bb7308615b96cd6795600739c23baa9e8bbc823457168b60898cd20c57", func := "loop.example/growingpictures/laws.FnExactRadiusAt", spec := "fnExactRadiusAt", unfollowed := true, recurses := true, apart := false, narrowed := true }
def FnExactRadiusAtUptoSaid : Prop := fnExactRadiusAtUptoRow.holds Try.pinned (OpenSpec.upto fnExactRadiusAtSpec)

/-- 'laws.FnExactCentresOf', WHERE WHAT IT READS IS OF BULK AT MOST 1048576: true; the input reads as it did. -/
def fnExactCentresOfUptoRow : OpenClaim := { program := "ytdfpgfnfoippmaa", sum := "ba8930bb7308615b96cd6795600739c23baa9e8bbc823457168b60898cd20c57", func := "loop.example/growingpictures/laws.FnExactCentresOf", spec := "fnExactCentresOf", unfollowed := true, recurses := true, apart := false, narrowed := true }
def FnExactCentresOfUptoSaid : Prop := fnExactCentresOfUptoRow.holds Try.pinned (OpenSpec.upto fnExactCentresOfSpec)

/-- 'laws.FnExactGreatestOf', WHERE WHAT IT READS IS OF BULK AT MOST 1048576: true; the input reads as it did. -/
def fnExactGreatestOfUptoRow : OpenClaim := { program := "ytdfpgfnfoippmaa", sum := "ba8930bb7308615b96cd6795600739c23baa9e8bbc823457168b60898cd20c57", func := "loop.example/growingpictures/laws.FnExactGreatestOf", spec := "fnExactGreatestOf", unfollowed := true, recurses := true, apart := false, narrowed := true }
def FnExactGreatestOfUptoSaid : Prop := fnExactGreatestOfUptoRow.holds Try.pinned (OpenSpec.upto fnExactGreatestOfSpec)

/-- 'laws.FnExactPictureFrom', WHERE WHAT IT READS IS OF BULK AT MOST 1048576: true; the input reads as it did. -/
def fnExactPictureFromUptoRow : OpenClaim := { program := "ytdfpgfnfoippmaa", sum := "ba8930bb7308615b96cd6795600739c23baa9e8bbc823457168b60898cd20c57", func := "loop.example/growingpictures/laws.FnExactPictureFrom", spec := "fnExactPictureFrom", unfollowed := true, recurses := true, apart := false, narrowed := true }
def FnExactPictureFromUptoSaid : Prop := fnExactPictureFromUptoRow.holds Try.pinned (OpenSpec.upto fnExactPictureFromSpec)

end Rows
end Go.Proofs.Ytdfpgfnfoippmaa
