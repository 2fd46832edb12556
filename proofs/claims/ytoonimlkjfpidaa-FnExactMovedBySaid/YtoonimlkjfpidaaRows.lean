/-
  No cell of these rows narrows 'for every input' (looked for: loops, veiled, ifaces, maps, wideKeys, modest, calm, conditions, laid).
  DERIVED. THE GIVEN ROWS OF THIS SEAT. 14 by the template 'for every input the law returns true; each argument reads behind the call as it read before'; 0 by the template 'total and deterministic' (their statements: YtoonimlkjfpidaaTotals.lean).
  GIVEN WITH THE SEED: the statements are not yours to turn. If you find one false, say at which input.
  Laid BY PROGRAM, IN A SANDBOX (cutbox-rows.mjs): the forced cells as the released guide's own fill.sh prints them over the translation 03b2f150b4f38942… (all of the seat's roots in one cut). By AI agents, Wed Nov 11 2026. No macro, syntax, notation, axiom, sorry.
-/
import Derived.Test.YtoonimlkjfpidaaChecked
import GoSem.Claim
import GoSem.ClaimJoined
import GoSem.ClaimMapViews
import Derived.JoinedTies
import Derived.KernelRfl
namespace Go.Proofs.Ytoonimlkjfpidaa
/- THE CELL 'sum', in the pinned program and in every row, IS THE sha256 OF THE DUMP (.gsa) THAT YtoonimlkjfpidaaProg.lean LOADS. Nothing in Lean hashes anything: it is a label: what it is worth is what the hold of that sum in a sandbox is worth. -/
noncomputable def Try.pinned : Pinned := { name := "ytoonimlkjfpidaa", sum := "03b2f150b4f389423b53aeaa4c6b5d04c297575c63f05c1efba5c371d5b0287f", checked := Try.checked }
namespace Rows
def none {H : Type} : Left H := { results := [], args := [] }

/-- 'laws.FnPictureOk': WHATEVER THE INPUT: true; the input reads as it did. -/
def fnPictureOkSpec : ChangeSpec := { name := "fnPictureOk", fn := fun _ => fun
  | [d] => { results := [.lit (.bool true)], args := [d] }
  | _ => none }
def fnPictureOkRow : OpenClaim := { program := "ytoonimlkjfpidaa", sum := "03b2f150b4f389423b53aeaa4c6b5d04c297575c63f05c1efba5c371d5b0287f", func := "loop.example/growingpictures/laws.FnPictureOk", spec := "fnPictureOk", apart := false }
def FnPictureOkSaid : Prop := fnPictureOkRow.holds Try.pinned (OpenSpec.ofChange fnPictureOkSpec)

/-- ITS FALSE NEIGHBOUR: 'it returns false'. Refute it at one input. -/
def fnPictureOkWrong : ChangeSpec := { name := "fnPictureOk", fn := fun _ => fun
  | [d] => { results := [.lit (.bool false)], args := [d] }
  | _ => none }
def FnPictureOkWrongFalsely : Prop := fnPictureOkRow.holds Try.pinned (OpenSpec.ofChange fnPictureOkWrong)

/-- 'laws.FnHasSpot': WHATEVER THE INPUT: true; the input reads as it did. -/
def fnHasSpotSpec : ChangeSpec := { name := "fnHasSpot", fn := fun _ => fun
  | [d] => { results := [.lit (.bool true)], args := [d] }
  | _ => none }
def fnHasSpotRow : OpenClaim := { program := "ytoonimlkjfpidaa", sum := "03b2f150b4f389423b53aeaa4c6b5d04c297575c63f05c1efba5c371d5b0287f", func := "loop.example/growingpictures/laws.FnHasSpot", spec := "fnHasSpot", unfollowed := true, recurses := true, apart := false }
def FnHasSpotSaid : Prop := fnHasSpotRow.holds Try.pinned (OpenSpec.ofChange fnHasSpotSpec)

/-- ITS FALSE NEIGHBOUR: 'it returns false'. Refute it at one input. -/
def fnHasSpotWrong : ChangeSpec := { name := "fnHasSpot", fn := fun _ => fun
  | [d] => { results := [.lit (.bool false)], args := [d] }
  | _ => none }
def FnHasSpotWrongFalsely : Prop := fnHasSpotRow.holds Try.pinned (OpenSpec.ofChange fnHasSpotWrong)

/-- 'laws.FnUnionOf': WHATEVER THE INPUT: true; the input reads as it did. -/
def fnUnionOfSpec : ChangeSpec := { name := "fnUnionOf", fn := fun _ => fun
  | [d] => { results := [.lit (.bool true)], args := [d] }
  | _ => none }
def fnUnionOfRow : OpenClaim := { program := "ytoonimlkjfpidaa", sum := "03b2f150b4f389423b53aeaa4c6b5d04c297575c63f05c1efba5c371d5b0287f", func := "loop.example/growingpictures/laws.FnUnionOf", spec := "fnUnionOf", unfollowed := true, recurses := true, apart := false }
def FnUnionOfSaid : Prop := fnUnionOfRow.holds Try.pinned (OpenSpec.ofChange fnUnionOfSpec)

/-- ITS FALSE NEIGHBOUR: 'it returns false'. Refute it at one input. -/
def fnUnionOfWrong : ChangeSpec := { name := "fnUnionOf", fn := fun _ => fun
  | [d] => { results := [.lit (.bool false)], args := [d] }
  | _ => none }
def FnUnionOfWrongFalsely : Prop := fnUnionOfRow.holds Try.pinned (OpenSpec.ofChange fnUnionOfWrong)

/-- 'laws.FnCommonOf': WHATEVER THE INPUT: true; the input reads as it did. -/
def fnCommonOfSpec : ChangeSpec := { name := "fnCommonOf", fn := fun _ => fun
  | [d] => { results := [.lit (.bool true)], args := [d] }
  | _ => none }
def fnCommonOfRow : OpenClaim := { program := "ytoonimlkjfpidaa", sum := "03b2f150b4f389423b53aeaa4c6b5d04c297575c63f05c1efba5c371d5b0287f", func := "loop.example/growingpictures/laws.FnCommonOf", spec := "fnCommonOf", unfollowed := true, recurses := true, apart := false }
def FnCommonOfSaid : Prop := fnCommonOfRow.holds Try.pinned (OpenSpec.ofChange fnCommonOfSpec)

/-- ITS FALSE NEIGHBOUR: 'it returns false'. Refute it at one input. -/
def fnCommonOfWrong : ChangeSpec := { name := "fnCommonOf", fn := fun _ => fun
  | [d] => { results := [.lit (.bool false)], args := [d] }
  | _ => none }
def FnCommonOfWrongFalsely : Prop := fnCommonOfRow.holds Try.pinned (OpenSpec.ofChange fnCommonOfWrong)

/-- 'laws.FnWithinOk': WHATEVER THE INPUT: true; the input reads as it did. -/
def fnWithinOkSpec : ChangeSpec := { name := "fnWithinOk", fn := fun _ => fun
  | [d] => { results := [.lit (.bool true)], args := [d] }
  | _ => none }
def fnWithinOkRow : OpenClaim := { program := "ytoonimlkjfpidaa", sum := "03b2f150b4f389423b53aeaa4c6b5d04c297575c63f05c1efba5c371d5b0287f", func := "loop.example/growingpictures/laws.FnWithinOk", spec := "fnWithinOk", unfollowed := true, recurses := true, apart := false }
def FnWithinOkSaid : Prop := fnWithinOkRow.holds Try.pinned (OpenSpec.ofChange fnWithinOkSpec)

/-- ITS FALSE NEIGHBOUR: 'it returns false'. Refute it at one input. -/
def fnWithinOkWrong : ChangeSpec := { name := "fnWithinOk", fn := fun _ => fun
  | [d] => { results := [.lit (.bool false)], args := [d] }
  | _ => none }
def FnWithinOkWrongFalsely : Prop := fnWithinOkRow.holds Try.pinned (OpenSpec.ofChange fnWithinOkWrong)

/-- 'laws.FnMovedBy': WHATEVER THE INPUT: true; the input reads as it did. -/
def fnMovedBySpec : ChangeSpec := { name := "fnMovedBy", fn := fun _ => fun
  | [d] => { results := [.lit (.bool true)], args := [d] }
  | _ => none }
def fnMovedByRow : OpenClaim := { program := "ytoonimlkjfpidaa", sum := "03b2f150b4f389423b53aeaa4c6b5d04c297575c63f05c1efba5c371d5b0287f", func := "loop.example/growingpictures/laws.FnMovedBy", spec := "fnMovedBy", unfollowed := true, recurses := true, apart := false }
def FnMovedBySaid : Prop := fnMovedByRow.holds Try.pinned (OpenSpec.ofChange fnMovedBySpec)

/-- ITS FALSE NEIGHBOUR: 'it returns false'. Refute it at one input. -/
def fnMovedByWrong : ChangeSpec := { name := "fnMovedBy", fn := fun _ => fun
  | [d] => { results := [.lit (.bool false)], args := [d] }
  | _ => none }
def FnMovedByWrongFalsely : Prop := fnMovedByRow.holds Try.pinned (OpenSpec.ofChange fnMovedByWrong)

/-- 'laws.FnTurnedOf': WHATEVER THE INPUT: true; the input reads as it did. -/
def fnTurnedOfSpec : ChangeSpec := { name := "fnTurnedOf", fn := fun _ => fun
  | [d] => { results := [.lit (.bool true)], args := [d] }
  | _ => none }
def fnTurnedOfRow : OpenClaim := { program := "ytoonimlkjfpidaa", sum := "03b2f150b4f389423b53aeaa4c6b5d04c297575c63f05c1efba5c371d5b0287f", func := "loop.example/growingpictures/laws.FnTurnedOf", spec := "fnTurnedOf", unfollowed := true, recurses := true, apart := false }
def FnTurnedOfSaid : Prop := fnTurnedOfRow.holds Try.pinned (OpenSpec.ofChange fnTurnedOfSpec)

/-- ITS FALSE NEIGHBOUR: 'it returns false'. Refute it at one input. -/
def fnTurnedOfWrong : ChangeSpec := { name := "fnTurnedOf", fn := fun _ => fun
  | [d] => { results := [.lit (.bool false)], args := [d] }
  | _ => none }
def FnTurnedOfWrongFalsely : Prop := fnTurnedOfRow.holds Try.pinned (OpenSpec.ofChange fnTurnedOfWrong)

/-- 'laws.FnExactPictureOk': WHATEVER THE INPUT: true; the input reads as it did. -/
def fnExactPictureOkSpec : ChangeSpec := { name := "fnExactPictureOk", fn := fun _ => fun
  | [d] => { results := [.lit (.bool true)], args := [d] }
  | _ => none }
def fnExactPictureOkRow : OpenClaim := { program := "ytoonimlkjfpidaa", sum := "03b2f150b4f389423b53aeaa4c6b5d04c297575c63f05c1efba5c371d5b0287f", func := "loop.example/growingpictures/laws.FnExactPictureOk", spec := "fnExactPictureOk", apart := false }
def FnExactPictureOkSaid : Prop := fnExactPictureOkRow.holds Try.pinned (OpenSpec.ofChange fnExactPictureOkSpec)

/-- ITS FALSE NEIGHBOUR: 'it returns false'. Refute it at one input. -/
def fnExactPictureOkWrong : ChangeSpec := { name := "fnExactPictureOk", fn := fun _ => fun
  | [d] => { results := [.lit (.bool false)], args := [d] }
  | _ => none }
def FnExactPictureOkWrongFalsely : Prop := fnExactPictureOkRow.holds Try.pinned (OpenSpec.ofChange fnExactPictureOkWrong)

/-- 'laws.FnExactHasSpot': WHATEVER THE INPUT: true; the input reads as it did. -/
def fnExactHasSpotSpec : ChangeSpec := { name := "fnExactHasSpot", fn := fun _ => fun
  | [d1, d2] => { results := [.lit (.bool true)], args := [d1, d2] }
  | _ => none }
def fnExactHasSpotRow : OpenClaim := { program := "ytoonimlkjfpidaa", sum := "03b2f150b4f389423b53aeaa4c6b5d04c297575c63f05c1efba5c371d5b0287f", func := "loop.example/growingpictures/laws.FnExactHasSpot", spec := "fnExactHasSpot", unfollowed := true, recurses := true, apart := false }
def FnExactHasSpotSaid : Prop := fnExactHasSpotRow.holds Try.pinned (OpenSpec.ofChange fnExactHasSpotSpec)

/-- ITS FALSE NEIGHBOUR: 'it returns false'. Refute it at one input. -/
def fnExactHasSpotWrong : ChangeSpec := { name := "fnExactHasSpot", fn := fun _ => fun
  | [d1, d2] => { results := [.lit (.bool false)], args := [d1, d2] }
  | _ => none }
def FnExactHasSpotWrongFalsely : Prop := fnExactHasSpotRow.holds Try.pinned (OpenSpec.ofChange fnExactHasSpotWrong)

/-- 'laws.FnExactUnionOf': WHATEVER THE INPUT: true; the input reads as it did. -/
def fnExactUnionOfSpec : ChangeSpec := { name := "fnExactUnionOf", fn := fun _ => fun
  | [d1, d2] => { results := [.lit (.bool true)], args := [d1, d2] }
  | _ => none }
def fnExactUnionOfRow : OpenClaim := { program := "ytoonimlkjfpidaa", sum := "03b2f150b4f389423b53aeaa4c6b5d04c297575c63f05c1efba5c371d5b0287f", func := "loop.example/growingpictures/laws.FnExactUnionOf", spec := "fnExactUnionOf", unfollowed := true, recurses := true, apart := false }
def FnExactUnionOfSaid : Prop := fnExactUnionOfRow.holds Try.pinned (OpenSpec.ofChange fnExactUnionOfSpec)

/-- ITS FALSE NEIGHBOUR: 'it returns false'. Refute it at one input. -/
def fnExactUnionOfWrong : ChangeSpec := { name := "fnExactUnionOf", fn := fun _ => fun
  | [d1, d2] => { results := [.lit (.bool false)], args := [d1, d2] }
  | _ => none }
def FnExactUnionOfWrongFalsely : Prop := fnExactUnionOfRow.holds Try.pinned (OpenSpec.ofChange fnExactUnionOfWrong)

/-- 'laws.FnExactCommonOf': WHATEVER THE INPUT: true; the input reads as it did. -/
def fnExactCommonOfSpec : ChangeSpec := { name := "fnExactCommonOf", fn := fun _ => fun
  | [d1, d2] => { results := [.lit (.bool true)], args := [d1, d2] }
  | _ => none }
def fnExactCommonOfRow : OpenClaim := { program := "ytoonimlkjfpidaa", sum := "03b2f150b4f389423b53aeaa4c6b5d04c297575c63f05c1efba5c371d5b0287f", func := "loop.example/growingpictures/laws.FnExactCommonOf", spec := "fnExactCommonOf", unfollowed := true, recurses := true, apart := false }
def FnExactCommonOfSaid : Prop := fnExactCommonOfRow.holds Try.pinned (OpenSpec.ofChange fnExactCommonOfSpec)

/-- ITS FALSE NEIGHBOUR: 'it returns false'. Refute it at one input. -/
def fnExactCommonOfWrong : ChangeSpec := { name := "fnExactCommonOf", fn := fun _ => fun
  | [d1, d2] => { results := [.lit (.bool false)], args := [d1, d2] }
  | _ => none }
def FnExactCommonOfWrongFalsely : Prop := fnExactCommonOfRow.holds Try.pinned (OpenSpec.ofChange fnExactCommonOfWrong)

/-- 'laws.FnExactWithinOk': WHATEVER THE INPUT: true; the input reads as it did. -/
def fnExactWithinOkSpec : ChangeSpec := { name := "fnExactWithinOk", fn := fun _ => fun
  | [d1, d2] => { results := [.lit (.bool true)], args := [d1, d2] }
  | _ => none }
def fnExactWithinOkRow : OpenClaim := { program := "ytoonimlkjfpidaa", sum := "03b2f150b4f389423b53aeaa4c6b5d04c297575c63f05c1efba5c371d5b0287f", func := "loop.example/growingpictures/laws.FnExactWithinOk", spec := "fnExactWithinOk", unfollowed := true, recurses := true, apart := false }
def FnExactWithinOkSaid : Prop := fnExactWithinOkRow.holds Try.pinned (OpenSpec.ofChange fnExactWithinOkSpec)

/-- ITS FALSE NEIGHBOUR: 'it returns false'. Refute it at one input. -/
def fnExactWithinOkWrong : ChangeSpec := { name := "fnExactWithinOk", fn := fun _ => fun
  | [d1, d2] => { results := [.lit (.bool false)], args := [d1, d2] }
  | _ => none }
def FnExactWithinOkWrongFalsely : Prop := fnExactWithinOkRow.holds Try.pinned (OpenSpec.ofChange fnExactWithinOkWrong)

/-- 'laws.FnExactMovedBy': WHATEVER THE INPUT: true; the input reads as it did. -/
def fnExactMovedBySpec : ChangeSpec := { name := "fnExactMovedBy", fn := fun _ => fun
  | [d1, d2] => { results := [.lit (.bool true)], args := [d1, d2] }
  | _ => none }
def fnExactMovedByRow : OpenClaim := { program := "ytoonimlkjfpidaa", sum := "03b2f150b4f389423b53aeaa4c6b5d04c297575c63f05c1efba5c371d5b0287f", func := "loop.example/growingpictures/laws.FnExactMovedBy", spec := "fnExactMovedBy", apart := false }
def FnExactMovedBySaid : Prop := fnExactMovedByRow.holds Try.pinned (OpenSpec.ofChange fnExactMovedBySpec)

/-- ITS FALSE NEIGHBOUR: 'it returns false'. Refute it at one input. -/
def fnExactMovedByWrong : ChangeSpec := { name := "fnExactMovedBy", fn := fun _ => fun
  | [d1, d2] => { results := [.lit (.bool false)], args := [d1, d2] }
  | _ => none }
def FnExactMovedByWrongFalsely : Prop := fnExactMovedByRow.holds Try.pinned (OpenSpec.ofChange fnExactMovedByWrong)

/-- 'laws.FnExactTurnedOf': WHATEVER THE INPUT: true; the input reads as it did. -/
def fnExactTurnedOfSpec : ChangeSpec := { name := "fnExactTurnedOf", fn := fun _ => fun
  | [d] => { results := [.lit (.bool true)], args := [d] }
  | _ => none }
def fnExactTurnedOfRow : OpenClaim := { program := "ytoonimlkjfpidaa", sum := "03b2f150b4f389423b53aeaa4c6b5d04c297575c63f05c1efba5c371d5b0287f", func := "loop.example/growingpictures/laws.FnExactTurnedOf", spec := "fnExactTurnedOf", apart := false }
def FnExactTurnedOfSaid : Prop := fnExactTurnedOfRow.holds Try.pinned (OpenSpec.ofChange fnExactTurnedOfSpec)

/-- ITS FALSE NEIGHBOUR: 'it returns false'. Refute it at one input. -/
def fnExactTurnedOfWrong : ChangeSpec := { name := "fnExactTurnedOf", fn := fun _ => fun
  | [d] => { results := [.lit (.bool false)], args := [d] }
  | _ => none }
def FnExactTurnedOfWrongFalsely : Prop := fnExactTurnedOfRow.holds Try.pinned (OpenSpec.ofChange fnExactTurnedOfWrong)

/- THE SECOND FORM. 'bulk': how many values and letters a reading holds, each counted each time it is reached (what is shared counts as often as it is met; a slice's spare places count too). A statement '..UptoSaid' is the law's where the arguments, and the package variables that the reading takes, are together of bulk at most 1048576: NARROWER than '..Said'. Prove '..Said' where nothing that the law and all that it calls make is longer than what came in: it says more and counts as full. Else prove '..UptoSaid'. A law counts once. -/
mutual
def uptoBulk {H : Type} : DataW H → Nat
  | .lit (.string bytes) => bytes.length + 1
  | .lit _ => 1
  | .nil => 1
  | .ptr d => uptoBulk d + 1
  | .slice elems spare => uptoBulkAll elems + uptoBulkAll spare + 1
  | .agg parts => uptoBulkAll parts + 1
  | .iface _ d => uptoBulk d + 1
  | .map entries => uptoBulkEntries entries + 1
  | .held _ => 1
def uptoBulkAll {H : Type} : List (DataW H) → Nat
  | [] => 0
  | d :: r => uptoBulk d + uptoBulkAll r
def uptoBulkEntries {H : Type} : List (Lit × DataW H) → Nat
  | [] => 0
  | x :: r => uptoBulkEntry x + uptoBulkEntries r
def uptoBulkEntry {H : Type} : Lit × DataW H → Nat
  | (.string bytes, d) => bytes.length + uptoBulk d + 1
  | (_, d) => uptoBulk d + 1
 end
def uptoSmall : (H : Type) → List (DataW H) → Bool := fun _ ds => decide (uptoBulkAll ds ≤ 1048576)
def OpenSpec.upto (s : _root_.Go.ChangeSpec) : _root_.Go.OpenSpec := { _root_.Go.OpenSpec.ofChange s with cond := some uptoSmall }

/-- 'laws.FnPictureOk', WHERE WHAT IT READS IS OF BULK AT MOST 1048576: true; the input reads as it did. -/
def fnPictureOkUptoRow : OpenClaim := { program := "ytoonimlkjfpidaa", sum := "03b2f150b4f389423b53aeaa4c6b5d04c297575c63f05c1efba5c371d5b0287f", func := "loop.example/growingpictures/laws.FnPictureOk", spec := "fnPictureOk", apart := false, narrowed := true }
def FnPictureOkUptoSaid : Prop := fnPictureOkUptoRow.holds Try.pinned (OpenSpec.upto fnPictureOkSpec)

/-- 'laws.FnHasSpot', WHERE WHAT IT READS IS OF BULK AT MOST 1048576: true; the input reads as it did. -/
def fnHasSpotUptoRow : OpenClaim := { program := "ytoonimlkjfpidaa", sum := "03b2f150b4f389423b53aeaa4c6b5d04c297575c63f05c1efba5c371d5b0287f", func := "loop.example/growingpictures/laws.FnHasSpot", spec := "fnHasSpot", unfollowed := true, recurses := true, apart := false, narrowed := true }
def FnHasSpotUptoSaid : Prop := fnHasSpotUptoRow.holds Try.pinned (OpenSpec.upto fnHasSpotSpec)

/-- 'laws.FnUnionOf', WHERE WHAT IT READS IS OF BULK AT MOST 1048576: true; the input reads as it did. -/
def fnUnionOfUptoRow : OpenClaim := { program := "ytoonimlkjfpidaa", sum := "03b2f150b4f389423b53aeaa4c6b5d04c297575c63f05c1efba5c371d5b0287f", func := "loop.example/growingpictures/laws.FnUnionOf", spec := "fnUnionOf", unfollowed := true, recurses := true, apart := false, narrowed := true }
def FnUnionOfUptoSaid : Prop := fnUnionOfUptoRow.holds Try.pinned (OpenSpec.upto fnUnionOfSpec)

/-- 'laws.FnCommonOf', WHERE WHAT IT READS IS OF BULK AT MOST 1048576: true; the input reads as it did. -/
def fnCommonOfUptoRow : OpenClaim := { program := "ytoonimlkjfpidaa", sum := "03b2f150b4f389423b53aeaa4c6b5d04c297575c63f05c1efba5c371d5b0287f", func := "loop.example/growingpictures/laws.FnCommonOf", spec := "fnCommonOf", unfollowed := true, recurses := true, apart := false, narrowed := true }
def FnCommonOfUptoSaid : Prop := fnCommonOfUptoRow.holds Try.pinned (OpenSpec.upto fnCommonOfSpec)

/-- 'laws.FnWithinOk', WHERE WHAT IT READS IS OF BULK AT MOST 1048576: true; the input reads as it did. -/
def fnWithinOkUptoRow : OpenClaim := { program := "ytoonimlkjfpidaa", sum := "03b2f150b4f389423b53aeaa4c6b5d04c297575c63f05c1efba5c371d5b0287f", func := "loop.example/growingpictures/laws.FnWithinOk", spec := "fnWithinOk", unfollowed := true, recurses := true, apart := false, narrowed := true }
def FnWithinOkUptoSaid : Prop := fnWithinOkUptoRow.holds Try.pinned (OpenSpec.upto fnWithinOkSpec)

/-- 'laws.FnMovedBy', WHERE WHAT IT READS IS OF BULK AT MOST 1048576: true; the input reads as it did. -/
def fnMovedByUptoRow : OpenClaim := { program := "ytoonimlkjfpidaa", sum := "03b2f150b4f389423b53aeaa4c6b5d04c297575c63f05c1efba5c371d5b0287f", func := "loop.example/growingpictures/laws.FnMovedBy", spec := "fnMovedBy", unfollowed := true, recurses := true, apart := false, narrowed := true }
def FnMovedByUptoSaid : Prop := fnMovedByUptoRow.holds Try.pinned (OpenSpec.upto fnMovedBySpec)

/-- 'laws.FnTurnedOf', WHERE WHAT IT READS IS OF BULK AT MOST 1048576: true; the input reads as it did. -/
def fnTurnedOfUptoRow : OpenClaim := { program := "ytoonimlkjfpidaa", sum := "03b2f150b4f389423b53aeaa4c6b5d04c297575c63f05c1efba5c371d5b0287f", func := "loop.example/growingpictures/laws.FnTurnedOf", spec := "fnTurnedOf", unfollowed := true, recurses := true, apart := false, narrowed := true }
def FnTurnedOfUptoSaid : Prop := fnTurnedOfUptoRow.holds Try.pinned (OpenSpec.upto fnTurnedOfSpec)

/-- 'laws.FnExactPictureOk', WHERE WHAT IT READS IS OF BULK AT MOST 1048576: true; the input reads as it did. -/
def fnExactPictureOkUptoRow : OpenClaim := { program := "ytoonimlkjfpidaa", sum := "03b2f150b4f389423b53aeaa4c6b5d04c297575c63f05c1efba5c371d5b0287f", func := "loop.example/growingpictures/laws.FnExactPictureOk", spec := "fnExactPictureOk", apart := false, narrowed := true }
def FnExactPictureOkUptoSaid : Prop := fnExactPictureOkUptoRow.holds Try.pinned (OpenSpec.upto fnExactPictureOkSpec)

/-- 'laws.FnExactHasSpot', WHERE WHAT IT READS IS OF BULK AT MOST 1048576: true; the input reads as it did. -/
def fnExactHasSpotUptoRow : OpenClaim := { program := "ytoonimlkjfpidaa", sum := "03b2f150b4f389423b53aeaa4c6b5d04c297575c63f05c1efba5c371d5b0287f", func := "loop.example/growingpictures/laws.FnExactHasSpot", spec := "fnExactHasSpot", unfollowed := true, recurses := true, apart := false, narrowed := true }
def FnExactHasSpotUptoSaid : Prop := fnExactHasSpotUptoRow.holds Try.pinned (OpenSpec.upto fnExactHasSpotSpec)

/-- 'laws.FnExactUnionOf', WHERE WHAT IT READS IS OF BULK AT MOST 1048576: true; the input reads as it did. -/
def fnExactUnionOfUptoRow : OpenClaim := { program := "ytoonimlkjfpidaa", sum := "03b2f150b4f389423b53aeaa4c6b5d04c297575c63f05c1efba5c371d5b0287f", func := "loop.example/growingpictures/laws.FnExactUnionOf", spec := "fnExactUnionOf", unfollowed := true, recurses := true, apart := false, narrowed := true }
def FnExactUnionOfUptoSaid : Prop := fnExactUnionOfUptoRow.holds Try.pinned (OpenSpec.upto fnExactUnionOfSpec)

/-- 'laws.FnExactCommonOf', WHERE WHAT IT READS IS OF BULK AT MOST 1048576: true; the input reads as it did. -/
def fnExactCommonOfUptoRow : OpenClaim := { program := "ytoonimlkjfpidaa", sum := "03b2f150b4f389423b53aeaa4c6b5d04c297575c63f05c1efba5c371d5b0287f", func := "loop.example/growingpictures/laws.FnExactCommonOf", spec := "fnExactCommonOf", unfollowed := true, recurses := true, apart := false, narrowed := true }
def FnExactCommonOfUptoSaid : Prop := fnExactCommonOfUptoRow.holds Try.pinned (OpenSpec.upto fnExactCommonOfSpec)

/-- 'laws.FnExactWithinOk', WHERE WHAT IT READS IS OF BULK AT MOST 1048576: true; the input reads as it did. -/
def fnExactWithinOkUptoRow : OpenClaim := { program := "ytoonimlkjfpidaa", sum := "03b2f150b4f389423b53aeaa4c6b5d04c297575c63f05c1efba5c371d5b0287f", func := "loop.example/growingpictures/laws.FnExactWithinOk", spec := "fnExactWithinOk", unfollowed := true, recurses := true, apart := false, narrowed := true }
def FnExactWithinOkUptoSaid : Prop := fnExactWithinOkUptoRow.holds Try.pinned (OpenSpec.upto fnExactWithinOkSpec)

/-- 'laws.FnExactMovedBy', WHERE WHAT IT READS IS OF BULK AT MOST 1048576: true; the input reads as it did. -/
def fnExactMovedByUptoRow : OpenClaim := { program := "ytoonimlkjfpidaa", sum := "03b2f150b4f389423b53aeaa4c6b5d04c297575c63f05c1efba5c371d5b0287f", func := "loop.example/growingpictures/laws.FnExactMovedBy", spec := "fnExactMovedBy", apart := false, narrowed := true }
def FnExactMovedByUptoSaid : Prop := fnExactMovedByUptoRow.holds Try.pinned (OpenSpec.upto fnExactMovedBySpec)

/-- 'laws.FnExactTurnedOf', WHERE WHAT IT READS IS OF BULK AT MOST 1048576: true; the input reads as it did. -/
def fnExactTurnedOfUptoRow : OpenClaim := { program := "ytoonimlkjfpidaa", sum := "03b2f150b4f389423b53aeaa4c6b5d04c297575c63f05c1efba5c371d5b0287f", func := "loop.example/growingpictures/laws.FnExactTurnedOf", spec := "fnExactTurnedOf", apart := false, narrowed := true }
def FnExactTurnedOfUptoSaid : Prop := fnExactTurnedOfUptoRow.holds Try.pinned (OpenSpec.upto fnExactTurnedOfSpec)

end Rows
end Go.Proofs.Ytoonimlkjfpidaa
