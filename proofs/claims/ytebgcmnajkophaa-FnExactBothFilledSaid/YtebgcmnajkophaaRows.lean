/-
  No cell of these rows narrows 'for every input' (looked for: loops, veiled, ifaces, maps, wideKeys, modest, calm, conditions, laid).
  DERIVED. THE GIVEN ROWS OF THIS SEAT. 10 by the template 'for every input the law returns true; each argument reads behind the call as it read before'; 0 by the template 'total and deterministic' (their statements: YtebgcmnajkophaaTotals.lean).
  GIVEN WITH THE SEED: the statements are not yours to turn. If you find one false, say at which input.
  Laid BY PROGRAM, IN A SANDBOX (cutbox-rows.mjs): the forced cells as the released guide's own fill.sh prints them over the translation 7b0f30db0210e1ab… (all of the seat's roots in one cut). By AI agents, Wed Nov 11 2026. No macro, syntax, notation, axiom, sorry.
-/
import Derived.Test.YtebgcmnajkophaaChecked
import GoSem.Claim
import GoSem.ClaimJoined
import GoSem.ClaimMapViews
import Derived.JoinedTies
import Derived.KernelRfl
namespace Go.Proofs.Ytebgcmnajkophaa
/- THE CELL 'sum', in the pinned program and in every row, IS THE sha256 OF THE DUMP (.gsa) THAT YtebgcmnajkophaaProg.lean LOADS. Nothing in Lean hashes anything: it is a label: what it is worth is what the hold of that sum in a sandbox is worth. -/
noncomputable def Try.pinned : Pinned := { name := "ytebgcmnajkophaa", sum := "7b0f30db0210e1abd7efbf707d31fe9f98bd8bba31249b66329723eb89c8c8ef", checked := Try.checked }
namespace Rows
def none {H : Type} : Left H := { results := [], args := [] }

/-- 'laws.FnOverOf': WHATEVER THE INPUT: true; the input reads as it did. -/
def fnOverOfSpec : ChangeSpec := { name := "fnOverOf", fn := fun _ => fun
  | [d] => { results := [.lit (.bool true)], args := [d] }
  | _ => none }
def fnOverOfRow : OpenClaim := { program := "ytebgcmnajkophaa", sum := "7b0f30db0210e1abd7efbf707d31fe9f98bd8bba31249b66329723eb89c8c8ef", func := "loop.example/growingpictures/laws.FnOverOf", spec := "fnOverOf", unfollowed := true, recurses := true, apart := false }
def FnOverOfSaid : Prop := fnOverOfRow.holds Try.pinned (OpenSpec.ofChange fnOverOfSpec)

/-- ITS FALSE NEIGHBOUR: 'it returns false'. Refute it at one input. -/
def fnOverOfWrong : ChangeSpec := { name := "fnOverOf", fn := fun _ => fun
  | [d] => { results := [.lit (.bool false)], args := [d] }
  | _ => none }
def FnOverOfWrongFalsely : Prop := fnOverOfRow.holds Try.pinned (OpenSpec.ofChange fnOverOfWrong)

/-- 'laws.FnRowsFilled': WHATEVER THE INPUT: true; the input reads as it did. -/
def fnRowsFilledSpec : ChangeSpec := { name := "fnRowsFilled", fn := fun _ => fun
  | [d] => { results := [.lit (.bool true)], args := [d] }
  | _ => none }
def fnRowsFilledRow : OpenClaim := { program := "ytebgcmnajkophaa", sum := "7b0f30db0210e1abd7efbf707d31fe9f98bd8bba31249b66329723eb89c8c8ef", func := "loop.example/growingpictures/laws.FnRowsFilled", spec := "fnRowsFilled", unfollowed := true, recurses := true, apart := false }
def FnRowsFilledSaid : Prop := fnRowsFilledRow.holds Try.pinned (OpenSpec.ofChange fnRowsFilledSpec)

/-- ITS FALSE NEIGHBOUR: 'it returns false'. Refute it at one input. -/
def fnRowsFilledWrong : ChangeSpec := { name := "fnRowsFilled", fn := fun _ => fun
  | [d] => { results := [.lit (.bool false)], args := [d] }
  | _ => none }
def FnRowsFilledWrongFalsely : Prop := fnRowsFilledRow.holds Try.pinned (OpenSpec.ofChange fnRowsFilledWrong)

/-- 'laws.FnColumnsFilled': WHATEVER THE INPUT: true; the input reads as it did. -/
def fnColumnsFilledSpec : ChangeSpec := { name := "fnColumnsFilled", fn := fun _ => fun
  | [d] => { results := [.lit (.bool true)], args := [d] }
  | _ => none }
def fnColumnsFilledRow : OpenClaim := { program := "ytebgcmnajkophaa", sum := "7b0f30db0210e1abd7efbf707d31fe9f98bd8bba31249b66329723eb89c8c8ef", func := "loop.example/growingpictures/laws.FnColumnsFilled", spec := "fnColumnsFilled", unfollowed := true, recurses := true, apart := false }
def FnColumnsFilledSaid : Prop := fnColumnsFilledRow.holds Try.pinned (OpenSpec.ofChange fnColumnsFilledSpec)

/-- ITS FALSE NEIGHBOUR: 'it returns false'. Refute it at one input. -/
def fnColumnsFilledWrong : ChangeSpec := { name := "fnColumnsFilled", fn := fun _ => fun
  | [d] => { results := [.lit (.bool false)], args := [d] }
  | _ => none }
def FnColumnsFilledWrongFalsely : Prop := fnColumnsFilledRow.holds Try.pinned (OpenSpec.ofChange fnColumnsFilledWrong)

/-- 'laws.FnBothFilled': WHATEVER THE INPUT: true; the input reads as it did. -/
def fnBothFilledSpec : ChangeSpec := { name := "fnBothFilled", fn := fun _ => fun
  | [d1, d2] => { results := [.lit (.bool true)], args := [d1, d2] }
  | _ => none }
def fnBothFilledRow : OpenClaim := { program := "ytebgcmnajkophaa", sum := "7b0f30db0210e1abd7efbf707d31fe9f98bd8bba31249b66329723eb89c8c8ef", func := "loop.example/growingpictures/laws.FnBothFilled", spec := "fnBothFilled", unfollowed := true, recurses := true, apart := false }
def FnBothFilledSaid : Prop := fnBothFilledRow.holds Try.pinned (OpenSpec.ofChange fnBothFilledSpec)

/-- ITS FALSE NEIGHBOUR: 'it returns false'. Refute it at one input. -/
def fnBothFilledWrong : ChangeSpec := { name := "fnBothFilled", fn := fun _ => fun
  | [d1, d2] => { results := [.lit (.bool false)], args := [d1, d2] }
  | _ => none }
def FnBothFilledWrongFalsely : Prop := fnBothFilledRow.holds Try.pinned (OpenSpec.ofChange fnBothFilledWrong)

/-- 'laws.FnFilledOk': WHATEVER THE INPUT: true; the input reads as it did. -/
def fnFilledOkSpec : ChangeSpec := { name := "fnFilledOk", fn := fun _ => fun
  | [d] => { results := [.lit (.bool true)], args := [d] }
  | _ => none }
def fnFilledOkRow : OpenClaim := { program := "ytebgcmnajkophaa", sum := "7b0f30db0210e1abd7efbf707d31fe9f98bd8bba31249b66329723eb89c8c8ef", func := "loop.example/growingpictures/laws.FnFilledOk", spec := "fnFilledOk", unfollowed := true, recurses := true, apart := false }
def FnFilledOkSaid : Prop := fnFilledOkRow.holds Try.pinned (OpenSpec.ofChange fnFilledOkSpec)

/-- ITS FALSE NEIGHBOUR: 'it returns false'. Refute it at one input. -/
def fnFilledOkWrong : ChangeSpec := { name := "fnFilledOk", fn := fun _ => fun
  | [d] => { results := [.lit (.bool false)], args := [d] }
  | _ => none }
def FnFilledOkWrongFalsely : Prop := fnFilledOkRow.holds Try.pinned (OpenSpec.ofChange fnFilledOkWrong)

/-- 'laws.FnExactOverOf': WHATEVER THE INPUT: true; the input reads as it did. -/
def fnExactOverOfSpec : ChangeSpec := { name := "fnExactOverOf", fn := fun _ => fun
  | [d] => { results := [.lit (.bool true)], args := [d] }
  | _ => none }
def fnExactOverOfRow : OpenClaim := { program := "ytebgcmnajkophaa", sum := "7b0f30db0210e1abd7efbf707d31fe9f98bd8bba31249b66329723eb89c8c8ef", func := "loop.example/growingpictures/laws.FnExactOverOf", spec := "fnExactOverOf", unfollowed := true, recurses := true, apart := false }
def FnExactOverOfSaid : Prop := fnExactOverOfRow.holds Try.pinned (OpenSpec.ofChange fnExactOverOfSpec)

/-- ITS FALSE NEIGHBOUR: 'it returns false'. Refute it at one input. -/
def fnExactOverOfWrong : ChangeSpec := { name := "fnExactOverOf", fn := fun _ => fun
  | [d] => { results := [.lit (.bool false)], args := [d] }
  | _ => none }
def FnExactOverOfWrongFalsely : Prop := fnExactOverOfRow.holds Try.pinned (OpenSpec.ofChange fnExactOverOfWrong)

/-- 'laws.FnExactRowsFilled': WHATEVER THE INPUT: true; the input reads as it did. -/
def fnExactRowsFilledSpec : ChangeSpec := { name := "fnExactRowsFilled", fn := fun _ => fun
  | [d] => { results := [.lit (.bool true)], args := [d] }
  | _ => none }
def fnExactRowsFilledRow : OpenClaim := { program := "ytebgcmnajkophaa", sum := "7b0f30db0210e1abd7efbf707d31fe9f98bd8bba31249b66329723eb89c8c8ef", func := "loop.example/growingpictures/laws.FnExactRowsFilled", spec := "fnExactRowsFilled", unfollowed := true, recurses := true, apart := false }
def FnExactRowsFilledSaid : Prop := fnExactRowsFilledRow.holds Try.pinned (OpenSpec.ofChange fnExactRowsFilledSpec)

/-- ITS FALSE NEIGHBOUR: 'it returns false'. Refute it at one input. -/
def fnExactRowsFilledWrong : ChangeSpec := { name := "fnExactRowsFilled", fn := fun _ => fun
  | [d] => { results := [.lit (.bool false)], args := [d] }
  | _ => none }
def FnExactRowsFilledWrongFalsely : Prop := fnExactRowsFilledRow.holds Try.pinned (OpenSpec.ofChange fnExactRowsFilledWrong)

/-- 'laws.FnExactColumnsFilled': WHATEVER THE INPUT: true; the input reads as it did. -/
def fnExactColumnsFilledSpec : ChangeSpec := { name := "fnExactColumnsFilled", fn := fun _ => fun
  | [d] => { results := [.lit (.bool true)], args := [d] }
  | _ => none }
def fnExactColumnsFilledRow : OpenClaim := { program := "ytebgcmnajkophaa", sum := "7b0f30db0210e1abd7efbf707d31fe9f98bd8bba31249b66329723eb89c8c8ef", func := "loop.example/growingpictures/laws.FnExactColumnsFilled", spec := "fnExactColumnsFilled", unfollowed := true, recurses := true, apart := false }
def FnExactColumnsFilledSaid : Prop := fnExactColumnsFilledRow.holds Try.pinned (OpenSpec.ofChange fnExactColumnsFilledSpec)

/-- ITS FALSE NEIGHBOUR: 'it returns false'. Refute it at one input. -/
def fnExactColumnsFilledWrong : ChangeSpec := { name := "fnExactColumnsFilled", fn := fun _ => fun
  | [d] => { results := [.lit (.bool false)], args := [d] }
  | _ => none }
def FnExactColumnsFilledWrongFalsely : Prop := fnExactColumnsFilledRow.holds Try.pinned (OpenSpec.ofChange fnExactColumnsFilledWrong)

/-- 'laws.FnExactBothFilled': WHATEVER THE INPUT: true; the input reads as it did. -/
def fnExactBothFilledSpec : ChangeSpec := { name := "fnExactBothFilled", fn := fun _ => fun
  | [d] => { results := [.lit (.bool true)], args := [d] }
  | _ => none }
def fnExactBothFilledRow : OpenClaim := { program := "ytebgcmnajkophaa", sum := "7b0f30db0210e1abd7efbf707d31fe9f98bd8bba31249b66329723eb89c8c8ef", func := "loop.example/growingpictures/laws.FnExactBothFilled", spec := "fnExactBothFilled", unfollowed := true, recurses := true, apart := false }
def FnExactBothFilledSaid : Prop := fnExactBothFilledRow.holds Try.pinned (OpenSpec.ofChange fnExactBothFilledSpec)

/-- ITS FALSE NEIGHBOUR: 'it returns false'. Refute it at one input. -/
def fnExactBothFilledWrong : ChangeSpec := { name := "fnExactBothFilled", fn := fun _ => fun
  | [d] => { results := [.lit (.bool false)], args := [d] }
  | _ => none }
def FnExactBothFilledWrongFalsely : Prop := fnExactBothFilledRow.holds Try.pinned (OpenSpec.ofChange fnExactBothFilledWrong)

/-- 'laws.FnExactFilledOk': WHATEVER THE INPUT: true; the input reads as it did. -/
def fnExactFilledOkSpec : ChangeSpec := { name := "fnExactFilledOk", fn := fun _ => fun
  | [d] => { results := [.lit (.bool true)], args := [d] }
  | _ => none }
def fnExactFilledOkRow : OpenClaim := { program := "ytebgcmnajkophaa", sum := "7b0f30db0210e1abd7efbf707d31fe9f98bd8bba31249b66329723eb89c8c8ef", func := "loop.example/growingpictures/laws.FnExactFilledOk", spec := "fnExactFilledOk", unfollowed := true, recurses := true, apart := false }
def FnExactFilledOkSaid : Prop := fnExactFilledOkRow.holds Try.pinned (OpenSpec.ofChange fnExactFilledOkSpec)

/-- ITS FALSE NEIGHBOUR: 'it returns false'. Refute it at one input. -/
def fnExactFilledOkWrong : ChangeSpec := { name := "fnExactFilledOk", fn := fun _ => fun
  | [d] => { results := [.lit (.bool false)], args := [d] }
  | _ => none }
def FnExactFilledOkWrongFalsely : Prop := fnExactFilledOkRow.holds Try.pinned (OpenSpec.ofChange fnExactFilledOkWrong)

/- THE SECOND FORM. 'bulk': how many values and letters a reading holds, each counted each time it is reached (what is shared counts as often as it is met; a slice's spare places count too). A statement '..UptoSaid' is the law's where the arguments, and the package variables that the reading takes, are together of bulk at most 1048576: NARROWER than '..Said'. Prove '..Said' where nothing that the law and all that it calls make is longer than what came in: it says more and counts as full. Else prove '..UptoSaid'. A law counts once. -/
mutual
def uptoBulk {H : Type} : DataW H → Nat
  | .lit (.string bytes) => bytes.length + 1
  | .lit _ => 1
  | .nil => 1
  | .ptr d => uptoBulk d + 1
  | .slice elems spare => uptoBulkAll elems + uptoBulkAll spare + 1
  | .agg parts => uptoBulkAll parts + 1
  | .iface _ d => uptoBulk d + 1
  | .map entries => uptoBulkEntries entries + 1
  | .held _ => 1
def uptoBulkAll {H : Type} : List (DataW H) → Nat
  | [] => 0
  | d :: r => uptoBulk d + uptoBulkAll r
def uptoBulkEntries {H : Type} : List (Lit × DataW H) → Nat
  | [] => 0
  | x :: r => uptoBulkEntry x + uptoBulkEntries r
def uptoBulkEntry {H : Type} : Lit × DataW H → Nat
  | (.string bytes, d) => bytes.length + uptoBulk d + 1
  | (_, d) => uptoBulk d + 1
 end
def uptoSmall : (H : Type) → List (DataW H) → Bool := fun _ ds => decide (uptoBulkAll ds ≤ 1048576)
def OpenSpec.upto (s : _root_.Go.ChangeSpec) : _root_.Go.OpenSpec := { _root_.Go.OpenSpec.ofChange s with cond := some uptoSmall }

/-- 'laws.FnOverOf', WHERE WHAT IT READS IS OF BULK AT MOST 1048576: true; the input reads as it did. -/
def fnOverOfUptoRow : OpenClaim := { program := "ytebgcmnajkophaa", sum := "7b0f30db0210e1abd7efbf707d31fe9f98bd8bba31249b66329723eb89c8c8ef", func := "loop.example/growingpictures/laws.FnOverOf", spec := "fnOverOf", unfollowed := true, recurses := true, apart := false, narrowed := true }
def FnOverOfUptoSaid : Prop := fnOverOfUptoRow.holds Try.pinned (OpenSpec.upto fnOverOfSpec)

/-- 'laws.FnRowsFilled', WHERE WHAT IT READS IS OF BULK AT MOST 1048576: true; the input reads as it did. -/
def fnRowsFilledUptoRow : OpenClaim := { program := "ytebgcmnajkophaa", sum := "7b0f30db0210e1abd7efbf707d31fe9f98bd8bba31249b66329723eb89c8c8ef", func := "loop.example/growingpictures/laws.FnRowsFilled", spec := "fnRowsFilled", unfollowed := true, recurses := true, apart := false, narrowed := true }
def FnRowsFilledUptoSaid : Prop := fnRowsFilledUptoRow.holds Try.pinned (OpenSpec.upto fnRowsFilledSpec)

/-- 'laws.FnColumnsFilled', WHERE WHAT IT READS IS OF BULK AT MOST 1048576: true; the input reads as it did. -/
def fnColumnsFilledUptoRow : OpenClaim := { program := "ytebgcmnajkophaa", sum := "7b0f30db0210e1abd7efbf707d31fe9f98bd8bba31249b66329723eb89c8c8ef", func := "loop.example/growingpictures/laws.FnColumnsFilled", spec := "fnColumnsFilled", unfollowed := true, recurses := true, apart := false, narrowed := true }
def FnColumnsFilledUptoSaid : Prop := fnColumnsFilledUptoRow.holds Try.pinned (OpenSpec.upto fnColumnsFilledSpec)

/-- 'laws.FnBothFilled', WHERE WHAT IT READS IS OF BULK AT MOST 1048576: true; the input reads as it did. -/
def fnBothFilledUptoRow : OpenClaim := { program := "ytebgcmnajkophaa", sum := "7b0f30db0210e1abd7efbf707d31fe9f98bd8bba31249b66329723eb89c8c8ef", func := "loop.example/growingpictures/laws.FnBothFilled", spec := "fnBothFilled", unfollowed := true, recurses := true, apart := false, narrowed := true }
def FnBothFilledUptoSaid : Prop := fnBothFilledUptoRow.holds Try.pinned (OpenSpec.upto fnBothFilledSpec)

/-- 'laws.FnFilledOk', WHERE WHAT IT READS IS OF BULK AT MOST 1048576: true; the input reads as it did. -/
def fnFilledOkUptoRow : OpenClaim := { program := "ytebgcmnajkophaa", sum := "7b0f30db0210e1abd7efbf707d31fe9f98bd8bba31249b66329723eb89c8c8ef", func := "loop.example/growingpictures/laws.FnFilledOk", spec := "fnFilledOk", unfollowed := true, recurses := true, apart := false, narrowed := true }
def FnFilledOkUptoSaid : Prop := fnFilledOkUptoRow.holds Try.pinned (OpenSpec.upto fnFilledOkSpec)

/-- 'laws.FnExactOverOf', WHERE WHAT IT READS IS OF BULK AT MOST 1048576: true; the input reads as it did. -/
def fnExactOverOfUptoRow : OpenClaim := { program := "ytebgcmnajkophaa", sum := "7b0f30db0210e1abd7efbf707d31fe9f98bd8bba31249b66329723eb89c8c8ef", func := "loop.example/growingpictures/laws.FnExactOverOf", spec := "fnExactOverOf", unfollowed := true, recurses := true, apart := false, narrowed := true }
def FnExactOverOfUptoSaid : Prop := fnExactOverOfUptoRow.holds Try.pinned (OpenSpec.upto fnExactOverOfSpec)

/-- 'laws.FnExactRowsFilled', WHERE WHAT IT READS IS OF BULK AT MOST 1048576: true; the input reads as it did. -/
def fnExactRowsFilledUptoRow : OpenClaim := { program := "ytebgcmnajkophaa", sum := "7b0f30db0210e1abd7efbf707d31fe9f98bd8bba31249b66329723eb89c8c8ef", func := "loop.example/growingpictures/laws.FnExactRowsFilled", spec := "fnExactRowsFilled", unfollowed := true, recurses := true, apart := false, narrowed := true }
def FnExactRowsFilledUptoSaid : Prop := fnExactRowsFilledUptoRow.holds Try.pinned (OpenSpec.upto fnExactRowsFilledSpec)

/-- 'laws.FnExactColumnsFilled', WHERE WHAT IT READS IS OF BULK AT MOST 1048576: true; the input reads as it did. -/
def fnExactColumnsFilledUptoRow : OpenClaim := { program := "ytebgcmnajkophaa", sum := "7b0f30db0210e1abd7efbf707d31fe9f98bd8bba31249b66329723eb89c8c8ef", func := "loop.example/growingpictures/laws.FnExactColumnsFilled", spec := "fnExactColumnsFilled", unfollowed := true, recurses := true, apart := false, narrowed := true }
def FnExactColumnsFilledUptoSaid : Prop := fnExactColumnsFilledUptoRow.holds Try.pinned (OpenSpec.upto fnExactColumnsFilledSpec)

/-- 'laws.FnExactBothFilled', WHERE WHAT IT READS IS OF BULK AT MOST 1048576: true; the input reads as it did. -/
def fnExactBothFilledUptoRow : OpenClaim := { program := "ytebgcmnajkophaa", sum := "7b0f30db0210e1abd7efbf707d31fe9f98bd8bba31249b66329723eb89c8c8ef", func := "loop.example/growingpictures/laws.FnExactBothFilled", spec := "fnExactBothFilled", unfollowed := true, recurses := true, apart := false, narrowed := true }
def FnExactBothFilledUptoSaid : Prop := fnExactBothFilledUptoRow.holds Try.pinned (OpenSpec.upto fnExactBothFilledSpec)

/-- 'laws.FnExactFilledOk', WHERE WHAT IT READS IS OF BULK AT MOST 1048576: true; the input reads as it did. -/
def fnExactFilledOkUptoRow : OpenClaim := { program := "ytebgcmnajkophaa", sum := "7b0f30db0210e1abd7efbf707d31fe9f98bd8bba31249b66329723eb89c8c8ef", func := "loop.example/growingpictures/laws.FnExactFilledOk", spec := "fnExactFilledOk", unfollowed := true, recurses := true, apart := false, narrowed := true }
def FnExactFilledOkUptoSaid : Prop := fnExactFilledOkUptoRow.holds Try.pinned (OpenSpec.upto fnExactFilledOkSpec)

end Rows
end Go.Proofs.Ytebgcmnajkophaa
