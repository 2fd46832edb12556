/-
  No cell of these rows narrows 'for every input' (looked for: loops, veiled, ifaces, maps, wideKeys, modest, calm, conditions, laid).
  DERIVED. THE GIVEN ROWS OF THIS SEAT. 10 by the template 'for every input the law returns true; each argument reads behind the call as it read before'; 0 by the template 'total and deterministic' (their statements: YtamidjgckaanlaaTotals.lean).
  GIVEN WITH THE SEED: the statements are not yours to turn. If you find one false, say at which input.
  Laid BY PROGRAM, IN A SANDBOX (cutbox-rows.mjs): the forced cells as the released guide's own fill.sh prints them over the translation 65299c9f19196bf0… (all of the seat's roots in one cut). By AI agents, Wed Nov 11 2026. No macro, syntax, notation, axiom, sorry.
-/
import Derived.Test.YtamidjgckaanlaaChecked
import GoSem.Claim
import GoSem.ClaimJoined
import GoSem.ClaimMapViews
import Derived.JoinedTies
import Derived.KernelRfl
namespace Go.Proofs.Ytamidjgckaanlaa
/- THE CELL 'sum', in the pinned program and in every row, IS THE sha256 OF THE DUMP (.gsa) THAT YtamidjgckaanlaaProg.lean LOADS. Nothing in Lean hashes anything: it is a label: what it is worth is what the hold of that sum in a sandbox is worth. -/
noncomputable def Try.pinned : Pinned := { name := "ytamidjgckaanlaa", sum := "65299c9f19196bf0c93046036e1f8a45d4061d4040478c94886eb514a755ef9c", checked := Try.checked }
namespace Rows
def none {H : Type} : Left H := { results := [], args := [] }

/-- 'laws.FnMovedBy': WHATEVER THE INPUT: true; the input reads as it did. -/
def fnMovedBySpec : ChangeSpec := { name := "fnMovedBy", fn := fun _ => fun
  | [d] => { results := [.lit (.bool true)], args := [d] }
  | _ => none }
def fnMovedByRow : OpenClaim := { program := "ytamidjgckaanlaa", sum := "65299c9f19196bf0c93046036e1f8a45d4061d4040478c94886eb514a755ef9c", func := "loop.example/growingpictures/laws.FnMovedBy", spec := "fnMovedBy", unfollowed := true, recurses := true, apart := false }
def FnMovedBySaid : Prop := fnMovedByRow.holds Try.pinned (OpenSpec.ofChange fnMovedBySpec)

/-- ITS FALSE NEIGHBOUR: 'it returns false'. Refute it at one input. -/
def fnMovedByWrong : ChangeSpec := { name := "fnMovedBy", fn := fun _ => fun
  | [d] => { results := [.lit (.bool false)], args := [d] }
  | _ => none }
def FnMovedByWrongFalsely : Prop := fnMovedByRow.holds Try.pinned (OpenSpec.ofChange fnMovedByWrong)

/-- 'laws.FnSumOf': WHATEVER THE INPUT: true; the input reads as it did. -/
def fnSumOfSpec : ChangeSpec := { name := "fnSumOf", fn := fun _ => fun
  | [d1, d2] => { results := [.lit (.bool true)], args := [d1, d2] }
  | _ => none }
def fnSumOfRow : OpenClaim := { program := "ytamidjgckaanlaa", sum := "65299c9f19196bf0c93046036e1f8a45d4061d4040478c94886eb514a755ef9c", func := "loop.example/growingpictures/laws.FnSumOf", spec := "fnSumOf", unfollowed := true, recurses := true, apart := false }
def FnSumOfSaid : Prop := fnSumOfRow.holds Try.pinned (OpenSpec.ofChange fnSumOfSpec)

/-- ITS FALSE NEIGHBOUR: 'it returns false'. Refute it at one input. -/
def fnSumOfWrong : ChangeSpec := { name := "fnSumOf", fn := fun _ => fun
  | [d1, d2] => { results := [.lit (.bool false)], args := [d1, d2] }
  | _ => none }
def FnSumOfWrongFalsely : Prop := fnSumOfRow.holds Try.pinned (OpenSpec.ofChange fnSumOfWrong)

/-- 'laws.FnDoubledOf': WHATEVER THE INPUT: true; the input reads as it did. -/
def fnDoubledOfSpec : ChangeSpec := { name := "fnDoubledOf", fn := fun _ => fun
  | [d] => { results := [.lit (.bool true)], args := [d] }
  | _ => none }
def fnDoubledOfRow : OpenClaim := { program := "ytamidjgckaanlaa", sum := "65299c9f19196bf0c93046036e1f8a45d4061d4040478c94886eb514a755ef9c", func := "loop.example/growingpictures/laws.FnDoubledOf", spec := "fnDoubledOf", unfollowed := true, recurses := true, apart := false }
def FnDoubledOfSaid : Prop := fnDoubledOfRow.holds Try.pinned (OpenSpec.ofChange fnDoubledOfSpec)

/-- ITS FALSE NEIGHBOUR: 'it returns false'. Refute it at one input. -/
def fnDoubledOfWrong : ChangeSpec := { name := "fnDoubledOf", fn := fun _ => fun
  | [d] => { results := [.lit (.bool false)], args := [d] }
  | _ => none }
def FnDoubledOfWrongFalsely : Prop := fnDoubledOfRow.holds Try.pinned (OpenSpec.ofChange fnDoubledOfWrong)

/-- 'laws.FnDifferencesOf': WHATEVER THE INPUT: true; the input reads as it did. -/
def fnDifferencesOfSpec : ChangeSpec := { name := "fnDifferencesOf", fn := fun _ => fun
  | [d] => { results := [.lit (.bool true)], args := [d] }
  | _ => none }
def fnDifferencesOfRow : OpenClaim := { program := "ytamidjgckaanlaa", sum := "65299c9f19196bf0c93046036e1f8a45d4061d4040478c94886eb514a755ef9c", func := "loop.example/growingpictures/laws.FnDifferencesOf", spec := "fnDifferencesOf", unfollowed := true, recurses := true, apart := false }
def FnDifferencesOfSaid : Prop := fnDifferencesOfRow.holds Try.pinned (OpenSpec.ofChange fnDifferencesOfSpec)

/-- ITS FALSE NEIGHBOUR: 'it returns false'. Refute it at one input. -/
def fnDifferencesOfWrong : ChangeSpec := { name := "fnDifferencesOf", fn := fun _ => fun
  | [d] => { results := [.lit (.bool false)], args := [d] }
  | _ => none }
def FnDifferencesOfWrongFalsely : Prop := fnDifferencesOfRow.holds Try.pinned (OpenSpec.ofChange fnDifferencesOfWrong)

/-- 'laws.FnBoxOf': WHATEVER THE INPUT: true; the input reads as it did. -/
def fnBoxOfSpec : ChangeSpec := { name := "fnBoxOf", fn := fun _ => fun
  | [d1, d2] => { results := [.lit (.bool true)], args := [d1, d2] }
  | _ => none }
def fnBoxOfRow : OpenClaim := { program := "ytamidjgckaanlaa", sum := "65299c9f19196bf0c93046036e1f8a45d4061d4040478c94886eb514a755ef9c", func := "loop.example/growingpictures/laws.FnBoxOf", spec := "fnBoxOf", unfollowed := true, recurses := true, apart := false }
def FnBoxOfSaid : Prop := fnBoxOfRow.holds Try.pinned (OpenSpec.ofChange fnBoxOfSpec)

/-- ITS FALSE NEIGHBOUR: 'it returns false'. Refute it at one input. -/
def fnBoxOfWrong : ChangeSpec := { name := "fnBoxOf", fn := fun _ => fun
  | [d1, d2] => { results := [.lit (.bool false)], args := [d1, d2] }
  | _ => none }
def FnBoxOfWrongFalsely : Prop := fnBoxOfRow.holds Try.pinned (OpenSpec.ofChange fnBoxOfWrong)

/-- 'laws.FnExactMovedBy': WHATEVER THE INPUT: true; the input reads as it did. -/
def fnExactMovedBySpec : ChangeSpec := { name := "fnExactMovedBy", fn := fun _ => fun
  | [d1, d2] => { results := [.lit (.bool true)], args := [d1, d2] }
  | _ => none }
def fnExactMovedByRow : OpenClaim := { program := "ytamidjgckaanlaa", sum := "65299c9f19196bf0c93046036e1f8a45d4061d4040478c94886eb514a755ef9c", func := "loop.example/growingpictures/laws.FnExactMovedBy", spec := "fnExactMovedBy", apart := false }
def FnExactMovedBySaid : Prop := fnExactMovedByRow.holds Try.pinned (OpenSpec.ofChange fnExactMovedBySpec)

/-- ITS FALSE NEIGHBOUR: 'it returns false'. Refute it at one input. -/
def fnExactMovedByWrong : ChangeSpec := { name := "fnExactMovedBy", fn := fun _ => fun
  | [d1, d2] => { results := [.lit (.bool false)], args := [d1, d2] }
  | _ => none }
def FnExactMovedByWrongFalsely : Prop := fnExactMovedByRow.holds Try.pinned (OpenSpec.ofChange fnExactMovedByWrong)

/-- 'laws.FnExactSumOf': WHATEVER THE INPUT: true; the input reads as it did. -/
def fnExactSumOfSpec : ChangeSpec := { name := "fnExactSumOf", fn := fun _ => fun
  | [d1, d2] => { results := [.lit (.bool true)], args := [d1, d2] }
  | _ => none }
def fnExactSumOfRow : OpenClaim := { program := "ytamidjgckaanlaa", sum := "65299c9f19196bf0c93046036e1f8a45d4061d4040478c94886eb514a755ef9c", func := "loop.example/growingpictures/laws.FnExactSumOf", spec := "fnExactSumOf", unfollowed := true, recurses := true, apart := false }
def FnExactSumOfSaid : Prop := fnExactSumOfRow.holds Try.pinned (OpenSpec.ofChange fnExactSumOfSpec)

/-- ITS FALSE NEIGHBOUR: 'it returns false'. Refute it at one input. -/
def fnExactSumOfWrong : ChangeSpec := { name := "fnExactSumOf", fn := fun _ => fun
  | [d1, d2] => { results := [.lit (.bool false)], args := [d1, d2] }
  | _ => none }
def FnExactSumOfWrongFalsely : Prop := fnExactSumOfRow.holds Try.pinned (OpenSpec.ofChange fnExactSumOfWrong)

/-- 'laws.FnExactDoubledOf': WHATEVER THE INPUT: true; the input reads as it did. -/
def fnExactDoubledOfSpec : ChangeSpec := { name := "fnExactDoubledOf", fn := fun _ => fun
  | [d] => { results := [.lit (.bool true)], args := [d] }
  | _ => none }
def fnExactDoubledOfRow : OpenClaim := { program := "ytamidjgckaanlaa", sum := "65299c9f19196bf0c93046036e1f8a45d4061d4040478c94886eb514a755ef9c", func := "loop.example/growingpictures/laws.FnExactDoubledOf", spec := "fnExactDoubledOf", unfollowed := true, recurses := true, apart := false }
def FnExactDoubledOfSaid : Prop := fnExactDoubledOfRow.holds Try.pinned (OpenSpec.ofChange fnExactDoubledOfSpec)

/-- ITS FALSE NEIGHBOUR: 'it returns false'. Refute it at one input. -/
def fnExactDoubledOfWrong : ChangeSpec := { name := "fnExactDoubledOf", fn := fun _ => fun
  | [d] => { results := [.lit (.bool false)], args := [d] }
  | _ => none }
def FnExactDoubledOfWrongFalsely : Prop := fnExactDoubledOfRow.holds Try.pinned (OpenSpec.ofChange fnExactDoubledOfWrong)

/-- 'laws.FnExactDifferencesOf': WHATEVER THE INPUT: true; the input reads as it did. -/
def fnExactDifferencesOfSpec : ChangeSpec := { name := "fnExactDifferencesOf", fn := fun _ => fun
  | [d] => { results := [.lit (.bool true)], args := [d] }
  | _ => none }
def fnExactDifferencesOfRow : OpenClaim := { program := "ytamidjgckaanlaa", sum := "65299c9f19196bf0c93046036e1f8a45d4061d4040478c94886eb514a755ef9c", func := "loop.example/growingpictures/laws.FnExactDifferencesOf", spec := "fnExactDifferencesOf", unfollowed := true, recurses := true, apart := false }
def FnExactDifferencesOfSaid : Prop := fnExactDifferencesOfRow.holds Try.pinned (OpenSpec.ofChange fnExactDifferencesOfSpec)

/-- ITS FALSE NEIGHBOUR: 'it returns false'. Refute it at one input. -/
def fnExactDifferencesOfWrong : ChangeSpec := { name := "fnExactDifferencesOf", fn := fun _ => fun
  | [d] => { results := [.lit (.bool false)], args := [d] }
  | _ => none }
def FnExactDifferencesOfWrongFalsely : Prop := fnExactDifferencesOfRow.holds Try.pinned (OpenSpec.ofChange fnExactDifferencesOfWrong)

/-- 'laws.FnExactBoxOf': WHATEVER THE INPUT: true; the input reads as it did. -/
def fnExactBoxOfSpec : ChangeSpec := { name := "fnExactBoxOf", fn := fun _ => fun
  | [d] => { results := [.lit (.bool true)], args := [d] }
  | _ => none }
def fnExactBoxOfRow : OpenClaim := { program := "ytamidjgckaanlaa", sum := "65299c9f19196bf0c93046036e1f8a45d4061d4040478c94886eb514a755ef9c", func := "loop.example/growingpictures/laws.FnExactBoxOf", spec := "fnExactBoxOf", apart := false }
def FnExactBoxOfSaid : Prop := fnExactBoxOfRow.holds Try.pinned (OpenSpec.ofChange fnExactBoxOfSpec)

/-- ITS FALSE NEIGHBOUR: 'it returns false'. Refute it at one input. -/
def fnExactBoxOfWrong : ChangeSpec := { name := "fnExactBoxOf", fn := fun _ => fun
  | [d] => { results := [.lit (.bool false)], args := [d] }
  | _ => none }
def FnExactBoxOfWrongFalsely : Prop := fnExactBoxOfRow.holds Try.pinned (OpenSpec.ofChange fnExactBoxOfWrong)

/- THE SECOND FORM. 'bulk': how many values and letters a reading holds, each counted each time it is reached (what is shared counts as often as it is met; a slice's spare places count too). A statement '..UptoSaid' is the law's where the arguments, and the package variables that the reading takes, are together of bulk at most 1048576: NARROWER than '..Said'. Prove '..Said' where nothing that the law and all that it calls make is longer than what came in: it says more and counts as full. Else prove '..UptoSaid'. A law counts once. -/
mutual
def uptoBulk {H : Type} : DataW H → Nat
  | .lit (.string bytes) => bytes.length + 1
  | .lit _ => 1
  | .nil => 1
  | .ptr d => uptoBulk d + 1
  | .slice elems spare => uptoBulkAll elems + uptoBulkAll spare + 1
  | .agg parts => uptoBulkAll parts + 1
  | .iface _ d => uptoBulk d + 1
  | .map entries => uptoBulkEntries entries + 1
  | .held _ => 1
def uptoBulkAll {H : Type} : List (DataW H) → Nat
  | [] => 0
  | d :: r => uptoBulk d + uptoBulkAll r
def uptoBulkEntries {H : Type} : List (Lit × DataW H) → Nat
  | [] => 0
  | x :: r => uptoBulkEntry x + uptoBulkEntries r
def uptoBulkEntry {H : Type} : Lit × DataW H → Nat
  | (.string bytes, d) => bytes.length + uptoBulk d + 1
  | (_, d) => uptoBulk d + 1
 end
def uptoSmall : (H : Type) → List (DataW H) → Bool := fun _ ds => decide (uptoBulkAll ds ≤ 1048576)
def OpenSpec.upto (s : _root_.Go.ChangeSpec) : _root_.Go.OpenSpec := { _root_.Go.OpenSpec.ofChange s with cond := some uptoSmall }

/-- 'laws.FnMovedBy', WHERE WHAT IT READS IS OF BULK AT MOST 1048576: true; the input reads as it did. -/
def fnMovedByUptoRow : OpenClaim := { program := "ytamidjgckaanlaa", sum := "65299c9f19196bf0c93046036e1f8a45d4061d4040478c94886eb514a755ef9c", func := "loop.example/growingpictures/laws.FnMovedBy", spec := "fnMovedBy", unfollowed := true, recurses := true, apart := false, narrowed := true }
def FnMovedByUptoSaid : Prop := fnMovedByUptoRow.holds Try.pinned (OpenSpec.upto fnMovedBySpec)

/-- 'laws.FnSumOf', WHERE WHAT IT READS IS OF BULK AT MOST 1048576: true; the input reads as it did. -/
def fnSumOfUptoRow : OpenClaim := { program := "ytamidjgckaanlaa", sum := "65299c9f19196bf0c93046036e1f8a45d4061d4040478c94886eb514a755ef9c", func := "loop.example/growingpictures/laws.FnSumOf", spec := "fnSumOf", unfollowed := true, recurses := true, apart := false, narrowed := true }
def FnSumOfUptoSaid : Prop := fnSumOfUptoRow.holds Try.pinned (OpenSpec.upto fnSumOfSpec)

/-- 'laws.FnDoubledOf', WHERE WHAT IT READS IS OF BULK AT MOST 1048576: true; the input reads as it did. -/
def fnDoubledOfUptoRow : OpenClaim := { program := "ytamidjgckaanlaa", sum := "65299c9f19196bf0c93046036e1f8a45d4061d4040478c94886eb514a755ef9c", func := "loop.example/growingpictures/laws.FnDoubledOf", spec := "fnDoubledOf", unfollowed := true, recurses := true, apart := false, narrowed := true }
def FnDoubledOfUptoSaid : Prop := fnDoubledOfUptoRow.holds Try.pinned (OpenSpec.upto fnDoubledOfSpec)

/-- 'laws.FnDifferencesOf', WHERE WHAT IT READS IS OF BULK AT MOST 1048576: true; the input reads as it did. -/
def fnDifferencesOfUptoRow : OpenClaim := { program := "ytamidjgckaanlaa", sum := "65299c9f19196bf0c93046036e1f8a45d4061d4040478c94886eb514a755ef9c", func := "loop.example/growingpictures/laws.FnDifferencesOf", spec := "fnDifferencesOf", unfollowed := true, recurses := true, apart := false, narrowed := true }
def FnDifferencesOfUptoSaid : Prop := fnDifferencesOfUptoRow.holds Try.pinned (OpenSpec.upto fnDifferencesOfSpec)

/-- 'laws.FnBoxOf', WHERE WHAT IT READS IS OF BULK AT MOST 1048576: true; the input reads as it did. -/
def fnBoxOfUptoRow : OpenClaim := { program := "ytamidjgckaanlaa", sum := "65299c9f19196bf0c93046036e1f8a45d4061d4040478c94886eb514a755ef9c", func := "loop.example/growingpictures/laws.FnBoxOf", spec := "fnBoxOf", unfollowed := true, recurses := true, apart := false, narrowed := true }
def FnBoxOfUptoSaid : Prop := fnBoxOfUptoRow.holds Try.pinned (OpenSpec.upto fnBoxOfSpec)

/-- 'laws.FnExactMovedBy', WHERE WHAT IT READS IS OF BULK AT MOST 1048576: true; the input reads as it did. -/
def fnExactMovedByUptoRow : OpenClaim := { program := "ytamidjgckaanlaa", sum := "65299c9f19196bf0c93046036e1f8a45d4061d4040478c94886eb514a755ef9c", func := "loop.example/growingpictures/laws.FnExactMovedBy", spec := "fnExactMovedBy", apart := false, narrowed := true }
def FnExactMovedByUptoSaid : Prop := fnExactMovedByUptoRow.holds Try.pinned (OpenSpec.upto fnExactMovedBySpec)

/-- 'laws.FnExactSumOf', WHERE WHAT IT READS IS OF BULK AT MOST 1048576: true; the input reads as it did. -/
def fnExactSumOfUptoRow : OpenClaim := { program := "ytamidjgckaanlaa", sum := "65299c9f19196bf0c93046036e1f8a45d4061d4040478c94886eb514a755ef9c", func := "loop.example/growingpictures/laws.FnExactSumOf", spec := "fnExactSumOf", unfollowed := true, recurses := true, apart := false, narrowed := true }
def FnExactSumOfUptoSaid : Prop := fnExactSumOfUptoRow.holds Try.pinned (OpenSpec.upto fnExactSumOfSpec)

/-- 'laws.FnExactDoubledOf', WHERE WHAT IT READS IS OF BULK AT MOST 1048576: true; the input reads as it did. -/
def fnExactDoubledOfUptoRow : OpenClaim := { program := "ytamidjgckaanlaa", sum := "65299c9f19196bf0c93046036e1f8a45d4061d4040478c94886eb514a755ef9c", func := "loop.example/growingpictures/laws.FnExactDoubledOf", spec := "fnExactDoubledOf", unfollowed := true, recurses := true, apart := false, narrowed := true }
def FnExactDoubledOfUptoSaid : Prop := fnExactDoubledOfUptoRow.holds Try.pinned (OpenSpec.upto fnExactDoubledOfSpec)

/-- 'laws.FnExactDifferencesOf', WHERE WHAT IT READS IS OF BULK AT MOST 1048576: true; the input reads as it did. -/
def fnExactDifferencesOfUptoRow : OpenClaim := { program := "ytamidjgckaanlaa", sum := "65299c9f19196bf0c93046036e1f8a45d4061d4040478c94886eb514a755ef9c", func := "loop.example/growingpictures/laws.FnExactDifferencesOf", spec := "fnExactDifferencesOf", unfollowed := true, recurses := true, apart := false, narrowed := true }
def FnExactDifferencesOfUptoSaid : Prop := fnExactDifferencesOfUptoRow.holds Try.pinned (OpenSpec.upto fnExactDifferencesOfSpec)

/-- 'laws.FnExactBoxOf', WHERE WHAT IT READS IS OF BULK AT MOST 1048576: true; the input reads as it did. -/
def fnExactBoxOfUptoRow : OpenClaim := { program := "ytamidjgckaanlaa", sum := "65299c9f19196bf0c93046036e1f8a45d4061d4040478c94886eb514a755ef9c", func := "loop.example/growingpictures/laws.FnExactBoxOf", spec := "fnExactBoxOf", apart := false, narrowed := true }
def FnExactBoxOfUptoSaid : Prop := fnExactBoxOfUptoRow.holds Try.pinned (OpenSpec.upto fnExactBoxOfSpec)

end Rows
end Go.Proofs.Ytamidjgckaanlaa
