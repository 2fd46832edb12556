/-
  No cell of these rows narrows 'for every input' (looked for: loops, veiled, ifaces, maps, wideKeys, modest, calm, conditions, laid).
  DERIVED. THE GIVEN ROWS OF THIS SEAT. 10 by the template 'for every input the law returns true; each argument reads behind the call as it read before'; 0 by the template 'total and deterministic' (their statements: YtmpfhdcefilekaaTotals.lean).
  GIVEN WITH THE SEED: the statements are not yours to turn. If you find one false, say at which input.
  Laid BY PROGRAM, IN A SANDBOX (cutbox-rows.mjs): the forced cells as the released guide's own fill.sh prints them over the translation f01253054362499a… (all of the seat's roots in one cut). By AI agents, Wed Nov 11 2026. No macro, syntax, notation, axiom, sorry.
-/
import Derived.Test.YtmpfhdcefilekaaChecked
import GoSem.Claim
import GoSem.ClaimJoined
import GoSem.ClaimMapViews
import Derived.JoinedTies
import Derived.KernelRfl
namespace Go.Proofs.Ytmpfhdcefilekaa
/- THE CELL 'sum', in the pinned program and in every row, IS THE sha256 OF THE DUMP (.gsa) THAT YtmpfhdcefilekaaProg.lean LOADS. Nothing in Lean hashes anything: it is a label: what it is worth is what the hold of that sum in a sandbox is worth. -/
noncomputable def Try.pinned : Pinned := { name := "ytmpfhdcefilekaa", sum := "f01253054362499aa27abd0c6862893dc0dcfab0a8f8b4c01061c5255f181f43", checked := Try.checked }
namespace Rows
def none {H : Type} : Left H := { results := [], args := [] }

/-- 'laws.FnReachedOf': WHATEVER THE INPUT: true; the input reads as it did. -/
def fnReachedOfSpec : ChangeSpec := { name := "fnReachedOf", fn := fun _ => fun
  | [d] => { results := [.lit (.bool true)], args := [d] }
  | _ => none }
def fnReachedOfRow : OpenClaim := { program := "ytmpfhdcefilekaa", sum := "f01253054362499aa27abd0c6862893dc0dcfab0a8f8b4c01061c5255f181f43", func := "loop.example/growingpictures/laws.FnReachedOf", spec := "fnReachedOf", unfollowed := true, recurses := true, apart := false }
def FnReachedOfSaid : Prop := fnReachedOfRow.holds Try.pinned (OpenSpec.ofChange fnReachedOfSpec)

/-- ITS FALSE NEIGHBOUR: 'it returns false'. Refute it at one input. -/
def fnReachedOfWrong : ChangeSpec := { name := "fnReachedOf", fn := fun _ => fun
  | [d] => { results := [.lit (.bool false)], args := [d] }
  | _ => none }
def FnReachedOfWrongFalsely : Prop := fnReachedOfRow.holds Try.pinned (OpenSpec.ofChange fnReachedOfWrong)

/-- 'laws.FnPiecesOf': WHATEVER THE INPUT: true; the input reads as it did. -/
def fnPiecesOfSpec : ChangeSpec := { name := "fnPiecesOf", fn := fun _ => fun
  | [d] => { results := [.lit (.bool true)], args := [d] }
  | _ => none }
def fnPiecesOfRow : OpenClaim := { program := "ytmpfhdcefilekaa", sum := "f01253054362499aa27abd0c6862893dc0dcfab0a8f8b4c01061c5255f181f43", func := "loop.example/growingpictures/laws.FnPiecesOf", spec := "fnPiecesOf", unfollowed := true, recurses := true, apart := false }
def FnPiecesOfSaid : Prop := fnPiecesOfRow.holds Try.pinned (OpenSpec.ofChange fnPiecesOfSpec)

/-- ITS FALSE NEIGHBOUR: 'it returns false'. Refute it at one input. -/
def fnPiecesOfWrong : ChangeSpec := { name := "fnPiecesOf", fn := fun _ => fun
  | [d] => { results := [.lit (.bool false)], args := [d] }
  | _ => none }
def FnPiecesOfWrongFalsely : Prop := fnPiecesOfRow.holds Try.pinned (OpenSpec.ofChange fnPiecesOfWrong)

/-- 'laws.FnCountPieces': WHATEVER THE INPUT: true; the input reads as it did. -/
def fnCountPiecesSpec : ChangeSpec := { name := "fnCountPieces", fn := fun _ => fun
  | [d] => { results := [.lit (.bool true)], args := [d] }
  | _ => none }
def fnCountPiecesRow : OpenClaim := { program := "ytmpfhdcefilekaa", sum := "f01253054362499aa27abd0c6862893dc0dcfab0a8f8b4c01061c5255f181f43", func := "loop.example/growingpictures/laws.FnCountPieces", spec := "fnCountPieces", unfollowed := true, recurses := true, apart := false }
def FnCountPiecesSaid : Prop := fnCountPiecesRow.holds Try.pinned (OpenSpec.ofChange fnCountPiecesSpec)

/-- ITS FALSE NEIGHBOUR: 'it returns false'. Refute it at one input. -/
def fnCountPiecesWrong : ChangeSpec := { name := "fnCountPieces", fn := fun _ => fun
  | [d] => { results := [.lit (.bool false)], args := [d] }
  | _ => none }
def FnCountPiecesWrongFalsely : Prop := fnCountPiecesRow.holds Try.pinned (OpenSpec.ofChange fnCountPiecesWrong)

/-- 'laws.FnHolesOf': WHATEVER THE INPUT: true; the input reads as it did. -/
def fnHolesOfSpec : ChangeSpec := { name := "fnHolesOf", fn := fun _ => fun
  | [d] => { results := [.lit (.bool true)], args := [d] }
  | _ => none }
def fnHolesOfRow : OpenClaim := { program := "ytmpfhdcefilekaa", sum := "f01253054362499aa27abd0c6862893dc0dcfab0a8f8b4c01061c5255f181f43", func := "loop.example/growingpictures/laws.FnHolesOf", spec := "fnHolesOf", unfollowed := true, recurses := true, apart := false }
def FnHolesOfSaid : Prop := fnHolesOfRow.holds Try.pinned (OpenSpec.ofChange fnHolesOfSpec)

/-- ITS FALSE NEIGHBOUR: 'it returns false'. Refute it at one input. -/
def fnHolesOfWrong : ChangeSpec := { name := "fnHolesOf", fn := fun _ => fun
  | [d] => { results := [.lit (.bool false)], args := [d] }
  | _ => none }
def FnHolesOfWrongFalsely : Prop := fnHolesOfRow.holds Try.pinned (OpenSpec.ofChange fnHolesOfWrong)

/-- 'laws.FnFilledOf': WHATEVER THE INPUT: true; the input reads as it did. -/
def fnFilledOfSpec : ChangeSpec := { name := "fnFilledOf", fn := fun _ => fun
  | [d] => { results := [.lit (.bool true)], args := [d] }
  | _ => none }
def fnFilledOfRow : OpenClaim := { program := "ytmpfhdcefilekaa", sum := "f01253054362499aa27abd0c6862893dc0dcfab0a8f8b4c01061c5255f181f43", func := "loop.example/growingpictures/laws.FnFilledOf", spec := "fnFilledOf", unfollowed := true, recurses := true, apart := false }
def FnFilledOfSaid : Prop := fnFilledOfRow.holds Try.pinned (OpenSpec.ofChange fnFilledOfSpec)

/-- ITS FALSE NEIGHBOUR: 'it returns false'. Refute it at one input. -/
def fnFilledOfWrong : ChangeSpec := { name := "fnFilledOf", fn := fun _ => fun
  | [d] => { results := [.lit (.bool false)], args := [d] }
  | _ => none }
def FnFilledOfWrongFalsely : Prop := fnFilledOfRow.holds Try.pinned (OpenSpec.ofChange fnFilledOfWrong)

/-- 'laws.FnExactReachedOf': WHATEVER THE INPUT: true; the input reads as it did. -/
def fnExactReachedOfSpec : ChangeSpec := { name := "fnExactReachedOf", fn := fun _ => fun
  | [d1, d2, d3] => { results := [.lit (.bool true)], args := [d1, d2, d3] }
  | _ => none }
def fnExactReachedOfRow : OpenClaim := { program := "ytmpfhdcefilekaa", sum := "f01253054362499aa27abd0c6862893dc0dcfab0a8f8b4c01061c5255f181f43", func := "loop.example/growingpictures/laws.FnExactReachedOf", spec := "fnExactReachedOf", unfollowed := true, recurses := true, apart := false }
def FnExactReachedOfSaid : Prop := fnExactReachedOfRow.holds Try.pinned (OpenSpec.ofChange fnExactReachedOfSpec)

/-- ITS FALSE NEIGHBOUR: 'it returns false'. Refute it at one input. -/
def fnExactReachedOfWrong : ChangeSpec := { name := "fnExactReachedOf", fn := fun _ => fun
  | [d1, d2, d3] => { results := [.lit (.bool false)], args := [d1, d2, d3] }
  | _ => none }
def FnExactReachedOfWrongFalsely : Prop := fnExactReachedOfRow.holds Try.pinned (OpenSpec.ofChange fnExactReachedOfWrong)

/-- 'laws.FnExactPiecesOf': WHATEVER THE INPUT: true; the input reads as it did. -/
def fnExactPiecesOfSpec : ChangeSpec := { name := "fnExactPiecesOf", fn := fun _ => fun
  | [d1, d2] => { results := [.lit (.bool true)], args := [d1, d2] }
  | _ => none }
def fnExactPiecesOfRow : OpenClaim := { program := "ytmpfhdcefilekaa", sum := "f01253054362499aa27abd0c6862893dc0dcfab0a8f8b4c01061c5255f181f43", func := "loop.example/growingpictures/laws.FnExactPiecesOf", spec := "fnExactPiecesOf", unfollowed := true, recurses := true, apart := false }
def FnExactPiecesOfSaid : Prop := fnExactPiecesOfRow.holds Try.pinned (OpenSpec.ofChange fnExactPiecesOfSpec)

/-- ITS FALSE NEIGHBOUR: 'it returns false'. Refute it at one input. -/
def fnExactPiecesOfWrong : ChangeSpec := { name := "fnExactPiecesOf", fn := fun _ => fun
  | [d1, d2] => { results := [.lit (.bool false)], args := [d1, d2] }
  | _ => none }
def FnExactPiecesOfWrongFalsely : Prop := fnExactPiecesOfRow.holds Try.pinned (OpenSpec.ofChange fnExactPiecesOfWrong)

/-- 'laws.FnExactCountPieces': WHATEVER THE INPUT: true; the input reads as it did. -/
def fnExactCountPiecesSpec : ChangeSpec := { name := "fnExactCountPieces", fn := fun _ => fun
  | [d1, d2] => { results := [.lit (.bool true)], args := [d1, d2] }
  | _ => none }
def fnExactCountPiecesRow : OpenClaim := { program := "ytmpfhdcefilekaa", sum := "f01253054362499aa27abd0c6862893dc0dcfab0a8f8b4c01061c5255f181f43", func := "loop.example/growingpictures/laws.FnExactCountPieces", spec := "fnExactCountPieces", unfollowed := true, recurses := true, apart := false }
def FnExactCountPiecesSaid : Prop := fnExactCountPiecesRow.holds Try.pinned (OpenSpec.ofChange fnExactCountPiecesSpec)

/-- ITS FALSE NEIGHBOUR: 'it returns false'. Refute it at one input. -/
def fnExactCountPiecesWrong : ChangeSpec := { name := "fnExactCountPieces", fn := fun _ => fun
  | [d1, d2] => { results := [.lit (.bool false)], args := [d1, d2] }
  | _ => none }
def FnExactCountPiecesWrongFalsely : Prop := fnExactCountPiecesRow.holds Try.pinned (OpenSpec.ofChange fnExactCountPiecesWrong)

/-- 'laws.FnExactHolesOf': WHATEVER THE INPUT: true; the input reads as it did. -/
def fnExactHolesOfSpec : ChangeSpec := { name := "fnExactHolesOf", fn := fun _ => fun
  | [d] => { results := [.lit (.bool true)], args := [d] }
  | _ => none }
def fnExactHolesOfRow : OpenClaim := { program := "ytmpfhdcefilekaa", sum := "f01253054362499aa27abd0c6862893dc0dcfab0a8f8b4c01061c5255f181f43", func := "loop.example/growingpictures/laws.FnExactHolesOf", spec := "fnExactHolesOf", unfollowed := true, recurses := true, apart := false }
def FnExactHolesOfSaid : Prop := fnExactHolesOfRow.holds Try.pinned (OpenSpec.ofChange fnExactHolesOfSpec)

/-- ITS FALSE NEIGHBOUR: 'it returns false'. Refute it at one input. -/
def fnExactHolesOfWrong : ChangeSpec := { name := "fnExactHolesOf", fn := fun _ => fun
  | [d] => { results := [.lit (.bool false)], args := [d] }
  | _ => none }
def FnExactHolesOfWrongFalsely : Prop := fnExactHolesOfRow.holds Try.pinned (OpenSpec.ofChange fnExactHolesOfWrong)

/-- 'laws.FnExactFilledOf': WHATEVER THE INPUT: true; the input reads as it did. -/
def fnExactFilledOfSpec : ChangeSpec := { name := "fnExactFilledOf", fn := fun _ => fun
  | [d] => { results := [.lit (.bool true)], args := [d] }
  | _ => none }
def fnExactFilledOfRow : OpenClaim := { program := "ytmpfhdcefilekaa", sum := "f01253054362499aa27abd0c6862893dc0dcfab0a8f8b4c01061c5255f181f43", func := "loop.example/growingpictures/laws.FnExactFilledOf", spec := "fnExactFilledOf", unfollowed := true, recurses := true, apart := false }
def FnExactFilledOfSaid : Prop := fnExactFilledOfRow.holds Try.pinned (OpenSpec.ofChange fnExactFilledOfSpec)

/-- ITS FALSE NEIGHBOUR: 'it returns false'. Refute it at one input. -/
def fnExactFilledOfWrong : ChangeSpec := { name := "fnExactFilledOf", fn := fun _ => fun
  | [d] => { results := [.lit (.bool false)], args := [d] }
  | _ => none }
def FnExactFilledOfWrongFalsely : Prop := fnExactFilledOfRow.holds Try.pinned (OpenSpec.ofChange fnExactFilledOfWrong)

/- THE SECOND FORM. 'bulk': how many values and letters a reading holds, each counted each time it is reached (what is shared counts as often as it is met; a slice's spare places count too). A statement '..UptoSaid' is the law's where the arguments, and the package variables that the reading takes, are together of bulk at most 1048576: NARROWER than '..Said'. Prove '..Said' where nothing that the law and all that it calls make is longer than what came in: it says more and counts as full. Else prove '..UptoSaid'. A law counts once. -/
mutual
def uptoBulk {H : Type} : DataW H → Nat
  | .lit (.string bytes) => bytes.length + 1
  | .lit _ => 1
  | .nil => 1
  | .ptr d => uptoBulk d + 1
  | .slice elems spare => uptoBulkAll elems + uptoBulkAll spare + 1
  | .agg parts => uptoBulkAll parts + 1
  | .iface _ d => uptoBulk d + 1
  | .map entries => uptoBulkEntries entries + 1
  | .held _ => 1
def uptoBulkAll {H : Type} : List (DataW H) → Nat
  | [] => 0
  | d :: r => uptoBulk d + uptoBulkAll r
def uptoBulkEntries {H : Type} : List (Lit × DataW H) → Nat
  | [] => 0
  | x :: r => uptoBulkEntry x + uptoBulkEntries r
def uptoBulkEntry {H : Type} : Lit × DataW H → Nat
  | (.string bytes, d) => bytes.length + uptoBulk d + 1
  | (_, d) => uptoBulk d + 1
 end
def uptoSmall : (H : Type) → List (DataW H) → Bool := fun _ ds => decide (uptoBulkAll ds ≤ 1048576)
def OpenSpec.upto (s : _root_.Go.ChangeSpec) : _root_.Go.OpenSpec := { _root_.Go.OpenSpec.ofChange s with cond := some uptoSmall }

/-- 'laws.FnReachedOf', WHERE WHAT IT READS IS OF BULK AT MOST 1048576: true; the input reads as it did. -/
def fnReachedOfUptoRow : OpenClaim := { program := "ytmpfhdcefilekaa", sum := "f01253054362499aa27abd0c6862893dc0dcfab0a8f8b4c01061c5255f181f43", func := "loop.example/growingpictures/laws.FnReachedOf", spec := "fnReachedOf", unfollowed := true, recurses := true, apart := false, narrowed := true }
def FnReachedOfUptoSaid : Prop := fnReachedOfUptoRow.holds Try.pinned (OpenSpec.upto fnReachedOfSpec)

/-- 'laws.FnPiecesOf', WHERE WHAT IT READS IS OF BULK AT MOST 1048576: true; the input reads as it did. -/
def fnPiecesOfUptoRow : OpenClaim := { program := "ytmpfhdcefilekaa", sum := "f01253054362499aa27abd0c6862893dc0dcfab0a8f8b4c01061c5255f181f43", func := "loop.example/growingpictures/laws.FnPiecesOf", spec := "fnPiecesOf", unfollowed := true, recurses := true, apart := false, narrowed := true }
def FnPiecesOfUptoSaid : Prop := fnPiecesOfUptoRow.holds Try.pinned (OpenSpec.upto fnPiecesOfSpec)

/-- 'laws.FnCountPieces', WHERE WHAT IT READS IS OF BULK AT MOST 1048576: true; the input reads as it did. -/
def fnCountPiecesUptoRow : OpenClaim := { program := "ytmpfhdcefilekaa", sum := "f01253054362499aa27abd0c6862893dc0dcfab0a8f8b4c01061c5255f181f43", func := "loop.example/growingpictures/laws.FnCountPieces", spec := "fnCountPieces", unfollowed := true, recurses := true, apart := false, narrowed := true }
def FnCountPiecesUptoSaid : Prop := fnCountPiecesUptoRow.holds Try.pinned (OpenSpec.upto fnCountPiecesSpec)

/-- 'laws.FnHolesOf', WHERE WHAT IT READS IS OF BULK AT MOST 1048576: true; the input reads as it did. -/
def fnHolesOfUptoRow : OpenClaim := { program := "ytmpfhdcefilekaa", sum := "f01253054362499aa27abd0c6862893dc0dcfab0a8f8b4c01061c5255f181f43", func := "loop.example/growingpictures/laws.FnHolesOf", spec := "fnHolesOf", unfollowed := true, recurses := true, apart := false, narrowed := true }
def FnHolesOfUptoSaid : Prop := fnHolesOfUptoRow.holds Try.pinned (OpenSpec.upto fnHolesOfSpec)

/-- 'laws.FnFilledOf', WHERE WHAT IT READS IS OF BULK AT MOST 1048576: true; the input reads as it did. -/
def fnFilledOfUptoRow : OpenClaim := { program := "ytmpfhdcefilekaa", sum := "f01253054362499aa27abd0c6862893dc0dcfab0a8f8b4c01061c5255f181f43", func := "loop.example/growingpictures/laws.FnFilledOf", spec := "fnFilledOf", unfollowed := true, recurses := true, apart := false, narrowed := true }
def FnFilledOfUptoSaid : Prop := fnFilledOfUptoRow.holds Try.pinned (OpenSpec.upto fnFilledOfSpec)

/-- 'laws.FnExactReachedOf', WHERE WHAT IT READS IS OF BULK AT MOST 1048576: true; the input reads as it did. -/
def fnExactReachedOfUptoRow : OpenClaim := { program := "ytmpfhdcefilekaa", sum := "f01253054362499aa27abd0c6862893dc0dcfab0a8f8b4c01061c5255f181f43", func := "loop.example/growingpictures/laws.FnExactReachedOf", spec := "fnExactReachedOf", unfollowed := true, recurses := true, apart := false, narrowed := true }
def FnExactReachedOfUptoSaid : Prop := fnExactReachedOfUptoRow.holds Try.pinned (OpenSpec.upto fnExactReachedOfSpec)

/-- 'laws.FnExactPiecesOf', WHERE WHAT IT READS IS OF BULK AT MOST 1048576: true; the input reads as it did. -/
def fnExactPiecesOfUptoRow : OpenClaim := { program := "ytmpfhdcefilekaa", sum := "f01253054362499aa27abd0c6862893dc0dcfab0a8f8b4c01061c5255f181f43", func := "loop.example/growingpictures/laws.FnExactPiecesOf", spec := "fnExactPiecesOf", unfollowed := true, recurses := true, apart := false, narrowed := true }
def FnExactPiecesOfUptoSaid : Prop := fnExactPiecesOfUptoRow.holds Try.pinned (OpenSpec.upto fnExactPiecesOfSpec)

/-- 'laws.FnExactCountPieces', WHERE WHAT IT READS IS OF BULK AT MOST 1048576: true; the input reads as it did. -/
def fnExactCountPiecesUptoRow : OpenClaim := { program := "ytmpfhdcefilekaa", sum := "f01253054362499aa27abd0c6862893dc0dcfab0a8f8b4c01061c5255f181f43", func := "loop.example/growingpictures/laws.FnExactCountPieces", spec := "fnExactCountPieces", unfollowed := true, recurses := true, apart := false, narrowed := true }
def FnExactCountPiecesUptoSaid : Prop := fnExactCountPiecesUptoRow.holds Try.pinned (OpenSpec.upto fnExactCountPiecesSpec)

/-- 'laws.FnExactHolesOf', WHERE WHAT IT READS IS OF BULK AT MOST 1048576: true; the input reads as it did. -/
def fnExactHolesOfUptoRow : OpenClaim := { program := "ytmpfhdcefilekaa", sum := "f01253054362499aa27abd0c6862893dc0dcfab0a8f8b4c01061c5255f181f43", func := "loop.example/growingpictures/laws.FnExactHolesOf", spec := "fnExactHolesOf", unfollowed := true, recurses := true, apart := false, narrowed := true }
def FnExactHolesOfUptoSaid : Prop := fnExactHolesOfUptoRow.holds Try.pinned (OpenSpec.upto fnExactHolesOfSpec)

/-- 'laws.FnExactFilledOf', WHERE WHAT IT READS IS OF BULK AT MOST 1048576: true; the input reads as it did. -/
def fnExactFilledOfUptoRow : OpenClaim := { program := "ytmpfhdcefilekaa", sum := "f01253054362499aa27abd0c6862893dc0dcfab0a8f8b4c01061c5255f181f43", func := "loop.example/growingpictures/laws.FnExactFilledOf", spec := "fnExactFilledOf", unfollowed := true, recurses := true, apart := false, narrowed := true }
def FnExactFilledOfUptoSaid : Prop := fnExactFilledOfUptoRow.holds Try.pinned (OpenSpec.upto fnExactFilledOfSpec)

end Rows
end Go.Proofs.Ytmpfhdcefilekaa
