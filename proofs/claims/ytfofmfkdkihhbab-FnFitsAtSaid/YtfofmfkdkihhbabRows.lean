/-
  No cell of these rows narrows 'for every input' (looked for: loops, veiled, ifaces, maps, wideKeys, modest, calm, conditions, laid).
  DERIVED. THE GIVEN ROWS OF THIS SEAT. 8 by the template 'for every input the law returns true; each argument reads behind the call as it read before'; 0 by the template 'total and deterministic' (their statements: YtfofmfkdkihhbabTotals.lean).
  GIVEN WITH THE SEED: the statements are not yours to turn. If you find one false, say at which input.
  Laid BY PROGRAM, IN A SANDBOX (cutbox-rows.mjs): the forced cells as the released guide's own fill.sh prints them over the translation 215d80460cd32d4d… (all of the seat's roots in one cut). By AI agents, Wed Nov 11 2026. No macro, syntax, notation, axiom, sorry.
-/
import Derived.Test.YtfofmfkdkihhbabChecked
import GoSem.Claim
import GoSem.ClaimJoined
import GoSem.ClaimMapViews
import Derived.JoinedTies
import Derived.KernelRfl
namespace Go.Proofs.Ytfofmfkdkihhbab
/- THE CELL 'sum', in the pinned program and in every row, IS THE sha256 OF THE DUMP (.gsa) THAT YtfofmfkdkihhbabProg.lean LOADS. Nothing in Lean hashes anything: it is a label: what it is worth is what the hold of that sum in a sandbox is worth. -/
noncomputable def Try.pinned : Pinned := { name := "ytfofmfkdkihhbab", sum := "215d80460cd32d4d33c0419f6f6be84346b7bb62cb5ca73df6bf9ffd06eb2b6b", checked := Try.checked }
namespace Rows
def none {H : Type} : Left H := { results := [], args := [] }

/-- 'laws.FnShrunkBy': WHATEVER THE INPUT: true; the input reads as it did. -/
def fnShrunkBySpec : ChangeSpec := { name := "fnShrunkBy", fn := fun _ => fun
  | [d1, d2] => { results := [.lit (.bool true)], args := [d1, d2] }
  | _ => none }
def fnShrunkByRow : OpenClaim := { program := "ytfofmfkdkihhbab", sum := "215d80460cd32d4d33c0419f6f6be84346b7bb62cb5ca73df6bf9ffd06eb2b6b", func := "loop.example/growingpictures/laws.FnShrunkBy", spec := "fnShrunkBy", unfollowed := true, recurses := true, apart := false }
def FnShrunkBySaid : Prop := fnShrunkByRow.holds Try.pinned (OpenSpec.ofChange fnShrunkBySpec)

/-- ITS FALSE NEIGHBOUR: 'it returns false'. Refute it at one input. -/
def fnShrunkByWrong : ChangeSpec := { name := "fnShrunkBy", fn := fun _ => fun
  | [d1, d2] => { results := [.lit (.bool false)], args := [d1, d2] }
  | _ => none }
def FnShrunkByWrongFalsely : Prop := fnShrunkByRow.holds Try.pinned (OpenSpec.ofChange fnShrunkByWrong)

/-- 'laws.FnExactShrunkBy': WHATEVER THE INPUT: true; the input reads as it did. -/
def fnExactShrunkBySpec : ChangeSpec := { name := "fnExactShrunkBy", fn := fun _ => fun
  | [d1, d2] => { results := [.lit (.bool true)], args := [d1, d2] }
  | _ => none }
def fnExactShrunkByRow : OpenClaim := { program := "ytfofmfkdkihhbab", sum := "215d80460cd32d4d33c0419f6f6be84346b7bb62cb5ca73df6bf9ffd06eb2b6b", func := "loop.example/growingpictures/laws.FnExactShrunkBy", spec := "fnExactShrunkBy", unfollowed := true, recurses := true, apart := false }
def FnExactShrunkBySaid : Prop := fnExactShrunkByRow.holds Try.pinned (OpenSpec.ofChange fnExactShrunkBySpec)

/-- ITS FALSE NEIGHBOUR: 'it returns false'. Refute it at one input. -/
def fnExactShrunkByWrong : ChangeSpec := { name := "fnExactShrunkBy", fn := fun _ => fun
  | [d1, d2] => { results := [.lit (.bool false)], args := [d1, d2] }
  | _ => none }
def FnExactShrunkByWrongFalsely : Prop := fnExactShrunkByRow.holds Try.pinned (OpenSpec.ofChange fnExactShrunkByWrong)

/-- 'laws.FnGrownShrunk': WHATEVER THE INPUT: true; the input reads as it did. -/
def fnGrownShrunkSpec : ChangeSpec := { name := "fnGrownShrunk", fn := fun _ => fun
  | [d] => { results := [.lit (.bool true)], args := [d] }
  | _ => none }
def fnGrownShrunkRow : OpenClaim := { program := "ytfofmfkdkihhbab", sum := "215d80460cd32d4d33c0419f6f6be84346b7bb62cb5ca73df6bf9ffd06eb2b6b", func := "loop.example/growingpictures/laws.FnGrownShrunk", spec := "fnGrownShrunk", unfollowed := true, recurses := true, apart := false }
def FnGrownShrunkSaid : Prop := fnGrownShrunkRow.holds Try.pinned (OpenSpec.ofChange fnGrownShrunkSpec)

/-- ITS FALSE NEIGHBOUR: 'it returns false'. Refute it at one input. -/
def fnGrownShrunkWrong : ChangeSpec := { name := "fnGrownShrunk", fn := fun _ => fun
  | [d] => { results := [.lit (.bool false)], args := [d] }
  | _ => none }
def FnGrownShrunkWrongFalsely : Prop := fnGrownShrunkRow.holds Try.pinned (OpenSpec.ofChange fnGrownShrunkWrong)

/-- 'laws.FnExactGrownShrunk': WHATEVER THE INPUT: true; the input reads as it did. -/
def fnExactGrownShrunkSpec : ChangeSpec := { name := "fnExactGrownShrunk", fn := fun _ => fun
  | [d1, d2] => { results := [.lit (.bool true)], args := [d1, d2] }
  | _ => none }
def fnExactGrownShrunkRow : OpenClaim := { program := "ytfofmfkdkihhbab", sum := "215d80460cd32d4d33c0419f6f6be84346b7bb62cb5ca73df6bf9ffd06eb2b6b", func := "loop.example/growingpictures/laws.FnExactGrownShrunk", spec := "fnExactGrownShrunk", unfollowed := true, recurses := true, apart := false }
def FnExactGrownShrunkSaid : Prop := fnExactGrownShrunkRow.holds Try.pinned (OpenSpec.ofChange fnExactGrownShrunkSpec)

/-- ITS FALSE NEIGHBOUR: 'it returns false'. Refute it at one input. -/
def fnExactGrownShrunkWrong : ChangeSpec := { name := "fnExactGrownShrunk", fn := fun _ => fun
  | [d1, d2] => { results := [.lit (.bool false)], args := [d1, d2] }
  | _ => none }
def FnExactGrownShrunkWrongFalsely : Prop := fnExactGrownShrunkRow.holds Try.pinned (OpenSpec.ofChange fnExactGrownShrunkWrong)

/-- 'laws.FnShrunkGrown': WHATEVER THE INPUT: true; the input reads as it did. -/
def fnShrunkGrownSpec : ChangeSpec := { name := "fnShrunkGrown", fn := fun _ => fun
  | [d] => { results := [.lit (.bool true)], args := [d] }
  | _ => none }
def fnShrunkGrownRow : OpenClaim := { program := "ytfofmfkdkihhbab", sum := "215d80460cd32d4d33c0419f6f6be84346b7bb62cb5ca73df6bf9ffd06eb2b6b", func := "loop.example/growingpictures/laws.FnShrunkGrown", spec := "fnShrunkGrown", unfollowed := true, recurses := true, apart := false }
def FnShrunkGrownSaid : Prop := fnShrunkGrownRow.holds Try.pinned (OpenSpec.ofChange fnShrunkGrownSpec)

/-- ITS FALSE NEIGHBOUR: 'it returns false'. Refute it at one input. -/
def fnShrunkGrownWrong : ChangeSpec := { name := "fnShrunkGrown", fn := fun _ => fun
  | [d] => { results := [.lit (.bool false)], args := [d] }
  | _ => none }
def FnShrunkGrownWrongFalsely : Prop := fnShrunkGrownRow.holds Try.pinned (OpenSpec.ofChange fnShrunkGrownWrong)

/-- 'laws.FnExactShrunkGrown': WHATEVER THE INPUT: true; the input reads as it did. -/
def fnExactShrunkGrownSpec : ChangeSpec := { name := "fnExactShrunkGrown", fn := fun _ => fun
  | [d1, d2] => { results := [.lit (.bool true)], args := [d1, d2] }
  | _ => none }
def fnExactShrunkGrownRow : OpenClaim := { program := "ytfofmfkdkihhbab", sum := "215d80460cd32d4d33c0419f6f6be84346b7bb62cb5ca73df6bf9ffd06eb2b6b", func := "loop.example/growingpictures/laws.FnExactShrunkGrown", spec := "fnExactShrunkGrown", unfollowed := true, recurses := true, apart := false }
def FnExactShrunkGrownSaid : Prop := fnExactShrunkGrownRow.holds Try.pinned (OpenSpec.ofChange fnExactShrunkGrownSpec)

/-- ITS FALSE NEIGHBOUR: 'it returns false'. Refute it at one input. -/
def fnExactShrunkGrownWrong : ChangeSpec := { name := "fnExactShrunkGrown", fn := fun _ => fun
  | [d1, d2] => { results := [.lit (.bool false)], args := [d1, d2] }
  | _ => none }
def FnExactShrunkGrownWrongFalsely : Prop := fnExactShrunkGrownRow.holds Try.pinned (OpenSpec.ofChange fnExactShrunkGrownWrong)

/-- 'laws.FnFitsAt': WHATEVER THE INPUT: true; the input reads as it did. -/
def fnFitsAtSpec : ChangeSpec := { name := "fnFitsAt", fn := fun _ => fun
  | [d] => { results := [.lit (.bool true)], args := [d] }
  | _ => none }
def fnFitsAtRow : OpenClaim := { program := "ytfofmfkdkihhbab", sum := "215d80460cd32d4d33c0419f6f6be84346b7bb62cb5ca73df6bf9ffd06eb2b6b", func := "loop.example/growingpictures/laws.FnFitsAt", spec := "fnFitsAt", unfollowed := true, recurses := true, apart := false }
def FnFitsAtSaid : Prop := fnFitsAtRow.holds Try.pinned (OpenSpec.ofChange fnFitsAtSpec)

/-- ITS FALSE NEIGHBOUR: 'it returns false'. Refute it at one input. -/
def fnFitsAtWrong : ChangeSpec := { name := "fnFitsAt", fn := fun _ => fun
  | [d] => { results := [.lit (.bool false)], args := [d] }
  | _ => none }
def FnFitsAtWrongFalsely : Prop := fnFitsAtRow.holds Try.pinned (OpenSpec.ofChange fnFitsAtWrong)

/-- 'laws.FnExactFitsAt': WHATEVER THE INPUT: true; the input reads as it did. -/
def fnExactFitsAtSpec : ChangeSpec := { name := "fnExactFitsAt", fn := fun _ => fun
  | [d1, d2, d3] => { results := [.lit (.bool true)], args := [d1, d2, d3] }
  | _ => none }
def fnExactFitsAtRow : OpenClaim := { program := "ytfofmfkdkihhbab", sum := "215d80460cd32d4d33c0419f6f6be84346b7bb62cb5ca73df6bf9ffd06eb2b6b", func := "loop.example/growingpictures/laws.FnExactFitsAt", spec := "fnExactFitsAt", unfollowed := true, recurses := true, apart := false }
def FnExactFitsAtSaid : Prop := fnExactFitsAtRow.holds Try.pinned (OpenSpec.ofChange fnExactFitsAtSpec)

/-- ITS FALSE NEIGHBOUR: 'it returns false'. Refute it at one input. -/
def fnExactFitsAtWrong : ChangeSpec := { name := "fnExactFitsAt", fn := fun _ => fun
  | [d1, d2, d3] => { results := [.lit (.bool false)], args := [d1, d2, d3] }
  | _ => none }
def FnExactFitsAtWrongFalsely : Prop := fnExactFitsAtRow.holds Try.pinned (OpenSpec.ofChange fnExactFitsAtWrong)

/- THE SECOND FORM. 'bulk': how many values and letters a reading holds, each counted each time it is reached (what is shared counts as often as it is met; a slice's spare places count too). A statement '..UptoSaid' is the law's where the arguments, and the package variables that the reading takes, are together of bulk at most 1048576: NARROWER than '..Said'. Prove '..Said' where nothing that the law and all that it calls make is longer than what came in: it says more and counts as full. Else prove '..UptoSaid'. A law counts once. -/
mutual
def uptoBulk {H : Type} : DataW H → Nat
  | .lit (.string bytes) => bytes.length + 1
  | .lit _ => 1
  | .nil => 1
  | .ptr d => uptoBulk d + 1
  | .slice elems spare => uptoBulkAll elems + uptoBulkAll spare + 1
  | .agg parts => uptoBulkAll parts + 1
  | .iface _ d => uptoBulk d + 1
  | .map entries => uptoBulkEntries entries + 1
  | .held _ => 1
def uptoBulkAll {H : Type} : List (DataW H) → Nat
  | [] => 0
  | d :: r => uptoBulk d + uptoBulkAll r
def uptoBulkEntries {H : Type} : List (Lit × DataW H) → Nat
  | [] => 0
  | x :: r => uptoBulkEntry x + uptoBulkEntries r
def uptoBulkEntry {H : Type} : Lit × DataW H → Nat
  | (.string bytes, d) => bytes.length + uptoBulk d + 1
  | (_, d) => uptoBulk d + 1
 end
def uptoSmall : (H : Type) → List (DataW H) → Bool := fun _ ds => decide (uptoBulkAll ds ≤ 1048576)
def OpenSpec.upto (s : _root_.Go.ChangeSpec) : _root_.Go.OpenSpec := { _root_.Go.OpenSpec.ofChange s with cond := some uptoSmall }

/-- 'laws.FnShrunkBy', WHERE WHAT IT READS IS OF BULK AT MOST 1048576: true; the input reads as it did. -/
def fnShrunkByUptoRow : OpenClaim := { program := "ytfofmfkdkihhbab", sum := "215d80460cd32d4d33c0419f6f6be84346b7bb62cb5ca73df6bf9ffd06eb2b6b", func := "loop.example/growingpictures/laws.FnShrunkBy", spec := "fnShrunkBy", unfollowed := true, recurses := true, apart := false, narrowed := true }
def FnShrunkByUptoSaid : Prop := fnShrunkByUptoRow.holds Try.pinned (OpenSpec.upto fnShrunkBySpec)

/-- 'laws.FnExactShrunkBy', WHERE WHAT IT READS IS OF BULK AT MOST 1048576: true; the input reads as it did. -/
def fnExactShrunkByUptoRow : OpenClaim := { program := "ytfofmfkdkihhbab", sum := "215d80460cd32d4d33c0419f6f6be84346b7bb62cb5ca73df6bf9ffd06eb2b6b", func := "loop.example/growingpictures/laws.FnExactShrunkBy", spec := "fnExactShrunkBy", unfollowed := true, recurses := true, apart := false, narrowed := true }
def FnExactShrunkByUptoSaid : Prop := fnExactShrunkByUptoRow.holds Try.pinned (OpenSpec.upto fnExactShrunkBySpec)

/-- 'laws.FnGrownShrunk', WHERE WHAT IT READS IS OF BULK AT MOST 1048576: true; the input reads as it did. -/
def fnGrownShrunkUptoRow : OpenClaim := { program := "ytfofmfkdkihhbab", sum := "215d80460cd32d4d33c0419f6f6be84346b7bb62cb5ca73df6bf9ffd06eb2b6b", func := "loop.example/growingpictures/laws.FnGrownShrunk", spec := "fnGrownShrunk", unfollowed := true, recurses := true, apart := false, narrowed := true }
def FnGrownShrunkUptoSaid : Prop := fnGrownShrunkUptoRow.holds Try.pinned (OpenSpec.upto fnGrownShrunkSpec)

/-- 'laws.FnExactGrownShrunk', WHERE WHAT IT READS IS OF BULK AT MOST 1048576: true; the input reads as it did. -/
def fnExactGrownShrunkUptoRow : OpenClaim := { program := "ytfofmfkdkihhbab", sum := "215d80460cd32d4d33c0419f6f6be84346b7bb62cb5ca73df6bf9ffd06eb2b6b", func := "loop.example/growingpictures/laws.FnExactGrownShrunk", spec := "fnExactGrownShrunk", unfollowed := true, recurses := true, apart := false, narrowed := true }
def FnExactGrownShrunkUptoSaid : Prop := fnExactGrownShrunkUptoRow.holds Try.pinned (OpenSpec.upto fnExactGrownShrunkSpec)

/-- 'laws.FnShrunkGrown', WHERE WHAT IT READS IS OF BULK AT MOST 1048576: true; the input reads as it did. -/
def fnShrunkGrownUptoRow : OpenClaim := { program := "ytfofmfkdkihhbab", sum := "215d80460cd32d4d33c0419f6f6be84346b7bb62cb5ca73df6bf9ffd06eb2b6b", func := "loop.example/growingpictures/laws.FnShrunkGrown", spec := "fnShrunkGrown", unfollowed := true, recurses := true, apart := false, narrowed := true }
def FnShrunkGrownUptoSaid : Prop := fnShrunkGrownUptoRow.holds Try.pinned (OpenSpec.upto fnShrunkGrownSpec)

/-- 'laws.FnExactShrunkGrown', WHERE WHAT IT READS IS OF BULK AT MOST 1048576: true; the input reads as it did. -/
def fnExactShrunkGrownUptoRow : OpenClaim := { program := "ytfofmfkdkihhbab", sum := "215d80460cd32d4d33c0419f6f6be84346b7bb62cb5ca73df6bf9ffd06eb2b6b", func := "loop.example/growingpictures/laws.FnExactShrunkGrown", spec := "fnExactShrunkGrown", unfollowed := true, recurses := true, apart := false, narrowed := true }
def FnExactShrunkGrownUptoSaid : Prop := fnExactShrunkGrownUptoRow.holds Try.pinned (OpenSpec.upto fnExactShrunkGrownSpec)

/-- 'laws.FnFitsAt', WHERE WHAT IT READS IS OF BULK AT MOST 1048576: true; the input reads as it did. -/
def fnFitsAtUptoRow : OpenClaim := { program := "ytfofmfkdkihhbab", sum := "215d80460cd32d4d33c0419f6f6be84346b7bb62cb5ca73df6bf9ffd06eb2b6b", func := "loop.example/growingpictures/laws.FnFitsAt", spec := "fnFitsAt", unfollowed := true, recurses := true, apart := false, narrowed := true }
def FnFitsAtUptoSaid : Prop := fnFitsAtUptoRow.holds Try.pinned (OpenSpec.upto fnFitsAtSpec)

/-- 'laws.FnExactFitsAt', WHERE WHAT IT READS IS OF BULK AT MOST 1048576: true; the input reads as it did. -/
def fnExactFitsAtUptoRow : OpenClaim := { program := "ytfofmfkdkihhbab", sum := "215d80460cd32d4d33c0419f6f6be84346b7bb62cb5ca73df6bf9ffd06eb2b6b", func := "loop.example/growingpictures/laws.FnExactFitsAt", spec := "fnExactFitsAt", unfollowed := true, recurses := true, apart := false, narrowed := true }
def FnExactFitsAtUptoSaid : Prop := fnExactFitsAtUptoRow.holds Try.pinned (OpenSpec.upto fnExactFitsAtSpec)

end Rows
end Go.Proofs.Ytfofmfkdkihhbab
