/-
  No cell of these rows narrows 'for every input' (looked for: loops, veiled, ifaces, maps, wideKeys, modest, calm, conditions, laid).
  DERIVED. THE GIVEN ROWS OF THIS SEAT. 7 by the template 'for every input the law returns true; each argument reads behind the call as it read before'; 0 by the template 'total and deterministic' (their statements: YtfofmfkdkihhbadTotals.lean).
  GIVEN WITH THE SEED: the statements are not yours to turn. If you find one false, say at which input.
  Laid BY PROGRAM, IN A SANDBOX (cutbox-rows.mjs): the forced cells as the released guide's own fill.sh prints them over the translation 6c646ae31c864338… (all of the seat's roots in one cut). By AI agents, Wed Nov 11 2026. No macro, syntax, notation, axiom, sorry.
-/
import Derived.Test.YtfofmfkdkihhbadChecked
import GoSem.Claim
import GoSem.ClaimJoined
import GoSem.ClaimMapViews
import Derived.JoinedTies
import Derived.KernelRfl
namespace Go.Proofs.Ytfofmfkdkihhbad
/- THE CELL 'sum', in the pinned program and in every row, IS THE sha256 OF THE DUMP (.gsa) THAT YtfofmfkdkihhbadProg.lean LOADS. Nothing in Lean hashes anything: it is a label: what it is worth is what the hold of that sum in a sandbox is worth. -/
noncomputable def Try.pinned : Pinned := { name := "ytfofmfkdkihhbad", sum := "6c646ae31c8643384c5cb64114e89a883e95f3756ba71ee3f7a01f39f8e26882", checked := Try.checked }
namespace Rows
def none {H : Type} : Left H := { results := [], args := [] }

/-- 'laws.FnRadiusAt': WHATEVER THE INPUT: true; the input reads as it did. -/
def fnRadiusAtSpec : ChangeSpec := { name := "fnRadiusAt", fn := fun _ => fun
  | [d] => { results := [.lit (.bool true)], args := [d] }
  | _ => none }
def fnRadiusAtRow : OpenClaim := { program := "ytfofmfkdkihhbad", sum := "6c646ae31c8643384c5cb64114e89a883e95f3756ba71ee3f7a01f39f8e26882", func := "loop.example/growingpictures/laws.FnRadiusAt", spec := "fnRadiusAt", unfollowed := true, recurses := true, apart := false }
def FnRadiusAtSaid : Prop := fnRadiusAtRow.holds Try.pinned (OpenSpec.ofChange fnRadiusAtSpec)

/-- ITS FALSE NEIGHBOUR: 'it returns false'. Refute it at one input. -/
def fnRadiusAtWrong : ChangeSpec := { name := "fnRadiusAt", fn := fun _ => fun
  | [d] => { results := [.lit (.bool false)], args := [d] }
  | _ => none }
def FnRadiusAtWrongFalsely : Prop := fnRadiusAtRow.holds Try.pinned (OpenSpec.ofChange fnRadiusAtWrong)

/-- 'laws.FnExactRadiusAt': WHATEVER THE INPUT: true; the input reads as it did. -/
def fnExactRadiusAtSpec : ChangeSpec := { name := "fnExactRadiusAt", fn := fun _ => fun
  | [d1, d2, d3] => { results := [.lit (.bool true)], args := [d1, d2, d3] }
  | _ => none }
def fnExactRadiusAtRow : OpenClaim := { program := "ytfofmfkdkihhbad", sum := "6c646ae31c8643384c5cb64114e89a883e95f3756ba71ee3f7a01f39f8e26882", func := "loop.example/growingpictures/laws.FnExactRadiusAt", spec := "fnExactRadiusAt", unfollowed := true, recurses := true, apart := false }
def FnExactRadiusAtSaid : Prop := fnExactRadiusAtRow.holds Try.pinned (OpenSpec.ofChange fnExactRadiusAtSpec)

/-- ITS FALSE NEIGHBOUR: 'it returns false'. Refute it at one input. -/
def fnExactRadiusAtWrong : ChangeSpec := { name := "fnExactRadiusAt", fn := fun _ => fun
  | [d1, d2, d3] => { results := [.lit (.bool false)], args := [d1, d2, d3] }
  | _ => none }
def FnExactRadiusAtWrongFalsely : Prop := fnExactRadiusAtRow.holds Try.pinned (OpenSpec.ofChange fnExactRadiusAtWrong)

/-- 'laws.FnCentresOf': WHATEVER THE INPUT: true; the input reads as it did. -/
def fnCentresOfSpec : ChangeSpec := { name := "fnCentresOf", fn := fun _ => fun
  | [d] => { results := [.lit (.bool true)], args := [d] }
  | _ => none }
def fnCentresOfRow : OpenClaim := { program := "ytfofmfkdkihhbad", sum := "6c646ae31c8643384c5cb64114e89a883e95f3756ba71ee3f7a01f39f8e26882", func := "loop.example/growingpictures/laws.FnCentresOf", spec := "fnCentresOf", unfollowed := true, recurses := true, apart := false }
def FnCentresOfSaid : Prop := fnCentresOfRow.holds Try.pinned (OpenSpec.ofChange fnCentresOfSpec)

/-- ITS FALSE NEIGHBOUR: 'it returns false'. Refute it at one input. -/
def fnCentresOfWrong : ChangeSpec := { name := "fnCentresOf", fn := fun _ => fun
  | [d] => { results := [.lit (.bool false)], args := [d] }
  | _ => none }
def FnCentresOfWrongFalsely : Prop := fnCentresOfRow.holds Try.pinned (OpenSpec.ofChange fnCentresOfWrong)

/-- 'laws.FnExactCentresOf': WHATEVER THE INPUT: true; the input reads as it did. -/
def fnExactCentresOfSpec : ChangeSpec := { name := "fnExactCentresOf", fn := fun _ => fun
  | [d1, d2] => { results := [.lit (.bool true)], args := [d1, d2] }
  | _ => none }
def fnExactCentresOfRow : OpenClaim := { program := "ytfofmfkdkihhbad", sum := "6c646ae31c8643384c5cb64114e89a883e95f3756ba71ee3f7a01f39f8e26882", func := "loop.example/growingpictures/laws.FnExactCentresOf", spec := "fnExactCentresOf", unfollowed := true, recurses := true, apart := false }
def FnExactCentresOfSaid : Prop := fnExactCentresOfRow.holds Try.pinned (OpenSpec.ofChange fnExactCentresOfSpec)

/-- ITS FALSE NEIGHBOUR: 'it returns false'. Refute it at one input. -/
def fnExactCentresOfWrong : ChangeSpec := { name := "fnExactCentresOf", fn := fun _ => fun
  | [d1, d2] => { results := [.lit (.bool false)], args := [d1, d2] }
  | _ => none }
def FnExactCentresOfWrongFalsely : Prop := fnExactCentresOfRow.holds Try.pinned (OpenSpec.ofChange fnExactCentresOfWrong)

/-- 'laws.FnGreatestOf': WHATEVER THE INPUT: true; the input reads as it did. -/
def fnGreatestOfSpec : ChangeSpec := { name := "fnGreatestOf", fn := fun _ => fun
  | [d] => { results := [.lit (.bool true)], args := [d] }
  | _ => none }
def fnGreatestOfRow : OpenClaim := { program := "ytfofmfkdkihhbad", sum := "6c646ae31c8643384c5cb64114e89a883e95f3756ba71ee3f7a01f39f8e26882", func := "loop.example/growingpictures/laws.FnGreatestOf", spec := "fnGreatestOf", unfollowed := true, recurses := true, apart := false }
def FnGreatestOfSaid : Prop := fnGreatestOfRow.holds Try.pinned (OpenSpec.ofChange fnGreatestOfSpec)

/-- ITS FALSE NEIGHBOUR: 'it returns false'. Refute it at one input. -/
def fnGreatestOfWrong : ChangeSpec := { name := "fnGreatestOf", fn := fun _ => fun
  | [d] => { results := [.lit (.bool false)], args := [d] }
  | _ => none }
def FnGreatestOfWrongFalsely : Prop := fnGreatestOfRow.holds Try.pinned (OpenSpec.ofChange fnGreatestOfWrong)

/-- 'laws.FnExactGreatestOf': WHATEVER THE INPUT: true; the input reads as it did. -/
def fnExactGreatestOfSpec : ChangeSpec := { name := "fnExactGreatestOf", fn := fun _ => fun
  | [d1, d2] => { results := [.lit (.bool true)], args := [d1, d2] }
  | _ => none }
def fnExactGreatestOfRow : OpenClaim := { program := "ytfofmfkdkihhbad", sum := "6c646ae31c8643384c5cb64114e89a883e95f3756ba71ee3f7a01f39f8e26882", func := "loop.example/growingpictures/laws.FnExactGreatestOf", spec := "fnExactGreatestOf", unfollowed := true, recurses := true, apart := false }
def FnExactGreatestOfSaid : Prop := fnExactGreatestOfRow.holds Try.pinned (OpenSpec.ofChange fnExactGreatestOfSpec)

/-- ITS FALSE NEIGHBOUR: 'it returns false'. Refute it at one input. -/
def fnExactGreatestOfWrong : ChangeSpec := { name := "fnExactGreatestOf", fn := fun _ => fun
  | [d1, d2] => { results := [.lit (.bool false)], args := [d1, d2] }
  | _ => none }
def FnExactGreatestOfWrongFalsely : Prop := fnExactGreatestOfRow.holds Try.pinned (OpenSpec.ofChange fnExactGreatestOfWrong)

/-- 'laws.FnPictureFrom': WHATEVER THE INPUT: true; the input reads as it did. -/
def fnPictureFromSpec : ChangeSpec := { name := "fnPictureFrom", fn := fun _ => fun
  | [d] => { results := [.lit (.bool true)], args := [d] }
  | _ => none }
def fnPictureFromRow : OpenClaim := { program := "ytfofmfkdkihhbad", sum := "6c646ae31c8643384c5cb64114e89a883e95f3756ba71ee3f7a01f39f8e26882", func := "loop.example/growingpictures/laws.FnPictureFrom", spec := "fnPictureFrom", unfollowed := true, recurses := true, apart := false }
def FnPictureFromSaid : Prop := fnPictureFromRow.holds Try.pinned (OpenSpec.ofChange fnPictureFromSpec)

/-- ITS FALSE NEIGHBOUR: 'it returns false'. Refute it at one input. -/
def fnPictureFromWrong : ChangeSpec := { name := "fnPictureFrom", fn := fun _ => fun
  | [d] => { results := [.lit (.bool false)], args := [d] }
  | _ => none }
def FnPictureFromWrongFalsely : Prop := fnPictureFromRow.holds Try.pinned (OpenSpec.ofChange fnPictureFromWrong)

/- THE SECOND FORM. 'bulk': how many values and letters a reading holds, each counted each time it is reached (what is shared counts as often as it is met; a slice's spare places count too). A statement '..UptoSaid' is the law's where the arguments, and the package variables that the reading takes, are together of bulk at most 1048576: NARROWER than '..Said'. Prove '..Said' where nothing that the law and all that it calls make is longer than what came in: it says more and counts as full. Else prove '..UptoSaid'. A law counts once. -/
mutual
def uptoBulk {H : Type} : DataW H → Nat
  | .lit (.string bytes) => bytes.length + 1
  | .lit _ => 1
  | .nil => 1
  | .ptr d => uptoBulk d + 1
  | .slice elems spare => uptoBulkAll elems + uptoBulkAll spare + 1
  | .agg parts => uptoBulkAll parts + 1
  | .iface _ d => uptoBulk d + 1
  | .map entries => uptoBulkEntries entries + 1
  | .held _ => 1
def uptoBulkAll {H : Type} : List (DataW H) → Nat
  | [] => 0
  | d :: r => uptoBulk d + uptoBulkAll r
def uptoBulkEntries {H : Type} : List (Lit × DataW H) → Nat
  | [] => 0
  | x :: r => uptoBulkEntry x + uptoBulkEntries r
def uptoBulkEntry {H : Type} : Lit × DataW H → Nat
  | (.string bytes, d) => bytes.length + uptoBulk d + 1
  | (_, d) => uptoBulk d + 1
 end
def uptoSmall : (H : Type) → List (DataW H) → Bool := fun _ ds => decide (uptoBulkAll ds ≤ 1048576)
def OpenSpec.upto (s : _root_.Go.ChangeSpec) : _root_.Go.OpenSpec := { _root_.Go.OpenSpec.ofChange s with cond := some uptoSmall }

/-- 'laws.FnRadiusAt', WHERE WHAT IT READS IS OF BULK AT MOST 1048576: true; the input reads as it did. -/
def fnRadiusAtUptoRow : OpenClaim := { program := "ytfofmfkdkihhbad", sum := "6c646ae31c8643384c5cb64114e89a883e95f3756ba71ee3f7a01f39f8e26882", func := "loop.example/growingpictures/laws.FnRadiusAt", spec := "fnRadiusAt", unfollowed := true, recurses := true, apart := false, narrowed := true }
def FnRadiusAtUptoSaid : Prop := fnRadiusAtUptoRow.holds Try.pinned (OpenSpec.upto fnRadiusAtSpec)

/-- 'laws.FnExactRadiusAt', WHERE WHAT IT READS IS OF BULK AT MOST 1048576: true; the input reads as it did. -/
def fnExactRadiusAtUptoRow : OpenClaim := { program := "ytfofmfkdkihhbad", sum := "6c646ae31c8643384c5cb64114e89a883e95f3756ba71ee3f7a01f39f8e26882", func := "loop.example/growingpictures/laws.FnExactRadiusAt", spec := "fnExactRadiusAt", unfollowed := true, recurses := true, apart := false, narrowed := true }
def FnExactRadiusAtUptoSaid : Prop := fnExactRadiusAtUptoRow.holds Try.pinned (OpenSpec.upto fnExactRadiusAtSpec)

/-- 'laws.FnCentresOf', WHERE WHAT IT READS IS OF BULK AT MOST 1048576: true; the input reads as it did. -/
def fnCentresOfUptoRow : OpenClaim := { program := "ytfofmfkdkihhbad", sum := "6c646ae31c8643384c5cb64114e89a883e95f3756ba71ee3f7a01f39f8e26882", func := "loop.example/growingpictures/laws.FnCentresOf", spec := "fnCentresOf", unfollowed := true, recurses := true, apart := false, narrowed := true }
def FnCentresOfUptoSaid : Prop := fnCentresOfUptoRow.holds Try.pinned (OpenSpec.upto fnCentresOfSpec)

/-- 'laws.FnExactCentresOf', WHERE WHAT IT READS IS OF BULK AT MOST 1048576: true; the input reads as it did. -/
def fnExactCentresOfUptoRow : OpenClaim := { program := "ytfofmfkdkihhbad", sum := "6c646ae31c8643384c5cb64114e89a883e95f3756ba71ee3f7a01f39f8e26882", func := "loop.example/growingpictures/laws.FnExactCentresOf", spec := "fnExactCentresOf", unfollowed := true, recurses := true, apart := false, narrowed := true }
def FnExactCentresOfUptoSaid : Prop := fnExactCentresOfUptoRow.holds Try.pinned (OpenSpec.upto fnExactCentresOfSpec)

/-- 'laws.FnGreatestOf', WHERE WHAT IT READS IS OF BULK AT MOST 1048576: true; the input reads as it did. -/
def fnGreatestOfUptoRow : OpenClaim := { program := "ytfofmfkdkihhbad", sum := "6c646ae31c8643384c5cb64114e89a883e95f3756ba71ee3f7a01f39f8e26882", func := "loop.example/growingpictures/laws.FnGreatestOf", spec := "fnGreatestOf", unfollowed := true, recurses := true, apart := false, narrowed := true }
def FnGreatestOfUptoSaid : Prop := fnGreatestOfUptoRow.holds Try.pinned (OpenSpec.upto fnGreatestOfSpec)

/-- 'laws.FnExactGreatestOf', WHERE WHAT IT READS IS OF BULK AT MOST 1048576: true; the input reads as it did. -/
def fnExactGreatestOfUptoRow : OpenClaim := { program := "ytfofmfkdkihhbad", sum := "6c646ae31c8643384c5cb64114e89a883e95f3756ba71ee3f7a01f39f8e26882", func := "loop.example/growingpictures/laws.FnExactGreatestOf", spec := "fnExactGreatestOf", unfollowed := true, recurses := true, apart := false, narrowed := true }
def FnExactGreatestOfUptoSaid : Prop := fnExactGreatestOfUptoRow.holds Try.pinned (OpenSpec.upto fnExactGreatestOfSpec)

/-- 'laws.FnPictureFrom', WHERE WHAT IT READS IS OF BULK AT MOST 1048576: true; the input reads as it did. -/
def fnPictureFromUptoRow : OpenClaim := { program := "ytfofmfkdkihhbad", sum := "6c646ae31c8643384c5cb64114e89a883e95f3756ba71ee3f7a01f39f8e26882", func := "loop.example/growingpictures/laws.FnPictureFrom", spec := "fnPictureFrom", unfollowed := true, recurses := true, apart := false, narrowed := true }
def FnPictureFromUptoSaid : Prop := fnPictureFromUptoRow.holds Try.pinned (OpenSpec.upto fnPictureFromSpec)

end Rows
end Go.Proofs.Ytfofmfkdkihhbad
