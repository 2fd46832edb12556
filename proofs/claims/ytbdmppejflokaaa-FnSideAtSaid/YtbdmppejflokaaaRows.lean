/-
  No cell of these rows narrows 'for every input' (looked for: loops, veiled, ifaces, maps, wideKeys, modest, calm, conditions, laid).
  DERIVED. THE GIVEN ROWS OF THIS SEAT. 10 by the template 'for every input the law returns true; each argument reads behind the call as it read before'; 0 by the template 'total and deterministic' (their statements: YtbdmppejflokaaaTotals.lean).
  GIVEN WITH THE SEED: the statements are not yours to turn. If you find one false, say at which input.
  Laid BY PROGRAM, IN A SANDBOX (cutbox-rows.mjs): the forced cells as the released guide's own fill.sh prints them over the translation 0c525b2b37bdc713… (all of the seat's roots in one cut). By AI agents, Wed Nov 11 2026. No macro, syntax, notation, axiom, sorry.
-/
import Derived.Test.YtbdmppejflokaaaChecked
import GoSem.Claim
import GoSem.ClaimJoined
import GoSem.ClaimMapViews
import Derived.JoinedTies
import Derived.KernelRfl
namespace Go.Proofs.Ytbdmppejflokaaa
/- THE CELL 'sum', in the pinned program and in every row, IS THE sha256 OF THE DUMP (.gsa) THAT YtbdmppejflokaaaProg.lean LOADS. Nothing in Lean hashes anything: it is a label: what it is worth is what the hold of that sum in a sandbox is worth. -/
noncomputable def Try.pinned : Pinned := { name := "ytbdmppejflokaaa", sum := "0c525b2b37bdc7137d6d4c4632c461a380ff03f7836c09aa1e39905317f17cf3", checked := Try.checked }
namespace Rows
def none {H : Type} : Left H := { results := [], args := [] }

/-- 'laws.FnSquareOf': WHATEVER THE INPUT: true; the input reads as it did. -/
def fnSquareOfSpec : ChangeSpec := { name := "fnSquareOf", fn := fun _ => fun
  | [d] => { results := [.lit (.bool true)], args := [d] }
  | _ => none }
def fnSquareOfRow : OpenClaim := { program := "ytbdmppejflokaaa", sum := "0c525b2b37bdc7137d6d4c4632c461a380ff03f7836c09aa1e39905317f17cf3", func := "loop.example/growingpictures/laws.FnSquareOf", spec := "fnSquareOf", unfollowed := true, recurses := true, apart := false }
def FnSquareOfSaid : Prop := fnSquareOfRow.holds Try.pinned (OpenSpec.ofChange fnSquareOfSpec)

/-- ITS FALSE NEIGHBOUR: 'it returns false'. Refute it at one input. -/
def fnSquareOfWrong : ChangeSpec := { name := "fnSquareOf", fn := fun _ => fun
  | [d] => { results := [.lit (.bool false)], args := [d] }
  | _ => none }
def FnSquareOfWrongFalsely : Prop := fnSquareOfRow.holds Try.pinned (OpenSpec.ofChange fnSquareOfWrong)

/-- 'laws.FnSievedBy': WHATEVER THE INPUT: true; the input reads as it did. -/
def fnSievedBySpec : ChangeSpec := { name := "fnSievedBy", fn := fun _ => fun
  | [d] => { results := [.lit (.bool true)], args := [d] }
  | _ => none }
def fnSievedByRow : OpenClaim := { program := "ytbdmppejflokaaa", sum := "0c525b2b37bdc7137d6d4c4632c461a380ff03f7836c09aa1e39905317f17cf3", func := "loop.example/growingpictures/laws.FnSievedBy", spec := "fnSievedBy", unfollowed := true, recurses := true, apart := false }
def FnSievedBySaid : Prop := fnSievedByRow.holds Try.pinned (OpenSpec.ofChange fnSievedBySpec)

/-- ITS FALSE NEIGHBOUR: 'it returns false'. Refute it at one input. -/
def fnSievedByWrong : ChangeSpec := { name := "fnSievedBy", fn := fun _ => fun
  | [d] => { results := [.lit (.bool false)], args := [d] }
  | _ => none }
def FnSievedByWrongFalsely : Prop := fnSievedByRow.holds Try.pinned (OpenSpec.ofChange fnSievedByWrong)

/-- 'laws.FnSizesOf': WHATEVER THE INPUT: true; the input reads as it did. -/
def fnSizesOfSpec : ChangeSpec := { name := "fnSizesOf", fn := fun _ => fun
  | [d] => { results := [.lit (.bool true)], args := [d] }
  | _ => none }
def fnSizesOfRow : OpenClaim := { program := "ytbdmppejflokaaa", sum := "0c525b2b37bdc7137d6d4c4632c461a380ff03f7836c09aa1e39905317f17cf3", func := "loop.example/growingpictures/laws.FnSizesOf", spec := "fnSizesOf", unfollowed := true, recurses := true, apart := false }
def FnSizesOfSaid : Prop := fnSizesOfRow.holds Try.pinned (OpenSpec.ofChange fnSizesOfSpec)

/-- ITS FALSE NEIGHBOUR: 'it returns false'. Refute it at one input. -/
def fnSizesOfWrong : ChangeSpec := { name := "fnSizesOf", fn := fun _ => fun
  | [d] => { results := [.lit (.bool false)], args := [d] }
  | _ => none }
def FnSizesOfWrongFalsely : Prop := fnSizesOfRow.holds Try.pinned (OpenSpec.ofChange fnSizesOfWrong)

/-- 'laws.FnGoneOf': WHATEVER THE INPUT: true; the input reads as it did. -/
def fnGoneOfSpec : ChangeSpec := { name := "fnGoneOf", fn := fun _ => fun
  | [d] => { results := [.lit (.bool true)], args := [d] }
  | _ => none }
def fnGoneOfRow : OpenClaim := { program := "ytbdmppejflokaaa", sum := "0c525b2b37bdc7137d6d4c4632c461a380ff03f7836c09aa1e39905317f17cf3", func := "loop.example/growingpictures/laws.FnGoneOf", spec := "fnGoneOf", unfollowed := true, recurses := true, apart := false }
def FnGoneOfSaid : Prop := fnGoneOfRow.holds Try.pinned (OpenSpec.ofChange fnGoneOfSpec)

/-- ITS FALSE NEIGHBOUR: 'it returns false'. Refute it at one input. -/
def fnGoneOfWrong : ChangeSpec := { name := "fnGoneOf", fn := fun _ => fun
  | [d] => { results := [.lit (.bool false)], args := [d] }
  | _ => none }
def FnGoneOfWrongFalsely : Prop := fnGoneOfRow.holds Try.pinned (OpenSpec.ofChange fnGoneOfWrong)

/-- 'laws.FnSideAt': WHATEVER THE INPUT: true; the input reads as it did. -/
def fnSideAtSpec : ChangeSpec := { name := "fnSideAt", fn := fun _ => fun
  | [d] => { results := [.lit (.bool true)], args := [d] }
  | _ => none }
def fnSideAtRow : OpenClaim := { program := "ytbdmppejflokaaa", sum := "0c525b2b37bdc7137d6d4c4632c461a380ff03f7836c09aa1e39905317f17cf3", func := "loop.example/growingpictures/laws.FnSideAt", spec := "fnSideAt", unfollowed := true, recurses := true, apart := false }
def FnSideAtSaid : Prop := fnSideAtRow.holds Try.pinned (OpenSpec.ofChange fnSideAtSpec)

/-- ITS FALSE NEIGHBOUR: 'it returns false'. Refute it at one input. -/
def fnSideAtWrong : ChangeSpec := { name := "fnSideAt", fn := fun _ => fun
  | [d] => { results := [.lit (.bool false)], args := [d] }
  | _ => none }
def FnSideAtWrongFalsely : Prop := fnSideAtRow.holds Try.pinned (OpenSpec.ofChange fnSideAtWrong)

/-- 'laws.FnExactSquareOf': WHATEVER THE INPUT: true; the input reads as it did. -/
def fnExactSquareOfSpec : ChangeSpec := { name := "fnExactSquareOf", fn := fun _ => fun
  | [d] => { results := [.lit (.bool true)], args := [d] }
  | _ => none }
def fnExactSquareOfRow : OpenClaim := { program := "ytbdmppejflokaaa", sum := "0c525b2b37bdc7137d6d4c4632c461a380ff03f7836c09aa1e39905317f17cf3", func := "loop.example/growingpictures/laws.FnExactSquareOf", spec := "fnExactSquareOf", unfollowed := true, recurses := true, apart := false }
def FnExactSquareOfSaid : Prop := fnExactSquareOfRow.holds Try.pinned (OpenSpec.ofChange fnExactSquareOfSpec)

/-- ITS FALSE NEIGHBOUR: 'it returns false'. Refute it at one input. -/
def fnExactSquareOfWrong : ChangeSpec := { name := "fnExactSquareOf", fn := fun _ => fun
  | [d] => { results := [.lit (.bool false)], args := [d] }
  | _ => none }
def FnExactSquareOfWrongFalsely : Prop := fnExactSquareOfRow.holds Try.pinned (OpenSpec.ofChange fnExactSquareOfWrong)

/-- 'laws.FnExactSievedBy': WHATEVER THE INPUT: true; the input reads as it did. -/
def fnExactSievedBySpec : ChangeSpec := { name := "fnExactSievedBy", fn := fun _ => fun
  | [d1, d2] => { results := [.lit (.bool true)], args := [d1, d2] }
  | _ => none }
def fnExactSievedByRow : OpenClaim := { program := "ytbdmppejflokaaa", sum := "0c525b2b37bdc7137d6d4c4632c461a380ff03f7836c09aa1e39905317f17cf3", func := "loop.example/growingpictures/laws.FnExactSievedBy", spec := "fnExactSievedBy", unfollowed := true, recurses := true, apart := false }
def FnExactSievedBySaid : Prop := fnExactSievedByRow.holds Try.pinned (OpenSpec.ofChange fnExactSievedBySpec)

/-- ITS FALSE NEIGHBOUR: 'it returns false'. Refute it at one input. -/
def fnExactSievedByWrong : ChangeSpec := { name := "fnExactSievedBy", fn := fun _ => fun
  | [d1, d2] => { results := [.lit (.bool false)], args := [d1, d2] }
  | _ => none }
def FnExactSievedByWrongFalsely : Prop := fnExactSievedByRow.holds Try.pinned (OpenSpec.ofChange fnExactSievedByWrong)

/-- 'laws.FnExactSizesOf': WHATEVER THE INPUT: true; the input reads as it did. -/
def fnExactSizesOfSpec : ChangeSpec := { name := "fnExactSizesOf", fn := fun _ => fun
  | [d] => { results := [.lit (.bool true)], args := [d] }
  | _ => none }
def fnExactSizesOfRow : OpenClaim := { program := "ytbdmppejflokaaa", sum := "0c525b2b37bdc7137d6d4c4632c461a380ff03f7836c09aa1e39905317f17cf3", func := "loop.example/growingpictures/laws.FnExactSizesOf", spec := "fnExactSizesOf", unfollowed := true, recurses := true, apart := false }
def FnExactSizesOfSaid : Prop := fnExactSizesOfRow.holds Try.pinned (OpenSpec.ofChange fnExactSizesOfSpec)

/-- ITS FALSE NEIGHBOUR: 'it returns false'. Refute it at one input. -/
def fnExactSizesOfWrong : ChangeSpec := { name := "fnExactSizesOf", fn := fun _ => fun
  | [d] => { results := [.lit (.bool false)], args := [d] }
  | _ => none }
def FnExactSizesOfWrongFalsely : Prop := fnExactSizesOfRow.holds Try.pinned (OpenSpec.ofChange fnExactSizesOfWrong)

/-- 'laws.FnExactGoneOf': WHATEVER THE INPUT: true; the input reads as it did. -/
def fnExactGoneOfSpec : ChangeSpec := { name := "fnExactGoneOf", fn := fun _ => fun
  | [d] => { results := [.lit (.bool true)], args := [d] }
  | _ => none }
def fnExactGoneOfRow : OpenClaim := { program := "ytbdmppejflokaaa", sum := "0c525b2b37bdc7137d6d4c4632c461a380ff03f7836c09aa1e39905317f17cf3", func := "loop.example/growingpictures/laws.FnExactGoneOf", spec := "fnExactGoneOf", unfollowed := true, recurses := true, apart := false }
def FnExactGoneOfSaid : Prop := fnExactGoneOfRow.holds Try.pinned (OpenSpec.ofChange fnExactGoneOfSpec)

/-- ITS FALSE NEIGHBOUR: 'it returns false'. Refute it at one input. -/
def fnExactGoneOfWrong : ChangeSpec := { name := "fnExactGoneOf", fn := fun _ => fun
  | [d] => { results := [.lit (.bool false)], args := [d] }
  | _ => none }
def FnExactGoneOfWrongFalsely : Prop := fnExactGoneOfRow.holds Try.pinned (OpenSpec.ofChange fnExactGoneOfWrong)

/-- 'laws.FnExactSideAt': WHATEVER THE INPUT: true; the input reads as it did. -/
def fnExactSideAtSpec : ChangeSpec := { name := "fnExactSideAt", fn := fun _ => fun
  | [d1, d2] => { results := [.lit (.bool true)], args := [d1, d2] }
  | _ => none }
def fnExactSideAtRow : OpenClaim := { program := "ytbdmppejflokaaa", sum := "0c525b2b37bdc7137d6d4c4632c461a380ff03f7836c09aa1e39905317f17cf3", func := "loop.example/growingpictures/laws.FnExactSideAt", spec := "fnExactSideAt", unfollowed := true, recurses := true, apart := false }
def FnExactSideAtSaid : Prop := fnExactSideAtRow.holds Try.pinned (OpenSpec.ofChange fnExactSideAtSpec)

/-- ITS FALSE NEIGHBOUR: 'it returns false'. Refute it at one input. -/
def fnExactSideAtWrong : ChangeSpec := { name := "fnExactSideAt", fn := fun _ => fun
  | [d1, d2] => { results := [.lit (.bool false)], args := [d1, d2] }
  | _ => none }
def FnExactSideAtWrongFalsely : Prop := fnExactSideAtRow.holds Try.pinned (OpenSpec.ofChange fnExactSideAtWrong)

/- THE SECOND FORM. 'bulk': how many values and letters a reading holds, each counted each time it is reached (what is shared counts as often as it is met; a slice's spare places count too). A statement '..UptoSaid' is the law's where the arguments, and the package variables that the reading takes, are together of bulk at most 1048576: NARROWER than '..Said'. Prove '..Said' where nothing that the law and all that it calls make is longer than what came in: it says more and counts as full. Else prove '..UptoSaid'. A law counts once. -/
mutual
def uptoBulk {H : Type} : DataW H → Nat
  | .lit (.string bytes) => bytes.length + 1
  | .lit _ => 1
  | .nil => 1
  | .ptr d => uptoBulk d + 1
  | .slice elems spare => uptoBulkAll elems + uptoBulkAll spare + 1
  | .agg parts => uptoBulkAll parts + 1
  | .iface _ d => uptoBulk d + 1
  | .map entries => uptoBulkEntries entries + 1
  | .held _ => 1
def uptoBulkAll {H : Type} : List (DataW H) → Nat
  | [] => 0
  | d :: r => uptoBulk d + uptoBulkAll r
def uptoBulkEntries {H : Type} : List (Lit × DataW H) → Nat
  | [] => 0
  | x :: r => uptoBulkEntry x + uptoBulkEntries r
def uptoBulkEntry {H : Type} : Lit × DataW H → Nat
  | (.string bytes, d) => bytes.length + uptoBulk d + 1
  | (_, d) => uptoBulk d + 1
 end
def uptoSmall : (H : Type) → List (DataW H) → Bool := fun _ ds => decide (uptoBulkAll ds ≤ 1048576)
def OpenSpec.upto (s : _root_.Go.ChangeSpec) : _root_.Go.OpenSpec := { _root_.Go.OpenSpec.ofChange s with cond := some uptoSmall }

/-- 'laws.FnSquareOf', WHERE WHAT IT READS IS OF BULK AT MOST 1048576: true; the input reads as it did. -/
def fnSquareOfUptoRow : OpenClaim := { program := "ytbdmppejflokaaa", sum := "0c525b2b37bdc7137d6d4c4632c461a380ff03f7836c09aa1e39905317f17cf3", func := "loop.example/growingpictures/laws.FnSquareOf", spec := "fnSquareOf", unfollowed := true, recurses := true, apart := false, narrowed := true }
def FnSquareOfUptoSaid : Prop := fnSquareOfUptoRow.holds Try.pinned (OpenSpec.upto fnSquareOfSpec)

/-- 'laws.FnSievedBy', WHERE WHAT IT READS IS OF BULK AT MOST 1048576: true; the input reads as it did. -/
def fnSievedByUptoRow : OpenClaim := { program := "ytbdmppejflokaaa", sum := "0c525b2b37bdc7137d6d4c4632c461a380ff03f7836c09aa1e39905317f17cf3", func := "loop.example/growingpictures/laws.FnSievedBy", spec := "fnSievedBy", unfollowed := true, recurses := true, apart := false, narrowed := true }
def FnSievedByUptoSaid : Prop := fnSievedByUptoRow.holds Try.pinned (OpenSpec.upto fnSievedBySpec)

/-- 'laws.FnSizesOf', WHERE WHAT IT READS IS OF BULK AT MOST 1048576: true; the input reads as it did. -/
def fnSizesOfUptoRow : OpenClaim := { program := "ytbdmppejflokaaa", sum := "0c525b2b37bdc7137d6d4c4632c461a380ff03f7836c09aa1e39905317f17cf3", func := "loop.example/growingpictures/laws.FnSizesOf", spec := "fnSizesOf", unfollowed := true, recurses := true, apart := false, narrowed := true }
def FnSizesOfUptoSaid : Prop := fnSizesOfUptoRow.holds Try.pinned (OpenSpec.upto fnSizesOfSpec)

/-- 'laws.FnGoneOf', WHERE WHAT IT READS IS OF BULK AT MOST 1048576: true; the input reads as it did. -/
def fnGoneOfUptoRow : OpenClaim := { program := "ytbdmppejflokaaa", sum := "0c525b2b37bdc7137d6d4c4632c461a380ff03f7836c09aa1e39905317f17cf3", func := "loop.example/growingpictures/laws.FnGoneOf", spec := "fnGoneOf", unfollowed := true, recurses := true, apart := false, narrowed := true }
def FnGoneOfUptoSaid : Prop := fnGoneOfUptoRow.holds Try.pinned (OpenSpec.upto fnGoneOfSpec)

/-- 'laws.FnSideAt', WHERE WHAT IT READS IS OF BULK AT MOST 1048576: true; the input reads as it did. -/
def fnSideAtUptoRow : OpenClaim := { program := "ytbdmppejflokaaa", sum := "0c525b2b37bdc7137d6d4c4632c461a380ff03f7836c09aa1e39905317f17cf3", func := "loop.example/growingpictures/laws.FnSideAt", spec := "fnSideAt", unfollowed := true, recurses := true, apart := false, narrowed := true }
def FnSideAtUptoSaid : Prop := fnSideAtUptoRow.holds Try.pinned (OpenSpec.upto fnSideAtSpec)

/-- 'laws.FnExactSquareOf', WHERE WHAT IT READS IS OF BULK AT MOST 1048576: true; the input reads as it did. -/
def fnExactSquareOfUptoRow : OpenClaim := { program := "ytbdmppejflokaaa", sum := "0c525b2b37bdc7137d6d4c4632c461a380ff03f7836c09aa1e39905317f17cf3", func := "loop.example/growingpictures/laws.FnExactSquareOf", spec := "fnExactSquareOf", unfollowed := true, recurses := true, apart := false, narrowed := true }
def FnExactSquareOfUptoSaid : Prop := fnExactSquareOfUptoRow.holds Try.pinned (OpenSpec.upto fnExactSquareOfSpec)

/-- 'laws.FnExactSievedBy', WHERE WHAT IT READS IS OF BULK AT MOST 1048576: true; the input reads as it did. -/
def fnExactSievedByUptoRow : OpenClaim := { program := "ytbdmppejflokaaa", sum := "0c525b2b37bdc7137d6d4c4632c461a380ff03f7836c09aa1e39905317f17cf3", func := "loop.example/growingpictures/laws.FnExactSievedBy", spec := "fnExactSievedBy", unfollowed := true, recurses := true, apart := false, narrowed := true }
def FnExactSievedByUptoSaid : Prop := fnExactSievedByUptoRow.holds Try.pinned (OpenSpec.upto fnExactSievedBySpec)

/-- 'laws.FnExactSizesOf', WHERE WHAT IT READS IS OF BULK AT MOST 1048576: true; the input reads as it did. -/
def fnExactSizesOfUptoRow : OpenClaim := { program := "ytbdmppejflokaaa", sum := "0c525b2b37bdc7137d6d4c4632c461a380ff03f7836c09aa1e39905317f17cf3", func := "loop.example/growingpictures/laws.FnExactSizesOf", spec := "fnExactSizesOf", unfollowed := true, recurses := true, apart := false, narrowed := true }
def FnExactSizesOfUptoSaid : Prop := fnExactSizesOfUptoRow.holds Try.pinned (OpenSpec.upto fnExactSizesOfSpec)

/-- 'laws.FnExactGoneOf', WHERE WHAT IT READS IS OF BULK AT MOST 1048576: true; the input reads as it did. -/
def fnExactGoneOfUptoRow : OpenClaim := { program := "ytbdmppejflokaaa", sum := "0c525b2b37bdc7137d6d4c4632c461a380ff03f7836c09aa1e39905317f17cf3", func := "loop.example/growingpictures/laws.FnExactGoneOf", spec := "fnExactGoneOf", unfollowed := true, recurses := true, apart := false, narrowed := true }
def FnExactGoneOfUptoSaid : Prop := fnExactGoneOfUptoRow.holds Try.pinned (OpenSpec.upto fnExactGoneOfSpec)

/-- 'laws.FnExactSideAt', WHERE WHAT IT READS IS OF BULK AT MOST 1048576: true; the input reads as it did. -/
def fnExactSideAtUptoRow : OpenClaim := { program := "ytbdmppejflokaaa", sum := "0c525b2b37bdc7137d6d4c4632c461a380ff03f7836c09aa1e39905317f17cf3", func := "loop.example/growingpictures/laws.FnExactSideAt", spec := "fnExactSideAt", unfollowed := true, recurses := true, apart := false, narrowed := true }
def FnExactSideAtUptoSaid : Prop := fnExactSideAtUptoRow.holds Try.pinned (OpenSpec.upto fnExactSideAtSpec)

end Rows
end Go.Proofs.Ytbdmppejflokaaa
