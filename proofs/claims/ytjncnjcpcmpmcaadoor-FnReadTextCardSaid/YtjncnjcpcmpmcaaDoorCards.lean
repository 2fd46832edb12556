/-
  DERIVED. GIVEN WITH THE SEED: THE CARDS: each row of YtjncnjcpcmpmcaaDoorRows.lean that lists a variable, with what it lists TIED to the program's text (the seventh form; the later family's looks); each row that meets fmt, with fmt's text TOLD by the authors' own Lean function (tested against real Go, not proved from fmt's source: count such statements apart). THE CARD IS WHAT COUNTS. Prove the row's statement (the work); the ties are given (YtjncnjcpcmpmcaaDoorTie.lean); close each card by the builder's one call (the guide's Derived/Test/ToyasCard.lean, 'card_holds'). Laid BY PROGRAM, IN A SANDBOX (cutbox-door.mjs). By AI agents, Wed Nov 11 2026. No macro, syntax, notation, axiom, sorry.
-/
import Derived.Test.YtjncnjcpcmpmcaaDoorRows
import GoSem.ClaimSeven
namespace Go.Proofs.YtjncnjcpcmpmcaaDoor
namespace Rows

/-- THE TIED CARD OF 'laws.FnTextOf'. -/
def fnTextOfCard : Claim7 := { stood := { row := fnTextOfRow, standIns := [], harness := (true, "1e4c3999a267c88674b1aa5add5c2c2809d078228da009ecaa3681b61020619b"), looks := true }, kinds := [], alts := [], laidByText := true, laidKinds := [.data, .data, .data, .sentinel, .sentinel], laidTests := true, laidLooks := .later }
def FnTextOfCardSaid : Prop := Claim7.holds Tryd.pinned (.plain (OpenSpec.ofChange fnTextOfSpec)) fnTextOfCard

/-- THE TIED CARD OF 'laws.FnReadText'. -/
def fnReadTextCard : Claim7 := { stood := { row := fnReadTextRow, standIns := [], harness := (true, "1e4c3999a267c88674b1aa5add5c2c2809d078228da009ecaa3681b61020619b"), looks := true }, kinds := [], alts := [], laidByText := true, laidKinds := [.data, .data, .data, .sentinel, .sentinel], laidTests := true, laidLooks := .later }
def FnReadTextCardSaid : Prop := Claim7.holds Tryd.pinned (.plain (OpenSpec.ofChange fnReadTextSpec)) fnReadTextCard

/-- THE TIED CARD OF 'laws.FnShortRow'. -/
def fnShortRowCard : Claim7 := { stood := { row := fnShortRowRow, standIns := [], harness := (true, "1e4c3999a267c88674b1aa5add5c2c2809d078228da009ecaa3681b61020619b"), looks := true }, kinds := [], alts := [], laidByText := true, laidKinds := [.data, .data, .data, .data, .sentinel, .sentinel, .pinned], laidTests := true, laidLooks := .later }
def FnShortRowCardSaid : Prop := Claim7.holds Tryd.pinned (.plain (OpenSpec.ofChange fnShortRowSpec)) fnShortRowCard

/-- THE TIED CARD OF 'laws.FnLongRow'. -/
def fnLongRowCard : Claim7 := { stood := { row := fnLongRowRow, standIns := [], harness := (true, "1e4c3999a267c88674b1aa5add5c2c2809d078228da009ecaa3681b61020619b"), looks := true }, kinds := [], alts := [], laidByText := true, laidKinds := [.data, .data, .data, .data, .sentinel, .sentinel, .pinned], laidTests := true, laidLooks := .later }
def FnLongRowCardSaid : Prop := Claim7.holds Tryd.pinned (.plain (OpenSpec.ofChange fnLongRowSpec)) fnLongRowCard

/-- THE TIED CARD OF 'laws.FnExactTextOf'. -/
def fnExactTextOfCard : Claim7 := { stood := { row := fnExactTextOfRow, standIns := [], harness := (true, "1e4c3999a267c88674b1aa5add5c2c2809d078228da009ecaa3681b61020619b"), looks := true }, kinds := [], alts := [], laidByText := true, laidKinds := [.data, .data, .data], laidTests := true, laidLooks := .later }
def FnExactTextOfCardSaid : Prop := Claim7.holds Tryd.pinned (.plain (OpenSpec.ofChange fnExactTextOfSpec)) fnExactTextOfCard

/-- THE TIED CARD OF 'laws.FnExactReadText'. -/
def fnExactReadTextCard : Claim7 := { stood := { row := fnExactReadTextRow, standIns := [], harness := (true, "1e4c3999a267c88674b1aa5add5c2c2809d078228da009ecaa3681b61020619b"), looks := true }, kinds := [], alts := [], laidByText := true, laidKinds := [.data, .data, .data, .sentinel, .sentinel], laidTests := true, laidLooks := .later }
def FnExactReadTextCardSaid : Prop := Claim7.holds Tryd.pinned (.plain (OpenSpec.ofChange fnExactReadTextSpec)) fnExactReadTextCard

/-- THE TIED CARD OF 'laws.FnExactShortRow'. -/
def fnExactShortRowCard : Claim7 := { stood := { row := fnExactShortRowRow, standIns := [], harness := (true, "1e4c3999a267c88674b1aa5add5c2c2809d078228da009ecaa3681b61020619b"), looks := true }, kinds := [], alts := [], laidByText := true, laidKinds := [.data, .data, .data, .data, .pinned], laidTests := true, laidLooks := .later }
def FnExactShortRowCardSaid : Prop := Claim7.holds Tryd.pinned (.plain (OpenSpec.ofChange fnExactShortRowSpec)) fnExactShortRowCard

/-- THE TIED CARD OF 'laws.FnExactLongRow'. -/
def fnExactLongRowCard : Claim7 := { stood := { row := fnExactLongRowRow, standIns := [], harness := (true, "1e4c3999a267c88674b1aa5add5c2c2809d078228da009ecaa3681b61020619b"), looks := true }, kinds := [], alts := [], laidByText := true, laidKinds := [.data, .data, .data, .data, .sentinel, .sentinel, .pinned], laidTests := true, laidLooks := .later }
def FnExactLongRowCardSaid : Prop := Claim7.holds Tryd.pinned (.plain (OpenSpec.ofChange fnExactLongRowSpec)) fnExactLongRowCard

/-- THE SECOND FORM's CARD OF 'laws.FnTextOf'. -/
def fnTextOfUptoCard : Claim7 := { stood := { row := fnTextOfUptoRow, standIns := [], harness := (true, "1e4c3999a267c88674b1aa5add5c2c2809d078228da009ecaa3681b61020619b"), looks := true }, kinds := [], alts := [], laidByText := true, laidKinds := [.data, .data, .data, .sentinel, .sentinel], laidTests := true, laidLooks := .later }
def FnTextOfUptoCardSaid : Prop := Claim7.holds Tryd.pinned (.plain (OpenSpec.upto fnTextOfSpec)) fnTextOfUptoCard

/-- THE SECOND FORM's CARD OF 'laws.FnReadText'. -/
def fnReadTextUptoCard : Claim7 := { stood := { row := fnReadTextUptoRow, standIns := [], harness := (true, "1e4c3999a267c88674b1aa5add5c2c2809d078228da009ecaa3681b61020619b"), looks := true }, kinds := [], alts := [], laidByText := true, laidKinds := [.data, .data, .data, .sentinel, .sentinel], laidTests := true, laidLooks := .later }
def FnReadTextUptoCardSaid : Prop := Claim7.holds Tryd.pinned (.plain (OpenSpec.upto fnReadTextSpec)) fnReadTextUptoCard

/-- THE SECOND FORM's CARD OF 'laws.FnShortRow'. -/
def fnShortRowUptoCard : Claim7 := { stood := { row := fnShortRowUptoRow, standIns := [], harness := (true, "1e4c3999a267c88674b1aa5add5c2c2809d078228da009ecaa3681b61020619b"), looks := true }, kinds := [], alts := [], laidByText := true, laidKinds := [.data, .data, .data, .data, .sentinel, .sentinel, .pinned], laidTests := true, laidLooks := .later }
def FnShortRowUptoCardSaid : Prop := Claim7.holds Tryd.pinned (.plain (OpenSpec.upto fnShortRowSpec)) fnShortRowUptoCard

/-- THE SECOND FORM's CARD OF 'laws.FnLongRow'. -/
def fnLongRowUptoCard : Claim7 := { stood := { row := fnLongRowUptoRow, standIns := [], harness := (true, "1e4c3999a267c88674b1aa5add5c2c2809d078228da009ecaa3681b61020619b"), looks := true }, kinds := [], alts := [], laidByText := true, laidKinds := [.data, .data, .data, .data, .sentinel, .sentinel, .pinned], laidTests := true, laidLooks := .later }
def FnLongRowUptoCardSaid : Prop := Claim7.holds Tryd.pinned (.plain (OpenSpec.upto fnLongRowSpec)) fnLongRowUptoCard

/-- THE SECOND FORM's CARD OF 'laws.FnExactTextOf'. -/
def fnExactTextOfUptoCard : Claim7 := { stood := { row := fnExactTextOfUptoRow, standIns := [], harness := (true, "1e4c3999a267c88674b1aa5add5c2c2809d078228da009ecaa3681b61020619b"), looks := true }, kinds := [], alts := [], laidByText := true, laidKinds := [.data, .data, .data], laidTests := true, laidLooks := .later }
def FnExactTextOfUptoCardSaid : Prop := Claim7.holds Tryd.pinned (.plain (OpenSpec.upto fnExactTextOfSpec)) fnExactTextOfUptoCard

/-- THE SECOND FORM's CARD OF 'laws.FnExactReadText'. -/
def fnExactReadTextUptoCard : Claim7 := { stood := { row := fnExactReadTextUptoRow, standIns := [], harness := (true, "1e4c3999a267c88674b1aa5add5c2c2809d078228da009ecaa3681b61020619b"), looks := true }, kinds := [], alts := [], laidByText := true, laidKinds := [.data, .data, .data, .sentinel, .sentinel], laidTests := true, laidLooks := .later }
def FnExactReadTextUptoCardSaid : Prop := Claim7.holds Tryd.pinned (.plain (OpenSpec.upto fnExactReadTextSpec)) fnExactReadTextUptoCard

/-- THE SECOND FORM's CARD OF 'laws.FnExactShortRow'. -/
def fnExactShortRowUptoCard : Claim7 := { stood := { row := fnExactShortRowUptoRow, standIns := [], harness := (true, "1e4c3999a267c88674b1aa5add5c2c2809d078228da009ecaa3681b61020619b"), looks := true }, kinds := [], alts := [], laidByText := true, laidKinds := [.data, .data, .data, .data, .pinned], laidTests := true, laidLooks := .later }
def FnExactShortRowUptoCardSaid : Prop := Claim7.holds Tryd.pinned (.plain (OpenSpec.upto fnExactShortRowSpec)) fnExactShortRowUptoCard

/-- THE SECOND FORM's CARD OF 'laws.FnExactLongRow'. -/
def fnExactLongRowUptoCard : Claim7 := { stood := { row := fnExactLongRowUptoRow, standIns := [], harness := (true, "1e4c3999a267c88674b1aa5add5c2c2809d078228da009ecaa3681b61020619b"), looks := true }, kinds := [], alts := [], laidByText := true, laidKinds := [.data, .data, .data, .data, .sentinel, .sentinel, .pinned], laidTests := true, laidLooks := .later }
def FnExactLongRowUptoCardSaid : Prop := Claim7.holds Tryd.pinned (.plain (OpenSpec.upto fnExactLongRowSpec)) fnExactLongRowUptoCard
end Rows
end Go.Proofs.YtjncnjcpcmpmcaaDoor
