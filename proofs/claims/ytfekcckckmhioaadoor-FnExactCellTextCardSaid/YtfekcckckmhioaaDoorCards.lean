/-
  DERIVED. GIVEN WITH THE SEED: THE CARDS: each row of YtfekcckckmhioaaDoorRows.lean that lists a variable, with what it lists TIED to the program's text (the seventh form; the later family's looks); each row that meets fmt, with fmt's text TOLD by the authors' own Lean function (tested against real Go, not proved from fmt's source: count such statements apart). THE CARD IS WHAT COUNTS. Prove the row's statement (the work); the ties are given (YtfekcckckmhioaaDoorTie.lean); close each card by the builder's one call (the guide's Derived/Test/ToyasCard.lean, 'card_holds'). Laid BY PROGRAM, IN A SANDBOX (cutbox-door.mjs). By AI agents, Wed Nov 11 2026. No macro, syntax, notation, axiom, sorry.
-/
import Derived.Test.YtfekcckckmhioaaDoorRows
import GoSem.ClaimSeven
namespace Go.Proofs.YtfekcckckmhioaaDoor
namespace Rows

/-- THE TIED CARD OF 'laws.FnExactCellText'. -/
def fnExactCellTextCard : Claim7 := { stood := { row := fnExactCellTextRow, standIns := [], harness := (true, "1f08fd8d8f649edd3c2ea93ba1b8863eb880eed40fa377326328926ed13b4fcc"), looks := false }, kinds := [], alts := [], laidByText := true, laidKinds := [.data, .data, .data], laidTests := true, laidLooks := .later }
def FnExactCellTextCardSaid : Prop := Claim7.holds Tryd.pinned (.plain (OpenSpec.ofChange fnExactCellTextSpec)) fnExactCellTextCard

/-- THE TIED CARD OF 'laws.FnExactExText'. -/
def fnExactExTextCard : Claim7 := { stood := { row := fnExactExTextRow, standIns := [], harness := (true, "1f08fd8d8f649edd3c2ea93ba1b8863eb880eed40fa377326328926ed13b4fcc"), looks := false }, kinds := [], alts := [], laidByText := true, laidKinds := [.data, .data, .data], laidTests := true, laidLooks := .later }
def FnExactExTextCardSaid : Prop := Claim7.holds Tryd.pinned (.plain (OpenSpec.ofChange fnExactExTextSpec)) fnExactExTextCard

/-- THE SECOND FORM's CARD OF 'laws.FnExactCellText'. -/
def fnExactCellTextUptoCard : Claim7 := { stood := { row := fnExactCellTextUptoRow, standIns := [], harness := (true, "1f08fd8d8f649edd3c2ea93ba1b8863eb880eed40fa377326328926ed13b4fcc"), looks := false }, kinds := [], alts := [], laidByText := true, laidKinds := [.data, .data, .data], laidTests := true, laidLooks := .later }
def FnExactCellTextUptoCardSaid : Prop := Claim7.holds Tryd.pinned (.plain (OpenSpec.upto fnExactCellTextSpec)) fnExactCellTextUptoCard

/-- THE SECOND FORM's CARD OF 'laws.FnExactExText'. -/
def fnExactExTextUptoCard : Claim7 := { stood := { row := fnExactExTextUptoRow, standIns := [], harness := (true, "1f08fd8d8f649edd3c2ea93ba1b8863eb880eed40fa377326328926ed13b4fcc"), looks := false }, kinds := [], alts := [], laidByText := true, laidKinds := [.data, .data, .data], laidTests := true, laidLooks := .later }
def FnExactExTextUptoCardSaid : Prop := Claim7.holds Tryd.pinned (.plain (OpenSpec.upto fnExactExTextSpec)) fnExactExTextUptoCard
end Rows
end Go.Proofs.YtfekcckckmhioaaDoor
