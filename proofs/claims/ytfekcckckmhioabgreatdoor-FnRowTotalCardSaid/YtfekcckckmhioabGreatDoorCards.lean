/-
  DERIVED. GIVEN WITH THE SEED: THE CARDS: each row of YtfekcckckmhioabGreatDoorRows.lean that lists a variable, with what it lists TIED to the program's text (the seventh form; the later family's looks); each row that meets fmt, with fmt's text TOLD by the authors' own Lean function (tested against real Go, not proved from fmt's source: count such statements apart). THE CARD IS WHAT COUNTS. Prove the row's statement (the work); the ties are given (YtfekcckckmhioabGreatDoorTie.lean); close each card by the builder's one call (the guide's Derived/Test/ToyasCard.lean, 'card_holds'). Laid BY PROGRAM, IN A SANDBOX (cutbox-door.mjs). By AI agents, Wed Nov 11 2026. No macro, syntax, notation, axiom, sorry.
-/
import Derived.Test.YtfekcckckmhioabGreatDoorRows
import GoSem.ClaimSeven
namespace Go.Proofs.YtfekcckckmhioabGreatDoor
namespace Rows

/-- THE TIED CARD OF 'laws.FnRowTotal'. -/
def fnRowTotalCard : Claim7 := { stood := { row := fnRowTotalRow, standIns := [], harness := (true, "f407f861ee2c25968b5b39e273f0a32ba13ebe7e047049e72296a04b5a96d89a"), looks := true }, kinds := [], alts := [], laidByText := true, laidKinds := [.data, .data, .data, .data, .handle, .sentinel, .sentinel, .sentinel, .pinned], laidTests := true, laidLooks := .later }
def FnRowTotalCardSaid : Prop := Claim7.holds Tryz.pinned (.plain (OpenSpec.ofChange fnRowTotalSpec)) fnRowTotalCard

/-- THE SECOND FORM's CARD OF 'laws.FnRowTotal'. -/
def fnRowTotalUptoCard : Claim7 := { stood := { row := fnRowTotalUptoRow, standIns := [], harness := (true, "f407f861ee2c25968b5b39e273f0a32ba13ebe7e047049e72296a04b5a96d89a"), looks := true }, kinds := [], alts := [], laidByText := true, laidKinds := [.data, .data, .data, .data, .handle, .sentinel, .sentinel, .sentinel, .pinned], laidTests := true, laidLooks := .later }
def FnRowTotalUptoCardSaid : Prop := Claim7.holds Tryz.pinned (.plain (OpenSpec.upto fnRowTotalSpec)) fnRowTotalUptoCard
end Rows
end Go.Proofs.YtfekcckckmhioabGreatDoor
