/-
  DERIVED. GIVEN WITH THE SEED: THE CARDS: each row of YtndnplpmkkdieaaGreatDoorRows.lean that lists a variable, with what it lists TIED to the program's text (the seventh form; the later family's looks); each row that meets fmt, with fmt's text TOLD by the authors' own Lean function (tested against real Go, not proved from fmt's source: count such statements apart). THE CARD IS WHAT COUNTS. Prove the row's statement (the work); the ties are given (YtndnplpmkkdieaaGreatDoorTie.lean); close each card by the builder's one call (the guide's Derived/Test/ToyasCard.lean, 'card_holds'). Laid BY PROGRAM, IN A SANDBOX (cutbox-door.mjs). By AI agents, Wed Nov 11 2026. No macro, syntax, notation, axiom, sorry.
-/
import Derived.Test.YtndnplpmkkdieaaGreatDoorRows
import GoSem.ClaimSeven
namespace Go.Proofs.YtndnplpmkkdieaaGreatDoor
namespace Rows

/-- THE TIED CARD OF 'laws.FnSchemaText'. -/
def fnSchemaTextCard : Claim7 := { stood := { row := fnSchemaTextRow, standIns := [], harness := (true, "d282c1cb58f44cd9f41deccc067dfac6e70d1bb88d9b7b49521d7824b7bfb35f"), looks := true }, kinds := [], alts := [], laidByText := true, laidKinds := [.data, .data, .data, .data, .sentinel, .sentinel, .sentinel, .pinned], laidTests := true, laidLooks := .later }
def FnSchemaTextCardSaid : Prop := Claim7.holds Tryz.pinned (.plain (OpenSpec.ofChange fnSchemaTextSpec)) fnSchemaTextCard

/-- THE TIED CARD OF 'laws.FnSchemaRead'. -/
def fnSchemaReadCard : Claim7 := { stood := { row := fnSchemaReadRow, standIns := [], harness := (true, "d282c1cb58f44cd9f41deccc067dfac6e70d1bb88d9b7b49521d7824b7bfb35f"), looks := true }, kinds := [], alts := [], laidByText := true, laidKinds := [.data, .data, .data, .data, .sentinel, .sentinel, .sentinel, .pinned], laidTests := true, laidLooks := .later }
def FnSchemaReadCardSaid : Prop := Claim7.holds Tryz.pinned (.plain (OpenSpec.ofChange fnSchemaReadSpec)) fnSchemaReadCard

/-- THE SECOND FORM's CARD OF 'laws.FnSchemaText'. -/
def fnSchemaTextUptoCard : Claim7 := { stood := { row := fnSchemaTextUptoRow, standIns := [], harness := (true, "d282c1cb58f44cd9f41deccc067dfac6e70d1bb88d9b7b49521d7824b7bfb35f"), looks := true }, kinds := [], alts := [], laidByText := true, laidKinds := [.data, .data, .data, .data, .sentinel, .sentinel, .sentinel, .pinned], laidTests := true, laidLooks := .later }
def FnSchemaTextUptoCardSaid : Prop := Claim7.holds Tryz.pinned (.plain (OpenSpec.upto fnSchemaTextSpec)) fnSchemaTextUptoCard

/-- THE SECOND FORM's CARD OF 'laws.FnSchemaRead'. -/
def fnSchemaReadUptoCard : Claim7 := { stood := { row := fnSchemaReadUptoRow, standIns := [], harness := (true, "d282c1cb58f44cd9f41deccc067dfac6e70d1bb88d9b7b49521d7824b7bfb35f"), looks := true }, kinds := [], alts := [], laidByText := true, laidKinds := [.data, .data, .data, .data, .sentinel, .sentinel, .sentinel, .pinned], laidTests := true, laidLooks := .later }
def FnSchemaReadUptoCardSaid : Prop := Claim7.holds Tryz.pinned (.plain (OpenSpec.upto fnSchemaReadSpec)) fnSchemaReadUptoCard
end Rows
end Go.Proofs.YtndnplpmkkdieaaGreatDoor
