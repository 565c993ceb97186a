/-
  DERIVED. GIVEN WITH THE SEED: THE CARDS: each row of YtfflodcapcamcabDoorRows.lean that lists a variable, with what it lists TIED to the program's text (the seventh form; the later family's looks); each row that meets fmt, with fmt's text TOLD by the authors' own Lean function (tested against real Go, not proved from fmt's source: count such statements apart). THE CARD IS WHAT COUNTS. Prove the row's statement (the work); the ties are given (YtfflodcapcamcabDoorTie.lean); close each card by the builder's one call (the guide's Derived/Test/ToyasCard.lean, 'card_holds'). Laid BY PROGRAM, IN A SANDBOX (cutbox-door.mjs). By AI agents, Wed Nov 11 2026. No macro, syntax, notation, axiom, sorry.
-/
import Derived.Test.YtfflodcapcamcabDoorRows
import GoSem.ClaimSeven
namespace Go.Proofs.YtfflodcapcamcabDoor
namespace Rows

/-- THE TIED CARD OF 'laws.FnExactForkText'. -/
def fnExactForkTextCard : Claim7 := { stood := { row := fnExactForkTextRow, standIns := [], harness := (true, "63a10a6ed729c9bbbea4c249c4840878aa1b964ffcd501b81b172c581a997bf5"), looks := true }, kinds := [], alts := [], laidByText := true, laidKinds := [.data, .data, .data], laidTests := true, laidLooks := .later }
def FnExactForkTextCardSaid : Prop := Claim7.holds Tryd.pinned (.plain (OpenSpec.ofChange fnExactForkTextSpec)) fnExactForkTextCard

/-- THE SECOND FORM's CARD OF 'laws.FnExactForkText'. -/
def fnExactForkTextUptoCard : Claim7 := { stood := { row := fnExactForkTextUptoRow, standIns := [], harness := (true, "63a10a6ed729c9bbbea4c249c4840878aa1b964ffcd501b81b172c581a997bf5"), looks := true }, kinds := [], alts := [], laidByText := true, laidKinds := [.data, .data, .data], laidTests := true, laidLooks := .later }
def FnExactForkTextUptoCardSaid : Prop := Claim7.holds Tryd.pinned (.plain (OpenSpec.upto fnExactForkTextSpec)) fnExactForkTextUptoCard
end Rows
end Go.Proofs.YtfflodcapcamcabDoor
