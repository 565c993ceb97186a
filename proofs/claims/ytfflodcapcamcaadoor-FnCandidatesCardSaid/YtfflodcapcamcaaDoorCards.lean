/-
  DERIVED. GIVEN WITH THE SEED: THE CARDS: each row of YtfflodcapcamcaaDoorRows.lean that lists a variable, with what it lists TIED to the program's text (the seventh form; the later family's looks); each row that meets fmt, with fmt's text TOLD by the authors' own Lean function (tested against real Go, not proved from fmt's source: count such statements apart). THE CARD IS WHAT COUNTS. Prove the row's statement (the work); the ties are given (YtfflodcapcamcaaDoorTie.lean); close each card by the builder's one call (the guide's Derived/Test/ToyasCard.lean, 'card_holds'). Laid BY PROGRAM, IN A SANDBOX (cutbox-door.mjs). By AI agents, Wed Nov 11 2026. No macro, syntax, notation, axiom, sorry.
-/
import Derived.Test.YtfflodcapcamcaaDoorRows
import GoSem.ClaimSeven
namespace Go.Proofs.YtfflodcapcamcaaDoor
namespace Rows

/-- THE TIED CARD OF 'laws.FnCandidates'. -/
def fnCandidatesCard : Claim7 := { stood := { row := fnCandidatesRow, standIns := [], harness := (true, "00ac73ae73c304272a0b3fcc6eb259029db5abbe89f2596ead152072867d97d2"), looks := true }, kinds := [], alts := [], laidByText := true, laidKinds := [.data, .data, .data], laidTests := true, laidLooks := .later }
def FnCandidatesCardSaid : Prop := Claim7.holds Tryd.pinned (.plain (OpenSpec.ofChange fnCandidatesSpec)) fnCandidatesCard

/-- THE SECOND FORM's CARD OF 'laws.FnCandidates'. -/
def fnCandidatesUptoCard : Claim7 := { stood := { row := fnCandidatesUptoRow, standIns := [], harness := (true, "00ac73ae73c304272a0b3fcc6eb259029db5abbe89f2596ead152072867d97d2"), looks := true }, kinds := [], alts := [], laidByText := true, laidKinds := [.data, .data, .data], laidTests := true, laidLooks := .later }
def FnCandidatesUptoCardSaid : Prop := Claim7.holds Tryd.pinned (.plain (OpenSpec.upto fnCandidatesSpec)) fnCandidatesUptoCard
end Rows
end Go.Proofs.YtfflodcapcamcaaDoor
