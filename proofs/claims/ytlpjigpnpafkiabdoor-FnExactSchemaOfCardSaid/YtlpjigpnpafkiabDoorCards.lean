/-
  DERIVED. GIVEN WITH THE SEED: THE CARDS: each row of YtlpjigpnpafkiabDoorRows.lean that lists a variable, with what it lists TIED to the program's text (the seventh form; the later family's looks); each row that meets fmt, with fmt's text TOLD by the authors' own Lean function (tested against real Go, not proved from fmt's source: count such statements apart). THE CARD IS WHAT COUNTS. Prove the row's statement (the work); the ties are given (YtlpjigpnpafkiabDoorTie.lean); close each card by the builder's one call (the guide's Derived/Test/ToyasCard.lean, 'card_holds'). Laid BY PROGRAM, IN A SANDBOX (cutbox-door.mjs). By AI agents, Wed Nov 11 2026. No macro, syntax, notation, axiom, sorry.
-/
import Derived.Test.YtlpjigpnpafkiabDoorRows
import GoSem.ClaimSeven
namespace Go.Proofs.YtlpjigpnpafkiabDoor
namespace Rows

/-- THE TIED CARD OF 'laws.FnExactAttrText'. -/
def fnExactAttrTextCard : Claim7 := { stood := { row := fnExactAttrTextRow, standIns := [], harness := (true, "ac4ea3406b41873658f65e85819632b3a03ae2abda9c004ab70ce70d71515d2d"), looks := true }, kinds := [], alts := [], laidByText := true, laidKinds := [.data, .data, .data], laidTests := true, laidLooks := .later }
def FnExactAttrTextCardSaid : Prop := Claim7.holds Tryd.pinned (.plain (OpenSpec.ofChange fnExactAttrTextSpec)) fnExactAttrTextCard

/-- THE TIED CARD OF 'laws.FnExactAttrOf'. -/
def fnExactAttrOfCard : Claim7 := { stood := { row := fnExactAttrOfRow, standIns := [], harness := (true, "ac4ea3406b41873658f65e85819632b3a03ae2abda9c004ab70ce70d71515d2d"), looks := true }, kinds := [], alts := [], laidByText := true, laidKinds := [.data, .data, .data, .data, .sentinel, .sentinel, .sentinel, .pinned], laidTests := true, laidLooks := .later }
def FnExactAttrOfCardSaid : Prop := Claim7.holds Tryd.pinned (.plain (OpenSpec.ofChange fnExactAttrOfSpec)) fnExactAttrOfCard

/-- THE TIED CARD OF 'laws.FnExactSchemaText'. -/
def fnExactSchemaTextCard : Claim7 := { stood := { row := fnExactSchemaTextRow, standIns := [], harness := (true, "ac4ea3406b41873658f65e85819632b3a03ae2abda9c004ab70ce70d71515d2d"), looks := true }, kinds := [], alts := [], laidByText := true, laidKinds := [.data, .data, .data], laidTests := true, laidLooks := .later }
def FnExactSchemaTextCardSaid : Prop := Claim7.holds Tryd.pinned (.plain (OpenSpec.ofChange fnExactSchemaTextSpec)) fnExactSchemaTextCard

/-- THE TIED CARD OF 'laws.FnExactSchemaOf'. -/
def fnExactSchemaOfCard : Claim7 := { stood := { row := fnExactSchemaOfRow, standIns := [], harness := (true, "ac4ea3406b41873658f65e85819632b3a03ae2abda9c004ab70ce70d71515d2d"), looks := true }, kinds := [], alts := [], laidByText := true, laidKinds := [.data, .data, .data, .data, .sentinel, .sentinel, .sentinel, .pinned], laidTests := true, laidLooks := .later }
def FnExactSchemaOfCardSaid : Prop := Claim7.holds Tryd.pinned (.plain (OpenSpec.ofChange fnExactSchemaOfSpec)) fnExactSchemaOfCard

/-- THE SECOND FORM's CARD OF 'laws.FnExactAttrText'. -/
def fnExactAttrTextUptoCard : Claim7 := { stood := { row := fnExactAttrTextUptoRow, standIns := [], harness := (true, "ac4ea3406b41873658f65e85819632b3a03ae2abda9c004ab70ce70d71515d2d"), looks := true }, kinds := [], alts := [], laidByText := true, laidKinds := [.data, .data, .data], laidTests := true, laidLooks := .later }
def FnExactAttrTextUptoCardSaid : Prop := Claim7.holds Tryd.pinned (.plain (OpenSpec.upto fnExactAttrTextSpec)) fnExactAttrTextUptoCard

/-- THE SECOND FORM's CARD OF 'laws.FnExactAttrOf'. -/
def fnExactAttrOfUptoCard : Claim7 := { stood := { row := fnExactAttrOfUptoRow, standIns := [], harness := (true, "ac4ea3406b41873658f65e85819632b3a03ae2abda9c004ab70ce70d71515d2d"), looks := true }, kinds := [], alts := [], laidByText := true, laidKinds := [.data, .data, .data, .data, .sentinel, .sentinel, .sentinel, .pinned], laidTests := true, laidLooks := .later }
def FnExactAttrOfUptoCardSaid : Prop := Claim7.holds Tryd.pinned (.plain (OpenSpec.upto fnExactAttrOfSpec)) fnExactAttrOfUptoCard

/-- THE SECOND FORM's CARD OF 'laws.FnExactSchemaText'. -/
def fnExactSchemaTextUptoCard : Claim7 := { stood := { row := fnExactSchemaTextUptoRow, standIns := [], harness := (true, "ac4ea3406b41873658f65e85819632b3a03ae2abda9c004ab70ce70d71515d2d"), looks := true }, kinds := [], alts := [], laidByText := true, laidKinds := [.data, .data, .data], laidTests := true, laidLooks := .later }
def FnExactSchemaTextUptoCardSaid : Prop := Claim7.holds Tryd.pinned (.plain (OpenSpec.upto fnExactSchemaTextSpec)) fnExactSchemaTextUptoCard

/-- THE SECOND FORM's CARD OF 'laws.FnExactSchemaOf'. -/
def fnExactSchemaOfUptoCard : Claim7 := { stood := { row := fnExactSchemaOfUptoRow, standIns := [], harness := (true, "ac4ea3406b41873658f65e85819632b3a03ae2abda9c004ab70ce70d71515d2d"), looks := true }, kinds := [], alts := [], laidByText := true, laidKinds := [.data, .data, .data, .data, .sentinel, .sentinel, .sentinel, .pinned], laidTests := true, laidLooks := .later }
def FnExactSchemaOfUptoCardSaid : Prop := Claim7.holds Tryd.pinned (.plain (OpenSpec.upto fnExactSchemaOfSpec)) fnExactSchemaOfUptoCard
end Rows
end Go.Proofs.YtlpjigpnpafkiabDoor
