/-
  DERIVED. GIVEN WITH THE SEED: THE CARDS: each row of YtjeenanoboaaeaaGreatDoorRows.lean that lists a variable, with what it lists TIED to the program's text (the seventh form; the later family's looks); each row that meets fmt, with fmt's text TOLD by the authors' own Lean function (tested against real Go, not proved from fmt's source: count such statements apart). THE CARD IS WHAT COUNTS. Prove the row's statement (the work); the ties are given (YtjeenanoboaaeaaGreatDoorTie.lean); close each card by the builder's one call (the guide's Derived/Test/ToyasCard.lean, 'card_holds'). Laid BY PROGRAM, IN A SANDBOX (cutbox-door.mjs). By AI agents, Wed Nov 11 2026. No macro, syntax, notation, axiom, sorry.
-/
import Derived.Test.YtjeenanoboaaeaaGreatDoorRows
import GoSem.ClaimSeven
namespace Go.Proofs.YtjeenanoboaaeaaGreatDoor
namespace Rows

/-- THE TIED CARD OF 'leporellolaw1.GlyphTells'. -/
def glyphTellsCard : Claim7 := { stood := { row := glyphTellsRow, standIns := [], harness := (true, "8b33c1dd8824d52047af4a01d1562ddf1012c4f24742f5e77fef8062eaf93dfe"), looks := true }, kinds := [], alts := [], laidByText := true, laidKinds := [.data, .data, .data, .sentinel, .sentinel], laidTests := true, laidLooks := .later }
def GlyphTellsCardSaid : Prop := Claim7.holds Tryz.pinned (.plain (OpenSpec.ofChange glyphTellsSpec)) glyphTellsCard

/-- THE SECOND FORM's CARD OF 'leporellolaw1.GlyphTells'. -/
def glyphTellsUptoCard : Claim7 := { stood := { row := glyphTellsUptoRow, standIns := [], harness := (true, "8b33c1dd8824d52047af4a01d1562ddf1012c4f24742f5e77fef8062eaf93dfe"), looks := true }, kinds := [], alts := [], laidByText := true, laidKinds := [.data, .data, .data, .sentinel, .sentinel], laidTests := true, laidLooks := .later }
def GlyphTellsUptoCardSaid : Prop := Claim7.holds Tryz.pinned (.plain (OpenSpec.upto glyphTellsSpec)) glyphTellsUptoCard
end Rows
end Go.Proofs.YtjeenanoboaaeaaGreatDoor
