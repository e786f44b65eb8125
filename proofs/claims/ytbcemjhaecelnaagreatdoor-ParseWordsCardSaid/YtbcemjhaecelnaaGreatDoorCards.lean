/-
  DERIVED. GIVEN WITH THE SEED: THE CARDS: each row of YtbcemjhaecelnaaGreatDoorRows.lean that lists a variable, with what it lists TIED to the program's text (the seventh form; the later family's looks); each row that meets fmt, with fmt's text TOLD by the authors' own Lean function (tested against real Go, not proved from fmt's source: count such statements apart). THE CARD IS WHAT COUNTS. Prove the row's statement (the work); the ties are given (YtbcemjhaecelnaaGreatDoorTie.lean); close each card by the builder's one call (the guide's Derived/Test/ToyasCard.lean, 'card_holds'). Laid BY PROGRAM, IN A SANDBOX (cutbox-door.mjs). By AI agents, Wed Nov 11 2026. No macro, syntax, notation, axiom, sorry.
-/
import Derived.Test.YtbcemjhaecelnaaGreatDoorRows
import GoSem.ClaimSeven
namespace Go.Proofs.YtbcemjhaecelnaaGreatDoor
namespace Rows

/-- THE TIED CARD OF 'leporellolaw8.ParseTells'. -/
def parseTellsCard : Claim7 := { stood := { row := parseTellsRow, standIns := [], harness := (true, "1146d7900c73b99f188f81a4c309a417e0279e339cedf33aea0a224386254815"), looks := true }, kinds := [], alts := [], laidByText := true, laidKinds := [.data, .data, .data, .sentinel, .sentinel], laidTests := true, laidLooks := .later }
def ParseTellsCardSaid : Prop := Claim7.holds Tryz.pinned (.plain (OpenSpec.ofChange parseTellsSpec)) parseTellsCard

/-- THE TIED CARD OF 'leporellolaw8.ParseSelectors'. -/
def parseSelectorsCard : Claim7 := { stood := { row := parseSelectorsRow, standIns := [], harness := (true, "1146d7900c73b99f188f81a4c309a417e0279e339cedf33aea0a224386254815"), looks := true }, kinds := [], alts := [], laidByText := true, laidKinds := [.data, .data, .data, .sentinel, .sentinel], laidTests := true, laidLooks := .later }
def ParseSelectorsCardSaid : Prop := Claim7.holds Tryz.pinned (.plain (OpenSpec.ofChange parseSelectorsSpec)) parseSelectorsCard

/-- THE TIED CARD OF 'leporellolaw8.ParseWords'. -/
def parseWordsCard : Claim7 := { stood := { row := parseWordsRow, standIns := [], harness := (true, "1146d7900c73b99f188f81a4c309a417e0279e339cedf33aea0a224386254815"), looks := true }, kinds := [], alts := [], laidByText := true, laidKinds := [.data, .data, .data, .sentinel, .sentinel], laidTests := true, laidLooks := .later }
def ParseWordsCardSaid : Prop := Claim7.holds Tryz.pinned (.plain (OpenSpec.ofChange parseWordsSpec)) parseWordsCard

/-- THE SECOND FORM's CARD OF 'leporellolaw8.ParseTells'. -/
def parseTellsUptoCard : Claim7 := { stood := { row := parseTellsUptoRow, standIns := [], harness := (true, "1146d7900c73b99f188f81a4c309a417e0279e339cedf33aea0a224386254815"), looks := true }, kinds := [], alts := [], laidByText := true, laidKinds := [.data, .data, .data, .sentinel, .sentinel], laidTests := true, laidLooks := .later }
def ParseTellsUptoCardSaid : Prop := Claim7.holds Tryz.pinned (.plain (OpenSpec.upto parseTellsSpec)) parseTellsUptoCard

/-- THE SECOND FORM's CARD OF 'leporellolaw8.ParseSelectors'. -/
def parseSelectorsUptoCard : Claim7 := { stood := { row := parseSelectorsUptoRow, standIns := [], harness := (true, "1146d7900c73b99f188f81a4c309a417e0279e339cedf33aea0a224386254815"), looks := true }, kinds := [], alts := [], laidByText := true, laidKinds := [.data, .data, .data, .sentinel, .sentinel], laidTests := true, laidLooks := .later }
def ParseSelectorsUptoCardSaid : Prop := Claim7.holds Tryz.pinned (.plain (OpenSpec.upto parseSelectorsSpec)) parseSelectorsUptoCard

/-- THE SECOND FORM's CARD OF 'leporellolaw8.ParseWords'. -/
def parseWordsUptoCard : Claim7 := { stood := { row := parseWordsUptoRow, standIns := [], harness := (true, "1146d7900c73b99f188f81a4c309a417e0279e339cedf33aea0a224386254815"), looks := true }, kinds := [], alts := [], laidByText := true, laidKinds := [.data, .data, .data, .sentinel, .sentinel], laidTests := true, laidLooks := .later }
def ParseWordsUptoCardSaid : Prop := Claim7.holds Tryz.pinned (.plain (OpenSpec.upto parseWordsSpec)) parseWordsUptoCard
end Rows
end Go.Proofs.YtbcemjhaecelnaaGreatDoor
