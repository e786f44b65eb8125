/-
  DERIVED. GIVEN WITH THE SEED: THE CARDS: each row of YtmdmjnidfcopcaaGreatDoorRows.lean that lists a variable, with what it lists TIED to the program's text (the seventh form; the later family's looks); each row that meets fmt, with fmt's text TOLD by the authors' own Lean function (tested against real Go, not proved from fmt's source: count such statements apart). THE CARD IS WHAT COUNTS. Prove the row's statement (the work); the ties are given (YtmdmjnidfcopcaaGreatDoorTie.lean); close each card by the builder's one call (the guide's Derived/Test/ToyasCard.lean, 'card_holds'). Laid BY PROGRAM, IN A SANDBOX (cutbox-door.mjs). By AI agents, Wed Nov 11 2026. No macro, syntax, notation, axiom, sorry.
-/
import Derived.Test.YtmdmjnidfcopcaaGreatDoorRows
import GoSem.ClaimSeven
namespace Go.Proofs.YtmdmjnidfcopcaaGreatDoor
namespace Rows

/-- THE TIED CARD OF 'leporellolaw8.ParseTells'. -/
def parseTellsCard : Claim7 := { stood := { row := parseTellsRow, standIns := [], harness := (true, "80ccd96355d370abd13cc891c3753346dac0ee5559de09728d9ef009eb8c3547"), looks := true }, kinds := [], alts := [], laidByText := true, laidKinds := [.data, .data, .data, .sentinel, .sentinel], laidTests := true, laidLooks := .later }
def ParseTellsCardSaid : Prop := Claim7.holds Tryz.pinned (.plain (OpenSpec.ofChange parseTellsSpec)) parseTellsCard

/-- THE TIED CARD OF 'leporellolaw8.ParseUnlike'. -/
def parseUnlikeCard : Claim7 := { stood := { row := parseUnlikeRow, standIns := [], harness := (true, "80ccd96355d370abd13cc891c3753346dac0ee5559de09728d9ef009eb8c3547"), looks := true }, kinds := [], alts := [], laidByText := true, laidKinds := [.data, .data, .data, .sentinel, .sentinel], laidTests := true, laidLooks := .later }
def ParseUnlikeCardSaid : Prop := Claim7.holds Tryz.pinned (.plain (OpenSpec.ofChange parseUnlikeSpec)) parseUnlikeCard

/-- THE TIED CARD OF 'leporellolaw8.ParseChains'. -/
def parseChainsCard : Claim7 := { stood := { row := parseChainsRow, standIns := [], harness := (true, "80ccd96355d370abd13cc891c3753346dac0ee5559de09728d9ef009eb8c3547"), looks := true }, kinds := [], alts := [], laidByText := true, laidKinds := [.data, .data, .data, .sentinel, .sentinel], laidTests := true, laidLooks := .later }
def ParseChainsCardSaid : Prop := Claim7.holds Tryz.pinned (.plain (OpenSpec.ofChange parseChainsSpec)) parseChainsCard

/-- THE TIED CARD OF 'leporellolaw8.ParseBrackets'. -/
def parseBracketsCard : Claim7 := { stood := { row := parseBracketsRow, standIns := [], harness := (true, "80ccd96355d370abd13cc891c3753346dac0ee5559de09728d9ef009eb8c3547"), looks := true }, kinds := [], alts := [], laidByText := true, laidKinds := [.data, .data, .data, .sentinel, .sentinel], laidTests := true, laidLooks := .later }
def ParseBracketsCardSaid : Prop := Claim7.holds Tryz.pinned (.plain (OpenSpec.ofChange parseBracketsSpec)) parseBracketsCard

/-- THE TIED CARD OF 'leporellolaw8.ParseTails'. -/
def parseTailsCard : Claim7 := { stood := { row := parseTailsRow, standIns := [], harness := (true, "80ccd96355d370abd13cc891c3753346dac0ee5559de09728d9ef009eb8c3547"), looks := true }, kinds := [], alts := [], laidByText := true, laidKinds := [.data, .data, .data, .sentinel, .sentinel], laidTests := true, laidLooks := .later }
def ParseTailsCardSaid : Prop := Claim7.holds Tryz.pinned (.plain (OpenSpec.ofChange parseTailsSpec)) parseTailsCard

/-- THE TIED CARD OF 'leporellolaw8.ParseSelectors'. -/
def parseSelectorsCard : Claim7 := { stood := { row := parseSelectorsRow, standIns := [], harness := (true, "80ccd96355d370abd13cc891c3753346dac0ee5559de09728d9ef009eb8c3547"), looks := true }, kinds := [], alts := [], laidByText := true, laidKinds := [.data, .data, .data, .sentinel, .sentinel], laidTests := true, laidLooks := .later }
def ParseSelectorsCardSaid : Prop := Claim7.holds Tryz.pinned (.plain (OpenSpec.ofChange parseSelectorsSpec)) parseSelectorsCard

/-- THE TIED CARD OF 'leporellolaw8.ParseWords'. -/
def parseWordsCard : Claim7 := { stood := { row := parseWordsRow, standIns := [], harness := (true, "80ccd96355d370abd13cc891c3753346dac0ee5559de09728d9ef009eb8c3547"), looks := true }, kinds := [], alts := [], laidByText := true, laidKinds := [.data, .data, .data, .sentinel, .sentinel], laidTests := true, laidLooks := .later }
def ParseWordsCardSaid : Prop := Claim7.holds Tryz.pinned (.plain (OpenSpec.ofChange parseWordsSpec)) parseWordsCard

/-- THE SECOND FORM's CARD OF 'leporellolaw8.ParseTells'. -/
def parseTellsUptoCard : Claim7 := { stood := { row := parseTellsUptoRow, standIns := [], harness := (true, "80ccd96355d370abd13cc891c3753346dac0ee5559de09728d9ef009eb8c3547"), looks := true }, kinds := [], alts := [], laidByText := true, laidKinds := [.data, .data, .data, .sentinel, .sentinel], laidTests := true, laidLooks := .later }
def ParseTellsUptoCardSaid : Prop := Claim7.holds Tryz.pinned (.plain (OpenSpec.upto parseTellsSpec)) parseTellsUptoCard

/-- THE SECOND FORM's CARD OF 'leporellolaw8.ParseUnlike'. -/
def parseUnlikeUptoCard : Claim7 := { stood := { row := parseUnlikeUptoRow, standIns := [], harness := (true, "80ccd96355d370abd13cc891c3753346dac0ee5559de09728d9ef009eb8c3547"), looks := true }, kinds := [], alts := [], laidByText := true, laidKinds := [.data, .data, .data, .sentinel, .sentinel], laidTests := true, laidLooks := .later }
def ParseUnlikeUptoCardSaid : Prop := Claim7.holds Tryz.pinned (.plain (OpenSpec.upto parseUnlikeSpec)) parseUnlikeUptoCard

/-- THE SECOND FORM's CARD OF 'leporellolaw8.ParseChains'. -/
def parseChainsUptoCard : Claim7 := { stood := { row := parseChainsUptoRow, standIns := [], harness := (true, "80ccd96355d370abd13cc891c3753346dac0ee5559de09728d9ef009eb8c3547"), looks := true }, kinds := [], alts := [], laidByText := true, laidKinds := [.data, .data, .data, .sentinel, .sentinel], laidTests := true, laidLooks := .later }
def ParseChainsUptoCardSaid : Prop := Claim7.holds Tryz.pinned (.plain (OpenSpec.upto parseChainsSpec)) parseChainsUptoCard

/-- THE SECOND FORM's CARD OF 'leporellolaw8.ParseBrackets'. -/
def parseBracketsUptoCard : Claim7 := { stood := { row := parseBracketsUptoRow, standIns := [], harness := (true, "80ccd96355d370abd13cc891c3753346dac0ee5559de09728d9ef009eb8c3547"), looks := true }, kinds := [], alts := [], laidByText := true, laidKinds := [.data, .data, .data, .sentinel, .sentinel], laidTests := true, laidLooks := .later }
def ParseBracketsUptoCardSaid : Prop := Claim7.holds Tryz.pinned (.plain (OpenSpec.upto parseBracketsSpec)) parseBracketsUptoCard

/-- THE SECOND FORM's CARD OF 'leporellolaw8.ParseTails'. -/
def parseTailsUptoCard : Claim7 := { stood := { row := parseTailsUptoRow, standIns := [], harness := (true, "80ccd96355d370abd13cc891c3753346dac0ee5559de09728d9ef009eb8c3547"), looks := true }, kinds := [], alts := [], laidByText := true, laidKinds := [.data, .data, .data, .sentinel, .sentinel], laidTests := true, laidLooks := .later }
def ParseTailsUptoCardSaid : Prop := Claim7.holds Tryz.pinned (.plain (OpenSpec.upto parseTailsSpec)) parseTailsUptoCard

/-- THE SECOND FORM's CARD OF 'leporellolaw8.ParseSelectors'. -/
def parseSelectorsUptoCard : Claim7 := { stood := { row := parseSelectorsUptoRow, standIns := [], harness := (true, "80ccd96355d370abd13cc891c3753346dac0ee5559de09728d9ef009eb8c3547"), looks := true }, kinds := [], alts := [], laidByText := true, laidKinds := [.data, .data, .data, .sentinel, .sentinel], laidTests := true, laidLooks := .later }
def ParseSelectorsUptoCardSaid : Prop := Claim7.holds Tryz.pinned (.plain (OpenSpec.upto parseSelectorsSpec)) parseSelectorsUptoCard

/-- THE SECOND FORM's CARD OF 'leporellolaw8.ParseWords'. -/
def parseWordsUptoCard : Claim7 := { stood := { row := parseWordsUptoRow, standIns := [], harness := (true, "80ccd96355d370abd13cc891c3753346dac0ee5559de09728d9ef009eb8c3547"), looks := true }, kinds := [], alts := [], laidByText := true, laidKinds := [.data, .data, .data, .sentinel, .sentinel], laidTests := true, laidLooks := .later }
def ParseWordsUptoCardSaid : Prop := Claim7.holds Tryz.pinned (.plain (OpenSpec.upto parseWordsSpec)) parseWordsUptoCard
end Rows
end Go.Proofs.YtmdmjnidfcopcaaGreatDoor
