/-
  DERIVED. GIVEN WITH THE SEED: THE CARDS: each row of YtecipkkjjcacmaaDoorRows.lean that lists a variable, with what it lists TIED to the program's text (the seventh form; the later family's looks); each row that meets fmt, with fmt's text TOLD by the authors' own Lean function (tested against real Go, not proved from fmt's source: count such statements apart). THE CARD IS WHAT COUNTS. Prove the row's statement (the work); the ties are given (YtecipkkjjcacmaaDoorTie.lean); close each card by the builder's one call (the guide's Derived/Test/ToyasCard.lean, 'card_holds'). Laid BY PROGRAM, IN A SANDBOX (cutbox-door.mjs). By AI agents, Wed Nov 11 2026. No macro, syntax, notation, axiom, sorry.
-/
import Derived.Test.YtecipkkjjcacmaaDoorRows
import GoSem.ClaimSeven
namespace Go.Proofs.YtecipkkjjcacmaaDoor
namespace Rows

/-- THE TIED CARD OF 'leporellolaw1.GlyphQuotes'. -/
def glyphQuotesCard : Claim7 := { stood := { row := glyphQuotesRow, standIns := [], harness := (true, "596dfd0f4fb6c692f2218bbffc1e513d70d17f19980e16841c7617844fab2656"), looks := true }, kinds := [], alts := [], laidByText := true, laidKinds := [.data, .data, .data, .sentinel, .sentinel], laidTests := true, laidLooks := .later }
def GlyphQuotesCardSaid : Prop := Claim7.holds Tryd.pinned (.plain (OpenSpec.ofChange glyphQuotesSpec)) glyphQuotesCard

/-- THE TIED CARD OF 'leporellolaw1.GlyphCuts'. -/
def glyphCutsCard : Claim7 := { stood := { row := glyphCutsRow, standIns := [], harness := (true, "596dfd0f4fb6c692f2218bbffc1e513d70d17f19980e16841c7617844fab2656"), looks := true }, kinds := [], alts := [], laidByText := true, laidKinds := [.data, .data, .data, .sentinel, .sentinel], laidTests := true, laidLooks := .later }
def GlyphCutsCardSaid : Prop := Claim7.holds Tryd.pinned (.plain (OpenSpec.ofChange glyphCutsSpec)) glyphCutsCard

/-- THE TIED CARD OF 'leporellolaw1.GlyphUnlike'. -/
def glyphUnlikeCard : Claim7 := { stood := { row := glyphUnlikeRow, standIns := [], harness := (true, "596dfd0f4fb6c692f2218bbffc1e513d70d17f19980e16841c7617844fab2656"), looks := true }, kinds := [], alts := [], laidByText := true, laidKinds := [.data, .data, .data, .sentinel, .sentinel], laidTests := true, laidLooks := .later }
def GlyphUnlikeCardSaid : Prop := Claim7.holds Tryd.pinned (.plain (OpenSpec.ofChange glyphUnlikeSpec)) glyphUnlikeCard

/-- THE TIED CARD OF 'leporellolaw1.GlyphNames'. -/
def glyphNamesCard : Claim7 := { stood := { row := glyphNamesRow, standIns := [], harness := (true, "596dfd0f4fb6c692f2218bbffc1e513d70d17f19980e16841c7617844fab2656"), looks := true }, kinds := [], alts := [], laidByText := true, laidKinds := [.data, .data, .data, .sentinel, .sentinel], laidTests := true, laidLooks := .later }
def GlyphNamesCardSaid : Prop := Claim7.holds Tryd.pinned (.plain (OpenSpec.ofChange glyphNamesSpec)) glyphNamesCard

/-- THE TIED CARD OF 'leporellolaw1.GlyphSpells'. -/
def glyphSpellsCard : Claim7 := { stood := { row := glyphSpellsRow, standIns := [], harness := (true, "596dfd0f4fb6c692f2218bbffc1e513d70d17f19980e16841c7617844fab2656"), looks := true }, kinds := [], alts := [], laidByText := true, laidKinds := [.data, .data, .data, .sentinel, .sentinel], laidTests := true, laidLooks := .later }
def GlyphSpellsCardSaid : Prop := Claim7.holds Tryd.pinned (.plain (OpenSpec.ofChange glyphSpellsSpec)) glyphSpellsCard

/-- THE SECOND FORM's CARD OF 'leporellolaw1.GlyphQuotes'. -/
def glyphQuotesUptoCard : Claim7 := { stood := { row := glyphQuotesUptoRow, standIns := [], harness := (true, "596dfd0f4fb6c692f2218bbffc1e513d70d17f19980e16841c7617844fab2656"), looks := true }, kinds := [], alts := [], laidByText := true, laidKinds := [.data, .data, .data, .sentinel, .sentinel], laidTests := true, laidLooks := .later }
def GlyphQuotesUptoCardSaid : Prop := Claim7.holds Tryd.pinned (.plain (OpenSpec.upto glyphQuotesSpec)) glyphQuotesUptoCard

/-- THE SECOND FORM's CARD OF 'leporellolaw1.GlyphCuts'. -/
def glyphCutsUptoCard : Claim7 := { stood := { row := glyphCutsUptoRow, standIns := [], harness := (true, "596dfd0f4fb6c692f2218bbffc1e513d70d17f19980e16841c7617844fab2656"), looks := true }, kinds := [], alts := [], laidByText := true, laidKinds := [.data, .data, .data, .sentinel, .sentinel], laidTests := true, laidLooks := .later }
def GlyphCutsUptoCardSaid : Prop := Claim7.holds Tryd.pinned (.plain (OpenSpec.upto glyphCutsSpec)) glyphCutsUptoCard

/-- THE SECOND FORM's CARD OF 'leporellolaw1.GlyphUnlike'. -/
def glyphUnlikeUptoCard : Claim7 := { stood := { row := glyphUnlikeUptoRow, standIns := [], harness := (true, "596dfd0f4fb6c692f2218bbffc1e513d70d17f19980e16841c7617844fab2656"), looks := true }, kinds := [], alts := [], laidByText := true, laidKinds := [.data, .data, .data, .sentinel, .sentinel], laidTests := true, laidLooks := .later }
def GlyphUnlikeUptoCardSaid : Prop := Claim7.holds Tryd.pinned (.plain (OpenSpec.upto glyphUnlikeSpec)) glyphUnlikeUptoCard

/-- THE SECOND FORM's CARD OF 'leporellolaw1.GlyphNames'. -/
def glyphNamesUptoCard : Claim7 := { stood := { row := glyphNamesUptoRow, standIns := [], harness := (true, "596dfd0f4fb6c692f2218bbffc1e513d70d17f19980e16841c7617844fab2656"), looks := true }, kinds := [], alts := [], laidByText := true, laidKinds := [.data, .data, .data, .sentinel, .sentinel], laidTests := true, laidLooks := .later }
def GlyphNamesUptoCardSaid : Prop := Claim7.holds Tryd.pinned (.plain (OpenSpec.upto glyphNamesSpec)) glyphNamesUptoCard

/-- THE SECOND FORM's CARD OF 'leporellolaw1.GlyphSpells'. -/
def glyphSpellsUptoCard : Claim7 := { stood := { row := glyphSpellsUptoRow, standIns := [], harness := (true, "596dfd0f4fb6c692f2218bbffc1e513d70d17f19980e16841c7617844fab2656"), looks := true }, kinds := [], alts := [], laidByText := true, laidKinds := [.data, .data, .data, .sentinel, .sentinel], laidTests := true, laidLooks := .later }
def GlyphSpellsUptoCardSaid : Prop := Claim7.holds Tryd.pinned (.plain (OpenSpec.upto glyphSpellsSpec)) glyphSpellsUptoCard
end Rows
end Go.Proofs.YtecipkkjjcacmaaDoor
