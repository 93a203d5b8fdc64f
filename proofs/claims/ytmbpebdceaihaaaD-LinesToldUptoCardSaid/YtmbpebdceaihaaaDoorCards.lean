/-
  DERIVED. GIVEN WITH THE SEED: THE CARDS: each row of YtmbpebdceaihaaaDoorRows.lean that lists a variable, with what it lists TIED to the program's text (the seventh form; the later family's looks); each row that meets fmt, with fmt's text TOLD by the authors' own Lean function (tested against real Go, not proved from fmt's source: count such statements apart). THE CARD IS WHAT COUNTS. Prove the row's statement (the work); the ties are given (YtmbpebdceaihaaaDoorTie.lean); close each card by the builder's one call (the guide's Derived/Test/ToyasCard.lean, 'card_holds'). Laid BY PROGRAM, IN A SANDBOX (cutbox-door.mjs). By AI agents, Wed Nov 11 2026. No macro, syntax, notation, axiom, sorry.
-/
import Derived.Test.YtmbpebdceaihaaaDoorRows
import GoSem.ClaimSeven
namespace Go.Proofs.YtmbpebdceaihaaaDoor
namespace Rows

/-- THE TIED CARD OF 'paddocklaw01.LinesSplits'. -/
def linesSplitsCard : Claim7 := { stood := { row := linesSplitsRow, standIns := [], harness := (true, "713e8af770b0d7dfa83fa8a6e66c335ae1e9ea0ab4db148fc49e0f070b3ac18c"), looks := false }, kinds := [], alts := [], laidByText := true, laidKinds := [.data, .data], laidTests := true, laidLooks := .later }
def LinesSplitsCardSaid : Prop := Claim7.holds Tryd.pinned (.plain (OpenSpec.ofChange linesSplitsSpec)) linesSplitsCard

/-- THE TIED CARD OF 'paddocklaw01.LinesParts'. -/
def linesPartsCard : Claim7 := { stood := { row := linesPartsRow, standIns := [], harness := (true, "713e8af770b0d7dfa83fa8a6e66c335ae1e9ea0ab4db148fc49e0f070b3ac18c"), looks := false }, kinds := [], alts := [], laidByText := true, laidKinds := [.data, .data], laidTests := true, laidLooks := .later }
def LinesPartsCardSaid : Prop := Claim7.holds Tryd.pinned (.plain (OpenSpec.ofChange linesPartsSpec)) linesPartsCard

/-- THE TIED CARD OF 'paddocklaw01.LinesBack'. -/
def linesBackCard : Claim7 := { stood := { row := linesBackRow, standIns := [], harness := (true, "713e8af770b0d7dfa83fa8a6e66c335ae1e9ea0ab4db148fc49e0f070b3ac18c"), looks := false }, kinds := [], alts := [], laidByText := true, laidKinds := [.data, .data], laidTests := true, laidLooks := .later }
def LinesBackCardSaid : Prop := Claim7.holds Tryd.pinned (.plain (OpenSpec.ofChange linesBackSpec)) linesBackCard

/-- THE TIED CARD OF 'paddocklaw01.LinesQuotes'. -/
def linesQuotesCard : Claim7 := { stood := { row := linesQuotesRow, standIns := [], harness := (true, "713e8af770b0d7dfa83fa8a6e66c335ae1e9ea0ab4db148fc49e0f070b3ac18c"), looks := false }, kinds := [], alts := [], laidByText := true, laidKinds := [.data, .data], laidTests := true, laidLooks := .later }
def LinesQuotesCardSaid : Prop := Claim7.holds Tryd.pinned (.plain (OpenSpec.ofChange linesQuotesSpec)) linesQuotesCard

/-- THE TIED CARD OF 'paddocklaw01.LinesLists'. -/
def linesListsCard : Claim7 := { stood := { row := linesListsRow, standIns := [], harness := (true, "713e8af770b0d7dfa83fa8a6e66c335ae1e9ea0ab4db148fc49e0f070b3ac18c"), looks := false }, kinds := [], alts := [], laidByText := true, laidKinds := [.data, .data], laidTests := true, laidLooks := .later }
def LinesListsCardSaid : Prop := Claim7.holds Tryd.pinned (.plain (OpenSpec.ofChange linesListsSpec)) linesListsCard

/-- THE TIED CARD OF 'paddocklaw01.LinesTold'. -/
def linesToldCard : Claim7 := { stood := { row := linesToldRow, standIns := [], harness := (true, "713e8af770b0d7dfa83fa8a6e66c335ae1e9ea0ab4db148fc49e0f070b3ac18c"), looks := false }, kinds := [], alts := [], laidByText := true, laidKinds := [.data, .data], laidTests := true, laidLooks := .later }
def LinesToldCardSaid : Prop := Claim7.holds Tryd.pinned (.plain (OpenSpec.ofChange linesToldSpec)) linesToldCard

/-- THE SECOND FORM's CARD OF 'paddocklaw01.LinesSplits'. -/
def linesSplitsUptoCard : Claim7 := { stood := { row := linesSplitsUptoRow, standIns := [], harness := (true, "713e8af770b0d7dfa83fa8a6e66c335ae1e9ea0ab4db148fc49e0f070b3ac18c"), looks := false }, kinds := [], alts := [], laidByText := true, laidKinds := [.data, .data], laidTests := true, laidLooks := .later }
def LinesSplitsUptoCardSaid : Prop := Claim7.holds Tryd.pinned (.plain (OpenSpec.upto linesSplitsSpec)) linesSplitsUptoCard

/-- THE SECOND FORM's CARD OF 'paddocklaw01.LinesParts'. -/
def linesPartsUptoCard : Claim7 := { stood := { row := linesPartsUptoRow, standIns := [], harness := (true, "713e8af770b0d7dfa83fa8a6e66c335ae1e9ea0ab4db148fc49e0f070b3ac18c"), looks := false }, kinds := [], alts := [], laidByText := true, laidKinds := [.data, .data], laidTests := true, laidLooks := .later }
def LinesPartsUptoCardSaid : Prop := Claim7.holds Tryd.pinned (.plain (OpenSpec.upto linesPartsSpec)) linesPartsUptoCard

/-- THE SECOND FORM's CARD OF 'paddocklaw01.LinesBack'. -/
def linesBackUptoCard : Claim7 := { stood := { row := linesBackUptoRow, standIns := [], harness := (true, "713e8af770b0d7dfa83fa8a6e66c335ae1e9ea0ab4db148fc49e0f070b3ac18c"), looks := false }, kinds := [], alts := [], laidByText := true, laidKinds := [.data, .data], laidTests := true, laidLooks := .later }
def LinesBackUptoCardSaid : Prop := Claim7.holds Tryd.pinned (.plain (OpenSpec.upto linesBackSpec)) linesBackUptoCard

/-- THE SECOND FORM's CARD OF 'paddocklaw01.LinesQuotes'. -/
def linesQuotesUptoCard : Claim7 := { stood := { row := linesQuotesUptoRow, standIns := [], harness := (true, "713e8af770b0d7dfa83fa8a6e66c335ae1e9ea0ab4db148fc49e0f070b3ac18c"), looks := false }, kinds := [], alts := [], laidByText := true, laidKinds := [.data, .data], laidTests := true, laidLooks := .later }
def LinesQuotesUptoCardSaid : Prop := Claim7.holds Tryd.pinned (.plain (OpenSpec.upto linesQuotesSpec)) linesQuotesUptoCard

/-- THE SECOND FORM's CARD OF 'paddocklaw01.LinesLists'. -/
def linesListsUptoCard : Claim7 := { stood := { row := linesListsUptoRow, standIns := [], harness := (true, "713e8af770b0d7dfa83fa8a6e66c335ae1e9ea0ab4db148fc49e0f070b3ac18c"), looks := false }, kinds := [], alts := [], laidByText := true, laidKinds := [.data, .data], laidTests := true, laidLooks := .later }
def LinesListsUptoCardSaid : Prop := Claim7.holds Tryd.pinned (.plain (OpenSpec.upto linesListsSpec)) linesListsUptoCard

/-- THE SECOND FORM's CARD OF 'paddocklaw01.LinesTold'. -/
def linesToldUptoCard : Claim7 := { stood := { row := linesToldUptoRow, standIns := [], harness := (true, "713e8af770b0d7dfa83fa8a6e66c335ae1e9ea0ab4db148fc49e0f070b3ac18c"), looks := false }, kinds := [], alts := [], laidByText := true, laidKinds := [.data, .data], laidTests := true, laidLooks := .later }
def LinesToldUptoCardSaid : Prop := Claim7.holds Tryd.pinned (.plain (OpenSpec.upto linesToldSpec)) linesToldUptoCard
end Rows
end Go.Proofs.YtmbpebdceaihaaaDoor
