/-
  DERIVED. GIVEN WITH THE SEED: THE CARDS: each row of YtpoimhkfajppmaaDoorRows.lean that lists a variable, with what it lists TIED to the program's text (the seventh form; the later family's looks); each row that meets fmt, with fmt's text TOLD by the authors' own Lean function (tested against real Go, not proved from fmt's source: count such statements apart). THE CARD IS WHAT COUNTS. Prove the row's statement (the work); the ties are given (YtpoimhkfajppmaaDoorTie.lean); close each card by the builder's one call (the guide's Derived/Test/ToyasCard.lean, 'card_holds'). Laid BY PROGRAM, IN A SANDBOX (cutbox-door.mjs). By AI agents, Wed Nov 11 2026. No macro, syntax, notation, axiom, sorry.
-/
import Derived.Test.YtpoimhkfajppmaaDoorRows
import GoSem.ClaimSeven
namespace Go.Proofs.YtpoimhkfajppmaaDoor
namespace Rows

/-- THE TIED CARD OF 'paddocklaw01.LinesDiffs'. -/
def linesDiffsCard : Claim7 := { stood := { row := linesDiffsRow, standIns := [], harness := (true, "9ddcdafcd90fcbdb277de7a7712d19c8ddc887d218fe167f9453fb74cc72fb9e"), looks := false }, kinds := [], alts := [], laidByText := true, laidKinds := [.data, .data, .data, .data, .data], laidTests := true, laidLooks := .later }
def LinesDiffsCardSaid : Prop := Claim7.holds Tryd.pinned (.plain (OpenSpec.ofChange linesDiffsSpec)) linesDiffsCard

/-- THE TIED CARD OF 'paddocklaw01.LinesUnified'. -/
def linesUnifiedCard : Claim7 := { stood := { row := linesUnifiedRow, standIns := [], harness := (true, "9ddcdafcd90fcbdb277de7a7712d19c8ddc887d218fe167f9453fb74cc72fb9e"), looks := false }, kinds := [], alts := [], laidByText := true, laidKinds := [.data, .data, .data, .data, .data], laidTests := true, laidLooks := .later }
def LinesUnifiedCardSaid : Prop := Claim7.holds Tryd.pinned (.plain (OpenSpec.ofChange linesUnifiedSpec)) linesUnifiedCard

/-- THE TIED CARD OF 'paddocklaw01.LinesChanged'. -/
def linesChangedCard : Claim7 := { stood := { row := linesChangedRow, standIns := [], harness := (true, "9ddcdafcd90fcbdb277de7a7712d19c8ddc887d218fe167f9453fb74cc72fb9e"), looks := false }, kinds := [], alts := [], laidByText := true, laidKinds := [.data, .data, .data, .data, .data], laidTests := true, laidLooks := .later }
def LinesChangedCardSaid : Prop := Claim7.holds Tryd.pinned (.plain (OpenSpec.ofChange linesChangedSpec)) linesChangedCard

/-- THE SECOND FORM's CARD OF 'paddocklaw01.LinesDiffs'. -/
def linesDiffsUptoCard : Claim7 := { stood := { row := linesDiffsUptoRow, standIns := [], harness := (true, "9ddcdafcd90fcbdb277de7a7712d19c8ddc887d218fe167f9453fb74cc72fb9e"), looks := false }, kinds := [], alts := [], laidByText := true, laidKinds := [.data, .data, .data, .data, .data], laidTests := true, laidLooks := .later }
def LinesDiffsUptoCardSaid : Prop := Claim7.holds Tryd.pinned (.plain (OpenSpec.upto linesDiffsSpec)) linesDiffsUptoCard

/-- THE SECOND FORM's CARD OF 'paddocklaw01.LinesUnified'. -/
def linesUnifiedUptoCard : Claim7 := { stood := { row := linesUnifiedUptoRow, standIns := [], harness := (true, "9ddcdafcd90fcbdb277de7a7712d19c8ddc887d218fe167f9453fb74cc72fb9e"), looks := false }, kinds := [], alts := [], laidByText := true, laidKinds := [.data, .data, .data, .data, .data], laidTests := true, laidLooks := .later }
def LinesUnifiedUptoCardSaid : Prop := Claim7.holds Tryd.pinned (.plain (OpenSpec.upto linesUnifiedSpec)) linesUnifiedUptoCard

/-- THE SECOND FORM's CARD OF 'paddocklaw01.LinesChanged'. -/
def linesChangedUptoCard : Claim7 := { stood := { row := linesChangedUptoRow, standIns := [], harness := (true, "9ddcdafcd90fcbdb277de7a7712d19c8ddc887d218fe167f9453fb74cc72fb9e"), looks := false }, kinds := [], alts := [], laidByText := true, laidKinds := [.data, .data, .data, .data, .data], laidTests := true, laidLooks := .later }
def LinesChangedUptoCardSaid : Prop := Claim7.holds Tryd.pinned (.plain (OpenSpec.upto linesChangedSpec)) linesChangedUptoCard
end Rows
end Go.Proofs.YtpoimhkfajppmaaDoor
