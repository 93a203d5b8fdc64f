/-
  DERIVED. GIVEN WITH THE SEED: THE CARDS: each row of YtcloljkaojnipaaGreatDoorRows.lean that lists a variable, with what it lists TIED to the program's text (the seventh form; the later family's looks); each row that meets fmt, with fmt's text TOLD by the authors' own Lean function (tested against real Go, not proved from fmt's source: count such statements apart). THE CARD IS WHAT COUNTS. Prove the row's statement (the work); the ties are given (YtcloljkaojnipaaGreatDoorTie.lean); close each card by the builder's one call (the guide's Derived/Test/ToyasCard.lean, 'card_holds'). Laid BY PROGRAM, IN A SANDBOX (cutbox-door.mjs). By AI agents, Wed Nov 11 2026. No macro, syntax, notation, axiom, sorry.
-/
import Derived.Test.YtcloljkaojnipaaGreatDoorRows
import GoSem.ClaimSeven
namespace Go.Proofs.YtcloljkaojnipaaGreatDoor
namespace Rows

/-- THE TIED CARD OF 'paddocklaw05.PolicyChecks'. -/
def policyChecksCard : Claim7 := { stood := { row := policyChecksRow, standIns := [], harness := (true, "66ab547f694564500cb559de895049e8a78e5b3ae26622decac886bb518f1c1f"), looks := true }, kinds := [], alts := [], laidByText := true, laidKinds := [.data, .data, .data, .sentinel, .sentinel, .data, .data], laidTests := true, laidLooks := .later }
def PolicyChecksCardSaid : Prop := Claim7.holds Tryz.pinned (.plain (OpenSpec.ofChange policyChecksSpec)) policyChecksCard

/-- THE TIED CARD OF 'paddocklaw05.PolicyMeets'. -/
def policyMeetsCard : Claim7 := { stood := { row := policyMeetsRow, standIns := [], harness := (true, "66ab547f694564500cb559de895049e8a78e5b3ae26622decac886bb518f1c1f"), looks := true }, kinds := [], alts := [], laidByText := true, laidKinds := [.data, .data, .data, .sentinel, .sentinel, .data, .data], laidTests := true, laidLooks := .later }
def PolicyMeetsCardSaid : Prop := Claim7.holds Tryz.pinned (.plain (OpenSpec.ofChange policyMeetsSpec)) policyMeetsCard

/-- THE TIED CARD OF 'paddocklaw05.PolicyTexts'. -/
def policyTextsCard : Claim7 := { stood := { row := policyTextsRow, standIns := [], harness := (true, "66ab547f694564500cb559de895049e8a78e5b3ae26622decac886bb518f1c1f"), looks := true }, kinds := [], alts := [], laidByText := true, laidKinds := [.data, .data, .data, .data, .sentinel, .sentinel, .data, .data], laidTests := true, laidLooks := .later }
def PolicyTextsCardSaid : Prop := Claim7.holds Tryz.pinned (.plain (OpenSpec.ofChange policyTextsSpec)) policyTextsCard

/-- THE TIED CARD OF 'paddocklaw05.PolicyBack'. -/
def policyBackCard : Claim7 := { stood := { row := policyBackRow, standIns := [], harness := (true, "66ab547f694564500cb559de895049e8a78e5b3ae26622decac886bb518f1c1f"), looks := true }, kinds := [], alts := [], laidByText := true, laidKinds := [.data, .data, .data, .sentinel, .sentinel, .data, .data], laidTests := true, laidLooks := .later }
def PolicyBackCardSaid : Prop := Claim7.holds Tryz.pinned (.plain (OpenSpec.ofChange policyBackSpec)) policyBackCard

/-- THE TIED CARD OF 'paddocklaw05.PolicyBoth'. -/
def policyBothCard : Claim7 := { stood := { row := policyBothRow, standIns := [], harness := (true, "66ab547f694564500cb559de895049e8a78e5b3ae26622decac886bb518f1c1f"), looks := true }, kinds := [], alts := [], laidByText := true, laidKinds := [.data, .data, .data, .sentinel, .sentinel, .data, .data], laidTests := true, laidLooks := .later }
def PolicyBothCardSaid : Prop := Claim7.holds Tryz.pinned (.plain (OpenSpec.ofChange policyBothSpec)) policyBothCard

/-- THE TIED CARD OF 'paddocklaw05.PolicyLess'. -/
def policyLessCard : Claim7 := { stood := { row := policyLessRow, standIns := [], harness := (true, "66ab547f694564500cb559de895049e8a78e5b3ae26622decac886bb518f1c1f"), looks := true }, kinds := [], alts := [], laidByText := true, laidKinds := [.data, .data, .data, .sentinel, .sentinel, .data, .data], laidTests := true, laidLooks := .later }
def PolicyLessCardSaid : Prop := Claim7.holds Tryz.pinned (.plain (OpenSpec.ofChange policyLessSpec)) policyLessCard

/-- THE SECOND FORM's CARD OF 'paddocklaw05.PolicyChecks'. -/
def policyChecksUptoCard : Claim7 := { stood := { row := policyChecksUptoRow, standIns := [], harness := (true, "66ab547f694564500cb559de895049e8a78e5b3ae26622decac886bb518f1c1f"), looks := true }, kinds := [], alts := [], laidByText := true, laidKinds := [.data, .data, .data, .sentinel, .sentinel, .data, .data], laidTests := true, laidLooks := .later }
def PolicyChecksUptoCardSaid : Prop := Claim7.holds Tryz.pinned (.plain (OpenSpec.upto policyChecksSpec)) policyChecksUptoCard

/-- THE SECOND FORM's CARD OF 'paddocklaw05.PolicyMeets'. -/
def policyMeetsUptoCard : Claim7 := { stood := { row := policyMeetsUptoRow, standIns := [], harness := (true, "66ab547f694564500cb559de895049e8a78e5b3ae26622decac886bb518f1c1f"), looks := true }, kinds := [], alts := [], laidByText := true, laidKinds := [.data, .data, .data, .sentinel, .sentinel, .data, .data], laidTests := true, laidLooks := .later }
def PolicyMeetsUptoCardSaid : Prop := Claim7.holds Tryz.pinned (.plain (OpenSpec.upto policyMeetsSpec)) policyMeetsUptoCard

/-- THE SECOND FORM's CARD OF 'paddocklaw05.PolicyTexts'. -/
def policyTextsUptoCard : Claim7 := { stood := { row := policyTextsUptoRow, standIns := [], harness := (true, "66ab547f694564500cb559de895049e8a78e5b3ae26622decac886bb518f1c1f"), looks := true }, kinds := [], alts := [], laidByText := true, laidKinds := [.data, .data, .data, .data, .sentinel, .sentinel, .data, .data], laidTests := true, laidLooks := .later }
def PolicyTextsUptoCardSaid : Prop := Claim7.holds Tryz.pinned (.plain (OpenSpec.upto policyTextsSpec)) policyTextsUptoCard

/-- THE SECOND FORM's CARD OF 'paddocklaw05.PolicyBack'. -/
def policyBackUptoCard : Claim7 := { stood := { row := policyBackUptoRow, standIns := [], harness := (true, "66ab547f694564500cb559de895049e8a78e5b3ae26622decac886bb518f1c1f"), looks := true }, kinds := [], alts := [], laidByText := true, laidKinds := [.data, .data, .data, .sentinel, .sentinel, .data, .data], laidTests := true, laidLooks := .later }
def PolicyBackUptoCardSaid : Prop := Claim7.holds Tryz.pinned (.plain (OpenSpec.upto policyBackSpec)) policyBackUptoCard

/-- THE SECOND FORM's CARD OF 'paddocklaw05.PolicyBoth'. -/
def policyBothUptoCard : Claim7 := { stood := { row := policyBothUptoRow, standIns := [], harness := (true, "66ab547f694564500cb559de895049e8a78e5b3ae26622decac886bb518f1c1f"), looks := true }, kinds := [], alts := [], laidByText := true, laidKinds := [.data, .data, .data, .sentinel, .sentinel, .data, .data], laidTests := true, laidLooks := .later }
def PolicyBothUptoCardSaid : Prop := Claim7.holds Tryz.pinned (.plain (OpenSpec.upto policyBothSpec)) policyBothUptoCard

/-- THE SECOND FORM's CARD OF 'paddocklaw05.PolicyLess'. -/
def policyLessUptoCard : Claim7 := { stood := { row := policyLessUptoRow, standIns := [], harness := (true, "66ab547f694564500cb559de895049e8a78e5b3ae26622decac886bb518f1c1f"), looks := true }, kinds := [], alts := [], laidByText := true, laidKinds := [.data, .data, .data, .sentinel, .sentinel, .data, .data], laidTests := true, laidLooks := .later }
def PolicyLessUptoCardSaid : Prop := Claim7.holds Tryz.pinned (.plain (OpenSpec.upto policyLessSpec)) policyLessUptoCard
end Rows
end Go.Proofs.YtcloljkaojnipaaGreatDoor
