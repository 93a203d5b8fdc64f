/-
  DERIVED. GIVEN WITH THE SEED: THE CARDS: each row of YtdiokclbdaojpaaDoorRows.lean that lists a variable, with what it lists TIED to the program's text (the seventh form; the later family's looks); each row that meets fmt, with fmt's text TOLD by the authors' own Lean function (tested against real Go, not proved from fmt's source: count such statements apart). THE CARD IS WHAT COUNTS. Prove the row's statement (the work); the ties are given (YtdiokclbdaojpaaDoorTie.lean); close each card by the builder's one call (the guide's Derived/Test/ToyasCard.lean, 'card_holds'). Laid BY PROGRAM, IN A SANDBOX (cutbox-door.mjs). By AI agents, Wed Nov 11 2026. No macro, syntax, notation, axiom, sorry.
-/
import Derived.Test.YtdiokclbdaojpaaDoorRows
import GoSem.ClaimSeven
namespace Go.Proofs.YtdiokclbdaojpaaDoor
namespace Rows

/-- THE TIED CARD OF 'paddocklaw10.NfaCompiles'. -/
def nfaCompilesCard : Claim7 := { stood := { row := nfaCompilesRow, standIns := [], harness := (true, "dfc1bcdde46a4d7293791fcd36df659051bb357ec46ab1e84d0e1e46188c75b3"), looks := false }, kinds := [], alts := [], laidByText := true, laidKinds := [.data, .data], laidTests := true, laidLooks := .later }
def NfaCompilesCardSaid : Prop := Claim7.holds Tryd.pinned (.plain (OpenSpec.ofChange nfaCompilesSpec)) nfaCompilesCard

/-- THE TIED CARD OF 'paddocklaw10.NfaRuns'. -/
def nfaRunsCard : Claim7 := { stood := { row := nfaRunsRow, standIns := [], harness := (true, "dfc1bcdde46a4d7293791fcd36df659051bb357ec46ab1e84d0e1e46188c75b3"), looks := false }, kinds := [], alts := [], laidByText := true, laidKinds := [.data, .data], laidTests := true, laidLooks := .later }
def NfaRunsCardSaid : Prop := Claim7.holds Tryd.pinned (.plain (OpenSpec.ofChange nfaRunsSpec)) nfaRunsCard

/-- THE TIED CARD OF 'paddocklaw10.NfaSizes'. -/
def nfaSizesCard : Claim7 := { stood := { row := nfaSizesRow, standIns := [], harness := (true, "dfc1bcdde46a4d7293791fcd36df659051bb357ec46ab1e84d0e1e46188c75b3"), looks := false }, kinds := [], alts := [], laidByText := true, laidKinds := [.data, .data], laidTests := true, laidLooks := .later }
def NfaSizesCardSaid : Prop := Claim7.holds Tryd.pinned (.plain (OpenSpec.ofChange nfaSizesSpec)) nfaSizesCard

/-- THE TIED CARD OF 'paddocklaw10.NfaLongest'. -/
def nfaLongestCard : Claim7 := { stood := { row := nfaLongestRow, standIns := [], harness := (true, "dfc1bcdde46a4d7293791fcd36df659051bb357ec46ab1e84d0e1e46188c75b3"), looks := false }, kinds := [], alts := [], laidByText := true, laidKinds := [.data, .data], laidTests := true, laidLooks := .later }
def NfaLongestCardSaid : Prop := Claim7.holds Tryd.pinned (.plain (OpenSpec.ofChange nfaLongestSpec)) nfaLongestCard

/-- THE TIED CARD OF 'paddocklaw10.NfaParts'. -/
def nfaPartsCard : Claim7 := { stood := { row := nfaPartsRow, standIns := [], harness := (true, "dfc1bcdde46a4d7293791fcd36df659051bb357ec46ab1e84d0e1e46188c75b3"), looks := false }, kinds := [], alts := [], laidByText := true, laidKinds := [.data, .data], laidTests := true, laidLooks := .later }
def NfaPartsCardSaid : Prop := Claim7.holds Tryd.pinned (.plain (OpenSpec.ofChange nfaPartsSpec)) nfaPartsCard

/-- THE TIED CARD OF 'paddocklaw10.NfaOwn'. -/
def nfaOwnCard : Claim7 := { stood := { row := nfaOwnRow, standIns := [], harness := (true, "dfc1bcdde46a4d7293791fcd36df659051bb357ec46ab1e84d0e1e46188c75b3"), looks := false }, kinds := [], alts := [], laidByText := true, laidKinds := [.data, .data], laidTests := true, laidLooks := .later }
def NfaOwnCardSaid : Prop := Claim7.holds Tryd.pinned (.plain (OpenSpec.ofChange nfaOwnSpec)) nfaOwnCard

/-- THE SECOND FORM's CARD OF 'paddocklaw10.NfaCompiles'. -/
def nfaCompilesUptoCard : Claim7 := { stood := { row := nfaCompilesUptoRow, standIns := [], harness := (true, "dfc1bcdde46a4d7293791fcd36df659051bb357ec46ab1e84d0e1e46188c75b3"), looks := false }, kinds := [], alts := [], laidByText := true, laidKinds := [.data, .data], laidTests := true, laidLooks := .later }
def NfaCompilesUptoCardSaid : Prop := Claim7.holds Tryd.pinned (.plain (OpenSpec.upto nfaCompilesSpec)) nfaCompilesUptoCard

/-- THE SECOND FORM's CARD OF 'paddocklaw10.NfaRuns'. -/
def nfaRunsUptoCard : Claim7 := { stood := { row := nfaRunsUptoRow, standIns := [], harness := (true, "dfc1bcdde46a4d7293791fcd36df659051bb357ec46ab1e84d0e1e46188c75b3"), looks := false }, kinds := [], alts := [], laidByText := true, laidKinds := [.data, .data], laidTests := true, laidLooks := .later }
def NfaRunsUptoCardSaid : Prop := Claim7.holds Tryd.pinned (.plain (OpenSpec.upto nfaRunsSpec)) nfaRunsUptoCard

/-- THE SECOND FORM's CARD OF 'paddocklaw10.NfaSizes'. -/
def nfaSizesUptoCard : Claim7 := { stood := { row := nfaSizesUptoRow, standIns := [], harness := (true, "dfc1bcdde46a4d7293791fcd36df659051bb357ec46ab1e84d0e1e46188c75b3"), looks := false }, kinds := [], alts := [], laidByText := true, laidKinds := [.data, .data], laidTests := true, laidLooks := .later }
def NfaSizesUptoCardSaid : Prop := Claim7.holds Tryd.pinned (.plain (OpenSpec.upto nfaSizesSpec)) nfaSizesUptoCard

/-- THE SECOND FORM's CARD OF 'paddocklaw10.NfaLongest'. -/
def nfaLongestUptoCard : Claim7 := { stood := { row := nfaLongestUptoRow, standIns := [], harness := (true, "dfc1bcdde46a4d7293791fcd36df659051bb357ec46ab1e84d0e1e46188c75b3"), looks := false }, kinds := [], alts := [], laidByText := true, laidKinds := [.data, .data], laidTests := true, laidLooks := .later }
def NfaLongestUptoCardSaid : Prop := Claim7.holds Tryd.pinned (.plain (OpenSpec.upto nfaLongestSpec)) nfaLongestUptoCard

/-- THE SECOND FORM's CARD OF 'paddocklaw10.NfaParts'. -/
def nfaPartsUptoCard : Claim7 := { stood := { row := nfaPartsUptoRow, standIns := [], harness := (true, "dfc1bcdde46a4d7293791fcd36df659051bb357ec46ab1e84d0e1e46188c75b3"), looks := false }, kinds := [], alts := [], laidByText := true, laidKinds := [.data, .data], laidTests := true, laidLooks := .later }
def NfaPartsUptoCardSaid : Prop := Claim7.holds Tryd.pinned (.plain (OpenSpec.upto nfaPartsSpec)) nfaPartsUptoCard

/-- THE SECOND FORM's CARD OF 'paddocklaw10.NfaOwn'. -/
def nfaOwnUptoCard : Claim7 := { stood := { row := nfaOwnUptoRow, standIns := [], harness := (true, "dfc1bcdde46a4d7293791fcd36df659051bb357ec46ab1e84d0e1e46188c75b3"), looks := false }, kinds := [], alts := [], laidByText := true, laidKinds := [.data, .data], laidTests := true, laidLooks := .later }
def NfaOwnUptoCardSaid : Prop := Claim7.holds Tryd.pinned (.plain (OpenSpec.upto nfaOwnSpec)) nfaOwnUptoCard
end Rows
end Go.Proofs.YtdiokclbdaojpaaDoor
