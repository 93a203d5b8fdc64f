/-
  NARROWER THAN 'FOR EVERY INPUT', by the rows' own cells (each row's printed sentence says how): LinesSplits: laid · LinesParts: laid · LinesBack: laid · LinesQuotes: laid · LinesLists: laid · LinesTold: laid.
  DERIVED. THE GIVEN ROWS OF THIS SEAT. 6 by the template 'for every input the law returns true; each argument reads behind the call as it read before'; 0 by the template 'total and deterministic' (their statements: YtmbpebdceaihaaaDoorTotals.lean).
  GIVEN WITH THE SEED: the statements are not yours to turn. If you find one false, say at which input.
  Laid BY PROGRAM, IN A SANDBOX (cutbox-rows.mjs): the forced cells as the released guide's own fill.sh prints them over the translation 82661f9a80376f90… (all of the seat's roots in one cut). By AI agents, Wed Nov 11 2026. No macro, syntax, notation, axiom, sorry.
-/
import Derived.Test.YtmbpebdceaihaaaDoorChecked
import GoSem.Claim
import GoSem.ClaimJoined
import GoSem.ClaimMapViews
import Derived.JoinedTies
import Derived.KernelRfl
namespace Go.Proofs.YtmbpebdceaihaaaDoor
/- THE CELL 'sum', in the pinned program and in every row, IS THE sha256 OF THE DUMP (.gsa) THAT YtmbpebdceaihaaaDoorProg.lean LOADS. Nothing in Lean hashes anything: it is a label: what it is worth is what the hold of that sum in a sandbox is worth. -/
noncomputable def Tryd.pinned : Pinned := { name := "ytmbpebdceaihaaadoor", sum := "82661f9a80376f90e1c27e71854dc661356daf00a8e4c3ef15ba72911b933202", checked := Tryd.checked }
namespace Rows
def none {H : Type} : Left H := { results := [], args := [] }

/- WHAT THE LISTED PACKAGE-LEVEL VARIABLES READ AS WHEN THE CALL BEGINS. Each datum BY PROGRAM (the guide's laid-datum.mjs) off the statement by which the dump's own 'gosem.cut.vars' lays the variable. In a bare row this is a premise. The card (YtmbpebdceaihaaaDoorCards.lean) ties it to the program's text. -/
def laid_paddock_lines_letters {H : Type} : DataW H := .agg [.lit (.int .u8 0), .lit (.int .u8 0), .lit (.int .u8 0), .lit (.int .u8 0), .lit (.int .u8 0), .lit (.int .u8 0), .lit (.int .u8 0), .lit (.int .u8 97), .lit (.int .u8 98), .lit (.int .u8 116), .lit (.int .u8 110), .lit (.int .u8 118), .lit (.int .u8 102), .lit (.int .u8 114)]
def laid_paddock_lines_octals {H : Type} : DataW H := .agg [.agg [.lit (.int .i64 0), .lit (.int .i64 6)], .agg [.lit (.int .i64 14), .lit (.int .i64 31)], .agg [.lit (.int .i64 127), .lit (.int .i64 255)]]

/-- 'paddocklaw01.LinesSplits': WHATEVER THE INPUT: true; the input reads as it did. -/
def linesSplitsSpec : ChangeSpec := { name := "linesSplits", fn := fun _ => fun
  | [d1, d2] => { results := [.lit (.bool true)], args := [d1, d2] }
  | _ => none }
def linesSplitsRow : OpenClaim := { program := "ytmbpebdceaihaaadoor", sum := "82661f9a80376f90e1c27e71854dc661356daf00a8e4c3ef15ba72911b933202", func := "paddock/paddocklaw01.LinesSplits", spec := "linesSplits", named := ["paddock/lines.letters", "paddock/lines.octals"], apart := false, laid := [("paddock/lines.letters", laid_paddock_lines_letters), ("paddock/lines.octals", laid_paddock_lines_octals)] }
def LinesSplitsSaid : Prop := linesSplitsRow.holds Tryd.pinned (OpenSpec.ofChange linesSplitsSpec)

/-- ITS FALSE NEIGHBOUR: 'it returns false'. Refute it at one input. -/
def linesSplitsWrong : ChangeSpec := { name := "linesSplits", fn := fun _ => fun
  | [d1, d2] => { results := [.lit (.bool false)], args := [d1, d2] }
  | _ => none }
def LinesSplitsWrongFalsely : Prop := linesSplitsRow.holds Tryd.pinned (OpenSpec.ofChange linesSplitsWrong)

/-- 'paddocklaw01.LinesParts': WHATEVER THE INPUT: true; the input reads as it did. -/
def linesPartsSpec : ChangeSpec := { name := "linesParts", fn := fun _ => fun
  | [d1, d2] => { results := [.lit (.bool true)], args := [d1, d2] }
  | _ => none }
def linesPartsRow : OpenClaim := { program := "ytmbpebdceaihaaadoor", sum := "82661f9a80376f90e1c27e71854dc661356daf00a8e4c3ef15ba72911b933202", func := "paddock/paddocklaw01.LinesParts", spec := "linesParts", named := ["paddock/lines.letters", "paddock/lines.octals"], apart := false, laid := [("paddock/lines.letters", laid_paddock_lines_letters), ("paddock/lines.octals", laid_paddock_lines_octals)] }
def LinesPartsSaid : Prop := linesPartsRow.holds Tryd.pinned (OpenSpec.ofChange linesPartsSpec)

/-- ITS FALSE NEIGHBOUR: 'it returns false'. Refute it at one input. -/
def linesPartsWrong : ChangeSpec := { name := "linesParts", fn := fun _ => fun
  | [d1, d2] => { results := [.lit (.bool false)], args := [d1, d2] }
  | _ => none }
def LinesPartsWrongFalsely : Prop := linesPartsRow.holds Tryd.pinned (OpenSpec.ofChange linesPartsWrong)

/-- 'paddocklaw01.LinesBack': WHATEVER THE INPUT: true; the input reads as it did. -/
def linesBackSpec : ChangeSpec := { name := "linesBack", fn := fun _ => fun
  | [d1, d2] => { results := [.lit (.bool true)], args := [d1, d2] }
  | _ => none }
def linesBackRow : OpenClaim := { program := "ytmbpebdceaihaaadoor", sum := "82661f9a80376f90e1c27e71854dc661356daf00a8e4c3ef15ba72911b933202", func := "paddock/paddocklaw01.LinesBack", spec := "linesBack", named := ["paddock/lines.letters", "paddock/lines.octals"], apart := false, laid := [("paddock/lines.letters", laid_paddock_lines_letters), ("paddock/lines.octals", laid_paddock_lines_octals)] }
def LinesBackSaid : Prop := linesBackRow.holds Tryd.pinned (OpenSpec.ofChange linesBackSpec)

/-- ITS FALSE NEIGHBOUR: 'it returns false'. Refute it at one input. -/
def linesBackWrong : ChangeSpec := { name := "linesBack", fn := fun _ => fun
  | [d1, d2] => { results := [.lit (.bool false)], args := [d1, d2] }
  | _ => none }
def LinesBackWrongFalsely : Prop := linesBackRow.holds Tryd.pinned (OpenSpec.ofChange linesBackWrong)

/-- 'paddocklaw01.LinesQuotes': WHATEVER THE INPUT: true; the input reads as it did. -/
def linesQuotesSpec : ChangeSpec := { name := "linesQuotes", fn := fun _ => fun
  | [d1, d2] => { results := [.lit (.bool true)], args := [d1, d2] }
  | _ => none }
def linesQuotesRow : OpenClaim := { program := "ytmbpebdceaihaaadoor", sum := "82661f9a80376f90e1c27e71854dc661356daf00a8e4c3ef15ba72911b933202", func := "paddock/paddocklaw01.LinesQuotes", spec := "linesQuotes", named := ["paddock/lines.letters", "paddock/lines.octals"], apart := false, laid := [("paddock/lines.letters", laid_paddock_lines_letters), ("paddock/lines.octals", laid_paddock_lines_octals)] }
def LinesQuotesSaid : Prop := linesQuotesRow.holds Tryd.pinned (OpenSpec.ofChange linesQuotesSpec)

/-- ITS FALSE NEIGHBOUR: 'it returns false'. Refute it at one input. -/
def linesQuotesWrong : ChangeSpec := { name := "linesQuotes", fn := fun _ => fun
  | [d1, d2] => { results := [.lit (.bool false)], args := [d1, d2] }
  | _ => none }
def LinesQuotesWrongFalsely : Prop := linesQuotesRow.holds Tryd.pinned (OpenSpec.ofChange linesQuotesWrong)

/-- 'paddocklaw01.LinesLists': WHATEVER THE INPUT: true; the input reads as it did. -/
def linesListsSpec : ChangeSpec := { name := "linesLists", fn := fun _ => fun
  | [d1, d2, d3] => { results := [.lit (.bool true)], args := [d1, d2, d3] }
  | _ => none }
def linesListsRow : OpenClaim := { program := "ytmbpebdceaihaaadoor", sum := "82661f9a80376f90e1c27e71854dc661356daf00a8e4c3ef15ba72911b933202", func := "paddock/paddocklaw01.LinesLists", spec := "linesLists", named := ["paddock/lines.letters", "paddock/lines.octals"], apart := false, laid := [("paddock/lines.letters", laid_paddock_lines_letters), ("paddock/lines.octals", laid_paddock_lines_octals)] }
def LinesListsSaid : Prop := linesListsRow.holds Tryd.pinned (OpenSpec.ofChange linesListsSpec)

/-- ITS FALSE NEIGHBOUR: 'it returns false'. Refute it at one input. -/
def linesListsWrong : ChangeSpec := { name := "linesLists", fn := fun _ => fun
  | [d1, d2, d3] => { results := [.lit (.bool false)], args := [d1, d2, d3] }
  | _ => none }
def LinesListsWrongFalsely : Prop := linesListsRow.holds Tryd.pinned (OpenSpec.ofChange linesListsWrong)

/-- 'paddocklaw01.LinesTold': WHATEVER THE INPUT: true; the input reads as it did. -/
def linesToldSpec : ChangeSpec := { name := "linesTold", fn := fun _ => fun
  | [d1, d2, d3] => { results := [.lit (.bool true)], args := [d1, d2, d3] }
  | _ => none }
def linesToldRow : OpenClaim := { program := "ytmbpebdceaihaaadoor", sum := "82661f9a80376f90e1c27e71854dc661356daf00a8e4c3ef15ba72911b933202", func := "paddock/paddocklaw01.LinesTold", spec := "linesTold", named := ["paddock/lines.letters", "paddock/lines.octals"], apart := false, laid := [("paddock/lines.letters", laid_paddock_lines_letters), ("paddock/lines.octals", laid_paddock_lines_octals)] }
def LinesToldSaid : Prop := linesToldRow.holds Tryd.pinned (OpenSpec.ofChange linesToldSpec)

/-- ITS FALSE NEIGHBOUR: 'it returns false'. Refute it at one input. -/
def linesToldWrong : ChangeSpec := { name := "linesTold", fn := fun _ => fun
  | [d1, d2, d3] => { results := [.lit (.bool false)], args := [d1, d2, d3] }
  | _ => none }
def LinesToldWrongFalsely : Prop := linesToldRow.holds Tryd.pinned (OpenSpec.ofChange linesToldWrong)

/- THE SECOND FORM. 'bulk': how many values and letters a reading holds, each counted each time it is reached (what is shared counts as often as it is met; a slice's spare places count too). A statement '..UptoSaid' is the law's where the arguments, and the package variables that the reading takes, are together of bulk at most 1048576: NARROWER than '..Said'. Prove '..Said' where nothing that the law and all that it calls make is longer than what came in: it says more and counts as full. Else prove '..UptoSaid'. A law counts once. -/
mutual
def uptoBulk {H : Type} : DataW H → Nat
  | .lit (.string bytes) => bytes.length + 1
  | .lit _ => 1
  | .nil => 1
  | .ptr d => uptoBulk d + 1
  | .slice elems spare => uptoBulkAll elems + uptoBulkAll spare + 1
  | .agg parts => uptoBulkAll parts + 1
  | .iface _ d => uptoBulk d + 1
  | .map entries => uptoBulkEntries entries + 1
  | .held _ => 1
def uptoBulkAll {H : Type} : List (DataW H) → Nat
  | [] => 0
  | d :: r => uptoBulk d + uptoBulkAll r
def uptoBulkEntries {H : Type} : List (Lit × DataW H) → Nat
  | [] => 0
  | x :: r => uptoBulkEntry x + uptoBulkEntries r
def uptoBulkEntry {H : Type} : Lit × DataW H → Nat
  | (.string bytes, d) => bytes.length + uptoBulk d + 1
  | (_, d) => uptoBulk d + 1
 end
def uptoSmall : (H : Type) → List (DataW H) → Bool := fun _ ds => decide (uptoBulkAll ds ≤ 1048576)
def OpenSpec.upto (s : _root_.Go.ChangeSpec) : _root_.Go.OpenSpec := { _root_.Go.OpenSpec.ofChange s with cond := some uptoSmall }

/-- 'paddocklaw01.LinesSplits', WHERE WHAT IT READS IS OF BULK AT MOST 1048576: true; the input reads as it did. -/
def linesSplitsUptoRow : OpenClaim := { program := "ytmbpebdceaihaaadoor", sum := "82661f9a80376f90e1c27e71854dc661356daf00a8e4c3ef15ba72911b933202", func := "paddock/paddocklaw01.LinesSplits", spec := "linesSplits", named := ["paddock/lines.letters", "paddock/lines.octals"], apart := false, laid := [("paddock/lines.letters", laid_paddock_lines_letters), ("paddock/lines.octals", laid_paddock_lines_octals)], narrowed := true }
def LinesSplitsUptoSaid : Prop := linesSplitsUptoRow.holds Tryd.pinned (OpenSpec.upto linesSplitsSpec)

/-- 'paddocklaw01.LinesParts', WHERE WHAT IT READS IS OF BULK AT MOST 1048576: true; the input reads as it did. -/
def linesPartsUptoRow : OpenClaim := { program := "ytmbpebdceaihaaadoor", sum := "82661f9a80376f90e1c27e71854dc661356daf00a8e4c3ef15ba72911b933202", func := "paddock/paddocklaw01.LinesParts", spec := "linesParts", named := ["paddock/lines.letters", "paddock/lines.octals"], apart := false, laid := [("paddock/lines.letters", laid_paddock_lines_letters), ("paddock/lines.octals", laid_paddock_lines_octals)], narrowed := true }
def LinesPartsUptoSaid : Prop := linesPartsUptoRow.holds Tryd.pinned (OpenSpec.upto linesPartsSpec)

/-- 'paddocklaw01.LinesBack', WHERE WHAT IT READS IS OF BULK AT MOST 1048576: true; the input reads as it did. -/
def linesBackUptoRow : OpenClaim := { program := "ytmbpebdceaihaaadoor", sum := "82661f9a80376f90e1c27e71854dc661356daf00a8e4c3ef15ba72911b933202", func := "paddock/paddocklaw01.LinesBack", spec := "linesBack", named := ["paddock/lines.letters", "paddock/lines.octals"], apart := false, laid := [("paddock/lines.letters", laid_paddock_lines_letters), ("paddock/lines.octals", laid_paddock_lines_octals)], narrowed := true }
def LinesBackUptoSaid : Prop := linesBackUptoRow.holds Tryd.pinned (OpenSpec.upto linesBackSpec)

/-- 'paddocklaw01.LinesQuotes', WHERE WHAT IT READS IS OF BULK AT MOST 1048576: true; the input reads as it did. -/
def linesQuotesUptoRow : OpenClaim := { program := "ytmbpebdceaihaaadoor", sum := "82661f9a80376f90e1c27e71854dc661356daf00a8e4c3ef15ba72911b933202", func := "paddock/paddocklaw01.LinesQuotes", spec := "linesQuotes", named := ["paddock/lines.letters", "paddock/lines.octals"], apart := false, laid := [("paddock/lines.letters", laid_paddock_lines_letters), ("paddock/lines.octals", laid_paddock_lines_octals)], narrowed := true }
def LinesQuotesUptoSaid : Prop := linesQuotesUptoRow.holds Tryd.pinned (OpenSpec.upto linesQuotesSpec)

/-- 'paddocklaw01.LinesLists', WHERE WHAT IT READS IS OF BULK AT MOST 1048576: true; the input reads as it did. -/
def linesListsUptoRow : OpenClaim := { program := "ytmbpebdceaihaaadoor", sum := "82661f9a80376f90e1c27e71854dc661356daf00a8e4c3ef15ba72911b933202", func := "paddock/paddocklaw01.LinesLists", spec := "linesLists", named := ["paddock/lines.letters", "paddock/lines.octals"], apart := false, laid := [("paddock/lines.letters", laid_paddock_lines_letters), ("paddock/lines.octals", laid_paddock_lines_octals)], narrowed := true }
def LinesListsUptoSaid : Prop := linesListsUptoRow.holds Tryd.pinned (OpenSpec.upto linesListsSpec)

/-- 'paddocklaw01.LinesTold', WHERE WHAT IT READS IS OF BULK AT MOST 1048576: true; the input reads as it did. -/
def linesToldUptoRow : OpenClaim := { program := "ytmbpebdceaihaaadoor", sum := "82661f9a80376f90e1c27e71854dc661356daf00a8e4c3ef15ba72911b933202", func := "paddock/paddocklaw01.LinesTold", spec := "linesTold", named := ["paddock/lines.letters", "paddock/lines.octals"], apart := false, laid := [("paddock/lines.letters", laid_paddock_lines_letters), ("paddock/lines.octals", laid_paddock_lines_octals)], narrowed := true }
def LinesToldUptoSaid : Prop := linesToldUptoRow.holds Tryd.pinned (OpenSpec.upto linesToldSpec)

end Rows
end Go.Proofs.YtmbpebdceaihaaaDoor
