/-
  NARROWER THAN 'FOR EVERY INPUT', by the rows' own cells (each row's printed sentence says how): NfaCompiles: loops, laid · NfaRuns: laid · NfaSizes: loops, laid · NfaLongest: laid · NfaParts: loops, laid · NfaOwn: loops, laid.
  DERIVED. THE GIVEN ROWS OF THIS SEAT. 6 by the template 'for every input the law returns true; each argument reads behind the call as it read before'; 0 by the template 'total and deterministic' (their statements: YtdiokclbdaojpaaDoorTotals.lean).
  GIVEN WITH THE SEED: the statements are not yours to turn. If you find one false, say at which input.
  Laid BY PROGRAM, IN A SANDBOX (cutbox-rows.mjs): the forced cells as the released guide's own fill.sh prints them over the translation 2fc5a097d257d6b9… (all of the seat's roots in one cut). By AI agents, Wed Nov 11 2026. No macro, syntax, notation, axiom, sorry.
-/
import Derived.Test.YtdiokclbdaojpaaDoorChecked
import GoSem.Claim
import GoSem.ClaimJoined
import GoSem.ClaimMapViews
import Derived.JoinedTies
import Derived.KernelRfl
namespace Go.Proofs.YtdiokclbdaojpaaDoor
/- THE CELL 'sum', in the pinned program and in every row, IS THE sha256 OF THE DUMP (.gsa) THAT YtdiokclbdaojpaaDoorProg.lean LOADS. Nothing in Lean hashes anything: it is a label: what it is worth is what the hold of that sum in a sandbox is worth. -/
noncomputable def Tryd.pinned : Pinned := { name := "ytdiokclbdaojpaadoor", sum := "2fc5a097d257d6b9cefd0a072e1698c0a6563f61161b00cb6116c7a739187f63", checked := Tryd.checked }
namespace Rows
def none {H : Type} : Left H := { results := [], args := [] }

/- WHAT THE LISTED PACKAGE-LEVEL VARIABLES READ AS WHEN THE CALL BEGINS. Each datum BY PROGRAM (the guide's laid-datum.mjs) off the statement by which the dump's own 'gosem.cut.vars' lays the variable. In a bare row this is a premise. The card (YtdiokclbdaojpaaDoorCards.lean) ties it to the program's text. -/
def laid_paddock_posix_shapes {H : Type} : DataW H := .agg [.agg [.lit (.bool false), .lit (.bool false), .lit (.bool false), .lit (.int .i64 1), .lit (.int .i64 0)], .agg [.lit (.bool false), .lit (.bool false), .lit (.bool false), .lit (.int .i64 0), .lit (.int .i64 0)], .agg [.lit (.bool true), .lit (.bool false), .lit (.bool false), .lit (.int .i64 0), .lit (.int .i64 0)], .agg [.lit (.bool false), .lit (.bool false), .lit (.bool false), .lit (.int .i64 2), .lit (.int .i64 8192)], .agg [.lit (.bool false), .lit (.bool false), .lit (.bool false), .lit (.int .i64 2), .lit (.int .i64 8192)], .agg [.lit (.bool false), .lit (.bool true), .lit (.bool false), .lit (.int .i64 1), .lit (.int .i64 1)], .agg [.lit (.bool false), .lit (.bool false), .lit (.bool true), .lit (.int .i64 1), .lit (.int .i64 1)], .agg [.lit (.bool false), .lit (.bool false), .lit (.bool true), .lit (.int .i64 0), .lit (.int .i64 0)], .agg [.lit (.bool false), .lit (.bool false), .lit (.bool false), .lit (.int .i64 0), .lit (.int .i64 0)], .agg [.lit (.bool false), .lit (.bool false), .lit (.bool false), .lit (.int .i64 0), .lit (.int .i64 0)]]
def laid_paddock_nfa_fields {H : Type} : DataW H := .agg [.agg [.lit (.bool false), .lit (.bool false), .lit (.bool false), .lit (.bool false), .lit (.bool false), .lit (.bool false)], .agg [.lit (.bool true), .lit (.bool true), .lit (.bool false), .lit (.bool false), .lit (.bool false), .lit (.bool false)], .agg [.lit (.bool true), .lit (.bool false), .lit (.bool true), .lit (.bool false), .lit (.bool false), .lit (.bool false)], .agg [.lit (.bool true), .lit (.bool false), .lit (.bool true), .lit (.bool false), .lit (.bool false), .lit (.bool false)], .agg [.lit (.bool true), .lit (.bool false), .lit (.bool false), .lit (.bool true), .lit (.bool false), .lit (.bool false)], .agg [.lit (.bool true), .lit (.bool false), .lit (.bool false), .lit (.bool true), .lit (.bool false), .lit (.bool false)], .agg [.lit (.bool true), .lit (.bool false), .lit (.bool false), .lit (.bool true), .lit (.bool true), .lit (.bool false)], .agg [.lit (.bool true), .lit (.bool false), .lit (.bool false), .lit (.bool false), .lit (.bool false), .lit (.bool true)], .agg [.lit (.bool true), .lit (.bool false), .lit (.bool false), .lit (.bool false), .lit (.bool false), .lit (.bool true)], .agg [.lit (.bool true), .lit (.bool false), .lit (.bool false), .lit (.bool true), .lit (.bool false), .lit (.bool false)], .agg [.lit (.bool true), .lit (.bool false), .lit (.bool false), .lit (.bool false), .lit (.bool false), .lit (.bool false)], .agg [.lit (.bool true), .lit (.bool false), .lit (.bool false), .lit (.bool false), .lit (.bool false), .lit (.bool false)], .agg [.lit (.bool true), .lit (.bool false), .lit (.bool false), .lit (.bool false), .lit (.bool false), .lit (.bool false)]]

/-- 'paddocklaw10.NfaCompiles': WHATEVER THE INPUT: true; the input reads as it did. -/
def nfaCompilesSpec : ChangeSpec := { name := "nfaCompiles", fn := fun _ => fun
  | [d] => { results := [.lit (.bool true)], args := [d] }
  | _ => none }
def nfaCompilesRow : OpenClaim := { program := "ytdiokclbdaojpaadoor", sum := "2fc5a097d257d6b9cefd0a072e1698c0a6563f61161b00cb6116c7a739187f63", func := "paddock/paddocklaw10.NfaCompiles", spec := "nfaCompiles", unfollowed := true, recurses := true, named := ["paddock/posix.shapes", "paddock/nfa.fields"], loops := true, apart := false, laid := [("paddock/posix.shapes", laid_paddock_posix_shapes), ("paddock/nfa.fields", laid_paddock_nfa_fields)] }
def NfaCompilesSaid : Prop := nfaCompilesRow.holds Tryd.pinned (OpenSpec.ofChange nfaCompilesSpec)

/-- ITS FALSE NEIGHBOUR: 'it returns false'. Refute it at one input. -/
def nfaCompilesWrong : ChangeSpec := { name := "nfaCompiles", fn := fun _ => fun
  | [d] => { results := [.lit (.bool false)], args := [d] }
  | _ => none }
def NfaCompilesWrongFalsely : Prop := nfaCompilesRow.holds Tryd.pinned (OpenSpec.ofChange nfaCompilesWrong)

/-- 'paddocklaw10.NfaRuns': WHATEVER THE INPUT: true; the input reads as it did. -/
def nfaRunsSpec : ChangeSpec := { name := "nfaRuns", fn := fun _ => fun
  | [d1, d2, d3] => { results := [.lit (.bool true)], args := [d1, d2, d3] }
  | _ => none }
def nfaRunsRow : OpenClaim := { program := "ytdiokclbdaojpaadoor", sum := "2fc5a097d257d6b9cefd0a072e1698c0a6563f61161b00cb6116c7a739187f63", func := "paddock/paddocklaw10.NfaRuns", spec := "nfaRuns", unfollowed := true, recurses := true, named := ["paddock/nfa.fields", "paddock/posix.shapes"], apart := false, laid := [("paddock/posix.shapes", laid_paddock_posix_shapes), ("paddock/nfa.fields", laid_paddock_nfa_fields)] }
def NfaRunsSaid : Prop := nfaRunsRow.holds Tryd.pinned (OpenSpec.ofChange nfaRunsSpec)

/-- ITS FALSE NEIGHBOUR: 'it returns false'. Refute it at one input. -/
def nfaRunsWrong : ChangeSpec := { name := "nfaRuns", fn := fun _ => fun
  | [d1, d2, d3] => { results := [.lit (.bool false)], args := [d1, d2, d3] }
  | _ => none }
def NfaRunsWrongFalsely : Prop := nfaRunsRow.holds Tryd.pinned (OpenSpec.ofChange nfaRunsWrong)

/-- 'paddocklaw10.NfaSizes': WHATEVER THE INPUT: true; the input reads as it did. -/
def nfaSizesSpec : ChangeSpec := { name := "nfaSizes", fn := fun _ => fun
  | [d] => { results := [.lit (.bool true)], args := [d] }
  | _ => none }
def nfaSizesRow : OpenClaim := { program := "ytdiokclbdaojpaadoor", sum := "2fc5a097d257d6b9cefd0a072e1698c0a6563f61161b00cb6116c7a739187f63", func := "paddock/paddocklaw10.NfaSizes", spec := "nfaSizes", unfollowed := true, recurses := true, named := ["paddock/posix.shapes", "paddock/nfa.fields"], loops := true, apart := false, laid := [("paddock/posix.shapes", laid_paddock_posix_shapes), ("paddock/nfa.fields", laid_paddock_nfa_fields)] }
def NfaSizesSaid : Prop := nfaSizesRow.holds Tryd.pinned (OpenSpec.ofChange nfaSizesSpec)

/-- ITS FALSE NEIGHBOUR: 'it returns false'. Refute it at one input. -/
def nfaSizesWrong : ChangeSpec := { name := "nfaSizes", fn := fun _ => fun
  | [d] => { results := [.lit (.bool false)], args := [d] }
  | _ => none }
def NfaSizesWrongFalsely : Prop := nfaSizesRow.holds Tryd.pinned (OpenSpec.ofChange nfaSizesWrong)

/-- 'paddocklaw10.NfaLongest': WHATEVER THE INPUT: true; the input reads as it did. -/
def nfaLongestSpec : ChangeSpec := { name := "nfaLongest", fn := fun _ => fun
  | [d1, d2, d3] => { results := [.lit (.bool true)], args := [d1, d2, d3] }
  | _ => none }
def nfaLongestRow : OpenClaim := { program := "ytdiokclbdaojpaadoor", sum := "2fc5a097d257d6b9cefd0a072e1698c0a6563f61161b00cb6116c7a739187f63", func := "paddock/paddocklaw10.NfaLongest", spec := "nfaLongest", unfollowed := true, recurses := true, named := ["paddock/posix.shapes", "paddock/nfa.fields"], apart := false, laid := [("paddock/posix.shapes", laid_paddock_posix_shapes), ("paddock/nfa.fields", laid_paddock_nfa_fields)] }
def NfaLongestSaid : Prop := nfaLongestRow.holds Tryd.pinned (OpenSpec.ofChange nfaLongestSpec)

/-- ITS FALSE NEIGHBOUR: 'it returns false'. Refute it at one input. -/
def nfaLongestWrong : ChangeSpec := { name := "nfaLongest", fn := fun _ => fun
  | [d1, d2, d3] => { results := [.lit (.bool false)], args := [d1, d2, d3] }
  | _ => none }
def NfaLongestWrongFalsely : Prop := nfaLongestRow.holds Tryd.pinned (OpenSpec.ofChange nfaLongestWrong)

/-- 'paddocklaw10.NfaParts': WHATEVER THE INPUT: true; the input reads as it did. -/
def nfaPartsSpec : ChangeSpec := { name := "nfaParts", fn := fun _ => fun
  | [d1, d2, d3, d4] => { results := [.lit (.bool true)], args := [d1, d2, d3, d4] }
  | _ => none }
def nfaPartsRow : OpenClaim := { program := "ytdiokclbdaojpaadoor", sum := "2fc5a097d257d6b9cefd0a072e1698c0a6563f61161b00cb6116c7a739187f63", func := "paddock/paddocklaw10.NfaParts", spec := "nfaParts", unfollowed := true, recurses := true, named := ["paddock/posix.shapes", "paddock/nfa.fields"], loops := true, apart := false, laid := [("paddock/posix.shapes", laid_paddock_posix_shapes), ("paddock/nfa.fields", laid_paddock_nfa_fields)] }
def NfaPartsSaid : Prop := nfaPartsRow.holds Tryd.pinned (OpenSpec.ofChange nfaPartsSpec)

/-- ITS FALSE NEIGHBOUR: 'it returns false'. Refute it at one input. -/
def nfaPartsWrong : ChangeSpec := { name := "nfaParts", fn := fun _ => fun
  | [d1, d2, d3, d4] => { results := [.lit (.bool false)], args := [d1, d2, d3, d4] }
  | _ => none }
def NfaPartsWrongFalsely : Prop := nfaPartsRow.holds Tryd.pinned (OpenSpec.ofChange nfaPartsWrong)

/-- 'paddocklaw10.NfaOwn': WHATEVER THE INPUT: true; the input reads as it did. -/
def nfaOwnSpec : ChangeSpec := { name := "nfaOwn", fn := fun _ => fun
  | [d1, d2] => { results := [.lit (.bool true)], args := [d1, d2] }
  | _ => none }
def nfaOwnRow : OpenClaim := { program := "ytdiokclbdaojpaadoor", sum := "2fc5a097d257d6b9cefd0a072e1698c0a6563f61161b00cb6116c7a739187f63", func := "paddock/paddocklaw10.NfaOwn", spec := "nfaOwn", unfollowed := true, recurses := true, named := ["paddock/posix.shapes", "paddock/nfa.fields"], loops := true, apart := false, laid := [("paddock/posix.shapes", laid_paddock_posix_shapes), ("paddock/nfa.fields", laid_paddock_nfa_fields)] }
def NfaOwnSaid : Prop := nfaOwnRow.holds Tryd.pinned (OpenSpec.ofChange nfaOwnSpec)

/-- ITS FALSE NEIGHBOUR: 'it returns false'. Refute it at one input. -/
def nfaOwnWrong : ChangeSpec := { name := "nfaOwn", fn := fun _ => fun
  | [d1, d2] => { results := [.lit (.bool false)], args := [d1, d2] }
  | _ => none }
def NfaOwnWrongFalsely : Prop := nfaOwnRow.holds Tryd.pinned (OpenSpec.ofChange nfaOwnWrong)

/- THE SECOND FORM. 'bulk': how many values and letters a reading holds, each counted each time it is reached (what is shared counts as often as it is met; a slice's spare places count too). A statement '..UptoSaid' is the law's where the arguments, and the package variables that the reading takes, are together of bulk at most 1048576: NARROWER than '..Said'. Prove '..Said' where nothing that the law and all that it calls make is longer than what came in: it says more and counts as full. Else prove '..UptoSaid'. A law counts once. -/
mutual
def uptoBulk {H : Type} : DataW H → Nat
  | .lit (.string bytes) => bytes.length + 1
  | .lit _ => 1
  | .nil => 1
  | .ptr d => uptoBulk d + 1
  | .slice elems spare => uptoBulkAll elems + uptoBulkAll spare + 1
  | .agg parts => uptoBulkAll parts + 1
  | .iface _ d => uptoBulk d + 1
  | .map entries => uptoBulkEntries entries + 1
  | .held _ => 1
def uptoBulkAll {H : Type} : List (DataW H) → Nat
  | [] => 0
  | d :: r => uptoBulk d + uptoBulkAll r
def uptoBulkEntries {H : Type} : List (Lit × DataW H) → Nat
  | [] => 0
  | x :: r => uptoBulkEntry x + uptoBulkEntries r
def uptoBulkEntry {H : Type} : Lit × DataW H → Nat
  | (.string bytes, d) => bytes.length + uptoBulk d + 1
  | (_, d) => uptoBulk d + 1
 end
def uptoSmall : (H : Type) → List (DataW H) → Bool := fun _ ds => decide (uptoBulkAll ds ≤ 1048576)
def OpenSpec.upto (s : _root_.Go.ChangeSpec) : _root_.Go.OpenSpec := { _root_.Go.OpenSpec.ofChange s with cond := some uptoSmall }

/-- 'paddocklaw10.NfaCompiles', WHERE WHAT IT READS IS OF BULK AT MOST 1048576: true; the input reads as it did. -/
def nfaCompilesUptoRow : OpenClaim := { program := "ytdiokclbdaojpaadoor", sum := "2fc5a097d257d6b9cefd0a072e1698c0a6563f61161b00cb6116c7a739187f63", func := "paddock/paddocklaw10.NfaCompiles", spec := "nfaCompiles", unfollowed := true, recurses := true, named := ["paddock/posix.shapes", "paddock/nfa.fields"], loops := true, apart := false, laid := [("paddock/posix.shapes", laid_paddock_posix_shapes), ("paddock/nfa.fields", laid_paddock_nfa_fields)], narrowed := true }
def NfaCompilesUptoSaid : Prop := nfaCompilesUptoRow.holds Tryd.pinned (OpenSpec.upto nfaCompilesSpec)

/-- 'paddocklaw10.NfaRuns', WHERE WHAT IT READS IS OF BULK AT MOST 1048576: true; the input reads as it did. -/
def nfaRunsUptoRow : OpenClaim := { program := "ytdiokclbdaojpaadoor", sum := "2fc5a097d257d6b9cefd0a072e1698c0a6563f61161b00cb6116c7a739187f63", func := "paddock/paddocklaw10.NfaRuns", spec := "nfaRuns", unfollowed := true, recurses := true, named := ["paddock/nfa.fields", "paddock/posix.shapes"], apart := false, laid := [("paddock/posix.shapes", laid_paddock_posix_shapes), ("paddock/nfa.fields", laid_paddock_nfa_fields)], narrowed := true }
def NfaRunsUptoSaid : Prop := nfaRunsUptoRow.holds Tryd.pinned (OpenSpec.upto nfaRunsSpec)

/-- 'paddocklaw10.NfaSizes', WHERE WHAT IT READS IS OF BULK AT MOST 1048576: true; the input reads as it did. -/
def nfaSizesUptoRow : OpenClaim := { program := "ytdiokclbdaojpaadoor", sum := "2fc5a097d257d6b9cefd0a072e1698c0a6563f61161b00cb6116c7a739187f63", func := "paddock/paddocklaw10.NfaSizes", spec := "nfaSizes", unfollowed := true, recurses := true, named := ["paddock/posix.shapes", "paddock/nfa.fields"], loops := true, apart := false, laid := [("paddock/posix.shapes", laid_paddock_posix_shapes), ("paddock/nfa.fields", laid_paddock_nfa_fields)], narrowed := true }
def NfaSizesUptoSaid : Prop := nfaSizesUptoRow.holds Tryd.pinned (OpenSpec.upto nfaSizesSpec)

/-- 'paddocklaw10.NfaLongest', WHERE WHAT IT READS IS OF BULK AT MOST 1048576: true; the input reads as it did. -/
def nfaLongestUptoRow : OpenClaim := { program := "ytdiokclbdaojpaadoor", sum := "2fc5a097d257d6b9cefd0a072e1698c0a6563f61161b00cb6116c7a739187f63", func := "paddock/paddocklaw10.NfaLongest", spec := "nfaLongest", unfollowed := true, recurses := true, named := ["paddock/posix.shapes", "paddock/nfa.fields"], apart := false, laid := [("paddock/posix.shapes", laid_paddock_posix_shapes), ("paddock/nfa.fields", laid_paddock_nfa_fields)], narrowed := true }
def NfaLongestUptoSaid : Prop := nfaLongestUptoRow.holds Tryd.pinned (OpenSpec.upto nfaLongestSpec)

/-- 'paddocklaw10.NfaParts', WHERE WHAT IT READS IS OF BULK AT MOST 1048576: true; the input reads as it did. -/
def nfaPartsUptoRow : OpenClaim := { program := "ytdiokclbdaojpaadoor", sum := "2fc5a097d257d6b9cefd0a072e1698c0a6563f61161b00cb6116c7a739187f63", func := "paddock/paddocklaw10.NfaParts", spec := "nfaParts", unfollowed := true, recurses := true, named := ["paddock/posix.shapes", "paddock/nfa.fields"], loops := true, apart := false, laid := [("paddock/posix.shapes", laid_paddock_posix_shapes), ("paddock/nfa.fields", laid_paddock_nfa_fields)], narrowed := true }
def NfaPartsUptoSaid : Prop := nfaPartsUptoRow.holds Tryd.pinned (OpenSpec.upto nfaPartsSpec)

/-- 'paddocklaw10.NfaOwn', WHERE WHAT IT READS IS OF BULK AT MOST 1048576: true; the input reads as it did. -/
def nfaOwnUptoRow : OpenClaim := { program := "ytdiokclbdaojpaadoor", sum := "2fc5a097d257d6b9cefd0a072e1698c0a6563f61161b00cb6116c7a739187f63", func := "paddock/paddocklaw10.NfaOwn", spec := "nfaOwn", unfollowed := true, recurses := true, named := ["paddock/posix.shapes", "paddock/nfa.fields"], loops := true, apart := false, laid := [("paddock/posix.shapes", laid_paddock_posix_shapes), ("paddock/nfa.fields", laid_paddock_nfa_fields)], narrowed := true }
def NfaOwnUptoSaid : Prop := nfaOwnUptoRow.holds Tryd.pinned (OpenSpec.upto nfaOwnSpec)

end Rows
end Go.Proofs.YtdiokclbdaojpaaDoor
