/-
  No cell of these rows narrows 'for every input' (looked for: loops, veiled, ifaces, maps, wideKeys, modest, calm, conditions, laid).
  DERIVED. THE GIVEN ROWS OF THIS SEAT. 2 by the template 'for every input the law returns true; each argument reads behind the call as it read before'; 0 by the template 'total and deterministic' (their statements: YtmbpebdceaihaabTotals.lean).
  GIVEN WITH THE SEED: the statements are not yours to turn. If you find one false, say at which input.
  Laid BY PROGRAM, IN A SANDBOX (cutbox-rows.mjs): the forced cells as the released guide's own fill.sh prints them over the translation 5ea4992833506ef0… (all of the seat's roots in one cut). By AI agents, Wed Nov 11 2026. No macro, syntax, notation, axiom, sorry.
-/
import Derived.Test.YtmbpebdceaihaabChecked
import GoSem.Claim
import GoSem.ClaimJoined
import GoSem.ClaimMapViews
import Derived.JoinedTies
import Derived.KernelRfl
namespace Go.Proofs.Ytmbpebdceaihaab
/- THE CELL 'sum', in the pinned program and in every row, IS THE sha256 OF THE DUMP (.gsa) THAT YtmbpebdceaihaabProg.lean LOADS. Nothing in Lean hashes anything: it is a label: what it is worth is what the hold of that sum in a sandbox is worth. -/
noncomputable def Try.pinned : Pinned := { name := "ytmbpebdceaihaab", sum := "5ea4992833506ef078e7186ecfe53490965507a4c76c28a414df84f45b135830", checked := Try.checked }
namespace Rows
def none {H : Type} : Left H := { results := [], args := [] }

/-- 'paddocklaw02.PathsCovers': WHATEVER THE INPUT: true; the input reads as it did. -/
def pathsCoversSpec : ChangeSpec := { name := "pathsCovers", fn := fun _ => fun
  | [d1, d2, d3] => { results := [.lit (.bool true)], args := [d1, d2, d3] }
  | _ => none }
def pathsCoversRow : OpenClaim := { program := "ytmbpebdceaihaab", sum := "5ea4992833506ef078e7186ecfe53490965507a4c76c28a414df84f45b135830", func := "paddock/paddocklaw02.PathsCovers", spec := "pathsCovers", unfollowed := true, recurses := true, apart := false }
def PathsCoversSaid : Prop := pathsCoversRow.holds Try.pinned (OpenSpec.ofChange pathsCoversSpec)

/-- ITS FALSE NEIGHBOUR: 'it returns false'. Refute it at one input. -/
def pathsCoversWrong : ChangeSpec := { name := "pathsCovers", fn := fun _ => fun
  | [d1, d2, d3] => { results := [.lit (.bool false)], args := [d1, d2, d3] }
  | _ => none }
def PathsCoversWrongFalsely : Prop := pathsCoversRow.holds Try.pinned (OpenSpec.ofChange pathsCoversWrong)

/-- 'paddocklaw02.PathsCover': WHATEVER THE INPUT: true; the input reads as it did. -/
def pathsCoverSpec : ChangeSpec := { name := "pathsCover", fn := fun _ => fun
  | [d1, d2] => { results := [.lit (.bool true)], args := [d1, d2] }
  | _ => none }
def pathsCoverRow : OpenClaim := { program := "ytmbpebdceaihaab", sum := "5ea4992833506ef078e7186ecfe53490965507a4c76c28a414df84f45b135830", func := "paddock/paddocklaw02.PathsCover", spec := "pathsCover", unfollowed := true, recurses := true, apart := false }
def PathsCoverSaid : Prop := pathsCoverRow.holds Try.pinned (OpenSpec.ofChange pathsCoverSpec)

/-- ITS FALSE NEIGHBOUR: 'it returns false'. Refute it at one input. -/
def pathsCoverWrong : ChangeSpec := { name := "pathsCover", fn := fun _ => fun
  | [d1, d2] => { results := [.lit (.bool false)], args := [d1, d2] }
  | _ => none }
def PathsCoverWrongFalsely : Prop := pathsCoverRow.holds Try.pinned (OpenSpec.ofChange pathsCoverWrong)

/- THE SECOND FORM. 'bulk': how many values and letters a reading holds, each counted each time it is reached (what is shared counts as often as it is met; a slice's spare places count too). A statement '..UptoSaid' is the law's where the arguments, and the package variables that the reading takes, are together of bulk at most 1048576: NARROWER than '..Said'. Prove '..Said' where nothing that the law and all that it calls make is longer than what came in: it says more and counts as full. Else prove '..UptoSaid'. A law counts once. -/
mutual
def uptoBulk {H : Type} : DataW H → Nat
  | .lit (.string bytes) => bytes.length + 1
  | .lit _ => 1
  | .nil => 1
  | .ptr d => uptoBulk d + 1
  | .slice elems spare => uptoBulkAll elems + uptoBulkAll spare + 1
  | .agg parts => uptoBulkAll parts + 1
  | .iface _ d => uptoBulk d + 1
  | .map entries => uptoBulkEntries entries + 1
  | .held _ => 1
def uptoBulkAll {H : Type} : List (DataW H) → Nat
  | [] => 0
  | d :: r => uptoBulk d + uptoBulkAll r
def uptoBulkEntries {H : Type} : List (Lit × DataW H) → Nat
  | [] => 0
  | x :: r => uptoBulkEntry x + uptoBulkEntries r
def uptoBulkEntry {H : Type} : Lit × DataW H → Nat
  | (.string bytes, d) => bytes.length + uptoBulk d + 1
  | (_, d) => uptoBulk d + 1
 end
def uptoSmall : (H : Type) → List (DataW H) → Bool := fun _ ds => decide (uptoBulkAll ds ≤ 1048576)
def OpenSpec.upto (s : _root_.Go.ChangeSpec) : _root_.Go.OpenSpec := { _root_.Go.OpenSpec.ofChange s with cond := some uptoSmall }

/-- 'paddocklaw02.PathsCovers', WHERE WHAT IT READS IS OF BULK AT MOST 1048576: true; the input reads as it did. -/
def pathsCoversUptoRow : OpenClaim := { program := "ytmbpebdceaihaab", sum := "5ea4992833506ef078e7186ecfe53490965507a4c76c28a414df84f45b135830", func := "paddock/paddocklaw02.PathsCovers", spec := "pathsCovers", unfollowed := true, recurses := true, apart := false, narrowed := true }
def PathsCoversUptoSaid : Prop := pathsCoversUptoRow.holds Try.pinned (OpenSpec.upto pathsCoversSpec)

/-- 'paddocklaw02.PathsCover', WHERE WHAT IT READS IS OF BULK AT MOST 1048576: true; the input reads as it did. -/
def pathsCoverUptoRow : OpenClaim := { program := "ytmbpebdceaihaab", sum := "5ea4992833506ef078e7186ecfe53490965507a4c76c28a414df84f45b135830", func := "paddock/paddocklaw02.PathsCover", spec := "pathsCover", unfollowed := true, recurses := true, apart := false, narrowed := true }
def PathsCoverUptoSaid : Prop := pathsCoverUptoRow.holds Try.pinned (OpenSpec.upto pathsCoverSpec)

end Rows
end Go.Proofs.Ytmbpebdceaihaab
