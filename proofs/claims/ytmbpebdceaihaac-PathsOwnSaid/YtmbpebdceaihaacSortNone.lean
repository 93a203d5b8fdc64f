/- slices.SortFunc of no path: nothing turns. -/
import Derived.Test.YtmbpebdceaihaacSorted
import Derived.Shelf.SlSortCmp.NoneTotal
namespace Go.Proofs.Ytmbpebdceaihaac
open Go.RowKit Go.Shelf Go.Lib Go.Sort

theorem sort_none (p : Option Addr) (cap : Nat) (fv : Value) (w : World) :
    Calls Try.prog 19 #[.slice p 0 cap, fv] w fun e w' => e = .returned (.tuple #[]) ∧ w' = w :=
  AnyF.slices_SortFunc_none (P := Try.prog) (ρ := Try.sortP_ren) { Try.sortP with } p cap fv w
end Go.Proofs.Ytmbpebdceaihaac
