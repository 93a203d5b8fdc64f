/- A region that draws its order and holds calls that lay a block each, all of one make: walked once, in the text's order. -/
import Derived.Test.YtpoimhkfajppmaaDoorLAt
import Derived.Deep.QuietTactic
import Derived.BigQuiet
namespace Go.Proofs.YtpoimhkfajppmaaDoor
open Go.RowKit

/-- w behind a draw and so many blocks of one make. -/
def gd (w : World) (o : Obj) : Nat → World
  | 0 => w.drew
  | k + 1 => (gd w o k).alloc o
theorem gd_below (w : World) (o : Obj) : ∀ k, Below w.heap.size w (gd w o k)
  | 0 => (Below.refl _ _).drew
  | k + 1 => (gd_below w o k).alloc (gd_below w o k).size o
theorem gd_next (w : World) (o : Obj) (k : Nat) : ∃ k', (gd w o k).alloc o = gd w o k' := ⟨k + 1, rfl⟩
theorem wp_region_gd {P : Program} {id : Nat} {Q : Exit → Act → World → Prop} {a : Act} {w : World} {l : List Oper} (o : Obj) (hm : P.follows .mixedOrders = true) (hB : Region.lexB .any l.toArray = true)
    (h : wpQuiet P l.toArray (fun w' => ∃ n, w' = gd w o n) (fun a' => ∀ w', (∃ n, w' = gd w o n) → Q .normal a' w') l a) : (Code.region id l.toArray true).wp P Q a w :=
  wp_region_quiet (C := fun w' => ∃ n, w' = gd w o n) hm hB ⟨0, rfl⟩ (by simpa using h)
end Go.Proofs.YtpoimhkfajppmaaDoor
