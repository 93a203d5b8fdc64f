/- A row of paths, sorted by paths.Compare: what slices.SortFunc leaves. -/
import Derived.Test.YtmbpebdceaihaacSorted
import Derived.Test.YtmbpebdceaihaacPtsAsk
namespace Go.Proofs.Ytmbpebdceaihaac
open Go.RowKit Go.Shelf Go.Lib Go.Sort

/-- A path that reads in w and doesn't lie in the block g. -/
structure El (w : World) (g : Nat) where
  x : Option Addr
  c : Nat
  l : List ByteArray
  s : Strs w x c l
  o : Off x l (some g)
instance {w : World} {g : Nat} : Inhabited (El w g) := ⟨⟨none, 0, [], Strs.empty w, fun h => absurd rfl h⟩⟩
def El.enc {w : World} {g : Nat} (e : El w g) : Value := .slice e.x e.l.length e.c
def El.cf {w : World} {g : Nat} (a b : El w g) : Int := Pl.cmpP a.l b.l
theorem El.swo {w : World} {g : Nat} : SWO (ltOf (El.cf (w := w) (g := g))) where
  irrefl x := by simp [ltOf, El.cf, (Pl.cmpP_cmp.eq x.l x.l).2 rfl]
  trans x y z h1 h2 := by
    have k1 : Pl.cmpP x.l y.l < 0 := of_decide_eq_true h1
    have k2 : Pl.cmpP y.l z.l < 0 := of_decide_eq_true h2
    exact decide_eq_true (Pl.cmpP_cmp.strict x.l y.l z.l k1 (by omega))
  ntrans x y z h1 h2 := by
    have k1 : ¬ Pl.cmpP x.l y.l < 0 := of_decide_eq_false h1
    have k2 : ¬ Pl.cmpP y.l z.l < 0 := of_decide_eq_false h2
    have n1 := Pl.cmpP_cmp.neg x.l y.l
    have n2 := Pl.cmpP_cmp.neg y.l z.l
    have n3 := Pl.cmpP_cmp.neg x.l z.l
    have := Pl.cmpP_cmp.trans z.l y.l x.l (by omega) (by omega)
    exact decide_eq_false (p := Pl.cmpP x.l z.l < 0) (by omega)

theorem sort_grown {α : Type} [Inhabited α] (enc : α → Value) (w : World) (blk off m : Nat) (dk : Array α) (os : Array Obj) : w.grownBy (sortWorld enc w blk off m dk os) (some blk) := by
  refine ⟨rfl, rfl, rfl, ?_, fun k hk hne => ?_⟩
  · simp [sortWorld, grow, putRow, mapBlock, Sort.ahead]
  · have hkb : k ≠ blk := fun e => hne (by rw [e])
    simp only [sortWorld, grow, putRow, mapBlock, Sort.ahead]
    rw [Array.getElem?_append_left (by simpa using hk)]
    simp [Array.getElem?_modify, hkb.symm]

theorem el_cmp {w : World} {g : Nat} (off n : Nat) : CmpReads Try.prog 20 #[] (El.enc (w := w) (g := g)) El.cf g off n w := fun m os dk _ x y => by
  have hg := sort_grown (El.enc (w := w) (g := g)) w g off m dk os
  exact (compare_any _ _ _ _ x.l y.l _ (x.s.grownO hg x.o) (y.s.grownO hg y.o)).mono fun e w' ⟨he, hw⟩ => ⟨he, 0, hw.symm⟩

set_option maxRecDepth 100000 in
theorem sort_els {w : World} {g : Nat} (off cap : Nat) (d : Array (El w g)) (hH : Holds El.enc w g off d) (hg : g < w.heap.size) (hsz : d.size < 4611686018427387904) :
    Calls Try.prog 19 #[.slice (some ⟨g, off, none⟩) d.size cap, .func (.func 20) #[] #[]] w fun e w' => e = .returned (.tuple #[]) ∧ ∃ d' n os, PermIn 0 d.size d d' ∧ SortedIn (ltOf El.cf) 0 d.size d' ∧ w' = sortWorld El.enc w g off n d' os :=
  Any.slices_SortFunc Try.sortP El.enc (fun _ => rfl) El.cf El.swo 20 #[] g off cap d w (enters_of Try.func20 (by kernel_rfl) rfl) (el_cmp off d.size).lays hH hg hsz
end Go.Proofs.Ytmbpebdceaihaac
