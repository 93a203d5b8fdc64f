/- The classes by their names, plain; maps of sets; what sets.classes answers. -/
import Derived.Test.YtmlpfgfpmbnbeaaSInv
import Derived.Maps.OwnSet
import Derived.Deep.DeepCutAuto
import Derived.Lib.SlBytesConst
namespace Go.Proofs.Ytmlpfgfpmbnbeaa
open Go.RowKit

namespace St
def cUp : Nat → Bool := rng 65 90
def cLow : Nat → Bool := rng 97 122
def cDig : Nat → Bool := rng 48 57
def cAlpha : Nat → Bool := fun x => cUp x || cLow x
def cAlnum : Nat → Bool := fun x => cAlpha x || cDig x
def cGraph : Nat → Bool := rng 33 126
def cXA : Nat → Bool := rng 65 70
def cXB : Nat → Bool := rng 97 102
def cXC : Nat → Bool := fun x => cXA x || cXB x
def cX : Nat → Bool := fun x => cDig x || cXC x
def cBlank : Nat → Bool := inL [32, 9]
def cSA : Nat → Bool := rng 9 13
def cSpace : Nat → Bool := fun x => cSA x || x == 32
def cCA : Nat → Bool := rng 0 31
def cCntrl : Nat → Bool := fun x => cCA x || x == 127
def cPrint : Nat → Bool := fun x => cGraph x || x == 32
def cNA : Nat → Bool := fun x => !cAlnum x
def cPunct : Nat → Bool := fun x => cGraph x && cNA x
/-- The operation that lays a class, its name, its bytes. -/
def clsE : List (Nat × List UInt8 × (Nat → Bool)) := [(2, [117, 112, 112, 101, 114], cUp), (4, [108, 111, 119, 101, 114], cLow), (6, [97, 108, 112, 104, 97], cAlpha), (8, [100, 105, 103, 105, 116], cDig), (10, [97, 108, 110, 117, 109], cAlnum),
  (16, [120, 100, 105, 103, 105, 116], cX), (20, [98, 108, 97, 110, 107], cBlank), (23, [115, 112, 97, 99, 101], cSpace), (26, [99, 110, 116, 114, 108], cCntrl), (29, [112, 114, 105, 110, 116], cPrint), (31, [103, 114, 97, 112, 104], cGraph), (36, [112, 117, 110, 99, 116], cPunct)]
def lookC (L : Nat → Bool) (n : List UInt8) : Option (Nat × List UInt8 × (Nat → Bool)) := clsE.find? (fun e => L e.1 && e.2.1 == n)
/-- A class by its name. -/
def clsP (n : List UInt8) : Option (Nat → Bool) := (lookC (fun _ => true) n).map (fun e => e.2.2)

theorem clsE_key : ∀ a ∈ clsE.map (fun e => (e.1, e.2.1)), ∀ b ∈ clsE.map (fun e => (e.1, e.2.1)), a.2 = b.2 ∨ a.1 = b.1 → a = b := by decide
theorem mem_eq : ∀ {l : List (Nat × List UInt8 × (Nat → Bool))}, (l.map (fun e => e.1)).Nodup → ∀ {a b : Nat × List UInt8 × (Nat → Bool)}, a ∈ l → b ∈ l → a.1 = b.1 → a = b
  | [], _, a, b, ha, _, _ => by cases ha
  | x :: r, hn, a, b, ha, hb, h => by
    rw [List.map_cons, List.nodup_cons] at hn
    rcases List.mem_cons.1 ha with h1 | h1 <;> rcases List.mem_cons.1 hb with h2 | h2
    · rw [h1, h2]
    · exact absurd (List.mem_map.2 ⟨b, h2, by rw [← h, h1]⟩) hn.1
    · exact absurd (List.mem_map.2 ⟨a, h1, by rw [h, h2]⟩) hn.1
    · exact mem_eq hn.2 h1 h2 h
theorem clsE_nodup : (clsE.map (fun e => e.1)).Nodup := by decide
theorem clsE_one {a b : Nat × List UInt8 × (Nat → Bool)} (ha : a ∈ clsE) (hb : b ∈ clsE) (h : a.2.1 = b.2.1 ∨ a.1 = b.1) : a = b := by
  have := clsE_key (a.1, a.2.1) (List.mem_map.2 ⟨a, ha, rfl⟩) (b.1, b.2.1) (List.mem_map.2 ⟨b, hb, rfl⟩) h
  simp only [Prod.mk.injEq] at this
  exact mem_eq clsE_nodup ha hb this.1
theorem look_same {L : Nat → Bool} {e : Nat × List UInt8 × (Nat → Bool)} (he : e ∈ clsE) (hL : L e.1 = true) : lookC L e.2.1 = some e := by
  unfold lookC
  cases h : clsE.find? (fun x => L x.1 && x.2.1 == e.2.1) with
  | none => exact absurd (List.find?_eq_none.1 h e he) (by simp [hL])
  | some x =>
    have h1 := List.find?_some h
    have h2 := List.mem_of_find?_eq_some h
    simp only [Bool.and_eq_true, beq_iff_eq] at h1
    rw [clsE_one h2 he (.inl h1.2)]
theorem find_congr {α : Type} {f g : α → Bool} : ∀ {l : List α}, (∀ x ∈ l, f x = g x) → l.find? f = l.find? g
  | [], _ => rfl
  | x :: r, h => by
    rw [List.find?_cons, List.find?_cons, h x (by simp), find_congr (fun y hy => h y (by simp [hy]))]
theorem look_other {L L' : Nat → Bool} {n : List UInt8} (h : ∀ e ∈ clsE, e.2.1 = n → L' e.1 = L e.1) : lookC L' n = lookC L n := by
  unfold lookC
  apply find_congr
  intro e he
  by_cases hn : e.2.1 = n
  · rw [h e he hn]
  · have : (e.2.1 == n) = false := by simpa using hn
    rw [this, Bool.and_false, Bool.and_false]
end St

/-- How an element of a map of sets reads: as it is. -/
def hR (v : Value) : Option (DataW Value × List MemPlace) := some (.held v, [])
def clsD (L : Nat → Bool) (D : DataW Value) : Prop := ∀ (n : List UInt8) (z : DataW Value), D.atKey (.string n) z = ((St.lookC L n).map (fun e => DataW.held (St.setV e.2.2))).getD z
theorem clsD_none (L : Nat → Bool) (h : ∀ e ∈ St.clsE, L e.1 = false) : clsD L (.map []) := by
  intro n z
  have : St.lookC L n = none := by
    unfold St.lookC
    rw [List.find?_eq_none]
    intro e he
    simp [h e he]
  rw [this]
  rfl
theorem clsD_put {L L' : Nat → Bool} {D : DataW Value} (h : clsD L D) (hD : Maps.IsMap D) {e : Nat × List UInt8 × (Nat → Bool)} (he : e ∈ St.clsE) (hL : L' e.1 = true) (ho : ∀ x ∈ St.clsE, x.1 ≠ e.1 → L' x.1 = L x.1) :
    clsD L' (D.put (.string e.2.1) (.held (St.setV e.2.2))) := by
  intro n z
  by_cases hn : n = e.2.1
  · subst hn
    rw [Maps.atKey_put_same hD (show WideAt.IsKeyLit (.string e.2.1) from trivial), St.look_same he hL]
    rfl
  · rw [Maps.atKey_put_other (fun x => hn (by injection x)), h n z, St.look_other (L := L) (L' := L') (fun x hx hk => ho x hx (fun y => hn (by rw [← hk, St.clsE_one hx he (.inr y)])))]
theorem Try.keyStr : Maps.Keyed Try.prog 9 := Maps.Keyed.of_law (WideMaps.string_law Try.underlying9)
end Go.Proofs.Ytmlpfgfpmbnbeaa
