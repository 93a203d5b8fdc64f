/- The runs of a program over a text, plain. -/
import Derived.Test.YtdiokclbdaojpaaDoorNfM6
import Derived.Test.YtdiokclbdaojpaaDoorNfCmp
namespace Go.Proofs.YtdiokclbdaojpaaDoor
namespace Nt
/-- One state come to by a way that began at b: a set's way goes over the byte; a match ends. What stands behind the byte, the last beginning that goes on, and what is yielded. -/
def oneF (L : List Ins) (s : ByteArray) (a b j : Nat) (x : List (Nat × Nat) × Nat) : (List (Nat × Nat) × Nat) × List (Nat × Nat) :=
  if (L.getD j iEnd).k == 1 then ((if hasAt s a (L.getD j iEnd) then x.1 ++ [(j + 1, b)] else x.1, x.2), []) else ((x.1, b), [(b, a)])
/-- The states of one way, in their order. -/
def wayF (L : List Ins) (s : ByteArray) (a b : Nat) : List Nat → List (Nat × Nat) × Nat → (List (Nat × Nat) × Nat) × List (Nat × Nat)
  | [], x => (x, [])
  | j :: js, x => ((wayF L s a b js (oneF L s a b j x).1).1, (oneF L s a b j x).2 ++ (wayF L s a b js (oneF L s a b j x).1).2)
/-- The ways at one place, in their order. -/
def plcF (L : List Ins) (s : ByteArray) (a : Nat) : List (Nat × Nat) → (List (Nat × Nat) × Nat) × List Nat → ((List (Nat × Nat) × Nat) × List Nat) × List (Nat × Nat)
  | [], x => (x, [])
  | (i, b) :: ws, x =>
    if x.1.2 < b then (x, [])
    else
      let r := stF L s.size a (mu [i] x.2 (a + 1)) [i] x.2
      let y := wayF L s a b r.1 x.1
      let z := plcF L s a ws (y.1, r.2)
      (z.1, y.2 ++ z.2)
/-- What is yielded, from a place on. -/
def endF (L : List Ins) (s : ByteArray) (til : Nat) : Nat → Nat → Nat → List (Nat × Nat) → List Nat → List (Nat × Nat)
  | 0, _, _, _, _ => []
  | k + 1, a, last, now, m =>
    if a ≤ til ∧ (a ≤ last ∨ now ≠ []) then
      let r := plcF L s a (if a ≤ last then now ++ [(0, a)] else now) (([], last), m)
      r.2 ++ endF L s til k (a + 1) r.1.1.2 r.1.1.1 r.1.2
    else []
/-- The pairs that (*run).ends yields. -/
def endsP (L : List Ins) (s : ByteArray) (fr latest til : Nat) : List (Nat × Nat) := endF L s til (til + 1 - fr) fr latest [] (List.replicate L.length 0)
/-- What nfa.Match answers of a program that may be run, from a place within the text. -/
def matchP (L : List Ins) (s : ByteArray) (fr : Nat) : Option (Nat × Nat) := (endsP L s fr s.size s.size).getLast?
/-- What nfa.Ends answers. -/
def endsA (L : List Ins) (s : ByteArray) (fr : Nat) : List Nat := (endsP L s fr fr s.size).map (·.2)
/-- What nfa.Whole answers. -/
def wholeP (L : List Ins) (s : ByteArray) (fr til : Nat) : Bool := (endsP L s fr fr til).any (fun x => x.2 == til)
/-- One small expression, and what it matches. -/
theorem small_run : matchP (prgC (.mk 5 noS 1 (-1) 0 [.mk 2 (fun c => c == 97) 0 0 0 []])) ⟨#[98, 97, 97]⟩ 0 = some (1, 3) := by
  decide
end Nt
end Go.Proofs.YtdiokclbdaojpaaDoor
