/- Plain: what Read makes of arguments: letters, long options, operands. -/
import Derived.Test.YtklcfjakhabbgaaArP
import Derived.Lib.SlicesS
namespace Go.Proofs.Ytklcfjakhabbgaa
namespace Ar
def bs (l : List UInt8) : ByteArray := ⟨l.toArray⟩
theorem data_bs (l : List UInt8) : (bs l).data.toList = l := rfl
theorem bs_data (s : ByteArray) : bs s.data.toList = s := by cases s; rfl
theorem bs_size (l : List UInt8) : (bs l).size = l.length := by rw [← szL]; rfl
/-- Which option a letter, a long name is. -/
def idxC (c : UInt8) : Nat := if c = 110 then 0 else if c = 69 ∨ c = 114 then 1 else if c = 115 then 2 else if c = 101 then 3 else if c = 102 then 4 else if c = 105 then 5 else 6
def nQuiet : ByteArray := ⟨#[113, 117, 105, 101, 116]⟩
def nSilent : ByteArray := ⟨#[115, 105, 108, 101, 110, 116]⟩
def nExt : ByteArray := ⟨#[114, 101, 103, 101, 120, 112, 45, 101, 120, 116, 101, 110, 100, 101, 100]⟩
def nSep : ByteArray := ⟨#[115, 101, 112, 97, 114, 97, 116, 101]⟩
def nExpr : ByteArray := ⟨#[101, 120, 112, 114, 101, 115, 115, 105, 111, 110]⟩
def nFile : ByteArray := ⟨#[102, 105, 108, 101]⟩
def nIn : ByteArray := ⟨#[105, 110, 45, 112, 108, 97, 99, 101]⟩
/-- The table: letters, long names, whether a value goes with the option. -/
def letK : Nat → ByteArray
  | 0 => ⟨#[110]⟩ | 1 => ⟨#[69, 114]⟩ | 2 => ⟨#[115]⟩ | 3 => ⟨#[101]⟩ | 4 => ⟨#[102]⟩ | _ => ⟨#[105]⟩
def namK : Nat → List ByteArray
  | 0 => [nQuiet, nSilent] | 1 => [nExt] | 2 => [nSep] | 3 => [nExpr] | 4 => [nFile] | _ => [nIn]
def valK : Nat → Int
  | 3 => 2 | 4 => 2 | 5 => 1 | _ => 0
/-- The first of the six at which p holds, or 6. -/
def fst6 (p : Nat → Bool) : Nat := if p 0 then 0 else if p 1 then 1 else if p 2 then 2 else if p 3 then 3 else if p 4 then 4 else if p 5 then 5 else 6
theorem fst6_le (p : Nat → Bool) : fst6 p ≤ 6 := by
  unfold fst6
  repeat (first | omega | split)
def memN (s : ByteArray) (l : List ByteArray) : Bool := l.any (fun t => t.data.toList == s.data.toList)
theorem memN_eq (l : List ByteArray) (s : ByteArray) : Lib.containsS l s = memN s l := by
  rw [Bool.eq_iff_iff, Lib.containsS_iff]
  unfold memN
  rw [List.any_eq_true]
  constructor
  · intro h; exact ⟨s, h, by simp⟩
  · rintro ⟨t, ht, e⟩
    rw [beq_iff_eq] at e
    exact ba_ext e ▸ ht
def idxN (s : ByteArray) : Nat := fst6 (fun k => memN s (namK k))
theorem fst6_no {p : Nat → Bool} (h : ∀ k, k < 6 → p k = false) : fst6 p = 6 := by simp [fst6, h]
theorem fst6_yes {p : Nat → Bool} {k : Nat} (hk : k < 6) (h : p k = true) (hn : ∀ j, j < k → p j = false) : fst6 p = k := by
  match k, hk with
  | 0, _ => simp [fst6, h]
  | 1, _ => simp [fst6, h, hn 0]
  | 2, _ => simp [fst6, h, hn 0, hn 1]
  | 3, _ => simp [fst6, h, hn 0, hn 1, hn 2]
  | 4, _ => simp [fst6, h, hn 0, hn 1, hn 2, hn 3]
  | 5, _ => simp [fst6, h, hn 0, hn 1, hn 2, hn 3, hn 4]
theorem idxC_fst (c : UInt8) : idxC c = fst6 (fun k => (letK k).data.toList.contains c) := by
  unfold idxC fst6
  simp only [letK, List.contains_cons, List.contains_nil, Bool.or_false, beq_iff_eq, Bool.or_eq_true]
/-- What the option does with a value: whether the value may be, and the command line then. -/
def dov (k : Nat) (v : ByteArray) (x : Av) : Bool × Av :=
  match k with
  | 0 => (true, { x with q := true })
  | 1 => (true, { x with e := true })
  | 2 => (true, { x with s := true })
  | 3 => (true, { x with sc := x.sc ++ [(false, v)] })
  | 4 => (true, { x with sc := x.sc ++ [(true, v)] })
  | _ => (sfxB v, { x with i := true, s := true, sf := v })
/-- Letters, one behind the other: whether they may be, the argument that is read last, the command line then. -/
def lettersF (L : List ByteArray) : List UInt8 → Nat → Av → Bool × Nat × Av
  | [], at', x => (true, at', x)
  | c :: r, at', x =>
    if 6 ≤ idxC c then (false, at', x)
    else if idxC c < 3 then lettersF L r at' (dov (idxC c) (bs []) x).2
    else if idxC c < 5 ∧ r = [] then
      if at' + 1 < L.length then ((dov (idxC c) (L.getD (at' + 1) (bs [])) x).1, at' + 1, (dov (idxC c) (L.getD (at' + 1) (bs [])) x).2) else (false, at' + 1, x)
    else ((dov (idxC c) (bs r) x).1, at', (dov (idxC c) (bs r) x).2)
/-- What stands ahead of the first =, what behind it, whether there is one. -/
def cutEq : List UInt8 → List UInt8 × List UInt8 × Bool
  | [] => ([], [], false)
  | c :: r => if c = 61 then ([], r, true) else let y := cutEq r; (c :: y.1, y.2.1, y.2.2)
/-- A long option. -/
def longF (s : List UInt8) (at' : Nat) (x : Av) : Bool × Nat × Av :=
  let y := cutEq s
  let k := idxN (bs y.1)
  if 6 ≤ k then (false, at', x)
  else if (y.2.2 && decide (k < 3)) || (!y.2.2 && decide (k = 3 ∨ k = 4)) then (false, at', x)
  else ((dov k (bs y.2.1) x).1, at', (dov k (bs y.2.1) x).2)
/-- What an argument has behind its first byte. -/
def optionF (L : List ByteArray) (s : List UInt8) (at' : Nat) (x : Av) : Bool × Nat × Av :=
  if s.head? = some 45 then longF (s.drop 1) at' x else lettersF L s at' x
/-- The arguments ahead of the operands. -/
def optsF (L : List ByteArray) : Nat → Nat → Av → Bool × Nat × Av
  | 0, at', x => (true, at', x)
  | n + 1, at', x =>
    if L.length ≤ at' then (true, at', x)
    else
      let s := (L.getD at' (bs [])).data.toList
      if s = [45, 45] then (true, at' + 1, x)
      else if s.head? ≠ some 45 ∨ s = [45] then (true, at', x)
      else
        let y := optionF L (s.drop 1) at' x
        if y.1 then optsF L n (y.2.1 + 1) y.2.2 else (false, y.2.1, y.2.2)
/-- The operands. -/
def operF (L : List ByteArray) (at' : Nat) (x : Av) : Bool × Nat × Av :=
  if x.sc = [] then
    if at' < L.length then (true, at' + 1, { x with sc := [(false, L.getD at' (bs []))], nm := L.drop (at' + 1) }) else (false, at', x)
  else (true, at', { x with nm := L.drop at' })
def av0' : Av := ⟨false, false, false, false, bs [], [], []⟩
/-- What Read answers: the command line, the error, the argument at fault. -/
def readF (L : List ByteArray) : Av × Int × Nat :=
  if 65536 < L.length then (av0', 3, 0)
  else
    let y := optsF L L.length 0 av0'
    if y.1 then
      let z := operF L y.2.1 y.2.2
      if z.1 then (z.2.2, 0, 0) else (av0', 260, z.2.1)
    else (av0', 260, y.2.1)
end Ar
end Go.Proofs.Ytklcfjakhabbgaa
