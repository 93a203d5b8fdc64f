/- Plain functions that say what the lines' functions answer: told bytes, octal ranges, and plain facts on them. Plain facts on a text's lines. A slice of bytes of the call's own, and the string that is made of it. What the walks over paths share. What the parts of lines share with those of paths, where both are laid. The lines' tables in a world, and what keeps them. What lines.tell answers: a byte, told, behind what was there. What lines.Quote answers. -/
import Derived.Lib.Strings
import Derived.Lib.IndexBytes
import Derived.Test.YtfbhofomcenabaaGreatDoorChecked
import Derived.WalkKit
import Derived.WalkSmall
import Derived.WalkSpells
import Derived.WalkLawsBesides
import Derived.Lib.AppendStr
import Derived.Laws.IdiomStrings
import Derived.Laws.BytesArg
import Derived.Test.YtfbhofomcenabaaGreatDoorTA
import Derived.Test.YtfbhofomcenabaaGreatDoorStrs
import Derived.Deep.AppendLies
import Derived.Maps.AppendAt
import Derived.Laws.OwnMore
namespace Go.Proofs.YtfbhofomcenabaaGreatDoor
namespace Ln

theorem toL (s : ByteArray) : s.toList = s.data.toList := Lib.toList_data s
theorem szL (s : ByteArray) : s.data.toList.length = s.size := (Lib.size_eq s).symm
theorem take_snoc (s : ByteArray) (k : Nat) (h : k < s.size) : s.data.toList.take (k + 1) = s.data.toList.take k ++ [s[k]] := by
  rw [List.take_succ_eq_append_getElem (by simpa using h)]; rfl
theorem take_all (s : ByteArray) (k : Nat) (h : s.size ≤ k) : s.data.toList.take k = s.data.toList := List.take_of_length_le (by rw [szL]; exact h)
theorem drop_cons (s : ByteArray) (k : Nat) (h : k < s.size) : s.data.toList.drop k = s[k] :: s.data.toList.drop (k + 1) := by
  rw [List.drop_eq_getElem_cons (by simpa using h)]; rfl
def bs (l : List UInt8) : ByteArray := ⟨l.toArray⟩
theorem bs_data (x : ByteArray) : bs x.data.toList = x := by cases x; rfl
theorem data_bs (l : List UInt8) : (bs l).data.toList = l := rfl
theorem bs_toList (l : List UInt8) : (bs l).toList = l := by rw [toL]; rfl
theorem bs_size (l : List UInt8) : (bs l).size = l.length := by rw [← szL]; rfl
theorem data_inj (x y : ByteArray) (h : x.data.toList = y.data.toList) : x = y := by
  cases x; cases y; simp at h; rw [h]

/-- The letters' table and the octal ranges. -/
def lets : List Nat := [0, 0, 0, 0, 0, 0, 0, 97, 98, 116, 110, 118, 102, 114]
def octs : List Nat := [0, 6, 14, 31, 127, 255]
def octB (lo hi : Int) : Bool := (decide (lo ≤ 6) && decide (0 ≤ hi)) || (decide (lo ≤ 31) && decide (14 ≤ hi)) || (decide (lo ≤ 255) && decide (127 ≤ hi))
def octF (lo hi : Int) : Nat → Bool
  | 0 => octB lo hi
  | 1 => (decide (lo ≤ 31) && decide (14 ≤ hi)) || (decide (lo ≤ 255) && decide (127 ≤ hi))
  | 2 => decide (lo ≤ 255) && decide (127 ≤ hi)
  | _ => false
theorem oct0 {lo hi : Int} (h : ¬ (lo ≤ 6 ∧ 0 ≤ hi)) : octF lo hi 0 = octF lo hi 1 := by
  have : (decide (lo ≤ 6) && decide (0 ≤ hi)) = false := by simpa using h
  simp only [octF, octB, this, Bool.false_or]
theorem oct0' {lo hi : Int} (h : lo ≤ 6 ∧ 0 ≤ hi) : octF lo hi 0 = true := by simp [octF, octB, h.1, h.2]
theorem oct1 {lo hi : Int} (h : ¬ (lo ≤ 31 ∧ 14 ≤ hi)) : octF lo hi 1 = octF lo hi 2 := by
  have : (decide (lo ≤ 31) && decide (14 ≤ hi)) = false := by simpa using h
  simp only [octF, this, Bool.false_or]
theorem oct1' {lo hi : Int} (h : lo ≤ 31 ∧ 14 ≤ hi) : octF lo hi 1 = true := by simp [octF, h.1, h.2]
theorem oct2 {lo hi : Int} (h : ¬ (lo ≤ 255 ∧ 127 ≤ hi)) : octF lo hi 2 = octF lo hi 3 := by
  have : (decide (lo ≤ 255) && decide (127 ≤ hi)) = false := by simpa using h
  simp only [octF, this]
theorem oct2' {lo hi : Int} (h : lo ≤ 255 ∧ 127 ≤ hi) : octF lo hi 2 = true := by simp [octF, h.1, h.2]
def letB (b : UInt8) : Nat := lets.getD b.toNat 0
def toldL (b : UInt8) : List UInt8 :=
  if b == 92 then [92, 92] else if letB b != 0 then [92, UInt8.ofNat (letB b)]
  else if octB b.toNat b.toNat then [92, 48 + b / 64, 48 + b / 8 % 8, 48 + b % 8] else [b]
theorem told_len (b : UInt8) : 1 ≤ (toldL b).length ∧ (toldL b).length ≤ 4 := by
  unfold toldL
  split
  · simp
  · split
    · simp
    · split <;> simp
theorem ne92 {b : UInt8} (h : ((b.toNat : Int) == 92) = false) : (b == 92) = false := by
  rw [beq_eq_false_iff_ne]; intro e; subst e; simp at h
theorem told_plain {b : UInt8} (h1 : ((b.toNat : Int) == 92) = false) (h2 : letB b = 0) (h3 : octB b.toNat b.toNat = false) : toldL b = [b] := by
  unfold toldL; rw [ne92 h1, h2, h3]; rfl
theorem told_oct {b : UInt8} (h1 : ((b.toNat : Int) == 92) = false) (h2 : letB b = 0) (h3 : octB b.toNat b.toNat = true) : toldL b = [92, 48 + b / 64, 48 + b / 8 % 8, 48 + b % 8] := by
  unfold toldL; rw [ne92 h1, h2, h3]; rfl
theorem told_let {b : UInt8} (h1 : ((b.toNat : Int) == 92) = false) (h2 : ¬ letB b = 0) : toldL b = [92, UInt8.ofNat (letB b)] := by
  unfold toldL; rw [ne92 h1]; simp [h2]
theorem let_big {b : UInt8} (h : 14 ≤ b.toNat) : letB b = 0 := by
  unfold letB; rw [List.getD_eq_getElem?_getD, List.getElem?_eq_none (by simpa [lets] using h)]; rfl
theorem let_lt (b : UInt8) : letB b < 256 := by
  by_cases h : 14 ≤ b.toNat
  · rw [let_big h]; omega
  · have : ∀ k, k < 14 → lets.getD k 0 < 256 := by decide
    exact this _ (by omega)
def toldAll : List UInt8 → List UInt8
  | [] => []
  | b :: r => toldL b ++ toldAll r

/-- The listing so far, and how long its last row is. -/
def listStep (width : Int) (st : List UInt8 × Nat) (b : UInt8) : List UInt8 × Nat :=
  if 1 < width ∧ 0 < st.2 ∧ width - 1 < (st.2 : Int) + (toldL b).length then (st.1 ++ [92, 10] ++ toldL b, (toldL b).length) else (st.1 ++ toldL b, st.2 + (toldL b).length)
def listSt (width : Int) (l : List UInt8) : List UInt8 × Nat := l.foldl (listStep width) ([], 0)
def listP (s : ByteArray) (width : Int) : ByteArray × Int := if width < 0 then (bs [], 2) else (bs ((listSt width s.data.toList).1 ++ [36, 10]), 0)
theorem listSt_snoc (width : Int) (s : ByteArray) (k : Nat) (h : k < s.size) : listSt width (s.data.toList.take (k + 1)) = listStep width (listSt width (s.data.toList.take k)) s[k] := by
  rw [take_snoc s k h, listSt, List.foldl_append]; rfl
theorem listStep_le (width : Int) (st : List UInt8 × Nat) (b : UInt8) : (listStep width st b).1.length ≤ st.1.length + 6 ∧ (listStep width st b).2 ≤ st.2 + 4 := by
  have := told_len b
  unfold listStep
  split <;> simp <;> omega
theorem listSt_le (width : Int) (l : List UInt8) : (listSt width l).1.length ≤ 6 * l.length ∧ (listSt width l).2 ≤ 4 * l.length := by
  have key : ∀ (l : List UInt8) (st : List UInt8 × Nat), (l.foldl (listStep width) st).1.length ≤ st.1.length + 6 * l.length ∧ (l.foldl (listStep width) st).2 ≤ st.2 + 4 * l.length := by
    intro l
    induction l with
    | nil => intro st; simp
    | cons b r ih => intro st; have h1 := ih (listStep width st b); have h2 := listStep_le width st b; simp only [List.foldl_cons, List.length_cons]; omega
  have := key l ([], 0)
  simpa [listSt] using this
theorem list_break {width : Int} {st : List UInt8 × Nat} {b : UInt8} (h : 1 < width ∧ 0 < st.2 ∧ width - 1 < (st.2 : Int) + (toldL b).length) : listStep width st b = (st.1 ++ [92, 10] ++ toldL b, (toldL b).length) := by rw [listStep, if_pos h]
theorem list_on {width : Int} {st : List UInt8 × Nat} {b : UInt8} (h : ¬ (1 < width ∧ 0 < st.2 ∧ width - 1 < (st.2 : Int) + (toldL b).length)) : listStep width st b = (st.1 ++ toldL b, st.2 + (toldL b).length) := by rw [listStep, if_neg h]

/-- Three octal digits from a place on: so many are read, their value; the byte, where it ends, whether it is one. -/
def octGo : Nat → Nat → Nat → List UInt8 → Nat → UInt8 × Nat × Bool
  | 0, _, v, _, off => (UInt8.ofNat v, off, true)
  | _ + 1, _, _, [], off => (0, off, false)
  | f + 1, rest, v, c :: r, off =>
    if c.toNat < 48 ∨ 55 < c.toNat then (0, off, false)
    else if octB ((v * 8 + (c.toNat - 48)) * rest : Nat) ((v * 8 + (c.toNat - 48)) * rest + rest - 1 : Nat) = false then (0, off, false)
    else octGo f (rest / 8) (v * 8 + (c.toNat - 48)) r (off + 1)
theorem octGo_nil (f rest v off : Nat) : octGo (f + 1) rest v [] off = (0, off, false) := rfl
theorem octGo_no {f rest v off : Nat} {c : UInt8} {r : List UInt8} (h : c.toNat < 48 ∨ 55 < c.toNat) : octGo (f + 1) rest v (c :: r) off = (0, off, false) := by rw [octGo, if_pos h]
theorem octGo_out {f rest v off : Nat} {c : UInt8} {r : List UInt8} (h : ¬ (c.toNat < 48 ∨ 55 < c.toNat)) (h2 : octB ((v * 8 + (c.toNat - 48)) * rest : Nat) ((v * 8 + (c.toNat - 48)) * rest + rest - 1 : Nat) = false) : octGo (f + 1) rest v (c :: r) off = (0, off, false) := by rw [octGo, if_neg h, if_pos h2]
theorem octGo_on {f rest v off : Nat} {c : UInt8} {r : List UInt8} (h : ¬ (c.toNat < 48 ∨ 55 < c.toNat)) (h2 : octB ((v * 8 + (c.toNat - 48)) * rest : Nat) ((v * 8 + (c.toNat - 48)) * rest + rest - 1 : Nat) = true) : octGo (f + 1) rest v (c :: r) off = octGo f (rest / 8) (v * 8 + (c.toNat - 48)) r (off + 1) := by rw [octGo, if_neg h, if_neg (by rw [h2]; simp)]
def octP (l : List UInt8) (off : Nat) : UInt8 × Nat × Bool := octGo 3 64 0 l off
def plainP (c : UInt8) (off : Nat) : UInt8 × Nat × Bool := if c.toNat < 32 ∨ 127 ≤ c.toNat then (0, off, false) else (c, off + 1, true)
/-- The number of the letter that tells a byte; 14: none does. -/
def letF (c : UInt8) : Nat → Nat
  | 0 => 14
  | n + 1 => if lets.getD (13 - n) 0 ≠ 0 ∧ lets.getD (13 - n) 0 = c.toNat then 13 - n else letF c n
theorem letF_hit {c : UInt8} {k : Nat} (hk : k < 14) (h : lets.getD k 0 ≠ 0 ∧ lets.getD k 0 = c.toNat) : letF c (14 - k) = k := by
  have e : 14 - k = (13 - k) + 1 := by omega
  rw [e, letF, show 13 - (13 - k) = k from by omega, if_pos h]
theorem letF_miss {c : UInt8} {k : Nat} (hk : k < 14) (h : ¬ (lets.getD k 0 ≠ 0 ∧ lets.getD k 0 = c.toNat)) : letF c (14 - k) = letF c (14 - (k + 1)) := by
  have e : 14 - k = (13 - k) + 1 := by omega
  rw [e, letF, show 13 - (13 - k) = k from by omega, if_neg h, show 14 - (k + 1) = 13 - k from by omega]
def untP (l : List UInt8) (off : Nat) : UInt8 × Nat × Bool :=
  match l with
  | [] => (0, off, false)
  | c :: r => if c ≠ 92 then plainP c off else match r with
    | [] => (0, off + 1, false)
    | d :: r' => if d = 92 then (92, off + 2, true) else if letF d 14 < 14 then (UInt8.ofNat (letF d 14), off + 2, true) else octP (d :: r') (off + 1)
theorem unt_end (off : Nat) : untP [] off = (0, off, false) := rfl
theorem unt_plain {c : UInt8} {r : List UInt8} {off : Nat} (h : c ≠ 92) : untP (c :: r) off = plainP c off := by simp only [untP]; rw [if_pos h]
theorem unt_back {off : Nat} : untP [92] off = (0, off + 1, false) := rfl
theorem unt_two {r : List UInt8} {off : Nat} : untP (92 :: 92 :: r) off = (92, off + 2, true) := rfl
theorem unt_let {d : UInt8} {r : List UInt8} {off : Nat} (h : d ≠ 92) (hl : letF d 14 < 14) : untP (92 :: d :: r) off = (UInt8.ofNat (letF d 14), off + 2, true) := by
  simp only [untP]; rw [if_neg (by simp), if_neg h, if_pos hl]
theorem unt_oct {d : UInt8} {r : List UInt8} {off : Nat} (h : d ≠ 92) (hl : ¬ letF d 14 < 14) : untP (92 :: d :: r) off = octP (d :: r) (off + 1) := by
  simp only [untP]; rw [if_neg (by simp), if_neg h, if_neg hl]
theorem byte92 {c : UInt8} (h : ((c.toNat : Int) == 92) = true) : c = 92 := by
  rw [← UInt8.toNat_inj]; simp at h; simp; omega
theorem byteN92 {c : UInt8} (h : ((c.toNat : Int) == 92) = false) : c ≠ 92 := by
  intro e; subst e; simp at h
theorem lets_small (k : Nat) : lets.getD k 0 < 256 := by
  by_cases h : k < 14
  · have : ∀ k, k < 14 → lets.getD k 0 < 256 := by decide
    exact this _ h
  · rw [List.getD_eq_getElem?_getD, List.getElem?_eq_none (by simp [lets]; omega)]; simp
def begL (l : List UInt8) (a b : UInt8) : Bool := match l with
  | x :: y :: _ => x == a && y == b
  | _ => false

theorem beg_short {l : List UInt8} {a b : UInt8} (h : l.length < 2) : begL l a b = false := by
  match l, h with
  | [], _ => rfl
  | [x], _ => rfl
theorem beg_two (x y : UInt8) (r : List UInt8) (a b : UInt8) : begL (x :: y :: r) a b = (x == a && y == b) := rfl
theorem byte_eq_int (x a : UInt8) : (x == a) = ((x.toNat : Int) == (a.toNat : Int)) := by
  rw [Bool.eq_iff_iff]; simp [← UInt8.toNat_inj]; omega
theorem octGo_ok : ∀ (f rest v : Nat) (l : List UInt8) (off : Nat), (octGo f rest v l off).2.2 = true → off + f = (octGo f rest v l off).2.1 ∧ f ≤ l.length
  | 0, _, _, _, _, _ => ⟨rfl, Nat.zero_le _⟩
  | f + 1, rest, v, [], off, h => by rw [octGo_nil] at h; cases h
  | f + 1, rest, v, c :: r, off, h => by
    by_cases h1 : c.toNat < 48 ∨ 55 < c.toNat
    · rw [octGo_no h1] at h; cases h
    cases h2 : octB ((v * 8 + (c.toNat - 48)) * rest : Nat) ((v * 8 + (c.toNat - 48)) * rest + rest - 1 : Nat)
    · rw [octGo_out h1 h2] at h; cases h
    · rw [octGo_on h1 h2] at h ⊢
      have := octGo_ok f (rest / 8) _ r (off + 1) h
      simp only [List.length_cons]
      omega
theorem unt_ok {l : List UInt8} {off : Nat} (h : (untP l off).2.2 = true) : off < (untP l off).2.1 ∧ (untP l off).2.1 ≤ off + l.length := by
  match l with
  | [] => cases h
  | c :: r =>
    by_cases h1 : c = 92
    · subst h1
      match r with
      | [] => cases h
      | d :: r' =>
        by_cases h2 : d = 92
        · subst h2; rw [unt_two]; simp
        · by_cases h3 : letF d 14 < 14
          · rw [unt_let h2 h3]; simp
          · rw [unt_oct h2 h3] at h ⊢
            have := octGo_ok 3 64 0 (d :: r') (off + 1) h
            simp only [octP, List.length_cons] at this ⊢
            omega
    · rw [unt_plain h1] at h ⊢
      unfold plainP at h ⊢
      split at h
      · cases h
      · rw [if_neg (by assumption)]; simp
/-- A quoted text read from a place on: with so much fuel. -/
def unqGo (L : List UInt8) : Nat → Nat → List UInt8 → List UInt8 × Nat × Int × Nat
  | 0, off, _ => ([], 0, 10, off)
  | f + 1, off, out =>
    if (L.drop off).head? = some 34 then (out, off + 1, 0, 0)
    else if begL (L.drop off) 92 34 = true then unqGo L f (off + 2) (out ++ [34])
    else if (untP (L.drop off) off).2.2 = false then ([], 0, 10, (untP (L.drop off) off).2.1)
    else unqGo L f (untP (L.drop off) off).2.1 (out ++ [(untP (L.drop off) off).1])
def unqP (s : ByteArray) : List UInt8 × Nat × Int × Nat := if s.data.toList.head? = some 34 then unqGo s.data.toList s.size 1 [] else ([], 0, 10, 0)
theorem unq_end {L : List UInt8} {f off : Nat} {out : List UInt8} (h : (L.drop off).head? = some 34) : unqGo L (f + 1) off out = (out, off + 1, 0, 0) := by rw [unqGo, if_pos h]
theorem unq_quote {L : List UInt8} {f off : Nat} {out : List UInt8} (h : ¬ (L.drop off).head? = some 34) (h2 : begL (L.drop off) 92 34 = true) : unqGo L (f + 1) off out = unqGo L f (off + 2) (out ++ [34]) := by rw [unqGo, if_neg h, if_pos h2]
theorem unq_bad {L : List UInt8} {f off : Nat} {out : List UInt8} (h : ¬ (L.drop off).head? = some 34) (h2 : begL (L.drop off) 92 34 = false) (h3 : (untP (L.drop off) off).2.2 = false) : unqGo L (f + 1) off out = ([], 0, 10, (untP (L.drop off) off).2.1) := by rw [unqGo, if_neg h, if_neg (by rw [h2]; simp), if_pos h3]
theorem unq_on {L : List UInt8} {f off : Nat} {out : List UInt8} (h : ¬ (L.drop off).head? = some 34) (h2 : begL (L.drop off) 92 34 = false) (h3 : (untP (L.drop off) off).2.2 = true) : unqGo L (f + 1) off out = unqGo L f (untP (L.drop off) off).2.1 (out ++ [(untP (L.drop off) off).1]) := by rw [unqGo, if_neg h, if_neg (by rw [h2]; simp), if_neg (by rw [h3]; simp)]
theorem head_drop {s : ByteArray} {k : Nat} (h : k < s.size) : (s.data.toList.drop k).head? = some s[k] := by rw [drop_cons s k h]; rfl
theorem head_none {s : ByteArray} {k : Nat} (h : ¬ k < s.size) : (s.data.toList.drop k).head? = none := by rw [List.drop_eq_nil_of_le (by rw [szL]; omega)]; rfl
theorem head_is {s : ByteArray} {k : Nat} {a : UInt8} (h : k < s.size) : (s.data.toList.drop k).head? = some a ↔ ((s[k].toNat : Int) == (a.toNat : Int)) = true := by
  rw [head_drop h, ← byte_eq_int]; simp
theorem beg_at {s : ByteArray} {k : Nat} (h : k + 1 < s.size) (a b : UInt8) : begL (s.data.toList.drop k) a b = (((s[k].toNat : Int) == (a.toNat : Int)) && ((s[k + 1].toNat : Int) == (b.toNat : Int))) := by
  rw [drop_cons s k (by omega), drop_cons s (k + 1) h, beg_two, byte_eq_int, byte_eq_int]
theorem beg_past {s : ByteArray} {k : Nat} (h : ¬ k + 1 < s.size) (a b : UInt8) : begL (s.data.toList.drop k) a b = false := beg_short (by rw [List.length_drop, szL]; omega)

/-- Lines put together; how long that may be. -/
def joinL : List (ByteArray × Bool) → List UInt8
  | [] => []
  | x :: r => x.1.data.toList ++ (if x.2 then [10] else []) ++ joinL r
def tot : List (ByteArray × Bool) → Nat
  | [] => 0
  | x :: r => x.1.size + 1 + tot r
theorem joinL_append (a b : List (ByteArray × Bool)) : joinL (a ++ b) = joinL a ++ joinL b := by
  induction a with
  | nil => rfl
  | cons x r ih => simp [joinL, ih]
theorem joinL_snoc (l : List (ByteArray × Bool)) (k : Nat) (h : k < l.length) : joinL (l.take (k + 1)) = joinL (l.take k) ++ (l[k]'h).1.data.toList ++ (if (l[k]'h).2 then [10] else []) := by
  rw [List.take_succ_eq_append_getElem h, joinL_append]; simp [joinL]
theorem tot_append (a b : List (ByteArray × Bool)) : tot (a ++ b) = tot a + tot b := by
  induction a with
  | nil => simp [tot]
  | cons x r ih => simp only [List.cons_append, tot, ih]; omega
theorem tot_take_le (l : List (ByteArray × Bool)) (k : Nat) : tot (l.take k) ≤ tot l := by
  have := tot_append (l.take k) (l.drop k)
  rw [List.take_append_drop] at this; omega
theorem joinL_length (l : List (ByteArray × Bool)) : (joinL l).length ≤ tot l := by
  induction l with
  | nil => simp [joinL]
  | cons x r ih =>
    simp only [joinL, tot, List.length_append, szL]
    split <;> simp <;> omega

end Ln
end Go.Proofs.YtfbhofomcenabaaGreatDoor
namespace Go.Proofs.YtfbhofomcenabaaGreatDoor
namespace Ln

/-- A text's lines: the text, and whether a line feed ends it. -/
def spl : List UInt8 → List (List UInt8 × Bool)
  | [] => []
  | c :: r => if c == 10 then ([], true) :: spl r else match spl r with
    | [] => [([c], false)]
    | (h, b) :: t => (c :: h, b) :: t
def glue (p : List UInt8) : List (List UInt8 × Bool) → List (List UInt8 × Bool)
  | [] => if p.isEmpty then [] else [(p, false)]
  | (h, b) :: t => (p ++ h, b) :: t
def lnB (x : List UInt8 × Bool) : ByteArray × Bool := (bs x.1, x.2)
def splB (s : ByteArray) : List (ByteArray × Bool) := (spl s.data.toList).map lnB
theorem spl_lf (r : List UInt8) : spl (10 :: r) = ([], true) :: spl r := by simp [spl]
theorem spl_other {c : UInt8} (h : (c == 10) = false) (r : List UInt8) : spl (c :: r) = glue [c] (spl r) := by
  simp only [spl, h]
  cases spl r <;> simp [glue]
theorem glue_glue (p : List UInt8) (c : UInt8) (x : List (List UInt8 × Bool)) : glue p (glue [c] x) = glue (p ++ [c]) x := by
  cases x <;> simp [glue]
theorem glue_nil (x : List (List UInt8 × Bool)) : glue [] x = x := by
  cases x <;> simp [glue]
theorem seg_snoc (s : ByteArray) (f k : Nat) (hf : f ≤ k) (h : k < s.size) : (s.data.toList.drop f).take (k + 1 - f) = (s.data.toList.drop f).take (k - f) ++ [s[k]] := by
  have e : k + 1 - f = (k - f) + 1 := by omega
  rw [e, List.take_succ_eq_append_getElem (by simp; omega)]
  congr 2
  simp only [List.getElem_drop]
  have : f + (k - f) = k := by omega
  simp only [this]
  rfl
theorem byte_lf {c : UInt8} (h : ((c.toNat : Int) == 10) = true) : c = 10 := by
  rw [← UInt8.toNat_inj]; simp at h; simp; omega
theorem byte_nlf {c : UInt8} (h : ((c.toNat : Int) == 10) = false) : (c == 10) = false := by
  rw [beq_eq_false_iff_ne]; intro e; subst e; simp at h
theorem extract_bs (s : ByteArray) (f k : Nat) : s.extract f k = bs ((s.data.toList.drop f).take (k - f)) := Lib.extract_eq s f k
def Apart (s : ByteArray) (done : List (ByteArray × Bool)) (f k : Nat) : Prop :=
  splB s = done ++ (glue ((s.data.toList.drop f).take (k - f)) (spl (s.data.toList.drop k))).map lnB
theorem apart_start (s : ByteArray) : Apart s [] 0 0 := by
  simp only [Apart, splB]
  rw [show s.data.toList.drop 0 = s.data.toList from rfl, show s.data.toList.take (0 - 0) = [] from rfl, glue_nil]; simp
theorem apart_other {s : ByteArray} {done : List (ByteArray × Bool)} {f k : Nat} (hf : f ≤ k) (h : k < s.size) (hc : ((s[k].toNat : Int) == 10) = false) (ha : Apart s done f k) : Apart s done f (k + 1) := by
  simp only [Apart] at ha ⊢
  rw [ha, drop_cons s k h, spl_other (byte_nlf hc), glue_glue, seg_snoc s f k hf h]
theorem apart_lf {s : ByteArray} {done : List (ByteArray × Bool)} {f k : Nat} (h : k < s.size) (hc : ((s[k].toNat : Int) == 10) = true) (ha : Apart s done f k) : Apart s (done ++ [(s.extract f k, true)]) (k + 1) (k + 1) := by
  simp only [Apart] at ha ⊢
  rw [ha, drop_cons s k h, byte_lf hc, spl_lf, extract_bs]
  rw [show k + 1 - (k + 1) = 0 from by omega, List.take_zero, glue_nil]
  simp [glue, lnB]
theorem apart_end {s : ByteArray} {done : List (ByteArray × Bool)} {f k : Nat} (h : s.size ≤ k) (ha : Apart s done f k) (hf : f < s.size) : splB s = done ++ [(s.extract f s.size, false)] := by
  simp only [Apart] at ha
  have e1 : s.data.toList.drop k = [] := List.drop_eq_nil_of_le (by rw [szL]; exact h)
  have e2 : (s.data.toList.drop f).take (k - f) = s.data.toList.drop f := List.take_of_length_le (by rw [List.length_drop, szL]; omega)
  have e3 : (s.data.toList.drop f).take (s.size - f) = s.data.toList.drop f := List.take_of_length_le (by rw [List.length_drop, szL]; omega)
  rw [ha, e1, extract_bs, e2, e3]
  have : (s.data.toList.drop f).isEmpty = false := by rw [drop_cons s f hf]; rfl
  simp only [spl, glue, this]
  simp [lnB]
theorem apart_full {s : ByteArray} {done : List (ByteArray × Bool)} {f k : Nat} (h : s.size ≤ k) (ha : Apart s done f k) (hf : ¬ f < s.size) : splB s = done := by
  simp only [Apart] at ha
  have e1 : s.data.toList.drop k = [] := List.drop_eq_nil_of_le (by rw [szL]; exact h)
  have e2 : s.data.toList.drop f = [] := List.drop_eq_nil_of_le (by rw [szL]; omega)
  rw [ha, e1, e2]
  simp [spl, glue]
theorem spl_len (l : List UInt8) : (spl l).length ≤ l.length := by
  induction l with
  | nil => simp [spl]
  | cons c r ih =>
    cases hc : (c == 10)
    · rw [spl_other hc]
      cases h : spl r with
      | nil => simp [glue]
      | cons x t => rw [h] at ih; obtain ⟨a, b⟩ := x; simp [glue] at ih ⊢; omega
    · have : c = 10 := by simpa using hc
      subst this
      rw [spl_lf]; simp; exact ih
theorem splB_len (s : ByteArray) : (splB s).length ≤ s.size := by
  have := spl_len s.data.toList
  rw [szL] at this; simpa [splB] using this
theorem spl_tot (l : List UInt8) : tot ((spl l).map lnB) ≤ 2 * l.length := by
  induction l with
  | nil => simp [spl, tot]
  | cons c r ih =>
    cases hc : (c == 10)
    · rw [spl_other hc]
      cases h : spl r with
      | nil => simp [glue, tot, lnB, bs_size]; omega
      | cons x t => rw [h] at ih; obtain ⟨a, b⟩ := x; simp [glue, tot, lnB, bs_size] at ih ⊢; omega
    · have : c = 10 := by simpa using hc
      subst this
      rw [spl_lf]; simp [tot, lnB, bs_size]; omega
theorem splB_tot (s : ByteArray) : tot (splB s) ≤ 2 * s.size := by
  have := spl_tot s.data.toList
  rw [szL] at this; exact this
theorem tot_mem {l : List (ByteArray × Bool)} {x : ByteArray × Bool} (h : x ∈ l) : x.1.size ≤ tot l := by
  induction l with
  | nil => cases h
  | cons y r ih =>
    simp only [tot]
    rcases List.mem_cons.1 h with rfl | h
    · omega
    · have := ih h; omega
theorem splB_mem (s : ByteArray) : ∀ x ∈ splB s, x.1.size ≤ 2 * s.size := fun _ hx => Nat.le_trans (tot_mem hx) (splB_tot s)
/-- Taken apart and put together. -/
theorem join_spl (l : List UInt8) : joinL ((spl l).map lnB) = l := by
  induction l with
  | nil => rfl
  | cons c r ih =>
    cases hc : (c == 10)
    · rw [spl_other hc]
      cases h : spl r with
      | nil =>
        rw [h] at ih
        have ih : [] = r := ih
        subst ih
        simp [glue, joinL, lnB, data_bs]
      | cons x t =>
        rw [h] at ih
        obtain ⟨a, b⟩ := x
        simp [glue, joinL, lnB, data_bs] at ih ⊢
        exact ih
    · have : c = 10 := by simpa using hc
      subst this
      rw [spl_lf]; simp [joinL, lnB, data_bs, ih]

/-- How many lines there are. -/
def lfs (l : List UInt8) : Nat := (l.filter fun c => c == 10).length
def lastLf (l : List UInt8) : Bool := l.getLast? == some 10
theorem spl_count (l : List UInt8) : (spl l).length = lfs l + (if l.isEmpty || lastLf l then 0 else 1) := by
  induction l with
  | nil => simp [spl, lfs]
  | cons c r ih =>
    cases hc : (c == 10)
    · rw [spl_other hc]
      cases h : spl r with
      | nil =>
        have hr : r = [] := by
          cases r with
          | nil => rfl
          | cons d t =>
            exfalso
            cases hd : (d == 10)
            · rw [spl_other hd] at h; cases hs : spl t with
              | nil => rw [hs] at h; simp [glue] at h
              | cons x y => rw [hs] at h; obtain ⟨a, b⟩ := x; simp [glue] at h
            · have : d = 10 := by simpa using hd
              subst this; rw [spl_lf] at h; cases h
        subst hr
        simp [glue, lfs, hc, lastLf]
      | cons x t =>
        have hr : r ≠ [] := by intro e; subst e; cases h
        obtain ⟨a, b⟩ := x
        rw [h] at ih
        have e1 : lastLf (c :: r) = lastLf r := by
          unfold lastLf
          cases r with
          | nil => exact absurd rfl hr
          | cons d t => rw [List.getLast?_cons_cons]
        have e2 : lfs (c :: r) = lfs r := by simp [lfs, hc]
        have e3 : r.isEmpty = false := by simpa using hr
        rw [e1, e2]
        rw [e3] at ih
        simpa [glue] using ih
    · have : c = 10 := by simpa using hc
      subst this
      rw [spl_lf]
      have e2 : lfs (10 :: r) = lfs r + 1 := by simp [lfs]
      rw [e2]
      cases r with
      | nil => simp [spl, lfs, lastLf]
      | cons d t =>
        have e1 : lastLf (10 :: d :: t) = lastLf (d :: t) := by unfold lastLf; rw [List.getLast?_cons_cons]
        rw [e1]
        simp only [List.length_cons, ih]
        simp
        omega

theorem lfs_snoc (s : ByteArray) (k : Nat) (h : k < s.size) : lfs (s.data.toList.take (k + 1)) = lfs (s.data.toList.take k) + (if ((s[k].toNat : Int) == 10) = true then 1 else 0) := by
  rw [take_snoc s k h, lfs, List.filter_append, List.length_append, ← lfs]
  cases hc : ((s[k].toNat : Int) == 10)
  · have := byte_nlf hc; simp [this]
  · have := byte_lf hc; simp [this]
theorem lfs_le (l : List UInt8) : lfs l ≤ l.length := List.length_filter_le _ _
theorem last_at {s : ByteArray} (h : 0 < s.size) : lastLf s.data.toList = ((s[s.size - 1].toNat : Int) == 10) := by
  have e : s.data.toList = s.data.toList.take (s.size - 1) ++ [s[s.size - 1]] := by
    have := take_snoc s (s.size - 1) (by omega)
    rwa [take_all s _ (by omega)] at this
  unfold lastLf
  rw [e, List.getLast?_concat]
  cases hc : ((s[s.size - 1].toNat : Int) == 10)
  · have := byte_nlf hc; rw [beq_eq_false_iff_ne] at this; simpa using this
  · rw [byte_lf hc]; rfl
/-- Are two lists of lines one? -/
def sameL : List (ByteArray × Bool) → List (ByteArray × Bool) → Bool
  | [], [] => true
  | x :: r, y :: t => (x.1.toList == y.1.toList) && (x.2 == y.2) && sameL r t
  | _, _ => false
theorem same_step {a b : List (ByteArray × Bool)} {k : Nat} (ha : k < a.length) (hb : k < b.length) (h1 : ((a[k]'ha).1.toList == (b[k]'hb).1.toList) = true) (h2 : ((a[k]'ha).2 == (b[k]'hb).2) = true) : sameL (a.drop k) (b.drop k) = sameL (a.drop (k + 1)) (b.drop (k + 1)) := by
  rw [List.drop_eq_getElem_cons ha, List.drop_eq_getElem_cons hb]; simp only [sameL, h1, h2, Bool.true_and]
theorem same_stop {a b : List (ByteArray × Bool)} {k : Nat} (ha : k < a.length) (hb : k < b.length) (h : ((a[k]'ha).1.toList == (b[k]'hb).1.toList) = false ∨ ((a[k]'ha).2 == (b[k]'hb).2) = false) : sameL (a.drop k) (b.drop k) = false := by
  rw [List.drop_eq_getElem_cons ha, List.drop_eq_getElem_cons hb]
  rcases h with h | h <;> simp only [sameL, h] <;> simp
theorem same_len : ∀ {a b : List (ByteArray × Bool)}, ¬ a.length = b.length → sameL a b = false
  | [], [], h => absurd rfl h
  | [], _ :: _, _ => rfl
  | _ :: _, [], _ => rfl
  | x :: r, y :: t, h => by
    have := @same_len r t (by simpa using h)
    simp only [sameL, this, Bool.and_false]
theorem same_refl : ∀ (a : List (ByteArray × Bool)), sameL a a = true
  | [] => rfl
  | x :: r => by simp only [sameL, same_refl r]; simp
/-- The first line feed. -/
def firstP : List UInt8 → List UInt8 → List UInt8 × List UInt8 × Bool
  | p, [] => (p, [], false)
  | p, c :: r => if c == 10 then (p, r, true) else firstP (p ++ [c]) r
theorem first_other {p : List UInt8} {c : UInt8} {r : List UInt8} (h : (c == 10) = false) : firstP p (c :: r) = firstP (p ++ [c]) r := by rw [firstP, if_neg (by rw [h]; simp)]
theorem first_lf {p r : List UInt8} : firstP p (10 :: r) = (p, r, true) := rfl

end Ln
end Go.Proofs.YtfbhofomcenabaaGreatDoor
namespace Go.Proofs.YtfbhofomcenabaaGreatDoor
open Go.RowKit

def bcells (l : List UInt8) : List Value := l.map fun b => Value.int .u8 b.toNat
theorem bcells_append (a b : List UInt8) : bcells (a ++ b) = bcells a ++ bcells b := by simp [bcells]
theorem bcells_length (l : List UInt8) : (bcells l).length = l.length := by simp [bcells]
theorem strCells_eq (s : ByteArray) : Lib.strCells s = bcells s.data.toList := rfl

theorem Tryz.infoByte : (Tryz.prog.info? 5).map (fun i => (i.zero, i.size, i.bytes)) = some (some (.int .u8 0), 1, 1) := by kernel_rfl

/-- The string of a row of bytes that is not nil. -/
theorem conv_own {w : World} {base g cap : Nat} {l : List UInt8} (h : w.ownsRow base 5 1 (.slice (some ⟨g, 0, none⟩) l.length cap) l.length (bcells l)) :
    (convert 63 9 (.slice (some ⟨g, 0, none⟩) l.length cap)).run Tryz.prog w = .ok (.string ⟨l.toArray⟩) w := by
  refine run_convert_bytes_back w 63 9 5 ⟨g, 0, none⟩ cap l Tryz.underlying63 Tryz.underlying5 Tryz.underlying9 (fun j hj => ?_)
  have h1 := h.cellAt j (by omega)
  have e : (⟨g, 0, none⟩ : Addr).add j = ⟨g, j, none⟩ := by unfold Addr.add; split <;> simp_all
  rw [e, h1]
  simp [bcells, List.getElem?_eq_getElem hj]

end Go.Proofs.YtfbhofomcenabaaGreatDoor
namespace Go.Proofs.YtfbhofomcenabaaGreatDoor
open Go.RowKit

theorem ret_int {k : IntKind} {a b : Int} (h : a = b) : Ending.returned (.int k a) = .returned (.int k b) := by rw [h]
end Go.Proofs.YtfbhofomcenabaaGreatDoor
namespace Go.Proofs.YtfbhofomcenabaaGreatDoor
open Go.RowKit

/-- The tables letters  and octals  hold what the program's text lays. -/
structure Tabs (w : World) : Prop where
  size : 6 ≤ w.heap.size
  lets : ∀ i, i < 14 → w.cell? ⟨1, i, none⟩ = some (.int .u8 (Ln.lets.getD i 0 : Nat))
  octs : ∀ i, i < 6 → w.cell? ⟨2, i, none⟩ = some (.int .i64 (Ln.octs.getD i 0 : Nat))

theorem Tabs.below {w w' : World} {B : Nat} (h : Tabs w) (hB : 6 ≤ B) (hb : Below B w w') : Tabs w' :=
  ⟨Nat.le_trans h.size hb.size, fun i hi => (hb.cell (p := ⟨1, i, none⟩) (by show 1 < B; omega)).trans (h.lets i hi), fun i hi => (hb.cell (p := ⟨2, i, none⟩) (by show 2 < B; omega)).trans (h.octs i hi)⟩
theorem Tabs.alloc {w : World} (h : Tabs w) (o : Obj) : Tabs (w.alloc o) := h.below h.size ((Below.refl _ _).alloc (Nat.le_refl _) o)


set_option maxRecDepth 100000 in
set_option maxHeartbeats 1000000 in
theorem oct_any (lo hi : Int) (w : World) (T : Tabs w) (hhi : 0 ≤ hi) :
    Calls Tryz.prog 106 #[.int .i64 lo, .int .i64 hi] w fun e w' => e = .returned (.bool (Ln.octB lo hi)) ∧ Below w.heap.size w w' := by
  have c0 : w.cell? ⟨2, 0, none⟩ = some (.int .i64 0) := T.octs 0 (by decide)
  have c1 : w.cell? ⟨2, 1, none⟩ = some (.int .i64 6) := T.octs 1 (by decide)
  have c2 : w.cell? ⟨2, 2, none⟩ = some (.int .i64 14) := T.octs 2 (by decide)
  have c3 : w.cell? ⟨2, 3, none⟩ = some (.int .i64 31) := T.octs 3 (by decide)
  have c4 : w.cell? ⟨2, 4, none⟩ = some (.int .i64 127) := T.octs 4 (by decide)
  have c5 : w.cell? ⟨2, 5, none⟩ = some (.int .i64 255) := T.octs 5 (by decide)
  go_enter Tryz.func106, Tryz.ntmps106
  have i0 : ∀ w, (Instr.index 201 (.agg #[.int .i64 0, .int .i64 6, .int .i64 14, .int .i64 31, .int .i64 127, .int .i64 255]) (.int .i64 0)).run Tryz.prog w = .ok (.agg #[.int .i64 0, .int .i64 6]) w := fun _ => by kernel_rfl
  have i1 : ∀ w, (Instr.index 201 (.agg #[.int .i64 0, .int .i64 6, .int .i64 14, .int .i64 31, .int .i64 127, .int .i64 255]) (.int .i64 1)).run Tryz.prog w = .ok (.agg #[.int .i64 14, .int .i64 31]) w := fun _ => by kernel_rfl
  have i2 : ∀ w, (Instr.index 201 (.agg #[.int .i64 0, .int .i64 6, .int .i64 14, .int .i64 31, .int .i64 127, .int .i64 255]) (.int .i64 2)).run Tryz.prog w = .ok (.agg #[.int .i64 127, .int .i64 255]) w := fun _ => by kernel_rfl
  go_wp2_with fail
  clear c0 c1 c2 c3 c4 c5
  go_loopw [8] (fun i wr => ∃ k : Nat, k ≤ 3 ∧ i = .int .i64 k ∧ Hid (Ln.octB lo hi = Ln.octF lo hi k) ∧ Below w.heap.size w wr) (fun i _ => 3 - (intOf i).toNat)
  case atStart => exact ⟨0, by omega, rfl, rfl, Below.refl _ _⟩
  case round =>
    obtain ⟨k, hk, rfl, HC, hnx⟩ := hrel
    have hsz := hnx.size
    rcases (show k = 0 ∨ k = 1 ∨ k = 2 ∨ k = 3 by omega) with rfl | rfl | rfl | rfl
    · by_cases p1 : lo ≤ 6
      · by_cases p2 : 0 ≤ hi
        · have HE : Hid (Ln.octB lo hi = true) := HC.out.trans (Ln.oct0' ⟨p1, p2⟩)
          go_wp2
          go_ret
          exact ⟨ret_bool HE.out.symm, hnx.alloc hsz _⟩
        · exact absurd hhi p2
      · have HE : Hid (Ln.octB lo hi = Ln.octF lo hi 1) := HC.out.trans (Ln.oct0 (fun q => p1 q.1))
        have p1' : decide (lo ≤ 6) = false := by simpa using p1
        go_wp2
        go_roundw
        case rel => exact ⟨1, by omega, rfl, HE, hnx.alloc hsz _⟩
        case measure => simp [intOf]
    · by_cases p1 : lo ≤ 31
      · by_cases p2 : 14 ≤ hi
        · have HE : Hid (Ln.octB lo hi = true) := HC.out.trans (Ln.oct1' ⟨p1, p2⟩)
          go_wp2
          go_ret
          exact ⟨ret_bool HE.out.symm, hnx.alloc hsz _⟩
        · have HE : Hid (Ln.octB lo hi = Ln.octF lo hi 2) := HC.out.trans (Ln.oct1 (fun q => p2 q.2))
          go_wp2
          go_roundw
          case rel => exact ⟨2, by omega, rfl, HE, hnx.alloc hsz _⟩
          case measure => simp [intOf]
      · have HE : Hid (Ln.octB lo hi = Ln.octF lo hi 2) := HC.out.trans (Ln.oct1 (fun q => p1 q.1))
        have p1' : decide (lo ≤ 31) = false := by simpa using p1
        go_wp2
        go_roundw
        case rel => exact ⟨2, by omega, rfl, HE, hnx.alloc hsz _⟩
        case measure => simp [intOf]
    · by_cases p1 : lo ≤ 255
      · by_cases p2 : 127 ≤ hi
        · have HE : Hid (Ln.octB lo hi = true) := HC.out.trans (Ln.oct2' ⟨p1, p2⟩)
          go_wp2
          go_ret
          exact ⟨ret_bool HE.out.symm, hnx.alloc hsz _⟩
        · have HE : Hid (Ln.octB lo hi = Ln.octF lo hi 3) := HC.out.trans (Ln.oct2 (fun q => p2 q.2))
          go_wp2
          go_roundw
          case rel => exact ⟨3, by omega, rfl, HE, hnx.alloc hsz _⟩
          case measure => simp [intOf]
      · have HE : Hid (Ln.octB lo hi = Ln.octF lo hi 3) := HC.out.trans (Ln.oct2 (fun q => p1 q.1))
        have p1' : decide (lo ≤ 255) = false := by simpa using p1
        go_wp2
        go_roundw
        case rel => exact ⟨3, by omega, rfl, HE, hnx.alloc hsz _⟩
        case measure => simp [intOf]
    · have HE : Hid (Ln.octB lo hi = false) := HC.out
      go_wp2
      go_ret
      exact ⟨ret_bool HE.out.symm, hnx⟩
end Go.Proofs.YtfbhofomcenabaaGreatDoor
namespace Go.Proofs.YtfbhofomcenabaaGreatDoor
open Go.RowKit

theorem grown_below {w w1 w' : World} {row : Option Nat} (hb : Below w.heap.size w w1) (h : w1.grownBy w' row) : w.grownBy w' row :=
  ⟨h.os.trans hb.os, h.tape.trans hb.tape, h.output.trans hb.output, Nat.le_trans hb.size h.size, fun k hk hne => (h.block k (Nat.lt_of_lt_of_le hk hb.size) hne).trans (hb.block k hk)⟩
theorem at_ge {w : World} {v v' : Value} {m : Nat} (h : v'.ownBlock = v.ownBlock ∨ v'.ownBlock = some m) (hm : w.heap.size ≤ m) : v'.ownBlock = v.ownBlock ∨ ∃ g, v'.ownBlock = some g ∧ w.heap.size ≤ g := by
  rcases h with h | h
  · exact .inl h
  · exact .inr ⟨_, h, hm⟩
theorem alloc_below (w : World) (o : Obj) : Below w.heap.size w (w.alloc o) := (Below.refl _ _).alloc (Nat.le_refl _) o

theorem cell_four_new (w : World) (a b c d : Value) (t : TypeId) : ∀ j u, [a, b, c, d][j]? = some u → (w.alloc (.cells #[a, b, c, d] t)).cell? ((⟨w.heap.size, 0, none⟩ : Addr).add j) = some u := by
  intro j u hj
  match j, hj with
  | 0, hj => simp at hj; subst hj; simp [Addr.add]
  | 1, hj => simp at hj; subst hj; simp [Addr.add]
  | 2, hj => simp at hj; subst hj; simp [Addr.add]
  | 3, hj => simp at hj; subst hj; simp [Addr.add]
  | j + 4, hj => simp at hj

theorem one_ints {k : IntKind} (l : List Value) (h : ∀ u ∈ l, ∃ n, u = .int k n := by simp) : ∀ u ∈ l, u.oneCell' = true := fun u hu => by
  obtain ⟨n, rfl⟩ := h u hu
  rfl
theorem bcells_oct (b : UInt8) : bcells [92, 48 + b / 64, 48 + b / 8 % 8, 48 + b % 8] = [.int .u8 92, .int .u8 (48 + (b.toNat : Int) / 64), .int .u8 (48 + (b.toNat : Int) / 8 % 8), .int .u8 (48 + (b.toNat : Int) % 8)] := by
  have hb : b.toNat < 256 := b.toNat_lt
  have e1 : (48 + b / 64).toNat = 48 + b.toNat / 64 := by simp [UInt8.toNat_add, UInt8.toNat_div]; omega
  have e2 : (48 + b / 8 % 8).toNat = 48 + b.toNat / 8 % 8 := by simp [UInt8.toNat_add, UInt8.toNat_div, UInt8.toNat_mod]; omega
  have e3 : (48 + b % 8).toNat = 48 + b.toNat % 8 := by simp [UInt8.toNat_add, UInt8.toNat_mod]; omega
  simp only [bcells, List.map_cons, List.map_nil, e1, e2, e3]
  simp
theorem bcells_let {n : Nat} (h : n < 256) : bcells [92, UInt8.ofNat n] = [.int .u8 92, .int .u8 (n : Int)] := by
  simp only [bcells, List.map_cons, List.map_nil, UInt8.toNat_ofNat', Nat.mod_eq_of_lt (show n < 2 ^ 8 by omega)]
  rfl

set_option maxRecDepth 100000 in
set_option maxHeartbeats 2000000 in
theorem tell_any (v : Value) (l : List UInt8) (b : UInt8) (base : Nat) (w : World) (T : Tabs w) (hbase : base ≤ w.heap.size) (hown : w.ownsRow base 5 1 v l.length (bcells l)) (hl : l.length ≤ 1073741824) :
    Calls Tryz.prog 73 #[v, .int .u8 b.toNat] w fun e w' => ∃ v', e = .returned v' ∧ w'.ownsRow base 5 1 v' (l ++ Ln.toldL b).length (bcells (l ++ Ln.toldL b)) ∧ w.grownBy w' v.ownBlock ∧
      (v'.ownBlock = v.ownBlock ∨ ∃ g, v'.ownBlock = some g ∧ w.heap.size ≤ g) := by
  obtain ⟨i0, hi, hz0, hz1, hz2⟩ := info_parts Tryz.infoByte
  have hbn : b.toNat < 256 := b.toNat_lt
  cases h1 : ((b.toNat : Int) == 92)
  · by_cases h2 : b.toNat < 14
    · have hc : w.cell? ⟨1, b.toNat, none⟩ = some (.int .u8 (Ln.lets.getD b.toNat 0 : Nat)) := T.lets _ h2
      obtain ⟨n, hn⟩ : ∃ n, Ln.lets.getD b.toNat 0 = n := ⟨_, rfl⟩
      rw [hn] at hc
      have HN : Hid (Ln.lets.getD b.toNat 0 = n) := hn
      clear hn
      by_cases h3 : n = 0
      · subst h3
        have h3' : (((0 : Nat) : Int) != 0) = false := rfl
        have hL : Ln.letB b = 0 := HN.out
        cases h4 : Ln.octB b.toNat b.toNat
        · have HT : Hid (Ln.toldL b = [b]) := Ln.told_plain h1 hL h4
          clear hL
          go_enter Tryz.func73, Tryz.ntmps73
          go_wp2_with fail
          refine (oct_any _ _ _ T (by omega)).mono ?_
          rintro e w1 ⟨rfl, hbo⟩
          have hown1 := own_below hown hbo
          have hbs := hbo.size
          go_wp2_with (at_builtin; refine wpList_append_own_at _ rfl (.tmp 46) (.tmp 48) 63 rfl base 5 i0 (.int .u8 0) 1 1 Tryz.underlying63 hi hz0 hz1 hz2 rfl (by decide) _ _ _ rfl (hown1.alloc _) ⟨w1.heap.size, 0, none⟩ 1 1 [.int .u8 (b.toNat : Int)] rfl rfl (cell_one_new _ _ _) ?c2 ?c3 ?c4 ?c5 ?_)
          case c2 => exact one_ints (k := .u8) _
          case c3 => unfold maxLen; omega
          case c4 => omega
          case c5 => simp; omega
          intro v' w2 hown' hgrow _ hat
          have R1 : w.grownBy w2 v.ownBlock := grown_below (hbo.trans ((Below.refl _ _).alloc hbs _)) hgrow
          have R2 := at_ge (w := w) hat (by omega)
          have R3 : w2.ownsRow base 5 1 v' (l ++ Ln.toldL b).length (bcells (l ++ Ln.toldL b)) := by
            rw [HT.out, bcells_append, List.length_append]; show w2.ownsRow base 5 1 v' (l.length + 1) (bcells l ++ [.int .u8 (b.toNat : Int)]); exact hown'
          clear hgrow hat hown'
          go_wp2
          go_ret
          exact ⟨v', rfl, R3, R1, R2⟩
        · have HT : Hid (Ln.toldL b = [92, 48 + b / 64, 48 + b / 8 % 8, 48 + b % 8]) := Ln.told_oct h1 hL h4
          clear hL
          go_enter Tryz.func73, Tryz.ntmps73
          go_wp2_with fail
          refine (oct_any _ _ _ T (by omega)).mono ?_
          rintro e w1 ⟨rfl, hbo⟩
          have hown1 := own_below hown hbo
          have hbs := hbo.size
          go_wp2_with (at_builtin; refine wpList_append_own_at _ rfl (.tmp 33) (.tmp 44) 63 rfl base 5 i0 (.int .u8 0) 1 1 Tryz.underlying63 hi hz0 hz1 hz2 rfl (by decide) _ _ _ rfl (hown1.alloc _) ⟨w1.heap.size, 0, none⟩ 4 4 [.int .u8 92, .int .u8 (48 + (b.toNat : Int) / 64), .int .u8 (48 + (b.toNat : Int) / 8 % 8), .int .u8 (48 + (b.toNat : Int) % 8)] rfl rfl (cell_four_new _ _ _ _ _ _) ?c2 ?c3 ?c4 ?c5 ?_)
          case c2 => exact one_ints (k := .u8) _
          case c3 => unfold maxLen; omega
          case c4 => omega
          case c5 => simp; omega
          intro v' w2 hown' hgrow _ hat
          have R1 : w.grownBy w2 v.ownBlock := grown_below (hbo.trans ((Below.refl _ _).alloc hbs _)) hgrow
          have R2 := at_ge (w := w) hat (by omega)
          have R3 : w2.ownsRow base 5 1 v' (l ++ Ln.toldL b).length (bcells (l ++ Ln.toldL b)) := by
            rw [HT.out, bcells_append, List.length_append]; rw [bcells_oct]; exact hown'
          clear hgrow hat hown'
          go_wp2
          go_ret
          exact ⟨v', rfl, R3, R1, R2⟩
      · have h3' : ((n : Int) != 0) = true := by simp; omega
        have hL : Ln.letB b = n := HN.out
        have HT : Hid (Ln.toldL b = [92, UInt8.ofNat n]) := by rw [← hL]; exact Ln.told_let h1 (by rw [hL]; exact h3)
        have HNb : n < 256 := by rw [← hL]; exact Ln.let_lt b
        clear hL
        go_enter Tryz.func73, Tryz.ntmps73
        go_wp2_with (at_builtin; refine wpList_append_own_at _ rfl (.tmp 21) (.tmp 25) 63 rfl base 5 i0 (.int .u8 0) 1 1 Tryz.underlying63 hi hz0 hz1 hz2 rfl (by decide) _ _ _ rfl (hown.alloc _) ⟨w.heap.size, 0, none⟩ 2 2 [.int .u8 92, .int .u8 (n : Int)] rfl rfl (cell_two_new _ _ _ _) ?c2 ?c3 ?c4 ?c5 ?_)
        case c2 => exact one_ints (k := .u8) _
        case c3 => unfold maxLen; omega
        case c4 => omega
        case c5 => simp; omega
        intro v' w2 hown' hgrow _ hat
        have R1 : w.grownBy w2 v.ownBlock := grown_below (alloc_below w _) hgrow
        have R2 := at_ge (w := w) hat (by omega)
        have R3 : w2.ownsRow base 5 1 v' (l ++ Ln.toldL b).length (bcells (l ++ Ln.toldL b)) := by
          rw [HT.out, bcells_append, List.length_append]; rw [bcells_let HNb]; exact hown'
        clear hgrow hat hown'
        go_wp2
        go_ret
        exact ⟨v', rfl, R3, R1, R2⟩
    · have h2' : decide ((b.toNat : Int) < 14) = false := by simp; omega
      have hL : Ln.letB b = 0 := Ln.let_big (by omega)
      cases h4 : Ln.octB b.toNat b.toNat
      · have HT : Hid (Ln.toldL b = [b]) := Ln.told_plain h1 hL h4
        clear hL
        go_enter Tryz.func73, Tryz.ntmps73
        go_wp2_with fail
        refine (oct_any _ _ _ T (by omega)).mono ?_
        rintro e w1 ⟨rfl, hbo⟩
        have hown1 := own_below hown hbo
        have hbs := hbo.size
        go_wp2_with (at_builtin; refine wpList_append_own_at _ rfl (.tmp 46) (.tmp 48) 63 rfl base 5 i0 (.int .u8 0) 1 1 Tryz.underlying63 hi hz0 hz1 hz2 rfl (by decide) _ _ _ rfl (hown1.alloc _) ⟨w1.heap.size, 0, none⟩ 1 1 [.int .u8 (b.toNat : Int)] rfl rfl (cell_one_new _ _ _) ?c2 ?c3 ?c4 ?c5 ?_)
        case c2 => exact one_ints (k := .u8) _
        case c3 => unfold maxLen; omega
        case c4 => omega
        case c5 => simp; omega
        intro v' w2 hown' hgrow _ hat
        have R1 : w.grownBy w2 v.ownBlock := grown_below (hbo.trans ((Below.refl _ _).alloc hbs _)) hgrow
        have R2 := at_ge (w := w) hat (by omega)
        have R3 : w2.ownsRow base 5 1 v' (l ++ Ln.toldL b).length (bcells (l ++ Ln.toldL b)) := by
          rw [HT.out, bcells_append, List.length_append]; show w2.ownsRow base 5 1 v' (l.length + 1) (bcells l ++ [.int .u8 (b.toNat : Int)]); exact hown'
        clear hgrow hat hown'
        go_wp2
        go_ret
        exact ⟨v', rfl, R3, R1, R2⟩
      · have HT : Hid (Ln.toldL b = [92, 48 + b / 64, 48 + b / 8 % 8, 48 + b % 8]) := Ln.told_oct h1 hL h4
        clear hL
        go_enter Tryz.func73, Tryz.ntmps73
        go_wp2_with fail
        refine (oct_any _ _ _ T (by omega)).mono ?_
        rintro e w1 ⟨rfl, hbo⟩
        have hown1 := own_below hown hbo
        have hbs := hbo.size
        go_wp2_with (at_builtin; refine wpList_append_own_at _ rfl (.tmp 33) (.tmp 44) 63 rfl base 5 i0 (.int .u8 0) 1 1 Tryz.underlying63 hi hz0 hz1 hz2 rfl (by decide) _ _ _ rfl (hown1.alloc _) ⟨w1.heap.size, 0, none⟩ 4 4 [.int .u8 92, .int .u8 (48 + (b.toNat : Int) / 64), .int .u8 (48 + (b.toNat : Int) / 8 % 8), .int .u8 (48 + (b.toNat : Int) % 8)] rfl rfl (cell_four_new _ _ _ _ _ _) ?c2 ?c3 ?c4 ?c5 ?_)
        case c2 => exact one_ints (k := .u8) _
        case c3 => unfold maxLen; omega
        case c4 => omega
        case c5 => simp; omega
        intro v' w2 hown' hgrow _ hat
        have R1 : w.grownBy w2 v.ownBlock := grown_below (hbo.trans ((Below.refl _ _).alloc hbs _)) hgrow
        have R2 := at_ge (w := w) hat (by omega)
        have R3 : w2.ownsRow base 5 1 v' (l ++ Ln.toldL b).length (bcells (l ++ Ln.toldL b)) := by
          rw [HT.out, bcells_append, List.length_append]; rw [bcells_oct]; exact hown'
        clear hgrow hat hown'
        go_wp2
        go_ret
        exact ⟨v', rfl, R3, R1, R2⟩
  · have hb : b = 92 := by rw [← UInt8.toNat_inj]; simp at h1; simp; omega
    have HT : Hid (Ln.toldL b = [92, 92]) := by rw [hb]; rfl
    clear hb
    go_enter Tryz.func73, Tryz.ntmps73
    go_wp2_with (at_builtin; refine wpList_append_own_at _ rfl _ _ 63 rfl base 5 i0 (.int .u8 0) 1 1 Tryz.underlying63 hi hz0 hz1 hz2 rfl (by decide) _ _ _ rfl (hown.alloc _) ⟨w.heap.size, 0, none⟩ 2 2 [.int .u8 92, .int .u8 92] rfl rfl (cell_two_new _ _ _ _) ?c2 ?c3 ?c4 ?c5 ?_)
    case c2 => intro u hu; simp at hu; subst hu; rfl
    case c3 => unfold maxLen; omega
    case c4 => omega
    case c5 => simp; omega
    intro v' w1 hown' hgrow _ hat
    have R1 : w.grownBy w1 v.ownBlock := grown_below (alloc_below w _) hgrow
    have R2 := at_ge (w := w) hat (by omega)
    clear hgrow hat
    go_wp2
    go_ret
    exact ⟨v', rfl, by rw [HT.out, bcells_append, List.length_append]; exact hown', R1, R2⟩
end Go.Proofs.YtfbhofomcenabaaGreatDoor
namespace Go.Proofs.YtfbhofomcenabaaGreatDoor
open Go.RowKit

namespace Ln
def qL (b : UInt8) : List UInt8 := if b = 34 then [92, 34] else toldL b
def quoS (l : List UInt8) : List UInt8 := 34 :: l.flatMap qL
def quoP (s : ByteArray) : ByteArray := bs (quoS s.data.toList ++ [34])
theorem qL_len (b : UInt8) : (qL b).length ≤ 4 := by
  unfold qL; split
  · simp
  · exact (told_len b).2
theorem quoS_snoc (s : ByteArray) (k : Nat) (h : k < s.size) : quoS (s.data.toList.take (k + 1)) = quoS (s.data.toList.take k) ++ qL s[k] := by
  rw [take_snoc s k h]; simp [quoS, List.flatMap_append]
theorem quoS_len (l : List UInt8) : (quoS l).length ≤ 4 * l.length + 1 := by
  unfold quoS
  induction l with
  | nil => simp
  | cons b r ih => have := qL_len b; simp only [List.flatMap_cons, List.length_cons, List.length_append] at ih ⊢; omega
theorem quoS_take (s : ByteArray) (k : Nat) (h : k ≤ s.size) : (quoS (s.data.toList.take k)).length ≤ 4 * k + 1 := by
  have := quoS_len (s.data.toList.take k)
  rw [List.length_take, szL] at this
  omega
theorem byte34 {c : UInt8} (h : ((c.toNat : Int) == 34) = true) : c = 34 := by
  rw [← UInt8.toNat_inj]; simp at h; simp; omega
theorem byteN34 {c : UInt8} (h : ((c.toNat : Int) == 34) = false) : c ≠ 34 := by
  intro e; subst e; simp at h
end Ln

theorem lit_owns (w : World) (b : Nat) (x : Int) (hb : b ≤ w.heap.size) : (w.alloc (.cells #[.int .u8 x] 5)).ownsRow b 5 1 (.slice (some ⟨w.heap.size, 0, none⟩) 1 1) 1 [.int .u8 x] :=
  World.ownsRow_lit w #[.int .u8 x] 1 hb (by decide) rfl

set_option maxRecDepth 100000 in
set_option maxHeartbeats 1000000 in
theorem quote_any (s : ByteArray) (w : World) (T : Tabs w) (hs : s.size ≤ 16777216) :
    Calls Tryz.prog 38 #[.string s] w fun e w' => e = .returned (.string (Ln.quoP s)) ∧ Below w.heap.size w w' := by
  obtain ⟨i0, hi, hz0, hz1, hz2⟩ := info_parts Tryz.infoByte
  have T2 := T.size
  have ho0 := lit_owns w w.heap.size 34 (Nat.le_refl _)
  have hb0 : Below w.heap.size w (w.alloc (.cells #[.int .u8 34] 5)) := (Below.refl _ _).alloc (Nat.le_refl _) _
  go_enter Tryz.func38, Tryz.ntmps38
  go_wp2_with fail
  generalize w.alloc (.cells #[.int .u8 34] 5) = w0 at ho0 hb0 ⊢
  go_loopw [3, 8] (fun v i wr => ∃ (k : Nat) (Q : List UInt8), k ≤ s.size ∧ i = .int .i64 k ∧ Hid (Ln.quoS (s.data.toList.take k) = Q) ∧ 1 ≤ Q.length ∧ Q.length ≤ 4 * k + 1 ∧ wr.ownsRow w.heap.size 5 1 v Q.length (bcells Q) ∧ Tabs wr ∧ Below w.heap.size w wr) (fun _ i _ => s.size - (intOf i).toNat)
  case atStart => exact ⟨0, [34], Nat.zero_le _, rfl, rfl, by simp, by simp, ho0, T.below T2 hb0, hb0⟩
  case round =>
    obtain ⟨k, Q, hk, rfl, HQ, hQ1, hQ2, hown, Tr, hnx⟩ := hrel
    have hsz := hnx.size
    by_cases hlt : k < s.size
    · have hst := Ln.quoS_snoc s k hlt
      rw [HQ.out] at hst
      have hql := Ln.qL_len s[k]
      have i1 : (k : Int) < (s.size : Int) := by omega
      cases hq : ((s[k].toNat : Int) == 34)
      · have e : Ln.qL s[k] = Ln.toldL s[k] := by rw [Ln.qL, if_neg (Ln.byteN34 hq)]
        have HS : Hid (Ln.quoS (s.data.toList.take (k + 1)) = Q ++ Ln.toldL s[k]) := by rw [e] at hst; exact hst
        have htl := Ln.told_len s[k]
        clear hst e hql HQ
        go_wp2_with fail
        refine (tell_any _ Q s[k] w.heap.size _ Tr hsz hown (by omega)).mono ?_
        rintro e w2 ⟨v2, rfl, hown2, hgr2, _⟩
        have hB2 : Below w.heap.size w w2 := hnx.grown hgr2 hsz (fun g hg => (hown.lt g hg).1)
        clear hgr2
        go_wp2_with fail
        go_roundw
        case rel => exact ⟨k + 1, Q ++ Ln.toldL s[k], by omega, by first | rfl | go_num, HS, by simp; omega, by simp; omega, hown2, T.below T2 hB2, hB2⟩
        case measure => simp [intOf]; omega
      · have e : Ln.qL s[k] = [92, 34] := by rw [Ln.qL, if_pos (Ln.byte34 hq)]
        have HS : Hid (Ln.quoS (s.data.toList.take (k + 1)) = Q ++ [92, 34]) := by rw [e] at hst; exact hst
        clear hst e hql HQ
        go_wp2_with (at_builtin; refine wpList_append_own _ rfl _ _ 63 rfl w.heap.size 5 i0 (.int .u8 0) 1 1 Tryz.underlying63 hi hz0 hz1 hz2 rfl (by decide) _ _ _ rfl (hown.alloc _) ⟨_, 0, none⟩ 2 2 [.int .u8 92, .int .u8 34] rfl rfl (cell_two_new _ _ _ _) (one_ints (k := .u8) _) (by unfold maxLen; omega) (by omega) (by simp; omega) ?_)
        intro v3 w3 hown3 hgr3 _
        have hB3 : Below w.heap.size w w3 := (hnx.alloc hsz _).grown hgr3 (by simp; omega) (fun g hg => (hown.lt g hg).1)
        have ho3 : w3.ownsRow w.heap.size 5 1 v3 (Q ++ [92, 34]).length (bcells (Q ++ [92, 34])) := by rw [bcells_append, List.length_append]; exact hown3
        clear hgr3 hown3
        go_wp2
        go_roundw
        case rel => exact ⟨k + 1, Q ++ [92, 34], by omega, by first | rfl | go_num, HS, by simp, by simp; omega, ho3, T.below T2 hB3, hB3⟩
        case measure => simp [intOf]; omega
    · have HT : Hid (s.data.toList.take k = s.data.toList) := Ln.take_all s k (by omega)
      have hQl : Q.length ≤ 67108865 := by omega
      have HQ2 : Hid (Ln.quoS s.data.toList = Q) := by have := HQ.out; rwa [HT.out] at this
      clear HQ HT
      obtain ⟨g1, c1, rfl, hbg, hgl⟩ := hown.form (by omega)
      go_wp2_with (at_builtin; refine wpList_append_own _ rfl _ _ 63 rfl w.heap.size 5 i0 (.int .u8 0) 1 1 Tryz.underlying63 hi hz0 hz1 hz2 rfl (by decide) _ _ _ rfl (hown.alloc _) ⟨_, 0, none⟩ 1 1 [.int .u8 34] rfl rfl (cell_one_new _ _ _) (one_ints (k := .u8) _) (by unfold maxLen; omega) (by omega) (by simp; omega) ?_)
      intro v3 w3 hown3 hgr3 _
      have hB3 : Below w.heap.size w w3 := (hnx.alloc hsz _).grown hgr3 (by simp; omega) (fun g hg => (hown.lt g hg).1)
      have ho3 : w3.ownsRow w.heap.size 5 1 v3 (Q ++ [34]).length (bcells (Q ++ [34])) := by rw [bcells_append, List.length_append]; exact hown3
      clear hgr3 hown3
      obtain ⟨g3, c3, rfl, _, _⟩ := ho3.form (by simp)
      have hcv := conv_own ho3
      generalize hL : (Q ++ [34]).length = n3 at hcv
      go_wp2_with fail
      go_ret
      refine ⟨?_, hB3⟩
      rw [Ln.quoP, HQ2.out]
      rfl
end Go.Proofs.YtfbhofomcenabaaGreatDoor
