/- Plain facts on a text's lines. -/
import Derived.Test.YthmofbcjhfcokaaLPlain
namespace Go.Proofs.Ythmofbcjhfcokaa
namespace Ln

/-- A text's lines: the text, and whether a line feed ends it. -/
def spl : List UInt8 → List (List UInt8 × Bool)
  | [] => []
  | c :: r => if c == 10 then ([], true) :: spl r else match spl r with
    | [] => [([c], false)]
    | (h, b) :: t => (c :: h, b) :: t
def glue (p : List UInt8) : List (List UInt8 × Bool) → List (List UInt8 × Bool)
  | [] => if p.isEmpty then [] else [(p, false)]
  | (h, b) :: t => (p ++ h, b) :: t
def lnB (x : List UInt8 × Bool) : ByteArray × Bool := (bs x.1, x.2)
def splB (s : ByteArray) : List (ByteArray × Bool) := (spl s.data.toList).map lnB
theorem spl_lf (r : List UInt8) : spl (10 :: r) = ([], true) :: spl r := by simp [spl]
theorem spl_other {c : UInt8} (h : (c == 10) = false) (r : List UInt8) : spl (c :: r) = glue [c] (spl r) := by
  simp only [spl, h]
  cases spl r <;> simp [glue]
theorem glue_glue (p : List UInt8) (c : UInt8) (x : List (List UInt8 × Bool)) : glue p (glue [c] x) = glue (p ++ [c]) x := by
  cases x <;> simp [glue]
theorem glue_nil (x : List (List UInt8 × Bool)) : glue [] x = x := by
  cases x <;> simp [glue]
theorem seg_snoc (s : ByteArray) (f k : Nat) (hf : f ≤ k) (h : k < s.size) : (s.data.toList.drop f).take (k + 1 - f) = (s.data.toList.drop f).take (k - f) ++ [s[k]] := by
  have e : k + 1 - f = (k - f) + 1 := by omega
  rw [e, List.take_succ_eq_append_getElem (by simp; omega)]
  congr 2
  simp only [List.getElem_drop]
  have : f + (k - f) = k := by omega
  simp only [this]
  rfl
theorem byte_lf {c : UInt8} (h : ((c.toNat : Int) == 10) = true) : c = 10 := by
  rw [← UInt8.toNat_inj]; simp at h; simp; omega
theorem byte_nlf {c : UInt8} (h : ((c.toNat : Int) == 10) = false) : (c == 10) = false := by
  rw [beq_eq_false_iff_ne]; intro e; subst e; simp at h
theorem extract_bs (s : ByteArray) (f k : Nat) : s.extract f k = bs ((s.data.toList.drop f).take (k - f)) := Lib.extract_eq s f k
def Apart (s : ByteArray) (done : List (ByteArray × Bool)) (f k : Nat) : Prop :=
  splB s = done ++ (glue ((s.data.toList.drop f).take (k - f)) (spl (s.data.toList.drop k))).map lnB
theorem apart_start (s : ByteArray) : Apart s [] 0 0 := by
  simp only [Apart, splB]
  rw [show s.data.toList.drop 0 = s.data.toList from rfl, show s.data.toList.take (0 - 0) = [] from rfl, glue_nil]; simp
theorem apart_other {s : ByteArray} {done : List (ByteArray × Bool)} {f k : Nat} (hf : f ≤ k) (h : k < s.size) (hc : ((s[k].toNat : Int) == 10) = false) (ha : Apart s done f k) : Apart s done f (k + 1) := by
  simp only [Apart] at ha ⊢
  rw [ha, drop_cons s k h, spl_other (byte_nlf hc), glue_glue, seg_snoc s f k hf h]
theorem apart_lf {s : ByteArray} {done : List (ByteArray × Bool)} {f k : Nat} (h : k < s.size) (hc : ((s[k].toNat : Int) == 10) = true) (ha : Apart s done f k) : Apart s (done ++ [(s.extract f k, true)]) (k + 1) (k + 1) := by
  simp only [Apart] at ha ⊢
  rw [ha, drop_cons s k h, byte_lf hc, spl_lf, extract_bs]
  rw [show k + 1 - (k + 1) = 0 from by omega, List.take_zero, glue_nil]
  simp [glue, lnB]
theorem apart_end {s : ByteArray} {done : List (ByteArray × Bool)} {f k : Nat} (h : s.size ≤ k) (ha : Apart s done f k) (hf : f < s.size) : splB s = done ++ [(s.extract f s.size, false)] := by
  simp only [Apart] at ha
  have e1 : s.data.toList.drop k = [] := List.drop_eq_nil_of_le (by rw [szL]; exact h)
  have e2 : (s.data.toList.drop f).take (k - f) = s.data.toList.drop f := List.take_of_length_le (by rw [List.length_drop, szL]; omega)
  have e3 : (s.data.toList.drop f).take (s.size - f) = s.data.toList.drop f := List.take_of_length_le (by rw [List.length_drop, szL]; omega)
  rw [ha, e1, extract_bs, e2, e3]
  have : (s.data.toList.drop f).isEmpty = false := by rw [drop_cons s f hf]; rfl
  simp only [spl, glue, this]
  simp [lnB]
theorem apart_full {s : ByteArray} {done : List (ByteArray × Bool)} {f k : Nat} (h : s.size ≤ k) (ha : Apart s done f k) (hf : ¬ f < s.size) : splB s = done := by
  simp only [Apart] at ha
  have e1 : s.data.toList.drop k = [] := List.drop_eq_nil_of_le (by rw [szL]; exact h)
  have e2 : s.data.toList.drop f = [] := List.drop_eq_nil_of_le (by rw [szL]; omega)
  rw [ha, e1, e2]
  simp [spl, glue]
theorem spl_len (l : List UInt8) : (spl l).length ≤ l.length := by
  induction l with
  | nil => simp [spl]
  | cons c r ih =>
    cases hc : (c == 10)
    · rw [spl_other hc]
      cases h : spl r with
      | nil => simp [glue]
      | cons x t => rw [h] at ih; obtain ⟨a, b⟩ := x; simp [glue] at ih ⊢; omega
    · have : c = 10 := by simpa using hc
      subst this
      rw [spl_lf]; simp; exact ih
theorem splB_len (s : ByteArray) : (splB s).length ≤ s.size := by
  have := spl_len s.data.toList
  rw [szL] at this; simpa [splB] using this
theorem spl_tot (l : List UInt8) : tot ((spl l).map lnB) ≤ 2 * l.length := by
  induction l with
  | nil => simp [spl, tot]
  | cons c r ih =>
    cases hc : (c == 10)
    · rw [spl_other hc]
      cases h : spl r with
      | nil => simp [glue, tot, lnB, bs_size]; omega
      | cons x t => rw [h] at ih; obtain ⟨a, b⟩ := x; simp [glue, tot, lnB, bs_size] at ih ⊢; omega
    · have : c = 10 := by simpa using hc
      subst this
      rw [spl_lf]; simp [tot, lnB, bs_size]; omega
theorem splB_tot (s : ByteArray) : tot (splB s) ≤ 2 * s.size := by
  have := spl_tot s.data.toList
  rw [szL] at this; exact this
theorem tot_mem {l : List (ByteArray × Bool)} {x : ByteArray × Bool} (h : x ∈ l) : x.1.size ≤ tot l := by
  induction l with
  | nil => cases h
  | cons y r ih =>
    simp only [tot]
    rcases List.mem_cons.1 h with rfl | h
    · omega
    · have := ih h; omega
theorem splB_mem (s : ByteArray) : ∀ x ∈ splB s, x.1.size ≤ 2 * s.size := fun _ hx => Nat.le_trans (tot_mem hx) (splB_tot s)
/-- Taken apart and put together. -/
theorem join_spl (l : List UInt8) : joinL ((spl l).map lnB) = l := by
  induction l with
  | nil => rfl
  | cons c r ih =>
    cases hc : (c == 10)
    · rw [spl_other hc]
      cases h : spl r with
      | nil =>
        rw [h] at ih
        have ih : [] = r := ih
        subst ih
        simp [glue, joinL, lnB, data_bs]
      | cons x t =>
        rw [h] at ih
        obtain ⟨a, b⟩ := x
        simp [glue, joinL, lnB, data_bs] at ih ⊢
        exact ih
    · have : c = 10 := by simpa using hc
      subst this
      rw [spl_lf]; simp [joinL, lnB, data_bs, ih]

/-- How many lines there are. -/
def lfs (l : List UInt8) : Nat := (l.filter fun c => c == 10).length
def lastLf (l : List UInt8) : Bool := l.getLast? == some 10
theorem spl_count (l : List UInt8) : (spl l).length = lfs l + (if l.isEmpty || lastLf l then 0 else 1) := by
  induction l with
  | nil => simp [spl, lfs]
  | cons c r ih =>
    cases hc : (c == 10)
    · rw [spl_other hc]
      cases h : spl r with
      | nil =>
        have hr : r = [] := by
          cases r with
          | nil => rfl
          | cons d t =>
            exfalso
            cases hd : (d == 10)
            · rw [spl_other hd] at h; cases hs : spl t with
              | nil => rw [hs] at h; simp [glue] at h
              | cons x y => rw [hs] at h; obtain ⟨a, b⟩ := x; simp [glue] at h
            · have : d = 10 := by simpa using hd
              subst this; rw [spl_lf] at h; cases h
        subst hr
        simp [glue, lfs, hc, lastLf]
      | cons x t =>
        have hr : r ≠ [] := by intro e; subst e; cases h
        obtain ⟨a, b⟩ := x
        rw [h] at ih
        have e1 : lastLf (c :: r) = lastLf r := by
          unfold lastLf
          cases r with
          | nil => exact absurd rfl hr
          | cons d t => rw [List.getLast?_cons_cons]
        have e2 : lfs (c :: r) = lfs r := by simp [lfs, hc]
        have e3 : r.isEmpty = false := by simpa using hr
        rw [e1, e2]
        rw [e3] at ih
        simpa [glue] using ih
    · have : c = 10 := by simpa using hc
      subst this
      rw [spl_lf]
      have e2 : lfs (10 :: r) = lfs r + 1 := by simp [lfs]
      rw [e2]
      cases r with
      | nil => simp [spl, lfs, lastLf]
      | cons d t =>
        have e1 : lastLf (10 :: d :: t) = lastLf (d :: t) := by unfold lastLf; rw [List.getLast?_cons_cons]
        rw [e1]
        simp only [List.length_cons, ih]
        simp
        omega

theorem lfs_snoc (s : ByteArray) (k : Nat) (h : k < s.size) : lfs (s.data.toList.take (k + 1)) = lfs (s.data.toList.take k) + (if ((s[k].toNat : Int) == 10) = true then 1 else 0) := by
  rw [take_snoc s k h, lfs, List.filter_append, List.length_append, ← lfs]
  cases hc : ((s[k].toNat : Int) == 10)
  · have := byte_nlf hc; simp [this]
  · have := byte_lf hc; simp [this]
theorem lfs_le (l : List UInt8) : lfs l ≤ l.length := List.length_filter_le _ _
theorem last_at {s : ByteArray} (h : 0 < s.size) : lastLf s.data.toList = ((s[s.size - 1].toNat : Int) == 10) := by
  have e : s.data.toList = s.data.toList.take (s.size - 1) ++ [s[s.size - 1]] := by
    have := take_snoc s (s.size - 1) (by omega)
    rwa [take_all s _ (by omega)] at this
  unfold lastLf
  rw [e, List.getLast?_concat]
  cases hc : ((s[s.size - 1].toNat : Int) == 10)
  · have := byte_nlf hc; rw [beq_eq_false_iff_ne] at this; simpa using this
  · rw [byte_lf hc]; rfl
/-- Are two lists of lines one? -/
def sameL : List (ByteArray × Bool) → List (ByteArray × Bool) → Bool
  | [], [] => true
  | x :: r, y :: t => (x.1.toList == y.1.toList) && (x.2 == y.2) && sameL r t
  | _, _ => false
theorem same_step {a b : List (ByteArray × Bool)} {k : Nat} (ha : k < a.length) (hb : k < b.length) (h1 : ((a[k]'ha).1.toList == (b[k]'hb).1.toList) = true) (h2 : ((a[k]'ha).2 == (b[k]'hb).2) = true) : sameL (a.drop k) (b.drop k) = sameL (a.drop (k + 1)) (b.drop (k + 1)) := by
  rw [List.drop_eq_getElem_cons ha, List.drop_eq_getElem_cons hb]; simp only [sameL, h1, h2, Bool.true_and]
theorem same_stop {a b : List (ByteArray × Bool)} {k : Nat} (ha : k < a.length) (hb : k < b.length) (h : ((a[k]'ha).1.toList == (b[k]'hb).1.toList) = false ∨ ((a[k]'ha).2 == (b[k]'hb).2) = false) : sameL (a.drop k) (b.drop k) = false := by
  rw [List.drop_eq_getElem_cons ha, List.drop_eq_getElem_cons hb]
  rcases h with h | h <;> simp only [sameL, h] <;> simp
theorem same_len : ∀ {a b : List (ByteArray × Bool)}, ¬ a.length = b.length → sameL a b = false
  | [], [], h => absurd rfl h
  | [], _ :: _, _ => rfl
  | _ :: _, [], _ => rfl
  | x :: r, y :: t, h => by
    have := @same_len r t (by simpa using h)
    simp only [sameL, this, Bool.and_false]
theorem same_refl : ∀ (a : List (ByteArray × Bool)), sameL a a = true
  | [] => rfl
  | x :: r => by simp only [sameL, same_refl r]; simp
/-- The first line feed. -/
def firstP : List UInt8 → List UInt8 → List UInt8 × List UInt8 × Bool
  | p, [] => (p, [], false)
  | p, c :: r => if c == 10 then (p, r, true) else firstP (p ++ [c]) r
theorem first_other {p : List UInt8} {c : UInt8} {r : List UInt8} (h : (c == 10) = false) : firstP p (c :: r) = firstP (p ++ [c]) r := by rw [firstP, if_neg (by rw [h]; simp)]
theorem first_lf {p r : List UInt8} : firstP p (10 :: r) = (p, r, true) := rfl

end Ln
end Go.Proofs.Ythmofbcjhfcokaa
