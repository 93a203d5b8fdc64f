/- Plain functions on bytes and on lists of strings that say what the path functions answer, and plain facts on them. -/
import Derived.Lib.Strings
import Derived.Lib.IndexBytes
namespace Go.Proofs.YtfbhofomcenabaaGreatDoor
namespace Pl

def okc (c : UInt8) : Bool := !(c == 47 || c == 0)
def nameL (l : List UInt8) : Bool := !(l.isEmpty || decide (255 < l.length) || l == [46] || l == [46, 46]) && l.all okc
def nameB (s : ByteArray) : Bool := nameL s.data.toList

theorem toL (s : ByteArray) : s.toList = s.data.toList := Lib.toList_data s
theorem szL (s : ByteArray) : s.data.toList.length = s.size := (Lib.size_eq s).symm
theorem take_snoc (s : ByteArray) (k : Nat) (h : k < s.size) : s.data.toList.take (k + 1) = s.data.toList.take k ++ [s[k]] := by
  rw [List.take_succ_eq_append_getElem (by simpa using h)]; rfl
theorem take_all (s : ByteArray) (k : Nat) (h : s.size ≤ k) : s.data.toList.take k = s.data.toList := List.take_of_length_le (by rw [szL]; exact h)

theorem name_empty {s : ByteArray} (h : s.toList = []) : nameB s = false := by rw [toL] at h; simp [nameB, nameL, h]
theorem name_dot {s : ByteArray} (h : s.toList = [46]) : nameB s = false := by rw [toL] at h; simp [nameB, nameL, h]
theorem name_dots {s : ByteArray} (h : s.toList = [46, 46]) : nameB s = false := by rw [toL] at h; simp [nameB, nameL, h]
theorem name_long {s : ByteArray} (h : (255 : Int) < (s.size : Int)) : nameB s = false := by
  have h' : 255 < s.data.toList.length := by rw [szL]; omega
  have : decide (255 < s.data.toList.length) = true := by simpa using h'
  simp only [nameB, nameL, this]; simp
theorem name_head {s : ByteArray} (h1 : ¬ s.toList = []) (h2 : ¬ (255 : Int) < (s.size : Int)) (h3 : ¬ s.toList = [46]) (h4 : ¬ s.toList = [46, 46]) : nameB s = s.data.toList.all okc := by
  rw [toL] at h1 h3 h4
  have : decide (255 < s.data.toList.length) = false := by rw [szL]; simp; omega
  unfold nameB
  generalize s.data.toList = l at h1 h3 h4 this ⊢
  simp only [nameL, this]
  simp [h1, h3, h4]
theorem okc_int (c : UInt8) : okc c = (!(((c.toNat : Int) == 47) || ((c.toNat : Int) == 0))) := by
  unfold okc
  have e1 : (c == 47) = ((c.toNat : Int) == 47) := by
    rw [Bool.eq_iff_iff]; simp [← UInt8.toNat_inj]; omega
  have e2 : (c == 0) = ((c.toNat : Int) == 0) := by
    rw [Bool.eq_iff_iff]; simp [← UInt8.toNat_inj]
  rw [e1, e2]
theorem all_step {s : ByteArray} {k : Nat} (h : k < s.size) (ha : (s.data.toList.take k).all okc = true) (h1 : ((s[k].toNat : Int) == 47) = false) (h0 : ((s[k].toNat : Int) == 0) = false) :
    (s.data.toList.take (k + 1)).all okc = true := by
  rw [take_snoc s k h, List.all_append, ha]; simp [okc_int, h1, h0]
theorem all_stop {s : ByteArray} {k : Nat} (h : k < s.size) (h1 : ((s[k].toNat : Int) == 47) = true ∨ ((s[k].toNat : Int) == 0) = true) : s.data.toList.all okc = false := by
  rw [← List.take_append_drop (k + 1) s.data.toList, List.all_append, take_snoc s k h, List.all_append]
  rcases h1 with h1 | h1 <;> simp [okc_int, h1]

/-- How many bytes a / ahead of each name, and the names, have. -/
def sumP : List ByteArray → Nat
  | [] => 0
  | x :: r => 1 + x.size + sumP r
def sizeP (l : List ByteArray) : Nat := if l.length = 0 then 1 else sumP l
def rightP (l : List ByteArray) : Bool := l.all nameB && decide ((sizeP l : Int) ≤ 1024)

theorem sizeP_zero {l : List ByteArray} (h : l.length = 0) : sizeP l = 1 := by simp [sizeP, h]
theorem sizeP_pos {l : List ByteArray} (h : ¬ l.length = 0) : sizeP l = sumP l := by simp only [sizeP]; rw [if_neg h]
theorem sumP_append (a b : List ByteArray) : sumP (a ++ b) = sumP a + sumP b := by
  induction a with
  | nil => simp [sumP]
  | cons x r ih => simp only [List.cons_append, sumP, ih]; omega
theorem sumP_snoc (l : List ByteArray) (k : Nat) (h : k < l.length) : sumP (l.take (k + 1)) = sumP (l.take k) + 1 + (l[k]'h).size := by
  rw [List.take_succ_eq_append_getElem h, sumP_append]; simp [sumP]; omega
theorem sumP_take_le (l : List ByteArray) (k : Nat) : sumP (l.take k) ≤ sumP l := by
  have := sumP_append (l.take k) (l.drop k)
  rw [List.take_append_drop] at this; omega
theorem name_size {s : ByteArray} (h : nameB s = true) : s.size ≤ 255 := by
  simp only [nameB, nameL, Bool.and_eq_true, Bool.not_eq_true', Bool.or_eq_false_iff] at h
  have := h.1.1.1.2
  rw [szL] at this
  simp at this; omega
theorem sumP_names (l : List ByteArray) (h : l.all nameB = true) : sumP l ≤ 256 * l.length := by
  induction l with
  | nil => simp [sumP]
  | cons x r ih =>
    simp only [List.all_cons, Bool.and_eq_true] at h
    have := ih h.2
    have := name_size h.1
    simp only [sumP, List.length_cons]; omega
theorem all_names_step {l : List ByteArray} {k : Nat} (h : k < l.length) (ha : (l.take k).all nameB = true) (hn : nameB (l[k]'h) = true) : (l.take (k + 1)).all nameB = true := by
  rw [List.take_succ_eq_append_getElem h, List.all_append, ha]; simp [hn]
theorem all_names_stop {l : List ByteArray} {k : Nat} (h : k < l.length) (hn : nameB (l[k]'h) = false) : l.all nameB = false := by
  rw [← List.take_append_drop (k + 1) l, List.all_append, List.take_succ_eq_append_getElem h, List.all_append]; simp [hn]
theorem right_stop {l : List ByteArray} {k : Nat} (h : k < l.length) (hn : nameB (l[k]'h) = false) : rightP l = false := by
  simp only [rightP, all_names_stop h hn]; rfl
theorem right_end {l : List ByteArray} (h : l.all nameB = true) : decide ((sizeP l : Int) ≤ 1024) = rightP l := by simp only [rightP, h]; simp

/-- May a part of a text stand in it? -/
def mayB (s : ByteArray) : Bool := s.toList == [] || s.toList == [46] || s.toList == [46, 46] || nameB s
theorem may_empty {s : ByteArray} (h : s.toList = []) : mayB s = true := by simp [mayB, h]
theorem may_dot {s : ByteArray} (h : s.toList = [46]) : mayB s = true := by simp [mayB, h]
theorem may_dots {s : ByteArray} (h : s.toList = [46, 46]) : mayB s = true := by simp [mayB, h]
theorem may_name {s : ByteArray} (h1 : ¬ s.toList = []) (h2 : ¬ s.toList = [46]) (h3 : ¬ s.toList = [46, 46]) : mayB s = nameB s := by simp [mayB, h1, h2, h3]

/-- What stands between the / of a text. -/
def spl : List UInt8 → List (List UInt8)
  | [] => [[]]
  | c :: r => if c == 47 then [] :: spl r else match spl r with
    | [] => [[c]]
    | h :: t => (c :: h) :: t
def glue (p : List UInt8) : List (List UInt8) → List (List UInt8)
  | [] => [p]
  | h :: t => (p ++ h) :: t
def bs (l : List UInt8) : ByteArray := ⟨l.toArray⟩
def partsB (s : ByteArray) : List ByteArray := (spl s.data.toList).map bs
theorem spl_ne (l : List UInt8) : spl l ≠ [] := by
  cases l with
  | nil => simp [spl]
  | cons c r =>
    simp only [spl]
    split
    · simp
    · split <;> simp
theorem spl_slash (r : List UInt8) : spl (47 :: r) = [] :: spl r := by simp [spl]
theorem spl_other {c : UInt8} (h : (c == 47) = false) (r : List UInt8) : spl (c :: r) = glue [c] (spl r) := by
  simp only [spl, h]
  cases spl r <;> simp [glue]
theorem glue_glue (p q : List UInt8) (x : List (List UInt8)) : glue p (glue q x) = glue (p ++ q) x := by
  cases x <;> simp [glue]
theorem glue_nil {x : List (List UInt8)} (h : x ≠ []) : glue [] x = x := by
  cases x with
  | nil => exact absurd rfl h
  | cons a b => simp [glue]
theorem drop_cons (s : ByteArray) (k : Nat) (h : k < s.size) : s.data.toList.drop k = s[k] :: s.data.toList.drop (k + 1) := by
  rw [List.drop_eq_getElem_cons (by simpa using h)]; rfl
theorem seg_snoc (s : ByteArray) (f k : Nat) (hf : f ≤ k) (h : k < s.size) : (s.data.toList.drop f).take (k + 1 - f) = (s.data.toList.drop f).take (k - f) ++ [s[k]] := by
  have e : k + 1 - f = (k - f) + 1 := by omega
  rw [e, List.take_succ_eq_append_getElem (by simp; omega)]
  congr 2
  simp only [List.getElem_drop]
  have : f + (k - f) = k := by omega
  simp only [this]
  rfl
theorem byte_slash {c : UInt8} (h : ((c.toNat : Int) == 47) = true) : c = 47 := by
  rw [← UInt8.toNat_inj]; simp at h; simp; omega
theorem byte_other {c : UInt8} (h : ((c.toNat : Int) == 47) = false) : (c == 47) = false := by
  rw [beq_eq_false_iff_ne]; intro e; subst e; simp at h
theorem extract_bs (s : ByteArray) (f k : Nat) : s.extract f k = bs ((s.data.toList.drop f).take (k - f)) := Lib.extract_eq s f k

/-- The state of the loop that takes a text apart: done so far, from where, up to where. -/
def Apart (s : ByteArray) (done : List ByteArray) (f k : Nat) : Prop :=
  partsB s = done ++ (glue ((s.data.toList.drop f).take (k - f)) (spl (s.data.toList.drop k))).map bs
theorem apart_start (s : ByteArray) : Apart s [] 0 0 := by
  simp only [Apart, partsB]
  rw [show s.data.toList.drop 0 = s.data.toList from rfl, show s.data.toList.take (0 - 0) = [] from rfl, glue_nil (spl_ne _)]; simp
theorem apart_other {s : ByteArray} {done : List ByteArray} {f k : Nat} (hf : f ≤ k) (h : k < s.size) (hc : ((s[k].toNat : Int) == 47) = false) (ha : Apart s done f k) : Apart s done f (k + 1) := by
  simp only [Apart] at ha ⊢
  rw [ha, drop_cons s k h, spl_other (byte_other hc), glue_glue, seg_snoc s f k hf h]
theorem apart_slash {s : ByteArray} {done : List ByteArray} {f k : Nat} (h : k < s.size) (hc : ((s[k].toNat : Int) == 47) = true) (ha : Apart s done f k) : Apart s (done ++ [s.extract f k]) (k + 1) (k + 1) := by
  simp only [Apart] at ha ⊢
  rw [ha, drop_cons s k h, byte_slash hc, spl_slash, extract_bs]
  rw [show k + 1 - (k + 1) = 0 from by omega, List.take_zero, glue_nil (spl_ne _)]
  simp [glue]
theorem apart_end {s : ByteArray} {done : List ByteArray} {f k : Nat} (h : s.size ≤ k) (ha : Apart s done f k) : partsB s = done ++ [s.extract f s.size] := by
  simp only [Apart] at ha
  have e1 : s.data.toList.drop k = [] := List.drop_eq_nil_of_le (by rw [szL]; exact h)
  rw [ha, e1, extract_bs]
  simp only [spl, glue, List.append_nil, List.map_cons, List.map_nil]
  have e2 : (s.data.toList.drop f).take (k - f) = s.data.toList.drop f := List.take_of_length_le (by rw [List.length_drop, szL]; omega)
  have e3 : (s.data.toList.drop f).take (s.size - f) = s.data.toList.drop f := List.take_of_length_le (by rw [List.length_drop, szL]; omega)
  rw [e2, e3]

/-- A part that leads to a folder, and what a part does to a path. -/
def dirB (x : ByteArray) : Bool := x.toList == [] || x.toList == [46] || x.toList == [46, 46]
def stepP (out : List ByteArray) (x : ByteArray) : List ByteArray := if dirB x then (if x.toList == [46, 46] then out.dropLast else out) else out ++ [x]
def startP (l : List ByteArray) (s : ByteArray) : List ByteArray := if s.data.toList.head? = some 47 then [] else l
def lastDir (ps : List ByteArray) : Bool := match ps.getLast? with
  | none => false
  | some x => dirB x
def normalP (l : List ByteArray) (s : ByteArray) : List ByteArray × Bool × Int :=
  if rightP l = false then ([], false, 20) else if 1024 < s.size then ([], false, 4) else if s.toList = [] then ([], false, 20)
  else if (partsB s).all mayB = false then ([], false, 20)
  else if 1024 < sizeP ((partsB s).foldl stepP (startP l s)) then ([], false, 4)
  else ((partsB s).foldl stepP (startP l s), lastDir (partsB s), 0)

theorem right_len {l : List ByteArray} (h : rightP l = true) : l.length ≤ 1024 := by
  simp only [rightP, Bool.and_eq_true, decide_eq_true_eq] at h
  have h1 : l.length ≤ sumP l := by
    clear h
    induction l with
    | nil => simp
    | cons x r ih => simp only [sumP, List.length_cons]; omega
  have h2 := h.2
  simp only [sizeP] at h2
  split at h2 <;> omega
theorem right_names {l : List ByteArray} (h : rightP l = true) : l.all nameB = true := by
  simp only [rightP, Bool.and_eq_true] at h; exact h.1
theorem may_not_dir {x : ByteArray} (h : mayB x = true) (hd : dirB x = false) : nameB x = true := by
  simp only [mayB, dirB] at h hd; rw [hd] at h; simpa using h
theorem all_dropLast {l : List ByteArray} (h : l.all nameB = true) : l.dropLast.all nameB = true := by
  rw [List.all_eq_true] at h ⊢
  exact fun x hx => h x ((List.dropLast_sublist l).subset hx)
theorem step_names {l : List ByteArray} {x : ByteArray} (h : l.all nameB = true) (hx : mayB x = true) : (stepP l x).all nameB = true := by
  unfold stepP
  cases hd : dirB x
  · simp [h, may_not_dir hx hd]
  · simp only [if_true]
    split
    · exact all_dropLast h
    · exact h
theorem step_len (l : List ByteArray) (x : ByteArray) : (stepP l x).length ≤ l.length + 1 := by
  unfold stepP
  split
  · split
    · simp; omega
    · omega
  · simp
theorem fold_snoc (ps : List ByteArray) (start : List ByteArray) (k : Nat) (h : k < ps.length) : (ps.take (k + 1)).foldl stepP start = stepP ((ps.take k).foldl stepP start) (ps[k]'h) := by
  rw [List.take_succ_eq_append_getElem h, List.foldl_append]; rfl
theorem step_same {l : List ByteArray} {x : ByteArray} (h : x.toList = [] ∨ x.toList = [46]) : stepP l x = l := by
  rcases h with h | h <;> simp [stepP, dirB, h]
theorem step_up {l : List ByteArray} {x : ByteArray} (h : x.toList = [46, 46]) : stepP l x = l.dropLast := by simp [stepP, dirB, h]
theorem step_down {l : List ByteArray} {x : ByteArray} (h1 : ¬ x.toList = []) (h2 : ¬ x.toList = [46]) (h3 : ¬ x.toList = [46, 46]) : stepP l x = l ++ [x] := by simp [stepP, dirB, h1, h2, h3]
theorem all_may_step {l : List ByteArray} {k : Nat} (h : k < l.length) (ha : (l.take k).all mayB = true) (hn : mayB (l[k]'h) = true) : (l.take (k + 1)).all mayB = true := by
  rw [List.take_succ_eq_append_getElem h, List.all_append, ha]; simp [hn]
theorem all_may_stop {l : List ByteArray} {k : Nat} (h : k < l.length) (hn : mayB (l[k]'h) = false) : l.all mayB = false := by
  rw [← List.take_append_drop (k + 1) l, List.all_append, List.take_succ_eq_append_getElem h, List.all_append]; simp [hn]
theorem lastDir_take {l : List ByteArray} {k : Nat} (h : k < l.length) : lastDir (l.take (k + 1)) = dirB (l[k]'h) := by
  rw [List.take_succ_eq_append_getElem h]; simp only [lastDir, List.getLast?_concat]
theorem dir_empty {x : ByteArray} (h : x.toList = []) : dirB x = true := by simp [dirB, h]
theorem dir_dot {x : ByteArray} (h : x.toList = [46]) : dirB x = true := by simp [dirB, h]
theorem dir_dots {x : ByteArray} (h : x.toList = [46, 46]) : dirB x = true := by simp [dirB, h]
theorem dir_not {x : ByteArray} (h1 : ¬ x.toList = []) (h2 : ¬ x.toList = [46]) (h3 : ¬ x.toList = [46, 46]) : dirB x = false := by simp [dirB, h1, h2, h3]

theorem fold_names {st : List ByteArray} (h : st.all nameB = true) (ps : List ByteArray) (hp : ps.all mayB = true) : (ps.foldl stepP st).all nameB = true := by
  induction ps generalizing st with
  | nil => exact h
  | cons x r ih =>
    simp only [List.all_cons, Bool.and_eq_true] at hp
    exact ih (step_names h hp.1) hp.2
theorem fold_len (st ps : List ByteArray) : (ps.foldl stepP st).length ≤ st.length + ps.length := by
  induction ps generalizing st with
  | nil => simp
  | cons x r ih => have h1 := ih (stepP st x); have h2 := step_len st x; simp only [List.foldl_cons, List.length_cons]; omega

theorem normal_wrong {l : List ByteArray} {s : ByteArray} (h : rightP l = false) : normalP l s = ([], false, 20) := by simp [normalP, h]
theorem normal_far {l : List ByteArray} {s : ByteArray} (h : rightP l = true) (h2 : 1024 < s.size) : normalP l s = ([], false, 4) := by simp [normalP, h, h2]
theorem normal_none {l : List ByteArray} {s : ByteArray} (h : rightP l = true) (h2 : ¬ 1024 < s.size) (h3 : s.toList = []) : normalP l s = ([], false, 20) := by simp [normalP, h, h2, h3]
theorem normal_bad {l : List ByteArray} {s : ByteArray} (h : rightP l = true) (h2 : ¬ 1024 < s.size) (h3 : ¬ s.toList = []) (h4 : (partsB s).all mayB = false) : normalP l s = ([], false, 20) := by
  simp only [normalP, h, h2, h3, h4]; simp
theorem normal_long {l : List ByteArray} {s : ByteArray} (h : rightP l = true) (h2 : ¬ 1024 < s.size) (h3 : ¬ s.toList = []) (h4 : (partsB s).all mayB = true) (h5 : 1024 < sizeP ((partsB s).foldl stepP (startP l s))) : normalP l s = ([], false, 4) := by
  simp only [normalP, h, h2, h3, h4, h5]; simp
theorem normal_ok {l : List ByteArray} {s : ByteArray} (h : rightP l = true) (h2 : ¬ 1024 < s.size) (h3 : ¬ s.toList = []) (h4 : (partsB s).all mayB = true) (h5 : ¬ 1024 < sizeP ((partsB s).foldl stepP (startP l s))) :
    normalP l s = ((partsB s).foldl stepP (startP l s), lastDir (partsB s), 0) := by
  simp only [normalP, h, h2, h3, h4, h5]; simp
theorem head_byte {s : ByteArray} (h0 : 0 < s.size) : s.data.toList.head? = some s[0] := by
  have h := drop_cons s 0 h0
  rw [List.drop_zero] at h
  rw [h]; rfl
theorem start_slash {l : List ByteArray} {s : ByteArray} (h0 : 0 < s.size) (h : ((s[0].toNat : Int) == 47) = true) : startP l s = [] := by
  rw [startP, head_byte h0, byte_slash h, if_pos rfl]
theorem start_other {l : List ByteArray} {s : ByteArray} (h0 : 0 < s.size) (h : ((s[0].toNat : Int) == 47) = false) : startP l s = l := by
  have hb := byte_other h
  rw [beq_eq_false_iff_ne] at hb
  rw [startP, head_byte h0, if_neg (fun e => hb (Option.some.inj e))]
theorem size_pos {s : ByteArray} (h : ¬ s.toList = []) : 0 < s.size := by
  rw [toL] at h
  have := szL s
  cases hl : s.data.toList with
  | nil => exact absurd hl h
  | cons a b => rw [hl] at this; simp at this; omega
theorem spl_len (l : List UInt8) : (spl l).length ≤ l.length + 1 := by
  induction l with
  | nil => simp [spl]
  | cons c r ih =>
    simp only [spl]
    split
    · simp; omega
    · split
      · simp
      · rename_i h t e; rw [e] at ih; simp at ih ⊢; omega
theorem parts_len (s : ByteArray) : (partsB s).length ≤ s.size + 1 := by
  have := spl_len s.data.toList
  rw [szL] at this; simpa [partsB] using this
theorem spl_mem (l : List UInt8) : ∀ p ∈ spl l, p.length ≤ l.length := by
  induction l with
  | nil => simp [spl]
  | cons c r ih =>
    simp only [spl]
    split
    · intro p hp
      simp only [List.mem_cons] at hp
      rcases hp with rfl | hp
      · simp
      · have := ih p hp; simp; omega
    · split
      · simp
      · rename_i h t e
        rw [e] at ih
        intro p hp
        simp only [List.mem_cons] at hp
        rcases hp with rfl | hp
        · have := ih h (by simp); simp; omega
        · have := ih p (by simp [hp]); simp; omega
theorem parts_mem (s : ByteArray) : ∀ p ∈ partsB s, p.size ≤ s.size := by
  intro p hp
  obtain ⟨x, hx, rfl⟩ := List.mem_map.1 hp
  have := spl_mem s.data.toList x hx
  rw [szL] at this
  show x.toArray.size ≤ s.size
  simpa using this

/-- How many names two paths both begin with. -/
def com : List ByteArray → List ByteArray → Nat
  | a :: r, b :: t => if a.toList == b.toList then 1 + com r t else 0
  | _, _ => 0
theorem com_nil_left (b : List ByteArray) : com [] b = 0 := by cases b <;> rfl
theorem com_nil_right (a : List ByteArray) : com a [] = 0 := by cases a <;> rfl
theorem com_step {a b : List ByteArray} {k : Nat} (ha : k < a.length) (hb : k < b.length) (h : ((a[k]'ha).toList == (b[k]'hb).toList) = true) : com (a.drop k) (b.drop k) = 1 + com (a.drop (k + 1)) (b.drop (k + 1)) := by
  rw [List.drop_eq_getElem_cons ha, List.drop_eq_getElem_cons hb]; simp only [com, h, if_true]
theorem com_stop {a b : List ByteArray} {k : Nat} (ha : k < a.length) (hb : k < b.length) (h : ((a[k]'ha).toList == (b[k]'hb).toList) = false) : com (a.drop k) (b.drop k) = 0 := by
  rw [List.drop_eq_getElem_cons ha, List.drop_eq_getElem_cons hb]; simp [com, h]
theorem com_end_left {a b : List ByteArray} {k : Nat} (h : ¬ k < a.length) : com (a.drop k) (b.drop k) = 0 := by
  rw [List.drop_eq_nil_of_le (by omega), com_nil_left]
theorem com_end_right {a b : List ByteArray} {k : Nat} (h : ¬ k < b.length) : com (a.drop k) (b.drop k) = 0 := by
  rw [List.drop_eq_nil_of_le (as := b) (by omega), com_nil_right]
def withinP (p q : List ByteArray) : Bool := ((com p q : Int) == (q.length : Int))
def sameP (p q : List ByteArray) : Bool := ((p.length : Int) == (q.length : Int)) && ((com p q : Int) == (p.length : Int))

/-- A path's own text. -/
def textF : List ByteArray → List UInt8
  | [] => []
  | x :: r => 47 :: (x.data.toList ++ textF r)
def textP (l : List ByteArray) : ByteArray := if l.length = 0 then bs [47] else bs (textF l)
def printP (l : List ByteArray) : ByteArray × Int := if rightP l = false then (bs [], 20) else (textP l, 0)
theorem textF_append (a b : List ByteArray) : textF (a ++ b) = textF a ++ textF b := by
  induction a with
  | nil => rfl
  | cons x r ih => simp [textF, ih]
theorem textF_snoc (l : List ByteArray) (k : Nat) (h : k < l.length) : textF (l.take (k + 1)) = textF (l.take k) ++ [47] ++ (l[k]'h).data.toList := by
  rw [List.take_succ_eq_append_getElem h, textF_append]; simp [textF]
theorem textF_length (l : List ByteArray) : (textF l).length = sumP l := by
  induction l with
  | nil => rfl
  | cons x r ih => simp only [textF, sumP, List.length_cons, List.length_append, ih, szL]; omega
theorem print_wrong {l : List ByteArray} (h : rightP l = false) : printP l = (bs [], 20) := by simp [printP, h]
theorem print_root {l : List ByteArray} (h : rightP l = true) (h0 : l.length = 0) : printP l = (bs [47], 0) := by simp [printP, h, textP, h0]
theorem print_text {l : List ByteArray} (h : rightP l = true) (h0 : ¬ l.length = 0) : printP l = (bs (textF l), 0) := by
  simp only [printP, h, textP]; rw [if_neg h0]; rfl
theorem right_sum {l : List ByteArray} (h : rightP l = true) : sumP l ≤ 1024 := by
  simp only [rightP, Bool.and_eq_true, decide_eq_true_eq] at h
  have h2 := h.2
  simp only [sizeP] at h2
  split at h2
  · have : l = [] := List.eq_nil_of_length_eq_zero (by assumption)
    subst this; simp [sumP]
  · omega

/-- How long a path's own text is, no further than needs be. -/
def sizeRa : List ByteArray → Nat → Nat
  | [], n => n
  | x :: r, n => if n ≤ 1024 then sizeRa r (n + 1 + x.size) else n
def sizeR (l : List ByteArray) : Nat := if l.length = 0 then 1 else sizeRa l 0
theorem sizeRa_iff : ∀ (l : List ByteArray) (n : Nat), 1024 < sizeRa l n ↔ 1024 < n + sumP l
  | [], n => by simp [sizeRa, sumP]
  | x :: r, n => by
    simp only [sizeRa, sumP]
    by_cases h : n ≤ 1024
    · rw [if_pos h, sizeRa_iff r]; omega
    · rw [if_neg h]; omega
theorem sizeR_iff (l : List ByteArray) : 1024 < sizeR l ↔ 1024 < sizeP l := by
  unfold sizeR sizeP
  split
  · exact Iff.rfl
  · rw [sizeRa_iff]; omega
theorem sizeR_zero {l : List ByteArray} (h : l.length = 0) : sizeR l = 1 := by simp [sizeR, h]
theorem sizeR_pos {l : List ByteArray} (h : ¬ l.length = 0) : sizeR l = sizeRa l 0 := by simp only [sizeR]; rw [if_neg h]
theorem sizeRa_step {l : List ByteArray} {k n : Nat} (h : k < l.length) (hn : n ≤ 1024) : sizeRa (l.drop k) n = sizeRa (l.drop (k + 1)) (n + 1 + (l[k]'h).size) := by
  rw [List.drop_eq_getElem_cons h]; simp only [sizeRa, if_pos hn]
theorem sizeRa_stop {l : List ByteArray} {k n : Nat} (h : k < l.length) (hn : ¬ n ≤ 1024) : sizeRa (l.drop k) n = n := by
  rw [List.drop_eq_getElem_cons h]; simp only [sizeRa, if_neg hn]
theorem sizeRa_end {l : List ByteArray} {k n : Nat} (h : ¬ k < l.length) : sizeRa (l.drop k) n = n := by
  rw [List.drop_eq_nil_of_le (by omega)]; rfl
theorem sizeRa_le : ∀ (l : List ByteArray) (n m : Nat), n ≤ 1025 + m → (∀ x ∈ l, x.size ≤ m) → sizeRa l n ≤ 1025 + m
  | [], n, m, h, _ => h
  | x :: r, n, m, h, hx => by
    simp only [sizeRa]
    split
    · exact sizeRa_le r _ m (by have := hx x (by simp); omega) (fun y hy => hx y (by simp [hy]))
    · exact h
theorem right_big {l : List ByteArray} (h : 1024 < sizeP l) : rightP l = false := by
  simp only [rightP]
  have : decide ((sizeP l : Int) ≤ 1024) = false := by simp; omega
  rw [this, Bool.and_false]
theorem right_small {l : List ByteArray} (h : ¬ 1024 < sizeP l) (ha : l.all nameB = true) : rightP l = true := by
  rw [← right_end ha]; simp; omega

end Pl
end Go.Proofs.YtfbhofomcenabaaGreatDoor
