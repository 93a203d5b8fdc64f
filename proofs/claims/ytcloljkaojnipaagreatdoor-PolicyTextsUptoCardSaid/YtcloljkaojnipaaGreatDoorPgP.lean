/- Plain functions on bytes and on lists of strings that say what the path functions answer, and plain facts on them. Plain facts on comparing: a three-way comparison carried to lists is one. Plain facts on covers: the rising paths of a list that lie within no other one of it are one list; two ways to come by it. Plain facts on where texts lead: codes, a path's own text, texts behind one another. -/
import Derived.Lib.Strings
import Derived.Lib.IndexBytes
import GoSem.Op.String
namespace Go.Proofs.YtcloljkaojnipaaGreatDoor
namespace Pl

def okc (c : UInt8) : Bool := !(c == 47 || c == 0)
def nameL (l : List UInt8) : Bool := !(l.isEmpty || decide (255 < l.length) || l == [46] || l == [46, 46]) && l.all okc
def nameB (s : ByteArray) : Bool := nameL s.data.toList

theorem toL (s : ByteArray) : s.toList = s.data.toList := Lib.toList_data s
theorem szL (s : ByteArray) : s.data.toList.length = s.size := (Lib.size_eq s).symm
theorem take_snoc (s : ByteArray) (k : Nat) (h : k < s.size) : s.data.toList.take (k + 1) = s.data.toList.take k ++ [s[k]] := by
  rw [List.take_succ_eq_append_getElem (by simpa using h)]; rfl
theorem take_all (s : ByteArray) (k : Nat) (h : s.size ≤ k) : s.data.toList.take k = s.data.toList := List.take_of_length_le (by rw [szL]; exact h)

theorem name_empty {s : ByteArray} (h : s.toList = []) : nameB s = false := by rw [toL] at h; simp [nameB, nameL, h]
theorem name_dot {s : ByteArray} (h : s.toList = [46]) : nameB s = false := by rw [toL] at h; simp [nameB, nameL, h]
theorem name_dots {s : ByteArray} (h : s.toList = [46, 46]) : nameB s = false := by rw [toL] at h; simp [nameB, nameL, h]
theorem name_long {s : ByteArray} (h : (255 : Int) < (s.size : Int)) : nameB s = false := by
  have h' : 255 < s.data.toList.length := by rw [szL]; omega
  have : decide (255 < s.data.toList.length) = true := by simpa using h'
  simp only [nameB, nameL, this]; simp
theorem name_head {s : ByteArray} (h1 : ¬ s.toList = []) (h2 : ¬ (255 : Int) < (s.size : Int)) (h3 : ¬ s.toList = [46]) (h4 : ¬ s.toList = [46, 46]) : nameB s = s.data.toList.all okc := by
  rw [toL] at h1 h3 h4
  have : decide (255 < s.data.toList.length) = false := by rw [szL]; simp; omega
  unfold nameB
  generalize s.data.toList = l at h1 h3 h4 this ⊢
  simp only [nameL, this]
  simp [h1, h3, h4]
theorem okc_int (c : UInt8) : okc c = (!(((c.toNat : Int) == 47) || ((c.toNat : Int) == 0))) := by
  unfold okc
  have e1 : (c == 47) = ((c.toNat : Int) == 47) := by
    rw [Bool.eq_iff_iff]; simp [← UInt8.toNat_inj]; omega
  have e2 : (c == 0) = ((c.toNat : Int) == 0) := by
    rw [Bool.eq_iff_iff]; simp [← UInt8.toNat_inj]
  rw [e1, e2]
theorem all_step {s : ByteArray} {k : Nat} (h : k < s.size) (ha : (s.data.toList.take k).all okc = true) (h1 : ((s[k].toNat : Int) == 47) = false) (h0 : ((s[k].toNat : Int) == 0) = false) :
    (s.data.toList.take (k + 1)).all okc = true := by
  rw [take_snoc s k h, List.all_append, ha]; simp [okc_int, h1, h0]
theorem all_stop {s : ByteArray} {k : Nat} (h : k < s.size) (h1 : ((s[k].toNat : Int) == 47) = true ∨ ((s[k].toNat : Int) == 0) = true) : s.data.toList.all okc = false := by
  rw [← List.take_append_drop (k + 1) s.data.toList, List.all_append, take_snoc s k h, List.all_append]
  rcases h1 with h1 | h1 <;> simp [okc_int, h1]

/-- How many bytes a / ahead of each name, and the names, have. -/
def sumP : List ByteArray → Nat
  | [] => 0
  | x :: r => 1 + x.size + sumP r
def sizeP (l : List ByteArray) : Nat := if l.length = 0 then 1 else sumP l
def rightP (l : List ByteArray) : Bool := l.all nameB && decide ((sizeP l : Int) ≤ 1024)

theorem sizeP_zero {l : List ByteArray} (h : l.length = 0) : sizeP l = 1 := by simp [sizeP, h]
theorem sizeP_pos {l : List ByteArray} (h : ¬ l.length = 0) : sizeP l = sumP l := by simp only [sizeP]; rw [if_neg h]
theorem sumP_append (a b : List ByteArray) : sumP (a ++ b) = sumP a + sumP b := by
  induction a with
  | nil => simp [sumP]
  | cons x r ih => simp only [List.cons_append, sumP, ih]; omega
theorem sumP_snoc (l : List ByteArray) (k : Nat) (h : k < l.length) : sumP (l.take (k + 1)) = sumP (l.take k) + 1 + (l[k]'h).size := by
  rw [List.take_succ_eq_append_getElem h, sumP_append]; simp [sumP]; omega
theorem sumP_take_le (l : List ByteArray) (k : Nat) : sumP (l.take k) ≤ sumP l := by
  have := sumP_append (l.take k) (l.drop k)
  rw [List.take_append_drop] at this; omega
theorem name_size {s : ByteArray} (h : nameB s = true) : s.size ≤ 255 := by
  simp only [nameB, nameL, Bool.and_eq_true, Bool.not_eq_true', Bool.or_eq_false_iff] at h
  have := h.1.1.1.2
  rw [szL] at this
  simp at this; omega
theorem sumP_names (l : List ByteArray) (h : l.all nameB = true) : sumP l ≤ 256 * l.length := by
  induction l with
  | nil => simp [sumP]
  | cons x r ih =>
    simp only [List.all_cons, Bool.and_eq_true] at h
    have := ih h.2
    have := name_size h.1
    simp only [sumP, List.length_cons]; omega
theorem all_names_step {l : List ByteArray} {k : Nat} (h : k < l.length) (ha : (l.take k).all nameB = true) (hn : nameB (l[k]'h) = true) : (l.take (k + 1)).all nameB = true := by
  rw [List.take_succ_eq_append_getElem h, List.all_append, ha]; simp [hn]
theorem all_names_stop {l : List ByteArray} {k : Nat} (h : k < l.length) (hn : nameB (l[k]'h) = false) : l.all nameB = false := by
  rw [← List.take_append_drop (k + 1) l, List.all_append, List.take_succ_eq_append_getElem h, List.all_append]; simp [hn]
theorem right_stop {l : List ByteArray} {k : Nat} (h : k < l.length) (hn : nameB (l[k]'h) = false) : rightP l = false := by
  simp only [rightP, all_names_stop h hn]; rfl
theorem right_end {l : List ByteArray} (h : l.all nameB = true) : decide ((sizeP l : Int) ≤ 1024) = rightP l := by simp only [rightP, h]; simp

/-- May a part of a text stand in it? -/
def mayB (s : ByteArray) : Bool := s.toList == [] || s.toList == [46] || s.toList == [46, 46] || nameB s
theorem may_empty {s : ByteArray} (h : s.toList = []) : mayB s = true := by simp [mayB, h]
theorem may_dot {s : ByteArray} (h : s.toList = [46]) : mayB s = true := by simp [mayB, h]
theorem may_dots {s : ByteArray} (h : s.toList = [46, 46]) : mayB s = true := by simp [mayB, h]
theorem may_name {s : ByteArray} (h1 : ¬ s.toList = []) (h2 : ¬ s.toList = [46]) (h3 : ¬ s.toList = [46, 46]) : mayB s = nameB s := by simp [mayB, h1, h2, h3]

/-- What stands between the / of a text. -/
def spl : List UInt8 → List (List UInt8)
  | [] => [[]]
  | c :: r => if c == 47 then [] :: spl r else match spl r with
    | [] => [[c]]
    | h :: t => (c :: h) :: t
def glue (p : List UInt8) : List (List UInt8) → List (List UInt8)
  | [] => [p]
  | h :: t => (p ++ h) :: t
def bs (l : List UInt8) : ByteArray := ⟨l.toArray⟩
def partsB (s : ByteArray) : List ByteArray := (spl s.data.toList).map bs
theorem spl_ne (l : List UInt8) : spl l ≠ [] := by
  cases l with
  | nil => simp [spl]
  | cons c r =>
    simp only [spl]
    split
    · simp
    · split <;> simp
theorem spl_slash (r : List UInt8) : spl (47 :: r) = [] :: spl r := by simp [spl]
theorem spl_other {c : UInt8} (h : (c == 47) = false) (r : List UInt8) : spl (c :: r) = glue [c] (spl r) := by
  simp only [spl, h]
  cases spl r <;> simp [glue]
theorem glue_glue (p q : List UInt8) (x : List (List UInt8)) : glue p (glue q x) = glue (p ++ q) x := by
  cases x <;> simp [glue]
theorem glue_nil {x : List (List UInt8)} (h : x ≠ []) : glue [] x = x := by
  cases x with
  | nil => exact absurd rfl h
  | cons a b => simp [glue]
theorem drop_cons (s : ByteArray) (k : Nat) (h : k < s.size) : s.data.toList.drop k = s[k] :: s.data.toList.drop (k + 1) := by
  rw [List.drop_eq_getElem_cons (by simpa using h)]; rfl
theorem seg_snoc (s : ByteArray) (f k : Nat) (hf : f ≤ k) (h : k < s.size) : (s.data.toList.drop f).take (k + 1 - f) = (s.data.toList.drop f).take (k - f) ++ [s[k]] := by
  have e : k + 1 - f = (k - f) + 1 := by omega
  rw [e, List.take_succ_eq_append_getElem (by simp; omega)]
  congr 2
  simp only [List.getElem_drop]
  have : f + (k - f) = k := by omega
  simp only [this]
  rfl
theorem byte_slash {c : UInt8} (h : ((c.toNat : Int) == 47) = true) : c = 47 := by
  rw [← UInt8.toNat_inj]; simp at h; simp; omega
theorem byte_other {c : UInt8} (h : ((c.toNat : Int) == 47) = false) : (c == 47) = false := by
  rw [beq_eq_false_iff_ne]; intro e; subst e; simp at h
theorem extract_bs (s : ByteArray) (f k : Nat) : s.extract f k = bs ((s.data.toList.drop f).take (k - f)) := Lib.extract_eq s f k

/-- The state of the loop that takes a text apart: done so far, from where, up to where. -/
def Apart (s : ByteArray) (done : List ByteArray) (f k : Nat) : Prop :=
  partsB s = done ++ (glue ((s.data.toList.drop f).take (k - f)) (spl (s.data.toList.drop k))).map bs
theorem apart_start (s : ByteArray) : Apart s [] 0 0 := by
  simp only [Apart, partsB]
  rw [show s.data.toList.drop 0 = s.data.toList from rfl, show s.data.toList.take (0 - 0) = [] from rfl, glue_nil (spl_ne _)]; simp
theorem apart_other {s : ByteArray} {done : List ByteArray} {f k : Nat} (hf : f ≤ k) (h : k < s.size) (hc : ((s[k].toNat : Int) == 47) = false) (ha : Apart s done f k) : Apart s done f (k + 1) := by
  simp only [Apart] at ha ⊢
  rw [ha, drop_cons s k h, spl_other (byte_other hc), glue_glue, seg_snoc s f k hf h]
theorem apart_slash {s : ByteArray} {done : List ByteArray} {f k : Nat} (h : k < s.size) (hc : ((s[k].toNat : Int) == 47) = true) (ha : Apart s done f k) : Apart s (done ++ [s.extract f k]) (k + 1) (k + 1) := by
  simp only [Apart] at ha ⊢
  rw [ha, drop_cons s k h, byte_slash hc, spl_slash, extract_bs]
  rw [show k + 1 - (k + 1) = 0 from by omega, List.take_zero, glue_nil (spl_ne _)]
  simp [glue]
theorem apart_end {s : ByteArray} {done : List ByteArray} {f k : Nat} (h : s.size ≤ k) (ha : Apart s done f k) : partsB s = done ++ [s.extract f s.size] := by
  simp only [Apart] at ha
  have e1 : s.data.toList.drop k = [] := List.drop_eq_nil_of_le (by rw [szL]; exact h)
  rw [ha, e1, extract_bs]
  simp only [spl, glue, List.append_nil, List.map_cons, List.map_nil]
  have e2 : (s.data.toList.drop f).take (k - f) = s.data.toList.drop f := List.take_of_length_le (by rw [List.length_drop, szL]; omega)
  have e3 : (s.data.toList.drop f).take (s.size - f) = s.data.toList.drop f := List.take_of_length_le (by rw [List.length_drop, szL]; omega)
  rw [e2, e3]

/-- A part that leads to a folder, and what a part does to a path. -/
def dirB (x : ByteArray) : Bool := x.toList == [] || x.toList == [46] || x.toList == [46, 46]
def stepP (out : List ByteArray) (x : ByteArray) : List ByteArray := if dirB x then (if x.toList == [46, 46] then out.dropLast else out) else out ++ [x]
def startP (l : List ByteArray) (s : ByteArray) : List ByteArray := if s.data.toList.head? = some 47 then [] else l
def lastDir (ps : List ByteArray) : Bool := match ps.getLast? with
  | none => false
  | some x => dirB x
def normalP (l : List ByteArray) (s : ByteArray) : List ByteArray × Bool × Int :=
  if rightP l = false then ([], false, 20) else if 1024 < s.size then ([], false, 4) else if s.toList = [] then ([], false, 20)
  else if (partsB s).all mayB = false then ([], false, 20)
  else if 1024 < sizeP ((partsB s).foldl stepP (startP l s)) then ([], false, 4)
  else ((partsB s).foldl stepP (startP l s), lastDir (partsB s), 0)

theorem right_len {l : List ByteArray} (h : rightP l = true) : l.length ≤ 1024 := by
  simp only [rightP, Bool.and_eq_true, decide_eq_true_eq] at h
  have h1 : l.length ≤ sumP l := by
    clear h
    induction l with
    | nil => simp
    | cons x r ih => simp only [sumP, List.length_cons]; omega
  have h2 := h.2
  simp only [sizeP] at h2
  split at h2 <;> omega
theorem right_names {l : List ByteArray} (h : rightP l = true) : l.all nameB = true := by
  simp only [rightP, Bool.and_eq_true] at h; exact h.1
theorem may_not_dir {x : ByteArray} (h : mayB x = true) (hd : dirB x = false) : nameB x = true := by
  simp only [mayB, dirB] at h hd; rw [hd] at h; simpa using h
theorem all_dropLast {l : List ByteArray} (h : l.all nameB = true) : l.dropLast.all nameB = true := by
  rw [List.all_eq_true] at h ⊢
  exact fun x hx => h x ((List.dropLast_sublist l).subset hx)
theorem step_names {l : List ByteArray} {x : ByteArray} (h : l.all nameB = true) (hx : mayB x = true) : (stepP l x).all nameB = true := by
  unfold stepP
  cases hd : dirB x
  · simp [h, may_not_dir hx hd]
  · simp only [if_true]
    split
    · exact all_dropLast h
    · exact h
theorem step_len (l : List ByteArray) (x : ByteArray) : (stepP l x).length ≤ l.length + 1 := by
  unfold stepP
  split
  · split
    · simp; omega
    · omega
  · simp
theorem fold_snoc (ps : List ByteArray) (start : List ByteArray) (k : Nat) (h : k < ps.length) : (ps.take (k + 1)).foldl stepP start = stepP ((ps.take k).foldl stepP start) (ps[k]'h) := by
  rw [List.take_succ_eq_append_getElem h, List.foldl_append]; rfl
theorem step_same {l : List ByteArray} {x : ByteArray} (h : x.toList = [] ∨ x.toList = [46]) : stepP l x = l := by
  rcases h with h | h <;> simp [stepP, dirB, h]
theorem step_up {l : List ByteArray} {x : ByteArray} (h : x.toList = [46, 46]) : stepP l x = l.dropLast := by simp [stepP, dirB, h]
theorem step_down {l : List ByteArray} {x : ByteArray} (h1 : ¬ x.toList = []) (h2 : ¬ x.toList = [46]) (h3 : ¬ x.toList = [46, 46]) : stepP l x = l ++ [x] := by simp [stepP, dirB, h1, h2, h3]
theorem all_may_step {l : List ByteArray} {k : Nat} (h : k < l.length) (ha : (l.take k).all mayB = true) (hn : mayB (l[k]'h) = true) : (l.take (k + 1)).all mayB = true := by
  rw [List.take_succ_eq_append_getElem h, List.all_append, ha]; simp [hn]
theorem all_may_stop {l : List ByteArray} {k : Nat} (h : k < l.length) (hn : mayB (l[k]'h) = false) : l.all mayB = false := by
  rw [← List.take_append_drop (k + 1) l, List.all_append, List.take_succ_eq_append_getElem h, List.all_append]; simp [hn]
theorem lastDir_take {l : List ByteArray} {k : Nat} (h : k < l.length) : lastDir (l.take (k + 1)) = dirB (l[k]'h) := by
  rw [List.take_succ_eq_append_getElem h]; simp only [lastDir, List.getLast?_concat]
theorem dir_empty {x : ByteArray} (h : x.toList = []) : dirB x = true := by simp [dirB, h]
theorem dir_dot {x : ByteArray} (h : x.toList = [46]) : dirB x = true := by simp [dirB, h]
theorem dir_dots {x : ByteArray} (h : x.toList = [46, 46]) : dirB x = true := by simp [dirB, h]
theorem dir_not {x : ByteArray} (h1 : ¬ x.toList = []) (h2 : ¬ x.toList = [46]) (h3 : ¬ x.toList = [46, 46]) : dirB x = false := by simp [dirB, h1, h2, h3]

theorem fold_names {st : List ByteArray} (h : st.all nameB = true) (ps : List ByteArray) (hp : ps.all mayB = true) : (ps.foldl stepP st).all nameB = true := by
  induction ps generalizing st with
  | nil => exact h
  | cons x r ih =>
    simp only [List.all_cons, Bool.and_eq_true] at hp
    exact ih (step_names h hp.1) hp.2
theorem fold_len (st ps : List ByteArray) : (ps.foldl stepP st).length ≤ st.length + ps.length := by
  induction ps generalizing st with
  | nil => simp
  | cons x r ih => have h1 := ih (stepP st x); have h2 := step_len st x; simp only [List.foldl_cons, List.length_cons]; omega

theorem normal_wrong {l : List ByteArray} {s : ByteArray} (h : rightP l = false) : normalP l s = ([], false, 20) := by simp [normalP, h]
theorem normal_far {l : List ByteArray} {s : ByteArray} (h : rightP l = true) (h2 : 1024 < s.size) : normalP l s = ([], false, 4) := by simp [normalP, h, h2]
theorem normal_none {l : List ByteArray} {s : ByteArray} (h : rightP l = true) (h2 : ¬ 1024 < s.size) (h3 : s.toList = []) : normalP l s = ([], false, 20) := by simp [normalP, h, h2, h3]
theorem normal_bad {l : List ByteArray} {s : ByteArray} (h : rightP l = true) (h2 : ¬ 1024 < s.size) (h3 : ¬ s.toList = []) (h4 : (partsB s).all mayB = false) : normalP l s = ([], false, 20) := by
  simp only [normalP, h, h2, h3, h4]; simp
theorem normal_long {l : List ByteArray} {s : ByteArray} (h : rightP l = true) (h2 : ¬ 1024 < s.size) (h3 : ¬ s.toList = []) (h4 : (partsB s).all mayB = true) (h5 : 1024 < sizeP ((partsB s).foldl stepP (startP l s))) : normalP l s = ([], false, 4) := by
  simp only [normalP, h, h2, h3, h4, h5]; simp
theorem normal_ok {l : List ByteArray} {s : ByteArray} (h : rightP l = true) (h2 : ¬ 1024 < s.size) (h3 : ¬ s.toList = []) (h4 : (partsB s).all mayB = true) (h5 : ¬ 1024 < sizeP ((partsB s).foldl stepP (startP l s))) :
    normalP l s = ((partsB s).foldl stepP (startP l s), lastDir (partsB s), 0) := by
  simp only [normalP, h, h2, h3, h4, h5]; simp
theorem head_byte {s : ByteArray} (h0 : 0 < s.size) : s.data.toList.head? = some s[0] := by
  have h := drop_cons s 0 h0
  rw [List.drop_zero] at h
  rw [h]; rfl
theorem start_slash {l : List ByteArray} {s : ByteArray} (h0 : 0 < s.size) (h : ((s[0].toNat : Int) == 47) = true) : startP l s = [] := by
  rw [startP, head_byte h0, byte_slash h, if_pos rfl]
theorem start_other {l : List ByteArray} {s : ByteArray} (h0 : 0 < s.size) (h : ((s[0].toNat : Int) == 47) = false) : startP l s = l := by
  have hb := byte_other h
  rw [beq_eq_false_iff_ne] at hb
  rw [startP, head_byte h0, if_neg (fun e => hb (Option.some.inj e))]
theorem size_pos {s : ByteArray} (h : ¬ s.toList = []) : 0 < s.size := by
  rw [toL] at h
  have := szL s
  cases hl : s.data.toList with
  | nil => exact absurd hl h
  | cons a b => rw [hl] at this; simp at this; omega
theorem spl_len (l : List UInt8) : (spl l).length ≤ l.length + 1 := by
  induction l with
  | nil => simp [spl]
  | cons c r ih =>
    simp only [spl]
    split
    · simp; omega
    · split
      · simp
      · rename_i h t e; rw [e] at ih; simp at ih ⊢; omega
theorem parts_len (s : ByteArray) : (partsB s).length ≤ s.size + 1 := by
  have := spl_len s.data.toList
  rw [szL] at this; simpa [partsB] using this
theorem spl_mem (l : List UInt8) : ∀ p ∈ spl l, p.length ≤ l.length := by
  induction l with
  | nil => simp [spl]
  | cons c r ih =>
    simp only [spl]
    split
    · intro p hp
      simp only [List.mem_cons] at hp
      rcases hp with rfl | hp
      · simp
      · have := ih p hp; simp; omega
    · split
      · simp
      · rename_i h t e
        rw [e] at ih
        intro p hp
        simp only [List.mem_cons] at hp
        rcases hp with rfl | hp
        · have := ih h (by simp); simp; omega
        · have := ih p (by simp [hp]); simp; omega
theorem parts_mem (s : ByteArray) : ∀ p ∈ partsB s, p.size ≤ s.size := by
  intro p hp
  obtain ⟨x, hx, rfl⟩ := List.mem_map.1 hp
  have := spl_mem s.data.toList x hx
  rw [szL] at this
  show x.toArray.size ≤ s.size
  simpa using this

/-- How many names two paths both begin with. -/
def com : List ByteArray → List ByteArray → Nat
  | a :: r, b :: t => if a.toList == b.toList then 1 + com r t else 0
  | _, _ => 0
theorem com_nil_left (b : List ByteArray) : com [] b = 0 := by cases b <;> rfl
theorem com_nil_right (a : List ByteArray) : com a [] = 0 := by cases a <;> rfl
theorem com_step {a b : List ByteArray} {k : Nat} (ha : k < a.length) (hb : k < b.length) (h : ((a[k]'ha).toList == (b[k]'hb).toList) = true) : com (a.drop k) (b.drop k) = 1 + com (a.drop (k + 1)) (b.drop (k + 1)) := by
  rw [List.drop_eq_getElem_cons ha, List.drop_eq_getElem_cons hb]; simp only [com, h, if_true]
theorem com_stop {a b : List ByteArray} {k : Nat} (ha : k < a.length) (hb : k < b.length) (h : ((a[k]'ha).toList == (b[k]'hb).toList) = false) : com (a.drop k) (b.drop k) = 0 := by
  rw [List.drop_eq_getElem_cons ha, List.drop_eq_getElem_cons hb]; simp [com, h]
theorem com_end_left {a b : List ByteArray} {k : Nat} (h : ¬ k < a.length) : com (a.drop k) (b.drop k) = 0 := by
  rw [List.drop_eq_nil_of_le (by omega), com_nil_left]
theorem com_end_right {a b : List ByteArray} {k : Nat} (h : ¬ k < b.length) : com (a.drop k) (b.drop k) = 0 := by
  rw [List.drop_eq_nil_of_le (as := b) (by omega), com_nil_right]
def withinP (p q : List ByteArray) : Bool := ((com p q : Int) == (q.length : Int))
def sameP (p q : List ByteArray) : Bool := ((p.length : Int) == (q.length : Int)) && ((com p q : Int) == (p.length : Int))

/-- A path's own text. -/
def textF : List ByteArray → List UInt8
  | [] => []
  | x :: r => 47 :: (x.data.toList ++ textF r)
def textP (l : List ByteArray) : ByteArray := if l.length = 0 then bs [47] else bs (textF l)
def printP (l : List ByteArray) : ByteArray × Int := if rightP l = false then (bs [], 20) else (textP l, 0)
theorem textF_append (a b : List ByteArray) : textF (a ++ b) = textF a ++ textF b := by
  induction a with
  | nil => rfl
  | cons x r ih => simp [textF, ih]
theorem textF_snoc (l : List ByteArray) (k : Nat) (h : k < l.length) : textF (l.take (k + 1)) = textF (l.take k) ++ [47] ++ (l[k]'h).data.toList := by
  rw [List.take_succ_eq_append_getElem h, textF_append]; simp [textF]
theorem textF_length (l : List ByteArray) : (textF l).length = sumP l := by
  induction l with
  | nil => rfl
  | cons x r ih => simp only [textF, sumP, List.length_cons, List.length_append, ih, szL]; omega
theorem print_wrong {l : List ByteArray} (h : rightP l = false) : printP l = (bs [], 20) := by simp [printP, h]
theorem print_root {l : List ByteArray} (h : rightP l = true) (h0 : l.length = 0) : printP l = (bs [47], 0) := by simp [printP, h, textP, h0]
theorem print_text {l : List ByteArray} (h : rightP l = true) (h0 : ¬ l.length = 0) : printP l = (bs (textF l), 0) := by
  simp only [printP, h, textP]; rw [if_neg h0]; rfl
theorem right_sum {l : List ByteArray} (h : rightP l = true) : sumP l ≤ 1024 := by
  simp only [rightP, Bool.and_eq_true, decide_eq_true_eq] at h
  have h2 := h.2
  simp only [sizeP] at h2
  split at h2
  · have : l = [] := List.eq_nil_of_length_eq_zero (by assumption)
    subst this; simp [sumP]
  · omega

/-- How long a path's own text is, no further than needs be. -/
def sizeRa : List ByteArray → Nat → Nat
  | [], n => n
  | x :: r, n => if n ≤ 1024 then sizeRa r (n + 1 + x.size) else n
def sizeR (l : List ByteArray) : Nat := if l.length = 0 then 1 else sizeRa l 0
theorem sizeRa_iff : ∀ (l : List ByteArray) (n : Nat), 1024 < sizeRa l n ↔ 1024 < n + sumP l
  | [], n => by simp [sizeRa, sumP]
  | x :: r, n => by
    simp only [sizeRa, sumP]
    by_cases h : n ≤ 1024
    · rw [if_pos h, sizeRa_iff r]; omega
    · rw [if_neg h]; omega
theorem sizeR_iff (l : List ByteArray) : 1024 < sizeR l ↔ 1024 < sizeP l := by
  unfold sizeR sizeP
  split
  · exact Iff.rfl
  · rw [sizeRa_iff]; omega
theorem sizeR_zero {l : List ByteArray} (h : l.length = 0) : sizeR l = 1 := by simp [sizeR, h]
theorem sizeR_pos {l : List ByteArray} (h : ¬ l.length = 0) : sizeR l = sizeRa l 0 := by simp only [sizeR]; rw [if_neg h]
theorem sizeRa_step {l : List ByteArray} {k n : Nat} (h : k < l.length) (hn : n ≤ 1024) : sizeRa (l.drop k) n = sizeRa (l.drop (k + 1)) (n + 1 + (l[k]'h).size) := by
  rw [List.drop_eq_getElem_cons h]; simp only [sizeRa, if_pos hn]
theorem sizeRa_stop {l : List ByteArray} {k n : Nat} (h : k < l.length) (hn : ¬ n ≤ 1024) : sizeRa (l.drop k) n = n := by
  rw [List.drop_eq_getElem_cons h]; simp only [sizeRa, if_neg hn]
theorem sizeRa_end {l : List ByteArray} {k n : Nat} (h : ¬ k < l.length) : sizeRa (l.drop k) n = n := by
  rw [List.drop_eq_nil_of_le (by omega)]; rfl
theorem sizeRa_le : ∀ (l : List ByteArray) (n m : Nat), n ≤ 1025 + m → (∀ x ∈ l, x.size ≤ m) → sizeRa l n ≤ 1025 + m
  | [], n, m, h, _ => h
  | x :: r, n, m, h, hx => by
    simp only [sizeRa]
    split
    · exact sizeRa_le r _ m (by have := hx x (by simp); omega) (fun y hy => hx y (by simp [hy]))
    · exact h
theorem right_big {l : List ByteArray} (h : 1024 < sizeP l) : rightP l = false := by
  simp only [rightP]
  have : decide ((sizeP l : Int) ≤ 1024) = false := by simp; omega
  rw [this, Bool.and_false]
theorem right_small {l : List ByteArray} (h : ¬ 1024 < sizeP l) (ha : l.all nameB = true) : rightP l = true := by
  rw [← right_end ha]; simp; omega

end Pl
end Go.Proofs.YtcloljkaojnipaaGreatDoor
namespace Go.Proofs.YtcloljkaojnipaaGreatDoor
namespace Pl

def lex {α : Type} (c : α → α → Int) : List α → List α → Int
  | [], [] => 0
  | [], _ :: _ => -1
  | _ :: _, [] => 1
  | a :: r, b :: t => if c a b = 0 then lex c r t else c a b

structure Cmp {α : Type} (c : α → α → Int) : Prop where
  rng : ∀ a b, c a b = -1 ∨ c a b = 0 ∨ c a b = 1
  neg : ∀ a b, c a b = - c b a
  eq : ∀ a b, c a b = 0 ↔ a = b
  trans : ∀ a b d, c a b ≤ 0 → c b d ≤ 0 → c a d ≤ 0

theorem Cmp.strict {α : Type} {c : α → α → Int} (h : Cmp c) (a b d : α) (h1 : c a b < 0) (h2 : c b d ≤ 0) : c a d < 0 := by
  have h3 := h.trans a b d (by omega) h2
  have h4 : c a d ≠ 0 := fun e => by
    have := (h.eq a d).1 e
    subst this
    have := h.neg a b
    omega
  omega
theorem Cmp.strict' {α : Type} {c : α → α → Int} (h : Cmp c) (a b d : α) (h1 : c a b ≤ 0) (h2 : c b d < 0) : c a d < 0 := by
  have h3 := h.trans a b d h1 (by omega)
  have h4 : c a d ≠ 0 := fun e => by
    have := (h.eq a d).1 e
    subst this
    have := h.neg a b
    omega
  omega

theorem Cmp.lex {α : Type} {c : α → α → Int} (h : Cmp c) : Cmp (lex c) where
  rng := by
    intro a
    induction a with
    | nil => intro b; cases b <;> simp [Pl.lex]
    | cons x r ih =>
      intro b
      cases b with
      | nil => simp [Pl.lex]
      | cons y t =>
        simp only [Pl.lex]
        split
        · exact ih t
        · exact h.rng x y
  neg := by
    intro a
    induction a with
    | nil => intro b; cases b <;> simp [Pl.lex]
    | cons x r ih =>
      intro b
      cases b with
      | nil => simp [Pl.lex]
      | cons y t =>
        simp only [Pl.lex]
        have := h.neg x y
        by_cases e : c x y = 0
        · rw [if_pos e, if_pos (by omega)]; exact ih t
        · rw [if_neg e, if_neg (by omega)]; exact this
  eq := by
    intro a
    induction a with
    | nil => intro b; cases b <;> simp [Pl.lex]
    | cons x r ih =>
      intro b
      cases b with
      | nil => simp [Pl.lex]
      | cons y t =>
        simp only [Pl.lex]
        by_cases e : c x y = 0
        · rw [if_pos e, ih t, (h.eq x y).1 e]; simp
        · rw [if_neg e]
          have := h.eq x y
          constructor
          · intro q; exact absurd q e
          · intro q; cases q; exact absurd (this.2 rfl) e
  trans := by
    intro a
    induction a with
    | nil => intro b d h1 h2; cases d <;> simp [Pl.lex]
    | cons x r ih =>
      intro b d h1 h2
      cases b with
      | nil => simp [Pl.lex] at h1
      | cons y t =>
        cases d with
        | nil => simp [Pl.lex] at h2
        | cons z u =>
          simp only [Pl.lex] at h1 h2 ⊢
          by_cases e1 : c x y = 0
          · have := (h.eq x y).1 e1
            subst this
            rw [if_pos e1] at h1
            by_cases e2 : c x z = 0
            · rw [if_pos e2] at h2 ⊢; exact ih t u h1 h2
            · rw [if_neg e2] at h2 ⊢; exact h2
          · rw [if_neg e1] at h1
            have h3 : c y z ≤ 0 := by
              by_cases e2 : c y z = 0
              · omega
              · rw [if_neg e2] at h2; exact h2
            have h4 := h.strict x y z (by omega) h3
            rw [if_neg (by omega)]; omega

theorem Cmp.on {α β : Type} {c : α → α → Int} (h : Cmp c) (f : β → α) (hf : ∀ x y, f x = f y → x = y) : Cmp (fun x y => c (f x) (f y)) where
  rng := fun a b => h.rng _ _
  neg := fun a b => h.neg _ _
  eq := fun a b => (h.eq _ _).trans ⟨hf a b, fun e => by rw [e]⟩
  trans := fun a b d => h.trans _ _ _

def cmpB (a b : UInt8) : Int := if a < b then -1 else if a = b then 0 else 1
theorem cmpB_cmp : Cmp cmpB where
  rng := by
    intro a b
    unfold cmpB
    by_cases h1 : a < b
    · rw [if_pos h1]; exact .inl rfl
    · rw [if_neg h1]
      by_cases h2 : a = b
      · rw [if_pos h2]; exact .inr (.inl rfl)
      · rw [if_neg h2]; exact .inr (.inr rfl)
  neg := by
    intro a b
    simp only [cmpB, UInt8.lt_iff_toNat_lt, ← UInt8.toNat_inj]
    by_cases h1 : a.toNat < b.toNat
    · rw [if_pos h1, if_neg (by omega), if_neg (by omega)]
    · by_cases h2 : a.toNat = b.toNat
      · rw [if_neg h1, if_pos h2, if_neg (by omega), if_pos h2.symm]; rfl
      · rw [if_neg h1, if_neg h2, if_pos (by omega)]; rfl
  eq := by
    intro a b
    simp only [cmpB, UInt8.lt_iff_toNat_lt]
    by_cases h1 : a.toNat < b.toNat
    · rw [if_pos h1]; constructor
      · intro h; omega
      · intro h; subst h; omega
    · rw [if_neg h1]
      by_cases h2 : a = b <;> simp [h2]
  trans := by
    intro a b d
    simp only [cmpB, UInt8.lt_iff_toNat_lt, ← UInt8.toNat_inj]
    intro h1 h2
    have h3 : a.toNat ≤ b.toNat := by
      by_cases h : a.toNat < b.toNat
      · omega
      · rw [if_neg h] at h1
        by_cases h' : a.toNat = b.toNat
        · omega
        · rw [if_neg h'] at h1; omega
    have h4 : b.toNat ≤ d.toNat := by
      by_cases h : b.toNat < d.toNat
      · omega
      · rw [if_neg h] at h2
        by_cases h' : b.toNat = d.toNat
        · omega
        · rw [if_neg h'] at h2; omega
    by_cases h : a.toNat < d.toNat
    · rw [if_pos h]; omega
    · rw [if_neg h, if_pos (by omega)]; omega

def cmpS (x y : ByteArray) : Int := lex cmpB x.data.toList y.data.toList
def cmpP (p q : List ByteArray) : Int := lex cmpS p q
theorem data_inj (x y : ByteArray) (h : x.data.toList = y.data.toList) : x = y := by
  cases x; cases y; simp at h; rw [h]
theorem cmpS_cmp : Cmp cmpS := (cmpB_cmp.lex).on (fun x : ByteArray => x.data.toList) data_inj
theorem cmpP_cmp : Cmp cmpP := cmpS_cmp.lex

theorem less_lex : ∀ (x y : List UInt8), Op.bytesLess x y = decide (lex cmpB x y = -1)
  | [], [] => by simp [Op.bytesLess, lex]
  | [], _ :: _ => by simp [Op.bytesLess, lex]
  | _ :: _, [] => by simp [Op.bytesLess, lex]
  | a :: x, b :: y => by
    simp only [Op.bytesLess, lex, less_lex x y]
    by_cases h1 : a < b
    · have : cmpB a b = -1 := by simp [cmpB, h1]
      simp [h1, this]
    · by_cases h2 : a = b
      · subst h2
        have : cmpB a a = 0 := (cmpB_cmp.eq a a).2 rfl
        simp [this]
      · have : cmpB a b = 1 := by simp [cmpB, h1, h2]
        simp [h1, h2, this]
theorem cmpS_less {x y : ByteArray} (h : Op.bytesLess x.toList y.toList = true) : cmpS x y = -1 := by
  rw [toL, toL, less_lex] at h; simpa [cmpS] using h
theorem cmpS_eq {x y : ByteArray} (h : (x.toList == y.toList) = true) : cmpS x y = 0 := by
  rw [toL, toL] at h; exact (cmpB_cmp.lex.eq _ _).2 (by simpa using h)
theorem cmpS_more {x y : ByteArray} (h1 : Op.bytesLess x.toList y.toList = false) (h2 : (x.toList == y.toList) = false) : cmpS x y = 1 := by
  rw [toL, toL] at h1 h2
  rw [less_lex] at h1
  have h3 := cmpB_cmp.lex.rng x.data.toList y.data.toList
  have h4 : ¬ lex cmpB x.data.toList y.data.toList = 0 := fun e => by rw [(cmpB_cmp.lex.eq _ _).1 e] at h2; simp at h2
  simp at h1
  unfold cmpS
  omega

theorem cmpP_step {a b : List ByteArray} {k : Nat} (ha : k < a.length) (hb : k < b.length) (h : cmpS (a[k]'ha) (b[k]'hb) = 0) : cmpP (a.drop k) (b.drop k) = cmpP (a.drop (k + 1)) (b.drop (k + 1)) := by
  rw [List.drop_eq_getElem_cons ha, List.drop_eq_getElem_cons hb]; simp only [cmpP, lex, h, if_true]
theorem cmpP_stop {a b : List ByteArray} {k : Nat} (ha : k < a.length) (hb : k < b.length) (h : ¬ cmpS (a[k]'ha) (b[k]'hb) = 0) : cmpP (a.drop k) (b.drop k) = cmpS (a[k]'ha) (b[k]'hb) := by
  rw [List.drop_eq_getElem_cons ha, List.drop_eq_getElem_cons hb]; simp only [cmpP, lex, h, if_false]
theorem cmpP_more {a b : List ByteArray} {k : Nat} (ha : k < a.length) (hb : ¬ k < b.length) : cmpP (a.drop k) (b.drop k) = 1 := by
  rw [List.drop_eq_getElem_cons ha, List.drop_eq_nil_of_le (as := b) (by omega)]; rfl
theorem cmpP_less {a b : List ByteArray} {k : Nat} (ha : ¬ k < a.length) (hb : k < b.length) : cmpP (a.drop k) (b.drop k) = -1 := by
  rw [List.drop_eq_getElem_cons hb, List.drop_eq_nil_of_le (as := a) (by omega)]; rfl
theorem cmpP_end {a b : List ByteArray} {k : Nat} (ha : ¬ k < a.length) (hb : ¬ k < b.length) : cmpP (a.drop k) (b.drop k) = 0 := by
  rw [List.drop_eq_nil_of_le (as := a) (by omega), List.drop_eq_nil_of_le (as := b) (by omega)]; rfl

/-- Lying within, said by lists. -/
theorem com_le : ∀ (p q : List ByteArray), com p q ≤ q.length ∧ com p q ≤ p.length
  | [], q => by simp [com_nil_left]
  | _ :: _, [] => by simp [com]
  | a :: r, b :: t => by
    have := com_le r t
    simp only [com]
    split <;> simp <;> omega
theorem within_iff : ∀ (p q : List ByteArray), withinP p q = true ↔ ∃ r, p = q ++ r
  | p, [] => by simp [withinP, com_nil_right]
  | [], b :: t => by simp [withinP, com_nil_left]; omega
  | a :: r, b :: t => by
    have ih := within_iff r t
    simp only [withinP, beq_iff_eq] at ih ⊢
    simp only [com]
    by_cases h : (a.toList == b.toList) = true
    · rw [if_pos h]
      have e : a = b := data_inj a b (by rw [toL, toL] at h; simpa using h)
      subst e
      simp only [List.cons_append, List.cons.injEq, true_and, ← ih, List.length_cons]
      omega
    · rw [if_neg h]
      simp only [List.cons_append, List.cons.injEq, List.length_cons]
      constructor
      · intro q; omega
      · rintro ⟨_, e, _⟩; subst e; simp at h
theorem same_iff (p q : List ByteArray) : sameP p q = true ↔ p = q := by
  have h := within_iff p q
  simp only [withinP, beq_iff_eq] at h
  simp only [sameP, Bool.and_eq_true, beq_iff_eq]
  constructor
  · rintro ⟨h1, h2⟩
    obtain ⟨r, e⟩ := h.1 (by omega)
    have : r = [] := List.eq_nil_of_length_eq_zero (by have := congrArg List.length e; simp at this; omega)
    rw [e, this]; simp
  · rintro rfl
    exact ⟨rfl, h.2 ⟨[], by simp⟩⟩
theorem cmpP_prefix : ∀ (q r : List ByteArray), cmpP q (q ++ r) ≤ 0
  | [], [] => by simp [cmpP, lex]
  | [], _ :: _ => by simp [cmpP, lex]
  | a :: q, r => by
    have := cmpP_prefix q r
    simp only [cmpP, List.cons_append, lex] at this ⊢
    rw [if_pos ((cmpS_cmp.eq a a).2 rfl)]; exact this

end Pl
end Go.Proofs.YtcloljkaojnipaaGreatDoor
namespace Go.Proofs.YtcloljkaojnipaaGreatDoor
namespace Pl

/-- p lies within q. -/
def In (p q : List ByteArray) : Prop := ∃ r, p = q ++ r
theorem In.refl (p : List ByteArray) : In p p := ⟨[], by simp⟩
theorem In.trans {p q r : List ByteArray} (h1 : In p q) (h2 : In q r) : In p r := by
  obtain ⟨x, rfl⟩ := h1; obtain ⟨y, rfl⟩ := h2; exact ⟨y ++ x, by simp⟩
theorem In.len {p q : List ByteArray} (h : In p q) : q.length ≤ p.length := by obtain ⟨x, rfl⟩ := h; simp
theorem In.eq {p q : List ByteArray} (h : In p q) (hl : p.length ≤ q.length) : p = q := by
  obtain ⟨x, rfl⟩ := h
  have : x = [] := List.eq_nil_of_length_eq_zero (by simp at hl; omega)
  subst this; simp
theorem In.cmp {p q : List ByteArray} (h : In p q) : cmpP q p ≤ 0 := by obtain ⟨x, rfl⟩ := h; exact cmpP_prefix q x
theorem within_in (p q : List ByteArray) : withinP p q = true ↔ In p q := within_iff p q
/-- What lies between a path and one within it lies within it. -/
theorem In.between : ∀ {m y r : List ByteArray}, cmpP m y ≤ 0 → cmpP y (m ++ r) ≤ 0 → In y m
  | [], y, _, _, _ => ⟨y, rfl⟩
  | a :: m, [], r, h1, _ => by simp [cmpP, lex] at h1
  | a :: m, b :: y, r, h1, h2 => by
    simp only [cmpP, lex, List.cons_append] at h1 h2
    have hn := cmpS_cmp.neg a b
    by_cases e : cmpS a b = 0
    · have e' : cmpS b a = 0 := by omega
      rw [if_pos e] at h1
      rw [if_pos e'] at h2
      obtain ⟨x, hx⟩ := In.between (m := m) (y := y) (r := r) h1 h2
      have := (cmpS_cmp.eq a b).1 e
      subst this
      exact ⟨x, by rw [hx]; rfl⟩
    · have e' : ¬ cmpS b a = 0 := by omega
      rw [if_neg e] at h1
      rw [if_neg e'] at h2
      omega
theorem cmp_eq {p q : List ByteArray} (h1 : cmpP p q ≤ 0) (h2 : cmpP q p ≤ 0) : p = q := by
  have := cmpP_cmp.neg p q
  exact (cmpP_cmp.eq p q).1 (by omega)

/-- p lies within no other one of l. -/
def Least (l : List (List ByteArray)) (p : List ByteArray) : Prop := ∀ q ∈ l, In p q → q = p
/-- c is the cover of l. -/
structure Cov (l c : List (List ByteArray)) : Prop where
  up : c.Pairwise fun a b => cmpP a b < 0
  mem : ∀ p, p ∈ c ↔ p ∈ l ∧ Least l p

theorem up_unique : ∀ {a b : List (List ByteArray)}, a.Pairwise (fun a b => cmpP a b < 0) → b.Pairwise (fun a b => cmpP a b < 0) → (∀ x, x ∈ a ↔ x ∈ b) → a = b
  | [], [], _, _, _ => rfl
  | [], y :: t, _, _, h => absurd ((h y).2 (by simp)) (by simp)
  | x :: s, [], _, _, h => absurd ((h x).1 (by simp)) (by simp)
  | x :: s, y :: t, ha, hb, h => by
    obtain ⟨hx, hs⟩ := List.pairwise_cons.1 ha
    obtain ⟨hy, ht⟩ := List.pairwise_cons.1 hb
    have e : x = y := by
      rcases List.mem_cons.1 ((h x).1 (by simp)) with e | m1
      · exact e
      · rcases List.mem_cons.1 ((h y).2 (by simp)) with e | m2
        · exact e.symm
        · have h1 := hx y m2
          have h2 := hy x m1
          have := cmpP_cmp.neg x y
          omega
    subst e
    have : s = t := up_unique hs ht fun z => by
      constructor
      · intro hz
        rcases List.mem_cons.1 ((h z).1 (by simp [hz])) with e | m
        · subst e
          have := hx z hz
          have := (cmpP_cmp.eq z z).2 rfl
          omega
        · exact m
      · intro hz
        rcases List.mem_cons.1 ((h z).2 (by simp [hz])) with e | m
        · subst e
          have := hy z hz
          have := (cmpP_cmp.eq z z).2 rfl
          omega
        · exact m
    rw [this]
theorem Cov.unique {l c d : List (List ByteArray)} (h : Cov l c) (h' : Cov l d) : c = d := up_unique h.up h'.up fun x => by rw [h.mem, h'.mem]
theorem Cov.perm {l l' c : List (List ByteArray)} (h : Cov l c) (hm : ∀ x, x ∈ l ↔ x ∈ l') : Cov l' c :=
  ⟨h.up, fun p => by rw [h.mem, hm]; exact and_congr_right fun _ => ⟨fun k q hq => k q ((hm q).2 hq), fun k q hq => k q ((hm q).1 hq)⟩⟩
/-- Each one of a list lies within a least one of it. -/
theorem least_ex (l : List (List ByteArray)) : ∀ (n : Nat) (p : List ByteArray), p.length ≤ n → p ∈ l → ∃ m ∈ l, In p m ∧ Least l m
  | n, p, hn, hp => by
    by_cases h : Least l p
    · exact ⟨p, hp, In.refl p, h⟩
    · have : ∃ q ∈ l, In p q ∧ q ≠ p := by
        apply Classical.byContradiction
        intro hc
        apply h
        intro q hq hi
        apply Classical.byContradiction
        intro hne
        exact hc ⟨q, hq, hi, hne⟩
      obtain ⟨q, hq, hi, hne⟩ := this
      have hl : q.length < p.length := by
        rcases Nat.lt_or_ge q.length p.length with h | h
        · exact h
        · exact absurd (hi.eq h).symm hne
      match n, hn with
      | 0, hn => exact absurd hl (by omega)
      | n + 1, hn =>
        obtain ⟨m, hm, h1, h2⟩ := least_ex l n q (by omega) hq
        exact ⟨m, hm, hi.trans h1, h2⟩
theorem Cov.self {l c : List (List ByteArray)} (h : Cov l c) : Cov c c := by
  refine ⟨h.up, fun p => ⟨fun hp => ⟨hp, fun q hq hi => ?_⟩, fun hp => hp.1⟩⟩
  exact ((h.mem p).1 hp).2 q ((h.mem q).1 hq).1 hi

/-- The first way: the list rises; what lies within the last one that was taken is passed over. -/
theorem cov_nil : Cov [] [] := ⟨List.Pairwise.nil, fun p => by simp⟩
theorem cov_ne {t out : List (List ByteArray)} (h : Cov t out) (hout : out = []) : t = [] := by
  cases t with
  | nil => rfl
  | cons x r =>
    obtain ⟨m, hm, _, hl⟩ := least_ex (x :: r) x.length x (Nat.le_refl _) (by simp)
    have := (h.mem m).2 ⟨hm, hl⟩
    rw [hout] at this; cases this
theorem least_snoc {t : List (List ByteArray)} {x p : List ByteArray} (hr : ∀ y ∈ t, cmpP y x ≤ 0) (hp : p ∈ t) : Least (t ++ [x]) p ↔ Least t p := by
  constructor
  · intro h q hq hi; exact h q (by simp [hq]) hi
  · intro h q hq hi
    rcases List.mem_append.1 hq with hq | hq
    · exact h q hq hi
    · simp at hq; subst hq; exact cmp_eq hi.cmp (hr p hp)
theorem cov_first {x : List ByteArray} : Cov [x] [x] :=
  ⟨by simp, fun p => ⟨fun hp => ⟨hp, fun q hq _ => by simp at hp hq; rw [hp, hq]⟩, fun hp => hp.1⟩⟩
theorem cov_pass {t out : List (List ByteArray)} {x last : List ByteArray} (h : Cov t out) (hr : ∀ y ∈ t, cmpP y x ≤ 0) (hl : last ∈ out) (hi : In x last) : Cov (t ++ [x]) out := by
  have hlt := ((h.mem last).1 hl).1
  refine ⟨h.up, fun p => ?_⟩
  constructor
  · intro hp
    obtain ⟨h1, h2⟩ := (h.mem p).1 hp
    exact ⟨by simp [h1], (least_snoc hr h1).2 h2⟩
  · rintro ⟨hp, hle⟩
    rcases List.mem_append.1 hp with hp | hp
    · exact (h.mem p).2 ⟨hp, (least_snoc hr hp).1 hle⟩
    · simp at hp; subst hp
      have := hle last (by simp [hlt]) hi
      rw [← this]; exact hl
theorem cov_take {t out : List (List ByteArray)} {x last : List ByteArray} (h : Cov t (out ++ [last])) (hr : ∀ y ∈ t, cmpP y x ≤ 0) (hi : ¬ In x last) : Cov (t ++ [x]) (out ++ [last] ++ [x]) := by
  have hlt := (h.mem last).1 (by simp)
  have hup := h.up
  have hll : ∀ y ∈ out ++ [last], cmpP y last ≤ 0 := fun y hy => by
    rcases List.mem_append.1 hy with hy | hy
    · have := (List.pairwise_append.1 hup).2.2 y hy last (by simp); omega
    · simp at hy; subst hy; have := (cmpP_cmp.eq y y).2 rfl; omega
  have hlx : cmpP last x < 0 := by
    have h1 := hr last hlt.1
    have h2 : ¬ cmpP last x = 0 := fun e => hi (by rw [(cmpP_cmp.eq _ _).1 e]; exact In.refl _)
    omega
  refine ⟨?_, fun p => ?_⟩
  · rw [List.pairwise_append]
    refine ⟨hup, by simp, fun a ha b hb => ?_⟩
    simp at hb; subst hb
    exact cmpP_cmp.strict' a last b (hll a ha) hlx
  · have hxl : Least (t ++ [x]) x := fun q hq hqi => by
      rcases List.mem_append.1 hq with hq | hq
      · exfalso
        obtain ⟨m, hm, h1, h2⟩ := least_ex t q.length q (Nat.le_refl _) hq
        have hmo := (h.mem m).2 ⟨hm, h2⟩
        have hxm : In x m := hqi.trans h1
        have h3 := hll m hmo
        obtain ⟨r, hxr⟩ := hxm
        have h4 : In last m := In.between (r := r) h3 (by rw [← hxr]; omega)
        have h5 := hlt.2 m hm h4
        rw [h5] at hxr
        exact hi ⟨r, hxr⟩
      · simp at hq; exact hq
    constructor
    · intro hp
      rcases List.mem_append.1 hp with hp | hp
      · obtain ⟨h1, h2⟩ := (h.mem p).1 hp
        exact ⟨by simp [h1], (least_snoc hr h1).2 h2⟩
      · simp at hp; subst hp; exact ⟨by simp, hxl⟩
    · rintro ⟨hp, hle⟩
      rcases List.mem_append.1 hp with hp | hp
      · exact List.mem_append_left _ ((h.mem p).2 ⟨hp, (least_snoc hr hp).1 hle⟩)
      · exact List.mem_append_right _ hp

/-- The second way: each one that is kept is put in its place. -/
def keepB (l : List (List ByteArray)) (i : Nat) : Prop := ∀ k (hk : k < l.length) (hi : i < l.length), ¬ (In l[i] l[k] ∧ (l[k].length < l[i].length ∨ k < i))
/-- Of the first i ones those that are kept, rising. -/
structure CovR (l : List (List ByteArray)) (i : Nat) (c : List (List ByteArray)) : Prop where
  up : c.Pairwise fun a b => cmpP a b < 0
  mem : ∀ p, p ∈ c ↔ ∃ j, ∃ h : j < l.length, j < i ∧ l[j] = p ∧ keepB l j
theorem covR_zero (l : List (List ByteArray)) : CovR l 0 [] := ⟨List.Pairwise.nil, fun p => by simp⟩
theorem covR_skip {l c : List (List ByteArray)} {i : Nat} (h : CovR l i c) (hk : ¬ keepB l i) : CovR l (i + 1) c := by
  refine ⟨h.up, fun p => ?_⟩
  rw [h.mem]
  constructor
  · rintro ⟨j, hj, h1, h2, h3⟩; exact ⟨j, hj, by omega, h2, h3⟩
  · rintro ⟨j, hj, h1, h2, h3⟩
    refine ⟨j, hj, ?_, h2, h3⟩
    rcases Nat.lt_or_ge j i with h | h
    · exact h
    · have : j = i := by omega
      subst this; exact absurd h3 hk
theorem keep_new {l c : List (List ByteArray)} {i : Nat} (hi : i < l.length) (h : CovR l i c) (hk : keepB l i) : l[i] ∉ c := fun hm => by
  obtain ⟨j, hj, h1, h2, _⟩ := (h.mem _).1 hm
  exact hk j hj hi ⟨by rw [h2]; exact In.refl _, .inr h1⟩
theorem covR_put {l a b : List (List ByteArray)} {i : Nat} (hi : i < l.length) (h : CovR l i (a ++ b)) (hk : keepB l i) (ha : ∀ y ∈ a, cmpP y l[i] < 0) (hb : ∀ y ∈ b, cmpP l[i] y < 0) : CovR l (i + 1) (a ++ l[i] :: b) := by
  obtain ⟨ua, ub, uab⟩ := List.pairwise_append.1 h.up
  refine ⟨List.pairwise_append.2 ⟨ua, List.pairwise_cons.2 ⟨hb, ub⟩, fun x hx y hy => ?_⟩, fun p => ?_⟩
  · rcases List.mem_cons.1 hy with rfl | hy
    · exact ha x hx
    · exact uab x hx y hy
  · have e : p ∈ a ++ l[i] :: b ↔ p = l[i] ∨ p ∈ a ++ b := by
      simp only [List.mem_append, List.mem_cons]
      constructor
      · rintro (h | h | h)
        · exact .inr (.inl h)
        · exact .inl h
        · exact .inr (.inr h)
      · rintro (h | h | h)
        · exact .inr (.inl h)
        · exact .inl h
        · exact .inr (.inr h)
    rw [e, h.mem]
    constructor
    · rintro (rfl | ⟨j, hj, h1, h2, h3⟩)
      · exact ⟨i, hi, by omega, rfl, hk⟩
      · exact ⟨j, hj, by omega, h2, h3⟩
    · rintro ⟨j, hj, h1, h2, h3⟩
      rcases Nat.lt_or_ge j i with h | h
      · exact .inr ⟨j, hj, h, h2, h3⟩
      · have : j = i := by omega
        subst this; exact .inl h2.symm
theorem least_keep {l : List (List ByteArray)} {p : List ByteArray} (hp : p ∈ l) (hl : Least l p) : ∃ j, ∃ h : j < l.length, l[j] = p ∧ keepB l j := by
  have key : ∀ n, n ≤ l.length → (∃ j, ∃ h : j < l.length, j < n ∧ l[j] = p) → ∃ j, ∃ h : j < l.length, l[j] = p ∧ ∀ k (hk : k < l.length), k < j → l[k] ≠ p := by
    intro n
    induction n with
    | zero => rintro _ ⟨j, _, h, _⟩; omega
    | succ n ih =>
      intro hn hex
      by_cases hq : ∃ j, ∃ h : j < l.length, j < n ∧ l[j] = p
      · exact ih (by omega) hq
      · obtain ⟨j, hj, h1, h2⟩ := hex
        have hjn : j = n := by
          rcases Nat.lt_or_ge j n with h | h
          · exact absurd ⟨j, hj, h, h2⟩ hq
          · omega
        subst hjn
        exact ⟨j, hj, h2, fun k hk hkj e => hq ⟨k, hk, hkj, e⟩⟩
  obtain ⟨i, hi, e⟩ := List.getElem_of_mem hp
  obtain ⟨j, hj, h1, h2⟩ := key l.length (Nat.le_refl _) ⟨i, hi, hi, e⟩
  refine ⟨j, hj, h1, fun k hk hj' hc => ?_⟩
  have h3 := hl l[k] (List.getElem_mem hk) (by rw [← h1]; exact hc.1)
  rcases hc.2 with h | h
  · rw [h3, h1] at h; omega
  · exact h2 k hk h h3
theorem covR_end {l c : List (List ByteArray)} (h : CovR l l.length c) : Cov l c := by
  refine ⟨h.up, fun p => ?_⟩
  rw [h.mem]
  constructor
  · rintro ⟨j, hj, _, rfl, hk⟩
    refine ⟨List.getElem_mem hj, fun q hq hi => ?_⟩
    obtain ⟨k, hkl, rfl⟩ := List.getElem_of_mem hq
    have h1 := hk k hkl hj
    have h2 : ¬ l[k].length < l[j].length := fun hlt => h1 ⟨hi, .inl hlt⟩
    exact (hi.eq (by omega)).symm
  · rintro ⟨hp, hl⟩
    obtain ⟨j, hj, h1, h2⟩ := least_keep hp hl
    exact ⟨j, hj, hj, h1, h2⟩
end Pl
end Go.Proofs.YtcloljkaojnipaaGreatDoor
namespace Go.Proofs.YtcloljkaojnipaaGreatDoor
namespace Pl

theorem normal_cases (l : List ByteArray) (s : ByteArray) :
    normalP l s = ([], false, 20) ∨ normalP l s = ([], false, 4) ∨
    (rightP l = true ∧ ¬ 1024 < s.size ∧ ¬ s.toList = [] ∧ (partsB s).all mayB = true ∧ ¬ 1024 < sizeP ((partsB s).foldl stepP (startP l s)) ∧ normalP l s = ((partsB s).foldl stepP (startP l s), lastDir (partsB s), 0)) := by
  cases hr : rightP l
  · exact .inl (normal_wrong hr)
  by_cases h2 : 1024 < s.size
  · exact .inr (.inl (normal_far hr h2))
  by_cases h3 : s.toList = []
  · exact .inl (normal_none hr h2 h3)
  cases h4 : (partsB s).all mayB
  · exact .inl (normal_bad hr h2 h3 h4)
  by_cases h5 : 1024 < sizeP ((partsB s).foldl stepP (startP l s))
  · exact .inr (.inl (normal_long hr h2 h3 h4 h5))
  · exact .inr (.inr ⟨rfl, h2, h3, rfl, h5, normal_ok hr h2 h3 h4 h5⟩)

theorem normal_code {l : List ByteArray} {s : ByteArray} (h : ¬ (normalP l s).2.2 = 0) : (normalP l s).1 = [] ∧ ((normalP l s).2.2 = 20 ∨ (normalP l s).2.2 = 4) := by
  rcases normal_cases l s with e | e | ⟨_, _, _, _, _, e⟩
  · rw [e]; simp
  · rw [e]; simp
  · rw [e] at h; simp at h
theorem start_names {l : List ByteArray} (h : rightP l = true) (s : ByteArray) : (startP l s).all nameB = true := by
  unfold startP
  split
  · rfl
  · exact right_names h
theorem normal_right {l : List ByteArray} {s : ByteArray} (h : (normalP l s).2.2 = 0) : rightP (normalP l s).1 = true ∧ rightP l = true ∧ s.size ≤ 1024 ∧ ¬ s.toList = [] := by
  rcases normal_cases l s with e | e | ⟨h1, h2, h3, h4, h5, e⟩
  · rw [e] at h; simp at h
  · rw [e] at h; simp at h
  · rw [e]
    refine ⟨?_, h1, by omega, h3⟩
    have h6 := fold_names (start_names h1 s) (partsB s) h4
    simp only [rightP, h6, Bool.true_and, decide_eq_true_eq]
    omega
theorem normal_names (l : List ByteArray) (s : ByteArray) : (normalP l s).1.all nameB = true ∧ (normalP l s).1.length ≤ 1024 := by
  by_cases h : (normalP l s).2.2 = 0
  · have h1 := (normal_right h).1
    exact ⟨right_names h1, right_len h1⟩
  · rw [(normal_code h).1]; simp

/-! ### A path's own text -/
theorem name_no_slash {x : ByteArray} (h : nameB x = true) : ∀ c ∈ x.data.toList, (c == 47) = false := by
  simp only [nameB, nameL, Bool.and_eq_true] at h
  have h2 := List.all_eq_true.1 h.2
  intro c hc
  have := h2 c hc
  simp only [okc, Bool.not_eq_true', Bool.or_eq_false_iff] at this
  exact this.1
theorem spl_name : ∀ (x : List UInt8), (∀ c ∈ x, (c == 47) = false) → spl x = [x]
  | [], _ => rfl
  | c :: r, h => by rw [spl_other (h c (by simp)), spl_name r (fun d hd => h d (by simp [hd]))]; rfl
theorem spl_name_slash : ∀ (x r : List UInt8), (∀ c ∈ x, (c == 47) = false) → spl (x ++ 47 :: r) = x :: spl r
  | [], r, _ => spl_slash r
  | c :: x, r, h => by
    rw [List.cons_append, spl_other (h c (by simp)), spl_name_slash x r (fun d hd => h d (by simp [hd]))]; rfl
theorem spl_text : ∀ (p : List ByteArray), p.all nameB = true → p ≠ [] → spl (textF p) = [] :: p.map fun x => x.data.toList
  | [], _, h => absurd rfl h
  | [x], h, _ => by
    simp only [List.all_cons, Bool.and_eq_true] at h
    simp only [textF, List.append_nil, List.map_cons, List.map_nil]
    rw [spl_slash, spl_name _ (name_no_slash h.1)]
  | x :: y :: r, h, _ => by
    simp only [List.all_cons, Bool.and_eq_true] at h
    have ih := spl_text (y :: r) (by simp [h.2]) (by simp)
    simp only [textF] at ih ⊢
    rw [spl_slash] at ih ⊢
    rw [spl_name_slash _ _ (name_no_slash h.1)]
    have e := List.tail_eq_of_cons_eq ih
    rw [e]; rfl
theorem bs_data (x : ByteArray) : bs x.data.toList = x := by cases x; rfl
theorem data_bs (l : List UInt8) : (bs l).data.toList = l := rfl
theorem bs_toList (l : List UInt8) : (bs l).toList = l := by rw [toL]; rfl
theorem bs_size (l : List UInt8) : (bs l).size = l.length := by rw [← szL]; rfl
theorem name_not_dir {x : ByteArray} (h : nameB x = true) : dirB x = false := by
  simp only [nameB, nameL, Bool.and_eq_true, Bool.not_eq_true', Bool.or_eq_false_iff] at h
  have h1 := h.1.1.1.1
  have h2 := h.1.1.2
  have h3 := h.1.2
  simp only [dirB, toL]
  rw [h2, h3]
  cases hx : x.data.toList with
  | nil => rw [hx] at h1; simp at h1
  | cons a b => rfl
theorem fold_all : ∀ (p st : List ByteArray), p.all nameB = true → p.foldl stepP st = st ++ p
  | [], st, _ => by simp
  | x :: r, st, h => by
    simp only [List.all_cons, Bool.and_eq_true] at h
    rw [List.foldl_cons, fold_all r _ h.2]
    simp [stepP, name_not_dir h.1]
theorem parts_text {p : List ByteArray} (h : p.all nameB = true) (hp : p ≠ []) : partsB (bs (textF p)) = bs [] :: p := by
  rw [partsB, data_bs, spl_text p h hp]
  simp only [List.map_cons, List.map_map]
  congr 1
  have : (bs ∘ fun x : ByteArray => x.data.toList) = id := by funext x; exact bs_data x
  rw [this, List.map_id]
theorem parts_root : partsB (bs [47]) = [bs [], bs []] := rfl
theorem name_may {x : ByteArray} (h : nameB x = true) : mayB x = true := by simp [mayB, h]
theorem all_name_may {p : List ByteArray} (h : p.all nameB = true) : p.all mayB = true := by
  rw [List.all_eq_true] at h ⊢
  exact fun x hx => name_may (h x hx)
theorem text_size {p : List ByteArray} : (textP p).size = sizeP p := by
  unfold textP sizeP
  split
  · rfl
  · rw [bs_size, textF_length]
theorem text_head (p : List ByteArray) : (textP p).data.toList.head? = some 47 := by
  unfold textP
  split
  · rfl
  · rw [data_bs]
    cases p with
    | nil => simp at *
    | cons x r => rfl
theorem text_ne (p : List ByteArray) : ¬ (textP p).toList = [] := by
  rw [toL]; intro e; have := text_head p; rw [e] at this; simp at this
theorem text_byte (p : List ByteArray) (h : 0 < (textP p).size) : ((textP p)[0]'h) = 47 := by
  have h1 := head_byte h
  rw [text_head] at h1
  exact (Option.some.inj h1).symm
theorem size_ge (p : List ByteArray) : 1 ≤ sizeP p := by
  unfold sizeP
  split
  · omega
  · cases p with
    | nil => simp at *
    | cons x r => simp [sumP]; omega
theorem right_size {p : List ByteArray} (h : rightP p = true) : sizeP p ≤ 1024 := by
  simp only [rightP, Bool.and_eq_true, decide_eq_true_eq] at h; omega
theorem print_right {p : List ByteArray} (h : rightP p = true) : printP p = (textP p, 0) := by simp [printP, h]
theorem normal_text {p o : List ByteArray} (hp : rightP p = true) (ho : rightP o = true) : (normalP o (textP p)).1 = p ∧ (normalP o (textP p)).2.2 = 0 := by
  have hn := right_names hp
  have hs : startP o (textP p) = [] := by rw [startP, text_head, if_pos rfl]
  have h2 : ¬ 1024 < (textP p).size := by rw [text_size]; have := right_size hp; omega
  have hparts : (partsB (textP p)).all mayB = true ∧ (partsB (textP p)).foldl stepP [] = p := by
    by_cases h0 : p = []
    · subst h0
      exact ⟨by decide +kernel, by decide +kernel⟩
    · have e : textP p = bs (textF p) := by
        unfold textP; rw [if_neg (fun q => h0 (List.eq_nil_of_length_eq_zero q))]
      rw [e, parts_text hn h0]
      refine ⟨by simp only [List.all_cons, all_name_may hn, Bool.and_true]; decide +kernel, ?_⟩
      rw [List.foldl_cons, show stepP [] (bs []) = [] by decide +kernel, fold_all p [] hn]; rfl
  have h5 : ¬ 1024 < sizeP ((partsB (textP p)).foldl stepP (startP o (textP p))) := by
    rw [hs, hparts.2]; have := right_size hp; omega
  rw [normal_ok ho h2 (text_ne p) hparts.1 h5, hs, hparts.2]
  exact ⟨rfl, rfl⟩

theorem text_facts {p : List ByteArray} (hr : rightP p = true) : ∃ t : ByteArray, printP p = (t, 0) ∧ t.size ≤ 1024 ∧ (∃ h : 0 < t.size, (((t[0]'h).toNat : Int) != 47) = false) ∧ ∀ q, rightP q = true → (normalP q t).1 = p ∧ (normalP q t).2.2 = 0 := by
  refine ⟨textP p, print_right hr, by rw [text_size]; exact right_size hr, ?_, fun q hq => normal_text hr hq⟩
  have h : 0 < (textP p).size := by rw [text_size]; have := size_ge p; omega
  exact ⟨h, by rw [text_byte p h]; rfl⟩

theorem normal_abs {l o : List ByteArray} {s : ByteArray} (h : (normalP l s).2.2 = 0) (ho : rightP o = true) (h0 : s.data.toList.head? = some 47) : normalP o s = normalP l s := by
  rcases normal_cases l s with e | e | ⟨h1, h2, h3, h4, h5, e⟩
  · rw [e] at h; simp at h
  · rw [e] at h; simp at h
  · have es : startP o s = startP l s := by rw [startP, startP, if_pos h0, if_pos h0]
    rw [e, ← es]
    rw [← es] at h5
    exact normal_ok ho h2 h3 h4 h5

/-! ### Two texts, one behind the other -/
theorem spl_append : ∀ (a b : List UInt8), spl (a ++ 47 :: b) = spl a ++ spl b
  | [], b => by rw [List.nil_append, spl_slash]; rfl
  | c :: a, b => by
    rw [List.cons_append]
    cases hc : (c == 47)
    · rw [spl_other hc, spl_other hc, spl_append a b]
      cases h : spl a with
      | nil => exact absurd h (spl_ne a)
      | cons x r => rfl
    · have : c = 47 := by simpa using hc
      subst this
      rw [spl_slash, spl_slash, spl_append a b]; rfl
def behind (s t : ByteArray) : ByteArray := s ++ ⟨#[47]⟩ ++ t
theorem behind_data (s t : ByteArray) : (behind s t).data.toList = s.data.toList ++ 47 :: t.data.toList := by
  simp [behind, ByteArray.data_append]
theorem behind_size (s t : ByteArray) : (behind s t).size = s.size + 1 + t.size := by
  rw [← szL, behind_data, List.length_append, List.length_cons, szL, szL]; omega
theorem parts_behind (s t : ByteArray) : partsB (behind s t) = partsB s ++ partsB t := by
  rw [partsB, behind_data, spl_append, List.map_append]; rfl
theorem lastDir_append {a b : List ByteArray} (h : b ≠ []) : lastDir (a ++ b) = lastDir b := by
  unfold lastDir
  rw [List.getLast?_append]
  cases hb : b.getLast? with
  | none => exact absurd (List.getLast?_eq_none_iff.1 hb) h
  | some x => rfl
theorem parts_ne (s : ByteArray) : partsB s ≠ [] := by
  intro e; exact spl_ne _ (List.map_eq_nil_iff.1 e)
theorem normal_behind {l : List ByteArray} {s t : ByteArray} (h : (normalP l s).2.2 = 0) (ht : ¬ t.toList = []) (h0 : ¬ t.data.toList.head? = some 47) (hlen : s.size + 1 + t.size ≤ 1024) :
    normalP l (behind s t) = normalP (normalP l s).1 t := by
  have hr := (normal_right h).1
  rcases normal_cases l s with e | e | ⟨h1, h2, h3, h4, h5, e⟩
  · rw [e] at h; simp at h
  · rw [e] at h; simp at h
  · rw [e] at hr ⊢
    have hs2 : ¬ 1024 < (behind s t).size := by rw [behind_size]; omega
    have ht2 : ¬ 1024 < t.size := by omega
    have hne : ¬ (behind s t).toList = [] := by rw [toL, behind_data]; simp
    have est : startP l (behind s t) = startP l s := by
      have : (behind s t).data.toList.head? = s.data.toList.head? := by
        rw [behind_data]
        cases hs : s.data.toList with
        | nil => rw [toL, hs] at h3; exact absurd rfl h3
        | cons a b => rfl
      rw [startP, startP, this]
    have esp : startP ((partsB s).foldl stepP (startP l s)) t = (partsB s).foldl stepP (startP l s) := by rw [startP, if_neg h0]
    have efold : (partsB (behind s t)).foldl stepP (startP l (behind s t)) = (partsB t).foldl stepP (startP ((partsB s).foldl stepP (startP l s)) t) := by
      rw [parts_behind, List.foldl_append, est, esp]
    have eall : (partsB (behind s t)).all mayB = (partsB t).all mayB := by rw [parts_behind, List.all_append, h4, Bool.true_and]
    have elast : lastDir (partsB (behind s t)) = lastDir (partsB t) := by rw [parts_behind, lastDir_append (parts_ne t)]
    cases h6 : (partsB t).all mayB
    · rw [normal_bad h1 hs2 hne (by rw [eall]; exact h6), normal_bad hr ht2 ht h6]
    · by_cases h7 : 1024 < sizeP ((partsB t).foldl stepP (startP ((partsB s).foldl stepP (startP l s)) t))
      · rw [normal_long hr ht2 ht h6 h7, normal_long h1 hs2 hne (by rw [eall]; exact h6) (by rw [efold]; exact h7)]
      · rw [normal_ok hr ht2 ht h6 h7, normal_ok h1 hs2 hne (by rw [eall]; exact h6) (by rw [efold]; exact h7), efold, elast]
theorem normal_behind_far {l : List ByteArray} {s t : ByteArray} (h : (normalP l s).2.2 = 0) (hlen : ¬ s.size + 1 + t.size ≤ 1024) : normalP l (behind s t) = ([], false, 4) :=
  normal_far (normal_right h).2.1 (by rw [behind_size]; omega)

end Pl
end Go.Proofs.YtcloljkaojnipaaGreatDoor
