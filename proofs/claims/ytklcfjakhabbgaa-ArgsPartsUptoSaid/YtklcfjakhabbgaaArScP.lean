/- Plain: the script that pieces make. -/
import Derived.Test.YtklcfjakhabbgaaArRd
import Derived.Lib.Join
namespace Go.Proofs.Ytklcfjakhabbgaa
namespace Ar
/-- How many of the pieces are files. -/
def nFl (l : List Pc) : Nat := (l.filter (fun p => p.1)).length
/-- The texts of the pieces, the files' in their order. -/
def scTx : List Pc → List ByteArray → List ByteArray
  | [], _ => []
  | p :: l, F => if p.1 then F.headD (bs []) :: scTx l F.tail else p.2 :: scTx l F
theorem scTx_len : ∀ (l : List Pc) (F : List ByteArray), (scTx l F).length = l.length
  | [], _ => rfl
  | p :: l, F => by
    rw [scTx]
    split <;> rw [List.length_cons, List.length_cons, scTx_len]
theorem nFl_snoc (l : List Pc) (p : Pc) : nFl (l ++ [p]) = nFl l + (if p.1 then 1 else 0) := by
  unfold nFl
  rw [List.filter_append, List.length_append]
  obtain ⟨b, t⟩ := p
  cases b <;> rfl
theorem nFl_cons (p : Pc) (l : List Pc) : nFl (p :: l) = (if p.1 then 1 else 0) + nFl l := by
  unfold nFl
  rw [List.filter_cons]
  split
  · rw [List.length_cons]; omega
  · omega
theorem nFl_take_le (l : List Pc) (k : Nat) : nFl (l.take k) ≤ nFl l := by
  have h := List.take_append_drop k l
  have : nFl l = nFl (l.take k) + nFl (l.drop k) := by
    conv => lhs; rw [← h]
    unfold nFl
    rw [List.filter_append, List.length_append]
  omega
theorem scTx_snoc : ∀ (l : List Pc) (p : Pc) (F : List ByteArray), scTx (l ++ [p]) F = scTx l F ++ [if p.1 then (F.drop (nFl l)).headD (bs []) else p.2]
  | [], p, F => by
    rw [List.nil_append, scTx, scTx, scTx, scTx, List.nil_append]
    split <;> rfl
  | q :: l, p, F => by
    rw [List.cons_append, scTx, scTx, scTx_snoc l p F.tail, scTx_snoc l p F, nFl_cons]
    split
    · rw [List.cons_append, show 1 + nFl l = nFl l + 1 by omega]
      cases F <;> simp
    · rw [List.cons_append, Nat.zero_add]
/-- Texts joined by line feeds. -/
def jn (X : List ByteArray) : ByteArray := ⟨(Lib.join (X.map (·.data.toList)) [10]).toArray⟩
theorem jn_data (X : List ByteArray) : (jn X).data.toList = Lib.join (X.map (·.data.toList)) [10] := rfl
theorem jn_nil : jn [] = ⟨#[]⟩ := rfl
theorem jn_one (t : ByteArray) : jn [t] = t := ba_ext (by rw [jn_data, List.map_cons, List.map_nil, Lib.join_one])
theorem jn_snoc (x : ByteArray) (X : List ByteArray) (t : ByteArray) : jn (x :: X ++ [t]) = jn (x :: X) ++ ⟨#[10]⟩ ++ t := by
  apply ba_ext
  rw [ByteArray.data_append, Array.toList_append, ByteArray.data_append, Array.toList_append, jn_data, jn_data, List.cons_append, List.map_cons, List.map_cons, Lib.join_cons, Lib.join_cons]
  simp [Lib.joinTail]
/-- The bulk of texts. -/
def tsz (X : List ByteArray) : Nat := (X.map (fun s => s.size + 1)).sum
theorem jn_size (X : List ByteArray) : (jn X).size ≤ tsz X := by
  rw [← szL, jn_data]
  cases X with
  | nil => exact Nat.zero_le _
  | cons x X =>
    rw [List.map_cons, Lib.join_cons]
    unfold tsz
    rw [List.map_cons, List.sum_cons, List.length_append, szL]
    have : (Lib.joinTail [10] (X.map (·.data.toList))).length ≤ (X.map (fun s => s.size + 1)).sum := by
      unfold Lib.joinTail
      induction X with
      | nil => exact Nat.zero_le _
      | cons y Y ih =>
        simp only [List.map_cons, List.flatten_cons, List.length_append, List.sum_cons, List.length_cons, List.length_nil, szL] at ih ⊢
        omega
    omega
theorem tsz_mem {X : List ByteArray} {s : ByteArray} (h : s ∈ X) : s.size + 1 ≤ tsz X := by
  unfold tsz
  induction X with
  | nil => cases h
  | cons x r ih =>
    simp only [List.map_cons, List.sum_cons]
    rcases List.mem_cons.1 h with rfl | h
    · omega
    · have := ih h; omega
theorem tsz_snoc (X : List ByteArray) (t : ByteArray) : tsz (X ++ [t]) = tsz X + (t.size + 1) := by
  unfold tsz
  rw [List.map_append, List.sum_append]
  simp
theorem scTx_bulk : ∀ (l : List Pc) (F : List ByteArray), tsz (scTx l F) ≤ (l.map (fun p => p.2.size + 3)).sum + tsz F
  | [], F => Nat.zero_le _
  | p :: l, F => by
    rw [scTx, List.map_cons, List.sum_cons]
    split
    · have h := scTx_bulk l F.tail
      cases F with
      | nil =>
        show (0 + 1) + tsz (scTx l [].tail) ≤ _
        simp only [List.tail_nil] at h ⊢
        omega
      | cons f F =>
        show (f.size + 1) + tsz (scTx l F) ≤ _ + ((f.size + 1) + tsz F)
        simp only [List.tail_cons] at h
        omega
    · have h := scTx_bulk l F
      show (p.2.size + 1) + tsz (scTx l F) ≤ _
      omega
theorem jn_next (X : List ByteArray) (t : ByteArray) (k : Nat) (h : X.length = k) : jn (X ++ [t]) = (if k = 0 then jn X else jn X ++ ⟨#[10]⟩) ++ t := by
  cases X with
  | nil =>
    rw [if_pos (show k = 0 from h.symm), List.nil_append, jn_one, jn_nil]
    exact ba_ext (by rw [ByteArray.data_append, Array.toList_append]; rfl)
  | cons x X => rw [if_neg (by rw [← h, List.length_cons]; omega), jn_snoc]
theorem sum_take (l : List Pc) (k : Nat) : ((l.take k).map (fun p => p.2.size + 3)).sum ≤ (l.map (fun p => p.2.size + 3)).sum := by
  have h := List.take_append_drop k l
  have e : (l.map (fun p => p.2.size + 3)).sum = ((l.take k).map (fun p => p.2.size + 3)).sum + ((l.drop k).map (fun p => p.2.size + 3)).sum := by
    conv => lhs; rw [← h]
    rw [List.map_append, List.sum_append]
  omega
/-- What both Scripts answer. -/
def scrR (l : List Pc) (F : List ByteArray) : ByteArray × Int := if nFl l = F.length then (jn (scTx l F), 0) else (bs [], 2)
end Ar
end Go.Proofs.Ytklcfjakhabbgaa
