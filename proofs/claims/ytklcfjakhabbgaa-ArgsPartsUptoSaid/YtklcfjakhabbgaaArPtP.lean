/- Plain: the script of pieces in two parts. -/
import Derived.Test.YtklcfjakhabbgaaArScP
namespace Go.Proofs.Ytklcfjakhabbgaa
namespace Ar
/-- Texts as pieces. -/
def pcT (l : List ByteArray) : List Pc := l.map (fun t => (false, t))
theorem pcT_len (l : List ByteArray) : (pcT l).length = l.length := List.length_map _
theorem pcT_take (l : List ByteArray) (k : Nat) : (pcT l).take k = pcT (l.take k) := (List.map_take ..).symm
theorem pcT_drop (l : List ByteArray) (k : Nat) : (pcT l).drop k = pcT (l.drop k) := (List.map_drop ..).symm
theorem pcT_snoc (l : List ByteArray) (k : Nat) (h : k < l.length) : pcT (l.take (k + 1)) = pcT (l.take k) ++ [(false, l[k]'h)] := by
  rw [List.take_succ_eq_append_getElem h]
  exact List.map_append
theorem nFl_pcT : ∀ l : List ByteArray, nFl (pcT l) = 0
  | [] => rfl
  | t :: l => by rw [pcT, List.map_cons, nFl_cons]; exact (Nat.zero_add _).trans (nFl_pcT l)
theorem scTx_pcT : ∀ l : List ByteArray, scTx (pcT l) [] = l
  | [] => rfl
  | t :: l => by
    rw [pcT, List.map_cons, scTx, if_neg (show ¬ false = true by decide)]
    exact congrArg (t :: ·) (scTx_pcT l)
theorem scrR_pcT (l : List ByteArray) : scrR (pcT l) [] = (jn l, 0) := by
  unfold scrR
  rw [if_pos (show nFl (pcT l) = ([] : List ByteArray).length from nFl_pcT l), scTx_pcT]
theorem pcT_sum (l : List ByteArray) : ((pcT l).map (fun p => p.2.size + 3)).sum ≤ 3 * tsz l := by
  unfold pcT tsz
  induction l with
  | nil => exact Nat.zero_le _
  | cons t l ih =>
    simp only [List.map_cons, List.sum_cons] at ih ⊢
    omega
theorem jn_split (x : ByteArray) (X : List ByteArray) (y : ByteArray) (Y : List ByteArray) : jn (x :: X ++ y :: Y) = jn (x :: X) ++ ⟨#[10]⟩ ++ jn (y :: Y) := by
  apply ba_ext
  rw [ByteArray.data_append, Array.toList_append, ByteArray.data_append, Array.toList_append, jn_data, jn_data, jn_data, List.cons_append, List.map_cons, List.map_cons, List.map_cons, Lib.join_cons, Lib.join_cons, Lib.join_cons]
  simp [Lib.joinTail]
theorem jn_parts (l : List ByteArray) (k : Nat) (h0 : 0 < k) (h1 : k < l.length) : jn l = jn (l.take k) ++ ⟨#[10]⟩ ++ jn (l.drop k) := by
  have e := List.take_append_drop k l
  have hA : 0 < (l.take k).length := by rw [List.length_take]; omega
  have hB : 0 < (l.drop k).length := by rw [List.length_drop]; omega
  generalize l.take k = A at *
  generalize l.drop k = B at *
  subst e
  match A, B, hA, hB with
  | x :: X, y :: Y, _, _ => exact jn_split x X y Y
theorem tsz_take (l : List ByteArray) (k : Nat) : tsz (l.take k) ≤ tsz l ∧ tsz (l.drop k) ≤ tsz l := by
  have e : tsz l = tsz (l.take k) + tsz (l.drop k) := by
    conv => lhs; rw [← List.take_append_drop k l]
    unfold tsz
    rw [List.map_append, List.sum_append]
  omega
end Ar
end Go.Proofs.Ytklcfjakhabbgaa
