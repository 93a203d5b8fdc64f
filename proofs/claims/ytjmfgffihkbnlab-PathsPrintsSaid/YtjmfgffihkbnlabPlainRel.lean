/- Plain facts on a text that leads from one path to another, on a path's parent, and on a path with one name more. -/
import Derived.Test.YtjmfgffihkbnlabPlainNorm
namespace Go.Proofs.Ytjmfgffihkbnlab
namespace Pl

def flat : List ByteArray → List UInt8
  | [] => []
  | x :: r => x.data.toList ++ 47 :: flat r
theorem flat_append (a b : List ByteArray) : flat (a ++ b) = flat a ++ flat b := by
  induction a with
  | nil => rfl
  | cons x r ih => simp [flat, ih]
theorem flat_snoc (a : List ByteArray) (x : ByteArray) : flat (a ++ [x]) = flat a ++ x.data.toList ++ [47] := by rw [flat_append]; simp [flat]
theorem flat_length (a : List ByteArray) : (flat a).length = sumP a := by
  induction a with
  | nil => rfl
  | cons x r ih => simp only [flat, sumP, List.length_append, List.length_cons, ih, szL]; omega
theorem flat_pos {a : List ByteArray} (h : a ≠ []) : 0 < (flat a).length := by
  cases a with
  | nil => exact absurd rfl h
  | cons x r => simp only [flat, List.length_append, List.length_cons]; omega
def ups (k : Nat) : List ByteArray := List.replicate k (bs [46, 46])
def stepsP (l p : List ByteArray) : List ByteArray := ups (l.length - com l p) ++ p.drop (com l p)
def relP (l p : List ByteArray) : ByteArray × Int :=
  if rightP l = false ∨ rightP p = false then (bs [], 20)
  else if com l p = l.length ∧ com l p = p.length then (bs [46], 0)
  else if 1024 < (flat (stepsP l p)).length - 1 then (bs [], 4) else (bs (flat (stepsP l p)).dropLast, 0)
theorem rel_wrong {l p : List ByteArray} (h : rightP l = false ∨ rightP p = false) : relP l p = (bs [], 20) := by rw [relP, if_pos h]
theorem rel_same {l p : List ByteArray} (h1 : rightP l = true) (h2 : rightP p = true) (h : com l p = l.length ∧ com l p = p.length) : relP l p = (bs [46], 0) := by
  rw [relP, if_neg (by simp [h1, h2]), if_pos h]
theorem rel_far {l p : List ByteArray} (h1 : rightP l = true) (h2 : rightP p = true) (h : ¬ (com l p = l.length ∧ com l p = p.length)) (h3 : 1024 < (flat (stepsP l p)).length - 1) : relP l p = (bs [], 4) := by
  rw [relP, if_neg (by simp [h1, h2]), if_neg h, if_pos h3]
theorem rel_ok {l p : List ByteArray} (h1 : rightP l = true) (h2 : rightP p = true) (h : ¬ (com l p = l.length ∧ com l p = p.length)) (h3 : ¬ 1024 < (flat (stepsP l p)).length - 1) : relP l p = (bs (flat (stepsP l p)).dropLast, 0) := by
  rw [relP, if_neg (by simp [h1, h2]), if_neg h, if_neg h3]
theorem steps_ne {l p : List ByteArray} (h : ¬ (com l p = l.length ∧ com l p = p.length)) : stepsP l p ≠ [] := by
  intro e
  have hl := congrArg List.length e
  have := com_le l p
  simp [stepsP, ups] at hl
  omega
theorem flat_ups_snoc (k : Nat) : flat (ups (k + 1)) = flat (ups k) ++ [46, 46, 47] := by
  rw [ups, List.replicate_succ', flat_snoc, ← ups]; simp [data_bs]
theorem ups_sum (k : Nat) : sumP (ups k) = 3 * k := by
  induction k with
  | zero => rfl
  | succ n ih => rw [ups, List.replicate_succ, sumP, ← ups, ih, bs_size]; simp; omega

theorem spl_flat : ∀ (ps : List ByteArray), ps ≠ [] → (∀ x ∈ ps, ∀ c ∈ x.data.toList, (c == 47) = false) → spl (flat ps).dropLast = ps.map fun x => x.data.toList
  | [], h, _ => absurd rfl h
  | [x], _, h => by
    have e : (flat [x]).dropLast = x.data.toList := by simp [flat]
    rw [e, spl_name _ (h x (by simp))]; rfl
  | x :: y :: r, _, h => by
    have ih := spl_flat (y :: r) (by simp) (fun z hz => h z (by simp [hz]))
    have e : (flat (x :: y :: r)).dropLast = x.data.toList ++ 47 :: (flat (y :: r)).dropLast := by
      rw [flat, List.dropLast_append_of_ne_nil (by simp), List.dropLast_cons_of_ne_nil]
      intro e
      have := flat_length (y :: r)
      rw [e] at this
      simp [sumP] at this
      omega
    rw [e, spl_name_slash _ _ (h x (by simp)), ih]; rfl
theorem parts_flat {ps : List ByteArray} (h : ps ≠ []) (hn : ∀ x ∈ ps, ∀ c ∈ x.data.toList, (c == 47) = false) : partsB (bs (flat ps).dropLast) = ps := by
  rw [partsB, data_bs, spl_flat ps h hn, List.map_map]
  have : (bs ∘ fun x : ByteArray => x.data.toList) = id := by funext x; exact bs_data x
  rw [this, List.map_id]
theorem fold_ups (k : Nat) (st : List ByteArray) : (ups k).foldl stepP st = st.take (st.length - k) := by
  induction k generalizing st with
  | zero => simp [ups]
  | succ n ih =>
    rw [ups, List.replicate_succ, List.foldl_cons, ← ups, ih, step_up (by rw [bs_toList])]
    rw [List.dropLast_eq_take, List.take_take]
    congr 1
    simp
    omega
theorem take_com : ∀ (l p : List ByteArray), l.take (com l p) = p.take (com l p)
  | [], p => by simp [com_nil_left]
  | _ :: _, [] => by simp [com]
  | a :: r, b :: t => by
    simp only [com]
    split
    · rename_i h
      have e : a = b := data_inj a b (by rw [toL, toL] at h; simpa using h)
      rw [Nat.add_comm, List.take_succ_cons, List.take_succ_cons, take_com r t, e]
    · simp
theorem all_drop {p : List ByteArray} (h : p.all nameB = true) (k : Nat) : (p.drop k).all nameB = true := by
  rw [List.all_eq_true] at h ⊢
  exact fun x hx => h x (List.mem_of_mem_drop hx)
theorem steps_mem {l p : List ByteArray} (hp : p.all nameB = true) : ∀ x ∈ stepsP l p, x = bs [46, 46] ∨ nameB x = true := by
  intro x hx
  rcases List.mem_append.1 hx with h | h
  · exact .inl (List.eq_of_mem_replicate h)
  · exact .inr (List.all_eq_true.1 (all_drop hp _) x h)
theorem name_head_ne {x : ByteArray} (h : nameB x = true) : ¬ x.data.toList.head? = some 47 := by
  intro e
  cases hx : x.data.toList with
  | nil => rw [hx] at e; simp at e
  | cons a b =>
    rw [hx] at e
    have := name_no_slash h a (by rw [hx]; simp)
    simp at e
    subst e
    simp at this
theorem name_ne {x : ByteArray} (h : nameB x = true) : x.data.toList ≠ [] := by
  intro e
  rw [name_empty (by rw [toL]; exact e)] at h; cases h
theorem rel_leads {l p : List ByteArray} (h : (relP l p).2 = 0) : (normalP l (relP l p).1).1 = p ∧ (normalP l (relP l p).1).2.2 = 0 := by
  by_cases hw : rightP l = false ∨ rightP p = false
  · rw [rel_wrong hw] at h; simp at h
  have h1 : rightP l = true := by cases hx : rightP l <;> simp_all
  have h2 : rightP p = true := by cases hx : rightP p <;> simp_all
  by_cases hs : com l p = l.length ∧ com l p = p.length
  · rw [rel_same h1 h2 hs]
    have e : l = p := by
      have := take_com l p
      rw [hs.1] at this
      rw [List.take_length] at this
      rw [this, ← hs.1, hs.2, List.take_length]
    subst e
    have hst : startP l (bs [46]) = l := by rw [startP, if_neg (by rw [data_bs]; simp)]
    have hpt : partsB (bs [46]) = [bs [46]] := rfl
    have hf : (partsB (bs [46])).foldl stepP (startP l (bs [46])) = l := by
      rw [hst, hpt, List.foldl_cons, step_same (.inr (by rw [bs_toList]))]; rfl
    rw [normal_ok h1 (by rw [bs_size]; simp) (by rw [bs_toList]; simp) (by decide +kernel) (by rw [hf]; have := right_size h1; omega), hf]
    exact ⟨rfl, rfl⟩
  by_cases hf : 1024 < (flat (stepsP l p)).length - 1
  · rw [rel_far h1 h2 hs hf] at h; simp at h
  rw [rel_ok h1 h2 hs hf]
  have hn := right_names h2
  have hne := steps_ne hs
  have hmem := @steps_mem l p hn
  have hsl : ∀ x ∈ stepsP l p, ∀ c ∈ x.data.toList, (c == 47) = false := fun x hx => by
    rcases hmem x hx with rfl | hx
    · intro c hc; rw [data_bs] at hc; simp at hc; subst hc; rfl
    · exact name_no_slash hx
  have hparts := parts_flat hne hsl
  have hsz : (bs (flat (stepsP l p)).dropLast).size = (flat (stepsP l p)).length - 1 := by rw [bs_size, List.length_dropLast]
  -- the first step's first byte
  obtain ⟨x, r, hx⟩ : ∃ x r, stepsP l p = x :: r := by
    cases hq : stepsP l p with
    | nil => exact absurd hq hne
    | cons x r => exact ⟨x, r, rfl⟩
  have hx1 : x.data.toList ≠ [] ∧ ¬ x.data.toList.head? = some 47 := by
    rcases hmem x (by rw [hx]; simp) with rfl | hx
    · rw [data_bs]; simp
    · exact ⟨name_ne hx, name_head_ne hx⟩
  have hd : ∃ y z, (flat (stepsP l p)).dropLast = y :: z ∧ ¬ y = 47 := by
    obtain ⟨y, z, hyz⟩ : ∃ y z, x.data.toList = y :: z := by
      cases hq : x.data.toList with
      | nil => exact absurd hq hx1.1
      | cons y z => exact ⟨y, z, rfl⟩
    have hy : ¬ y = 47 := by have := hx1.2; rw [hyz] at this; simpa using this
    rw [hx, flat, hyz, List.cons_append, List.dropLast_cons_of_ne_nil (by simp)]
    exact ⟨y, _, rfl, hy⟩
  obtain ⟨y, z, hyz, hy⟩ := hd
  have hst : startP l (bs (flat (stepsP l p)).dropLast) = l := by
    rw [startP, if_neg (by rw [data_bs, hyz]; simpa using hy)]
  have hfold : (partsB (bs (flat (stepsP l p)).dropLast)).foldl stepP (startP l (bs (flat (stepsP l p)).dropLast)) = p := by
    have hle := com_le l p
    rw [hparts, hst, stepsP, List.foldl_append, fold_ups, fold_all _ _ (all_drop hn _)]
    have : l.length - (l.length - com l p) = com l p := by omega
    rw [this, take_com, List.take_append_drop]
  have hall : (partsB (bs (flat (stepsP l p)).dropLast)).all mayB = true := by
    rw [hparts, List.all_eq_true]
    intro x hx
    rcases hmem x hx with rfl | hx
    · decide +kernel
    · exact name_may hx
  rw [normal_ok h1 (by rw [hsz]; omega) (by rw [bs_toList, hyz]; simp) hall (by rw [hfold]; have := right_size h2; omega), hfold]
  exact ⟨rfl, rfl⟩
theorem rel_codes (l p : List ByteArray) : (relP l p).2 = 0 ∨ (relP l p).2 = 4 ∨ ((relP l p).2 = 20 ∧ (rightP l = false ∨ rightP p = false)) := by
  by_cases hw : rightP l = false ∨ rightP p = false
  · rw [rel_wrong hw]; exact .inr (.inr ⟨rfl, hw⟩)
  have h1 : rightP l = true := by cases hx : rightP l <;> simp_all
  have h2 : rightP p = true := by cases hx : rightP p <;> simp_all
  by_cases hs : com l p = l.length ∧ com l p = p.length
  · rw [rel_same h1 h2 hs]; exact .inl rfl
  by_cases hf : 1024 < (flat (stepsP l p)).length - 1
  · rw [rel_far h1 h2 hs hf]; exact .inr (.inl rfl)
  · rw [rel_ok h1 h2 hs hf]; exact .inl rfl
theorem rel_size (l p : List ByteArray) : (relP l p).1.size ≤ 1024 := by
  by_cases hw : rightP l = false ∨ rightP p = false
  · rw [rel_wrong hw, bs_size]; simp
  have h1 : rightP l = true := by cases hx : rightP l <;> simp_all
  have h2 : rightP p = true := by cases hx : rightP p <;> simp_all
  by_cases hs : com l p = l.length ∧ com l p = p.length
  · rw [rel_same h1 h2 hs, bs_size]; simp
  by_cases hf : 1024 < (flat (stepsP l p)).length - 1
  · rw [rel_far h1 h2 hs hf, bs_size]; simp
  · rw [rel_ok h1 h2 hs hf, bs_size, List.length_dropLast]; omega

/-! ### One name more -/
def joinP (l : List ByteArray) (x : ByteArray) : List ByteArray × Int :=
  if rightP l = false ∨ nameB x = false then ([], 20) else if 1024 < sizeP (l ++ [x]) then ([], 4) else (l ++ [x], 0)
theorem join_wrong {l : List ByteArray} {x : ByteArray} (h : rightP l = false ∨ nameB x = false) : joinP l x = ([], 20) := by rw [joinP, if_pos h]
theorem join_far {l : List ByteArray} {x : ByteArray} (h1 : rightP l = true) (h2 : nameB x = true) (h : 1024 < sizeP (l ++ [x])) : joinP l x = ([], 4) := by rw [joinP, if_neg (by simp [h1, h2]), if_pos h]
theorem join_ok {l : List ByteArray} {x : ByteArray} (h1 : rightP l = true) (h2 : nameB x = true) (h : ¬ 1024 < sizeP (l ++ [x])) : joinP l x = (l ++ [x], 0) := by rw [joinP, if_neg (by simp [h1, h2]), if_neg h]
theorem join_names (l : List ByteArray) (x : ByteArray) : (joinP l x).1.all nameB = true ∧ (joinP l x).1.length ≤ 1024 := by
  by_cases hw : rightP l = false ∨ nameB x = false
  · rw [join_wrong hw]; simp
  have h1 : rightP l = true := by cases hx : rightP l <;> simp_all
  have h2 : nameB x = true := by cases hx : nameB x <;> simp_all
  by_cases hf : 1024 < sizeP (l ++ [x])
  · rw [join_far h1 h2 hf]; simp
  · rw [join_ok h1 h2 hf]
    have hn : (l ++ [x]).all nameB = true := by simp [right_names h1, h2]
    exact ⟨hn, right_len (right_small hf hn)⟩
theorem join_right {l : List ByteArray} {x : ByteArray} (h : rightP (l ++ [x]) = true) : joinP l x = (l ++ [x], 0) := by
  have hn := right_names h
  rw [List.all_append] at hn
  simp only [Bool.and_eq_true] at hn
  have hsz := right_size h
  have hx : nameB x = true := by simpa using hn.2
  have hl : rightP l = true := by
    simp only [rightP, hn.1, Bool.true_and, decide_eq_true_eq]
    have h1 := right_sum h
    rw [sumP_append] at h1
    simp only [sizeP]
    split <;> omega
  exact join_ok hl hx (by omega)

end Pl
end Go.Proofs.Ytjmfgffihkbnlab
