/- Plain facts on a text that leads from one path to another, on a path's parent, and on a path with one name more. Plain facts on the reference's own ways: no byte 0 and no part too long is just what may stand. What the reference's Normal answers: the same as paths.Normal. -/
import Derived.Test.YtcloljkaojnipaaGreatDoorPgP
import Derived.Test.YtcloljkaojnipaaGreatDoorRefA
import Derived.Test.YtcloljkaojnipaaGreatDoorNormal
namespace Go.Proofs.YtcloljkaojnipaaGreatDoor
namespace Pl

def flat : List ByteArray → List UInt8
  | [] => []
  | x :: r => x.data.toList ++ 47 :: flat r
theorem flat_append (a b : List ByteArray) : flat (a ++ b) = flat a ++ flat b := by
  induction a with
  | nil => rfl
  | cons x r ih => simp [flat, ih]
theorem flat_snoc (a : List ByteArray) (x : ByteArray) : flat (a ++ [x]) = flat a ++ x.data.toList ++ [47] := by rw [flat_append]; simp [flat]
theorem flat_length (a : List ByteArray) : (flat a).length = sumP a := by
  induction a with
  | nil => rfl
  | cons x r ih => simp only [flat, sumP, List.length_append, List.length_cons, ih, szL]; omega
theorem flat_pos {a : List ByteArray} (h : a ≠ []) : 0 < (flat a).length := by
  cases a with
  | nil => exact absurd rfl h
  | cons x r => simp only [flat, List.length_append, List.length_cons]; omega
def ups (k : Nat) : List ByteArray := List.replicate k (bs [46, 46])
def stepsP (l p : List ByteArray) : List ByteArray := ups (l.length - com l p) ++ p.drop (com l p)
def relP (l p : List ByteArray) : ByteArray × Int :=
  if rightP l = false ∨ rightP p = false then (bs [], 20)
  else if com l p = l.length ∧ com l p = p.length then (bs [46], 0)
  else if 1024 < (flat (stepsP l p)).length - 1 then (bs [], 4) else (bs (flat (stepsP l p)).dropLast, 0)
theorem rel_wrong {l p : List ByteArray} (h : rightP l = false ∨ rightP p = false) : relP l p = (bs [], 20) := by rw [relP, if_pos h]
theorem rel_same {l p : List ByteArray} (h1 : rightP l = true) (h2 : rightP p = true) (h : com l p = l.length ∧ com l p = p.length) : relP l p = (bs [46], 0) := by
  rw [relP, if_neg (by simp [h1, h2]), if_pos h]
theorem rel_far {l p : List ByteArray} (h1 : rightP l = true) (h2 : rightP p = true) (h : ¬ (com l p = l.length ∧ com l p = p.length)) (h3 : 1024 < (flat (stepsP l p)).length - 1) : relP l p = (bs [], 4) := by
  rw [relP, if_neg (by simp [h1, h2]), if_neg h, if_pos h3]
theorem rel_ok {l p : List ByteArray} (h1 : rightP l = true) (h2 : rightP p = true) (h : ¬ (com l p = l.length ∧ com l p = p.length)) (h3 : ¬ 1024 < (flat (stepsP l p)).length - 1) : relP l p = (bs (flat (stepsP l p)).dropLast, 0) := by
  rw [relP, if_neg (by simp [h1, h2]), if_neg h, if_neg h3]
theorem steps_ne {l p : List ByteArray} (h : ¬ (com l p = l.length ∧ com l p = p.length)) : stepsP l p ≠ [] := by
  intro e
  have hl := congrArg List.length e
  have := com_le l p
  simp [stepsP, ups] at hl
  omega
theorem flat_ups_snoc (k : Nat) : flat (ups (k + 1)) = flat (ups k) ++ [46, 46, 47] := by
  rw [ups, List.replicate_succ', flat_snoc, ← ups]; simp [data_bs]
theorem ups_sum (k : Nat) : sumP (ups k) = 3 * k := by
  induction k with
  | zero => rfl
  | succ n ih => rw [ups, List.replicate_succ, sumP, ← ups, ih, bs_size]; simp; omega

theorem spl_flat : ∀ (ps : List ByteArray), ps ≠ [] → (∀ x ∈ ps, ∀ c ∈ x.data.toList, (c == 47) = false) → spl (flat ps).dropLast = ps.map fun x => x.data.toList
  | [], h, _ => absurd rfl h
  | [x], _, h => by
    have e : (flat [x]).dropLast = x.data.toList := by simp [flat]
    rw [e, spl_name _ (h x (by simp))]; rfl
  | x :: y :: r, _, h => by
    have ih := spl_flat (y :: r) (by simp) (fun z hz => h z (by simp [hz]))
    have e : (flat (x :: y :: r)).dropLast = x.data.toList ++ 47 :: (flat (y :: r)).dropLast := by
      rw [flat, List.dropLast_append_of_ne_nil (by simp), List.dropLast_cons_of_ne_nil]
      intro e
      have := flat_length (y :: r)
      rw [e] at this
      simp [sumP] at this
      omega
    rw [e, spl_name_slash _ _ (h x (by simp)), ih]; rfl
theorem parts_flat {ps : List ByteArray} (h : ps ≠ []) (hn : ∀ x ∈ ps, ∀ c ∈ x.data.toList, (c == 47) = false) : partsB (bs (flat ps).dropLast) = ps := by
  rw [partsB, data_bs, spl_flat ps h hn, List.map_map]
  have : (bs ∘ fun x : ByteArray => x.data.toList) = id := by funext x; exact bs_data x
  rw [this, List.map_id]
theorem fold_ups (k : Nat) (st : List ByteArray) : (ups k).foldl stepP st = st.take (st.length - k) := by
  induction k generalizing st with
  | zero => simp [ups]
  | succ n ih =>
    rw [ups, List.replicate_succ, List.foldl_cons, ← ups, ih, step_up (by rw [bs_toList])]
    rw [List.dropLast_eq_take, List.take_take]
    congr 1
    simp
    omega
theorem take_com : ∀ (l p : List ByteArray), l.take (com l p) = p.take (com l p)
  | [], p => by simp [com_nil_left]
  | _ :: _, [] => by simp [com]
  | a :: r, b :: t => by
    simp only [com]
    split
    · rename_i h
      have e : a = b := data_inj a b (by rw [toL, toL] at h; simpa using h)
      rw [Nat.add_comm, List.take_succ_cons, List.take_succ_cons, take_com r t, e]
    · simp
theorem all_drop {p : List ByteArray} (h : p.all nameB = true) (k : Nat) : (p.drop k).all nameB = true := by
  rw [List.all_eq_true] at h ⊢
  exact fun x hx => h x (List.mem_of_mem_drop hx)
theorem steps_mem {l p : List ByteArray} (hp : p.all nameB = true) : ∀ x ∈ stepsP l p, x = bs [46, 46] ∨ nameB x = true := by
  intro x hx
  rcases List.mem_append.1 hx with h | h
  · exact .inl (List.eq_of_mem_replicate h)
  · exact .inr (List.all_eq_true.1 (all_drop hp _) x h)
theorem name_head_ne {x : ByteArray} (h : nameB x = true) : ¬ x.data.toList.head? = some 47 := by
  intro e
  cases hx : x.data.toList with
  | nil => rw [hx] at e; simp at e
  | cons a b =>
    rw [hx] at e
    have := name_no_slash h a (by rw [hx]; simp)
    simp at e
    subst e
    simp at this
theorem name_ne {x : ByteArray} (h : nameB x = true) : x.data.toList ≠ [] := by
  intro e
  rw [name_empty (by rw [toL]; exact e)] at h; cases h
theorem rel_leads {l p : List ByteArray} (h : (relP l p).2 = 0) : (normalP l (relP l p).1).1 = p ∧ (normalP l (relP l p).1).2.2 = 0 := by
  by_cases hw : rightP l = false ∨ rightP p = false
  · rw [rel_wrong hw] at h; simp at h
  have h1 : rightP l = true := by cases hx : rightP l <;> simp_all
  have h2 : rightP p = true := by cases hx : rightP p <;> simp_all
  by_cases hs : com l p = l.length ∧ com l p = p.length
  · rw [rel_same h1 h2 hs]
    have e : l = p := by
      have := take_com l p
      rw [hs.1] at this
      rw [List.take_length] at this
      rw [this, ← hs.1, hs.2, List.take_length]
    subst e
    have hst : startP l (bs [46]) = l := by rw [startP, if_neg (by rw [data_bs]; simp)]
    have hpt : partsB (bs [46]) = [bs [46]] := rfl
    have hf : (partsB (bs [46])).foldl stepP (startP l (bs [46])) = l := by
      rw [hst, hpt, List.foldl_cons, step_same (.inr (by rw [bs_toList]))]; rfl
    rw [normal_ok h1 (by rw [bs_size]; simp) (by rw [bs_toList]; simp) (by decide +kernel) (by rw [hf]; have := right_size h1; omega), hf]
    exact ⟨rfl, rfl⟩
  by_cases hf : 1024 < (flat (stepsP l p)).length - 1
  · rw [rel_far h1 h2 hs hf] at h; simp at h
  rw [rel_ok h1 h2 hs hf]
  have hn := right_names h2
  have hne := steps_ne hs
  have hmem := @steps_mem l p hn
  have hsl : ∀ x ∈ stepsP l p, ∀ c ∈ x.data.toList, (c == 47) = false := fun x hx => by
    rcases hmem x hx with rfl | hx
    · intro c hc; rw [data_bs] at hc; simp at hc; subst hc; rfl
    · exact name_no_slash hx
  have hparts := parts_flat hne hsl
  have hsz : (bs (flat (stepsP l p)).dropLast).size = (flat (stepsP l p)).length - 1 := by rw [bs_size, List.length_dropLast]
  -- the first step's first byte
  obtain ⟨x, r, hx⟩ : ∃ x r, stepsP l p = x :: r := by
    cases hq : stepsP l p with
    | nil => exact absurd hq hne
    | cons x r => exact ⟨x, r, rfl⟩
  have hx1 : x.data.toList ≠ [] ∧ ¬ x.data.toList.head? = some 47 := by
    rcases hmem x (by rw [hx]; simp) with rfl | hx
    · rw [data_bs]; simp
    · exact ⟨name_ne hx, name_head_ne hx⟩
  have hd : ∃ y z, (flat (stepsP l p)).dropLast = y :: z ∧ ¬ y = 47 := by
    obtain ⟨y, z, hyz⟩ : ∃ y z, x.data.toList = y :: z := by
      cases hq : x.data.toList with
      | nil => exact absurd hq hx1.1
      | cons y z => exact ⟨y, z, rfl⟩
    have hy : ¬ y = 47 := by have := hx1.2; rw [hyz] at this; simpa using this
    rw [hx, flat, hyz, List.cons_append, List.dropLast_cons_of_ne_nil (by simp)]
    exact ⟨y, _, rfl, hy⟩
  obtain ⟨y, z, hyz, hy⟩ := hd
  have hst : startP l (bs (flat (stepsP l p)).dropLast) = l := by
    rw [startP, if_neg (by rw [data_bs, hyz]; simpa using hy)]
  have hfold : (partsB (bs (flat (stepsP l p)).dropLast)).foldl stepP (startP l (bs (flat (stepsP l p)).dropLast)) = p := by
    have hle := com_le l p
    rw [hparts, hst, stepsP, List.foldl_append, fold_ups, fold_all _ _ (all_drop hn _)]
    have : l.length - (l.length - com l p) = com l p := by omega
    rw [this, take_com, List.take_append_drop]
  have hall : (partsB (bs (flat (stepsP l p)).dropLast)).all mayB = true := by
    rw [hparts, List.all_eq_true]
    intro x hx
    rcases hmem x hx with rfl | hx
    · decide +kernel
    · exact name_may hx
  rw [normal_ok h1 (by rw [hsz]; omega) (by rw [bs_toList, hyz]; simp) hall (by rw [hfold]; have := right_size h2; omega), hfold]
  exact ⟨rfl, rfl⟩
theorem rel_codes (l p : List ByteArray) : (relP l p).2 = 0 ∨ (relP l p).2 = 4 ∨ ((relP l p).2 = 20 ∧ (rightP l = false ∨ rightP p = false)) := by
  by_cases hw : rightP l = false ∨ rightP p = false
  · rw [rel_wrong hw]; exact .inr (.inr ⟨rfl, hw⟩)
  have h1 : rightP l = true := by cases hx : rightP l <;> simp_all
  have h2 : rightP p = true := by cases hx : rightP p <;> simp_all
  by_cases hs : com l p = l.length ∧ com l p = p.length
  · rw [rel_same h1 h2 hs]; exact .inl rfl
  by_cases hf : 1024 < (flat (stepsP l p)).length - 1
  · rw [rel_far h1 h2 hs hf]; exact .inr (.inl rfl)
  · rw [rel_ok h1 h2 hs hf]; exact .inl rfl
theorem rel_size (l p : List ByteArray) : (relP l p).1.size ≤ 1024 := by
  by_cases hw : rightP l = false ∨ rightP p = false
  · rw [rel_wrong hw, bs_size]; simp
  have h1 : rightP l = true := by cases hx : rightP l <;> simp_all
  have h2 : rightP p = true := by cases hx : rightP p <;> simp_all
  by_cases hs : com l p = l.length ∧ com l p = p.length
  · rw [rel_same h1 h2 hs, bs_size]; simp
  by_cases hf : 1024 < (flat (stepsP l p)).length - 1
  · rw [rel_far h1 h2 hs hf, bs_size]; simp
  · rw [rel_ok h1 h2 hs hf, bs_size, List.length_dropLast]; omega

/-! ### One name more -/
def joinP (l : List ByteArray) (x : ByteArray) : List ByteArray × Int :=
  if rightP l = false ∨ nameB x = false then ([], 20) else if 1024 < sizeP (l ++ [x]) then ([], 4) else (l ++ [x], 0)
theorem join_wrong {l : List ByteArray} {x : ByteArray} (h : rightP l = false ∨ nameB x = false) : joinP l x = ([], 20) := by rw [joinP, if_pos h]
theorem join_far {l : List ByteArray} {x : ByteArray} (h1 : rightP l = true) (h2 : nameB x = true) (h : 1024 < sizeP (l ++ [x])) : joinP l x = ([], 4) := by rw [joinP, if_neg (by simp [h1, h2]), if_pos h]
theorem join_ok {l : List ByteArray} {x : ByteArray} (h1 : rightP l = true) (h2 : nameB x = true) (h : ¬ 1024 < sizeP (l ++ [x])) : joinP l x = (l ++ [x], 0) := by rw [joinP, if_neg (by simp [h1, h2]), if_neg h]
theorem join_names (l : List ByteArray) (x : ByteArray) : (joinP l x).1.all nameB = true ∧ (joinP l x).1.length ≤ 1024 := by
  by_cases hw : rightP l = false ∨ nameB x = false
  · rw [join_wrong hw]; simp
  have h1 : rightP l = true := by cases hx : rightP l <;> simp_all
  have h2 : nameB x = true := by cases hx : nameB x <;> simp_all
  by_cases hf : 1024 < sizeP (l ++ [x])
  · rw [join_far h1 h2 hf]; simp
  · rw [join_ok h1 h2 hf]
    have hn : (l ++ [x]).all nameB = true := by simp [right_names h1, h2]
    exact ⟨hn, right_len (right_small hf hn)⟩
theorem join_right {l : List ByteArray} {x : ByteArray} (h : rightP (l ++ [x]) = true) : joinP l x = (l ++ [x], 0) := by
  have hn := right_names h
  rw [List.all_append] at hn
  simp only [Bool.and_eq_true] at hn
  have hsz := right_size h
  have hx : nameB x = true := by simpa using hn.2
  have hl : rightP l = true := by
    simp only [rightP, hn.1, Bool.true_and, decide_eq_true_eq]
    have h1 := right_sum h
    rw [sumP_append] at h1
    simp only [sizeP]
    split <;> omega
  exact join_ok hl hx (by omega)

end Pl
end Go.Proofs.YtcloljkaojnipaaGreatDoor
namespace Go.Proofs.YtcloljkaojnipaaGreatDoor
namespace Pl

theorem spl_sub : ∀ (l : List UInt8), ∀ p ∈ spl l, ∀ c ∈ p, c ∈ l ∧ (c == 47) = false
  | [], p, hp, c, hc => by simp [spl] at hp; subst hp; cases hc
  | d :: r, p, hp, c, hc => by
    have ih := spl_sub r
    cases hd : (d == 47)
    · rw [spl_other hd] at hp
      cases hs : spl r with
      | nil => exact absurd hs (spl_ne r)
      | cons h t =>
        rw [hs] at hp ih
        simp only [glue, List.mem_cons] at hp
        rcases hp with rfl | hp
        · rcases List.mem_append.1 hc with hc | hc
          · simp at hc; subst hc; exact ⟨by simp, hd⟩
          · have := ih h (by simp) c hc; exact ⟨by simp [this.1], this.2⟩
        · have := ih p (by simp [hp]) c hc; exact ⟨by simp [this.1], this.2⟩
    · have : d = 47 := by simpa using hd
      subst this
      rw [spl_slash] at hp
      rcases List.mem_cons.1 hp with rfl | hp
      · cases hc
      · have := ih p hp c hc; exact ⟨by simp [this.1], this.2⟩
theorem spl_sup : ∀ (l : List UInt8) (c : UInt8), c ∈ l → (c == 47) = false → ∃ p ∈ spl l, c ∈ p
  | [], c, h, _ => by cases h
  | d :: r, c, h, hc => by
    cases hd : (d == 47)
    · rw [spl_other hd]
      rcases List.mem_cons.1 h with rfl | h
      · cases hs : spl r with
        | nil => exact absurd hs (spl_ne r)
        | cons x t => exact ⟨[c] ++ x, by simp [glue], by simp⟩
      · obtain ⟨p, hp, hcp⟩ := spl_sup r c h hc
        cases hs : spl r with
        | nil => exact absurd hs (spl_ne r)
        | cons x t =>
          rw [hs] at hp
          rcases List.mem_cons.1 hp with rfl | hp
          · exact ⟨[d] ++ p, by simp [glue], by simp [hcp]⟩
          · exact ⟨p, by simp [glue, hp], hcp⟩
    · have e : d = 47 := by simpa using hd
      subst e
      rw [spl_slash]
      rcases List.mem_cons.1 h with rfl | h
      · simp at hc
      · obtain ⟨p, hp, hcp⟩ := spl_sup r c h hc
        exact ⟨p, by simp [hp], hcp⟩
theorem may_clean {x : ByteArray} (h : mayB x = true) : (∀ c ∈ x.data.toList, (c == 0) = false) ∧ x.size ≤ 255 := by
  simp only [mayB, Bool.or_eq_true, toL, beq_iff_eq] at h
  rcases h with ((h | h) | h) | h
  · rw [h]; refine ⟨by simp, ?_⟩; have := szL x; rw [h] at this; simp at this; omega
  · rw [h]; refine ⟨by simp, ?_⟩; have := szL x; rw [h] at this; simp at this; omega
  · rw [h]; refine ⟨by simp, ?_⟩; have := szL x; rw [h] at this; simp at this; omega
  · refine ⟨fun c hc => ?_, name_size h⟩
    simp only [nameB, nameL, Bool.and_eq_true] at h
    have h2 := List.all_eq_true.1 h.2 c hc
    simp only [okc, Bool.not_eq_true', Bool.or_eq_false_iff] at h2
    exact h2.2
theorem clean_may {x : ByteArray} (h1 : ∀ c ∈ x.data.toList, (c == 47) = false ∧ (c == 0) = false) (h2 : x.size ≤ 255) : mayB x = true := by
  by_cases e1 : x.toList = []
  · exact may_empty e1
  by_cases e2 : x.toList = [46]
  · exact may_dot e2
  by_cases e3 : x.toList = [46, 46]
  · exact may_dots e3
  rw [may_name e1 e2 e3, name_head e1 (by omega) e2 e3, List.all_eq_true]
  intro c hc
  simp [okc, h1 c hc]
theorem parts_bytes {s x : ByteArray} (hx : x ∈ partsB s) : ∀ c ∈ x.data.toList, c ∈ s.data.toList ∧ (c == 47) = false := by
  obtain ⟨p, hp, rfl⟩ := List.mem_map.1 hx
  intro c hc
  rw [data_bs] at hc
  exact spl_sub _ p hp c hc
theorem nul_bad {s : ByteArray} {k : Nat} (h : k < s.size) (hc : ((s[k].toNat : Int) == 0) = true) : (partsB s).all mayB = false := by
  have h0 : s[k] = 0 := by rw [← UInt8.toNat_inj]; simp at hc; simp; omega
  have hm : (0 : UInt8) ∈ s.data.toList := by
    have : s[k] ∈ s.data.toList := List.mem_of_mem_drop (i := k) (by rw [drop_cons s k h]; simp)
    rw [h0] at this; exact this
  obtain ⟨p, hp, hcp⟩ := spl_sup s.data.toList 0 hm rfl
  cases hq : (partsB s).all mayB
  · rfl
  · have := (may_clean (List.all_eq_true.1 hq (bs p) (List.mem_map.2 ⟨p, hp, rfl⟩))).1 0 (by rw [data_bs]; exact hcp)
    simp at this
theorem long_bad {ps : List ByteArray} {k : Nat} (h : k < ps.length) (hc : 255 < (ps[k]'h).size) : ps.all mayB = false := by
  cases hq : ps.all mayB
  · rfl
  · have := (may_clean (List.all_eq_true.1 hq (ps[k]'h) (List.getElem_mem h))).2
    omega
theorem nul_step {s : ByteArray} {k : Nat} (h : k < s.size) (ha : (s.data.toList.take k).all (fun c => !(c == 0)) = true) (h0 : ((s[k].toNat : Int) == 0) = false) : (s.data.toList.take (k + 1)).all (fun c => !(c == 0)) = true := by
  rw [take_snoc s k h, List.all_append, ha]
  have : (s[k] == 0) = false := by rw [beq_eq_false_iff_ne]; intro e; rw [e] at h0; simp at h0
  simp [this]
theorem short_step {ps : List ByteArray} {k : Nat} (h : k < ps.length) (ha : (ps.take k).all (fun x => decide (x.size ≤ 255)) = true) (h0 : (ps[k]'h).size ≤ 255) : (ps.take (k + 1)).all (fun x => decide (x.size ≤ 255)) = true := by
  rw [List.take_succ_eq_append_getElem h, List.all_append, ha]; simp [h0]
theorem clean_all {s : ByteArray} (h1 : s.data.toList.all (fun c => !(c == 0)) = true) (h2 : (partsB s).all (fun x => decide (x.size ≤ 255)) = true) : (partsB s).all mayB = true := by
  rw [List.all_eq_true] at h1 h2 ⊢
  intro x hx
  refine clean_may (fun c hc => ?_) (by simpa using h2 x hx)
  have h3 := parts_bytes hx c hc
  exact ⟨h3.2, by simpa using h1 c h3.1⟩
theorem last_of {ps : List ByteArray} (h : ps ≠ []) : lastDir ps = dirB (ps[ps.length - 1]'(by have := List.length_pos_iff.2 h; omega)) := by
  have hl := List.length_pos_iff.2 h
  have := @lastDir_take ps (ps.length - 1) (by omega)
  rwa [List.take_of_length_le (by omega)] at this

end Pl
end Go.Proofs.YtcloljkaojnipaaGreatDoor
namespace Go.Proofs.YtcloljkaojnipaaGreatDoor
open Go.RowKit

theorem own_base {w : World} {base base' : Nat} {e : TypeId} {size : Nat} {v : Value} {n : Nat} {xs : List Value} (h : w.ownsRow base e size v n xs) (hb : base' ≤ base) : w.ownsRow base' e size v n xs := by
  refine ⟨h.1, ?_⟩
  rcases h.2 with h2 | ⟨g, cap, cur, hv, hbg, r⟩
  · exact .inl h2
  · exact .inr ⟨g, cap, cur, hv, Nat.le_trans hb hbg, r⟩

set_option maxRecDepth 100000 in
set_option maxHeartbeats 4000000 in
theorem rnormal_any (a : Option Addr) (cap : Nat) (l : List ByteArray) (s : ByteArray) (w : World) (h : Strs w a cap l) (hs : s.size ≤ 4611686018427387904) :
    Calls Tryz.prog 77 #[.slice a l.length cap, .string s] w fun e w' => ∃ v, e = .returned (.tuple #[v, .bool (Pl.normalP l s).2.1, .int .i64 (Pl.normalP l s).2.2]) ∧
      w'.ownsRow w.heap.size 9 1 v (Pl.normalP l s).1.length ((Pl.normalP l s).1.map Value.string) ∧ Below w.heap.size w w' := by
  obtain ⟨i0, hi, hz0, hz1, hz2⟩ := info_parts Tryz.infoStr
  cases hr : Pl.rightP l
  · rw [Pl.normal_wrong hr]
    go_enter Tryz.func77, Tryz.ntmps77
    go_wp2_with (go_at_call 37; refine (rright_any _ _ l _ h).mono ?_; rintro e w' ⟨rfl, rfl⟩)
    go_ret3
    exact ⟨_, rfl, World.ownsRow_nil _ _ _ _, Below.refl _ _⟩
  by_cases h2 : 1024 < s.size
  · rw [Pl.normal_far hr h2]
    have h2' : (1024 : Int) < (s.size : Int) := by omega
    go_enter Tryz.func77, Tryz.ntmps77
    go_wp2_with (go_at_call 37; refine (rright_any _ _ l _ h).mono ?_; rintro e w' ⟨rfl, rfl⟩)
    go_ret3
    exact ⟨_, rfl, World.ownsRow_nil _ _ _ _, Below.refl _ _⟩
  by_cases h3 : s.toList = []
  · rw [Pl.normal_none hr h2 h3]
    have h2' : ¬ (1024 : Int) < (s.size : Int) := by omega
    go_enter Tryz.func77, Tryz.ntmps77
    go_wp2_with (go_at_call 37; refine (rright_any _ _ l _ h).mono ?_; rintro e w' ⟨rfl, rfl⟩)
    go_ret3
    exact ⟨_, rfl, World.ownsRow_nil _ _ _ _, Below.refl _ _⟩
  have h2' : ¬ (1024 : Int) < (s.size : Int) := by omega
  have h0 := Pl.size_pos h3
  have b3 : s.toList.isEmpty = false := by simpa using h3
  have hl := Pl.right_len hr
  have HN := Pl.right_names hr
  have hbad := @Pl.normal_bad l s hr h2 h3
  have hlong := @Pl.normal_long l s hr h2 h3
  have hok := @Pl.normal_ok l s hr h2 h3
  have hpl := Pl.parts_len s
  have hpm := Pl.parts_mem s
  have hpn := Pl.parts_ne s
  have hcl := @Pl.clean_all s
  have hnul := @Pl.nul_bad s
  clear h3
  obtain ⟨ps, hps⟩ : ∃ ps, Pl.partsB s = ps := ⟨_, rfl⟩
  obtain ⟨R, hR⟩ : ∃ R, Pl.normalP l s = R := ⟨_, rfl⟩
  obtain ⟨st, hst⟩ : ∃ st, Pl.startP l s = st := ⟨_, rfl⟩
  rw [hps] at hbad hlong hok hpl hpm hpn hcl
  simp only [hps] at hnul
  rw [hR] at hbad hlong hok ⊢
  rw [hst] at hlong hok
  have HB : Hid (ps.all Pl.mayB = false → R = ([], false, 20)) := hbad
  have HL : Hid (ps.all Pl.mayB = true → 1024 < Pl.sizeP (ps.foldl Pl.stepP st) → R = ([], false, 4)) := hlong
  have HO : Hid (ps.all Pl.mayB = true → ¬ 1024 < Pl.sizeP (ps.foldl Pl.stepP st) → R = (ps.foldl Pl.stepP st, Pl.lastDir ps, 0)) := hok
  have HPM : Hid (∀ p ∈ ps, p.size ≤ s.size) := hpm
  have HPN : Hid (ps ≠ []) := hpn
  have HPS : Hid (Pl.partsB s = ps) := hps
  have HST : Hid (Pl.startP l s = st) := hst
  have HNN : Hid (l.all Pl.nameB = true) := HN
  have HCL : Hid (s.data.toList.all (fun c => !(c == 0)) = true → ps.all (fun x => decide (x.size ≤ 255)) = true → ps.all Pl.mayB = true) := hcl
  have HNUL : Hid (∀ {k : Nat} (h : k < s.size), ((s[k].toNat : Int) == 0) = true → ps.all Pl.mayB = false) := hnul
  have hps0 := List.length_pos_iff.2 hpn
  clear hbad hlong hok hps hpm hR hst HN hpn hcl hnul
  go_enter Tryz.func77, Tryz.ntmps77
  go_wp2_with (go_at_call 37; refine (rright_any _ _ l _ h).mono ?_; rintro e w' ⟨rfl, rfl⟩)
  go_loop [8] (fun i => ∃ k : Nat, k ≤ s.size ∧ i = .int .i64 k ∧ Hid ((s.data.toList.take k).all (fun c => !(c == 0)) = true)) (fun i => s.size - (intOf i).toNat)
  case atStart => exact ⟨0, Nat.zero_le _, rfl, rfl⟩
  case round =>
    obtain ⟨k, hk, rfl, HA⟩ := hrel
    by_cases hlt : k < s.size
    · cases hc : ((s[k].toNat : Int) == 0)
      · have HR : Hid ((s.data.toList.take (k + 1)).all (fun c => !(c == 0)) = true) := Pl.nul_step hlt HA.out hc
        go_wp2
        go_round
        case rel => exact ⟨k + 1, by omega, by go_num, HR⟩
        case measure => simp [intOf]; omega
      · have hR := HB.out (HNUL.out hlt hc)
        subst hR
        go_wp2
        go_ret3
        exact ⟨_, rfl, World.ownsRow_nil _ _ _ _, Below.refl _ _⟩
    have HA' : Hid (s.data.toList.all (fun c => !(c == 0)) = true) := by have := HA.out; rwa [Pl.take_all s k (by omega)] at this
    clear HA HNUL
    go_wp2_with fail
    refine (rparts_any s _ (by omega)).mono ?_
    rintro e w2 ⟨vp, rfl, hownp, hb2⟩
    rw [HPS.out] at hownp
    have hs2 := hb2.size
    obtain ⟨ap, cp, rfl, hpst, hpb⟩ := own_strs_at hownp (by omega) (fun p hp => by have := HPM.out p hp; omega)
    clear hownp
    go_wp2_with fail
    go_loop [10] (fun i => ∃ j : Nat, j ≤ ps.length ∧ i = .int .i64 j ∧ Hid ((ps.take j).all (fun x => decide (x.size ≤ 255)) = true)) (fun i => ps.length - (intOf i).toNat)
    case atStart => exact ⟨0, Nat.zero_le _, rfl, rfl⟩
    case round =>
      clear hlt hk
      obtain ⟨j, hj, rfl, HS⟩ := hrel
      by_cases hlt : j < ps.length
      · obtain ⟨b, off, rfl, hb0, hc⟩ := hpst.cells j hlt
        have hxs := hpst.size j hlt
        by_cases hbig : 255 < (ps[j]'hlt).size
        · have hR := HB.out (Pl.long_bad hlt hbig)
          subst hR
          have hbi : (255 : Int) < ((ps[j]'hlt).size : Int) := by omega
          generalize ps[j]'hlt = x at *
          go_wp2
          go_ret3
          exact ⟨_, rfl, World.ownsRow_nil _ _ _ _, hb2⟩
        · have HR : Hid ((ps.take (j + 1)).all (fun x => decide (x.size ≤ 255)) = true) := Pl.short_step hlt HS.out (by omega)
          have hbi : ¬ (255 : Int) < ((ps[j]'hlt).size : Int) := by omega
          generalize ps[j]'hlt = x at *
          go_wp2
          go_round
          case rel => exact ⟨j + 1, by omega, by go_num, HR⟩
          case measure => simp [intOf]; omega
      have HM : Hid (ps.all Pl.mayB = true) := HCL.out HA'.out (by have := HS.out; rwa [List.take_of_length_le (by omega)] at this)
      have hjl : ¬ j < ps.length := hlt
      clear HS HA' HCL HB hlt
      go_wp2_with fail
      refine (copy_any _ _ l _ (h.below hb2)).mono ?_
      rintro e w3 ⟨v3, rfl, hown3, hb3⟩
      have hpst3 := hpst.below hb3
      have hs3 := hb3.size
      have hbw : Below w.heap.size w w3 := hb2.trans (hb3.mono hs2)
      have hap3 : Hid (∀ ad : Addr, ap = some ad → v3.ownBlock ≠ some ad.block) := fun ad e1 e2 => by
        have := (hpb ad e1).2
        have := (hown3.lt _ e2).1
        omega
      have hown4 : w3.ownsRow w.heap.size 9 1 v3 l.length (l.map Value.string) := by
        refine ⟨hown3.1, ?_⟩
        rcases hown3.2 with h2 | ⟨g, cap, cur, hv, hbg, r⟩
        · exact .inl h2
        · exact .inr ⟨g, cap, cur, hv, Nat.le_trans hs2 hbg, r⟩
      clear hpst hb3 hown3 hjl hj
      cases hsl : ((s[0].toNat : Int) == 47)
      · have hst : l = st := (@Pl.start_other l s h0 hsl).symm.trans HST.out
        obtain ⟨hown, hstl, HSN⟩ : w3.ownsRow w.heap.size 9 1 v3 st.length (st.map Value.string) ∧ st.length ≤ 1024 ∧ Hid (st.all Pl.nameB = true) := by rw [← hst]; exact ⟨hown4, hl, HNN.out⟩
        clear hst hown4
        go_wp2_with fail
        go_loopw [11, 12] (fun v i wr => ∃ k : Nat, k ≤ ps.length ∧ i = .int .i64 k ∧ wr.ownsRow w.heap.size 9 1 v ((ps.take k).foldl Pl.stepP st).length (((ps.take k).foldl Pl.stepP st).map Value.string) ∧ Strs wr ap cp ps ∧ Hid (∀ ad : Addr, ap = some ad → v.ownBlock ≠ some ad.block) ∧ Below w.heap.size w wr)
          (fun _ i _ => ps.length - (intOf i).toNat)
        case atStart => exact ⟨0, Nat.zero_le _, rfl, hown, hpst3, hap3, hbw⟩
        case round =>
          clear hown hpst3 hbw
          obtain ⟨k, hk, rfl, hown, hpst, hap, hbw⟩ := hrel
          have hsz := hbw.size
          have hol : ((ps.take k).foldl Pl.stepP st).length ≤ 1024 + k := by have := Pl.fold_len st (ps.take k); simp at this; omega
          have HON : Hid (((ps.take k).foldl Pl.stepP st).all Pl.nameB = true) := Pl.fold_names HSN.out _ (by
            have := HM.out
            rw [List.all_eq_true] at this ⊢
            exact fun x hx => this x (List.mem_of_mem_take hx))
          by_cases hlt : k < ps.length
          · obtain ⟨b, off, rfl, hb0, hc⟩ := hpst.cells k hlt
            have hxs := hpst.size k hlt
            have HF : Hid ((ps.take (k + 1)).foldl Pl.stepP st = Pl.stepP ((ps.take k).foldl Pl.stepP st) (ps[k]'hlt)) := Pl.fold_snoc ps st k hlt
            generalize ps[k]'hlt = x at *
            generalize (ps.take k).foldl Pl.stepP st = out at *
            by_cases e1 : x.toList = []
            · have HF' : Hid ((ps.take (k + 1)).foldl Pl.stepP st = out) := HF.out.trans (Pl.step_same (Or.inl e1))
              go_wp2_with fail
              go_roundw
              case rel => exact ⟨k + 1, by omega, by go_num, by rw [HF'.out]; exact hown, hpst, hap, hbw⟩
              case measure => simp [intOf]; omega
            by_cases e2 : x.toList = [46]
            · have HF' : Hid ((ps.take (k + 1)).foldl Pl.stepP st = out) := HF.out.trans (Pl.step_same (Or.inr e2))
              have b1 : x.toList.isEmpty = false := by simpa using e1
              go_wp2_with fail
              go_roundw
              case rel => exact ⟨k + 1, by omega, by go_num, by rw [HF'.out]; exact hown, hpst, hap, hbw⟩
              case measure => simp [intOf]; omega
            have b1 : x.toList.isEmpty = false := by simpa using e1
            have b2 : (x.toList == [46]) = false := by simpa using e2
            by_cases e3 : x.toList = [46, 46]
            · have HF' : Hid ((ps.take (k + 1)).foldl Pl.stepP st = out.dropLast) := HF.out.trans (Pl.step_up e3)
              by_cases e4 : out = []
              · have HG : Hid ((ps.take (k + 1)).foldl Pl.stepP st = out) := by rw [e4] at HF' ⊢; exact HF'
                obtain ⟨ao, co, rfl, hos⟩ := own_strs hown (by omega) (names_size HON.out)
                have hn0 : ¬ (0 : Int) < (out.length : Int) := by rw [e4]; simp
                clear e1 e2 e4
                go_wp2_with fail
                go_roundw
                case rel => exact ⟨k + 1, by omega, by go_num, by rw [HG.out]; exact hown, hpst, hap, hbw⟩
                case measure => simp [intOf]; omega
              · obtain ⟨n, hn⟩ : ∃ n, out.length = n + 1 := ⟨out.length - 1, by have := List.length_pos_iff.2 e4; omega⟩
                obtain ⟨g, co, rfl, hbg, hglt⟩ := hown.form (by omega)
                have hown' := hown
                rw [hn] at hown'
                have hpop := own_pop hn (by rw [hn]; exact hown')
                have hcc := own_cap hown'
                have hc1 := hcc.1
                have hc2 : co ≤ 9223372036854775807 := hcc.2
                clear e1 e2 e4 hown' hcc
                rw [hn]
                clear hn
                go_wp2_with fail
                go_roundw
                case rel => exact ⟨k + 1, by omega, by go_num, by rw [HF'.out]; exact hpop, hpst, hap, hbw⟩
                case measure => simp [intOf]; omega
            · have HF' : Hid ((ps.take (k + 1)).foldl Pl.stepP st = out ++ [x]) := HF.out.trans (Pl.step_down e1 e2 e3)
              have b3 : (x.toList == [46, 46]) = false := by simpa using e3
              clear e1 e2 e3
              go_wp2_with (at_builtin; refine wpList_append_own_at _ rfl (.tmp 59) (.tmp 64) 26 rfl w.heap.size 9 i0 (.string ⟨#[]⟩) 1 16 Tryz.underlying26 hi hz0 hz1 hz2 rfl (by decide) _ _ _ rfl (hown.alloc _) ⟨wr.heap.size, 0, none⟩ 1 1 [.string x] rfl rfl (cell_one_new _ _ _) ?c2 ?c3 ?c4 ?c5 ?_)
              case c2 => intro u hu; simp at hu; subst hu; rfl
              case c3 => unfold maxLen; omega
              case c4 => omega
              case c5 => simp; omega
              intro v' w4 hown' hgrow _ hat
              have hb4 : Below w.heap.size w w4 := (hbw.alloc hsz _).grown hgrow (by simp; omega) (fun g hg => (hown.lt g hg).1)
              have hp4 : Strs w4 (some ⟨b, off, none⟩) cp ps := (hpst.alloc _).grown hgrow (fun ad e1 e2 => hap.out ad e1 e2.symm)
              have ha4 : Hid (∀ ad : Addr, some (⟨b, off, none⟩ : Addr) = some ad → v'.ownBlock ≠ some ad.block) := fun ad e1 e2 => by
                rcases hat with hat | hat
                · rw [hat] at e2; exact hap.out ad e1 e2
                · rw [hat] at e2
                  cases e1
                  simp at e2
                  omega
              clear hgrow hat hown
              go_wp2
              go_roundw
              case rel => exact ⟨k + 1, by omega, by go_num, by rw [HF'.out]; simpa using hown', hp4, ha4, hb4⟩
              case measure => simp [intOf]; omega
          · have ht : ps.take k = ps := List.take_of_length_le (by omega)
            rw [ht] at hown HON hol
            clear ht
            obtain ⟨out, hout⟩ : ∃ out, ps.foldl Pl.stepP st = out := ⟨_, rfl⟩
            rw [hout] at hown HON hol HL HO
            clear hout
            obtain ⟨ao, co, rfl, hos⟩ := own_strs hown (by omega) (names_size HON.out)
            by_cases hbig : 1024 < Pl.sizeP out
            · have hR := HL.out HM.out hbig
              subst hR
              have hbi : (1024 : Int) < (Pl.sizeR out : Int) := by have := (Pl.sizeR_iff out).2 hbig; omega
              clear HL HO
              go_wp2_with (go_at_call 70; refine (rsize_any _ _ _ _ hos).mono ?_; rintro e w' ⟨rfl, rfl⟩)
              go_ret3
              exact ⟨_, rfl, World.ownsRow_nil _ _ _ _, hbw⟩
            · have hR := HO.out HM.out hbig
              subst hR
              have hbi : ¬ (1024 : Int) < (Pl.sizeR out : Int) := by have := mt (Pl.sizeR_iff out).1 hbig; omega
              clear HL HO
              obtain ⟨n, hn⟩ : ∃ n, ps.length = n + 1 := ⟨ps.length - 1, by omega⟩
              have HLD : Hid (Pl.lastDir ps = Pl.dirB (ps[n]'(by omega))) := by
                have := @Pl.lastDir_take ps n (by omega)
                rwa [List.take_of_length_le (by omega)] at this
              obtain ⟨b, off, rfl, hb0, hc⟩ := hpst.cells n (by omega)
              generalize ps[n]'(by omega) = x at *
              have hnb : n ≤ 1025 := by omega
              rw [hn] at hk hlt ⊢
              clear hn
              by_cases e1 : x.toList = []
              · have HD' : Hid (Pl.lastDir ps = true) := HLD.out.trans (Pl.dir_empty e1)
                go_wp2_with (first | (go_at_call 70; refine (rsize_any _ _ _ _ hos).mono ?_; rintro e w' ⟨rfl, rfl⟩) | (go_at_call 56; refine (copy_any _ _ _ _ hos).mono ?_; rintro e w5 ⟨v5, rfl, hown5, hb5⟩))
                go_ret3
                refine ⟨v5, ?_, own_base hown5 hsz, hbw.trans (hb5.mono hsz)⟩
                show _ = Ending.returned (.tuple #[v5, .bool (Pl.lastDir ps), .int .i64 0])
                rw [HD'.out]
                rfl
              by_cases e2 : x.toList = [46]
              · have HD' : Hid (Pl.lastDir ps = true) := HLD.out.trans (Pl.dir_dot e2)
                have b1 : x.toList.isEmpty = false := by simpa using e1
                clear e1
                go_wp2_with (first | (go_at_call 70; refine (rsize_any _ _ _ _ hos).mono ?_; rintro e w' ⟨rfl, rfl⟩) | (go_at_call 56; refine (copy_any _ _ _ _ hos).mono ?_; rintro e w5 ⟨v5, rfl, hown5, hb5⟩))
                go_ret3
                refine ⟨v5, ?_, own_base hown5 hsz, hbw.trans (hb5.mono hsz)⟩
                show _ = Ending.returned (.tuple #[v5, .bool (Pl.lastDir ps), .int .i64 0])
                rw [HD'.out]
                rfl
              by_cases e3 : x.toList = [46, 46]
              · have HD' : Hid (Pl.lastDir ps = true) := HLD.out.trans (Pl.dir_dots e3)
                have b1 : x.toList.isEmpty = false := by simpa using e1
                have b2 : (x.toList == [46]) = false := by simpa using e2
                clear e1 e2
                go_wp2_with (first | (go_at_call 70; refine (rsize_any _ _ _ _ hos).mono ?_; rintro e w' ⟨rfl, rfl⟩) | (go_at_call 56; refine (copy_any _ _ _ _ hos).mono ?_; rintro e w5 ⟨v5, rfl, hown5, hb5⟩))
                go_ret3
                refine ⟨v5, ?_, own_base hown5 hsz, hbw.trans (hb5.mono hsz)⟩
                show _ = Ending.returned (.tuple #[v5, .bool (Pl.lastDir ps), .int .i64 0])
                rw [HD'.out]
                rfl
              · have HD' : Hid (Pl.lastDir ps = false) := HLD.out.trans (Pl.dir_not e1 e2 e3)
                have b1 : x.toList.isEmpty = false := by simpa using e1
                have b2 : (x.toList == [46]) = false := by simpa using e2
                have b3 : (x.toList == [46, 46]) = false := by simpa using e3
                clear e1 e2 e3
                go_wp2_with (first | (go_at_call 70; refine (rsize_any _ _ _ _ hos).mono ?_; rintro e w' ⟨rfl, rfl⟩) | (go_at_call 56; refine (copy_any _ _ _ _ hos).mono ?_; rintro e w5 ⟨v5, rfl, hown5, hb5⟩))
                go_ret3
                refine ⟨v5, ?_, own_base hown5 hsz, hbw.trans (hb5.mono hsz)⟩
                show _ = Ending.returned (.tuple #[v5, .bool (Pl.lastDir ps), .int .i64 0])
                rw [HD'.out]
                rfl
      · have hst : [] = st := (@Pl.start_slash l s h0 hsl).symm.trans HST.out
        obtain ⟨hown, hstl, HSN⟩ : w3.ownsRow w.heap.size 9 1 (.slice none 0 0) st.length (st.map Value.string) ∧ st.length ≤ 1024 ∧ Hid (st.all Pl.nameB = true) := by rw [← hst]; exact ⟨World.ownsRow_nil _ _ _ _, by simp, rfl⟩
        have hap4 : Hid (∀ ad : Addr, ap = some ad → (Value.slice none 0 0).ownBlock ≠ some ad.block) := fun ad _ e2 => by cases e2
        clear hst hown4 hap3
        go_wp2_with fail
        go_loopw [11, 12] (fun v i wr => ∃ k : Nat, k ≤ ps.length ∧ i = .int .i64 k ∧ wr.ownsRow w.heap.size 9 1 v ((ps.take k).foldl Pl.stepP st).length (((ps.take k).foldl Pl.stepP st).map Value.string) ∧ Strs wr ap cp ps ∧ Hid (∀ ad : Addr, ap = some ad → v.ownBlock ≠ some ad.block) ∧ Below w.heap.size w wr)
          (fun _ i _ => ps.length - (intOf i).toNat)
        case atStart => exact ⟨0, Nat.zero_le _, rfl, hown, hpst3, hap4, hbw⟩
        case round =>
          clear hown hpst3 hbw
          obtain ⟨k, hk, rfl, hown, hpst, hap, hbw⟩ := hrel
          have hsz := hbw.size
          have hol : ((ps.take k).foldl Pl.stepP st).length ≤ 1024 + k := by have := Pl.fold_len st (ps.take k); simp at this; omega
          have HON : Hid (((ps.take k).foldl Pl.stepP st).all Pl.nameB = true) := Pl.fold_names HSN.out _ (by
            have := HM.out
            rw [List.all_eq_true] at this ⊢
            exact fun x hx => this x (List.mem_of_mem_take hx))
          by_cases hlt : k < ps.length
          · obtain ⟨b, off, rfl, hb0, hc⟩ := hpst.cells k hlt
            have hxs := hpst.size k hlt
            have HF : Hid ((ps.take (k + 1)).foldl Pl.stepP st = Pl.stepP ((ps.take k).foldl Pl.stepP st) (ps[k]'hlt)) := Pl.fold_snoc ps st k hlt
            generalize ps[k]'hlt = x at *
            generalize (ps.take k).foldl Pl.stepP st = out at *
            by_cases e1 : x.toList = []
            · have HF' : Hid ((ps.take (k + 1)).foldl Pl.stepP st = out) := HF.out.trans (Pl.step_same (Or.inl e1))
              go_wp2_with fail
              go_roundw
              case rel => exact ⟨k + 1, by omega, by go_num, by rw [HF'.out]; exact hown, hpst, hap, hbw⟩
              case measure => simp [intOf]; omega
            by_cases e2 : x.toList = [46]
            · have HF' : Hid ((ps.take (k + 1)).foldl Pl.stepP st = out) := HF.out.trans (Pl.step_same (Or.inr e2))
              have b1 : x.toList.isEmpty = false := by simpa using e1
              go_wp2_with fail
              go_roundw
              case rel => exact ⟨k + 1, by omega, by go_num, by rw [HF'.out]; exact hown, hpst, hap, hbw⟩
              case measure => simp [intOf]; omega
            have b1 : x.toList.isEmpty = false := by simpa using e1
            have b2 : (x.toList == [46]) = false := by simpa using e2
            by_cases e3 : x.toList = [46, 46]
            · have HF' : Hid ((ps.take (k + 1)).foldl Pl.stepP st = out.dropLast) := HF.out.trans (Pl.step_up e3)
              by_cases e4 : out = []
              · have HG : Hid ((ps.take (k + 1)).foldl Pl.stepP st = out) := by rw [e4] at HF' ⊢; exact HF'
                obtain ⟨ao, co, rfl, hos⟩ := own_strs hown (by omega) (names_size HON.out)
                have hn0 : ¬ (0 : Int) < (out.length : Int) := by rw [e4]; simp
                clear e1 e2 e4
                go_wp2_with fail
                go_roundw
                case rel => exact ⟨k + 1, by omega, by go_num, by rw [HG.out]; exact hown, hpst, hap, hbw⟩
                case measure => simp [intOf]; omega
              · obtain ⟨n, hn⟩ : ∃ n, out.length = n + 1 := ⟨out.length - 1, by have := List.length_pos_iff.2 e4; omega⟩
                obtain ⟨g, co, rfl, hbg, hglt⟩ := hown.form (by omega)
                have hown' := hown
                rw [hn] at hown'
                have hpop := own_pop hn (by rw [hn]; exact hown')
                have hcc := own_cap hown'
                have hc1 := hcc.1
                have hc2 : co ≤ 9223372036854775807 := hcc.2
                clear e1 e2 e4 hown' hcc
                rw [hn]
                clear hn
                go_wp2_with fail
                go_roundw
                case rel => exact ⟨k + 1, by omega, by go_num, by rw [HF'.out]; exact hpop, hpst, hap, hbw⟩
                case measure => simp [intOf]; omega
            · have HF' : Hid ((ps.take (k + 1)).foldl Pl.stepP st = out ++ [x]) := HF.out.trans (Pl.step_down e1 e2 e3)
              have b3 : (x.toList == [46, 46]) = false := by simpa using e3
              clear e1 e2 e3
              go_wp2_with (at_builtin; refine wpList_append_own_at _ rfl (.tmp 59) (.tmp 64) 26 rfl w.heap.size 9 i0 (.string ⟨#[]⟩) 1 16 Tryz.underlying26 hi hz0 hz1 hz2 rfl (by decide) _ _ _ rfl (hown.alloc _) ⟨wr.heap.size, 0, none⟩ 1 1 [.string x] rfl rfl (cell_one_new _ _ _) ?c2 ?c3 ?c4 ?c5 ?_)
              case c2 => intro u hu; simp at hu; subst hu; rfl
              case c3 => unfold maxLen; omega
              case c4 => omega
              case c5 => simp; omega
              intro v' w4 hown' hgrow _ hat
              have hb4 : Below w.heap.size w w4 := (hbw.alloc hsz _).grown hgrow (by simp; omega) (fun g hg => (hown.lt g hg).1)
              have hp4 : Strs w4 (some ⟨b, off, none⟩) cp ps := (hpst.alloc _).grown hgrow (fun ad e1 e2 => hap.out ad e1 e2.symm)
              have ha4 : Hid (∀ ad : Addr, some (⟨b, off, none⟩ : Addr) = some ad → v'.ownBlock ≠ some ad.block) := fun ad e1 e2 => by
                rcases hat with hat | hat
                · rw [hat] at e2; exact hap.out ad e1 e2
                · rw [hat] at e2
                  cases e1
                  simp at e2
                  omega
              clear hgrow hat hown
              go_wp2
              go_roundw
              case rel => exact ⟨k + 1, by omega, by go_num, by rw [HF'.out]; simpa using hown', hp4, ha4, hb4⟩
              case measure => simp [intOf]; omega
          · have ht : ps.take k = ps := List.take_of_length_le (by omega)
            rw [ht] at hown HON hol
            clear ht
            obtain ⟨out, hout⟩ : ∃ out, ps.foldl Pl.stepP st = out := ⟨_, rfl⟩
            rw [hout] at hown HON hol HL HO
            clear hout
            obtain ⟨ao, co, rfl, hos⟩ := own_strs hown (by omega) (names_size HON.out)
            by_cases hbig : 1024 < Pl.sizeP out
            · have hR := HL.out HM.out hbig
              subst hR
              have hbi : (1024 : Int) < (Pl.sizeR out : Int) := by have := (Pl.sizeR_iff out).2 hbig; omega
              clear HL HO
              go_wp2_with (go_at_call 70; refine (rsize_any _ _ _ _ hos).mono ?_; rintro e w' ⟨rfl, rfl⟩)
              go_ret3
              exact ⟨_, rfl, World.ownsRow_nil _ _ _ _, hbw⟩
            · have hR := HO.out HM.out hbig
              subst hR
              have hbi : ¬ (1024 : Int) < (Pl.sizeR out : Int) := by have := mt (Pl.sizeR_iff out).1 hbig; omega
              clear HL HO
              obtain ⟨n, hn⟩ : ∃ n, ps.length = n + 1 := ⟨ps.length - 1, by omega⟩
              have HLD : Hid (Pl.lastDir ps = Pl.dirB (ps[n]'(by omega))) := by
                have := @Pl.lastDir_take ps n (by omega)
                rwa [List.take_of_length_le (by omega)] at this
              obtain ⟨b, off, rfl, hb0, hc⟩ := hpst.cells n (by omega)
              generalize ps[n]'(by omega) = x at *
              have hnb : n ≤ 1025 := by omega
              rw [hn] at hk hlt ⊢
              clear hn
              by_cases e1 : x.toList = []
              · have HD' : Hid (Pl.lastDir ps = true) := HLD.out.trans (Pl.dir_empty e1)
                go_wp2_with (first | (go_at_call 70; refine (rsize_any _ _ _ _ hos).mono ?_; rintro e w' ⟨rfl, rfl⟩) | (go_at_call 56; refine (copy_any _ _ _ _ hos).mono ?_; rintro e w5 ⟨v5, rfl, hown5, hb5⟩))
                go_ret3
                refine ⟨v5, ?_, own_base hown5 hsz, hbw.trans (hb5.mono hsz)⟩
                show _ = Ending.returned (.tuple #[v5, .bool (Pl.lastDir ps), .int .i64 0])
                rw [HD'.out]
                rfl
              by_cases e2 : x.toList = [46]
              · have HD' : Hid (Pl.lastDir ps = true) := HLD.out.trans (Pl.dir_dot e2)
                have b1 : x.toList.isEmpty = false := by simpa using e1
                clear e1
                go_wp2_with (first | (go_at_call 70; refine (rsize_any _ _ _ _ hos).mono ?_; rintro e w' ⟨rfl, rfl⟩) | (go_at_call 56; refine (copy_any _ _ _ _ hos).mono ?_; rintro e w5 ⟨v5, rfl, hown5, hb5⟩))
                go_ret3
                refine ⟨v5, ?_, own_base hown5 hsz, hbw.trans (hb5.mono hsz)⟩
                show _ = Ending.returned (.tuple #[v5, .bool (Pl.lastDir ps), .int .i64 0])
                rw [HD'.out]
                rfl
              by_cases e3 : x.toList = [46, 46]
              · have HD' : Hid (Pl.lastDir ps = true) := HLD.out.trans (Pl.dir_dots e3)
                have b1 : x.toList.isEmpty = false := by simpa using e1
                have b2 : (x.toList == [46]) = false := by simpa using e2
                clear e1 e2
                go_wp2_with (first | (go_at_call 70; refine (rsize_any _ _ _ _ hos).mono ?_; rintro e w' ⟨rfl, rfl⟩) | (go_at_call 56; refine (copy_any _ _ _ _ hos).mono ?_; rintro e w5 ⟨v5, rfl, hown5, hb5⟩))
                go_ret3
                refine ⟨v5, ?_, own_base hown5 hsz, hbw.trans (hb5.mono hsz)⟩
                show _ = Ending.returned (.tuple #[v5, .bool (Pl.lastDir ps), .int .i64 0])
                rw [HD'.out]
                rfl
              · have HD' : Hid (Pl.lastDir ps = false) := HLD.out.trans (Pl.dir_not e1 e2 e3)
                have b1 : x.toList.isEmpty = false := by simpa using e1
                have b2 : (x.toList == [46]) = false := by simpa using e2
                have b3 : (x.toList == [46, 46]) = false := by simpa using e3
                clear e1 e2 e3
                go_wp2_with (first | (go_at_call 70; refine (rsize_any _ _ _ _ hos).mono ?_; rintro e w' ⟨rfl, rfl⟩) | (go_at_call 56; refine (copy_any _ _ _ _ hos).mono ?_; rintro e w5 ⟨v5, rfl, hown5, hb5⟩))
                go_ret3
                refine ⟨v5, ?_, own_base hown5 hsz, hbw.trans (hb5.mono hsz)⟩
                show _ = Ending.returned (.tuple #[v5, .bool (Pl.lastDir ps), .int .i64 0])
                rw [HD'.out]
                rfl
end Go.Proofs.YtcloljkaojnipaaGreatDoor
