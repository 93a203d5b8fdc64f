/- The ends that (*run).ends yields, plain: just where a match may end; the last one is the leftmost and longest. -/
import Derived.Test.YtdiokclbdaojpaaDoorNfEn
namespace Go.Proofs.YtdiokclbdaojpaaDoor
namespace Nt
/-- What is come to without a byte, at a place. -/
inductive Cl (L : List Ins) (n a : Nat) : Nat → Nat → Prop
  | refl (i : Nat) : Cl L n a i i
  | step {i j k : Nat} : (L.getD i iEnd).k ≠ 1 → (L.getD i iEnd).k ≠ 12 → j ∈ nxt (L.getD i iEnd) i a n → Cl L n a j k → Cl L n a i k
/-- A way that stands ahead of an instruction at a place may end at another one. -/
inductive Ac (L : List Ins) (s : ByteArray) : Nat → Nat → Nat → Prop
  | fin {i a j : Nat} : Cl L s.size a i j → (L.getD j iEnd).k = 12 → Ac L s i a a
  | byte {i a j e : Nat} : Cl L s.size a i j → (L.getD j iEnd).k = 1 → hasAt s a (L.getD j iEnd) = true → Ac L s (j + 1) (a + 1) e → Ac L s i a e
theorem Ac.le {L : List Ins} {s : ByteArray} {i a e : Nat} (h : Ac L s i a e) : a ≤ e := by
  induction h with
  | fin _ _ => exact Nat.le_refl _
  | byte _ _ _ _ ih => omega
theorem hasAt_lt {s : ByteArray} {a : Nat} {x : Ins} (h : hasAt s a x = true) : a < s.size := by
  unfold hasAt at h
  split at h
  · assumption
  · cases h
theorem Ac.lt {L : List Ins} {s : ByteArray} {i a e : Nat} (h : Ac L s i a e) : a ≤ s.size → e ≤ s.size := by
  induction h with
  | fin _ _ => exact id
  | byte _ _ hh _ ih => exact fun _ => ih (hasAt_lt hh)
/-- An instruction was come to. -/
def Mk (m : List Nat) (t j : Nat) : Prop := m.getD j 0 = t
theorem getD_set (m : List Nat) (i j t : Nat) (hi : i < m.length) : (m.set i t).getD j 0 = if j = i then t else m.getD j 0 := by
  rw [List.getD_eq_getElem?_getD, List.getElem?_set, List.getD_eq_getElem?_getD]
  by_cases h : i = j
  · subst h; simp [hi]
  · rw [if_neg h, if_neg (fun e => h e.symm)]
theorem mk_set (m : List Nat) (i j t : Nat) (hi : i < m.length) : Mk (m.set i t) t j ↔ j = i ∨ Mk m t j := by
  unfold Mk
  rw [getD_set m i j t hi]
  split
  · rename_i h; simp [h]
  · rename_i h; simp [h]
/-- What was come to leads to what was come to, or is left. -/
def Cld (L : List Ins) (n a : Nat) (m l : List Nat) : Prop := ∀ j, Mk m (a + 1) j → (L.getD j iEnd).k ≠ 1 → (L.getD j iEnd).k ≠ 12 → ∀ j' ∈ nxt (L.getD j iEnd) j a n, Mk m (a + 1) j' ∨ j' ∈ l
theorem Cl.mk {L : List Ins} {n a i j : Nat} {m : List Nat} (h : Cl L n a i j) (hc : Cld L n a m []) : Mk m (a + 1) i → Mk m (a + 1) j := by
  induction h with
  | refl i => exact id
  | step h1 h2 h3 _ ih => exact fun hm => ih ((hc _ hm h1 h2 _ h3).resolve_right (by simp))
theorem Cl.lt {L : List Ins} (hL : Leads L) {n a i j : Nat} (h : Cl L n a i j) : i < L.length → j < L.length := by
  induction h with
  | refl i => exact id
  | step h1 h2 h3 _ ih => exact fun hm => ih (hL _ hm a n h2 _ h3)
/-- What stF tells: the instructions come to, and the sets and matches among them. -/
structure StS (L : List Ins) (n a : Nat) (l m : List Nat) (r : List Nat × List Nat) : Prop where
  len : r.2.length = L.length
  keep : ∀ j, r.2.getD j 0 = m.getD j 0 ∨ r.2.getD j 0 = a + 1
  mono : ∀ j, Mk m (a + 1) j → Mk r.2 (a + 1) j
  all : ∀ i ∈ l, Mk r.2 (a + 1) i
  from' : ∀ j, Mk r.2 (a + 1) j → Mk m (a + 1) j ∨ ∃ i ∈ l, Cl L n a i j
  mem : ∀ j, j ∈ r.1 ↔ (Mk r.2 (a + 1) j ∧ ¬ Mk m (a + 1) j ∧ ((L.getD j iEnd).k = 1 ∨ (L.getD j iEnd).k = 12))
  nd : r.1.Nodup
  cld : Cld L n a m l → Cld L n a r.2 []
theorem stF_spec (L : List Ins) (hL : Leads L) (n a : Nat) : ∀ k l m, m.length = L.length → (∀ i ∈ l, i < L.length) → mu l m (a + 1) ≤ k → StS L n a l m (stF L n a k l m) := by
  intro k
  induction k with
  | zero =>
    intro l m hm hl h
    have : l = [] := by cases l with
      | nil => rfl
      | cons x l => simp [mu] at h
    subst this
    rw [stF_nil]
    exact ⟨hm, fun _ => .inl rfl, fun _ h => h, fun _ h => (by cases h), fun _ h => .inl h, fun j => ⟨fun h => (by cases h), fun h => (h.2.1 h.1).elim⟩, List.nodup_nil, fun h => h⟩
  | succ k ih =>
    intro l m hm hl h1
    rcases List.eq_nil_or_concat l with rfl | ⟨l, i, rfl⟩
    · rw [stF_nil]
      exact ⟨hm, fun _ => .inl rfl, fun _ h => h, fun _ h => (by cases h), fun _ h => .inl h, fun j => ⟨fun h => (by cases h), fun h => (h.2.1 h.1).elim⟩, List.nodup_nil, fun h => h⟩
    rw [List.concat_eq_append] at *
    have hi : i < L.length := hl i (by simp)
    have hl2 : ∀ j ∈ l, j < L.length := fun j hj => hl j (by simp [hj])
    have hp := mu_pop l m i (a + 1)
    rw [stF_snoc]
    have him : i < m.length := by omega
    have hg : m.getD i 0 = m[i] := by rw [List.getD_eq_getElem?_getD, List.getElem?_eq_getElem him]; rfl
    split
    · rename_i he
      have he : Mk m (a + 1) i := by simpa [Mk] using he
      obtain ⟨q1, q2, q3, q4, q5, q6, q7, q8⟩ := ih l m hm hl2 (by omega)
      refine ⟨q1, q2, q3, ?_, ?_, q6, q7, ?_⟩
      · intro j hj
        rcases List.mem_append.1 hj with hj | hj
        · exact q4 j hj
        · obtain rfl : j = i := by simpa using hj
          exact q3 _ he
      · intro j hj
        rcases q5 j hj with h | ⟨i', h, h'⟩
        · exact .inl h
        · exact .inr ⟨i', by simp [h], h'⟩
      · intro hc
        refine q8 (fun j e1 e2 e3 j' hj' => ?_)
        rcases hc j e1 e2 e3 j' hj' with h | h
        · exact .inl h
        rcases List.mem_append.1 h with hj | hj
        · exact .inr hj
        · obtain rfl : j' = i := by simpa using hj
          exact .inl he
    · rename_i hne
      have hne1 : ¬ Mk m (a + 1) i := by simpa [Mk] using hne
      have hne2 : m[i] ≠ a + 1 := by rw [← hg]; exact hne1
      have hs := mu_set (l := l) him hne2
      have ms := fun j => mk_set m i j (a + 1) him
      have kp : ∀ (r : List Nat) j, (r.getD j 0 = (m.set i (a + 1)).getD j 0 ∨ r.getD j 0 = a + 1) → (r.getD j 0 = m.getD j 0 ∨ r.getD j 0 = a + 1) := by
        intro r j h
        rcases h with h | h
        · rw [getD_set m i j (a + 1) him] at h
          split at h
          · exact .inr h
          · exact .inl h
        · exact .inr h
      split
      · rename_i hk
        have hk : (L.getD i iEnd).k = 1 ∨ (L.getD i iEnd).k = 12 := by simpa using hk
        obtain ⟨q1, q2, q3, q4, q5, q6, q7, q8⟩ := ih l (m.set i (a + 1)) (by simpa using hm) hl2 (by omega)
        refine ⟨q1, fun j => kp _ j (q2 j), fun j hj => q3 j ((ms j).2 (.inr hj)), ?_, ?_, ?_, ?_, ?_⟩
        · intro j hj
          rcases List.mem_append.1 hj with hj | hj
          · exact q4 j hj
          · obtain rfl : j = i := by simpa using hj
            exact q3 _ ((ms _).2 (.inl rfl))
        · intro j hj
          rcases q5 j hj with h | ⟨i', h, h'⟩
          · rcases (ms j).1 h with rfl | h
            · exact .inr ⟨j, by simp, .refl _⟩
            · exact .inl h
          · exact .inr ⟨i', by simp [h], h'⟩
        · intro j
          simp only [List.mem_cons]
          rw [q6 j]
          constructor
          · rintro (rfl | ⟨h1, h2, h3⟩)
            · exact ⟨q3 _ ((ms _).2 (.inl rfl)), hne1, hk⟩
            · exact ⟨h1, fun e => h2 ((ms j).2 (.inr e)), h3⟩
          · rintro ⟨h1, h2, h3⟩
            by_cases e : j = i
            · exact .inl e
            · exact .inr ⟨h1, fun h => ((ms j).1 h).elim e h2, h3⟩
        · refine List.nodup_cons.2 ⟨fun h => ?_, q7⟩
          exact ((q6 i).1 h).2.1 ((ms i).2 (.inl rfl))
        · intro hc
          refine q8 (fun j e1 e2 e3 j' hj' => ?_)
          rcases (ms j).1 e1 with rfl | e1
          · exact (hk.elim e2 e3).elim
          rcases hc j e1 e2 e3 j' hj' with h | h
          · exact .inl ((ms j').2 (.inr h))
          rcases List.mem_append.1 h with hj | hj
          · exact .inr hj
          · obtain rfl : j' = i := by simpa using hj
            exact .inl ((ms _).2 (.inl rfl))
      · rename_i hk
        have hk1 : (L.getD i iEnd).k ≠ 1 ∧ (L.getD i iEnd).k ≠ 12 := by simpa using hk
        have hgo := mu_go (l := l) (L.getD i iEnd) a n him hne2
        have hl3 : ∀ j ∈ l ++ nxt (L.getD i iEnd) i a n, j < L.length := by
          intro j hj
          rcases List.mem_append.1 hj with hj | hj
          · exact hl2 j hj
          · exact hL i hi a n hk1.2 j hj
        obtain ⟨q1, q2, q3, q4, q5, q6, q7, q8⟩ := ih (l ++ nxt (L.getD i iEnd) i a n) (m.set i (a + 1)) (by simpa using hm) hl3 (by omega)
        refine ⟨q1, fun j => kp _ j (q2 j), fun j hj => q3 j ((ms j).2 (.inr hj)), ?_, ?_, ?_, q7, ?_⟩
        · intro j hj
          rcases List.mem_append.1 hj with hj | hj
          · exact q4 j (List.mem_append_left _ hj)
          · obtain rfl : j = i := by simpa using hj
            exact q3 _ ((ms _).2 (.inl rfl))
        · intro j hj
          rcases q5 j hj with h | ⟨i', h, h'⟩
          · rcases (ms j).1 h with rfl | h
            · exact .inr ⟨j, by simp, .refl _⟩
            · exact .inl h
          · rcases List.mem_append.1 h with h | h
            · exact .inr ⟨i', by simp [h], h'⟩
            · exact .inr ⟨i, by simp, .step hk1.1 hk1.2 h h'⟩
        · intro j
          rw [q6 j]
          constructor
          · rintro ⟨h1, h2, h3⟩
            exact ⟨h1, fun e => h2 ((ms j).2 (.inr e)), h3⟩
          · rintro ⟨h1, h2, h3⟩
            refine ⟨h1, fun h => ?_, h3⟩
            rcases (ms j).1 h with rfl | h
            · exact h3.elim hk1.1 hk1.2
            · exact h2 h
        · intro hc
          refine q8 (fun j e1 e2 e3 j' hj' => ?_)
          rcases (ms j).1 e1 with rfl | e1
          · exact .inr (List.mem_append_right _ hj')
          rcases hc j e1 e2 e3 j' hj' with h | h
          · exact .inl ((ms j').2 (.inr h))
          rcases List.mem_append.1 h with hj | hj
          · exact .inr (List.mem_append_left _ hj)
          · obtain rfl : j' = i := by simpa using hj
            exact .inl ((ms _).2 (.inl rfl))
/-- What wayF tells. -/
theorem wayF_spec (L : List Ins) (s : ByteArray) (a b : Nat) : ∀ (js : List Nat) (x : List (Nat × Nat) × Nat),
    (wayF L s a b js x).1.1 = x.1 ++ (js.filter (fun j => (L.getD j iEnd).k == 1 && hasAt s a (L.getD j iEnd))).map (fun j => (j + 1, b)) ∧ (wayF L s a b js x).1.2 = (if js.any (fun j => (L.getD j iEnd).k != 1) then b else x.2) ∧ (wayF L s a b js x).2 = (js.filter (fun j => (L.getD j iEnd).k != 1)).map (fun _ => (b, a)) := by
  intro js
  induction js with
  | nil => intro x; simp [wayF]
  | cons j js ih =>
    intro x
    obtain ⟨h1, h2, h3⟩ := ih (oneF L s a b j x).1
    simp only [wayF]
    rw [h1, h2, h3]
    unfold oneF
    rw [List.filter_cons, List.filter_cons, List.any_cons]
    generalize L.getD j iEnd = y
    by_cases hk : y.k = 1
    · by_cases hh : hasAt s a y = true
      · simp [hk, hh]
      · simp [hk, hh]
    · simp [hk]
/-- No instruction is a match but one. -/
def OneM (L : List Ins) : Prop := ∀ j, j < L.length → (L.getD j iEnd).k = 12 → j = L.length - 1
/-- What plcF tells of the ways at a place. -/
structure PlS (L : List Ins) (s : ByteArray) (a : Nat) (ws : List (Nat × Nat)) (x : (List (Nat × Nat) × Nat) × List Nat) (z : ((List (Nat × Nat) × Nat) × List Nat) × List (Nat × Nat)) (ext : List (Nat × Nat)) : Prop where
  len : z.1.2.length = L.length
  keep : ∀ j, z.1.2.getD j 0 = x.2.getD j 0 ∨ z.1.2.getD j 0 = a + 1
  thn : z.1.1.1 = x.1.1 ++ ext
  rise : ext.Pairwise (fun p q => p.2 ≤ q.2)
  snd : ∀ q ∈ ext, ∃ p ∈ ws, q.2 = p.2 ∧ ∃ j, q.1 = j + 1 ∧ Cl L s.size a p.1 j ∧ (L.getD j iEnd).k = 1 ∧ hasAt s a (L.getD j iEnd) = true
  ysd : ∀ q ∈ z.2, q.2 = a ∧ ∃ p ∈ ws, q.1 = p.2 ∧ ∃ j, Cl L s.size a p.1 j ∧ (L.getD j iEnd).k = 12
  one : Mk x.2 (a + 1) (L.length - 1) → z.2 = []
  ys : (z.2 = [] ∧ z.1.1.2 = x.1.2) ∨ (z.2 = [(z.1.1.2, a)] ∧ z.1.1.2 ≤ x.1.2)
  comp : ∀ p ∈ ws, p.2 ≤ z.1.1.2 → ∀ j, Cl L s.size a p.1 j → Mk x.2 (a + 1) j ∨ ∃ b1, b1 ≤ p.2 ∧ ((L.getD j iEnd).k = 1 → hasAt s a (L.getD j iEnd) = true → (j + 1, b1) ∈ z.1.1.1) ∧ ((L.getD j iEnd).k = 12 → (b1, a) ∈ z.2)
theorem plcF_spec (L : List Ins) (hL : Leads L) (hO : OneM L) (s : ByteArray) (a : Nat) : ∀ (ws : List (Nat × Nat)) (x : (List (Nat × Nat) × Nat) × List Nat), (∀ p ∈ ws, p.1 < L.length) → ws.Pairwise (fun p q => p.2 ≤ q.2) → x.2.length = L.length → Cld L s.size a x.2 [] → ∃ ext, PlS L s a ws x (plcF L s a ws x) ext := by
  intro ws
  induction ws with
  | nil =>
    intro x _ _ hm _
    exact ⟨[], hm, fun _ => .inl rfl, by simp [plcF], List.Pairwise.nil, fun _ h => (by cases h), fun _ h => (by cases h), fun _ => rfl, .inl ⟨rfl, rfl⟩, fun _ h => (by cases h)⟩
  | cons p ws ih =>
    obtain ⟨i, b⟩ := p
    intro x hw hp hm hc
    have hi : i < L.length := hw (i, b) (List.mem_cons_self ..)
    obtain ⟨hp1, hp2⟩ := List.pairwise_cons.1 hp
    by_cases hb : x.1.2 < b
    · have e : plcF L s a ((i, b) :: ws) x = (x, []) := by rw [plcF, if_pos hb]
      rw [e]
      refine ⟨[], hm, fun _ => .inl rfl, by simp, List.Pairwise.nil, fun _ h => (by cases h), fun _ h => (by cases h), fun _ => rfl, .inl ⟨rfl, rfl⟩, fun p hp hle => ?_⟩
      have : b ≤ p.2 := by
        rcases List.mem_cons.1 hp with rfl | hp
        · exact Nat.le_refl _
        · exact hp1 p hp
      simp only at hle
      omega
    · have hl : ∀ k ∈ [i], k < L.length := fun k hk => by obtain rfl : k = i := by simpa using hk
                                                          exact hi
      obtain ⟨r, hr⟩ : ∃ r, r = stF L s.size a (mu [i] x.2 (a + 1)) [i] x.2 := ⟨_, rfl⟩
      obtain ⟨y, hy⟩ : ∃ y, y = wayF L s a b r.1 x.1 := ⟨_, rfl⟩
      obtain ⟨z, hz⟩ : ∃ z, z = plcF L s a ws (y.1, r.2) := ⟨_, rfl⟩
      have e : plcF L s a ((i, b) :: ws) x = (z.1, y.2 ++ z.2) := by rw [plcF, if_neg hb, hz, hy, hr]
      have S := stF_spec L hL s.size a _ [i] x.2 hm hl (Nat.le_refl _)
      rw [← hr] at S
      have hc' : Cld L s.size a r.2 [] := S.cld (fun j e1 e2 e3 j' hj' => .inl ((hc j e1 e2 e3 j' hj').resolve_right (by simp)))
      obtain ⟨w1, w2, w3⟩ := wayF_spec L s a b r.1 x.1
      rw [← hy] at w1 w2 w3
      obtain ⟨ext, I⟩ := ih (y.1, r.2) (fun p hp => hw p (List.mem_cons_of_mem _ hp)) hp2 S.len hc'
      rw [← hz] at I
      rw [e]
      have hlt : ∀ j, j ∈ r.1 → j < L.length := fun j hj => by
        rcases S.from' j ((S.mem j).1 hj).1 with h | ⟨i', h, h'⟩
        · exact absurd h ((S.mem j).1 hj).2.1
        · exact h'.lt hL (hl _ h)
      have hcl : ∀ j, j ∈ r.1 → Cl L s.size a i j := fun j hj => by
        rcases S.from' j ((S.mem j).1 hj).1 with h | ⟨i', h, h'⟩
        · exact absurd h ((S.mem j).1 hj).2.1
        · obtain rfl : i' = i := by simpa using h
          exact h'
      have h12 : ∀ j, j ∈ r.1 → (L.getD j iEnd).k ≠ 1 → (L.getD j iEnd).k = 12 := fun j hj h => (((S.mem j).1 hj).2.2).resolve_left h
      have hys : (y.2 = [] ∧ y.1.2 = x.1.2) ∨ (y.2 = [(b, a)] ∧ y.1.2 = b ∧ Mk r.2 (a + 1) (L.length - 1) ∧ ¬ Mk x.2 (a + 1) (L.length - 1)) := by
        by_cases hmem : ∃ j ∈ r.1, (L.getD j iEnd).k ≠ 1
        · obtain ⟨j, hj, hk⟩ := hmem
          have hj1 : j = L.length - 1 := hO j (hlt j hj) (h12 j hj hk)
          right
          have hf : r.1.filter (fun j => (L.getD j iEnd).k != 1) = [L.length - 1] := by
            have hsub : ∀ q ∈ r.1.filter (fun j => (L.getD j iEnd).k != 1), q = L.length - 1 := fun q hq => by
              obtain ⟨h1, h2⟩ := List.mem_filter.1 hq
              exact hO q (hlt q h1) (h12 q h1 (by simpa using h2))
            have hnd : (r.1.filter (fun j => (L.getD j iEnd).k != 1)).Nodup := S.nd.sublist List.filter_sublist
            have hin : L.length - 1 ∈ r.1.filter (fun j => (L.getD j iEnd).k != 1) := List.mem_filter.2 ⟨hj1 ▸ hj, by rw [← hj1]; simpa using hk⟩
            match hq : r.1.filter (fun j => (L.getD j iEnd).k != 1) with
            | [] => rw [hq] at hin; cases hin
            | [q] => rw [hsub q (by rw [hq]; simp)]
            | q :: q' :: qs =>
              rw [hq] at hnd
              have e1 := hsub q (by rw [hq]; simp)
              have e2 := hsub q' (by rw [hq]; simp)
              rw [e1, e2] at hnd
              simp at hnd
          refine ⟨by rw [w3, hf]; rfl, ?_, hj1 ▸ ((S.mem j).1 hj).1, hj1 ▸ ((S.mem j).1 hj).2.1⟩
          rw [w2, if_pos]
          rw [List.any_eq_true]
          exact ⟨j, hj, by simpa using hk⟩
        · left
          have hno : ∀ j ∈ r.1, (L.getD j iEnd).k = 1 := fun j hj => Classical.byContradiction fun h => hmem ⟨j, hj, h⟩
          refine ⟨?_, ?_⟩
          · rw [w3, List.filter_eq_nil_iff.2 (fun j hj => by rw [hno j hj]; simp)]; rfl
          · rw [w2, if_neg]
            rw [List.any_eq_true]
            rintro ⟨j, hj, h⟩
            rw [hno j hj] at h
            simp at h
      have hnew : ∀ j, Mk r.2 (a + 1) j → Mk x.2 (a + 1) j ∨ (((L.getD j iEnd).k = 1 → hasAt s a (L.getD j iEnd) = true → (j + 1, b) ∈ y.1.1) ∧ ((L.getD j iEnd).k = 12 → (b, a) ∈ y.2)) := by
        intro j hj
        by_cases h : Mk x.2 (a + 1) j
        · exact .inl h
        · refine .inr ⟨fun hk hh => ?_, fun hk => ?_⟩
          · rw [w1]
            exact List.mem_append_right _ (List.mem_map.2 ⟨j, List.mem_filter.2 ⟨(S.mem j).2 ⟨hj, h, .inl hk⟩, by rw [hk, hh]; rfl⟩, rfl⟩)
          · rw [w3]
            exact List.mem_map.2 ⟨j, List.mem_filter.2 ⟨(S.mem j).2 ⟨hj, h, .inr hk⟩, by rw [hk]; rfl⟩, rfl⟩
      have hsub : ∀ q ∈ y.1.1, q ∈ z.1.1.1 := fun q hq => by rw [I.thn]; exact List.mem_append_left _ hq
      have hlast : z.1.1.2 ≤ y.1.2 := by
        rcases I.ys with ⟨_, h⟩ | ⟨_, h⟩
        · exact Nat.le_of_eq h
        · exact h
      refine ⟨(r.1.filter (fun j => (L.getD j iEnd).k == 1 && hasAt s a (L.getD j iEnd))).map (fun j => (j + 1, b)) ++ ext, I.len, ?_, ?_, ?_, ?_, ?_, ?_, ?_, ?_⟩
      · intro j
        rcases I.keep j with h | h
        · rcases S.keep j with h' | h'
          · exact .inl (h.trans h')
          · exact .inr (h.trans h')
        · exact .inr h
      · rw [← List.append_assoc, ← w1]; exact I.thn
      · refine List.pairwise_append.2 ⟨?_, I.rise, ?_⟩
        · refine List.pairwise_map.2 ?_
          exact List.Pairwise.imp (fun _ => Nat.le_refl _) (List.pairwise_of_forall (R := fun _ _ => True) (fun _ _ => trivial))
        · intro p hp q hq
          obtain ⟨j, _, rfl⟩ := List.mem_map.1 hp
          obtain ⟨p', hp', e, _⟩ := I.snd q hq
          rw [e]
          exact hp1 p' hp'
      · intro q hq
        rcases List.mem_append.1 hq with hq | hq
        · obtain ⟨j, hj, rfl⟩ := List.mem_map.1 hq
          obtain ⟨h1, h2⟩ := List.mem_filter.1 hj
          rw [Bool.and_eq_true] at h2
          exact ⟨(i, b), List.mem_cons_self .., rfl, j, rfl, hcl j h1, by simpa using h2.1, h2.2⟩
        · obtain ⟨p, hp, h⟩ := I.snd q hq
          exact ⟨p, List.mem_cons_of_mem _ hp, h⟩
      · intro q hq
        rcases List.mem_append.1 hq with hq | hq
        · rw [w3] at hq
          obtain ⟨j, hj, rfl⟩ := List.mem_map.1 hq
          obtain ⟨h1, h2⟩ := List.mem_filter.1 hj
          exact ⟨rfl, (i, b), List.mem_cons_self .., rfl, j, hcl j h1, h12 j h1 (by simpa using h2)⟩
        · obtain ⟨e, p, hp, h⟩ := I.ysd q hq
          exact ⟨e, p, List.mem_cons_of_mem _ hp, h⟩
      · intro h
        rcases hys with ⟨h1, _⟩ | ⟨_, _, _, h2⟩
        · show y.2 ++ z.2 = []
          rw [h1, I.one (S.mono _ h)]; rfl
        · exact absurd h h2
      · show (y.2 ++ z.2 = [] ∧ z.1.1.2 = x.1.2) ∨ (y.2 ++ z.2 = [(z.1.1.2, a)] ∧ z.1.1.2 ≤ x.1.2)
        rcases hys with ⟨h1, h2⟩ | ⟨h1, h2, h3, _⟩
        · rw [h1, List.nil_append]
          rcases I.ys with ⟨h3, h4⟩ | ⟨h3, h4⟩
          · exact .inl ⟨h3, h4.trans h2⟩
          · exact .inr ⟨h3, h2 ▸ h4⟩
        · have h4 := I.one h3
          rcases I.ys with ⟨_, h5⟩ | ⟨h5, _⟩
          · have h5 : z.1.1.2 = b := h5.trans h2
            exact .inr ⟨by rw [h1, h4, h5]; rfl, by omega⟩
          · rw [h4] at h5; cases h5
      · intro p hp hle j hj
        have hle : p.2 ≤ z.1.1.2 := hle
        have fin : Mk r.2 (a + 1) j → b ≤ p.2 → Mk x.2 (a + 1) j ∨ ∃ b1, b1 ≤ p.2 ∧ ((L.getD j iEnd).k = 1 → hasAt s a (L.getD j iEnd) = true → (j + 1, b1) ∈ z.1.1.1) ∧ ((L.getD j iEnd).k = 12 → (b1, a) ∈ y.2 ++ z.2) := by
          intro hm hb'
          rcases hnew j hm with h | ⟨h1, h2⟩
          · exact .inl h
          · exact .inr ⟨b, hb', fun e1 e2 => hsub _ (h1 e1 e2), fun e => List.mem_append_left _ (h2 e)⟩
        rcases List.mem_cons.1 hp with rfl | hp
        · exact fin (hj.mk hc' (S.all _ (by simp))) (Nat.le_refl _)
        · rcases I.comp p hp hle j hj with h | ⟨b1, h1, h2, h3⟩
          · exact fin h (hp1 p hp)
          · exact .inr ⟨b1, h1, h2, fun e => List.mem_append_right _ (h3 e)⟩
/-- The ways at a place, ahead of it. -/
structure Nw (L : List Ins) (s : ByteArray) (fr a : Nat) (now : List (Nat × Nat)) (m : List Nat) : Prop where
  rise : now.Pairwise (fun p q => p.2 ≤ q.2)
  ok : ∀ p ∈ now, p.1 < L.length ∧ fr ≤ p.2 ∧ p.2 ≤ a ∧ ∀ e, Ac L s p.1 a e → Ac L s 0 p.2 e
  len : m.length = L.length
  mrk : ∀ j, m.getD j 0 ≤ a
/-- The ways with the one that begins at this place. -/
def nowF (a last : Nat) (now : List (Nat × Nat)) : List (Nat × Nat) := if a ≤ last then now ++ [(0, a)] else now
theorem mem_nowF {a last : Nat} {now : List (Nat × Nat)} {p : Nat × Nat} (h : p ∈ now) : p ∈ nowF a last now := by
  unfold nowF
  split
  · exact List.mem_append_left _ h
  · exact h
theorem nowF_zero {a last : Nat} {now : List (Nat × Nat)} (h : a ≤ last) : (0, a) ∈ nowF a last now := by
  unfold nowF
  rw [if_pos h]
  exact List.mem_append_right _ (by simp)
theorem Nw.now {L : List Ins} {s : ByteArray} {fr a : Nat} {now : List (Nat × Nat)} {m : List Nat} (h : Nw L s fr a now m) (h0 : 1 ≤ L.length) (hf : fr ≤ a) (last : Nat) : Nw L s fr a (nowF a last now) m := by
  unfold nowF
  split
  · refine ⟨List.pairwise_append.2 ⟨h.rise, by simp, fun p hp q hq => ?_⟩, fun p hp => ?_, h.len, h.mrk⟩
    · obtain rfl : q = (0, a) := by simpa using hq
      exact (h.ok p hp).2.2.1
    · rcases List.mem_append.1 hp with hp | hp
      · exact h.ok p hp
      · obtain rfl : p = (0, a) := by simpa using hp
        exact ⟨h0, hf, Nat.le_refl _, fun _ h => h⟩
  · exact h
theorem Nw.step {L : List Ins} {s : ByteArray} (hL : Leads L) (hO : OneM L) {fr a : Nat} {now : List (Nat × Nat)} {m : List Nat} (h : Nw L s fr a now m) (last : Nat) : ∃ ext, PlS L s a now (([], last), m) (plcF L s a now (([], last), m)) ext ∧ Nw L s fr (a + 1) (plcF L s a now (([], last), m)).1.1.1 (plcF L s a now (([], last), m)).1.2 := by
  obtain ⟨ext, P⟩ := plcF_spec L hL hO s a now (([], last), m) (fun p hp => (h.ok p hp).1) h.rise h.len (fun j hj => by
    have h1 : m.getD j 0 = a + 1 := hj
    have := h.mrk j
    omega)
  refine ⟨ext, P, ?_⟩
  have e : (plcF L s a now (([], last), m)).1.1.1 = ext := by rw [P.thn]; rfl
  rw [e]
  refine ⟨P.rise, fun q hq => ?_, P.len, fun j => ?_⟩
  · obtain ⟨p, hp, e2, j, e1, hc, hk, hh⟩ := P.snd q hq
    obtain ⟨o1, o2, o3, o4⟩ := h.ok p hp
    have hj := hc.lt hL o1
    refine ⟨?_, by omega, by omega, fun e he => ?_⟩
    · rw [e1]
      refine hL j hj a s.size (by omega) (j + 1) ?_
      unfold nxt
      rw [hk]
      simp
    · rw [e2]
      exact o4 e (.byte hc hk hh (e1 ▸ he))
  · rcases P.keep j with h1 | h1
    · rw [h1]
      have h2 : m.getD j 0 ≤ a := h.mrk j
      show m.getD j 0 ≤ a + 1
      omega
    · exact Nat.le_of_eq h1
theorem endF_at (L : List Ins) (s : ByteArray) (til k a last : Nat) (now : List (Nat × Nat)) (m : List Nat) (h : a ≤ til ∧ (a ≤ last ∨ now ≠ [])) : endF L s til (k + 1) a last now m = (plcF L s a (nowF a last now) (([], last), m)).2 ++ endF L s til k (a + 1) (plcF L s a (nowF a last now) (([], last), m)).1.1.2 (plcF L s a (nowF a last now) (([], last), m)).1.1.1 (plcF L s a (nowF a last now) (([], last), m)).1.2 := by
  rw [endF, if_pos h]
  rfl
/-- What is yielded ends there; by rising ends, and none begins later than the one ahead of it. -/
theorem endF_sound (L : List Ins) (s : ByteArray) (hL : Leads L) (hO : OneM L) (h0 : 1 ≤ L.length) (fr til : Nat) : ∀ (k a last : Nat) (now : List (Nat × Nat)) (m : List Nat), Nw L s fr a now m → fr ≤ a →
    (∀ q ∈ endF L s til k a last now m, q.1 ≤ last ∧ fr ≤ q.1 ∧ a ≤ q.2 ∧ q.2 ≤ til ∧ q.1 ≤ q.2 ∧ Ac L s 0 q.1 q.2) ∧ (endF L s til k a last now m).Pairwise (fun p q => p.2 < q.2 ∧ q.1 ≤ p.1) := by
  intro k
  induction k with
  | zero => intro a last now m _ _; exact ⟨fun q h => (by cases h), List.Pairwise.nil⟩
  | succ k ih =>
    intro a last now m hN hf
    by_cases hg : a ≤ til ∧ (a ≤ last ∨ now ≠ [])
    · rw [endF_at _ _ _ _ _ _ _ _ hg]
      have hN' := hN.now h0 hf last
      obtain ⟨ext, P, hS⟩ := hN'.step hL hO last
      obtain ⟨i1, i2⟩ := ih (a + 1) (plcF L s a (nowF a last now) (([], last), m)).1.1.2 _ _ hS (by omega)
      have hl : (plcF L s a (nowF a last now) (([], last), m)).1.1.2 ≤ last := by
        rcases P.ys with ⟨_, h⟩ | ⟨_, h⟩
        · exact Nat.le_of_eq h
        · exact h
      have hy : ∀ q ∈ (plcF L s a (nowF a last now) (([], last), m)).2, q = ((plcF L s a (nowF a last now) (([], last), m)).1.1.2, a) := by
        intro q hq
        rcases P.ys with ⟨h, _⟩ | ⟨h, _⟩
        · rw [h] at hq; cases hq
        · rw [h] at hq; simpa using hq
      refine ⟨fun q hq => ?_, List.pairwise_append.2 ⟨?_, i2, fun p hp q hq => ?_⟩⟩
      · rcases List.mem_append.1 hq with hq | hq
        · obtain ⟨e, p, hp, e2, j, hc, hk⟩ := P.ysd q hq
          obtain ⟨o1, o2, o3, o4⟩ := hN'.ok p hp
          have hq1 := hy q hq
          refine ⟨?_, by omega, by omega, by omega, by omega, ?_⟩
          · rw [hq1]; exact hl
          · rw [e2, e]; exact o4 a (.fin hc hk)
        · obtain ⟨g1, g2, g3, g4, g5, g6⟩ := i1 q hq
          exact ⟨by omega, g2, by omega, g4, g5, g6⟩
      · rcases P.ys with ⟨h, _⟩ | ⟨h, _⟩
        · rw [h]; exact List.Pairwise.nil
        · rw [h]; simp
      · have e := hy p hp
        obtain ⟨g1, g2, g3, _⟩ := i1 q hq
        rw [e]
        exact ⟨by show a < q.2; omega, g1⟩
    · have e : endF L s til (k + 1) a last now m = [] := by rw [endF, if_neg hg]
      rw [e]
      exact ⟨fun q h => (by cases h), List.Pairwise.nil⟩
/-- A way that stands at a place ends where it may, or one that began before it has ended. -/
theorem endF_all (L : List Ins) (s : ByteArray) (hL : Leads L) (hO : OneM L) (h0 : 1 ≤ L.length) (fr til : Nat) : ∀ (k a last : Nat) (now : List (Nat × Nat)) (m : List Nat), Nw L s fr a now m → fr ≤ a → til + 1 ≤ k + a → ∀ i b, (i, b) ∈ nowF a last now → b ≤ last → ∀ e, Ac L s i a e → e ≤ til → ∃ q ∈ endF L s til k a last now m, q.1 ≤ b ∧ (q.2 = e ∨ q.1 < b) := by
  intro k
  induction k with
  | zero =>
    intro a last now m _ _ hk i b _ _ e hA he
    have := hA.le
    omega
  | succ k ih =>
    intro a last now m hN hf hk i b hp hb e hA he
    have hle := hA.le
    have hg : a ≤ til ∧ (a ≤ last ∨ now ≠ []) := by
      refine ⟨by omega, ?_⟩
      by_cases h : a ≤ last
      · exact .inl h
      · right
        intro e2
        unfold nowF at hp
        rw [if_neg h, e2] at hp
        cases hp
    rw [endF_at _ _ _ _ _ _ _ _ hg]
    have hN' := hN.now h0 hf last
    obtain ⟨ext, P, hS⟩ := hN'.step hL hO last
    have hno : ∀ j, ¬ Mk m (a + 1) j := fun j hj => by
      have h1 : m.getD j 0 = a + 1 := hj
      have := hN.mrk j
      omega
    by_cases hb2 : b ≤ (plcF L s a (nowF a last now) (([], last), m)).1.1.2
    · cases hA with
      | fin hc hk12 =>
        obtain ⟨b1, h1, _, h3⟩ := (P.comp (i, b) hp hb2 _ hc).resolve_left (hno _)
        exact ⟨_, List.mem_append_left _ (h3 hk12), h1, .inl rfl⟩
      | byte hc hk1 hh hA' =>
        obtain ⟨b1, h1, h2, _⟩ := (P.comp (i, b) hp hb2 _ hc).resolve_left (hno _)
        have h1 : b1 ≤ b := h1
        obtain ⟨q, hq, g1, g2⟩ := ih (a + 1) (plcF L s a (nowF a last now) (([], last), m)).1.1.2 _ _ hS (by omega) (by omega) _ b1 (mem_nowF (h2 hk1 hh)) (by omega) e hA' he
        exact ⟨q, List.mem_append_right _ hq, by omega, g2.imp id (fun h => by omega)⟩
    · rcases P.ys with ⟨_, h⟩ | ⟨h, _⟩
      · have h : (plcF L s a (nowF a last now) (([], last), m)).1.1.2 = last := h
        omega
      · refine ⟨((plcF L s a (nowF a last now) (([], last), m)).1.1.2, a), List.mem_append_left _ (by rw [h]; simp), ?_, .inr ?_⟩
        · show (plcF L s a (nowF a last now) (([], last), m)).1.1.2 ≤ b
          omega
        · show (plcF L s a (nowF a last now) (([], last), m)).1.1.2 < b
          omega
theorem endF_all2 (L : List Ins) (s : ByteArray) (hL : Leads L) (hO : OneM L) (h0 : 1 ≤ L.length) (fr til : Nat) : ∀ (k a last : Nat) (now : List (Nat × Nat)) (m : List Nat), Nw L s fr a now m → fr ≤ a → til + 1 ≤ k + a → ∀ b, a ≤ b → b ≤ last → ∀ e, Ac L s 0 b e → e ≤ til → ∃ q ∈ endF L s til k a last now m, q.1 ≤ b ∧ (q.2 = e ∨ q.1 < b) := by
  intro k
  induction k with
  | zero =>
    intro a last now m _ _ hk b _ _ e hA he
    have := hA.le
    omega
  | succ k ih =>
    intro a last now m hN hf hk b ha hb e hA he
    have hle := hA.le
    by_cases hab : a = b
    · subst hab
      exact endF_all L s hL hO h0 fr til (k + 1) a last now m hN hf hk 0 a (nowF_zero hb) hb e hA he
    · rw [endF_at _ _ _ _ _ _ _ _ ⟨by omega, .inl (by omega)⟩]
      obtain ⟨ext, P, hS⟩ := (hN.now h0 hf last).step hL hO last
      by_cases hb2 : b ≤ (plcF L s a (nowF a last now) (([], last), m)).1.1.2
      · obtain ⟨q, hq, g⟩ := ih (a + 1) (plcF L s a (nowF a last now) (([], last), m)).1.1.2 _ _ hS (by omega) (by omega) b (by omega) hb2 e hA he
        exact ⟨q, List.mem_append_right _ hq, g⟩
      · rcases P.ys with ⟨_, h⟩ | ⟨h, _⟩
        · have h : (plcF L s a (nowF a last now) (([], last), m)).1.1.2 = last := h
          omega
        · refine ⟨((plcF L s a (nowF a last now) (([], last), m)).1.1.2, a), List.mem_append_left _ (by rw [h]; simp), ?_, .inr ?_⟩
          · show (plcF L s a (nowF a last now) (([], last), m)).1.1.2 ≤ b
            omega
          · show (plcF L s a (nowF a last now) (([], last), m)).1.1.2 < b
            omega
theorem Nw.none (L : List Ins) (s : ByteArray) (fr : Nat) : Nw L s fr fr [] (List.replicate L.length 0) := by
  refine ⟨List.Pairwise.nil, fun p h => (by cases h), by simp, fun j => ?_⟩
  rw [List.getD_eq_getElem?_getD, List.getElem?_replicate]
  split <;> simp
theorem endsP_sound {L : List Ins} {s : ByteArray} (hL : Leads L) (hO : OneM L) (h0 : 1 ≤ L.length) (fr last til : Nat) : (∀ q ∈ endsP L s fr last til, q.1 ≤ last ∧ fr ≤ q.1 ∧ q.2 ≤ til ∧ q.1 ≤ q.2 ∧ Ac L s 0 q.1 q.2) ∧ (endsP L s fr last til).Pairwise (fun p q => p.2 < q.2 ∧ q.1 ≤ p.1) := by
  obtain ⟨h1, h2⟩ := endF_sound L s hL hO h0 fr til (til + 1 - fr) fr last [] _ (Nw.none L s fr) (Nat.le_refl _)
  exact ⟨fun q hq => ⟨(h1 q hq).1, (h1 q hq).2.1, (h1 q hq).2.2.2⟩, h2⟩
theorem endsP_all {L : List Ins} {s : ByteArray} (hL : Leads L) (hO : OneM L) (h0 : 1 ≤ L.length) (fr last til : Nat) {b e : Nat} (hf : fr ≤ b) (hb : b ≤ last) (hA : Ac L s 0 b e) (he : e ≤ til) : ∃ q ∈ endsP L s fr last til, q.1 ≤ b ∧ (q.2 = e ∨ q.1 < b) :=
  endF_all2 L s hL hO h0 fr til (til + 1 - fr) fr last [] _ (Nw.none L s fr) (Nat.le_refl _) (by omega) b hf hb e hA he
/-- From one place: just the places where a match may end. -/
theorem endsP_one {L : List Ins} {s : ByteArray} (hL : Leads L) (hO : OneM L) (h0 : 1 ≤ L.length) (fr til : Nat) (q : Nat × Nat) : q ∈ endsP L s fr fr til ↔ q.1 = fr ∧ q.2 ≤ til ∧ Ac L s 0 fr q.2 := by
  constructor
  · intro hq
    obtain ⟨h1, h2, h3, _, h5⟩ := (endsP_sound hL hO h0 fr fr til).1 q hq
    have e : q.1 = fr := by omega
    exact ⟨e, h3, e ▸ h5⟩
  · rintro ⟨h1, h2, h3⟩
    obtain ⟨q', hq, g1, g2⟩ := endsP_all hL hO h0 fr fr til (Nat.le_refl _) (Nat.le_refl _) h3 h2
    have h4 := ((endsP_sound hL hO h0 fr fr til).1 q' hq).2.1
    have e2 : q'.2 = q.2 := g2.resolve_right (by omega)
    have e1 : q'.1 = q.1 := by omega
    have : q' = q := Prod.ext e1 e2
    exact this ▸ hq
theorem endsA_mem {L : List Ins} {s : ByteArray} (hL : Leads L) (hO : OneM L) (h0 : 1 ≤ L.length) (fr : Nat) (hf : fr ≤ s.size) (e : Nat) : e ∈ endsA L s fr ↔ Ac L s 0 fr e := by
  unfold endsA
  rw [List.mem_map]
  constructor
  · rintro ⟨q, hq, rfl⟩
    exact ((endsP_one hL hO h0 fr s.size q).1 hq).2.2
  · intro h
    exact ⟨(fr, e), (endsP_one hL hO h0 fr s.size _).2 ⟨rfl, h.lt hf, h⟩, rfl⟩
theorem endsA_rise {L : List Ins} {s : ByteArray} (hL : Leads L) (hO : OneM L) (h0 : 1 ≤ L.length) (fr : Nat) : (endsA L s fr).Pairwise (fun x y => x < y) :=
  List.pairwise_map.2 ((endsP_sound hL hO h0 fr fr s.size).2.imp (fun h => h.1))
theorem wholeP_iff {L : List Ins} {s : ByteArray} (hL : Leads L) (hO : OneM L) (h0 : 1 ≤ L.length) (fr til : Nat) : wholeP L s fr til = true ↔ Ac L s 0 fr til := by
  unfold wholeP
  rw [List.any_eq_true]
  constructor
  · rintro ⟨q, hq, h⟩
    have e : q.2 = til := by simpa using h
    exact e ▸ ((endsP_one hL hO h0 fr til q).1 hq).2.2
  · intro h
    exact ⟨(fr, til), (endsP_one hL hO h0 fr til _).2 ⟨rfl, Nat.le_refl _, h⟩, by simp⟩
/-- No match: none ends anywhere. -/
theorem matchP_none {L : List Ins} {s : ByteArray} (hL : Leads L) (hO : OneM L) (h0 : 1 ≤ L.length) (fr : Nat) (h : matchP L s fr = none) (i : Nat) (hi : fr ≤ i) (hi2 : i ≤ s.size) : endsA L s i = [] := by
  unfold matchP at h
  rw [List.getLast?_eq_none_iff] at h
  rw [List.eq_nil_iff_forall_not_mem]
  intro e he
  have hA := (endsA_mem hL hO h0 i hi2 e).1 he
  obtain ⟨q, hq, _⟩ := endsP_all hL hO h0 fr s.size s.size hi hi2 hA (hA.lt hi2)
  rw [h] at hq
  cases hq
theorem last_min {α : Type} {R : α → α → Prop} {l : List α} (h : l.Pairwise R) {x y : α} (hx : l.getLast? = some x) (hy : y ∈ l) : y = x ∨ R y x := by
  obtain ⟨l', rfl⟩ : ∃ l', l = l' ++ [x] := by
    rcases List.eq_nil_or_concat l with rfl | ⟨l', z, rfl⟩
    · cases hx
    · rw [List.concat_eq_append] at *
      simp at hx
      exact ⟨l', by rw [hx]⟩
  rcases List.mem_append.1 hy with h1 | h1
  · exact .inr ((List.pairwise_append.1 h).2.2 y h1 x (by simp))
  · exact .inl (by simpa using h1)
/-- A match: none begins before it; what begins there ends no later. -/
theorem matchP_some {L : List Ins} {s : ByteArray} (hL : Leads L) (hO : OneM L) (h0 : 1 ≤ L.length) (fr : Nat) {b e : Nat} (h : matchP L s fr = some (b, e)) : fr ≤ b ∧ b ≤ e ∧ e ≤ s.size ∧ (∀ i, fr ≤ i → i < b → endsA L s i = []) ∧ (endsA L s b).getLast? = some e := by
  unfold matchP at h
  obtain ⟨s1, s2⟩ := endsP_sound hL hO h0 fr s.size s.size (s := s)
  obtain ⟨g1, g2, g3, g4, g5⟩ := s1 (b, e) (List.mem_of_getLast? h)
  simp only at g1 g2 g3 g4 g5
  refine ⟨g2, g4, g3, fun i hi hi2 => ?_, ?_⟩
  · rw [List.eq_nil_iff_forall_not_mem]
    intro x hx
    have hA := (endsA_mem hL hO h0 i (by omega) x).1 hx
    obtain ⟨q, hq, q1, _⟩ := endsP_all hL hO h0 fr s.size s.size hi (by omega) hA (hA.lt (by omega))
    rcases last_min s2 h hq with rfl | ⟨_, h2⟩
    · simp only at q1; omega
    · simp only at h2; omega
  · have hin : e ∈ endsA L s b := (endsA_mem hL hO h0 b g1 e).2 g5
    match hq : (endsA L s b).getLast? with
    | none =>
      rw [List.getLast?_eq_none_iff] at hq
      rw [hq] at hin; cases hin
    | some x =>
      have hx : x ∈ endsA L s b := List.mem_of_getLast? hq
      have hA := (endsA_mem hL hO h0 b g1 x).1 hx
      obtain ⟨q, hq2, q1, q2⟩ := endsP_all hL hO h0 fr s.size s.size g2 g1 hA (hA.lt g1)
      have r1 := last_min s2 h hq2
      have r2 := last_min (endsA_rise hL hO h0 b (s := s)) hq hin
      have hle : x ≤ e := by
        rcases r1 with rfl | ⟨h1, h2⟩
        · simp only at q2; omega
        · simp only at h1 h2; omega
      have : x = e := by
        rcases r2 with h1 | h1
        · exact h1.symm
        · have h1 : e < x := h1
          omega
      rw [this]
end Nt
end Go.Proofs.YtdiokclbdaojpaaDoor
