/- The ends that (*run).ends yields, plain: just where a match may end; the last one is the leftmost and longest. The reference's runs of a program, plain: what it goes through, and that it ends where the program's own run does. What the reference's into does: an instruction and all that it goes on to without a byte. -/
import Derived.Test.YtdiokclbdaojpaaDoorNfEn
import Derived.Test.YtdiokclbdaojpaaDoorNfM15
import Derived.Deep.RegionHeld3
namespace Go.Proofs.YtdiokclbdaojpaaDoor
namespace Nt
/-- What is come to without a byte, at a place. -/
inductive Cl (L : List Ins) (n a : Nat) : Nat → Nat → Prop
  | refl (i : Nat) : Cl L n a i i
  | step {i j k : Nat} : (L.getD i iEnd).k ≠ 1 → (L.getD i iEnd).k ≠ 12 → j ∈ nxt (L.getD i iEnd) i a n → Cl L n a j k → Cl L n a i k
/-- A way that stands ahead of an instruction at a place may end at another one. -/
inductive Ac (L : List Ins) (s : ByteArray) : Nat → Nat → Nat → Prop
  | fin {i a j : Nat} : Cl L s.size a i j → (L.getD j iEnd).k = 12 → Ac L s i a a
  | byte {i a j e : Nat} : Cl L s.size a i j → (L.getD j iEnd).k = 1 → hasAt s a (L.getD j iEnd) = true → Ac L s (j + 1) (a + 1) e → Ac L s i a e
theorem Ac.le {L : List Ins} {s : ByteArray} {i a e : Nat} (h : Ac L s i a e) : a ≤ e := by
  induction h with
  | fin _ _ => exact Nat.le_refl _
  | byte _ _ _ _ ih => omega
theorem hasAt_lt {s : ByteArray} {a : Nat} {x : Ins} (h : hasAt s a x = true) : a < s.size := by
  unfold hasAt at h
  split at h
  · assumption
  · cases h
theorem Ac.lt {L : List Ins} {s : ByteArray} {i a e : Nat} (h : Ac L s i a e) : a ≤ s.size → e ≤ s.size := by
  induction h with
  | fin _ _ => exact id
  | byte _ _ hh _ ih => exact fun _ => ih (hasAt_lt hh)
/-- An instruction was come to. -/
def Mk (m : List Nat) (t j : Nat) : Prop := m.getD j 0 = t
theorem getD_set (m : List Nat) (i j t : Nat) (hi : i < m.length) : (m.set i t).getD j 0 = if j = i then t else m.getD j 0 := by
  rw [List.getD_eq_getElem?_getD, List.getElem?_set, List.getD_eq_getElem?_getD]
  by_cases h : i = j
  · subst h; simp [hi]
  · rw [if_neg h, if_neg (fun e => h e.symm)]
theorem mk_set (m : List Nat) (i j t : Nat) (hi : i < m.length) : Mk (m.set i t) t j ↔ j = i ∨ Mk m t j := by
  unfold Mk
  rw [getD_set m i j t hi]
  split
  · rename_i h; simp [h]
  · rename_i h; simp [h]
/-- What was come to leads to what was come to, or is left. -/
def Cld (L : List Ins) (n a : Nat) (m l : List Nat) : Prop := ∀ j, Mk m (a + 1) j → (L.getD j iEnd).k ≠ 1 → (L.getD j iEnd).k ≠ 12 → ∀ j' ∈ nxt (L.getD j iEnd) j a n, Mk m (a + 1) j' ∨ j' ∈ l
theorem Cl.mk {L : List Ins} {n a i j : Nat} {m : List Nat} (h : Cl L n a i j) (hc : Cld L n a m []) : Mk m (a + 1) i → Mk m (a + 1) j := by
  induction h with
  | refl i => exact id
  | step h1 h2 h3 _ ih => exact fun hm => ih ((hc _ hm h1 h2 _ h3).resolve_right (by simp))
theorem Cl.lt {L : List Ins} (hL : Leads L) {n a i j : Nat} (h : Cl L n a i j) : i < L.length → j < L.length := by
  induction h with
  | refl i => exact id
  | step h1 h2 h3 _ ih => exact fun hm => ih (hL _ hm a n h2 _ h3)
/-- What stF tells: the instructions come to, and the sets and matches among them. -/
structure StS (L : List Ins) (n a : Nat) (l m : List Nat) (r : List Nat × List Nat) : Prop where
  len : r.2.length = L.length
  keep : ∀ j, r.2.getD j 0 = m.getD j 0 ∨ r.2.getD j 0 = a + 1
  mono : ∀ j, Mk m (a + 1) j → Mk r.2 (a + 1) j
  all : ∀ i ∈ l, Mk r.2 (a + 1) i
  from' : ∀ j, Mk r.2 (a + 1) j → Mk m (a + 1) j ∨ ∃ i ∈ l, Cl L n a i j
  mem : ∀ j, j ∈ r.1 ↔ (Mk r.2 (a + 1) j ∧ ¬ Mk m (a + 1) j ∧ ((L.getD j iEnd).k = 1 ∨ (L.getD j iEnd).k = 12))
  nd : r.1.Nodup
  cld : Cld L n a m l → Cld L n a r.2 []
theorem stF_spec (L : List Ins) (hL : Leads L) (n a : Nat) : ∀ k l m, m.length = L.length → (∀ i ∈ l, i < L.length) → mu l m (a + 1) ≤ k → StS L n a l m (stF L n a k l m) := by
  intro k
  induction k with
  | zero =>
    intro l m hm hl h
    have : l = [] := by cases l with
      | nil => rfl
      | cons x l => simp [mu] at h
    subst this
    rw [stF_nil]
    exact ⟨hm, fun _ => .inl rfl, fun _ h => h, fun _ h => (by cases h), fun _ h => .inl h, fun j => ⟨fun h => (by cases h), fun h => (h.2.1 h.1).elim⟩, List.nodup_nil, fun h => h⟩
  | succ k ih =>
    intro l m hm hl h1
    rcases List.eq_nil_or_concat l with rfl | ⟨l, i, rfl⟩
    · rw [stF_nil]
      exact ⟨hm, fun _ => .inl rfl, fun _ h => h, fun _ h => (by cases h), fun _ h => .inl h, fun j => ⟨fun h => (by cases h), fun h => (h.2.1 h.1).elim⟩, List.nodup_nil, fun h => h⟩
    rw [List.concat_eq_append] at *
    have hi : i < L.length := hl i (by simp)
    have hl2 : ∀ j ∈ l, j < L.length := fun j hj => hl j (by simp [hj])
    have hp := mu_pop l m i (a + 1)
    rw [stF_snoc]
    have him : i < m.length := by omega
    have hg : m.getD i 0 = m[i] := by rw [List.getD_eq_getElem?_getD, List.getElem?_eq_getElem him]; rfl
    split
    · rename_i he
      have he : Mk m (a + 1) i := by simpa [Mk] using he
      obtain ⟨q1, q2, q3, q4, q5, q6, q7, q8⟩ := ih l m hm hl2 (by omega)
      refine ⟨q1, q2, q3, ?_, ?_, q6, q7, ?_⟩
      · intro j hj
        rcases List.mem_append.1 hj with hj | hj
        · exact q4 j hj
        · obtain rfl : j = i := by simpa using hj
          exact q3 _ he
      · intro j hj
        rcases q5 j hj with h | ⟨i', h, h'⟩
        · exact .inl h
        · exact .inr ⟨i', by simp [h], h'⟩
      · intro hc
        refine q8 (fun j e1 e2 e3 j' hj' => ?_)
        rcases hc j e1 e2 e3 j' hj' with h | h
        · exact .inl h
        rcases List.mem_append.1 h with hj | hj
        · exact .inr hj
        · obtain rfl : j' = i := by simpa using hj
          exact .inl he
    · rename_i hne
      have hne1 : ¬ Mk m (a + 1) i := by simpa [Mk] using hne
      have hne2 : m[i] ≠ a + 1 := by rw [← hg]; exact hne1
      have hs := mu_set (l := l) him hne2
      have ms := fun j => mk_set m i j (a + 1) him
      have kp : ∀ (r : List Nat) j, (r.getD j 0 = (m.set i (a + 1)).getD j 0 ∨ r.getD j 0 = a + 1) → (r.getD j 0 = m.getD j 0 ∨ r.getD j 0 = a + 1) := by
        intro r j h
        rcases h with h | h
        · rw [getD_set m i j (a + 1) him] at h
          split at h
          · exact .inr h
          · exact .inl h
        · exact .inr h
      split
      · rename_i hk
        have hk : (L.getD i iEnd).k = 1 ∨ (L.getD i iEnd).k = 12 := by simpa using hk
        obtain ⟨q1, q2, q3, q4, q5, q6, q7, q8⟩ := ih l (m.set i (a + 1)) (by simpa using hm) hl2 (by omega)
        refine ⟨q1, fun j => kp _ j (q2 j), fun j hj => q3 j ((ms j).2 (.inr hj)), ?_, ?_, ?_, ?_, ?_⟩
        · intro j hj
          rcases List.mem_append.1 hj with hj | hj
          · exact q4 j hj
          · obtain rfl : j = i := by simpa using hj
            exact q3 _ ((ms _).2 (.inl rfl))
        · intro j hj
          rcases q5 j hj with h | ⟨i', h, h'⟩
          · rcases (ms j).1 h with rfl | h
            · exact .inr ⟨j, by simp, .refl _⟩
            · exact .inl h
          · exact .inr ⟨i', by simp [h], h'⟩
        · intro j
          simp only [List.mem_cons]
          rw [q6 j]
          constructor
          · rintro (rfl | ⟨h1, h2, h3⟩)
            · exact ⟨q3 _ ((ms _).2 (.inl rfl)), hne1, hk⟩
            · exact ⟨h1, fun e => h2 ((ms j).2 (.inr e)), h3⟩
          · rintro ⟨h1, h2, h3⟩
            by_cases e : j = i
            · exact .inl e
            · exact .inr ⟨h1, fun h => ((ms j).1 h).elim e h2, h3⟩
        · refine List.nodup_cons.2 ⟨fun h => ?_, q7⟩
          exact ((q6 i).1 h).2.1 ((ms i).2 (.inl rfl))
        · intro hc
          refine q8 (fun j e1 e2 e3 j' hj' => ?_)
          rcases (ms j).1 e1 with rfl | e1
          · exact (hk.elim e2 e3).elim
          rcases hc j e1 e2 e3 j' hj' with h | h
          · exact .inl ((ms j').2 (.inr h))
          rcases List.mem_append.1 h with hj | hj
          · exact .inr hj
          · obtain rfl : j' = i := by simpa using hj
            exact .inl ((ms _).2 (.inl rfl))
      · rename_i hk
        have hk1 : (L.getD i iEnd).k ≠ 1 ∧ (L.getD i iEnd).k ≠ 12 := by simpa using hk
        have hgo := mu_go (l := l) (L.getD i iEnd) a n him hne2
        have hl3 : ∀ j ∈ l ++ nxt (L.getD i iEnd) i a n, j < L.length := by
          intro j hj
          rcases List.mem_append.1 hj with hj | hj
          · exact hl2 j hj
          · exact hL i hi a n hk1.2 j hj
        obtain ⟨q1, q2, q3, q4, q5, q6, q7, q8⟩ := ih (l ++ nxt (L.getD i iEnd) i a n) (m.set i (a + 1)) (by simpa using hm) hl3 (by omega)
        refine ⟨q1, fun j => kp _ j (q2 j), fun j hj => q3 j ((ms j).2 (.inr hj)), ?_, ?_, ?_, q7, ?_⟩
        · intro j hj
          rcases List.mem_append.1 hj with hj | hj
          · exact q4 j (List.mem_append_left _ hj)
          · obtain rfl : j = i := by simpa using hj
            exact q3 _ ((ms _).2 (.inl rfl))
        · intro j hj
          rcases q5 j hj with h | ⟨i', h, h'⟩
          · rcases (ms j).1 h with rfl | h
            · exact .inr ⟨j, by simp, .refl _⟩
            · exact .inl h
          · rcases List.mem_append.1 h with h | h
            · exact .inr ⟨i', by simp [h], h'⟩
            · exact .inr ⟨i, by simp, .step hk1.1 hk1.2 h h'⟩
        · intro j
          rw [q6 j]
          constructor
          · rintro ⟨h1, h2, h3⟩
            exact ⟨h1, fun e => h2 ((ms j).2 (.inr e)), h3⟩
          · rintro ⟨h1, h2, h3⟩
            refine ⟨h1, fun h => ?_, h3⟩
            rcases (ms j).1 h with rfl | h
            · exact h3.elim hk1.1 hk1.2
            · exact h2 h
        · intro hc
          refine q8 (fun j e1 e2 e3 j' hj' => ?_)
          rcases (ms j).1 e1 with rfl | e1
          · exact .inr (List.mem_append_right _ hj')
          rcases hc j e1 e2 e3 j' hj' with h | h
          · exact .inl ((ms j').2 (.inr h))
          rcases List.mem_append.1 h with hj | hj
          · exact .inr (List.mem_append_left _ hj)
          · obtain rfl : j' = i := by simpa using hj
            exact .inl ((ms _).2 (.inl rfl))
/-- What wayF tells. -/
theorem wayF_spec (L : List Ins) (s : ByteArray) (a b : Nat) : ∀ (js : List Nat) (x : List (Nat × Nat) × Nat),
    (wayF L s a b js x).1.1 = x.1 ++ (js.filter (fun j => (L.getD j iEnd).k == 1 && hasAt s a (L.getD j iEnd))).map (fun j => (j + 1, b)) ∧ (wayF L s a b js x).1.2 = (if js.any (fun j => (L.getD j iEnd).k != 1) then b else x.2) ∧ (wayF L s a b js x).2 = (js.filter (fun j => (L.getD j iEnd).k != 1)).map (fun _ => (b, a)) := by
  intro js
  induction js with
  | nil => intro x; simp [wayF]
  | cons j js ih =>
    intro x
    obtain ⟨h1, h2, h3⟩ := ih (oneF L s a b j x).1
    simp only [wayF]
    rw [h1, h2, h3]
    unfold oneF
    rw [List.filter_cons, List.filter_cons, List.any_cons]
    generalize L.getD j iEnd = y
    by_cases hk : y.k = 1
    · by_cases hh : hasAt s a y = true
      · simp [hk, hh]
      · simp [hk, hh]
    · simp [hk]
/-- No instruction is a match but one. -/
def OneM (L : List Ins) : Prop := ∀ j, j < L.length → (L.getD j iEnd).k = 12 → j = L.length - 1
/-- What plcF tells of the ways at a place. -/
structure PlS (L : List Ins) (s : ByteArray) (a : Nat) (ws : List (Nat × Nat)) (x : (List (Nat × Nat) × Nat) × List Nat) (z : ((List (Nat × Nat) × Nat) × List Nat) × List (Nat × Nat)) (ext : List (Nat × Nat)) : Prop where
  len : z.1.2.length = L.length
  keep : ∀ j, z.1.2.getD j 0 = x.2.getD j 0 ∨ z.1.2.getD j 0 = a + 1
  thn : z.1.1.1 = x.1.1 ++ ext
  rise : ext.Pairwise (fun p q => p.2 ≤ q.2)
  snd : ∀ q ∈ ext, ∃ p ∈ ws, q.2 = p.2 ∧ ∃ j, q.1 = j + 1 ∧ Cl L s.size a p.1 j ∧ (L.getD j iEnd).k = 1 ∧ hasAt s a (L.getD j iEnd) = true
  ysd : ∀ q ∈ z.2, q.2 = a ∧ ∃ p ∈ ws, q.1 = p.2 ∧ ∃ j, Cl L s.size a p.1 j ∧ (L.getD j iEnd).k = 12
  one : Mk x.2 (a + 1) (L.length - 1) → z.2 = []
  ys : (z.2 = [] ∧ z.1.1.2 = x.1.2) ∨ (z.2 = [(z.1.1.2, a)] ∧ z.1.1.2 ≤ x.1.2)
  comp : ∀ p ∈ ws, p.2 ≤ z.1.1.2 → ∀ j, Cl L s.size a p.1 j → Mk x.2 (a + 1) j ∨ ∃ b1, b1 ≤ p.2 ∧ ((L.getD j iEnd).k = 1 → hasAt s a (L.getD j iEnd) = true → (j + 1, b1) ∈ z.1.1.1) ∧ ((L.getD j iEnd).k = 12 → (b1, a) ∈ z.2)
theorem plcF_spec (L : List Ins) (hL : Leads L) (hO : OneM L) (s : ByteArray) (a : Nat) : ∀ (ws : List (Nat × Nat)) (x : (List (Nat × Nat) × Nat) × List Nat), (∀ p ∈ ws, p.1 < L.length) → ws.Pairwise (fun p q => p.2 ≤ q.2) → x.2.length = L.length → Cld L s.size a x.2 [] → ∃ ext, PlS L s a ws x (plcF L s a ws x) ext := by
  intro ws
  induction ws with
  | nil =>
    intro x _ _ hm _
    exact ⟨[], hm, fun _ => .inl rfl, by simp [plcF], List.Pairwise.nil, fun _ h => (by cases h), fun _ h => (by cases h), fun _ => rfl, .inl ⟨rfl, rfl⟩, fun _ h => (by cases h)⟩
  | cons p ws ih =>
    obtain ⟨i, b⟩ := p
    intro x hw hp hm hc
    have hi : i < L.length := hw (i, b) (List.mem_cons_self ..)
    obtain ⟨hp1, hp2⟩ := List.pairwise_cons.1 hp
    by_cases hb : x.1.2 < b
    · have e : plcF L s a ((i, b) :: ws) x = (x, []) := by rw [plcF, if_pos hb]
      rw [e]
      refine ⟨[], hm, fun _ => .inl rfl, by simp, List.Pairwise.nil, fun _ h => (by cases h), fun _ h => (by cases h), fun _ => rfl, .inl ⟨rfl, rfl⟩, fun p hp hle => ?_⟩
      have : b ≤ p.2 := by
        rcases List.mem_cons.1 hp with rfl | hp
        · exact Nat.le_refl _
        · exact hp1 p hp
      simp only at hle
      omega
    · have hl : ∀ k ∈ [i], k < L.length := fun k hk => by obtain rfl : k = i := by simpa using hk
                                                          exact hi
      obtain ⟨r, hr⟩ : ∃ r, r = stF L s.size a (mu [i] x.2 (a + 1)) [i] x.2 := ⟨_, rfl⟩
      obtain ⟨y, hy⟩ : ∃ y, y = wayF L s a b r.1 x.1 := ⟨_, rfl⟩
      obtain ⟨z, hz⟩ : ∃ z, z = plcF L s a ws (y.1, r.2) := ⟨_, rfl⟩
      have e : plcF L s a ((i, b) :: ws) x = (z.1, y.2 ++ z.2) := by rw [plcF, if_neg hb, hz, hy, hr]
      have S := stF_spec L hL s.size a _ [i] x.2 hm hl (Nat.le_refl _)
      rw [← hr] at S
      have hc' : Cld L s.size a r.2 [] := S.cld (fun j e1 e2 e3 j' hj' => .inl ((hc j e1 e2 e3 j' hj').resolve_right (by simp)))
      obtain ⟨w1, w2, w3⟩ := wayF_spec L s a b r.1 x.1
      rw [← hy] at w1 w2 w3
      obtain ⟨ext, I⟩ := ih (y.1, r.2) (fun p hp => hw p (List.mem_cons_of_mem _ hp)) hp2 S.len hc'
      rw [← hz] at I
      rw [e]
      have hlt : ∀ j, j ∈ r.1 → j < L.length := fun j hj => by
        rcases S.from' j ((S.mem j).1 hj).1 with h | ⟨i', h, h'⟩
        · exact absurd h ((S.mem j).1 hj).2.1
        · exact h'.lt hL (hl _ h)
      have hcl : ∀ j, j ∈ r.1 → Cl L s.size a i j := fun j hj => by
        rcases S.from' j ((S.mem j).1 hj).1 with h | ⟨i', h, h'⟩
        · exact absurd h ((S.mem j).1 hj).2.1
        · obtain rfl : i' = i := by simpa using h
          exact h'
      have h12 : ∀ j, j ∈ r.1 → (L.getD j iEnd).k ≠ 1 → (L.getD j iEnd).k = 12 := fun j hj h => (((S.mem j).1 hj).2.2).resolve_left h
      have hys : (y.2 = [] ∧ y.1.2 = x.1.2) ∨ (y.2 = [(b, a)] ∧ y.1.2 = b ∧ Mk r.2 (a + 1) (L.length - 1) ∧ ¬ Mk x.2 (a + 1) (L.length - 1)) := by
        by_cases hmem : ∃ j ∈ r.1, (L.getD j iEnd).k ≠ 1
        · obtain ⟨j, hj, hk⟩ := hmem
          have hj1 : j = L.length - 1 := hO j (hlt j hj) (h12 j hj hk)
          right
          have hf : r.1.filter (fun j => (L.getD j iEnd).k != 1) = [L.length - 1] := by
            have hsub : ∀ q ∈ r.1.filter (fun j => (L.getD j iEnd).k != 1), q = L.length - 1 := fun q hq => by
              obtain ⟨h1, h2⟩ := List.mem_filter.1 hq
              exact hO q (hlt q h1) (h12 q h1 (by simpa using h2))
            have hnd : (r.1.filter (fun j => (L.getD j iEnd).k != 1)).Nodup := S.nd.sublist List.filter_sublist
            have hin : L.length - 1 ∈ r.1.filter (fun j => (L.getD j iEnd).k != 1) := List.mem_filter.2 ⟨hj1 ▸ hj, by rw [← hj1]; simpa using hk⟩
            match hq : r.1.filter (fun j => (L.getD j iEnd).k != 1) with
            | [] => rw [hq] at hin; cases hin
            | [q] => rw [hsub q (by rw [hq]; simp)]
            | q :: q' :: qs =>
              rw [hq] at hnd
              have e1 := hsub q (by rw [hq]; simp)
              have e2 := hsub q' (by rw [hq]; simp)
              rw [e1, e2] at hnd
              simp at hnd
          refine ⟨by rw [w3, hf]; rfl, ?_, hj1 ▸ ((S.mem j).1 hj).1, hj1 ▸ ((S.mem j).1 hj).2.1⟩
          rw [w2, if_pos]
          rw [List.any_eq_true]
          exact ⟨j, hj, by simpa using hk⟩
        · left
          have hno : ∀ j ∈ r.1, (L.getD j iEnd).k = 1 := fun j hj => Classical.byContradiction fun h => hmem ⟨j, hj, h⟩
          refine ⟨?_, ?_⟩
          · rw [w3, List.filter_eq_nil_iff.2 (fun j hj => by rw [hno j hj]; simp)]; rfl
          · rw [w2, if_neg]
            rw [List.any_eq_true]
            rintro ⟨j, hj, h⟩
            rw [hno j hj] at h
            simp at h
      have hnew : ∀ j, Mk r.2 (a + 1) j → Mk x.2 (a + 1) j ∨ (((L.getD j iEnd).k = 1 → hasAt s a (L.getD j iEnd) = true → (j + 1, b) ∈ y.1.1) ∧ ((L.getD j iEnd).k = 12 → (b, a) ∈ y.2)) := by
        intro j hj
        by_cases h : Mk x.2 (a + 1) j
        · exact .inl h
        · refine .inr ⟨fun hk hh => ?_, fun hk => ?_⟩
          · rw [w1]
            exact List.mem_append_right _ (List.mem_map.2 ⟨j, List.mem_filter.2 ⟨(S.mem j).2 ⟨hj, h, .inl hk⟩, by rw [hk, hh]; rfl⟩, rfl⟩)
          · rw [w3]
            exact List.mem_map.2 ⟨j, List.mem_filter.2 ⟨(S.mem j).2 ⟨hj, h, .inr hk⟩, by rw [hk]; rfl⟩, rfl⟩
      have hsub : ∀ q ∈ y.1.1, q ∈ z.1.1.1 := fun q hq => by rw [I.thn]; exact List.mem_append_left _ hq
      have hlast : z.1.1.2 ≤ y.1.2 := by
        rcases I.ys with ⟨_, h⟩ | ⟨_, h⟩
        · exact Nat.le_of_eq h
        · exact h
      refine ⟨(r.1.filter (fun j => (L.getD j iEnd).k == 1 && hasAt s a (L.getD j iEnd))).map (fun j => (j + 1, b)) ++ ext, I.len, ?_, ?_, ?_, ?_, ?_, ?_, ?_, ?_⟩
      · intro j
        rcases I.keep j with h | h
        · rcases S.keep j with h' | h'
          · exact .inl (h.trans h')
          · exact .inr (h.trans h')
        · exact .inr h
      · rw [← List.append_assoc, ← w1]; exact I.thn
      · refine List.pairwise_append.2 ⟨?_, I.rise, ?_⟩
        · refine List.pairwise_map.2 ?_
          exact List.Pairwise.imp (fun _ => Nat.le_refl _) (List.pairwise_of_forall (R := fun _ _ => True) (fun _ _ => trivial))
        · intro p hp q hq
          obtain ⟨j, _, rfl⟩ := List.mem_map.1 hp
          obtain ⟨p', hp', e, _⟩ := I.snd q hq
          rw [e]
          exact hp1 p' hp'
      · intro q hq
        rcases List.mem_append.1 hq with hq | hq
        · obtain ⟨j, hj, rfl⟩ := List.mem_map.1 hq
          obtain ⟨h1, h2⟩ := List.mem_filter.1 hj
          rw [Bool.and_eq_true] at h2
          exact ⟨(i, b), List.mem_cons_self .., rfl, j, rfl, hcl j h1, by simpa using h2.1, h2.2⟩
        · obtain ⟨p, hp, h⟩ := I.snd q hq
          exact ⟨p, List.mem_cons_of_mem _ hp, h⟩
      · intro q hq
        rcases List.mem_append.1 hq with hq | hq
        · rw [w3] at hq
          obtain ⟨j, hj, rfl⟩ := List.mem_map.1 hq
          obtain ⟨h1, h2⟩ := List.mem_filter.1 hj
          exact ⟨rfl, (i, b), List.mem_cons_self .., rfl, j, hcl j h1, h12 j h1 (by simpa using h2)⟩
        · obtain ⟨e, p, hp, h⟩ := I.ysd q hq
          exact ⟨e, p, List.mem_cons_of_mem _ hp, h⟩
      · intro h
        rcases hys with ⟨h1, _⟩ | ⟨_, _, _, h2⟩
        · show y.2 ++ z.2 = []
          rw [h1, I.one (S.mono _ h)]; rfl
        · exact absurd h h2
      · show (y.2 ++ z.2 = [] ∧ z.1.1.2 = x.1.2) ∨ (y.2 ++ z.2 = [(z.1.1.2, a)] ∧ z.1.1.2 ≤ x.1.2)
        rcases hys with ⟨h1, h2⟩ | ⟨h1, h2, h3, _⟩
        · rw [h1, List.nil_append]
          rcases I.ys with ⟨h3, h4⟩ | ⟨h3, h4⟩
          · exact .inl ⟨h3, h4.trans h2⟩
          · exact .inr ⟨h3, h2 ▸ h4⟩
        · have h4 := I.one h3
          rcases I.ys with ⟨_, h5⟩ | ⟨h5, _⟩
          · have h5 : z.1.1.2 = b := h5.trans h2
            exact .inr ⟨by rw [h1, h4, h5]; rfl, by omega⟩
          · rw [h4] at h5; cases h5
      · intro p hp hle j hj
        have hle : p.2 ≤ z.1.1.2 := hle
        have fin : Mk r.2 (a + 1) j → b ≤ p.2 → Mk x.2 (a + 1) j ∨ ∃ b1, b1 ≤ p.2 ∧ ((L.getD j iEnd).k = 1 → hasAt s a (L.getD j iEnd) = true → (j + 1, b1) ∈ z.1.1.1) ∧ ((L.getD j iEnd).k = 12 → (b1, a) ∈ y.2 ++ z.2) := by
          intro hm hb'
          rcases hnew j hm with h | ⟨h1, h2⟩
          · exact .inl h
          · exact .inr ⟨b, hb', fun e1 e2 => hsub _ (h1 e1 e2), fun e => List.mem_append_left _ (h2 e)⟩
        rcases List.mem_cons.1 hp with rfl | hp
        · exact fin (hj.mk hc' (S.all _ (by simp))) (Nat.le_refl _)
        · rcases I.comp p hp hle j hj with h | ⟨b1, h1, h2, h3⟩
          · exact fin h (hp1 p hp)
          · exact .inr ⟨b1, h1, h2, fun e => List.mem_append_right _ (h3 e)⟩
/-- The ways at a place, ahead of it. -/
structure Nw (L : List Ins) (s : ByteArray) (fr a : Nat) (now : List (Nat × Nat)) (m : List Nat) : Prop where
  rise : now.Pairwise (fun p q => p.2 ≤ q.2)
  ok : ∀ p ∈ now, p.1 < L.length ∧ fr ≤ p.2 ∧ p.2 ≤ a ∧ ∀ e, Ac L s p.1 a e → Ac L s 0 p.2 e
  len : m.length = L.length
  mrk : ∀ j, m.getD j 0 ≤ a
/-- The ways with the one that begins at this place. -/
def nowF (a last : Nat) (now : List (Nat × Nat)) : List (Nat × Nat) := if a ≤ last then now ++ [(0, a)] else now
theorem mem_nowF {a last : Nat} {now : List (Nat × Nat)} {p : Nat × Nat} (h : p ∈ now) : p ∈ nowF a last now := by
  unfold nowF
  split
  · exact List.mem_append_left _ h
  · exact h
theorem nowF_zero {a last : Nat} {now : List (Nat × Nat)} (h : a ≤ last) : (0, a) ∈ nowF a last now := by
  unfold nowF
  rw [if_pos h]
  exact List.mem_append_right _ (by simp)
theorem Nw.now {L : List Ins} {s : ByteArray} {fr a : Nat} {now : List (Nat × Nat)} {m : List Nat} (h : Nw L s fr a now m) (h0 : 1 ≤ L.length) (hf : fr ≤ a) (last : Nat) : Nw L s fr a (nowF a last now) m := by
  unfold nowF
  split
  · refine ⟨List.pairwise_append.2 ⟨h.rise, by simp, fun p hp q hq => ?_⟩, fun p hp => ?_, h.len, h.mrk⟩
    · obtain rfl : q = (0, a) := by simpa using hq
      exact (h.ok p hp).2.2.1
    · rcases List.mem_append.1 hp with hp | hp
      · exact h.ok p hp
      · obtain rfl : p = (0, a) := by simpa using hp
        exact ⟨h0, hf, Nat.le_refl _, fun _ h => h⟩
  · exact h
theorem Nw.step {L : List Ins} {s : ByteArray} (hL : Leads L) (hO : OneM L) {fr a : Nat} {now : List (Nat × Nat)} {m : List Nat} (h : Nw L s fr a now m) (last : Nat) : ∃ ext, PlS L s a now (([], last), m) (plcF L s a now (([], last), m)) ext ∧ Nw L s fr (a + 1) (plcF L s a now (([], last), m)).1.1.1 (plcF L s a now (([], last), m)).1.2 := by
  obtain ⟨ext, P⟩ := plcF_spec L hL hO s a now (([], last), m) (fun p hp => (h.ok p hp).1) h.rise h.len (fun j hj => by
    have h1 : m.getD j 0 = a + 1 := hj
    have := h.mrk j
    omega)
  refine ⟨ext, P, ?_⟩
  have e : (plcF L s a now (([], last), m)).1.1.1 = ext := by rw [P.thn]; rfl
  rw [e]
  refine ⟨P.rise, fun q hq => ?_, P.len, fun j => ?_⟩
  · obtain ⟨p, hp, e2, j, e1, hc, hk, hh⟩ := P.snd q hq
    obtain ⟨o1, o2, o3, o4⟩ := h.ok p hp
    have hj := hc.lt hL o1
    refine ⟨?_, by omega, by omega, fun e he => ?_⟩
    · rw [e1]
      refine hL j hj a s.size (by omega) (j + 1) ?_
      unfold nxt
      rw [hk]
      simp
    · rw [e2]
      exact o4 e (.byte hc hk hh (e1 ▸ he))
  · rcases P.keep j with h1 | h1
    · rw [h1]
      have h2 : m.getD j 0 ≤ a := h.mrk j
      show m.getD j 0 ≤ a + 1
      omega
    · exact Nat.le_of_eq h1
theorem endF_at (L : List Ins) (s : ByteArray) (til k a last : Nat) (now : List (Nat × Nat)) (m : List Nat) (h : a ≤ til ∧ (a ≤ last ∨ now ≠ [])) : endF L s til (k + 1) a last now m = (plcF L s a (nowF a last now) (([], last), m)).2 ++ endF L s til k (a + 1) (plcF L s a (nowF a last now) (([], last), m)).1.1.2 (plcF L s a (nowF a last now) (([], last), m)).1.1.1 (plcF L s a (nowF a last now) (([], last), m)).1.2 := by
  rw [endF, if_pos h]
  rfl
/-- What is yielded ends there; by rising ends, and none begins later than the one ahead of it. -/
theorem endF_sound (L : List Ins) (s : ByteArray) (hL : Leads L) (hO : OneM L) (h0 : 1 ≤ L.length) (fr til : Nat) : ∀ (k a last : Nat) (now : List (Nat × Nat)) (m : List Nat), Nw L s fr a now m → fr ≤ a →
    (∀ q ∈ endF L s til k a last now m, q.1 ≤ last ∧ fr ≤ q.1 ∧ a ≤ q.2 ∧ q.2 ≤ til ∧ q.1 ≤ q.2 ∧ Ac L s 0 q.1 q.2) ∧ (endF L s til k a last now m).Pairwise (fun p q => p.2 < q.2 ∧ q.1 ≤ p.1) := by
  intro k
  induction k with
  | zero => intro a last now m _ _; exact ⟨fun q h => (by cases h), List.Pairwise.nil⟩
  | succ k ih =>
    intro a last now m hN hf
    by_cases hg : a ≤ til ∧ (a ≤ last ∨ now ≠ [])
    · rw [endF_at _ _ _ _ _ _ _ _ hg]
      have hN' := hN.now h0 hf last
      obtain ⟨ext, P, hS⟩ := hN'.step hL hO last
      obtain ⟨i1, i2⟩ := ih (a + 1) (plcF L s a (nowF a last now) (([], last), m)).1.1.2 _ _ hS (by omega)
      have hl : (plcF L s a (nowF a last now) (([], last), m)).1.1.2 ≤ last := by
        rcases P.ys with ⟨_, h⟩ | ⟨_, h⟩
        · exact Nat.le_of_eq h
        · exact h
      have hy : ∀ q ∈ (plcF L s a (nowF a last now) (([], last), m)).2, q = ((plcF L s a (nowF a last now) (([], last), m)).1.1.2, a) := by
        intro q hq
        rcases P.ys with ⟨h, _⟩ | ⟨h, _⟩
        · rw [h] at hq; cases hq
        · rw [h] at hq; simpa using hq
      refine ⟨fun q hq => ?_, List.pairwise_append.2 ⟨?_, i2, fun p hp q hq => ?_⟩⟩
      · rcases List.mem_append.1 hq with hq | hq
        · obtain ⟨e, p, hp, e2, j, hc, hk⟩ := P.ysd q hq
          obtain ⟨o1, o2, o3, o4⟩ := hN'.ok p hp
          have hq1 := hy q hq
          refine ⟨?_, by omega, by omega, by omega, by omega, ?_⟩
          · rw [hq1]; exact hl
          · rw [e2, e]; exact o4 a (.fin hc hk)
        · obtain ⟨g1, g2, g3, g4, g5, g6⟩ := i1 q hq
          exact ⟨by omega, g2, by omega, g4, g5, g6⟩
      · rcases P.ys with ⟨h, _⟩ | ⟨h, _⟩
        · rw [h]; exact List.Pairwise.nil
        · rw [h]; simp
      · have e := hy p hp
        obtain ⟨g1, g2, g3, _⟩ := i1 q hq
        rw [e]
        exact ⟨by show a < q.2; omega, g1⟩
    · have e : endF L s til (k + 1) a last now m = [] := by rw [endF, if_neg hg]
      rw [e]
      exact ⟨fun q h => (by cases h), List.Pairwise.nil⟩
/-- A way that stands at a place ends where it may, or one that began before it has ended. -/
theorem endF_all (L : List Ins) (s : ByteArray) (hL : Leads L) (hO : OneM L) (h0 : 1 ≤ L.length) (fr til : Nat) : ∀ (k a last : Nat) (now : List (Nat × Nat)) (m : List Nat), Nw L s fr a now m → fr ≤ a → til + 1 ≤ k + a → ∀ i b, (i, b) ∈ nowF a last now → b ≤ last → ∀ e, Ac L s i a e → e ≤ til → ∃ q ∈ endF L s til k a last now m, q.1 ≤ b ∧ (q.2 = e ∨ q.1 < b) := by
  intro k
  induction k with
  | zero =>
    intro a last now m _ _ hk i b _ _ e hA he
    have := hA.le
    omega
  | succ k ih =>
    intro a last now m hN hf hk i b hp hb e hA he
    have hle := hA.le
    have hg : a ≤ til ∧ (a ≤ last ∨ now ≠ []) := by
      refine ⟨by omega, ?_⟩
      by_cases h : a ≤ last
      · exact .inl h
      · right
        intro e2
        unfold nowF at hp
        rw [if_neg h, e2] at hp
        cases hp
    rw [endF_at _ _ _ _ _ _ _ _ hg]
    have hN' := hN.now h0 hf last
    obtain ⟨ext, P, hS⟩ := hN'.step hL hO last
    have hno : ∀ j, ¬ Mk m (a + 1) j := fun j hj => by
      have h1 : m.getD j 0 = a + 1 := hj
      have := hN.mrk j
      omega
    by_cases hb2 : b ≤ (plcF L s a (nowF a last now) (([], last), m)).1.1.2
    · cases hA with
      | fin hc hk12 =>
        obtain ⟨b1, h1, _, h3⟩ := (P.comp (i, b) hp hb2 _ hc).resolve_left (hno _)
        exact ⟨_, List.mem_append_left _ (h3 hk12), h1, .inl rfl⟩
      | byte hc hk1 hh hA' =>
        obtain ⟨b1, h1, h2, _⟩ := (P.comp (i, b) hp hb2 _ hc).resolve_left (hno _)
        have h1 : b1 ≤ b := h1
        obtain ⟨q, hq, g1, g2⟩ := ih (a + 1) (plcF L s a (nowF a last now) (([], last), m)).1.1.2 _ _ hS (by omega) (by omega) _ b1 (mem_nowF (h2 hk1 hh)) (by omega) e hA' he
        exact ⟨q, List.mem_append_right _ hq, by omega, g2.imp id (fun h => by omega)⟩
    · rcases P.ys with ⟨_, h⟩ | ⟨h, _⟩
      · have h : (plcF L s a (nowF a last now) (([], last), m)).1.1.2 = last := h
        omega
      · refine ⟨((plcF L s a (nowF a last now) (([], last), m)).1.1.2, a), List.mem_append_left _ (by rw [h]; simp), ?_, .inr ?_⟩
        · show (plcF L s a (nowF a last now) (([], last), m)).1.1.2 ≤ b
          omega
        · show (plcF L s a (nowF a last now) (([], last), m)).1.1.2 < b
          omega
theorem endF_all2 (L : List Ins) (s : ByteArray) (hL : Leads L) (hO : OneM L) (h0 : 1 ≤ L.length) (fr til : Nat) : ∀ (k a last : Nat) (now : List (Nat × Nat)) (m : List Nat), Nw L s fr a now m → fr ≤ a → til + 1 ≤ k + a → ∀ b, a ≤ b → b ≤ last → ∀ e, Ac L s 0 b e → e ≤ til → ∃ q ∈ endF L s til k a last now m, q.1 ≤ b ∧ (q.2 = e ∨ q.1 < b) := by
  intro k
  induction k with
  | zero =>
    intro a last now m _ _ hk b _ _ e hA he
    have := hA.le
    omega
  | succ k ih =>
    intro a last now m hN hf hk b ha hb e hA he
    have hle := hA.le
    by_cases hab : a = b
    · subst hab
      exact endF_all L s hL hO h0 fr til (k + 1) a last now m hN hf hk 0 a (nowF_zero hb) hb e hA he
    · rw [endF_at _ _ _ _ _ _ _ _ ⟨by omega, .inl (by omega)⟩]
      obtain ⟨ext, P, hS⟩ := (hN.now h0 hf last).step hL hO last
      by_cases hb2 : b ≤ (plcF L s a (nowF a last now) (([], last), m)).1.1.2
      · obtain ⟨q, hq, g⟩ := ih (a + 1) (plcF L s a (nowF a last now) (([], last), m)).1.1.2 _ _ hS (by omega) (by omega) b (by omega) hb2 e hA he
        exact ⟨q, List.mem_append_right _ hq, g⟩
      · rcases P.ys with ⟨_, h⟩ | ⟨h, _⟩
        · have h : (plcF L s a (nowF a last now) (([], last), m)).1.1.2 = last := h
          omega
        · refine ⟨((plcF L s a (nowF a last now) (([], last), m)).1.1.2, a), List.mem_append_left _ (by rw [h]; simp), ?_, .inr ?_⟩
          · show (plcF L s a (nowF a last now) (([], last), m)).1.1.2 ≤ b
            omega
          · show (plcF L s a (nowF a last now) (([], last), m)).1.1.2 < b
            omega
theorem Nw.none (L : List Ins) (s : ByteArray) (fr : Nat) : Nw L s fr fr [] (List.replicate L.length 0) := by
  refine ⟨List.Pairwise.nil, fun p h => (by cases h), by simp, fun j => ?_⟩
  rw [List.getD_eq_getElem?_getD, List.getElem?_replicate]
  split <;> simp
theorem endsP_sound {L : List Ins} {s : ByteArray} (hL : Leads L) (hO : OneM L) (h0 : 1 ≤ L.length) (fr last til : Nat) : (∀ q ∈ endsP L s fr last til, q.1 ≤ last ∧ fr ≤ q.1 ∧ q.2 ≤ til ∧ q.1 ≤ q.2 ∧ Ac L s 0 q.1 q.2) ∧ (endsP L s fr last til).Pairwise (fun p q => p.2 < q.2 ∧ q.1 ≤ p.1) := by
  obtain ⟨h1, h2⟩ := endF_sound L s hL hO h0 fr til (til + 1 - fr) fr last [] _ (Nw.none L s fr) (Nat.le_refl _)
  exact ⟨fun q hq => ⟨(h1 q hq).1, (h1 q hq).2.1, (h1 q hq).2.2.2⟩, h2⟩
theorem endsP_all {L : List Ins} {s : ByteArray} (hL : Leads L) (hO : OneM L) (h0 : 1 ≤ L.length) (fr last til : Nat) {b e : Nat} (hf : fr ≤ b) (hb : b ≤ last) (hA : Ac L s 0 b e) (he : e ≤ til) : ∃ q ∈ endsP L s fr last til, q.1 ≤ b ∧ (q.2 = e ∨ q.1 < b) :=
  endF_all2 L s hL hO h0 fr til (til + 1 - fr) fr last [] _ (Nw.none L s fr) (Nat.le_refl _) (by omega) b hf hb e hA he
/-- From one place: just the places where a match may end. -/
theorem endsP_one {L : List Ins} {s : ByteArray} (hL : Leads L) (hO : OneM L) (h0 : 1 ≤ L.length) (fr til : Nat) (q : Nat × Nat) : q ∈ endsP L s fr fr til ↔ q.1 = fr ∧ q.2 ≤ til ∧ Ac L s 0 fr q.2 := by
  constructor
  · intro hq
    obtain ⟨h1, h2, h3, _, h5⟩ := (endsP_sound hL hO h0 fr fr til).1 q hq
    have e : q.1 = fr := by omega
    exact ⟨e, h3, e ▸ h5⟩
  · rintro ⟨h1, h2, h3⟩
    obtain ⟨q', hq, g1, g2⟩ := endsP_all hL hO h0 fr fr til (Nat.le_refl _) (Nat.le_refl _) h3 h2
    have h4 := ((endsP_sound hL hO h0 fr fr til).1 q' hq).2.1
    have e2 : q'.2 = q.2 := g2.resolve_right (by omega)
    have e1 : q'.1 = q.1 := by omega
    have : q' = q := Prod.ext e1 e2
    exact this ▸ hq
theorem endsA_mem {L : List Ins} {s : ByteArray} (hL : Leads L) (hO : OneM L) (h0 : 1 ≤ L.length) (fr : Nat) (hf : fr ≤ s.size) (e : Nat) : e ∈ endsA L s fr ↔ Ac L s 0 fr e := by
  unfold endsA
  rw [List.mem_map]
  constructor
  · rintro ⟨q, hq, rfl⟩
    exact ((endsP_one hL hO h0 fr s.size q).1 hq).2.2
  · intro h
    exact ⟨(fr, e), (endsP_one hL hO h0 fr s.size _).2 ⟨rfl, h.lt hf, h⟩, rfl⟩
theorem endsA_rise {L : List Ins} {s : ByteArray} (hL : Leads L) (hO : OneM L) (h0 : 1 ≤ L.length) (fr : Nat) : (endsA L s fr).Pairwise (fun x y => x < y) :=
  List.pairwise_map.2 ((endsP_sound hL hO h0 fr fr s.size).2.imp (fun h => h.1))
theorem wholeP_iff {L : List Ins} {s : ByteArray} (hL : Leads L) (hO : OneM L) (h0 : 1 ≤ L.length) (fr til : Nat) : wholeP L s fr til = true ↔ Ac L s 0 fr til := by
  unfold wholeP
  rw [List.any_eq_true]
  constructor
  · rintro ⟨q, hq, h⟩
    have e : q.2 = til := by simpa using h
    exact e ▸ ((endsP_one hL hO h0 fr til q).1 hq).2.2
  · intro h
    exact ⟨(fr, til), (endsP_one hL hO h0 fr til _).2 ⟨rfl, Nat.le_refl _, h⟩, by simp⟩
/-- No match: none ends anywhere. -/
theorem matchP_none {L : List Ins} {s : ByteArray} (hL : Leads L) (hO : OneM L) (h0 : 1 ≤ L.length) (fr : Nat) (h : matchP L s fr = none) (i : Nat) (hi : fr ≤ i) (hi2 : i ≤ s.size) : endsA L s i = [] := by
  unfold matchP at h
  rw [List.getLast?_eq_none_iff] at h
  rw [List.eq_nil_iff_forall_not_mem]
  intro e he
  have hA := (endsA_mem hL hO h0 i hi2 e).1 he
  obtain ⟨q, hq, _⟩ := endsP_all hL hO h0 fr s.size s.size hi hi2 hA (hA.lt hi2)
  rw [h] at hq
  cases hq
theorem last_min {α : Type} {R : α → α → Prop} {l : List α} (h : l.Pairwise R) {x y : α} (hx : l.getLast? = some x) (hy : y ∈ l) : y = x ∨ R y x := by
  obtain ⟨l', rfl⟩ : ∃ l', l = l' ++ [x] := by
    rcases List.eq_nil_or_concat l with rfl | ⟨l', z, rfl⟩
    · cases hx
    · rw [List.concat_eq_append] at *
      simp at hx
      exact ⟨l', by rw [hx]⟩
  rcases List.mem_append.1 hy with h1 | h1
  · exact .inr ((List.pairwise_append.1 h).2.2 y h1 x (by simp))
  · exact .inl (by simpa using h1)
/-- A match: none begins before it; what begins there ends no later. -/
theorem matchP_some {L : List Ins} {s : ByteArray} (hL : Leads L) (hO : OneM L) (h0 : 1 ≤ L.length) (fr : Nat) {b e : Nat} (h : matchP L s fr = some (b, e)) : fr ≤ b ∧ b ≤ e ∧ e ≤ s.size ∧ (∀ i, fr ≤ i → i < b → endsA L s i = []) ∧ (endsA L s b).getLast? = some e := by
  unfold matchP at h
  obtain ⟨s1, s2⟩ := endsP_sound hL hO h0 fr s.size s.size (s := s)
  obtain ⟨g1, g2, g3, g4, g5⟩ := s1 (b, e) (List.mem_of_getLast? h)
  simp only at g1 g2 g3 g4 g5
  refine ⟨g2, g4, g3, fun i hi hi2 => ?_, ?_⟩
  · rw [List.eq_nil_iff_forall_not_mem]
    intro x hx
    have hA := (endsA_mem hL hO h0 i (by omega) x).1 hx
    obtain ⟨q, hq, q1, _⟩ := endsP_all hL hO h0 fr s.size s.size hi (by omega) hA (hA.lt (by omega))
    rcases last_min s2 h hq with rfl | ⟨_, h2⟩
    · simp only at q1; omega
    · simp only at h2; omega
  · have hin : e ∈ endsA L s b := (endsA_mem hL hO h0 b g1 e).2 g5
    match hq : (endsA L s b).getLast? with
    | none =>
      rw [List.getLast?_eq_none_iff] at hq
      rw [hq] at hin; cases hin
    | some x =>
      have hx : x ∈ endsA L s b := List.mem_of_getLast? hq
      have hA := (endsA_mem hL hO h0 b g1 x).1 hx
      obtain ⟨q, hq2, q1, q2⟩ := endsP_all hL hO h0 fr s.size s.size g2 g1 hA (hA.lt g1)
      have r1 := last_min s2 h hq2
      have r2 := last_min (endsA_rise hL hO h0 b (s := s)) hq hin
      have hle : x ≤ e := by
        rcases r1 with rfl | ⟨h1, h2⟩
        · simp only at q2; omega
        · simp only at h1 h2; omega
      have : x = e := by
        rcases r2 with h1 | h1
        · exact h1.symm
        · have h1 : e < x := h1
          omega
      rw [this]
end Nt
end Go.Proofs.YtdiokclbdaojpaaDoor
namespace Go.Proofs.YtdiokclbdaojpaaDoor
namespace Nt
theorem Cl.snoc {L : List Ins} {n a i j k : Nat} (h : Cl L n a i j) (h1 : (L.getD j iEnd).k ≠ 1) (h2 : (L.getD j iEnd).k ≠ 12) (h3 : k ∈ nxt (L.getD j iEnd) j a n) : Cl L n a i k := by
  induction h with
  | refl i => exact .step h1 h2 h3 (.refl _)
  | step e1 e2 e3 _ ih => exact .step e1 e2 e3 (ih h1 h2 h3)
/-- How many are not come to. -/
def unB (b : List Bool) : Nat := (b.filter (fun x => !x)).length
theorem unB_set (b : List Bool) (i : Nat) (hi : i < b.length) (h : b[i] = false) : unB (b.set i true) + 1 = unB b := by
  induction b generalizing i with
  | nil => cases hi
  | cons x b ih =>
    cases i with
    | zero =>
      have hx : x = false := by simpa using h
      subst hx
      simp [unB]
    | succ i =>
      have := ih i (by simpa using hi) (by simpa using h)
      simp only [unB, List.set_cons_succ, List.filter_cons] at this ⊢
      split <;> (try simp only [List.length_cons]) <;> omega
theorem getB_set (b : List Bool) (i j : Nat) (hi : i < b.length) : (b.set i true).getD j false = if j = i then true else b.getD j false := by
  rw [List.getD_eq_getElem?_getD, List.getElem?_set, List.getD_eq_getElem?_getD]
  by_cases h : i = j
  · subst h; simp [hi]
  · rw [if_neg h, if_neg (fun e => h e.symm)]
/-- What holds while an instruction and all that it leads to without a byte are gone through. -/
structure InI (L : List Ins) (n a at0 : Nat) (b0 : List Bool) (l : List Nat) (b : List Bool) : Prop where
  len : b.length = L.length
  mono : ∀ j, b0.getD j false = true → b.getD j false = true
  fm : ∀ j, b.getD j false = true → b0.getD j false = true ∨ Cl L n a at0 j
  ok : ∀ i ∈ l, i < L.length ∧ Cl L n a at0 i
  cld : ∀ j, b.getD j false = true → (L.getD j iEnd).k ≠ 1 → (L.getD j iEnd).k ≠ 12 → ∀ j' ∈ nxt (L.getD j iEnd) j a n, b.getD j' false = true ∨ j' ∈ l
  has : b.getD at0 false = true ∨ at0 ∈ l
/-- All that the marked lead to is marked. -/
def ClB (L : List Ins) (n a : Nat) (b : List Bool) : Prop := ∀ j, b.getD j false = true → (L.getD j iEnd).k ≠ 1 → (L.getD j iEnd).k ≠ 12 → ∀ j' ∈ nxt (L.getD j iEnd) j a n, b.getD j' false = true
theorem InI.new {L : List Ins} {n a at0 : Nat} {b0 : List Bool} (hl : b0.length = L.length) (h0 : at0 < L.length) (hc : ClB L n a b0) : InI L n a at0 b0 [at0] b0 :=
  ⟨hl, fun _ h => h, fun _ h => .inl h, fun i hi => by obtain rfl : i = at0 := by simpa using hi
                                                       exact ⟨h0, .refl _⟩, fun j h1 h2 h3 j' hj => .inl (hc j h1 h2 h3 j' hj), .inr (by simp)⟩
theorem InI.skip {L : List Ins} {n a at0 i : Nat} {b0 b : List Bool} {l : List Nat} (h : InI L n a at0 b0 (l ++ [i]) b) (hi : b.getD i false = true) : InI L n a at0 b0 l b := by
  refine ⟨h.len, h.mono, h.fm, fun j hj => h.ok j (by simp [hj]), fun j h1 h2 h3 j' hj => ?_, ?_⟩
  · rcases h.cld j h1 h2 h3 j' hj with e | e
    · exact .inl e
    · rcases List.mem_append.1 e with e | e
      · exact .inr e
      · obtain rfl : j' = i := by simpa using e
        exact .inl hi
  · rcases h.has with e | e
    · exact .inl e
    · rcases List.mem_append.1 e with e | e
      · exact .inr e
      · obtain rfl : at0 = i := by simpa using e
        exact .inl hi
theorem InI.put {L : List Ins} (hL : Leads L) {n a at0 i : Nat} {b0 b : List Bool} {l nx : List Nat} (h : InI L n a at0 b0 (l ++ [i]) b) (hnx : ∀ j ∈ nx, (L.getD i iEnd).k ≠ 1 ∧ (L.getD i iEnd).k ≠ 12 ∧ j ∈ nxt (L.getD i iEnd) i a n) (hall : (L.getD i iEnd).k ≠ 1 → (L.getD i iEnd).k ≠ 12 → ∀ j ∈ nxt (L.getD i iEnd) i a n, j ∈ nx) : InI L n a at0 b0 (l ++ nx) (b.set i true) := by
  obtain ⟨hi, hc⟩ := h.ok i (by simp)
  have him : i < b.length := by rw [h.len]; exact hi
  have gs := fun j => getB_set b i j him
  refine ⟨by simpa using h.len, fun j hj => ?_, fun j hj => ?_, fun j hj => ?_, fun j h1 h2 h3 j' hj => ?_, ?_⟩
  · rw [gs]; split
    · rfl
    · exact h.mono j hj
  · rw [gs] at hj
    split at hj
    · rename_i e; subst e; exact .inr hc
    · exact h.fm j hj
  · rcases List.mem_append.1 hj with e | e
    · exact h.ok j (by simp [e])
    · obtain ⟨h1, h2, h3⟩ := hnx j e
      exact ⟨hL i hi a n h2 j h3, hc.snoc h1 h2 h3⟩
  · rw [gs] at h1
    rw [gs]
    split at h1
    · rename_i e
      subst e
      exact .inr (List.mem_append_right _ (hall h2 h3 j' hj))
    · split
      · exact .inl rfl
      · rename_i hne
        rcases h.cld j h1 h2 h3 j' hj with e | e
        · exact .inl e
        · rcases List.mem_append.1 e with e | e
          · exact .inr (List.mem_append_left _ e)
          · exact absurd (by simpa using e) hne
  · rw [gs]
    split
    · exact .inl rfl
    · rename_i hne
      rcases h.has with e | e
      · exact .inl e
      · rcases List.mem_append.1 e with e | e
        · exact .inr (List.mem_append_left _ e)
        · exact absurd (by simpa using e) hne
theorem InI.done {L : List Ins} {n a at0 : Nat} {b0 b : List Bool} (h : InI L n a at0 b0 [] b) : b.length = L.length ∧ (∀ j, b.getD j false = true ↔ (b0.getD j false = true ∨ Cl L n a at0 j)) ∧ ClB L n a b := by
  have hcl : ClB L n a b := fun j h1 h2 h3 j' hj => (h.cld j h1 h2 h3 j' hj).resolve_right (by simp)
  refine ⟨h.len, fun j => ⟨h.fm j, fun hj => ?_⟩, hcl⟩
  rcases hj with hj | hj
  · exact h.mono j hj
  · have h0 := h.has.resolve_right (by simp)
    clear h
    induction hj with
    | refl i => exact h0
    | step e1 e2 e3 _ ih => exact ih (hcl _ h0 e1 e2 _ e3)
theorem Cl.trans {L : List Ins} {n a i j k : Nat} (h : Cl L n a i j) (h2 : Cl L n a j k) : Cl L n a i k := by
  induction h with
  | refl i => exact h2
  | step e1 e2 e3 _ ih => exact .step e1 e2 e3 (ih h2)
theorem Cl.ac {L : List Ins} {s : ByteArray} {a i j e : Nat} (h : Cl L s.size a i j) (hA : Ac L s j a e) : Ac L s i a e := by
  cases hA with
  | fin h1 h2 => exact .fin (h.trans h1) h2
  | byte h1 h2 h3 h4 => exact .byte (h.trans h1) h2 h3 h4
/-- A state that is come to at a place. -/
inductive Rc (L : List Ins) (s : ByteArray) (fr : Nat) : Nat → Nat → Prop
  | start {j : Nat} : Cl L s.size fr 0 j → Rc L s fr fr j
  | byte {i j j' : Nat} : Rc L s fr i j → (L.getD j iEnd).k = 1 → hasAt s i (L.getD j iEnd) = true → Cl L s.size (i + 1) (j + 1) j' → Rc L s fr (i + 1) j'
theorem Rc.ac {L : List Ins} {s : ByteArray} {fr i j : Nat} (h : Rc L s fr i j) : ∀ e, Ac L s j i e → Ac L s 0 fr e := by
  induction h with
  | start h => exact fun e hA => h.ac hA
  | byte _ h2 h3 h4 ih => exact fun e hA => ih e (.byte (.refl _) h2 h3 (h4.ac hA))
theorem Ac.rc {L : List Ins} {s : ByteArray} {fr i a e : Nat} (h : Ac L s i a e) : (∀ j, Cl L s.size a i j → Rc L s fr a j) → ∃ j, (L.getD j iEnd).k = 12 ∧ Rc L s fr e j := by
  induction h with
  | fin h1 h2 => exact fun H => ⟨_, h2, H _ h1⟩
  | byte h1 h2 h3 _ ih => exact fun H => ih (fun j hj => .byte (H _ h1) h2 h3 hj)
theorem Rc.le {L : List Ins} {s : ByteArray} {fr i j : Nat} (h : Rc L s fr i j) : fr ≤ i := by
  induction h with
  | start _ => exact Nat.le_refl _
  | byte _ _ _ _ ih => omega
theorem Rc.lt {L : List Ins} (hL : Leads L) (h0 : 1 ≤ L.length) {s : ByteArray} {fr i j : Nat} (h : Rc L s fr i j) : j < L.length := by
  induction h with
  | start h => exact h.lt hL h0
  | @byte i j j' _ h2 _ h4 ih =>
    refine h4.lt hL (hL j ih i s.size (by omega) (j + 1) ?_)
    unfold nxt
    rw [h2]
    simp
theorem Rc.down {L : List Ins} {s : ByteArray} {fr i j : Nat} (h : Rc L s fr i j) : ∀ m, fr ≤ m → m ≤ i → ∃ j', Rc L s fr m j' := by
  induction h with
  | start h => exact fun m h1 h2 => ⟨_, by obtain rfl : m = fr := by omega
                                           exact .start h⟩
  | @byte i j j' h1 h2 h3 h4 ih =>
    intro m m1 m2
    by_cases e : m = i + 1
    · subst e; exact ⟨_, .byte h1 h2 h3 h4⟩
    · exact ih m m1 (by omega)
theorem ac_iff {L : List Ins} (hL : Leads L) (hO : OneM L) (h0 : 1 ≤ L.length) (h12 : (L.getD (L.length - 1) iEnd).k = 12) {s : ByteArray} {fr e : Nat} : Ac L s 0 fr e ↔ Rc L s fr e (L.length - 1) := by
  constructor
  · intro h
    obtain ⟨j, hj, hr⟩ := h.rc (fr := fr) (fun j hj => .start hj)
    rw [← hO j (hr.lt hL h0) hj]
    exact hr
  · intro h
    exact h.ac e (.fin (.refl _) h12)
theorem rise_eq : ∀ {l m : List Nat}, l.Pairwise (fun x y => x < y) → m.Pairwise (fun x y => x < y) → (∀ x, x ∈ l ↔ x ∈ m) → l = m
  | [], [], _, _, _ => rfl
  | [], y :: m, _, _, h => absurd ((h y).2 (by simp)) (by simp)
  | x :: l, [], _, _, h => absurd ((h x).1 (by simp)) (by simp)
  | x :: l, y :: m, hl, hm, h => by
    obtain ⟨l1, l2⟩ := List.pairwise_cons.1 hl
    obtain ⟨m1, m2⟩ := List.pairwise_cons.1 hm
    have hxy : x = y := by
      have h1 := (h x).1 (by simp)
      have h2 := (h y).2 (by simp)
      rcases List.mem_cons.1 h1 with e | e
      · exact e
      · rcases List.mem_cons.1 h2 with e' | e'
        · exact e'.symm
        · have := m1 x e; have := l1 y e'; omega
    subst hxy
    refine congrArg _ (rise_eq l2 m2 (fun z => ⟨fun hz => ?_, fun hz => ?_⟩))
    · rcases List.mem_cons.1 ((h z).1 (by simp [hz])) with e | e
      · subst e; exact absurd (l1 z hz) (by omega)
      · exact e
    · rcases List.mem_cons.1 ((h z).2 (by simp [hz])) with e | e
      · subst e; exact absurd (m1 z hz) (by omega)
      · exact e
/-- The reference's ends, ahead of a place. -/
structure EnJ (L : List Ins) (s : ByteArray) (fr i : Nat) (b : List Bool) (out : List Nat) : Prop where
  lo : fr ≤ i
  hi : i ≤ s.size
  len : b.length = L.length
  isR : ∀ j, b.getD j false = true ↔ Rc L s fr i j
  mem : ∀ e, e ∈ out ↔ (e < i ∧ Rc L s fr e (L.length - 1))
  rise : out.Pairwise (fun x y => x < y)
theorem EnJ.next {L : List Ins} {s : ByteArray} {fr i : Nat} {b : List Bool} {out : List Nat} (h : EnJ L s fr i b out) : ((out ++ if b.getD (L.length - 1) false then [i] else []).Pairwise (fun x y => x < y)) ∧ ∀ e, e ∈ (out ++ if b.getD (L.length - 1) false then [i] else []) ↔ (e < i + 1 ∧ Rc L s fr e (L.length - 1)) := by
  constructor
  · refine List.pairwise_append.2 ⟨h.rise, ?_, fun x hx y hy => ?_⟩
    · split <;> simp
    · split at hy
      · obtain rfl : y = i := by simpa using hy
        exact ((h.mem x).1 hx).1
      · cases hy
  · intro e
    rw [List.mem_append, h.mem e]
    constructor
    · rintro (⟨h1, h2⟩ | h1)
      · exact ⟨by omega, h2⟩
      · split at h1
        · rename_i hb
          obtain rfl : e = i := by simpa using h1
          exact ⟨by omega, (h.isR _).1 hb⟩
        · cases h1
    · rintro ⟨h1, h2⟩
      by_cases e1 : e < i
      · exact .inl ⟨e1, h2⟩
      · obtain rfl : e = i := by omega
        right
        rw [if_pos ((h.isR _).2 h2)]
        simp
/-- What the reference's ends gives: the places where a match may end. -/
theorem ends_eq {L : List Ins} (hL : Leads L) (hO : OneM L) (h0 : 1 ≤ L.length) (h12 : (L.getD (L.length - 1) iEnd).k = 12) {s : ByteArray} {fr i : Nat} (hf : fr ≤ s.size) {out : List Nat} (hr : out.Pairwise (fun x y => x < y)) (hm : ∀ e, e ∈ out ↔ (e < i + 1 ∧ Rc L s fr e (L.length - 1))) (hi : i = s.size ∨ ∀ j, ¬ Rc L s fr (i + 1) j) (hlo : fr ≤ i) : out = endsA L s fr := by
  refine rise_eq hr (endsA_rise hL hO h0 fr) (fun e => ?_)
  rw [hm e, endsA_mem hL hO h0 fr hf e, ac_iff hL hO h0 h12]
  refine ⟨fun h => h.2, fun h => ⟨?_, h⟩⟩
  rcases hi with rfl | hi
  · have := ((ac_iff hL hO h0 h12).2 h).lt hf
    omega
  · refine Classical.byContradiction fun hn => ?_
    obtain ⟨j, hj⟩ := h.down (i + 1) (by omega) (by omega)
    exact hi j hj
/-- The marks behind the byte, for the first instructions. -/
structure NxJ (L : List Ins) (s : ByteArray) (i : Nat) (b : List Bool) (k : Nat) (nb : List Bool) (any : Bool) : Prop where
  len : nb.length = L.length
  cl : ClB L s.size (i + 1) nb
  is' : ∀ j, nb.getD j false = true ↔ ∃ q, q < k ∧ b.getD q false = true ∧ (L.getD q iEnd).k = 1 ∧ hasAt s i (L.getD q iEnd) = true ∧ Cl L s.size (i + 1) (q + 1) j
  an : any = true ↔ ∃ q, q < k ∧ b.getD q false = true ∧ (L.getD q iEnd).k = 1 ∧ hasAt s i (L.getD q iEnd) = true
theorem NxJ.new (L : List Ins) (s : ByteArray) (i : Nat) (b : List Bool) : NxJ L s i b 0 (List.replicate L.length false) false := by
  have h : ∀ j, ¬ (List.replicate L.length false).getD j false = true := fun j => by
    rw [List.getD_eq_getElem?_getD, List.getElem?_replicate]
    split <;> simp
  exact ⟨by simp, fun j hj => absurd hj (h j), fun j => ⟨fun hj => absurd hj (h j), fun ⟨q, hq, _⟩ => by omega⟩, ⟨fun h => (by cases h), fun ⟨q, hq, _⟩ => (by omega)⟩⟩
theorem NxJ.no {L : List Ins} {s : ByteArray} {i k : Nat} {b nb : List Bool} {any : Bool} (h : NxJ L s i b k nb any) (hn : ¬ (b.getD k false = true ∧ (L.getD k iEnd).k = 1 ∧ hasAt s i (L.getD k iEnd) = true)) : NxJ L s i b (k + 1) nb any := by
  refine ⟨h.len, h.cl, fun j => (h.is' j).trans ⟨fun ⟨q, hq, r⟩ => ⟨q, by omega, r⟩, fun ⟨q, hq, h1, h2, h3, h4⟩ => ⟨q, ?_, h1, h2, h3, h4⟩⟩, h.an.trans ⟨fun ⟨q, hq, r⟩ => ⟨q, by omega, r⟩, fun ⟨q, hq, h1, h2, h3⟩ => ⟨q, ?_, h1, h2, h3⟩⟩⟩
  · by_cases e : q = k
    · subst e; exact absurd ⟨h1, h2, h3⟩ hn
    · omega
  · by_cases e : q = k
    · subst e; exact absurd ⟨h1, h2, h3⟩ hn
    · omega
theorem NxJ.yes {L : List Ins} {s : ByteArray} {i k : Nat} {b nb nb' : List Bool} {any : Bool} (h : NxJ L s i b k nb any) (h1 : b.getD k false = true) (h2 : (L.getD k iEnd).k = 1) (h3 : hasAt s i (L.getD k iEnd) = true) (hl : nb'.length = L.length) (hc : ClB L s.size (i + 1) nb') (hi : ∀ j, nb'.getD j false = true ↔ (nb.getD j false = true ∨ Cl L s.size (i + 1) (k + 1) j)) : NxJ L s i b (k + 1) nb' true := by
  refine ⟨hl, hc, fun j => ?_, ⟨fun _ => ⟨k, by omega, h1, h2, h3⟩, fun _ => rfl⟩⟩
  rw [hi j, h.is' j]
  constructor
  · rintro (⟨q, hq, r⟩ | r)
    · exact ⟨q, by omega, r⟩
    · exact ⟨k, by omega, h1, h2, h3, r⟩
  · rintro ⟨q, hq, r1, r2, r3, r4⟩
    by_cases e : q = k
    · subst e; exact .inr r4
    · exact .inl ⟨q, by omega, r1, r2, r3, r4⟩
theorem NxJ.rc {L : List Ins} (hL : Leads L) (h0 : 1 ≤ L.length) {s : ByteArray} {fr i : Nat} {b nb : List Bool} {any : Bool} (h : NxJ L s i b L.length nb any) (hb : ∀ j, b.getD j false = true ↔ Rc L s fr i j) (hlo : fr ≤ i) : (∀ j, nb.getD j false = true ↔ Rc L s fr (i + 1) j) ∧ (any = false → ∀ j, ¬ Rc L s fr (i + 1) j) := by
  have key : ∀ j, Rc L s fr (i + 1) j → ∃ q, q < L.length ∧ b.getD q false = true ∧ (L.getD q iEnd).k = 1 ∧ hasAt s i (L.getD q iEnd) = true ∧ Cl L s.size (i + 1) (q + 1) j := by
    intro j hj
    generalize he : i + 1 = e at hj
    cases hj with
    | start _ => omega
    | @byte i' q _ r1 r2 r3 r4 =>
      obtain rfl : i' = i := by omega
      exact ⟨q, r1.lt hL h0, (hb q).2 r1, r2, r3, r4⟩
  constructor
  · intro j
    rw [h.is' j]
    exact ⟨fun ⟨q, _, h1, h2, h3, h4⟩ => .byte ((hb q).1 h1) h2 h3 h4, key j⟩
  · intro ha j hj
    obtain ⟨q, h1, h2, h3, h4, _⟩ := key j hj
    have := h.an.2 ⟨q, h1, h2, h3, h4⟩
    rw [ha] at this
    cases this
theorem EnJ.step {L : List Ins} (hL : Leads L) (h0 : 1 ≤ L.length) {s : ByteArray} {fr i : Nat} {b nb : List Bool} {out : List Nat} {any : Bool} (h : EnJ L s fr i b out) (hi : i < s.size) (hN : NxJ L s i b L.length nb any) : EnJ L s fr (i + 1) nb (out ++ if b.getD (L.length - 1) false then [i] else []) := by
  obtain ⟨h1, h2⟩ := h.next
  exact ⟨by have := h.lo; omega, by omega, hN.len, (hN.rc hL h0 h.isR h.lo).1, h2, h1⟩
theorem EnJ.new {L : List Ins} {s : ByteArray} {fr : Nat} {b : List Bool} (hf : fr ≤ s.size) (hl : b.length = L.length) (hb : ∀ j, b.getD j false = true ↔ Cl L s.size fr 0 j) : EnJ L s fr fr b [] := by
  refine ⟨Nat.le_refl _, hf, hl, fun j => (hb j).trans ⟨.start, fun h => ?_⟩, fun e => ⟨fun h => (by cases h), fun ⟨h1, h2⟩ => (by have := h2.le; omega)⟩, List.Pairwise.nil⟩
  generalize he : fr = e at h
  cases h with
  | start h => exact h
  | byte r1 _ _ _ => have := r1.le; omega
end Nt
end Go.Proofs.YtdiokclbdaojpaaDoor
namespace Go.Proofs.YtdiokclbdaojpaaDoor
open Go Go.RowKit

namespace Nt
/-- A row of bools. -/
def Bt (w : World) (g : Nat) (b : List Bool) : Prop := w.heap[g]? = some (.cells (b.map Value.bool).toArray 4 (0, 0))
theorem Bt.cell {w : World} {g : Nat} {b : List Bool} (h : Bt w g b) {i : Nat} (hi : i < b.length) : w.cell? ⟨g, i, none⟩ = some (.bool (b.getD i false)) := by
  rw [cell_of_row w g i _ _ _ h]
  simp [List.getD_eq_getElem?_getD, hi]
theorem Bt.frozen {w : World} {g : Nat} {b : List Bool} (h : Bt w g b) (i : Nat) : w.frozen? ⟨g, i, none⟩ = false := frozen_of_row w g i _ _ h
theorem Bt.set {w : World} {g : Nat} {b : List Bool} (h : Bt w g b) (i : Nat) : Bt (w.setCell ⟨g, i, none⟩ (.bool true)) g (b.set i true) := by
  have := heap_setCell_same w g i _ _ (.bool true) h
  unfold Bt
  rw [this, List.map_set]
  simp [List.setIfInBounds_toArray]
theorem Bt.lt {w : World} {g : Nat} {b : List Bool} (h : Bt w g b) : g < w.heap.size := lt_of_block h
def isF : Value → Bool
  | .bool b => !b
  | _ => false
/-- How many of a row's bools are false. -/
def unW (w : World) (g : Nat) : Nat := match w.heap[g]? with
  | some (.cells cs _ _) => (cs.toList.filter isF).length
  | _ => 0
theorem unW_bt {w : World} {g : Nat} {b : List Bool} (h : Bt w g b) : unW w g = unB b := by
  unfold unW
  rw [h]
  simp only [unB, List.filter_map, List.length_map]
  rfl
def lenV : Value → Nat
  | .slice _ n _ => n
  | _ => 0
theorem into_keep {w wr w8 : World} {g i : Nat} {b : List Bool} {P : Obj} {row : Option Nat} (hgw : g < w.heap.size) (hT : ∀ k, row = some k → w.heap.size + 1 ≤ k) (hB : Bx g w wr) (hb : Bt wr g b) (hp : wr.heap[w.heap.size]? = some P) (hgr : (wr.setCell ⟨g, i, none⟩ (.bool true)).grownBy w8 row) : Bt w8 g (b.set i true) ∧ Bx g w w8 ∧ w8.heap[w.heap.size]? = some P := by
  have hX := hB.trans (Bx.set g i wr (.bool true))
  have hs : (wr.setCell ⟨g, i, none⟩ (.bool true)).heap.size = wr.heap.size := by simp
  have lp := lt_of_block hp
  have hbs := hB.size
  have keep : ∀ k, k < w.heap.size + 1 → w8.heap[k]? = (wr.setCell ⟨g, i, none⟩ (.bool true)).heap[k]? := fun k hk => hgr.block k (by omega) (fun e => by have := hT k e.symm; omega)
  refine ⟨?_, ⟨hgr.os.trans hX.os, hgr.tape.trans hX.tape, hgr.output.trans hX.output, by have := hgr.size; omega, fun k hk hn => (keep k (by omega)).trans (hX.block k hk hn)⟩, ?_⟩
  · unfold Bt
    rw [keep g (by omega)]
    exact hb.set i
  · rw [keep _ (by omega), heap_setCell_other wr ⟨g, i, none⟩ _ _ (by simp only; omega)]
    exact hp
theorem own_cap {w : World} {base e size T n c : Nat} {xs : List Value} (h : w.ownsRow base e size (.slice (some ⟨T, 0, none⟩) n c) n xs) : n ≤ c := by
  obtain ⟨_, ⟨h1, _⟩ | ⟨g, cap, cur, h1, _, _, h2, _⟩⟩ := h
  · cases h1
  · injection h1 with _ _ h1
    omega
theorem one_new2 {X : World} {m : Nat} (h : X.heap.size = m) (o : Obj) (v : Value) (t : TypeId) : ∀ j u, [v][j]? = some u → ((X.alloc o).alloc (.cells #[v] t)).cell? ((⟨m + 1, 0, none⟩ : Addr).add j) = some u := by
  have := one_new (X.alloc o) v t
  rwa [World.size_alloc, h] at this
theorem two_new2 {X : World} {m : Nat} (h : X.heap.size = m) (o : Obj) (u v : Value) (t : TypeId) : ∀ j x, [u, v][j]? = some x → ((X.alloc o).alloc (.cells #[u, v] t)).cell? ((⟨m + 1, 0, none⟩ : Addr).add j) = some x := by
  have := two_new (X.alloc o) u v t
  rwa [World.size_alloc, h] at this
theorem grown_two {X w8 : World} {o1 o2 : Obj} {row : Option Nat} (h : ((X.alloc o1).alloc o2).grownBy w8 row) : X.grownBy w8 row :=
  ((World.grownBy_alloc X o1 row).trans (World.grownBy_alloc (X.alloc o1) o2 row)).trans h
end Nt

set_option maxRecDepth 100000 in
set_option maxHeartbeats 8000000 in
theorem into_any (gr sl : Int) (a : Option Addr) (cap : Nat) (L : List Nt.Ins) (s : ByteArray) (g at0 pl : Nat) (b0 : List Bool) (w : World) (hc : Nt.Cds w g a cap L) (hb : Nt.Bt w g b0) (hl : b0.length = L.length) (hcl : Nt.ClB L s.size pl b0) (h0 : at0 < L.length) (hL : Nt.Leads L) (hto : ∀ i (h : i < L.length), 0 ≤ (L[i]).to ∧ (L[i]).to ≤ 1048576) (hL1 : L.length ≤ 16384) (_hpl : pl ≤ 1048577) (_hs : s.size ≤ 1048576) :
    Calls Tryd.prog 69 #[.agg #[.int .i64 gr, .int .i64 sl, .slice a L.length cap], .slice (some ⟨g, 0, none⟩) L.length L.length, .int .i64 (at0 : Int), .string s, .int .i64 (pl : Int)] w fun e w' => (∃ v, e = .returned v) ∧ ∃ b, Nt.Bt w' g b ∧ Bx g w w' ∧ b.length = L.length ∧ (∀ j, b.getD j false = true ↔ (b0.getD j false = true ∨ Nt.Cl L s.size pl at0 j)) ∧ Nt.ClB L s.size pl b := by
  obtain ⟨i1, hi1, hy0, hy1, hy2⟩ := info_parts Tryd.infoInt
  have hgl := hb.lt
  obtain ⟨W, hW⟩ : ∃ W, W = (w.alloc (.cells #[.int .i64 gr, .int .i64 sl, .slice a L.length cap] 35)).alloc (.cells #[.int .i64 (at0 : Int)] 3) := ⟨_, rfl⟩
  have hBW : Below w.heap.size w W := by rw [hW]; exact ((Below.refl w.heap.size w).alloc (Nat.le_refl _) _).alloc (by simp) _
  have PW : W.heap[w.heap.size]? = some (.cells #[.int .i64 gr, .int .i64 sl, .slice a L.length cap] 35 (0, 0)) := by rw [hW, heap_alloc_old _ _ (by simp)]; exact heap_alloc_new w _
  have TW : W.ownsRow (w.heap.size + 1) 3 1 (.slice (some ⟨w.heap.size + 1, 0, none⟩) 1 1) 1 (Nt.icellsN [at0]) := by
    rw [hW]
    have := World.ownsRow_lit (base := w.heap.size + 1) (e := 3) (size := 1) (w.alloc (.cells #[.int .i64 gr, .int .i64 sl, .slice a L.length cap] 35)) #[.int .i64 (at0 : Int)] 1 (by simp) (by unfold maxLen; omega) rfl
    simpa [Nt.icellsN] using this
  have BW : Nt.Bt W g b0 := (hBW.block g hgl).trans hb
  have HST : Hid (W.ownsRow (w.heap.size + 1) 3 1 (.slice (some ⟨w.heap.size + 1, 0, none⟩) 1 1) 1 (Nt.icellsN [at0]) ∧ Nt.Bt W g b0 ∧ Bx g w W ∧ W.heap[w.heap.size]? = some (.cells #[.int .i64 gr, .int .i64 sl, .slice a L.length cap] 35 (0, 0)) ∧ Nt.InI L s.size pl at0 b0 [at0] b0 ∧ [at0].length + 2 * Nt.unB b0 ≤ 40000) := ⟨TW, BW, Bx.of_below hBW, PW, Nt.InI.new hl h0 hcl, by
    have : Nt.unB b0 ≤ b0.length := List.length_filter_le _ _
    simp only [List.length_singleton]
    omega⟩
  have HC : Hid _ := hc
  have HTo : Hid _ := hto
  clear hc hb hcl hto hBW PW TW BW
  go_enter Tryd.func69, Tryd.ntmps69
  go_wp2_with fail
  rw [← hW]
  clear hW
  go_loopw [10] (fun tv wr => ∃ (l : List Nat) (b : List Bool) (T c : Nat), tv = .slice (some ⟨T, 0, none⟩) l.length c ∧ wr.ownsRow (w.heap.size + 1) 3 1 (.slice (some ⟨T, 0, none⟩) l.length c) l.length (Nt.icellsN l) ∧ Nt.Bt wr g b ∧ Bx g w wr ∧ wr.heap[w.heap.size]? = some (.cells #[.int .i64 gr, .int .i64 sl, .slice a L.length cap] 35 (0, 0)) ∧ Nt.InI L s.size pl at0 b0 l b ∧ l.length + 2 * Nt.unB b ≤ 40000) (fun tv wr => Nt.lenV tv + 2 * Nt.unW wr g)
  case atStart => exact ⟨[at0], b0, w.heap.size + 1, 1, rfl, HST.out⟩
  case round =>
    clear HST
    obtain ⟨l, b, T, c, rfl, hrow, hBt, hBx, hP, hI, hbd⟩ := hrel
    rcases List.eq_nil_or_concat l with rfl | ⟨l, i, rfl⟩
    · have HF : Hid _ := hI.done
      have HBt : Hid _ := hBt
      have HBx : Hid _ := hBx
      clear hrow hBt hBx hP hI hbd
      go_wp2_with fail
      go_end0
      exact ⟨⟨_, rfl⟩, b, HBt.out, HBx.out, HF.out⟩
    · rw [List.concat_eq_append] at *
      obtain ⟨hi, _⟩ := hI.ok i (by simp)
      have hT1 := (World.ownsRow.lt hrow T rfl).1
      have e1 : (l ++ [i]).length = l.length + 1 := by simp
      have hpre : wr.ownsRow (w.heap.size + 1) 3 1 (.slice (some ⟨T, 0, none⟩) l.length c) l.length (Nt.icellsN l) := by
        have := Nt.own_pre hrow l.length (by omega)
        have e2 : (Nt.icellsN (l ++ [i])).take (l.length * 1) = Nt.icellsN l := by simp [Nt.icellsN]
        rwa [e2] at this
      have c0 : wr.cell? ⟨T, l.length, none⟩ = some (.int .i64 (i : Int)) := by
        rw [hrow.cellAt l.length (by omega)]
        simp [Nt.icellsN]
      have hbl : b.length = L.length := hI.len
      have cb : wr.cell? ⟨g, i, none⟩ = some (.bool (b.getD i false)) := hBt.cell (by omega)
      have fb : wr.frozen? ⟨g, i, none⟩ = false := hBt.frozen i
      have HM : Hid (Nt.unW wr g = Nt.unB b) := Nt.unW_bt hBt
      have hl4 : l.length ≤ 40000 := by omega
      have hcp := Nt.own_cap hpre
      have n3 : (l.length : Int) ≤ (c : Int) := by omega
      have n1 : IntKind.i64.wrap ((l.length : Int) + 1 - 1) = (l.length : Int) := by rw [IntKind.wrap_i64]; omega
      have n2 : IntKind.i64.wrap (l.length : Int) = (l.length : Int) := by rw [IntKind.wrap_i64]; omega
      rw [e1] at hrow hbd ⊢
      have HRow : Hid _ := hpre
      have HBt : Hid _ := hBt
      have HBx : Hid _ := hBx
      have HP : Hid _ := hP
      have HI : Hid _ := hI
      cases hm : b.getD i false
      · skip
        have hin : i < b.length := by omega
        have hbi : b[i] = false := by rw [← hm, List.getD_eq_getElem?_getD, List.getElem?_eq_getElem hin]; rfl
        have HU : Hid _ := Nt.unB_set b i hin hbi
        obtain ⟨cb', off, rfl, hcb, hcell⟩ := HC.out.lies i hi
        have hgd : L.getD i Nt.iEnd = L[i] := by rw [List.getD_eq_getElem?_getD, List.getElem?_eq_getElem hi]; rfl
        have htx := HTo.out i hi
        have hput0 := fun nx h1 h2 => hI.put hL (nx := nx) h1 h2
        rw [hgd] at hput0
        obtain ⟨x, hx⟩ : ∃ x, L[i] = x := ⟨_, rfl⟩
        rw [hx] at hcell hput0 htx
        obtain ⟨ht0, ht1⟩ := htx
        have same : ∀ k j, k ≠ g → k < w.heap.size + 1 → (wr.setCell ⟨g, i, none⟩ (.bool true)).cell? ⟨k, j, none⟩ = wr.cell? ⟨k, j, none⟩ := fun k j hk _ => World.cell?_of_block (a := ⟨k, j, none⟩) (heap_setCell_other wr ⟨g, i, none⟩ k _ hk)
        have hcw : ∀ j, j < 9 → (wr.setCell ⟨g, i, none⟩ (.bool true)).cell? ⟨cb', off + i * 9 + j, none⟩ = (Nt.insL x)[j]? := fun j hj => (same cb' _ (by omega) (by omega)).trans ((World.cell?_of_block (a := ⟨cb', off + i * 9 + j, none⟩) (hBx.block cb' (by omega) (by omega))).trans (hcell j hj))
        have a2 : (wr.setCell ⟨g, i, none⟩ (.bool true)).cell? ⟨w.heap.size, 2, none⟩ = some (.slice (some ⟨cb', off, none⟩) L.length cap) := (same _ _ (by omega) (by omega)).trans (cell_of_row _ _ _ _ _ _ hP)
        have x0 := hcw 0 (by omega)
        have x1 := hcw 1 (by omega)
        have x2 := hcw 2 (by omega)
        have x3 := hcw 3 (by omega)
        have x4 := hcw 4 (by omega)
        have x5 := hcw 5 (by omega)
        have x6 := hcw 6 (by omega)
        have x7 := hcw 7 (by omega)
        have x8 := hcw 8 (by omega)
        simp only [Nt.insL, Nat.add_zero, List.getElem?_cons_zero, List.getElem?_cons_succ] at x0 x1 x2 x3 x4 x5 x6 x7 x8
        have HRow2 : Hid ((wr.setCell ⟨g, i, none⟩ (.bool true)).ownsRow (w.heap.size + 1) 3 1 (.slice (some ⟨T, 0, none⟩) l.length c) l.length (Nt.icellsN l)) := ownsRow_setCell_below HRow.out (by show g < w.heap.size + 1; omega) _
        rw [hm] at cb
        have HX : Hid _ := hx
        have hws := lt_of_block hP
        have hin1 : i + 1 ≤ 1048576 := by omega
        have HPut : Hid _ := hput0
        clear hrow hpre hBt hBx hP hI hm e1 same hcw hcell hgd hput0 hbi hx
        have n4 : IntKind.i64.wrap ((i : Int) + 1) = (i : Int) + 1 := by rw [IntKind.wrap_i64]; omega
        by_cases k1 : x.k = 1
        · rw [k1] at x0
          have hput := HPut.out
          rw [k1] at hput
          clear HPut
          have hK := Nt.into_keep hgl (fun k e => by cases e) HBx.out HBt.out HP.out (World.grownBy_alloc (wr.setCell ⟨g, i, none⟩ (.bool true)) (.cells #[.int .u8 (1), .int .u64 (St.wd x.s 0 : Nat), .int .u64 (St.wd x.s 1 : Nat), .int .u64 (St.wd x.s 2 : Nat), .int .u64 (St.wd x.s 3 : Nat), .int .i64 x.to, .int .i64 x.gr, .int .i64 x.la, .int .i64 x.sl] 64) none)
          have HK : Hid _ := hK
          have HM8 : Hid (Nt.unW ((wr.setCell ⟨g, i, none⟩ (.bool true)).alloc (.cells #[.int .u8 (1), .int .u64 (St.wd x.s 0 : Nat), .int .u64 (St.wd x.s 1 : Nat), .int .u64 (St.wd x.s 2 : Nat), .int .u64 (St.wd x.s 3 : Nat), .int .i64 x.to, .int .i64 x.gr, .int .i64 x.la, .int .i64 x.sl] 64)) g + 1 = Nt.unB b) := by show _ = _; rw [Nt.unW_bt hK.1]; exact HU.out
          have HI3 : Hid _ := hput [] (by simp) (by simp)
          clear hK hput
          go_wp2_with fail
          go_roundw
          case rel => exact ⟨l, b.set i true, T, c, rfl, (HRow2.out).alloc _, HK.out.1, HK.out.2.1, HK.out.2.2, by have := HI3.out; rwa [List.append_nil] at this, by have := HU.out; omega⟩
          case measure =>
            have h1 := HM8.out
            have h2 := HM.out
            simp only [Nt.lenV]
            omega
        by_cases k12 : x.k = 12
        · rw [k12] at x0
          have hput := HPut.out
          rw [k12] at hput
          clear HPut
          have hK := Nt.into_keep hgl (fun k e => by cases e) HBx.out HBt.out HP.out (World.grownBy_alloc (wr.setCell ⟨g, i, none⟩ (.bool true)) (.cells #[.int .u8 (12), .int .u64 (St.wd x.s 0 : Nat), .int .u64 (St.wd x.s 1 : Nat), .int .u64 (St.wd x.s 2 : Nat), .int .u64 (St.wd x.s 3 : Nat), .int .i64 x.to, .int .i64 x.gr, .int .i64 x.la, .int .i64 x.sl] 64) none)
          have HK : Hid _ := hK
          have HM8 : Hid (Nt.unW ((wr.setCell ⟨g, i, none⟩ (.bool true)).alloc (.cells #[.int .u8 (12), .int .u64 (St.wd x.s 0 : Nat), .int .u64 (St.wd x.s 1 : Nat), .int .u64 (St.wd x.s 2 : Nat), .int .u64 (St.wd x.s 3 : Nat), .int .i64 x.to, .int .i64 x.gr, .int .i64 x.la, .int .i64 x.sl] 64)) g + 1 = Nt.unB b) := by show _ = _; rw [Nt.unW_bt hK.1]; exact HU.out
          have HI3 : Hid _ := hput [] (by simp) (by simp)
          clear hK hput
          go_wp2_with fail
          go_roundw
          case rel => exact ⟨l, b.set i true, T, c, rfl, (HRow2.out).alloc _, HK.out.1, HK.out.2.1, HK.out.2.2, by have := HI3.out; rwa [List.append_nil] at this, by have := HU.out; omega⟩
          case measure =>
            have h1 := HM8.out
            have h2 := HM.out
            simp only [Nt.lenV]
            omega
        by_cases k2 : x.k = 2
        · rw [k2] at x0
          have hput := HPut.out
          clear HPut
          go_wp2_with (at_builtin; refine Nt.wpList_append_far _ rfl _ _ 45 rfl (w.heap.size + 1) 3 i1 (.int .i64 0) 1 8 Tryd.underlying45 hi1 hy0 hy1 hy2 rfl (by decide) (.slice (some ⟨T, 0, none⟩) l.length c) l.length (Nt.icellsN l) rfl ((HRow2.out.alloc _).alloc _) ⟨wr.heap.size + 1, 0, none⟩ 2 2 [.int .i64 ((i : Int) + 1), .int .i64 x.to] rfl rfl (Nt.two_new2 (by simp) _ _ _ _) (fun u hu => by simp only [List.mem_cons, List.not_mem_nil, or_false] at hu; rcases hu with rfl | rfl <;> rfl) (by unfold maxLen; omega) (by omega) (by simp; omega) ?_)
          intro v3 w8 ho hg8 _ _
          obtain ⟨T8, c8, rfl, _, _⟩ := ho.form (by omega)
          have hK := Nt.into_keep hgl (fun k e => by cases e; exact hT1) HBx.out HBt.out HP.out (Nt.grown_two hg8)
          have HK : Hid _ := hK
          have HM8 : Hid (Nt.unW w8 g + 1 = Nt.unB b) := by show _ = _; rw [Nt.unW_bt hK.1]; exact HU.out
          have HO8 : Hid (w8.ownsRow (w.heap.size + 1) 3 1 (.slice (some ⟨T8, 0, none⟩) (l ++ [i + 1, x.to.toNat]).length c8) (l ++ [i + 1, x.to.toNat]).length (Nt.icellsN (l ++ [i + 1, x.to.toNat]))) := by
            show World.ownsRow _ _ _ _ _ _ _
            have e3 : (l ++ [i + 1, x.to.toNat]).length = l.length + 2 := by simp
            have e4 : Nt.icellsN (l ++ [i + 1, x.to.toNat]) = Nt.icellsN l ++ [.int .i64 ((i : Int) + 1), .int .i64 x.to] := by simp [Nt.icellsN, Int.toNat_of_nonneg ht0]
            rw [e3, e4]
            exact ho
          have HI3 : Hid _ := hput [i + 1, x.to.toNat] (by simp [Nt.nxt, k2]) (by simp [Nt.nxt, k2])
          clear ho hg8 hK hput
          go_wp2_with fail
          go_roundw
          case rel => exact ⟨l ++ [i + 1, x.to.toNat], b.set i true, T8, c8, by simp, HO8.out, HK.out.1, HK.out.2.1, HK.out.2.2, HI3.out, by have := HU.out; simp; omega⟩
          case measure =>
            have h1 := HM8.out
            have h2 := HM.out
            simp only [Nt.lenV]
            omega
        by_cases k3 : x.k = 3
        · rw [k3] at x0
          have hput := HPut.out
          clear HPut
          go_wp2_with (at_builtin; refine Nt.wpList_append_far _ rfl _ _ 45 rfl (w.heap.size + 1) 3 i1 (.int .i64 0) 1 8 Tryd.underlying45 hi1 hy0 hy1 hy2 rfl (by decide) (.slice (some ⟨T, 0, none⟩) l.length c) l.length (Nt.icellsN l) rfl ((HRow2.out.alloc _).alloc _) ⟨wr.heap.size + 1, 0, none⟩ 1 1 [.int .i64 x.to] rfl rfl (Nt.one_new2 (by simp) _ _ _) (fun u hu => by simp only [List.mem_singleton] at hu; subst hu; rfl) (by unfold maxLen; omega) (by omega) (by simp; omega) ?_)
          intro v3 w8 ho hg8 _ _
          obtain ⟨T8, c8, rfl, _, _⟩ := ho.form (by omega)
          have hK := Nt.into_keep hgl (fun k e => by cases e; exact hT1) HBx.out HBt.out HP.out (Nt.grown_two hg8)
          have HK : Hid _ := hK
          have HM8 : Hid (Nt.unW w8 g + 1 = Nt.unB b) := by show _ = _; rw [Nt.unW_bt hK.1]; exact HU.out
          have HO8 : Hid (w8.ownsRow (w.heap.size + 1) 3 1 (.slice (some ⟨T8, 0, none⟩) (l ++ [x.to.toNat]).length c8) (l ++ [x.to.toNat]).length (Nt.icellsN (l ++ [x.to.toNat]))) := by
            show World.ownsRow _ _ _ _ _ _ _
            have e3 : (l ++ [x.to.toNat]).length = l.length + 1 := by simp
            have e4 : Nt.icellsN (l ++ [x.to.toNat]) = Nt.icellsN l ++ [.int .i64 x.to] := by simp [Nt.icellsN, Int.toNat_of_nonneg ht0]
            rw [e3, e4]
            exact ho
          have HI3 : Hid _ := hput [x.to.toNat] (by simp [Nt.nxt, k3]) (by simp [Nt.nxt, k3])
          clear ho hg8 hK hput
          go_wp2_with fail
          go_roundw
          case rel => exact ⟨l ++ [x.to.toNat], b.set i true, T8, c8, by simp, HO8.out, HK.out.1, HK.out.2.1, HK.out.2.2, HI3.out, by have := HU.out; simp; omega⟩
          case measure =>
            have h1 := HM8.out
            have h2 := HM.out
            simp only [Nt.lenV]
            omega
        by_cases k10 : x.k = 10
        · rw [k10] at x0
          have hput := HPut.out
          clear HPut
          by_cases h10 : pl = 0
          · have q : ((pl : Int) == 0) = true := by simp; omega
            have H10 : Hid _ := h10
            clear h10
            go_wp2_with (at_builtin; refine Nt.wpList_append_far _ rfl _ _ 45 rfl (w.heap.size + 1) 3 i1 (.int .i64 0) 1 8 Tryd.underlying45 hi1 hy0 hy1 hy2 rfl (by decide) (.slice (some ⟨T, 0, none⟩) l.length c) l.length (Nt.icellsN l) rfl ((HRow2.out.alloc _).alloc _) ⟨wr.heap.size + 1, 0, none⟩ 1 1 [.int .i64 ((i : Int) + 1)] rfl rfl (Nt.one_new2 (by simp) _ _ _) (fun u hu => by simp only [List.mem_singleton] at hu; subst hu; rfl) (by unfold maxLen; omega) (by omega) (by simp; omega) ?_)
            intro v3 w8 ho hg8 _ _
            obtain ⟨T8, c8, rfl, _, _⟩ := ho.form (by omega)
            have hK := Nt.into_keep hgl (fun k e => by cases e; exact hT1) HBx.out HBt.out HP.out (Nt.grown_two hg8)
            have HK : Hid _ := hK
            have HM8 : Hid (Nt.unW w8 g + 1 = Nt.unB b) := by show _ = _; rw [Nt.unW_bt hK.1]; exact HU.out
            have HO8 : Hid (w8.ownsRow (w.heap.size + 1) 3 1 (.slice (some ⟨T8, 0, none⟩) (l ++ [i + 1]).length c8) (l ++ [i + 1]).length (Nt.icellsN (l ++ [i + 1]))) := by
              show World.ownsRow _ _ _ _ _ _ _
              have e3 : (l ++ [i + 1]).length = l.length + 1 := by simp
              have e4 : Nt.icellsN (l ++ [i + 1]) = Nt.icellsN l ++ [.int .i64 ((i : Int) + 1)] := by simp [Nt.icellsN]
              rw [e3, e4]
              exact ho
            have HI3 : Hid _ := hput [i + 1] (by simp [Nt.nxt, k10, H10.out]) (by simp [Nt.nxt, k10, H10.out])
            clear ho hg8 hK hput
            go_wp2_with fail
            go_roundw
            case rel => exact ⟨l ++ [i + 1], b.set i true, T8, c8, by simp, HO8.out, HK.out.1, HK.out.2.1, HK.out.2.2, HI3.out, by have := HU.out; simp; omega⟩
            case measure =>
              have h1 := HM8.out
              have h2 := HM.out
              simp only [Nt.lenV]
              omega
          · have q : ((pl : Int) == 0) = false := by simp; omega
            have H10 : Hid _ := h10
            clear h10
            have hK := Nt.into_keep hgl (fun k e => by cases e) HBx.out HBt.out HP.out (World.grownBy_alloc (wr.setCell ⟨g, i, none⟩ (.bool true)) (.cells #[.int .u8 (10), .int .u64 (St.wd x.s 0 : Nat), .int .u64 (St.wd x.s 1 : Nat), .int .u64 (St.wd x.s 2 : Nat), .int .u64 (St.wd x.s 3 : Nat), .int .i64 x.to, .int .i64 x.gr, .int .i64 x.la, .int .i64 x.sl] 64) none)
            have HK : Hid _ := hK
            have HM8 : Hid (Nt.unW ((wr.setCell ⟨g, i, none⟩ (.bool true)).alloc (.cells #[.int .u8 (10), .int .u64 (St.wd x.s 0 : Nat), .int .u64 (St.wd x.s 1 : Nat), .int .u64 (St.wd x.s 2 : Nat), .int .u64 (St.wd x.s 3 : Nat), .int .i64 x.to, .int .i64 x.gr, .int .i64 x.la, .int .i64 x.sl] 64)) g + 1 = Nt.unB b) := by show _ = _; rw [Nt.unW_bt hK.1]; exact HU.out
            have HI3 : Hid _ := hput [] (by simp) (by simp [Nt.nxt, k10]; exact H10.out)
            clear hK hput
            go_wp2_with fail
            go_roundw
            case rel => exact ⟨l, b.set i true, T, c, rfl, (HRow2.out).alloc _, HK.out.1, HK.out.2.1, HK.out.2.2, by have := HI3.out; rwa [List.append_nil] at this, by have := HU.out; omega⟩
            case measure =>
              have h1 := HM8.out
              have h2 := HM.out
              simp only [Nt.lenV]
              omega
        by_cases k11 : x.k = 11
        · rw [k11] at x0
          have hput := HPut.out
          clear HPut
          by_cases h11 : pl = s.size
          · have q : ((pl : Int) == (s.size : Int)) = true := by simp; omega
            have H11 : Hid _ := h11
            clear h11
            go_wp2_with (at_builtin; refine Nt.wpList_append_far _ rfl _ _ 45 rfl (w.heap.size + 1) 3 i1 (.int .i64 0) 1 8 Tryd.underlying45 hi1 hy0 hy1 hy2 rfl (by decide) (.slice (some ⟨T, 0, none⟩) l.length c) l.length (Nt.icellsN l) rfl ((HRow2.out.alloc _).alloc _) ⟨wr.heap.size + 1, 0, none⟩ 1 1 [.int .i64 ((i : Int) + 1)] rfl rfl (Nt.one_new2 (by simp) _ _ _) (fun u hu => by simp only [List.mem_singleton] at hu; subst hu; rfl) (by unfold maxLen; omega) (by omega) (by simp; omega) ?_)
            intro v3 w8 ho hg8 _ _
            obtain ⟨T8, c8, rfl, _, _⟩ := ho.form (by omega)
            have hK := Nt.into_keep hgl (fun k e => by cases e; exact hT1) HBx.out HBt.out HP.out (Nt.grown_two hg8)
            have HK : Hid _ := hK
            have HM8 : Hid (Nt.unW w8 g + 1 = Nt.unB b) := by show _ = _; rw [Nt.unW_bt hK.1]; exact HU.out
            have HO8 : Hid (w8.ownsRow (w.heap.size + 1) 3 1 (.slice (some ⟨T8, 0, none⟩) (l ++ [i + 1]).length c8) (l ++ [i + 1]).length (Nt.icellsN (l ++ [i + 1]))) := by
              show World.ownsRow _ _ _ _ _ _ _
              have e3 : (l ++ [i + 1]).length = l.length + 1 := by simp
              have e4 : Nt.icellsN (l ++ [i + 1]) = Nt.icellsN l ++ [.int .i64 ((i : Int) + 1)] := by simp [Nt.icellsN]
              rw [e3, e4]
              exact ho
            have HI3 : Hid _ := hput [i + 1] (by simp [Nt.nxt, k11, H11.out]) (by simp [Nt.nxt, k11, H11.out])
            clear ho hg8 hK hput
            go_wp2_with fail
            go_roundw
            case rel => exact ⟨l ++ [i + 1], b.set i true, T8, c8, by simp, HO8.out, HK.out.1, HK.out.2.1, HK.out.2.2, HI3.out, by have := HU.out; simp; omega⟩
            case measure =>
              have h1 := HM8.out
              have h2 := HM.out
              simp only [Nt.lenV]
              omega
          · have q : ((pl : Int) == (s.size : Int)) = false := by simp; omega
            have H11 : Hid _ := h11
            clear h11
            have hK := Nt.into_keep hgl (fun k e => by cases e) HBx.out HBt.out HP.out (World.grownBy_alloc (wr.setCell ⟨g, i, none⟩ (.bool true)) (.cells #[.int .u8 (11), .int .u64 (St.wd x.s 0 : Nat), .int .u64 (St.wd x.s 1 : Nat), .int .u64 (St.wd x.s 2 : Nat), .int .u64 (St.wd x.s 3 : Nat), .int .i64 x.to, .int .i64 x.gr, .int .i64 x.la, .int .i64 x.sl] 64) none)
            have HK : Hid _ := hK
            have HM8 : Hid (Nt.unW ((wr.setCell ⟨g, i, none⟩ (.bool true)).alloc (.cells #[.int .u8 (11), .int .u64 (St.wd x.s 0 : Nat), .int .u64 (St.wd x.s 1 : Nat), .int .u64 (St.wd x.s 2 : Nat), .int .u64 (St.wd x.s 3 : Nat), .int .i64 x.to, .int .i64 x.gr, .int .i64 x.la, .int .i64 x.sl] 64)) g + 1 = Nt.unB b) := by show _ = _; rw [Nt.unW_bt hK.1]; exact HU.out
            have HI3 : Hid _ := hput [] (by simp) (by simp [Nt.nxt, k11]; exact H11.out)
            clear hK hput
            go_wp2_with fail
            go_roundw
            case rel => exact ⟨l, b.set i true, T, c, rfl, (HRow2.out).alloc _, HK.out.1, HK.out.2.1, HK.out.2.2, by have := HI3.out; rwa [List.append_nil] at this, by have := HU.out; omega⟩
            case measure =>
              have h1 := HM8.out
              have h2 := HM.out
              simp only [Nt.lenV]
              omega
        · have hput := HPut.out
          have j1 : ((x.k : Int) == 1) = false := by simp; omega
          have j2 : ((x.k : Int) == 12) = false := by simp; omega
          have j3 : ((x.k : Int) == 2) = false := by simp; omega
          have j4 : ((x.k : Int) == 3) = false := by simp; omega
          have j5 : ((x.k : Int) == 10) = false := by simp; omega
          have j6 : ((x.k : Int) == 11) = false := by simp; omega
          clear HPut
          go_wp2_with (at_builtin; refine Nt.wpList_append_far _ rfl _ _ 45 rfl (w.heap.size + 1) 3 i1 (.int .i64 0) 1 8 Tryd.underlying45 hi1 hy0 hy1 hy2 rfl (by decide) (.slice (some ⟨T, 0, none⟩) l.length c) l.length (Nt.icellsN l) rfl ((HRow2.out.alloc _).alloc _) ⟨wr.heap.size + 1, 0, none⟩ 1 1 [.int .i64 ((i : Int) + 1)] rfl rfl (Nt.one_new2 (by simp) _ _ _) (fun u hu => by simp only [List.mem_singleton] at hu; subst hu; rfl) (by unfold maxLen; omega) (by omega) (by simp; omega) ?_)
          intro v3 w8 ho hg8 _ _
          obtain ⟨T8, c8, rfl, _, _⟩ := ho.form (by omega)
          have hK := Nt.into_keep hgl (fun k e => by cases e; exact hT1) HBx.out HBt.out HP.out (Nt.grown_two hg8)
          have HK : Hid _ := hK
          have HM8 : Hid (Nt.unW w8 g + 1 = Nt.unB b) := by show _ = _; rw [Nt.unW_bt hK.1]; exact HU.out
          have HO8 : Hid (w8.ownsRow (w.heap.size + 1) 3 1 (.slice (some ⟨T8, 0, none⟩) (l ++ [i + 1]).length c8) (l ++ [i + 1]).length (Nt.icellsN (l ++ [i + 1]))) := by
            show World.ownsRow _ _ _ _ _ _ _
            have e3 : (l ++ [i + 1]).length = l.length + 1 := by simp
            have e4 : Nt.icellsN (l ++ [i + 1]) = Nt.icellsN l ++ [.int .i64 ((i : Int) + 1)] := by simp [Nt.icellsN]
            rw [e3, e4]
            exact ho
          have HI3 : Hid _ := hput [i + 1] (by simp [Nt.nxt, k1, k2, k3, k10, k11, k12]) (by simp [Nt.nxt, k2, k3, k10, k11])
          clear ho hg8 hK hput
          go_wp2_with fail
          go_roundw
          case rel => exact ⟨l ++ [i + 1], b.set i true, T8, c8, by simp, HO8.out, HK.out.1, HK.out.2.1, HK.out.2.2, HI3.out, by have := HU.out; simp; omega⟩
          case measure =>
            have h1 := HM8.out
            have h2 := HM.out
            simp only [Nt.lenV]
            omega
      · rw [hm] at cb
        have HI2 : Hid _ := hI.skip hm
        clear hrow hpre hBt hBx hP hI hm e1
        go_wp2_with fail
        go_roundw
        case rel => exact ⟨l, b, T, c, rfl, HRow.out, HBt.out, HBx.out, HP.out, HI2.out, by omega⟩
        case measure =>
          simp only [Nt.lenV]
          omega
end Go.Proofs.YtdiokclbdaojpaaDoor
