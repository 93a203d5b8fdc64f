/- Plain facts: how long what is written of changes may be; of two texts that are not one something is told. -/
import Derived.Test.YtpoimhkfajppmaaDoorLItoa
import Derived.Test.YtpoimhkfajppmaaDoorLQuote
namespace Go.Proofs.YtpoimhkfajppmaaDoor
namespace Ln
theorem tot_drop_le (l : List (ByteArray × Bool)) (k : Nat) : tot (l.drop k) ≤ tot l := by
  have h := tot_append (l.take k) (l.drop k)
  rw [List.take_append_drop] at h
  omega
theorem tot_part (l : List Chg) (f m : Nat) : tot (((l.drop f).take m).map (·.2)) ≤ tot (l.map (·.2)) := by
  rw [List.map_take, List.map_drop]
  exact Nat.le_trans (tot_take_le _ _) (tot_drop_le _ _)
theorem chB_len (c : Chg) : (chB c).length ≤ c.2.1.size + 30 := by
  unfold chB
  simp only [List.length_cons, List.length_append, szL, List.length_nil]
  split
  · simp
  · simp [noNl]
theorem chs_len : ∀ l : List Chg, (l.flatMap chB).length ≤ tot (l.map (·.2)) + 30 * l.length
  | [] => by simp
  | c :: r => by
    have h1 := chB_len c
    have h2 := chs_len r
    simp only [List.flatMap_cons, List.length_append, List.map_cons, tot, List.length_cons]
    omega
theorem dec_len (u : Nat) : (Lib.decDigits u).length ≤ u + 1 := by rw [Lib.decDigits_length]; exact nDigits_le u
theorem place_len (a n : Nat) : (placeP a n).length ≤ 2 * a + 2 * n + 10 := by
  unfold placeP
  have h1 := dec_len a
  have h2 := dec_len (a + 1)
  have h3 := dec_len n
  split
  · simp; omega
  · split
    · omega
    · simp; omega
theorem hunk_len (l : List Chg) (f t : Nat) (hl : l.length ≤ 8192) (ht : tot (l.map (·.2)) ≤ 4194304) : (hunkB l f t).length ≤ 5000000 := by
  unfold hunkB
  have a1 := place_len (cntO (l.take f)) (cntO (sub l f t))
  have a2 := place_len (cntN (l.take f)) (cntN (sub l f t))
  have b1 := cntO_le (l.take f)
  have b2 := cntO_le (sub l f t)
  have b3 := cntN_le (l.take f)
  have b4 := cntN_le (sub l f t)
  have c1 : (l.take f).length ≤ l.length := List.length_take_le' _ _
  have c2 : (sub l f t).length ≤ l.length := by unfold sub; simp; omega
  have d1 := chs_len (sub l f t)
  have d2 : tot ((sub l f t).map (·.2)) ≤ tot (l.map (·.2)) := tot_part l f (t - f)
  simp only [List.length_append, List.length_cons, List.length_nil]
  omega
theorem part_len (l : List Chg) (f t i : Nat) (hl : l.length ≤ 8192) (ht : tot (l.map (·.2)) ≤ 4194304) : (((sub l f t).take i).flatMap chB).length ≤ 4500000 := by
  have d1 := chs_len ((sub l f t).take i)
  have c2 : ((sub l f t).take i).length ≤ l.length := by unfold sub; simp; omega
  have d2 : tot (((sub l f t).take i).map (·.2)) ≤ tot (l.map (·.2)) := by
    unfold sub
    rw [List.take_take]
    exact tot_part l f _
  omega
theorem quoP_size (s : ByteArray) : (quoP s).size ≤ 4 * s.size + 2 := by
  have := quoS_len s.data.toList
  rw [szL] at this
  rw [← szL]
  simp [quoP, bs]
  omega
theorem join_splB (s : ByteArray) : joinL (splB s) = s.data.toList := join_spl s.data.toList
theorem splB_inj {s t : ByteArray} (h : splB s = splB t) : s = t := by
  have h1 := join_splB s
  rw [h, join_splB] at h1
  exact bytes_ext (by rw [toL, toL]; exact h1.symm)
theorem diff_none {a b : List (ByteArray × Bool)} (h : diffP a b = []) : a = b := by
  have h1 := (diff_makes _ a b (Nat.le_refl _)).1
  rw [h] at h1
  unfold applyP at h1
  split at h1
  · rename_i e; subst e; cases h1; rfl
  · cases h1
/-- What is told of two texts that are not one, and not too long. -/
theorem told_of {s t : ByteArray} {D : List Chg} (h : diffR (splB s) (splB t) = (D, 0)) (hs : s.size ≤ 1048576) (ht : t.size ≤ 1048576) :
    D = diffP (splB s) (splB t) ∧ D.length ≤ 8192 ∧ (∀ x ∈ D, x.1 < 256) ∧ (∀ x ∈ D, x.2.1.size ≤ 67108864) ∧ tot (D.map (·.2)) ≤ 4194304 ∧ (D = [] → s = t) := by
  unfold diffR at h
  split at h
  · cases h
  · rename_i hc
    have hD : D = diffP (splB s) (splB t) := (congrArg Prod.fst h).symm
    obtain ⟨q1, q2, q3⟩ := diff_of _ (splB s) (splB t) (Nat.le_refl _)
    have m1 := splB_tot s
    have m2 := splB_tot t
    rw [← hD] at q1 q2 q3
    refine ⟨hD, by omega, fun x hx => ?_, fun x hx => ?_, Nat.le_trans q3 (by omega), fun e => ?_⟩
    · rcases (q2 x hx).1 with e | e | e <;> omega
    · rcases (q2 x hx).2 with e | e
      · have := splB_mem s _ e; omega
      · have := splB_mem t _ e; omega
    · rw [e] at hD
      exact splB_inj (diff_none hD.symm)
end Ln
end Go.Proofs.YtpoimhkfajppmaaDoor
