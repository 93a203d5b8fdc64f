/- The reference's Bracket and the program's are one. -/
import Derived.Test.YtmlpfgfpmbnbeaaSRBrE
import Derived.Test.YtmlpfgfpmbnbeaaSBrkB
namespace Go.Proofs.Ytmlpfgfpmbnbeaa
namespace St

theorem elem_fail {s : ByteArray} {i : Nat} (h : (elemP s i).2.2 = false) : (elemP s i).2.1 = i := by
  revert h
  unfold elemP
  split
  · intro _; rfl
  · split
    · intro _; rfl
    · split
      · intro h
        simp only at h ⊢
        exact (one_no h).2
      · split
        · intro h; cases h
        · intro h; cases h
theorem elem_out {s : ByteArray} {i : Nat} (h : s.size ≤ i) : elemP s i = (0, i, false) := by
  unfold elemP
  rw [bt_out h]
  rfl
theorem pre1_of {s : ByteArray} {j a : Nat} : pre1 s j a = (bt s j == a) := rfl
/-- What the two items have to do with one another. -/
theorem item_rel {s : ByteArray} {k : Nat} (hk : k < s.size) :
    ((ritemP s k).2.2.2 = true → ((itemA s k).2.2 = true ∧ (itemA s k).1 = (ritemP s k).1 ∧ (itemA s k).2.1 = (ritemP s k).2.1) ∨ ((itemA s k).2.2 = false ∧ (itemA s k).2.1 = s.size ∧ (ritemP s k).2.1 + 1 = s.size ∧ bt s (ritemP s k).2.1 = 45))
    ∧ ((ritemP s k).2.2.2 = false → (itemA s k).2.2 = false ∧ (itemA s k).2.1 = (ritemP s k).2.2.1) := by
  by_cases h58 : specP s k = 58
  · have hp : pre2 s k 91 58 = true := by
      rcases spec_cases s k with h | h | h | h
      · omega
      · omega
      · exact h.2.1
      · omega
    have e1 : itemA s k = clsI s k := by unfold itemA; rw [hp]; rfl
    have e2 : ritemP s k = ((clsR s k).1, (clsR s k).2.1, k, (clsR s k).2.2) := by unfold ritemP; rw [if_pos h58]
    rw [e1, e2]
    unfold clsI clsR
    cases endC s s.size (k + 2) with
    | none => exact ⟨fun h => (by cases h), fun _ => ⟨rfl, rfl⟩⟩
    | some m =>
      simp only [clsF]
      cases clsB (cutL s (k + 2) m)
      · exact ⟨fun h => (by cases h), fun _ => ⟨rfl, rfl⟩⟩
      · exact ⟨fun _ => .inl ⟨rfl, rfl, rfl⟩, fun h => by cases h⟩
  have hp58 : pre2 s k 91 58 = false := by
    rcases spec_cases s k with h | h | h | h
    · have hb : bt s k = 91 ∧ bt s (k + 1) = 46 := by have h2 := h.2; unfold pre2 at h2; rw [Bool.and_eq_true, beq_iff_eq, beq_iff_eq] at h2; exact h2
      rw [pre2_of hb.1 hb.2]; rfl
    · exact h.2.2.2
    · omega
    · exact h.2.2.2
  have e1 : itemA s k = itemP s k := by unfold itemA; rw [hp58]; rfl
  rw [e1]
  by_cases h61 : specP s k = 61
  · have hp : pre2 s k 91 61 = true := by
      rcases spec_cases s k with h | h | h | h
      · omega
      · exact h.2.1
      · omega
      · omega
    have e2 : ritemP s k = (rng (oneC s k) (oneC s k), oneN s k, k, oneOk s k) := by unfold ritemP; rw [if_neg h58, if_pos h61]
    have e3 : itemP s k = (rng (oneC s k) (oneC s k), oneN s k, oneOk s k) := by unfold itemP; rw [hp]; rfl
    rw [e2, e3]
    exact ⟨fun h => .inl ⟨h, rfl, rfl⟩, fun h => ⟨h, (one_no h).2⟩⟩
  have hp61 : pre2 s k 91 61 = false := by
    rcases spec_cases s k with h | h | h | h
    · have hb : bt s k = 91 ∧ bt s (k + 1) = 46 := by have h2 := h.2; unfold pre2 at h2; rw [Bool.and_eq_true, beq_iff_eq, beq_iff_eq] at h2; exact h2
      rw [pre2_of hb.1 hb.2]; rfl
    · omega
    · exact h.2.2.2
    · exact h.2.2.1
  cases hok : (elemP s k).2.2
  · have e2 : ritemP s k = (inL [], 0, k, false) := by unfold ritemP; rw [if_neg h58, if_neg h61, if_pos hok]
    have e3 : itemP s k = (rng (elemP s k).1 (elemP s k).1, (elemP s k).2.1, (elemP s k).2.2) := by unfold itemP; rw [hp61, hok]; rfl
    rw [e2, e3]
    exact ⟨fun h => (by cases h), fun _ => ⟨hok, elem_fail hok⟩⟩
  have hle := (elem_le s k (Nat.le_of_lt hk)).2
  have e2 : ritemP s k = if noRng s (elemP s k).2.1 = true then (rng (elemP s k).1 (elemP s k).1, (elemP s k).2.1, 0, true)
      else if (!(elemP s ((elemP s k).2.1 + 1)).2.2 || decide ((elemP s ((elemP s k).2.1 + 1)).1 < (elemP s k).1)) = true then (inL [], 0, (elemP s k).2.1 + 1, false)
      else (rng (elemP s k).1 (elemP s ((elemP s k).2.1 + 1)).1, (elemP s ((elemP s k).2.1 + 1)).2.1, 0, true) := by
    unfold ritemP; rw [if_neg h58, if_neg h61, if_neg (by rw [hok]; decide)]
  have e3 : itemP s k = if (!pre1 s (elemP s k).2.1 45 || pre2 s (elemP s k).2.1 45 93) = true then (rng (elemP s k).1 (elemP s k).1, (elemP s k).2.1, true)
      else if (!(elemP s ((elemP s k).2.1 + 1)).2.2 || decide ((elemP s ((elemP s k).2.1 + 1)).1 < (elemP s k).1)) = true then (inL [], (elemP s k).2.1 + 1, false)
      else (rng (elemP s k).1 (elemP s ((elemP s k).2.1 + 1)).1, (elemP s ((elemP s k).2.1 + 1)).2.1, true) := by
    unfold itemP; rw [hp61, hok]; rfl
  rw [e2, e3]
  generalize (elemP s k).2.1 = j at *
  generalize (elemP s k).1 = c1 at *
  by_cases hb : bt s j = 45
  · have hj : j < s.size := bt_lt_iff.1 (by omega)
    have hp1 : pre1 s j 45 = true := by rw [pre1_of, hb]; rfl
    by_cases hend : s.size ≤ j + 1
    · have hn : noRng s j = true := by unfold noRng; rw [decide_eq_true hend]; rfl
      have hp2 : pre2 s j 45 93 = false := by rw [pre2_of hb (bt_out hend)]; rfl
      rw [hn, hp1, hp2, elem_out hend]
      exact ⟨fun _ => .inr ⟨rfl, show j + 1 = s.size by omega, show j + 1 = s.size by omega, hb⟩, fun h => by cases h⟩
    · by_cases h93 : bt s (j + 1) = 93
      · have hn : noRng s j = true := by unfold noRng; rw [h93]; simp
        have hp2 : pre2 s j 45 93 = true := by rw [pre2_of hb h93]; rfl
        rw [hn, hp1, hp2]
        exact ⟨fun _ => .inl ⟨rfl, rfl, rfl⟩, fun h => by cases h⟩
      · have hn : noRng s j = false := by
          unfold noRng
          rw [decide_eq_false hend, hb, show (bt s (j + 1) == 93) = false from by simpa using h93]; rfl
        have hp2 : pre2 s j 45 93 = false := by rw [pre2_of hb rfl, show (bt s (j + 1) == 93) = false from by simpa using h93]; rfl
        rw [hn, hp1, hp2]
        simp only [Bool.false_eq_true, if_false, Bool.not_true, Bool.or_self]
        split
        · exact ⟨fun h => (by cases h), fun _ => ⟨rfl, rfl⟩⟩
        · exact ⟨fun _ => .inl ⟨rfl, rfl, rfl⟩, fun h => by cases h⟩
  · have hp1 : pre1 s j 45 = false := by rw [pre1_of]; simpa using hb
    have hn : noRng s j = true := by unfold noRng; rw [show (bt s j == 45) = false from by simpa using hb]; simp
    rw [hn, hp1]
    exact ⟨fun _ => .inl ⟨rfl, rfl, rfl⟩, fun h => by cases h⟩

/-- The last sign of a text, a - : an item of its own. -/
theorem item_dash {s : ByteArray} {j : Nat} (h1 : j + 1 = s.size) (h2 : bt s j = 45) : ritemP s j = (rng 45 45, s.size, 0, true) := by
  have hb1 : bt s (j + 1) = 256 := bt_out (by omega)
  have hsp : specP s j = 0 := spec_end (by omega)
  have p1 : pre2 s j 91 46 = false := by rw [pre2_of h2 hb1]; rfl
  have p2 : pre2 s j 91 61 = false := by rw [pre2_of h2 hb1]; rfl
  have p3 : pre2 s j 91 58 = false := by rw [pre2_of h2 hb1]; rfl
  have p4 : pre2 s j 92 110 = false := by rw [pre2_of h2 hb1]; rfl
  have he : elemP s j = (45, s.size, true) := by rw [elem_one (by omega) p1 p2 p3 p4, h2, h1]
  have hn : noRng s s.size = true := by unfold noRng; rw [decide_eq_true (by omega)]; rfl
  unfold ritemP
  rw [hsp, he]
  simp [hn]

theorem rbr_eq (s : ByteArray) (none : Bool) (fst : Nat) : ∀ (n k f f' : Nat) (acc : Nat → Bool), s.size - k = n → fst ≤ k → k ≤ s.size → s.size < k + f → s.size < k + f' →
    rbrGo s none fst f k acc = brGo (itemA s) s none f' k (decide (k = fst)) acc := by
  intro n
  induction n using Nat.strongRecOn with
  | _ n ih =>
    intro k f f' acc hn hfk hk hf hf'
    obtain ⟨f, rfl⟩ : ∃ g, f = g + 1 := ⟨f - 1, by omega⟩
    obtain ⟨f', rfl⟩ : ∃ g, f' = g + 1 := ⟨f' - 1, by omega⟩
    by_cases hlt : k < s.size
    · by_cases h2 : bt s k = 93 ∧ fst < k
      · have hc : (decide (k = fst) || (decide (k < s.size) && !(bt s k == 93))) = false := by
          rw [h2.1, decide_eq_false (show ¬ k = fst by omega)]; simp
        rw [rbr_ok hlt h2, brGo_ok hc (by omega)]
      · have hc : (decide (k = fst) || (decide (k < s.size) && !(bt s k == 93))) = true := by
          by_cases e : k = fst
          · rw [decide_eq_true e]; rfl
          · rw [decide_eq_true hlt, show (bt s k == 93) = false from by rw [beq_eq_false_iff_ne]; intro h; exact h2 ⟨h, by omega⟩]; simp
        obtain ⟨r1, r2⟩ := item_rel hlt
        cases hok : (ritemP s k).2.2.2
        · obtain ⟨h3, h4⟩ := r2 hok
          rw [rbr_bad hlt h2 hok, brGo_bad hc h3, h4]
        · have hm := ritem_ok hlt hok
          rw [rbr_go hlt h2 hok]
          rcases r1 hok with ⟨h3, h4, h5⟩ | ⟨h3, h4, h5, h6⟩
          · rw [brGo_go hc h3, h4, h5]
            have := ih (s.size - (ritemP s k).2.1) (by omega) (ritemP s k).2.1 f f' (fun x => acc x || (ritemP s k).1 x) rfl (by omega) hm.2 (by omega) (by omega)
            rw [this, decide_eq_false (show ¬ (ritemP s k).2.1 = fst by omega)]
          · rw [brGo_bad hc h3, h4]
            obtain ⟨f2, rfl⟩ : ∃ g, f = g + 1 := ⟨f - 1, by omega⟩
            have hd := item_dash h5 h6
            generalize (ritemP s k).2.1 = j at *
            rw [rbr_go (by omega) (by rintro ⟨h, _⟩; omega) (by rw [hd]), hd]
            exact rbr_end (by simp)
    · have hke : k = s.size := by omega
      rw [rbr_end hlt]
      by_cases e : k = fst
      · have hc : (decide (k = fst) || (decide (k < s.size) && !(bt s k == 93))) = true := by rw [decide_eq_true e]; rfl
        have hi : itemA s k = (rng 0 0, k, false) := by
          have b1 : bt s k = 256 := bt_out (by omega)
          have p1 : pre2 s k 91 58 = false := by rw [pre2_of b1 rfl]; rfl
          have p2 : pre2 s k 91 61 = false := by rw [pre2_of b1 rfl]; rfl
          unfold itemA itemP
          rw [p1, p2, elem_out (by omega)]
          rfl
        rw [brGo_bad hc (by rw [hi]), hi, hke]
      · have hc : (decide (k = fst) || (decide (k < s.size) && !(bt s k == 93))) = false := by rw [decide_eq_false e, decide_eq_false hlt]; rfl
        rw [brGo_end hc hke, hke]
theorem brackets_one (s : ByteArray) (_hs : 0 ≤ s.size) : rbrP s = brP (itemA s) s := by
  unfold rbrP brP
  have hk : k0 (pre1 s 0 94) ≤ s.size := by
    unfold k0
    split
    · rename_i h
      rw [pre1_of, beq_iff_eq] at h
      exact bt_lt_iff.1 (by omega)
    · omega
  rw [rbr_eq s (pre1 s 0 94) (k0 (pre1 s 0 94)) _ _ _ (s.size + 1) _ rfl (Nat.le_refl _) hk (by omega) (by omega)]
  rw [decide_eq_true rfl]
  rfl
theorem itemA_ok {s : ByteArray} {i : Nat} (h : (itemA s i).2.2 = true) : i < (itemA s i).2.1 ∧ (itemA s i).2.1 ≤ s.size := by
  revert h
  unfold itemA
  split
  · unfold clsI
    cases he : endC s s.size (i + 2) with
    | none => intro h; cases h
    | some m =>
      have h1 := endC_some he
      have h2 := pre2_room h1.2.1 (by decide) (by decide)
      simp only
      split
      · intro _
        show i < m + 2 ∧ m + 2 ≤ s.size
        omega
      · intro h; cases h
  · exact item_ok
end St
end Go.Proofs.Ytmlpfgfpmbnbeaa
