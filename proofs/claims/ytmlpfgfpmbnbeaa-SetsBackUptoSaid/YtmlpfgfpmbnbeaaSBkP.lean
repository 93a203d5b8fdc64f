/- What is printed is read as the set. -/
import Derived.Test.YtmlpfgfpmbnbeaaSBrEq
import Derived.Test.YtmlpfgfpmbnbeaaSRPr
namespace Go.Proofs.Ytmlpfgfpmbnbeaa
namespace St

theorem prGo_app (q : Nat → Bool) : ∀ (f k : Nat) (out : List UInt8), prGo q f k out = out ++ prGo q f k []
  | 0, k, out => by rw [prGo, prGo]; simp
  | f + 1, k, out => by
    rw [prGo, prGo]
    split
    · split
      · rw [prGo_app q f _ (out ++ _), prGo_app q f _ ([] ++ _)]; simp
      · exact prGo_app q f _ out
    · simp
theorem toP_all {q : Nat → Bool} : ∀ {f k : Nat}, q k = true → ∀ x, k ≤ x → x ≤ toP q f k → q x = true
  | 0, k, h, x, h1, h2 => by
    rw [toP] at h2
    obtain rfl : x = k := by omega
    exact h
  | f + 1, k, h, x, h1, h2 => by
    rw [toP] at h2
    split at h2
    · rename_i hc
      by_cases e : x = k
      · rw [e]; exact h
      · have hq : q (k + 1) = true := by
          rw [Bool.and_eq_true] at hc
          exact hc.2
        exact toP_all hq x (by omega) h2
    · obtain rfl : x = k := by omega
      exact h
theorem bt_at {s : ByteArray} {pre L : List UInt8} (h : s.data.toList = pre ++ L) (j : Nat) : bt s (pre.length + j) = ((L[j]?).map UInt8.toNat).getD 256 := by
  rw [bt_drop, h, List.getElem?_drop, Nat.add_zero, List.getElem?_append_right (by omega)]
  congr 3
  omega
theorem toNat_of {c : Nat} (hc : c < 256) : (UInt8.ofNat c).toNat = c := by simp; omega

theorem elem_at {s : ByteArray} {pre rest : List UInt8} {c : Nat} (hc : c < 256) (h : s.data.toList = pre ++ (eltB c ++ rest)) :
    elemP s pre.length = (c, pre.length + (eltB c).length, true) ∧ pre2 s pre.length 91 58 = false ∧ pre2 s pre.length 91 61 = false ∧ bt s pre.length ≠ 93 ∧ bt s pre.length ≠ 45 ∧ bt s pre.length ≠ 94 := by
  cases hs : spec c
  · rw [elt_no hs] at h
    obtain ⟨n1, n2, n3, n4, n5, n6⟩ := spec_off hs
    have b0 : bt s pre.length = c := by
      have := bt_at h 0
      rw [Nat.add_zero] at this
      rw [this]
      simpa using toNat_of hc
    have p1 : ∀ x, pre2 s pre.length 91 x = false := fun x => by rw [pre2_of b0 rfl, show (c == 91) = false from by simpa using n1]; rfl
    have p4 : pre2 s pre.length 92 110 = false := by rw [pre2_of b0 rfl, show (c == 92) = false from by simpa using n5]; rfl
    have hlt : pre.length < s.size := by rw [← Ln.szL, h]; simp
    refine ⟨?_, p1 58, p1 61, by omega, by omega, by omega⟩
    rw [elem_one hlt (p1 46) (p1 61) (p1 58) p4, b0, elt_no hs]
    rfl
  · rw [elt_yes hs] at h
    have b0 : bt s pre.length = 91 := by
      have := bt_at h 0
      rw [Nat.add_zero] at this
      rw [this]; rfl
    have b1 : bt s (pre.length + 1) = 46 := by rw [bt_at h 1]; rfl
    have b2 : bt s (pre.length + 2) = c := by rw [bt_at h 2]; exact toNat_of hc
    have b3 : bt s (pre.length + 3) = 46 := by rw [bt_at h 3]; rfl
    have b4 : bt s (pre.length + 4) = 93 := by rw [bt_at h 4]; rfl
    have hlt : pre.length + 4 < s.size := by rw [← Ln.szL, h]; simp
    have hok : oneOk s pre.length = true := by unfold oneOk; rw [decide_eq_true hlt, b1, b3, b4]; rfl
    refine ⟨?_, by rw [pre2_of b0 b1]; rfl, by rw [pre2_of b0 b1]; rfl, by omega, by omega, by omega⟩
    rw [elem_46 (by rw [pre2_of b0 b1]; rfl), (one_yes hok).1, (one_yes hok).2, hok, b2, elt_yes hs]
    rfl

/-- A byte by itself. -/
theorem item_single {s : ByteArray} {pre rest : List UInt8} {c : Nat} (hc : c < 256) (h : s.data.toList = pre ++ (eltB c ++ rest)) (hr : ∀ b, rest.head? = some b → b ≠ 45) :
    itemA s pre.length = (rng c c, pre.length + (eltB c).length, true) := by
  obtain ⟨he, p1, p2, _⟩ := elem_at hc h
  have h' : s.data.toList = (pre ++ eltB c) ++ rest := by rw [h]; simp
  have hb : bt s (pre.length + (eltB c).length) ≠ 45 := by
    have := bt_at h' 0
    rw [Nat.add_zero, List.length_append] at this
    rw [this]
    cases rest with
    | nil => simp
    | cons b r =>
      have := hr b rfl
      simp only [List.getElem?_cons_zero, Option.map_some, Option.getD_some]
      intro e
      apply this
      rw [← UInt8.toNat_inj]
      simpa using e
  unfold itemA itemP
  rw [p1, p2, he]
  have hp : pre1 s (pre.length + (eltB c).length) 45 = false := by rw [pre1_of]; simpa using hb
  simp [hp]
/-- A range. -/
theorem item_range {s : ByteArray} {pre rest : List UInt8} {c d : Nat} (hc : c < 256) (hd : d < 256) (hcd : c ≤ d) (h : s.data.toList = pre ++ (eltB c ++ ([45] ++ (eltB d ++ rest)))) :
    itemA s pre.length = (rng c d, pre.length + (eltB c ++ ([45] ++ eltB d)).length, true) := by
  obtain ⟨he, p1, p2, _⟩ := elem_at hc h
  have h' : s.data.toList = (pre ++ eltB c) ++ ([45] ++ (eltB d ++ rest)) := by rw [h]; simp
  have h'' : s.data.toList = (pre ++ eltB c ++ [45]) ++ (eltB d ++ rest) := by rw [h]; simp
  have hb : bt s (pre.length + (eltB c).length) = 45 := by
    have := bt_at h' 0
    rw [Nat.add_zero, List.length_append] at this
    rw [this]; rfl
  obtain ⟨he2, _, _, n93, _⟩ := elem_at hd h''
  have hl : (pre ++ eltB c ++ [45]).length = pre.length + (eltB c).length + 1 := by simp; omega
  rw [hl] at he2 n93
  have hp : pre1 s (pre.length + (eltB c).length) 45 = true := by rw [pre1_of, hb]; rfl
  have hp2 : pre2 s (pre.length + (eltB c).length) 45 93 = false := by rw [pre2_of hb rfl, show (bt s (pre.length + (eltB c).length + 1) == 93) = false from by simpa using n93]; rfl
  unfold itemA itemP
  rw [p1, p2, he]
  simp only [hp, hp2, he2]
  rw [if_neg (by decide), if_neg (by decide), if_neg (by decide), if_neg (by rw [decide_eq_false (show ¬ d < c by omega)]; decide)]
  simp only [List.length_append, List.length_cons, List.length_nil, Prod.mk.injEq, and_true, true_and]
  omega

theorem head_elt (c : Nat) (rest : List UInt8) : ∃ b, (eltB c ++ rest).head? = some b ∧ b ≠ 45 ∨ 256 ≤ c := by
  by_cases hc : c < 256
  · cases hs : spec c
    · rw [elt_no hs]
      obtain ⟨n1, n2, n3, n4, n5, n6⟩ := spec_off hs
      refine ⟨UInt8.ofNat c, .inl ⟨rfl, fun e => n4 ?_⟩⟩
      have := congrArg UInt8.toNat e
      rw [toNat_of hc] at this
      exact this
    · rw [elt_yes hs]
      exact ⟨91, .inl ⟨rfl, by decide⟩⟩
  · exact ⟨0, .inr (by omega)⟩
theorem head_ne (q : Nat → Bool) : ∀ (f k : Nat) (b : UInt8), (prGo q f k [] ++ [93]).head? = some b → b ≠ 45
  | 0, k, b, h => by
    rw [prGo] at h
    simp at h
    subst h
    decide
  | f + 1, k, b, h => by
    rw [prGo] at h
    split at h
    · rename_i hk
      split at h
      · rw [prGo_app] at h
        unfold runB at h
        obtain ⟨b', hb' | hb'⟩ := head_elt k ((if (k == toP q 256 k) = true then [] else (if 1 < toP q 256 k - k then [45] else []) ++ eltB (toP q 256 k)) ++ prGo q f (toP q 256 k + 1) [] ++ [93])
        · rw [show ([] ++ (eltB k ++ if (k == toP q 256 k) = true then [] else (if 1 < toP q 256 k - k then [45] else []) ++ eltB (toP q 256 k)) ++ prGo q f (toP q 256 k + 1) []) ++ [93] = eltB k ++ ((if (k == toP q 256 k) = true then [] else (if 1 < toP q 256 k - k then [45] else []) ++ eltB (toP q 256 k)) ++ prGo q f (toP q 256 k + 1) [] ++ [93]) by simp, hb'.1] at h
          injection h with h
          rw [← h]
          exact hb'.2
        · omega
      · exact head_ne q f _ b h
    · simp at h
      subst h
      decide

/-- What a run of a set adds. -/
theorem run_adds {q : Nat → Bool} {k T : Nat} (hall : ∀ x, k ≤ x → x ≤ T → q x = true) (_hkT : k ≤ T) (x : Nat) : (rng k T x || (q x && decide (T + 1 ≤ x))) = (q x && decide (k ≤ x)) := by
  unfold rng
  by_cases h1 : k ≤ x
  · by_cases h2 : x ≤ T
    · rw [hall x h1 h2, decide_eq_true h1, decide_eq_true h2]; simp
    · rw [decide_eq_true h1, decide_eq_false h2, decide_eq_true (show T + 1 ≤ x by omega)]; simp
  · rw [decide_eq_false h1, decide_eq_false (show ¬ T + 1 ≤ x by omega)]; simp

theorem read_print (q : Nat → Bool) (none : Bool) (S : ByteArray) : ∀ (f k F : Nat) (pre : List UInt8) (first : Bool) (acc : Nat → Bool), k ≤ 256 → 256 < k + f → S.data.toList = pre ++ (prGo q f k [] ++ [93]) → S.size < pre.length + F → (first = true → ∃ x, k ≤ x ∧ x < 256 ∧ q x = true) →
    ∃ b, brGo (itemA S) S none F pre.length first acc = (b, S.size, 0, 0) ∧ ∀ x, x < 256 → b x = (none ^^ (acc x || (q x && decide (k ≤ x)))) := by
  intro f
  induction f with
  | zero => intro k F pre first acc hk hf; omega
  | succ f ih =>
    intro k F pre first acc hk hf hS hF hne
    obtain ⟨F, rfl⟩ : ∃ g, F = g + 1 := ⟨F - 1, by
      have : pre.length ≤ S.size := by rw [← Ln.szL, hS]; simp
      omega⟩
    by_cases hlt : k < 256
    · cases hp : q k
      · rw [prGo_no hlt hp] at hS
        obtain ⟨b, h1, h2⟩ := ih (k + 1) (F + 1) pre first acc (by omega) (by omega) hS hF (fun hf' => by
          obtain ⟨x, hx1, hx2, hx3⟩ := hne hf'
          refine ⟨x, ?_, hx2, hx3⟩
          by_cases e : x = k
          · subst e; rw [hp] at hx3; cases hx3
          · omega)
        refine ⟨b, h1, fun x hx => ?_⟩
        rw [h2 x hx]
        congr 2
        by_cases e : x = k
        · subst e; rw [hp]; simp
        · congr 1
          rw [decide_eq_decide]; omega
      · rw [prGo_yes hlt hp, prGo_app] at hS
        have hrg := toP_range q 256 k hlt
        have hall : ∀ x, k ≤ x → x ≤ toP q 256 k → q x = true := fun x h1 h2 => toP_all hp x h1 h2
        generalize toP q 256 k = T at *
        have hc : (first || (decide (pre.length < S.size) && !(bt S pre.length == 93))) = true := by
          have hS2 : S.data.toList = pre ++ (eltB k ++ ((if (k == T) = true then [] else (if 1 < T - k then [45] else []) ++ eltB T) ++ (prGo q f (T + 1) [] ++ [93]))) := by rw [hS]; unfold runB; simp
          have h93 := (elem_at hlt hS2).2.2.2.1
          have hl : pre.length < S.size := by rw [← Ln.szL, hS]; simp; omega
          rw [decide_eq_true hl, show (bt S pre.length == 93) = false from by simpa using h93]; simp
        obtain hkT | hkT | hkT : T = k ∨ T = k + 1 ∨ k + 1 < T := by omega
        · subst hkT
          rw [run_same] at hS
          have hS2 : S.data.toList = pre ++ (eltB T ++ (prGo q f (T + 1) [] ++ [93])) := by rw [hS]; simp
          have hi := item_single hlt hS2 (head_ne q f (T + 1))
          have hS3 : S.data.toList = (pre ++ eltB T) ++ (prGo q f (T + 1) [] ++ [93]) := by rw [hS]; simp
          have hle : 1 ≤ (eltB T).length := by unfold eltB; split <;> simp
          obtain ⟨b, h1, h2⟩ := ih (T + 1) F (pre ++ eltB T) false (fun x => acc x || rng T T x) (by omega) (by omega) hS3 (by rw [List.length_append]; omega) (fun h => by cases h)
          refine ⟨b, ?_, fun x hx => ?_⟩
          · rw [brGo_go hc (by rw [hi]), hi, ← h1, List.length_append]
          · rw [h2 x hx, Bool.or_assoc, run_adds hall (Nat.le_refl _)]
        · subst hkT
          rw [run_next] at hS
          have hS2 : S.data.toList = pre ++ (eltB k ++ (eltB (k + 1) ++ (prGo q f (k + 1 + 1) [] ++ [93]))) := by rw [hS]; simp
          have hi := item_single hlt hS2 (fun b hb => by
            obtain ⟨b', hb' | hb'⟩ := head_elt (k + 1) (prGo q f (k + 1 + 1) [] ++ [93])
            · rw [hb'.1] at hb; injection hb with hb; rw [← hb]; exact hb'.2
            · omega)
          have hS3 : S.data.toList = (pre ++ eltB k) ++ (eltB (k + 1) ++ (prGo q f (k + 1 + 1) [] ++ [93])) := by rw [hS]; simp
          have hi2 := item_single (by omega) hS3 (head_ne q f (k + 1 + 1))
          have h93 := (elem_at (by omega) hS3).2.2.2.1
          have hS4 : S.data.toList = (pre ++ eltB k ++ eltB (k + 1)) ++ (prGo q f (k + 1 + 1) [] ++ [93]) := by rw [hS]; simp
          have hl1 : 1 ≤ (eltB k).length := by unfold eltB; split <;> simp
          have hl2 : 1 ≤ (eltB (k + 1)).length := by unfold eltB; split <;> simp
          have hsz : (pre ++ eltB k).length < S.size := by rw [← Ln.szL, hS3]; simp; omega
          have hFl : S.size < pre.length + (F + 1) := hF
          have hsz2 : S.size = pre.length + (eltB k).length + (eltB (k + 1)).length + (prGo q f (k + 1 + 1) []).length + 1 := by rw [← Ln.szL, hS4]; simp; omega
          obtain ⟨F, rfl⟩ : ∃ g, F = g + 1 := ⟨F - 1, by omega⟩
          have hc2 : (false || (decide ((pre ++ eltB k).length < S.size) && !(bt S (pre ++ eltB k).length == 93))) = true := by
            rw [decide_eq_true hsz, show (bt S (pre ++ eltB k).length == 93) = false from by simpa using h93]; simp
          obtain ⟨b, h1, h2⟩ := ih (k + 1 + 1) F (pre ++ eltB k ++ eltB (k + 1)) false (fun x => (acc x || rng k k x) || rng (k + 1) (k + 1) x) (by omega) (by omega) hS4 (by simp only [List.length_append]; omega) (fun h => by cases h)
          refine ⟨b, ?_, fun x hx => ?_⟩
          · rw [brGo_go hc (by rw [hi]), hi]
            simp only
            rw [← List.length_append, brGo_go hc2 (by rw [hi2]), hi2, ← h1]
            simp only [List.length_append]
          · rw [h2 x hx, Bool.or_assoc, Bool.or_assoc, run_adds (fun y h3 h4 => hall y (by omega) h4) (Nat.le_refl _), run_adds (fun y h3 h4 => hall y h3 (by omega)) (Nat.le_refl _)]
        · rw [run_more hkT] at hS
          have hS2 : S.data.toList = pre ++ (eltB k ++ ([45] ++ (eltB T ++ (prGo q f (T + 1) [] ++ [93])))) := by rw [hS]; simp
          have hi := item_range hlt hrg.2 hrg.1 hS2
          have hS3 : S.data.toList = (pre ++ (eltB k ++ ([45] ++ eltB T))) ++ (prGo q f (T + 1) [] ++ [93]) := by rw [hS]; simp
          obtain ⟨b, h1, h2⟩ := ih (T + 1) F (pre ++ (eltB k ++ ([45] ++ eltB T))) false (fun x => acc x || rng k T x) (by omega) (by omega) hS3 (by simp only [List.length_append, List.length_cons, List.length_nil]; omega) (fun h => by cases h)
          refine ⟨b, ?_, fun x hx => ?_⟩
          · rw [brGo_go hc (by rw [hi]), hi, ← h1]
            simp only [List.length_append]
          · rw [h2 x hx, Bool.or_assoc, run_adds hall hrg.1]
    · have hke : k = 256 := by omega
      subst hke
      rw [prGo_end (by omega)] at hS
      have hfirst : first = false := by
        cases first
        · rfl
        · obtain ⟨x, h1, h2, _⟩ := hne rfl
          omega
      subst hfirst
      have hb : bt S pre.length = 93 := by
        have := bt_at hS 0
        rw [Nat.add_zero] at this
        rw [this]; rfl
      have hsz : S.size = pre.length + 1 := by rw [← Ln.szL, hS]; simp
      have hc : (false || (decide (pre.length < S.size) && !(bt S pre.length == 93))) = false := by rw [hb]; simp
      rw [brGo_ok hc (by omega), ← hsz]
      refine ⟨_, rfl, fun x hx => ?_⟩
      rw [decide_eq_false (show ¬ 256 ≤ x by omega)]
      cases none <;> simp

theorem neg_some (p : Nat → Bool) : ∃ x, 0 ≤ x ∧ x < 256 ∧ (if negP p then (fun x => !p x) else p) x = true := by
  cases h : negP p
  · by_cases he : ∃ x, x < 256 ∧ p x = true
    · obtain ⟨x, h1, h2⟩ := he
      exact ⟨x, Nat.zero_le _, h1, h2⟩
    · exfalso
      have hs : sameS p (inL []) = true := sameS_of (fun c hc => by
        cases hp : p c
        · rfl
        · exact absurd ⟨c, hc, hp⟩ he)
      unfold negP at h
      rw [hs] at h
      cases h
  · by_cases he : ∃ x, x < 256 ∧ p x = false
    · obtain ⟨x, h1, h2⟩ := he
      exact ⟨x, Nat.zero_le _, h1, by simp [h2]⟩
    · exfalso
      have hall : ∀ c, c < 256 → p c = true := fun c hc => by
        cases hp : p c
        · exact absurd ⟨c, hc, hp⟩ he
        · rfl
      have h1 : sameS p (fun _ => true) = true := sameS_of hall
      have h2 : sameS p (inL []) = false := by
        cases hq : sameS p (inL [])
        · rfl
        · have := (sameS_iff p (inL [])).1 hq 0 (by decide)
          rw [hall 0 (by decide)] at this
          cases this
      unfold negP at h
      rw [h1, h2] at h
      cases h
/-- What is printed is read as the set. -/
theorem print_back (p : Nat → Bool) : ∃ b, brP (itemA ⟨(printB p).toArray⟩) ⟨(printB p).toArray⟩ = (b, (printB p).length, 0, 0) ∧ ∀ x, x < 256 → b x = p x := by
  obtain ⟨S, hS⟩ : ∃ S : ByteArray, S = ⟨(printB p).toArray⟩ := ⟨_, rfl⟩
  have hd : S.data.toList = printB p := by rw [hS]
  have hz : S.size = (printB p).length := by rw [← Ln.szL, hd]
  rw [← hS, ← hz]
  have hsome := neg_some p
  unfold printB at hd
  rw [prGo_app] at hd
  cases hn : negP p
  · rw [hn] at hd hsome
    have hd' : S.data.toList = [] ++ (prGo p 257 0 [] ++ [93]) := by rw [hd]; simp
    have hp94 : pre1 S 0 94 = false := by
      obtain ⟨x, _, hx, hpx0⟩ := hsome
      have hpx : p x = true := hpx0
      have key : ∀ (f k : Nat), k ≤ x → x < k + f → (∃ c rest, c < 256 ∧ prGo p f k [] = eltB c ++ rest) := by
        intro f
        induction f with
        | zero => intro k h1 h2; omega
        | succ f ih =>
          intro k h1 h2
          cases hpk : p k
          · rw [prGo_no (by omega) hpk]
            have hne : k ≠ x := fun e => by rw [e] at hpk; rw [hpk] at hpx; cases hpx
            exact ih (k + 1) (by omega) (by omega)
          · rw [prGo_yes (by omega) hpk, prGo_app]
            refine ⟨k, (if (k == toP p 256 k) = true then [] else (if 1 < toP p 256 k - k then [45] else []) ++ eltB (toP p 256 k)) ++ prGo p f (toP p 256 k + 1) [], by omega, ?_⟩
            unfold runB
            simp
      obtain ⟨c, rest, hc, he⟩ := key 257 0 (by omega) (by omega)
      have h2 : S.data.toList = [] ++ (eltB c ++ (rest ++ [93])) := by rw [hd', he]; simp
      have := (elem_at hc h2).2.2.2.2.2
      rw [pre1_of]
      simpa using this
    obtain ⟨b, h1, h2⟩ := read_print p false S 257 0 (S.size + 1) [] true (inL []) (by omega) (by omega) hd' (by simp) (fun _ => hsome)
    refine ⟨b, ?_, fun x hx => ?_⟩
    · unfold brP
      rw [hp94]
      exact h1
    · rw [h2 x hx]
      simp [inL]
  · rw [hn] at hd hsome
    have hd' : S.data.toList = [94] ++ (prGo (fun x => !p x) 257 0 [] ++ [93]) := by rw [hd]; simp
    have hp94 : pre1 S 0 94 = true := by
      have := bt_at (pre := []) (show S.data.toList = [] ++ ([94] ++ (prGo (fun x => !p x) 257 0 [] ++ [93])) by rw [hd']; rfl) 0
      rw [pre1_of]
      simp only [List.length_nil, Nat.zero_add] at this
      rw [this]; rfl
    obtain ⟨b, h1, h2⟩ := read_print (fun x => !p x) true S 257 0 (S.size + 1) [94] true (inL []) (by omega) (by omega) hd' (by simp; omega) (fun _ => hsome)
    refine ⟨b, ?_, fun x hx => ?_⟩
    · unfold brP
      rw [hp94]
      exact h1
    · rw [h2 x hx]
      simp [inL]
end St
end Go.Proofs.Ytmlpfgfpmbnbeaa
