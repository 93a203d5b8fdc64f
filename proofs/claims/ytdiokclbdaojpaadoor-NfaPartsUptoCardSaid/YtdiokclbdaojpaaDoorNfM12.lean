/- A compiled program is right, plain. A compiled program is right, plain: the rows of a code. -/
import Derived.Test.YtdiokclbdaojpaaDoorNfM6
import Derived.Test.YtdiokclbdaojpaaDoorNfCmp
namespace Go.Proofs.YtdiokclbdaojpaaDoor
namespace Nt
/-- An instruction as a code has it, its groups at most G. -/
inductive Fm (G : Int) : Ins → Prop
  | set (s : Nat → Bool) : Fm G (iSet s)
  | split (t : Nat) : Fm G (iSplit t)
  | jump (t : Nat) : Fm G (iJump t)
  | opn (g : Int) (h1 : 1 ≤ g) (h2 : g ≤ G) : Fm G (iOpen g)
  | cls (g : Int) (h1 : 1 ≤ g) (h2 : g ≤ G) : Fm G (iClose g)
  | clr (lo hi : Int) (h1 : 1 ≤ lo) (h2 : lo ≤ hi) (h3 : hi ≤ G) : Fm G (iClear lo hi)
  | mark (n : Nat) : Fm G (iMark n)
  | moved (n : Nat) : Fm G (iMoved n)
  | back (g : Int) (h1 : 1 ≤ g) (h2 : g ≤ G) : Fm G (iBack g)
  | beg : Fm G iBegin
  | fin : Fm G iEnd
/-- Where a round may be left, it was marked. -/
def MM (l : List Ins) : Prop := ∀ y ∈ l, y.k = 8 → ∃ z ∈ l, z.k = 7 ∧ z.sl = y.sl
theorem MM.nil : MM [] := fun _ h => by cases h
theorem MM.app {a b : List Ins} (ha : MM a) (hb : MM b) : MM (a ++ b) := fun y hy hk => by
  rcases List.mem_append.1 hy with h | h
  · obtain ⟨z, h1, h2⟩ := ha y h hk; exact ⟨z, List.mem_append_left _ h1, h2⟩
  · obtain ⟨z, h1, h2⟩ := hb y h hk; exact ⟨z, List.mem_append_right _ h1, h2⟩
theorem MM.one {x : Ins} (h : x.k ≠ 8) : MM [x] := fun y hy hk => by rw [List.mem_singleton.1 hy] at hk; exact absurd hk h
theorem MM.cons {x : Ins} {l : List Ins} (h : x.k ≠ 8) (hl : MM l) : MM (x :: l) := MM.app (a := [x]) (MM.one h) hl
theorem MM.free {R : List Ins} (t f : Nat) (h : MM R) : MM (iSplit t :: iMark f :: R ++ [iMoved f]) := fun y hy hk => by
  rcases List.mem_append.1 hy with h1 | h1
  · have hs : MM (iSplit t :: iMark f :: R) := MM.cons (show (2 : Nat) ≠ 8 by decide) (MM.cons (show (7 : Nat) ≠ 8 by decide) h)
    obtain ⟨z, h2, h3⟩ := hs y h1 hk
    exact ⟨z, List.mem_append_left _ h2, h3⟩
  · rw [List.mem_singleton.1 h1]
    exact ⟨iMark f, by simp, rfl, rfl⟩
/-- A predicate on lists that holds of a code if it holds of its pieces. -/
structure Pcs (G : Int) (A : List Ins → Prop) : Prop where
  nil : A []
  app : ∀ {a b}, A a → A b → A (a ++ b)
  one : ∀ {x}, Fm G x → x.k ≠ 8 → A [x]
  free : ∀ {R} (t f : Nat), A R → A (iSplit t :: iMark f :: R ++ [iMoved f])
theorem pcs_mm (G : Int) : Pcs G MM := ⟨MM.nil, MM.app, fun _ h => MM.one h, fun t f h => MM.free t f h⟩
theorem fm_one {G : Int} {x : Ins} (h : Fm G x) : ∀ y ∈ [x], Fm G y := fun y hy => by rw [List.mem_singleton.1 hy]; exact h
theorem fm_free {G : Int} {R : List Ins} (t f : Nat) (h : ∀ y ∈ R, Fm G y) : ∀ y ∈ iSplit t :: iMark f :: R ++ [iMoved f], Fm G y := fun y hy => by
  rcases List.mem_append.1 hy with h1 | h1
  · rcases List.mem_cons.1 h1 with h1 | h1
    · rw [h1]; exact .split t
    rcases List.mem_cons.1 h1 with h1 | h1
    · rw [h1]; exact .mark f
    exact h y h1
  · rw [List.mem_singleton.1 h1]; exact .moved f
theorem pcs_fm (G : Int) : Pcs G (fun l => ∀ y ∈ l, Fm G y) where
  nil := fun _ h => (List.not_mem_nil h).elim
  app := fun ha hb y hy => (List.mem_append.1 hy).elim (ha y) (hb y)
  one := fun h _ => fm_one h
  free := fun t f h => fm_free t f h
theorem numL_mem2 (l : List NT) : ∀ nx nx' op, 1 ≤ nx → numP.numL l nx op = some nx' → ∀ x ∈ l, ∃ n n' o, 1 ≤ n ∧ n' ≤ nx' ∧ numP x n o = some n' := by
  induction l with
  | nil => intro _ _ _ _ _ x hx; cases hx
  | cons y l ih =>
    intro nx nx' op h1 h x hx
    rw [numL_cons] at h
    cases hy : numP y nx op with
    | none => rw [hy] at h; cases h
    | some m =>
      rw [hy] at h
      have hm := numP_grps y nx m op hy
      have hle : ∀ (l : List NT) (a b : Nat), numP.numL l a op = some b → a ≤ b := by
        intro l
        induction l with
        | nil => intro a b hh; rw [numP.numL] at hh; injection hh with hh; omega
        | cons z l ih2 =>
          intro a b hh
          rw [numL_cons] at hh
          cases hz : numP z a op with
          | none => rw [hz] at hh; cases hh
          | some c =>
            rw [hz] at hh
            have := numP_grps z a c op hz
            have := ih2 c b hh
            omega
      rcases List.mem_cons.1 hx with rfl | hx
      · exact ⟨nx, m, op, h1, hle l m nx' h, hy⟩
      · exact ih m nx' op (by omega) h x hx
theorem codeL_pcs {G : Int} {A : List Ins → Prop} (hA : Pcs G A) (l : List NT) (ih : ∀ x ∈ l, ∀ p f, A (code x p f)) : ∀ p f, A (codeL l p f) := by
  induction l with
  | nil => intro p f; rw [codeL]; exact hA.nil
  | cons x l ihl => intro p f; rw [codeL]; exact hA.app (ih x (by simp) p f) (ihl (fun y hy => ih y (by simp [hy])) _ f)
theorem altL_pcs {G : Int} {A : List Ins → Prop} (hA : Pcs G A) (l : List NT) (ih : ∀ x ∈ l, ∀ p f, A (code x p f)) : ∀ p fin f, A (altL l p fin f) := by
  induction l with
  | nil => intro p fin f; rw [altL]; exact hA.nil
  | cons x l ihl =>
    intro p fin f
    rw [altL]
    split
    · exact ih x (by simp) p f
    · have h1 : A ([iSplit (p + sz x + 2)] ++ (code x (p + 1) f ++ ([iJump fin] ++ altL l (p + sz x + 2) fin f))) :=
        hA.app (hA.one (.split _) (show (2 : Nat) ≠ 8 by decide)) (hA.app (ih x (by simp) _ f) (hA.app (hA.one (.jump _) (show (3 : Nat) ≠ 8 by decide)) (ihl (fun y hy => ih y (by simp [hy])) _ fin f)))
      simpa using h1
theorem mustC_pcs {G : Int} {A : List Ins → Prop} (hA : Pcs G A) (r : Nat) (R : Nat → Nat → List Ins) (hR : ∀ p f, A (R p f)) : ∀ n p f, A (mustC n r R p f)
  | 0, _, _ => hA.nil
  | n + 1, p, f => by rw [mustC]; exact hA.app (hR p f) (mustC_pcs hA r R hR n _ f)
theorem mayC_pcs {G : Int} {A : List Ins → Prop} (hA : Pcs G A) (r fin : Nat) (R : Nat → Nat → List Ins) (hR : ∀ p f, A (R p f)) : ∀ n p f, A (mayC n r fin R p f)
  | 0, _, _ => hA.nil
  | n + 1, p, f => by rw [mayC]; exact hA.app (hA.free fin f (hR _ _)) (mayC_pcs hA r fin R hR n _ f)
theorem code_pcs {G : Int} {A : List Ins → Prop} (hA : Pcs G A) (T : NT) : ∀ nx nx' op, 1 ≤ nx → numP T nx op = some nx' → (nx' : Int) - 1 ≤ G → ∀ p f, A (code T p f) := by
  induction T using NT.ind with
  | h T ih =>
    intro nx nx' op h1 h hG p f
    obtain ⟨hle, hlo, _, hhi⟩ := groups_are T nx nx' op h1 h
    have hgr := numP_grps T nx nx' op h
    have hE := h
    rw [numP_eq] at h
    have kids : ∀ x ∈ T.kids, ∀ p f, A (code x p f) := by
      intro x hx
      obtain ⟨n, n', o, a1, a2, a3⟩ : ∃ n n' o, 1 ≤ n ∧ n' ≤ nx' ∧ numP x n o = some n' := by
        split at h
        · split at h
          · split at h
            · exact numL_mem2 T.kids (nx + 1) nx' _ (by omega) h x hx
            · cases h
          · split at h
            · split at h
              · exact numL_mem2 T.kids nx nx' _ h1 h x hx
              · cases h
            · exact numL_mem2 T.kids nx nx' _ h1 h x hx
        · cases h
      obtain ⟨i, hi, rfl⟩ := List.getElem_of_mem hx
      exact ih i hi n n' o a1 a3 (by omega)
    have hl := codeL_pcs hA T.kids kids
    rw [code_eq]
    by_cases k2 : T.k = 2
    · simp only [k2]; exact hA.one (.set _) (show (1 : Nat) ≠ 8 by decide)
    by_cases k7 : T.k = 7
    · simp only [k7]
      refine hA.one (.back _ ?_ ?_) (show (9 : Nat) ≠ 8 by decide)
      all_goals
        simp only [k7] at h
        split at h
        · simp only [Bool.and_eq_true, decide_eq_true_eq, beq_iff_eq] at h
          simp at h
          omega
        · cases h
    by_cases k8 : T.k = 8
    · simp only [k8]; exact hA.one .beg (show (10 : Nat) ≠ 8 by decide)
    by_cases k9 : T.k = 9
    · simp only [k9]; exact hA.one .fin (show (11 : Nat) ≠ 8 by decide)
    by_cases k6 : T.k = 6
    · have hg : T.gr = (nx : Int) ∧ nx + 1 ≤ nx' := by
        have : 1 ≤ grps T := by rw [grps_eq, k6]; simp
        simp only [k6] at h
        split at h
        · simp at h
          exact ⟨h.1.1, by omega⟩
        · cases h
      simp only [k6]
      have h5 : A ([iOpen T.gr] ++ (codeL T.kids (p + 1) f ++ [iClose T.gr])) :=
        hA.app (hA.one (.opn _ (by omega) (by omega)) (show (4 : Nat) ≠ 8 by decide)) (hA.app (hl _ f) (hA.one (.cls _ (by omega) (by omega)) (show (5 : Nat) ≠ 8 by decide)))
      simpa using h5
    by_cases k4 : T.k = 4
    · simp only [k4]; exact altL_pcs hA T.kids kids p _ f
    by_cases k5 : T.k = 5
    · have hrnd : ∀ p f, A (rndC (decide (0 < grps.grpsL T.kids)) (glo T) (ghi T) (codeL T.kids) p f) := by
        intro p f
        unfold rndC
        split
        · rename_i hd
          have hg0 : 0 < grps.grpsL T.kids := by simpa using hd
          have e : grps T = grps.grpsL T.kids := by rw [grps_eq, k5]; exact Nat.zero_add _
          have hlt : nx < nx' := by omega
          rw [hlo, hhi]
          unfold lowP highP
          rw [if_pos hlt, if_pos hlt]
          have h6 : A ([iClear (nx : Int) _] ++ codeL T.kids (p + 1) f) := hA.app (hA.one (.clr (nx : Int) ((nx' : Int) - 1) (by omega) (by omega) hG) (show (6 : Nat) ≠ 8 by decide)) (hl _ f)
          have e2 : ((nx' - 1 : Nat) : Int) = (nx' : Int) - 1 := by omega
          first
            | exact h6
            | (rw [e2]; exact h6)
        · exact hl p f
      simp only [k5]
      show A (repC _ _ _ _ _ _ _)
      unfold repC
      refine hA.app (mustC_pcs hA _ _ hrnd _ p f) ?_
      split
      · have h7 := hA.app (hA.free (p + sz T) f (hrnd (p + T.mn.toNat * (if decide (0 < grps.grpsL T.kids) then sz.szL T.kids + 1 else sz.szL T.kids) + 2) (f + 1))) (hA.one (.jump (p + T.mn.toNat * (if decide (0 < grps.grpsL T.kids) then sz.szL T.kids + 1 else sz.szL T.kids))) (show (3 : Nat) ≠ 8 by decide))
        simpa using h7
      · exact mayC_pcs hA _ _ _ hrnd _ _ f
    simp [k2, k7, k8, k9, k6, k4, k5]
    exact hl p f
end Nt
end Go.Proofs.YtdiokclbdaojpaaDoor
namespace Go.Proofs.YtdiokclbdaojpaaDoor
namespace Nt
theorem numL_le (l : List NT) (ih : ∀ x ∈ l, ∀ nx nx' op, numP x nx op = some nx' → nx ≤ 100 → nx' ≤ 100) : ∀ nx nx' op, numP.numL l nx op = some nx' → nx ≤ 100 → nx' ≤ 100 := by
  induction l with
  | nil => intro nx nx' op h h1; rw [numP.numL] at h; injection h with h; omega
  | cons x l ihl =>
    intro nx nx' op h h1
    rw [numL_cons] at h
    cases hx : numP x nx op with
    | none => rw [hx] at h; cases h
    | some m =>
      rw [hx] at h
      exact ihl (fun y hy => ih y (by simp [hy])) m nx' op h (ih x (by simp) nx m op hx h1)
theorem numP_le (T : NT) : ∀ nx nx' op, numP T nx op = some nx' → nx ≤ 100 → nx' ≤ 100 := by
  induction T using NT.ind with
  | h T ih =>
    intro nx nx' op h h1
    have ihm := numL_le T.kids (fun x hx => by
      obtain ⟨i, hi, rfl⟩ := List.getElem_of_mem hx
      exact ih i hi)
    rw [numP_eq] at h
    split at h
    · split at h
      · split at h
        · rename_i h3
          simp only [Bool.and_eq_true, decide_eq_true_eq] at h3
          exact ihm _ nx' _ h (by omega)
        · cases h
      · split at h
        · split at h
          · exact ihm nx nx' op h h1
          · cases h
        · exact ihm nx nx' op h h1
    · cases h
theorem sloF_ge (L : List Ins) : ∀ s : Int, s ≤ L.foldl sloS s ∧ ∀ z ∈ L, z.k = 7 → z.sl + 1 ≤ L.foldl sloS s := by
  induction L with
  | nil => intro s; exact ⟨Int.le_refl s, fun _ h => (List.not_mem_nil h).elim⟩
  | cons x L ih =>
    intro s
    obtain ⟨h1, h2⟩ := ih (sloS s x)
    have h0 : s ≤ sloS s x := by unfold sloS; split <;> (try split) <;> omega
    refine ⟨by rw [List.foldl_cons]; omega, fun z hz hk => ?_⟩
    rw [List.foldl_cons]
    rcases List.mem_cons.1 hz with rfl | hz
    · have : z.sl + 1 ≤ sloS s z := by
        unfold sloS
        rw [if_pos (by simp [hk])]
        split <;> omega
      omega
    · exact h2 z hz hk
theorem sloF_le (B : Int) (L : List Ins) : ∀ s : Int, s ≤ B → (∀ z ∈ L, z.sl + 1 ≤ B) → L.foldl sloS s ≤ B := by
  induction L with
  | nil => intro s h _; exact h
  | cons x L ih =>
    intro s h hz
    rw [List.foldl_cons]
    refine ih _ ?_ (fun z hm => hz z (by simp [hm]))
    have := hz x (by simp)
    unfold sloS
    split <;> (try split) <;> omega
theorem fb_all : ∀ k, k ≤ 12 → fb k 0 = (k != 0) ∧ fb k 1 = (k == 1) ∧ fb k 2 = (k == 2 || k == 3) ∧ fb k 3 = (k == 4 || k == 5 || k == 6 || k == 9) ∧ fb k 4 = (k == 6) ∧ fb k 5 = (k == 7 || k == 8) := by decide
theorem same_no : St.sameS noS noS = true := by simp [St.sameS]
/-- An instruction of a code fits, and is no match. -/
theorem fm_fits {G sl : Int} {n : Nat} {x : Ins} (h : Fm G x) (ht : 0 ≤ x.to ∧ x.to ≤ (n : Int) - 1) (hs : 0 ≤ x.sl) (hl : x.k = 7 ∨ x.k = 8 → x.sl ≤ sl - 1) : x.k ≠ 12 ∧ fitI G sl n x = true := by
  cases h with
  | set s => exact ⟨(show (1 : Nat) ≠ 12 by decide), by obtain ⟨a, b, c, d, e, f⟩ := fb_all 1 (by decide); simp [fitI, iSet, inRg, a, b, c, d, e, f]⟩
  | split t => exact ⟨(show (2 : Nat) ≠ 12 by decide), by obtain ⟨a, b, c, d, e, f⟩ := fb_all 2 (by decide); simp only [iSplit] at ht; simp [fitI, iSplit, inRg, same_no, a, b, c, d, e, f]; exact decide_eq_true (by omega)⟩
  | jump t => exact ⟨(show (3 : Nat) ≠ 12 by decide), by obtain ⟨a, b, c, d, e, f⟩ := fb_all 3 (by decide); simp only [iJump] at ht; simp [fitI, iJump, inRg, same_no, a, b, c, d, e, f]; exact decide_eq_true (by omega)⟩
  | opn g h1 h2 => exact ⟨(show (4 : Nat) ≠ 12 by decide), by obtain ⟨a, b, c, d, e, f⟩ := fb_all 4 (by decide); simp [fitI, iOpen, inRg, same_no, a, b, c, d, e, f, h1, h2]⟩
  | cls g h1 h2 => exact ⟨(show (5 : Nat) ≠ 12 by decide), by obtain ⟨a, b, c, d, e, f⟩ := fb_all 5 (by decide); simp [fitI, iClose, inRg, same_no, a, b, c, d, e, f, h1, h2]⟩
  | clr lo hi h1 h2 h3 => exact ⟨(show (6 : Nat) ≠ 12 by decide), by obtain ⟨a, b, c, d, e, f⟩ := fb_all 6 (by decide); simp [fitI, iClear, inRg, same_no, a, b, c, d, e, f, h1, h2, h3]; exact decide_eq_true (by omega)⟩
  | mark m => exact ⟨(show (7 : Nat) ≠ 12 by decide), by obtain ⟨a, b, c, d, e, f⟩ := fb_all 7 (by decide); have := hl (.inl rfl); simp only [iMark] at this; simp [fitI, iMark, inRg, same_no, a, b, c, d, e, f]; exact decide_eq_true (by omega)⟩
  | moved m => exact ⟨(show (8 : Nat) ≠ 12 by decide), by obtain ⟨a, b, c, d, e, f⟩ := fb_all 8 (by decide); have := hl (.inr rfl); simp only [iMoved] at this; simp [fitI, iMoved, inRg, same_no, a, b, c, d, e, f]; exact decide_eq_true (by omega)⟩
  | back g h1 h2 => exact ⟨(show (9 : Nat) ≠ 12 by decide), by obtain ⟨a, b, c, d, e, f⟩ := fb_all 9 (by decide); simp [fitI, iBack, inRg, same_no, a, b, c, d, e, f, h1, h2]⟩
  | beg => exact ⟨(show (10 : Nat) ≠ 12 by decide), by obtain ⟨a, b, c, d, e, f⟩ := fb_all 10 (by decide); simp [fitI, iBegin, inRg, same_no, a, b, c, d, e, f]⟩
  | fin => exact ⟨(show (11 : Nat) ≠ 12 by decide), by obtain ⟨a, b, c, d, e, f⟩ := fb_all 11 (by decide); simp [fitI, iEnd, inRg, same_no, a, b, c, d, e, f]⟩
theorem match_fits (G sl : Int) (n : Nat) : fitI G sl n iMatch = true := by
  obtain ⟨a, b, c, d, e, f⟩ := fb_all 12 (by decide)
  simp [fitI, iMatch, inRg, same_no, a, b, c, d, e, f]
/-- What is compiled is right. -/
theorem prg_right {T : NT} (h : cmpE T = 0) : rightP (grps T : Int) (slo (prgC T)) (prgC T) = true := by
  obtain ⟨hcnt, n', hnum⟩ := cmp0 h
  obtain ⟨hsz, _⟩ := cmp_sz h
  have hg := numP_grps T 1 n' [] hnum
  have hg2 := numP_le T 1 n' [] hnum (by omega)
  have hlen : (prgC T).length = sz T + 1 := by simp [prgC, code_len]
  have hfm : ∀ y ∈ code T 0 0, Fm (grps T : Int) y := code_pcs (pcs_fm _) T 1 n' [] (by omega) hnum (by omega) 0 0
  have hmm : MM (code T 0 0) := code_pcs (pcs_mm (grps T : Int)) T 1 n' [] (by omega) hnum (by omega) 0 0
  have hok := code_ok (sz T) (cnt T) T 0 0 (by omega) (by omega)
  obtain ⟨hs0, hs1⟩ := sloF_ge (prgC T) 0
  have hs2 : slo (prgC T) ≤ 8193 := by
    refine sloF_le 8193 _ 0 (by decide) (fun z hz => ?_)
    rw [prgC, List.mem_append, List.mem_singleton] at hz
    rcases hz with hz | rfl
    · have := (hok z hz).s2; omega
    · decide
  change 0 ≤ slo (prgC T) at hs0
  have hs1' : ∀ z ∈ prgC T, z.k = 7 → z.sl + 1 ≤ slo (prgC T) := hs1
  have hrow : rowsP (grps T : Int) (slo (prgC T)) (prgC T) (prgC T).length = true := by
    rw [rowsP, List.all_eq_true]
    intro i hi
    rw [List.mem_range, hlen] at hi
    rw [rowP, hlen]
    by_cases hi2 : i = sz T
    · have e : (prgC T).getD i iEnd = iMatch := by rw [prgC, hi2, List.getD_eq_getElem?_getD, List.getElem?_append_right (by rw [code_len]; omega), code_len]; simp
      rw [e, match_fits, hi2]
      simp [iMatch]
    · have hlt : i < (code T 0 0).length := by rw [code_len]; omega
      have e : (prgC T).getD i iEnd = (code T 0 0)[i] := by rw [prgC, List.getD_eq_getElem?_getD, List.getElem?_append_left hlt, List.getElem?_eq_getElem hlt]; rfl
      have hm : (code T 0 0)[i] ∈ code T 0 0 := List.getElem_mem hlt
      rw [e]
      generalize (code T 0 0)[i] = y at hm
      have o := hok y hm
      obtain ⟨f1, f2⟩ := fm_fits (sl := slo (prgC T)) (n := sz T + 1) (hfm y hm) ⟨o.t1, by have := o.t2; omega⟩ o.s1 (fun hk => by
        rcases hk with hk | hk
        · have := hs1' y (List.mem_append_left _ hm) hk; omega
        · obtain ⟨z, z1, z2, z3⟩ := hmm y hm hk
          have := hs1' z (List.mem_append_left _ z1) z2
          omega)
      rw [f2]
      have e1 : (y.k == 12) = false := by simp [f1]
      have e2 : (i == sz T + 1 - 1) = false := by simp; omega
      rw [e1, e2]; rfl
  rw [rightP, hrow, hlen]
  simp
  omega
end Nt
end Go.Proofs.YtdiokclbdaojpaaDoor
