/- A program's pieces: two trees one behind the other end where the second one ends from where the first one does; one or the other, where either does. What the law's own run answers: where a match of an expression may end, if it has a program. What the reference's Groups answers: some number. -/
import Derived.Test.YtdiokclbdaojpaaDoorNfM17
import Derived.Test.YtdiokclbdaojpaaDoorNfM13
import Derived.Test.YtdiokclbdaojpaaDoorNfM12
import Derived.Test.YtdiokclbdaojpaaDoorNfM14
import Derived.Test.YtdiokclbdaojpaaDoorNfM15
import Derived.Test.YtdiokclbdaojpaaDoorNfCnt
namespace Go.Proofs.YtdiokclbdaojpaaDoor
namespace Nt
/-- A way that stands ahead of an instruction at a place may end at another one, step by step. -/
inductive Aq (L : List Ins) (s : ByteArray) : Nat → Nat → Nat → Prop
  | fin {i a : Nat} : (L.getD i iEnd).k = 12 → Aq L s i a a
  | eps {i j a e : Nat} : (L.getD i iEnd).k ≠ 1 → (L.getD i iEnd).k ≠ 12 → j ∈ nxt (L.getD i iEnd) i a s.size → Aq L s j a e → Aq L s i a e
  | byte {i a e : Nat} : (L.getD i iEnd).k = 1 → hasAt s a (L.getD i iEnd) = true → Aq L s (i + 1) (a + 1) e → Aq L s i a e
theorem Cl.aq {L : List Ins} {s : ByteArray} {a i j e : Nat} (h : Cl L s.size a i j) (hA : Aq L s j a e) : Aq L s i a e := by
  induction h with
  | refl i => exact hA
  | step e1 e2 e3 _ ih => exact .eps e1 e2 e3 (ih hA)
theorem aq_iff {L : List Ins} {s : ByteArray} {i a e : Nat} : Ac L s i a e ↔ Aq L s i a e := by
  constructor
  · intro h
    induction h with
    | fin h1 h2 => exact h1.aq (.fin h2)
    | byte h1 h2 h3 _ ih => exact h1.aq (.byte h2 h3 ih)
  · intro h
    induction h with
    | fin h => exact .fin (.refl _) h
    | eps h1 h2 h3 _ ih => exact (Cl.step h1 h2 h3 (.refl _)).ac ih
    | byte h1 h2 _ ih => exact .byte (.refl _) h1 h2 ih
/-- A code of its own: no match within, and it leads nowhere but within it and to its end. -/
def WC (C : List Ins) : Prop := ∀ i (h : i < C.length), (C[i]).k ≠ 12 ∧ ((C[i]).k = 2 ∨ (C[i]).k = 3 → 0 ≤ (C[i]).to ∧ (C[i]).to ≤ (C.length : Int))
/-- From a place of a code to another one. -/
inductive Sg (C : List Ins) (s : ByteArray) : Nat → Nat → Nat → Nat → Prop
  | refl (i a : Nat) : Sg C s i a i a
  | eps {i j a m e : Nat} (h : i < C.length) : (C[i]).k ≠ 1 → j ∈ nxt (C[i]) i a s.size → Sg C s j a m e → Sg C s i a m e
  | byte {i a m e : Nat} (h : i < C.length) : (C[i]).k = 1 → hasAt s a (C[i]) = true → Sg C s (i + 1) (a + 1) m e → Sg C s i a m e
/-- A code lies in a program, at a place. -/
def LieS (L : List Ins) (p : Nat) (C : List Ins) : Prop := ∀ j (h : j < C.length), ∃ e, L.getD (p + j) iEnd = shf p e (C[j])
theorem nxt_shf (p e i a n : Nat) (x : Ins) (hx : x.k = 2 ∨ x.k = 3 → 0 ≤ x.to) : nxt (shf p e x) (p + i) a n = (nxt x i a n).map (fun j => p + j) := by
  unfold nxt
  have hk : (shf p e x).k = x.k := rfl
  rw [hk]
  by_cases h2 : x.k = 2
  · have h0 := hx (.inl h2)
    have ht : (shf p e x).to = x.to + p := by simp [shf, h2]
    simp [h2, ht]
    omega
  · by_cases h3 : x.k = 3
    · have h0 := hx (.inr h3)
      have ht : (shf p e x).to = x.to + p := by simp [shf, h3]
      simp [h3, ht]
      omega
    · simp [h2, h3]
      split
      · split <;> simp [Nat.add_assoc]
      · split
        · split <;> simp [Nat.add_assoc]
        · simp [Nat.add_assoc]
theorem hasAt_shf (p e : Nat) (x : Ins) (s : ByteArray) (a : Nat) : hasAt s a (shf p e x) = hasAt s a x := rfl
theorem Sg.lift {L C : List Ins} {s : ByteArray} {p : Nat} (hw : WC C) (hl : LieS L p C) {i a m e : Nat} (h : Sg C s i a m e) : ∀ f, Aq L s (p + m) e f → Aq L s (p + i) a f := by
  induction h with
  | refl i a => exact fun _ h => h
  | @eps i j a m e hi h1 h2 _ ih =>
    intro f hA
    obtain ⟨d, hd⟩ := hl i hi
    refine .eps (j := p + j) ?_ ?_ ?_ (ih f hA)
    · rw [hd]; exact h1
    · rw [hd]; exact (hw i hi).1
    · rw [hd, nxt_shf _ _ _ _ _ _ (fun hk => ((hw i hi).2 hk).1)]
      exact List.mem_map.2 ⟨j, h2, rfl⟩
  | @byte i a m e hi h1 h2 _ ih =>
    intro f hA
    obtain ⟨d, hd⟩ := hl i hi
    exact .byte (by rw [hd]; exact h1) (by rw [hd, hasAt_shf]; exact h2) (ih f hA)
theorem nxt_le {C : List Ins} (hw : WC C) {i j a n : Nat} (hi : i < C.length) (hj : j ∈ nxt (C[i]) i a n) : j ≤ C.length := by
  have h2 := (hw i hi).2
  unfold nxt at hj
  split at hj
  · rename_i hk
    have := h2 (.inl (by simpa using hk))
    simp at hj
    omega
  split at hj
  · rename_i hk
    have := h2 (.inr (by simpa using hk))
    simp at hj
    omega
  split at hj
  · split at hj
    · simp at hj; omega
    · cases hj
  split at hj
  · split at hj
    · simp at hj; omega
    · cases hj
  · simp at hj; omega
theorem Aq.cut {L C : List Ins} {s : ByteArray} {p : Nat} (hw : WC C) (hl : LieS L p C) {q a f : Nat} (h : Aq L s q a f) : ∀ i, q = p + i → i ≤ C.length → ∃ e, Sg C s i a C.length e ∧ Aq L s (p + C.length) e f := by
  induction h with
  | @fin q a h =>
    intro i hq hi
    by_cases he : i = C.length
    · subst he; subst hq; exact ⟨a, .refl _ _, .fin h⟩
    · subst hq
      obtain ⟨d, hd⟩ := hl i (by omega)
      rw [hd] at h
      exact absurd h (hw i (by omega)).1
  | @eps q j a f h1 h2 h3 h4 ih =>
    intro i hq hi
    by_cases he : i = C.length
    · subst he; subst hq; exact ⟨a, .refl _ _, .eps h1 h2 h3 h4⟩
    · subst hq
      have hi2 : i < C.length := by omega
      obtain ⟨d, hd⟩ := hl i hi2
      rw [hd, nxt_shf _ _ _ _ _ _ (fun hk => ((hw i hi2).2 hk).1)] at h3
      rw [hd] at h1
      obtain ⟨j', hj', rfl⟩ := List.mem_map.1 h3
      obtain ⟨e, g1, g2⟩ := ih j' rfl (nxt_le hw hi2 hj')
      exact ⟨e, .eps hi2 h1 hj' g1, g2⟩
  | @byte q a f h1 h2 h4 ih =>
    intro i hq hi
    by_cases he : i = C.length
    · subst he; subst hq; exact ⟨a, .refl _ _, .byte h1 h2 h4⟩
    · subst hq
      have hi2 : i < C.length := by omega
      obtain ⟨d, hd⟩ := hl i hi2
      rw [hd] at h1
      rw [hd, hasAt_shf] at h2
      obtain ⟨e, g1, g2⟩ := ih (i + 1) (by omega) (by omega)
      exact ⟨e, .byte hi2 h1 h2 g1, g2⟩
/-- Through a code that lies in a program. -/
theorem aq_seg {L C : List Ins} {s : ByteArray} {p : Nat} (hw : WC C) (hl : LieS L p C) (a f : Nat) : Aq L s p a f ↔ ∃ e, Sg C s 0 a C.length e ∧ Aq L s (p + C.length) e f := by
  constructor
  · intro h
    exact h.cut hw hl 0 (by omega) (by omega)
  · rintro ⟨e, h1, h2⟩
    have := h1.lift hw hl f h2
    simpa using this
theorem aq_match {L : List Ins} {s : ByteArray} {i : Nat} (h : (L.getD i iEnd).k = 12) (a f : Nat) : Aq L s i a f ↔ a = f := by
  constructor
  · intro hA
    cases hA with
    | fin _ => rfl
    | eps _ h2 _ _ => exact absurd h h2
    | byte h1 _ _ => omega
  · rintro rfl
    exact .fin h
theorem aq_jump {L : List Ins} {s : ByteArray} {i t : Nat} (h : (L.getD i iEnd).k = 3) (ht : (L.getD i iEnd).to = (t : Int)) (a f : Nat) : Aq L s i a f ↔ Aq L s t a f := by
  have hn : nxt (L.getD i iEnd) i a s.size = [t] := by unfold nxt; rw [h, ht]; simp
  constructor
  · intro hA
    cases hA with
    | fin h1 => omega
    | eps _ _ h3 h4 => rw [hn] at h3; obtain rfl := List.mem_singleton.1 h3; exact h4
    | byte h1 _ _ => omega
  · intro hA
    exact .eps (by omega) (by omega) (by rw [hn]; simp) hA
theorem aq_split {L : List Ins} {s : ByteArray} {i t : Nat} (h : (L.getD i iEnd).k = 2) (ht : (L.getD i iEnd).to = (t : Int)) (a f : Nat) : Aq L s i a f ↔ Aq L s (i + 1) a f ∨ Aq L s t a f := by
  have hn : nxt (L.getD i iEnd) i a s.size = [t, i + 1] := by unfold nxt; rw [h, ht]; simp
  constructor
  · intro hA
    cases hA with
    | fin h1 => omega
    | eps _ _ h3 h4 =>
      rw [hn] at h3
      rcases List.mem_cons.1 h3 with rfl | h3
      · exact .inr h4
      · obtain rfl := List.mem_singleton.1 h3; exact .inl h4
    | byte h1 _ _ => omega
  · rintro (hA | hA)
    · exact .eps (by omega) (by omega) (by rw [hn]; simp) hA
    · exact .eps (by omega) (by omega) (by rw [hn]; simp) hA
/-- A code, and a match behind it. -/
theorem aq_alone {L C : List Ins} {s : ByteArray} (hw : WC C) (hl : LieS L 0 C) (hm : (L.getD C.length iEnd).k = 12) (a f : Nat) : Ac L s 0 a f ↔ Sg C s 0 a C.length f := by
  rw [aq_iff, aq_seg hw hl]
  constructor
  · rintro ⟨e, h1, h2⟩
    rw [Nat.zero_add, aq_match hm] at h2
    exact h2 ▸ h1
  · intro h
    exact ⟨f, h, by rw [Nat.zero_add, aq_match hm]⟩
theorem aq_cat {L A B : List Ins} {s : ByteArray} (hA : WC A) (hB : WC B) (lA : LieS L 0 A) (lB : LieS L A.length B) (hm : (L.getD (A.length + B.length) iEnd).k = 12) (a f : Nat) : Ac L s 0 a f ↔ ∃ e, Sg A s 0 a A.length e ∧ Sg B s 0 e B.length f := by
  rw [aq_iff, aq_seg hA lA]
  constructor
  · rintro ⟨e, h1, h2⟩
    rw [Nat.zero_add, aq_seg hB lB] at h2
    obtain ⟨e', h3, h4⟩ := h2
    rw [aq_match hm] at h4
    exact ⟨e, h1, h4 ▸ h3⟩
  · rintro ⟨e, h1, h2⟩
    refine ⟨e, h1, ?_⟩
    rw [Nat.zero_add, aq_seg hB lB]
    exact ⟨f, h2, by rw [aq_match hm]⟩
theorem aq_alt {L A B : List Ins} {s : ByteArray} (hA : WC A) (hB : WC B) (h0 : (L.getD 0 iEnd).k = 2) (t0 : (L.getD 0 iEnd).to = ((A.length + 2 : Nat) : Int)) (lA : LieS L 1 A) (h1 : (L.getD (1 + A.length) iEnd).k = 3) (t1 : (L.getD (1 + A.length) iEnd).to = ((A.length + 2 + B.length : Nat) : Int)) (lB : LieS L (A.length + 2) B) (hm : (L.getD (A.length + 2 + B.length) iEnd).k = 12) (a f : Nat) : Ac L s 0 a f ↔ Sg A s 0 a A.length f ∨ Sg B s 0 a B.length f := by
  rw [aq_iff, aq_split h0 t0, Nat.zero_add, aq_seg hA lA, aq_seg hB lB]
  constructor
  · rintro (⟨e, g1, g2⟩ | ⟨e, g1, g2⟩)
    · rw [aq_jump h1 t1, aq_match hm] at g2
      exact .inl (g2 ▸ g1)
    · rw [aq_match hm] at g2
      exact .inr (g2 ▸ g1)
  · rintro (g | g)
    · exact .inl ⟨f, g, by rw [aq_jump h1 t1, aq_match hm]⟩
    · exact .inr ⟨f, g, by rw [aq_match hm]⟩
theorem right_one2 {gr sl : Int} {L : List Ins} (h : rightP gr sl L = true) : OneM L := by
  intro j hj hk
  have hg : L.getD j iEnd = L[j] := by rw [List.getD_eq_getElem?_getD, List.getElem?_eq_getElem hj]; rfl
  rw [hg] at hk
  exact (right_at h hj).1.1 hk
theorem fm_k {G : Int} {x : Ins} (h : Fm G x) : x.k ≠ 12 := by
  cases h <;> (intro e; cases e)
theorem code_wc {T : NT} (h : cmpE T = 0) : WC (code T 0 0) := by
  obtain ⟨hcnt, n', hnum⟩ := cmp0 h
  have hg := numP_grps T 1 n' [] hnum
  have hfm : ∀ y ∈ code T 0 0, Fm (grps T : Int) y := code_pcs (pcs_fm _) T 1 n' [] (by omega) hnum (by omega) 0 0
  have hok := code_ok (sz T) (cnt T) T 0 0 (by omega) (by omega)
  intro i hi
  have hm := List.getElem_mem hi
  have o := hok _ hm
  refine ⟨fm_k (hfm _ hm), fun _ => ⟨o.t1, ?_⟩⟩
  have := o.t2
  rw [code_len]
  omega
theorem lie_app {X Y C : List Ins} {p e : Nat} (hX : X.length = p) : LieS (X ++ (C.map (shf p e) ++ Y)) p C := by
  intro j hj
  refine ⟨e, ?_⟩
  rw [List.getD_eq_getElem?_getD, List.getElem?_append_right (by omega), hX, Nat.add_sub_cancel_left, List.getElem?_append_left (by simpa using hj), List.getElem?_map, List.getElem?_eq_getElem hj]
  rfl
theorem code_at (T : NT) (p : Nat) : code T p 0 = (code T 0 0).map (shf p 0) := by
  have := code_shf T 0 0 p 0
  simpa using this
theorem getD_app (X Y : List Ins) (x : Ins) {i : Nat} (h : i = X.length) : (X ++ x :: Y).getD i iEnd = x := by
  subst h
  rw [List.getD_eq_getElem?_getD, List.getElem?_append_right (Nat.le_refl _)]
  simp
theorem prg_ac {T : NT} (h : cmpE T = 0) (s : ByteArray) (a f : Nat) : Ac (prgC T) s 0 a f ↔ Sg (code T 0 0) s 0 a (code T 0 0).length f := by
  refine aq_alone (code_wc h) ?_ ?_ a f
  · have := lie_app (X := []) (Y := [iMatch]) (C := code T 0 0) (p := 0) (e := 0) rfl
    rw [← code_at T 0] at this
    exact this
  · rw [prgC, getD_app _ [] iMatch rfl]
    rfl
/-- Two trees one behind the other; one or the other. -/
def catT (A B : NT) : NT := .mk 3 noS 0 0 0 [A, B]
def altT (A B : NT) : NT := .mk 4 noS 0 0 0 [A, B]
theorem cat_code (A B : NT) : prgC (catT A B) = [] ++ ((code A 0 0).map (shf 0 0) ++ ((code B 0 0).map (shf (sz A) 0) ++ [iMatch])) := by
  rw [← code_at A 0, ← code_at B (sz A), prgC, code_eq]
  simp [catT, NT.k, NT.kids, codeL]
theorem alt_code (A B : NT) : prgC (altT A B) = [iSplit (sz A + 2)] ++ ((code A 0 0).map (shf 1 0) ++ (iJump (sz A + 2 + sz B) :: ((code B 0 0).map (shf (sz A + 2) 0) ++ [iMatch]))) := by
  have hz : sz (altT A B) = sz A + 2 + sz B := by
    rw [sz_eq]
    simp [altT, NT.k, NT.kids, szN, sz.szL]
    omega
  rw [← code_at A 1, ← code_at B (sz A + 2), prgC, code_eq, hz]
  simp [altT, NT.k, NT.kids, altL]
theorem prg_cat {A B : NT} (hA : cmpE A = 0) (hB : cmpE B = 0) (s : ByteArray) (a f : Nat) : Ac (prgC (catT A B)) s 0 a f ↔ ∃ e, Ac (prgC A) s 0 a e ∧ Ac (prgC B) s 0 e f := by
  have e := cat_code A B
  have l1 : LieS (prgC (catT A B)) 0 (code A 0 0) := by rw [e]; exact lie_app rfl
  have l2 : LieS (prgC (catT A B)) (code A 0 0).length (code B 0 0) := by
    rw [e, List.nil_append, code_len]
    exact lie_app (by simp [code_len])
  have m : ((prgC (catT A B)).getD ((code A 0 0).length + (code B 0 0).length) iEnd).k = 12 := by
    rw [e, List.nil_append, ← List.append_assoc, getD_app _ [] iMatch (by simp)]
    rfl
  rw [aq_cat (code_wc hA) (code_wc hB) l1 l2 m]
  exact ⟨fun ⟨x, h1, h2⟩ => ⟨x, (prg_ac hA s a x).2 h1, (prg_ac hB s x f).2 h2⟩, fun ⟨x, h1, h2⟩ => ⟨x, (prg_ac hA s a x).1 h1, (prg_ac hB s x f).1 h2⟩⟩
theorem prg_alt {A B : NT} (hA : cmpE A = 0) (hB : cmpE B = 0) (s : ByteArray) (a f : Nat) : Ac (prgC (altT A B)) s 0 a f ↔ Ac (prgC A) s 0 a f ∨ Ac (prgC B) s 0 a f := by
  have e := alt_code A B
  have la := code_len A 0 0
  have lb := code_len B 0 0
  have e2 : prgC (altT A B) = ([iSplit (sz A + 2)] ++ (code A 0 0).map (shf 1 0)) ++ (iJump (sz A + 2 + sz B) :: ((code B 0 0).map (shf (sz A + 2) 0) ++ [iMatch])) := by rw [e, List.append_assoc]
  have e3 : prgC (altT A B) = ([iSplit (sz A + 2)] ++ (code A 0 0).map (shf 1 0) ++ [iJump (sz A + 2 + sz B)]) ++ ((code B 0 0).map (shf (sz A + 2) 0) ++ [iMatch]) := by rw [e2]; simp
  have l1 : LieS (prgC (altT A B)) 1 (code A 0 0) := by rw [e]; exact lie_app rfl
  have l2 : LieS (prgC (altT A B)) ((code A 0 0).length + 2) (code B 0 0) := by
    rw [e3, la]
    exact lie_app (by first | (simp [code_len]; done) | (simp [code_len]; omega))
  have g0 : (prgC (altT A B)).getD 0 iEnd = iSplit (sz A + 2) := by rw [e]; rfl
  have g1 : (prgC (altT A B)).getD (1 + (code A 0 0).length) iEnd = iJump (sz A + 2 + sz B) := by
    rw [e2, getD_app _ _ _ (by simp; omega)]
  have g2 : (prgC (altT A B)).getD ((code A 0 0).length + 2 + (code B 0 0).length) iEnd = iMatch := by
    rw [e3, ← List.append_assoc, getD_app _ [] iMatch (by simp; omega)]
  have h := aq_alt (s := s) (code_wc hA) (code_wc hB) (by rw [g0]; rfl) (by rw [g0, la]; rfl) l1 (by rw [g1]; rfl) (by rw [g1, la, lb]; rfl) l2 (by rw [g2]; rfl) a f
  rw [h, prg_ac hA, prg_ac hB]
/-- Where a match of a compiled tree ends. -/
theorem prg_ends {T : NT} (h : cmpE T = 0) (s : ByteArray) {a : Nat} (ha : a ≤ s.size) (e : Nat) : e ∈ endsA (prgC T) s a ↔ Ac (prgC T) s 0 a e := by
  have hri := prg_right h
  exact endsA_mem (right_leads hri) (right_one2 hri) (right_len hri).1 a ha e
theorem prg_rise {T : NT} (h : cmpE T = 0) (s : ByteArray) (a : Nat) : (endsA (prgC T) s a).Pairwise (fun x y => x < y) := by
  have hri := prg_right h
  exact endsA_rise (right_leads hri) (right_one2 hri) (right_len hri).1 a
end Nt
end Go.Proofs.YtdiokclbdaojpaaDoor
namespace Go.Proofs.YtdiokclbdaojpaaDoor
open Go Go.RowKit Go.Shelf

namespace Nt
/-- What run answers. -/
def rnR (T : NT) (s : ByteArray) (f : Int) : List Nat × Bool := if cmpE T = 0 then ((enR (pgr T) (psl T) (pL T) s f).1, (enR (pgr T) (psl T) (pL T) s f).2 == 0) else ([], false)
theorem rnR_len (T : NT) (s : ByteArray) (f : Int) (hs : s.size ≤ 1048576) : (rnR T s f).1.length ≤ 17179885568 := by
  unfold rnR
  split
  · exact enR_len _ _ _ _ _ hs
  · simp
theorem rnR_ok {T : NT} {s : ByteArray} {f : Int} (h : (rnR T s f).2 = true) : cmpE T = 0 ∧ rbE (pgr T) (psl T) (pL T) = 0 ∧ ∃ n : Nat, f = (n : Int) ∧ n ≤ s.size ∧ (rnR T s f).1 = endsA (prgC T) s n := by
  unfold rnR at h ⊢
  split at h
  · rename_i hc
    have hp : pL T = prgC T := by unfold pL; rw [if_pos hc]
    have h2 : (enR (pgr T) (psl T) (pL T) s f).2 = 0 := by simpa using h
    unfold enR at h2
    split at h2
    · rename_i hr
      split at h2
      · rename_i hf
        refine ⟨hc, hr, f.toNat, by omega, by omega, ?_⟩
        rw [if_pos hc, enR, if_pos hr, if_pos hf, hp]
        rfl
      · cases h2
    · rename_i hr
      exact absurd h2 hr
  · cases h
theorem rnR_at {T : NT} {s : ByteArray} (hc : cmpE T = 0) (hr : rbE (pgr T) (psl T) (pL T) = 0) (n : Nat) (hn : n ≤ s.size) : rnR T s (n : Int) = (endsA (prgC T) s n, true) := by
  have hp : pL T = prgC T := by unfold pL; rw [if_pos hc]
  have e : enR (pgr T) (psl T) (pL T) s (n : Int) = (endsA (prgC T) s n, 0) := by
    rw [enR, if_pos hr, if_pos ⟨by omega, by omega⟩, hp]
    rfl
  unfold rnR
  rw [if_pos hc, e]
  rfl
end Nt

set_option maxRecDepth 100000 in
set_option maxHeartbeats 4000000 in
theorem run_any (T : Nt.NT) (a : Option Addr) (cap : Nat) (s : ByteArray) (f : Int) (w : World) (hN : Nt.Nd w (· < w.heap.size) T a cap) (hT : Nt.Tabs w) (hs : s.size ≤ 1048576) :
    Calls Tryd.prog 29 #[Nt.ndV T a cap, .string s, .int .i64 f] w fun e w' => ∃ va ca, e = .returned (.tuple #[.slice va (Nt.rnR T s f).1.length ca, .bool (Nt.rnR T s f).2]) ∧ w'.ownsRow w.heap.size 3 1 (.slice va (Nt.rnR T s f).1.length ca) (Nt.rnR T s f).1.length (Nt.icellsN (Nt.rnR T s f).1) ∧ Below w.heap.size w w' := by
  have N0 := Nt.node_new w T a cap
  have hB0 : Below w.heap.size w (w.alloc (.cells (Nt.ndA T a cap) 28)) := (Below.refl w.heap.size w).alloc (Nat.le_refl _) _
  obtain ⟨W, hW⟩ : ∃ W, W = w.alloc (.cells (Nt.ndA T a cap) 28) := ⟨_, rfl⟩
  rw [← hW] at N0 hB0
  have hs0 : W.heap.size = w.heap.size + 1 := by rw [hW]; simp
  have HC : Hid _ := compile_one T a cap W ((hN.under hB0).mono (fun b (h : b < _) => Nat.lt_of_lt_of_le h hB0.size)) (hT.under hB0)
  have HK : Hid _ := Nt.pL_k T
  have hLl := Nt.pL_len T
  have HT : Hid _ := hT
  have HB0 : Hid _ := hB0
  simp only [Nt.ndV, Nt.ndA] at hW HC ⊢
  clear N0 hB0 hN hT
  go_enter Tryd.func29, Tryd.ntmps29
  go_wp2_with fail
  rw [← hW]
  clear hW
  refine Calls.mono HC.out ?_
  rintro e w1 ⟨va, ca, rfl, ho, hb1⟩
  have HB1 : Hid (Below w.heap.size w w1) := HB0.out.trans (hb1.mono HB0.out.size)
  by_cases hc : Nt.cmpE T = 0
  · obtain ⟨W2, hW2⟩ : ∃ W2, W2 = w1.alloc (.cells #[.int .i64 (Nt.pgr T), .int .i64 (Nt.psl T), .slice va (Nt.pL T).length ca] 35) := ⟨_, rfl⟩
    have hb2 : Below w1.heap.size w1 W2 := by rw [hW2]; exact (Below.refl _ _).alloc (Nat.le_refl _) _
    have HB2 : Hid (Below w.heap.size w W2) := HB1.out.trans (hb2.mono HB1.out.size)
    have G2 : W2.heap[w1.heap.size]? = some (.cells #[.int .i64 (Nt.pgr T), .int .i64 (Nt.psl T), .slice va (Nt.pL T).length ca] 35 (0, 0)) := by rw [hW2]; exact World.alloc_heap_new _ _
    have HEn : Hid _ := ends_fn (Nt.pgr T) (Nt.psl T) va ca (Nt.pL T) s f W2 (Nt.cds_own (own_below ho hb2) (by omega)) (HT.out.under HB2.out) HK.out hs
    have HR : Hid (Nt.rnR T s f = ((Nt.enR (Nt.pgr T) (Nt.psl T) (Nt.pL T) s f).1, (Nt.enR (Nt.pgr T) (Nt.psl T) (Nt.pL T) s f).2 == 0)) := by show _ = _; rw [Nt.rnR, if_pos hc]
    rw [hc]
    obtain ⟨gr, hgr⟩ : ∃ gr, gr = Nt.pgr T := ⟨_, rfl⟩
    obtain ⟨sl, hsl⟩ : ∃ sl, sl = Nt.psl T := ⟨_, rfl⟩
    obtain ⟨L, hL⟩ : ∃ L, L = Nt.pL T := ⟨_, rfl⟩
    rw [← hgr, ← hsl, ← hL] at hW2 G2 HEn HR
    rw [← hgr, ← hsl, ← hL]
    clear hgr hsl hL
    have a0 : W2.cell? ⟨w1.heap.size, 0, none⟩ = some (.int .i64 gr) := cell_of_row _ _ _ _ _ _ G2
    have a1 : W2.cell? ⟨w1.heap.size, 1, none⟩ = some (.int .i64 sl) := cell_of_row _ _ _ _ _ _ G2
    have a2 : W2.cell? ⟨w1.heap.size, 2, none⟩ = some (.slice va L.length ca) := cell_of_row _ _ _ _ _ _ G2
    rw [hW2] at a0 a1 a2
    clear ho hb1 hb2 hc HC HK HB0 HB1 G2 HT hLl
    go_wp2_with fail
    rw [← hW2]
    clear hW2 a0 a1 a2
    refine Calls.mono HEn.out ?_
    rintro e w3 ⟨v3, rfl, ho3, hb3⟩
    obtain ⟨a3, c3, rfl⟩ := Nt.own_form ho3
    have HO3 : Hid _ := Nt.own_lo ho3 HB2.out.size
    have HB3 : Hid (Below w.heap.size w w3) := HB2.out.trans (hb3.mono HB2.out.size)
    clear HEn ho3 hb3
    go_wp2_with fail
    go_ret2
    exact ⟨_, _, by rw [HR.out]; rfl, by rw [HR.out]; exact HO3.out, HB3.out⟩
  · have hc1 : (Nt.cmpE T == 0) = false := by simpa using hc
    have HR : Hid (Nt.rnR T s f = ([], false)) := by show _ = _; rw [Nt.rnR, if_neg hc]
    clear hc ho hb1 HC HK HB0 HT
    go_wp2_with fail
    go_ret2
    exact ⟨none, 0, by rw [HR.out]; rfl, by rw [HR.out]; exact World.ownsRow_nil _ _ _ _, HB1.out.alloc HB1.out.size _⟩
end Go.Proofs.YtdiokclbdaojpaaDoor
namespace Go.Proofs.YtdiokclbdaojpaaDoor
open Go.RowKit

set_option maxRecDepth 100000 in
set_option maxHeartbeats 2000000 in
theorem rgroups9_any (T : Nt.NT) : ∀ (a : Option Addr) (cap : Nat) (w : World), Nt.Nd w (· < w.heap.size) T a cap → Nt.cnt T < 4611686018427387904 →
    Calls Tryd.prog 28 #[Nt.ndV T a cap] w fun e w' => (∃ c : Nat, e = .returned (.int .i64 (c : Nat)) ∧ c ≤ Nt.cnt T) ∧ Below w.heap.size w w' := by
  induction T using Nt.NT.ind with
  | h T ih =>
  intro a cap w hN hg
  have IH : Hid _ := ih
  clear ih
  have HQ := Nt.cnt_eq T
  have HL : Hid _ := Nt.cntL_le T
  have HG : Hid (1 + (Nt.kinds.kindsL T.kids).length < 4611686018427387904) := by show _ < _; omega
  have HQ : Hid _ := HQ
  clear hg
  have hlm := hN.room.1
  have N0 := Nt.node_new w T a cap
  have hB0 : Below w.heap.size w (w.alloc (.cells (Nt.ndA T a cap) 28)) := (Below.refl w.heap.size w).alloc (Nat.le_refl _) _
  simp only [Nt.ndV, Nt.ndA] at N0 hB0 ⊢
  obtain ⟨W, hW⟩ : ∃ W, W = w.alloc (.cells #[.int .u8 (T.k : Int), .int .u64 (St.wd T.s 0 : Nat), .int .u64 (St.wd T.s 1 : Nat), .int .u64 (St.wd T.s 2 : Nat), .int .u64 (St.wd T.s 3 : Nat), .int .i64 T.mn, .int .i64 T.mx, .int .i64 T.gr, .slice a T.kids.length cap] 28) := ⟨_, rfl⟩
  rw [← hW] at N0 hB0
  have hN1 : Nt.Nd W (· < w.heap.size) T a cap := hN.under hB0
  obtain ⟨q0, q1, q2, q3, q4, q5, q6, q7, q8⟩ := N0.nine
  by_cases h6 : T.k = 6
  · have d : ((T.k : Int) == 6) = true := by simp; omega
    clear h6
    go_enter Tryd.func28, Tryd.ntmps28
    go_wp2_with fail
    rw [← hW]
    clear hW q0 q1 q2 q3 q4 q5 q6 q7 q8 N0
    go_loopw [3, 12] (fun sv iv wr => ∃ (i s : Nat), i ≤ T.kids.length ∧ iv = .int .i64 (i : Int) ∧ sv = .int .i64 (s : Nat) ∧ Hid (s ≤ 1 + (Nt.kinds.kindsL (T.kids.take i)).length) ∧ Nt.Nd wr (· < w.heap.size) T a cap ∧ Below w.heap.size w wr) (fun _ iv _ => T.kids.length - (intOf iv).toNat)
    case atStart => exact ⟨0, 1, by omega, rfl, rfl, (show _ ≤ _ by simp), hN1, hB0⟩
    case round =>
      clear hN1 hB0
      obtain ⟨i, s, hi, rfl, rfl, HS, ND, hB⟩ := hrel
      by_cases hlt : i < T.kids.length
      · obtain ⟨b, off, a', cap', rfl, hbB, h9, hk⟩ := ND.kid hlt
        have hsz := hB.size
        have HT : Hid _ := Nt.cntL_take hlt
        obtain ⟨r0, r1, r2, r3, r4, r5, r6, r7, r8⟩ := h9
        have K1 := Nt.node_new wr (T.kids[i]) a' cap'
        have hA : Below wr.heap.size wr (wr.alloc (.cells (Nt.ndA (T.kids[i]) a' cap') 28)) := (Below.refl _ _).alloc (Nat.le_refl _) _
        have hsA : (wr.alloc (.cells (Nt.ndA (T.kids[i]) a' cap') 28)).heap.size = wr.heap.size + 1 := by simp
        have HI : Hid _ := IH.out i hlt a' cap' (wr.alloc (.cells (Nt.ndA (T.kids[i]) a' cap') 28)) (hk.same (fun b (h : b < _) => hA.block b (by omega)) (fun b (h : b < _) => by omega)) (by have h1 := HT.out; have h2 := HL.out (i + 1); have h3 := HG.out; omega)
        simp only [Nt.ndV, Nt.ndA] at K1 hA hsA HI
        obtain ⟨k0, k1, k2, k3, k4, k5, k6, k7, k8⟩ := K1.nine
        have HA : Hid _ := hA
        clear hk K1 hA IH
        have hs62 : (s : Int) < 4611686018427387904 := by have h1 := HS.out; have h2 := HL.out i; have h3 := HG.out; omega
        go_wp2_with fail
        refine Calls.mono HI.out ?_
        rintro x w2 ⟨⟨c, rfl, hc1⟩, hb2⟩
        have hc62 : (c : Int) + (s : Int) < 4611686018427387904 := by have h1 := HT.out; have h2 := HL.out (i + 1); have h3 := HG.out; have h4 := HS.out; omega
        have HS2 : Hid (s + c ≤ 1 + (Nt.kinds.kindsL (T.kids.take (i + 1))).length) := by
          have h1 := HT.out
          have h2 := HS.out
          show _ ≤ _
          omega
        have hB2 : Below wr.heap.size wr w2 := HA.out.trans (hb2.mono HA.out.size)
        clear HI hc1 k0 k1 k2 k3 k4 k5 k6 k7 k8 r0 r1 r2 r3 r4 r5 r6 r7 r8
        go_wp2_with fail
        refine ⟨⟨i + 1, s + c, by omega, by simp, by simp, HS2, ND.under (hB2.mono hsz), hB.trans (hB2.mono hsz)⟩, ?_⟩
        simp only [intOf]
        omega
      · obtain rfl : i = T.kids.length := by omega
        go_wp2_with fail
        go_ret
        exact ⟨⟨s, rfl, by have h1 := HS.out; rw [List.take_length] at h1; have := HQ.out; omega⟩, hB⟩
  · have d : ((T.k : Int) == 6) = false := by simp; omega
    clear h6
    go_enter Tryd.func28, Tryd.ntmps28
    go_wp2_with fail
    rw [← hW]
    clear hW q0 q1 q2 q3 q4 q5 q6 q7 q8 N0
    go_loopw [3, 12] (fun sv iv wr => ∃ (i s : Nat), i ≤ T.kids.length ∧ iv = .int .i64 (i : Int) ∧ sv = .int .i64 (s : Nat) ∧ Hid (s ≤ 1 + (Nt.kinds.kindsL (T.kids.take i)).length) ∧ Nt.Nd wr (· < w.heap.size) T a cap ∧ Below w.heap.size w wr) (fun _ iv _ => T.kids.length - (intOf iv).toNat)
    case atStart => exact ⟨0, 0, by omega, rfl, rfl, (show _ ≤ _ by simp), hN1, hB0⟩
    case round =>
      clear hN1 hB0
      obtain ⟨i, s, hi, rfl, rfl, HS, ND, hB⟩ := hrel
      by_cases hlt : i < T.kids.length
      · obtain ⟨b, off, a', cap', rfl, hbB, h9, hk⟩ := ND.kid hlt
        have hsz := hB.size
        have HT : Hid _ := Nt.cntL_take hlt
        obtain ⟨r0, r1, r2, r3, r4, r5, r6, r7, r8⟩ := h9
        have K1 := Nt.node_new wr (T.kids[i]) a' cap'
        have hA : Below wr.heap.size wr (wr.alloc (.cells (Nt.ndA (T.kids[i]) a' cap') 28)) := (Below.refl _ _).alloc (Nat.le_refl _) _
        have hsA : (wr.alloc (.cells (Nt.ndA (T.kids[i]) a' cap') 28)).heap.size = wr.heap.size + 1 := by simp
        have HI : Hid _ := IH.out i hlt a' cap' (wr.alloc (.cells (Nt.ndA (T.kids[i]) a' cap') 28)) (hk.same (fun b (h : b < _) => hA.block b (by omega)) (fun b (h : b < _) => by omega)) (by have h1 := HT.out; have h2 := HL.out (i + 1); have h3 := HG.out; omega)
        simp only [Nt.ndV, Nt.ndA] at K1 hA hsA HI
        obtain ⟨k0, k1, k2, k3, k4, k5, k6, k7, k8⟩ := K1.nine
        have HA : Hid _ := hA
        clear hk K1 hA IH
        have hs62 : (s : Int) < 4611686018427387904 := by have h1 := HS.out; have h2 := HL.out i; have h3 := HG.out; omega
        go_wp2_with fail
        refine Calls.mono HI.out ?_
        rintro x w2 ⟨⟨c, rfl, hc1⟩, hb2⟩
        have hc62 : (c : Int) + (s : Int) < 4611686018427387904 := by have h1 := HT.out; have h2 := HL.out (i + 1); have h3 := HG.out; have h4 := HS.out; omega
        have HS2 : Hid (s + c ≤ 1 + (Nt.kinds.kindsL (T.kids.take (i + 1))).length) := by
          have h1 := HT.out
          have h2 := HS.out
          show _ ≤ _
          omega
        have hB2 : Below wr.heap.size wr w2 := HA.out.trans (hb2.mono HA.out.size)
        clear HI hc1 k0 k1 k2 k3 k4 k5 k6 k7 k8 r0 r1 r2 r3 r4 r5 r6 r7 r8
        go_wp2_with fail
        refine ⟨⟨i + 1, s + c, by omega, by simp, by simp, HS2, ND.under (hB2.mono hsz), hB.trans (hB2.mono hsz)⟩, ?_⟩
        simp only [intOf]
        omega
      · obtain rfl : i = T.kids.length := by omega
        go_wp2_with fail
        go_ret
        exact ⟨⟨s, rfl, by have h1 := HS.out; rw [List.take_length] at h1; have := HQ.out; omega⟩, hB⟩
end Go.Proofs.YtdiokclbdaojpaaDoor
