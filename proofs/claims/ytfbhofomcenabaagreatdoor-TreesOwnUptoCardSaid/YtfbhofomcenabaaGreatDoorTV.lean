/- A tree's text and the list of what is in it, there and back: plain. A tree and its text, there and back: plain. -/
import Derived.Test.YtfbhofomcenabaaGreatDoorTU
import Derived.Test.YtfbhofomcenabaaGreatDoorTN
import Derived.Test.YtfbhofomcenabaaGreatDoorFRl
import Derived.Test.YtfbhofomcenabaaGreatDoorTE
namespace Go.Proofs.YtfbhofomcenabaaGreatDoor
open Go.RowKit

namespace Ft
theorem cut_word : ∀ (w r : List UInt8), (∀ c ∈ w, c ≠ 32) → cutB (w ++ 32 :: r) = (w, r, true)
  | [], r, _ => by rw [List.nil_append, cutB, if_pos rfl]
  | c :: w, r, h => by
    rw [List.cons_append, cutB, if_neg (h c (by simp)), cut_word w r (fun d hd => h d (by simp [hd]))]
theorem word_no32 : ∀ k, ∀ c ∈ wordB k, c ≠ 32 := by
  intro k c hc
  unfold wordB at hc
  split at hc <;> simp at hc
  · rcases hc with rfl | rfl | rfl <;> decide
  · rcases hc with rfl | rfl | rfl | rfl <;> decide
  · rcases hc with rfl | rfl | rfl | rfl <;> decide
theorem word_no10 : ∀ k, ∀ c ∈ wordB k, (c == 10) = false := by
  intro k c hc
  unfold wordB at hc
  split at hc <;> simp at hc
  · rcases hc with rfl | rfl | rfl <;> decide
  · rcases hc with rfl | rfl | rfl | rfl <;> decide
  · rcases hc with rfl | rfl | rfl | rfl <;> decide
theorem kind_word {k : Nat} (h : k = 1 ∨ k = 2 ∨ k = 3) : kindW (wordB k) = k ∧ ∃ c r, wordB k = c :: r ∧ c ≠ 35 := by
  rcases h with rfl | rfl | rfl
  · exact ⟨by decide, _, _, rfl, by decide⟩
  · exact ⟨by decide, _, _, rfl, by decide⟩
  · exact ⟨by decide, _, _, rfl, by decide⟩
/-- A path's text, apart at its slashes. -/
theorem spl_name : ∀ (x y : List UInt8), (∀ c ∈ x, (c == 47) = false) → Pl.spl (x ++ 47 :: y) = x :: Pl.spl y
  | [], y, _ => by rw [List.nil_append, Pl.spl_slash]
  | c :: x, y, h => by
    rw [List.cons_append, Pl.spl_other (h c (by simp)), spl_name x y (fun d hd => h d (by simp [hd]))]
    rfl
theorem spl_one : ∀ (x : List UInt8), (∀ c ∈ x, (c == 47) = false) → Pl.spl x = [x]
  | [], _ => rfl
  | c :: x, h => by
    rw [Pl.spl_other (h c (by simp)), spl_one x (fun d hd => h d (by simp [hd]))]
    rfl
theorem name_no47 {x : ByteArray} (h : Pl.nameB x = true) : ∀ c ∈ x.data.toList, (c == 47) = false := by
  intro c hc
  simp only [Pl.nameB, Pl.nameL, Bool.and_eq_true] at h
  have := List.all_eq_true.1 h.2 c hc
  simp only [Pl.okc, Bool.not_eq_true', Bool.or_eq_false_iff] at this
  exact this.1
theorem spl_text : ∀ (x : ByteArray) (r : List ByteArray), (x :: r).all Pl.nameB = true → Pl.spl (x.data.toList ++ Pl.textF r) = (x :: r).map (·.data.toList)
  | x, [], h => by
    have hx : Pl.nameB x = true := by simpa using h
    rw [show Pl.textF [] = [] from rfl, List.append_nil, spl_one _ (name_no47 hx)]
    rfl
  | x, y :: r, h => by
    have hx : Pl.nameB x = true ∧ (y :: r).all Pl.nameB = true := by rw [List.all_cons, Bool.and_eq_true] at h; exact h
    rw [show Pl.textF (y :: r) = 47 :: (y.data.toList ++ Pl.textF r) from rfl, spl_name _ _ (name_no47 hx.1), spl_text y r hx.2]
    rfl
theorem nam_back {p : List ByteArray} (hne : p ≠ []) (hl : p.length ≤ 64) (hp : p.all Pl.nameB = true) : namR (Pl.textF p) = some p := by
  cases p with
  | nil => exact absurd rfl hne
  | cons x r =>
    have e1 : Lib.hasPrefix (Pl.textF (x :: r)) [47] = true := by simp [Lib.hasPrefix, Pl.textF]
    have e2 : Lib.trimPrefix (Pl.textF (x :: r)) [47] = x.data.toList ++ Pl.textF r := by
      unfold Lib.trimPrefix
      rw [if_pos e1]
      rfl
    have e3 : Pl.partsB (Ln.bs (x.data.toList ++ Pl.textF r)) = x :: r := by
      unfold Pl.partsB
      rw [Ln.data_bs, spl_text x r hp, List.map_map]
      conv => rhs; rw [← List.map_id (x :: r)]
      apply List.map_congr_left
      intro y _
      exact Ln.bs_data y
    unfold namR
    rw [e2, e3, if_pos ⟨e1, hl, hp⟩]
theorem nam_forth {s : List UInt8} {p : List ByteArray} (h : namR s = some p) : p ≠ [] ∧ p.length ≤ 64 ∧ p.all Pl.nameB = true := by
  unfold namR at h
  split at h
  · rename_i hc
    cases h
    refine ⟨?_, hc.2.1, hc.2.2⟩
    unfold Pl.partsB
    intro e
    exact Pl.spl_ne _ (List.map_eq_nil_iff.1 e)
  · cases h
/-- A line's text without its word and its line feed. -/
def bodyD (x : Td) : List UInt8 := (Ln.quoP (Ln.bs (Pl.textF x.1))).data.toList ++ (if x.2.1 = 1 then [] else [32] ++ (Ln.quoP x.2.2).data.toList)
theorem unq_app (s : ByteArray) (t : List UInt8) : Ln.unqP (Ln.bs ((Ln.quoP s).data.toList ++ t)) = (s.data.toList, (Ln.quoP s).size, 0, 0) := by
  have e : Ln.bs ((Ln.quoP s).data.toList ++ t) = Ln.quoP s ++ Ln.bs t := by
    apply Ln.data_inj
    simp [Ln.bs]
  rw [e, Ln.unq_quoted]
theorem unq_all (s : ByteArray) : Ln.unqP (Ln.bs (Ln.quoP s).data.toList) = (s.data.toList, (Ln.quoP s).size, 0, 0) := by
  have := unq_app s []
  rwa [List.append_nil] at this
theorem quo_back (x : Td) (hd : x.2.1 = 1 → x.2.2 = ⟨#[]⟩) : quoR (bodyD x) x.2.1 = some (Pl.textF x.1, x.2.2.data.toList) := by
  unfold quoR bodyD
  simp only
  rw [unq_app]
  simp only [if_pos]
  by_cases h1 : x.2.1 = 1
  · rw [if_pos h1, if_pos h1, List.append_nil, if_pos (Ln.szL _).symm, hd h1]
    rfl
  · rw [if_neg h1, if_neg h1]
    have e1 : ((Ln.quoP (Ln.bs (Pl.textF x.1))).data.toList ++ ([32] ++ (Ln.quoP x.2.2).data.toList)).drop (Ln.quoP (Ln.bs (Pl.textF x.1))).size = [32] ++ (Ln.quoP x.2.2).data.toList := by
      rw [← Ln.szL, List.drop_left]
    have e2 : Lib.hasPrefix ([32] ++ (Ln.quoP x.2.2).data.toList) [32] = true := by simp [Lib.hasPrefix]
    have e3 : Lib.trimPrefix ([32] ++ (Ln.quoP x.2.2).data.toList) [32] = (Ln.quoP x.2.2).data.toList := by
      unfold Lib.trimPrefix
      rw [if_pos e2]
      rfl
    rw [e1, if_pos e2, e3, unq_all, if_pos ⟨rfl, (Ln.szL _).symm⟩]
    rfl
theorem quo_dir {r : List UInt8} {y : List UInt8 × List UInt8} (h : quoR r 1 = some y) : y.2 = [] := by
  unfold quoR at h
  simp only [if_pos] at h
  split at h
  · split at h
    · cases h; rfl
    · cases h
  · cases h
/-- A line that may stand is read as what is told. -/
theorem line_back {a x : Td} (h : OkT a x) : lineR (wordB x.2.1 ++ 32 :: bodyD x) a = (x, 0) := by
  have hk := (kind_word h.kind).1
  unfold lineR
  rw [cut_word _ _ (word_no32 _)]
  simp only
  rw [hk, if_neg (by rintro (q | q); cases q; rcases h.kind with e | e | e <;> omega), quo_back x h.dir]
  simp only
  rw [nam_back h.ne h.deep h.names]
  simp only
  rw [if_neg (by have := h.less; omega), if_neg (by rw [h.opn]; simp), Ln.bs_data, if_neg (by rintro ⟨q1, q2⟩; rw [h.link q1] at q2; cases q2)]
/-- What is read of a line may stand there. -/
theorem line_forth {s : List UInt8} {a x : Td} (h : lineR s a = (x, 0)) : OkT a x ∧ x.2.2.size ≤ s.length := by
  unfold lineR at h
  split at h
  · cases h
  · rename_i h0
    have h0' : kindW (cutB s).1 ≠ 0 := fun e => h0 (.inr e)
    split at h
    · cases h
    · rename_i y hy
      split at h
      · cases h
      · rename_i p hp
        split at h
        · cases h
        · rename_i hc
          split at h
          · cases h
          · rename_i ho
            split at h
            · cases h
            · rename_i ht
              cases h
              obtain ⟨n1, n2, n3⟩ := nam_forth hp
              have hq := quo_len _ _ _ hy
              have hcl := (cutB_len s).2
              refine ⟨⟨n3, n2, n1, by show Pl.cmpP a.1 p < 0; omega, by show opnB a p.dropLast = true; simpa using ho, ?_, ?_, ?_⟩, by show (Ln.bs y.2).size ≤ _; rw [Ln.bs_size]; omega⟩
              · show kindW (cutB s).1 = 1 ∨ kindW (cutB s).1 = 2 ∨ kindW (cutB s).1 = 3
                revert h0'
                unfold kindW
                split
                · intro _; exact .inl rfl
                · split
                  · intro _; exact .inr (.inl rfl)
                  · split
                    · intro _; exact .inr (.inr rfl)
                    · intro h; exact absurd rfl h
              · intro e
                have e : kindW (cutB s).1 = 1 := e
                rw [e] at hy
                show Ln.bs y.2 = _
                rw [quo_dir hy]
                rfl
              · intro e
                have e : kindW (cutB s).1 = 3 := e
                show tgtB (Ln.bs y.2) = true
                cases q : tgtB (Ln.bs y.2)
                · exact absurd ⟨e, q⟩ ht
                · rfl
theorem quo_nlf (s : ByteArray) : ∀ c ∈ (Ln.quoP s).data.toList, (c == 10) = false := by
  intro c hc
  unfold Ln.quoP Ln.quoS at hc
  rw [Ln.data_bs] at hc
  simp only [List.cons_append, List.mem_cons, List.mem_append, List.mem_flatMap] at hc
  rcases hc with rfl | ⟨b, _, hb⟩ | rfl | hc
  · rfl
  · unfold Ln.qL at hb
    split at hb
    · simp at hb; rcases hb with rfl | rfl <;> rfl
    · have h := List.all_eq_true.1 (Ln.told_print b) c hb
      rw [beq_eq_false_iff_ne]
      intro e
      subst e
      exact absurd h (by decide)
  · rfl
  · cases hc
theorem spl_line : ∀ (l r : List UInt8), (∀ c ∈ l, (c == 10) = false) → Ln.spl (l ++ 10 :: r) = (l, true) :: Ln.spl r
  | [], r, _ => by rw [List.nil_append, Ln.spl_lf]
  | c :: l, r, h => by
    rw [List.cons_append, Ln.spl_other (h c (by simp)), spl_line l r (fun d hd => h d (by simp [hd]))]
    rfl
theorem line_eq (x : Td) : lineD x = (wordB x.2.1 ++ 32 :: bodyD x) ++ [10] := by
  unfold lineD bodyD
  simp
theorem line_nlf (x : Td) : ∀ c ∈ wordB x.2.1 ++ 32 :: bodyD x, (c == 10) = false := by
  intro c hc
  rcases List.mem_append.1 hc with hc | hc
  · exact word_no10 _ c hc
  · rcases List.mem_cons.1 hc with rfl | hc
    · rfl
    · unfold bodyD at hc
      rcases List.mem_append.1 hc with hc | hc
      · exact quo_nlf _ c hc
      · split at hc
        · cases hc
        · rcases List.mem_append.1 hc with hc | hc
          · rw [List.mem_singleton.1 hc]; rfl
          · exact quo_nlf _ c hc
theorem spl_lines : ∀ L : List Td, Ln.spl (L.flatMap lineD) = L.map fun x => (wordB x.2.1 ++ 32 :: bodyD x, true)
  | [] => rfl
  | x :: r => by
    rw [List.flatMap_cons, line_eq, List.append_assoc, show [10] ++ r.flatMap lineD = 10 :: r.flatMap lineD from rfl, spl_line _ _ (line_nlf x), spl_lines r]
    rfl
theorem splB_lines (L : List Td) : Ln.splB (Ln.bs (L.flatMap lineD)) = L.map fun x => (Ln.bs (wordB x.2.1 ++ 32 :: bodyD x), true) := by
  unfold Ln.splB
  rw [Ln.data_bs, spl_lines, List.map_map]
  rfl
/-- Lines that may stand are read as what they tell. -/
theorem readG_back : ∀ (L : List Td) (i : Nat) (a : Td) (out : List Td), Ch a L → readG (L.map fun x => (Ln.bs (wordB x.2.1 ++ 32 :: bodyD x), true)) i a out = (out ++ L, 0, 0)
  | [], i, a, out, _ => by rw [List.map_nil, readG, List.append_nil]
  | x :: r, i, a, out, h => by
    obtain ⟨c, t, hw, h35⟩ := (kind_word h.1.kind).2
    have hl := line_back h.1
    rw [List.map_cons, readG, if_neg (by
      rw [Ln.data_bs, hw]
      rintro (q | q)
      · cases q
      · exact h35 (by simpa using q)), Ln.data_bs, hl, if_pos rfl, readG_back r (i + 1) x (out ++ [x]) h.2]
    simp
def datL : List Td → Nat
  | [] => 0
  | x :: r => x.2.2.size + datL r
def lsz : List (ByteArray × Bool) → Nat
  | [] => 0
  | x :: r => x.1.size + lsz r
/-- What is read may stand so. -/
theorem readG_forth : ∀ (l : List (ByteArray × Bool)) (i : Nat) (a : Td) (out : List Td), (readG l i a out).2.2 = 0 → ∃ L, (readG l i a out).1 = out ++ L ∧ Ch a L ∧ L.length ≤ l.length ∧ datL L ≤ lsz l
  | [], i, a, out, _ => ⟨[], by rw [readG, List.append_nil], trivial, Nat.le_refl _, Nat.le_refl _⟩
  | x :: r, i, a, out, h => by
    rw [readG] at h ⊢
    split at h
    · rename_i h1
      rw [if_pos h1]
      obtain ⟨L, l1, l2, l3, l4⟩ := readG_forth r (i + 1) a out h
      exact ⟨L, l1, l2, by rw [List.length_cons]; omega, by show _ ≤ x.1.size + lsz r; omega⟩
    · rename_i h1
      rw [if_neg h1]
      split at h
      · rename_i h2
        rw [if_pos h2]
        obtain ⟨L, l1, l2, l3, l4⟩ := readG_forth r (i + 1) (lineR x.1.data.toList a).1 (out ++ [(lineR x.1.data.toList a).1]) h
        have hf := line_forth (s := x.1.data.toList) (a := a) (x := (lineR x.1.data.toList a).1) (by rw [← h2])
        rw [Ln.szL] at hf
        exact ⟨(lineR x.1.data.toList a).1 :: L, by rw [l1]; simp, ⟨hf.1, l2⟩, by rw [List.length_cons, List.length_cons]; omega, by show _ + datL L ≤ x.1.size + lsz r; omega⟩
      · rename_i h2
        exact absurd h h2
end Ft
end Go.Proofs.YtfbhofomcenabaaGreatDoor
namespace Go.Proofs.YtfbhofomcenabaaGreatDoor
open Go.RowKit

namespace Ft
theorem quo_size (s : ByteArray) : (Ln.quoP s).size ≤ 4 * s.size + 2 := by
  have h := Ln.quoS_len s.data.toList
  rw [Ln.szL] at h
  unfold Ln.quoP
  rw [Ln.bs_size, List.length_append]
  show _ + 1 ≤ _
  omega
theorem root_eq {T : FT} (h : rightT T = true) : T = .mk ⟨#[]⟩ 1 ⟨#[]⟩ T.kids := by
  obtain ⟨n, k, d, l⟩ := T
  unfold rightT rootB at h
  simp only [Bool.and_eq_true, beq_iff_eq] at h
  obtain ⟨⟨h1, h2, h3⟩, _⟩ := h
  have e1 : n = ⟨#[]⟩ := Pl.data_inj _ _ (by rw [← Lib.toList_data]; exact List.isEmpty_iff.1 h2)
  have e2 : d = ⟨#[]⟩ := Pl.data_inj _ _ (by rw [← Lib.toList_data]; exact List.isEmpty_iff.1 h3)
  have e3 : k = 1 := h1
  rw [e1, e2, e3]
  rfl
theorem ch_root {T : FT} (h : rightT T = true) : Ch ([], 1, ⟨#[]⟩) (tdT.tdL [] T.kids) := (ch_tree T [] ([], 1, ⟨#[]⟩) (right_bel h) rfl rfl (fun _ => rfl)).1
/-- A right tree's text is read as the tree. -/
theorem read_back {T : FT} (h : rightT T = true) : readR (Ln.bs (prtT T)) = (T, 0, 0, 0) := by
  have hg := readG_back (tdT.tdL [] T.kids) 0 ([], 1, ⟨#[]⟩) [] (ch_root h)
  rw [← splB_lines, ← prt_td, List.nil_append] at hg
  have hb := bld_of T [] [] (fun x hx => by cases hx)
  rw [List.append_nil] at hb
  unfold readR
  simp only
  rw [hg]
  simp only [if_pos]
  rw [show bldT 0 (tdT.tdL [] T.kids) = (T.kids, []) from hb]
  show (FT.mk ⟨#[]⟩ 1 ⟨#[]⟩ T.kids, _) = _
  rw [← root_eq h]
theorem spl_len2 : ∀ l : List UInt8, lsz ((Ln.spl l).map Ln.lnB) ≤ l.length
  | [] => Nat.le_refl _
  | c :: r => by
    have ih := spl_len2 r
    rw [Ln.spl]
    split
    · show (Ln.bs []).size + lsz _ ≤ _
      rw [Ln.bs_size, List.length_cons]
      show 0 + _ ≤ _
      omega
    · split
      · rename_i e
        show (Ln.bs [c]).size + 0 ≤ _
        rw [Ln.bs_size, List.length_cons]
        simp
      · rename_i h b t e
        rw [e] at ih
        have ih : (Ln.bs h).size + lsz (t.map Ln.lnB) ≤ r.length := ih
        show (Ln.bs (c :: h)).size + lsz (t.map Ln.lnB) ≤ _
        rw [Ln.bs_size] at ih ⊢
        rw [List.length_cons, List.length_cons]
        omega
theorem lsz_mem : ∀ {l : List (ByteArray × Bool)} {x : ByteArray × Bool}, x ∈ l → x.1.size ≤ lsz l
  | y :: r, x, h => by
    rcases List.mem_cons.1 h with rfl | h
    · show _ ≤ _ + _; omega
    · have := lsz_mem h
      show _ ≤ _ + _; omega
theorem splB_lsz (s : ByteArray) : lsz (Ln.splB s) ≤ s.size := by
  have := spl_len2 s.data.toList
  rw [Ln.szL] at this
  exact this
theorem splB_one (s : ByteArray) : ∀ x ∈ Ln.splB s, x.1.size ≤ s.size := fun _ h => Nat.le_trans (lsz_mem h) (splB_lsz s)
/-- What is read is a right tree, no greater than its text; or it is refused. -/
theorem read_forth (s : ByteArray) : ((readR s).2.1 = 0 ∧ rightT (readR s).1 = true ∧ (tdT.tdL [] (readR s).1.kids).length ≤ s.size ∧ datL (tdT.tdL [] (readR s).1.kids) ≤ s.size) ∨ ((readR s).2.1 = 51 ∧ ¬ (readG (Ln.splB s) 0 ([], 1, ⟨#[]⟩) []).2.2 = 0) := by
  by_cases h : (readG (Ln.splB s) 0 ([], 1, ⟨#[]⟩) []).2.2 = 0
  · left
    obtain ⟨L, l1, l2, l3, l4⟩ := readG_forth _ _ _ _ h
    rw [List.nil_append] at l1
    obtain ⟨c1, c2, c3, _⟩ := bld_right L.length L (Nat.le_refl _) ([], 1, ⟨#[]⟩) none [] l2 rfl (fun e => absurd rfl e)
    have hR : readR s = (.mk ⟨#[]⟩ 1 ⟨#[]⟩ (bldT 0 L).1, 0, 0, 0) := by
      unfold readR
      simp only
      rw [if_pos h, l1]
    have hr2 : (bldT 0 L).2 = [] := by
      cases e : (bldT 0 L).2 with
      | nil => rfl
      | cons z t =>
        have hz : z ∈ L := by rw [c1]; exact List.mem_append_right _ (by rw [show ([] : List ByteArray).length = 0 from rfl, e]; simp)
        have h0 := c3 z (by rw [show ([] : List ByteArray).length = 0 from rfl, e]; rfl)
        have hne : ∀ (a : Td) (M : List Td), Ch a M → ∀ y ∈ M, y.1 ≠ [] := by
          intro a M
          induction M generalizing a with
          | nil => intro _ y hy; cases hy
          | cons x r ih =>
            intro hc y hy
            rcases List.mem_cons.1 hy with rfl | hy
            · exact hc.1.ne
            · exact ih x hc.2 y hy
        exact absurd (List.eq_nil_of_length_eq_zero (Nat.le_zero.1 h0)) (hne _ _ l2 z hz)
    have hL : tdT.tdL [] (bldT 0 L).1 = L := by
      have c1' : L = tdT.tdL [] (bldT 0 L).1 ++ (bldT 0 L).2 := c1
      rw [hr2, List.append_nil] at c1'
      exact c1'.symm
    have hs1 := Ln.splB_len s
    have hs2 := splB_lsz s
    rw [hR]
    refine ⟨rfl, ?_, ?_, ?_⟩
    · show rightT (.mk ⟨#[]⟩ 1 ⟨#[]⟩ (bldT 0 L).1) = true
      unfold rightT
      have hroot : rootB (.mk ⟨#[]⟩ 1 ⟨#[]⟩ (bldT 0 L).1) = true := by
        unfold rootB
        rw [Lib.toList_data, Lib.toList_data]
        rfl
      rw [belT_eq, hroot, show belT.belL none (FT.mk ⟨#[]⟩ 1 ⟨#[]⟩ (bldT 0 L).1).kids [] = none from c2]
      rfl
    · show (tdT.tdL [] (bldT 0 L).1).length ≤ _
      rw [hL]; omega
    · show datL (tdT.tdL [] (bldT 0 L).1) ≤ _
      rw [hL]; omega
  · right
    refine ⟨?_, h⟩
    unfold readR
    simp only
    rw [if_neg h]
/-- A told file's line is no longer than so. -/
theorem lineD_len {a x : Td} (h : OkT a x) : (lineD x).length ≤ 65600 + 4 * x.2.2.size := by
  have h1 := quo_size (Ln.bs (Pl.textF x.1))
  have h2 := quo_size x.2.2
  have h3 := Pl.sumP_names x.1 h.names
  have h4 := h.deep
  rw [Ln.bs_size, Pl.textF_length] at h1
  have h5 : (wordB x.2.1).length ≤ 4 := by
    unfold wordB
    split <;> simp
  rw [line_eq]
  unfold bodyD
  have e1 := Ln.szL (Ln.quoP (Ln.bs (Pl.textF x.1)))
  have e2 := Ln.szL (Ln.quoP x.2.2)
  split
  · simp only [List.length_append, List.length_cons, List.length_nil]; omega
  · simp only [List.length_append, List.length_cons, List.length_nil]; omega
theorem lines_len : ∀ (L : List Td) (a : Td), Ch a L → (L.flatMap lineD).length ≤ 65600 * L.length + 4 * datL L ∧ (∀ x ∈ L, (lineD x).length ≤ 65600 + 4 * datL L)
  | [], _, _ => ⟨by simp, fun x h => by cases h⟩
  | x :: r, a, h => by
    have h1 := lineD_len h.1
    obtain ⟨i1, i2⟩ := lines_len r x h.2
    have e : datL (x :: r) = x.2.2.size + datL r := rfl
    refine ⟨?_, fun y hy => ?_⟩
    · rw [List.flatMap_cons, List.length_append, List.length_cons, e]; omega
    · rw [e]
      rcases List.mem_cons.1 hy with rfl | hy
      · omega
      · have := i2 y hy; omega
/-- A right tree's text is not too great. -/
theorem text_small {T : FT} (h : rightT T = true) (hN : (tdT.tdL [] T.kids).length ≤ 1048576) (hD : datL (tdT.tdL [] T.kids) ≤ 1048576) :
    (prtT T).length ≤ 1099511627776 ∧ (Ln.splB (Ln.bs (prtT T))).length ≤ 1048576 ∧ ∀ x ∈ Ln.splB (Ln.bs (prtT T)), x.1.size ≤ 16777216 := by
  obtain ⟨h1, h2⟩ := lines_len _ _ (ch_root h)
  rw [prt_td, splB_lines]
  refine ⟨by omega, by rw [List.length_map]; exact hN, fun x hx => ?_⟩
  obtain ⟨y, hy, rfl⟩ := List.mem_map.1 hx
  have h3 := h2 y hy
  rw [line_eq, List.length_append] at h3
  show (Ln.bs _).size ≤ _
  rw [Ln.bs_size]
  simp at h3 ⊢
  omega
theorem dat_mem : ∀ {L : List Td} {x : Td}, x ∈ L → x.2.2.size ≤ datL L
  | y :: r, x, h => by
    rcases List.mem_cons.1 h with rfl | h
    · show _ ≤ _ + _; omega
    · have := dat_mem h
      show _ ≤ _ + _; omega
theorem dat_app : ∀ (L M : List Td), datL (L ++ M) = datL L + datL M
  | [], M => by rw [List.nil_append]; show _ = 0 + _; omega
  | x :: r, M => by rw [List.cons_append]; show _ + datL (r ++ M) = _ + datL r + _; rw [dat_app r M]; omega
/-- The sizes of what is right and not too great. -/
theorem sz_right (T : FT) : ∀ p, belT T p = none → datL (tdT.tdL p T.kids) ≤ 1048576 → szT.szL T.kids = true := by
  induction T using FT.ind with
  | h T ih =>
  intro p hb hd
  rw [belT_eq] at hb
  have key : ∀ (l : List FT), (∀ i (hi : i < l.length) p, belT (l[i]) p = none → datL (tdT.tdL p (l[i]).kids) ≤ 1048576 → szT.szL (l[i]).kids = true) → ∀ b, belT.belL b l p = none → datL (tdT.tdL p l) ≤ 1048576 → szT.szL l = true := by
    intro l
    induction l with
    | nil => intro _ _ _ _; rw [szT.szL]
    | cons x r ihr =>
      intro h b hl hdl
      rw [belT.belL] at hl
      rw [tdT.tdL, td_eq, dat_app] at hdl
      have hdl : x.d.size + datL (tdT.tdL (p ++ [x.nm]) x.kids) + datL (tdT.tdL p r) ≤ 1048576 := hdl
      split at hl
      · cases hl
      · rename_i hbad
        split at hl
        · cases hl
        · rename_i hk
          have hn : Pl.nameB x.nm = true := by
            simp only [badB, Bool.not_eq_true, Bool.or_eq_false_iff, Bool.not_eq_false'] at hbad
            exact hbad.1.1.1
          have hsz := Pl.name_size hn
          have h0 := h 0 (by simp) (p ++ [x.nm]) hk (by show datL (tdT.tdL _ x.kids) ≤ _; omega)
          have h1 := ihr (fun i hi => h (i + 1) (by simpa using hi)) _ hl (by omega)
          have e : szT x = szT.szL x.kids := by rw [FT.eta x, szT]; rfl
          rw [szT.szL, e, h1, show szT.szL x.kids = true from h0, decide_eq_true (by omega : x.nm.size ≤ 1048576), decide_eq_true (by omega : x.d.size ≤ 1048576)]
          rfl
  exact key T.kids (fun i hi p => ih i hi p) none hb hd
theorem sz_root {T : FT} (h : rightT T = true) (hD : datL (tdT.tdL [] T.kids) ≤ 1048576) : szT T = true := by
  have := sz_right T [] (right_bel h) hD
  rw [FT.eta T, szT]
  exact this
end Ft
end Go.Proofs.YtfbhofomcenabaaGreatDoor
