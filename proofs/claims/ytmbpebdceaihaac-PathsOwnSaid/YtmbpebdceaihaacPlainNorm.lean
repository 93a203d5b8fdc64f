/- Plain facts on where texts lead: codes, a path's own text, texts behind one another. -/
import Derived.Test.YtmbpebdceaihaacPlainCmp
namespace Go.Proofs.Ytmbpebdceaihaac
namespace Pl

theorem normal_cases (l : List ByteArray) (s : ByteArray) :
    normalP l s = ([], false, 20) ∨ normalP l s = ([], false, 4) ∨
    (rightP l = true ∧ ¬ 1024 < s.size ∧ ¬ s.toList = [] ∧ (partsB s).all mayB = true ∧ ¬ 1024 < sizeP ((partsB s).foldl stepP (startP l s)) ∧ normalP l s = ((partsB s).foldl stepP (startP l s), lastDir (partsB s), 0)) := by
  cases hr : rightP l
  · exact .inl (normal_wrong hr)
  by_cases h2 : 1024 < s.size
  · exact .inr (.inl (normal_far hr h2))
  by_cases h3 : s.toList = []
  · exact .inl (normal_none hr h2 h3)
  cases h4 : (partsB s).all mayB
  · exact .inl (normal_bad hr h2 h3 h4)
  by_cases h5 : 1024 < sizeP ((partsB s).foldl stepP (startP l s))
  · exact .inr (.inl (normal_long hr h2 h3 h4 h5))
  · exact .inr (.inr ⟨rfl, h2, h3, rfl, h5, normal_ok hr h2 h3 h4 h5⟩)

theorem normal_code {l : List ByteArray} {s : ByteArray} (h : ¬ (normalP l s).2.2 = 0) : (normalP l s).1 = [] ∧ ((normalP l s).2.2 = 20 ∨ (normalP l s).2.2 = 4) := by
  rcases normal_cases l s with e | e | ⟨_, _, _, _, _, e⟩
  · rw [e]; simp
  · rw [e]; simp
  · rw [e] at h; simp at h
theorem start_names {l : List ByteArray} (h : rightP l = true) (s : ByteArray) : (startP l s).all nameB = true := by
  unfold startP
  split
  · rfl
  · exact right_names h
theorem normal_right {l : List ByteArray} {s : ByteArray} (h : (normalP l s).2.2 = 0) : rightP (normalP l s).1 = true ∧ rightP l = true ∧ s.size ≤ 1024 ∧ ¬ s.toList = [] := by
  rcases normal_cases l s with e | e | ⟨h1, h2, h3, h4, h5, e⟩
  · rw [e] at h; simp at h
  · rw [e] at h; simp at h
  · rw [e]
    refine ⟨?_, h1, by omega, h3⟩
    have h6 := fold_names (start_names h1 s) (partsB s) h4
    simp only [rightP, h6, Bool.true_and, decide_eq_true_eq]
    omega
theorem normal_names (l : List ByteArray) (s : ByteArray) : (normalP l s).1.all nameB = true ∧ (normalP l s).1.length ≤ 1024 := by
  by_cases h : (normalP l s).2.2 = 0
  · have h1 := (normal_right h).1
    exact ⟨right_names h1, right_len h1⟩
  · rw [(normal_code h).1]; simp

/-! ### A path's own text -/
theorem name_no_slash {x : ByteArray} (h : nameB x = true) : ∀ c ∈ x.data.toList, (c == 47) = false := by
  simp only [nameB, nameL, Bool.and_eq_true] at h
  have h2 := List.all_eq_true.1 h.2
  intro c hc
  have := h2 c hc
  simp only [okc, Bool.not_eq_true', Bool.or_eq_false_iff] at this
  exact this.1
theorem spl_name : ∀ (x : List UInt8), (∀ c ∈ x, (c == 47) = false) → spl x = [x]
  | [], _ => rfl
  | c :: r, h => by rw [spl_other (h c (by simp)), spl_name r (fun d hd => h d (by simp [hd]))]; rfl
theorem spl_name_slash : ∀ (x r : List UInt8), (∀ c ∈ x, (c == 47) = false) → spl (x ++ 47 :: r) = x :: spl r
  | [], r, _ => spl_slash r
  | c :: x, r, h => by
    rw [List.cons_append, spl_other (h c (by simp)), spl_name_slash x r (fun d hd => h d (by simp [hd]))]; rfl
theorem spl_text : ∀ (p : List ByteArray), p.all nameB = true → p ≠ [] → spl (textF p) = [] :: p.map fun x => x.data.toList
  | [], _, h => absurd rfl h
  | [x], h, _ => by
    simp only [List.all_cons, Bool.and_eq_true] at h
    simp only [textF, List.append_nil, List.map_cons, List.map_nil]
    rw [spl_slash, spl_name _ (name_no_slash h.1)]
  | x :: y :: r, h, _ => by
    simp only [List.all_cons, Bool.and_eq_true] at h
    have ih := spl_text (y :: r) (by simp [h.2]) (by simp)
    simp only [textF] at ih ⊢
    rw [spl_slash] at ih ⊢
    rw [spl_name_slash _ _ (name_no_slash h.1)]
    have e := List.tail_eq_of_cons_eq ih
    rw [e]; rfl
theorem bs_data (x : ByteArray) : bs x.data.toList = x := by cases x; rfl
theorem data_bs (l : List UInt8) : (bs l).data.toList = l := rfl
theorem bs_toList (l : List UInt8) : (bs l).toList = l := by rw [toL]; rfl
theorem bs_size (l : List UInt8) : (bs l).size = l.length := by rw [← szL]; rfl
theorem name_not_dir {x : ByteArray} (h : nameB x = true) : dirB x = false := by
  simp only [nameB, nameL, Bool.and_eq_true, Bool.not_eq_true', Bool.or_eq_false_iff] at h
  have h1 := h.1.1.1.1
  have h2 := h.1.1.2
  have h3 := h.1.2
  simp only [dirB, toL]
  rw [h2, h3]
  cases hx : x.data.toList with
  | nil => rw [hx] at h1; simp at h1
  | cons a b => rfl
theorem fold_all : ∀ (p st : List ByteArray), p.all nameB = true → p.foldl stepP st = st ++ p
  | [], st, _ => by simp
  | x :: r, st, h => by
    simp only [List.all_cons, Bool.and_eq_true] at h
    rw [List.foldl_cons, fold_all r _ h.2]
    simp [stepP, name_not_dir h.1]
theorem parts_text {p : List ByteArray} (h : p.all nameB = true) (hp : p ≠ []) : partsB (bs (textF p)) = bs [] :: p := by
  rw [partsB, data_bs, spl_text p h hp]
  simp only [List.map_cons, List.map_map]
  congr 1
  have : (bs ∘ fun x : ByteArray => x.data.toList) = id := by funext x; exact bs_data x
  rw [this, List.map_id]
theorem parts_root : partsB (bs [47]) = [bs [], bs []] := rfl
theorem name_may {x : ByteArray} (h : nameB x = true) : mayB x = true := by simp [mayB, h]
theorem all_name_may {p : List ByteArray} (h : p.all nameB = true) : p.all mayB = true := by
  rw [List.all_eq_true] at h ⊢
  exact fun x hx => name_may (h x hx)
theorem text_size {p : List ByteArray} : (textP p).size = sizeP p := by
  unfold textP sizeP
  split
  · rfl
  · rw [bs_size, textF_length]
theorem text_head (p : List ByteArray) : (textP p).data.toList.head? = some 47 := by
  unfold textP
  split
  · rfl
  · rw [data_bs]
    cases p with
    | nil => simp at *
    | cons x r => rfl
theorem text_ne (p : List ByteArray) : ¬ (textP p).toList = [] := by
  rw [toL]; intro e; have := text_head p; rw [e] at this; simp at this
theorem text_byte (p : List ByteArray) (h : 0 < (textP p).size) : ((textP p)[0]'h) = 47 := by
  have h1 := head_byte h
  rw [text_head] at h1
  exact (Option.some.inj h1).symm
theorem size_ge (p : List ByteArray) : 1 ≤ sizeP p := by
  unfold sizeP
  split
  · omega
  · cases p with
    | nil => simp at *
    | cons x r => simp [sumP]; omega
theorem right_size {p : List ByteArray} (h : rightP p = true) : sizeP p ≤ 1024 := by
  simp only [rightP, Bool.and_eq_true, decide_eq_true_eq] at h; omega
theorem print_right {p : List ByteArray} (h : rightP p = true) : printP p = (textP p, 0) := by simp [printP, h]
theorem normal_text {p o : List ByteArray} (hp : rightP p = true) (ho : rightP o = true) : (normalP o (textP p)).1 = p ∧ (normalP o (textP p)).2.2 = 0 := by
  have hn := right_names hp
  have hs : startP o (textP p) = [] := by rw [startP, text_head, if_pos rfl]
  have h2 : ¬ 1024 < (textP p).size := by rw [text_size]; have := right_size hp; omega
  have hparts : (partsB (textP p)).all mayB = true ∧ (partsB (textP p)).foldl stepP [] = p := by
    by_cases h0 : p = []
    · subst h0
      exact ⟨by decide +kernel, by decide +kernel⟩
    · have e : textP p = bs (textF p) := by
        unfold textP; rw [if_neg (fun q => h0 (List.eq_nil_of_length_eq_zero q))]
      rw [e, parts_text hn h0]
      refine ⟨by simp only [List.all_cons, all_name_may hn, Bool.and_true]; decide +kernel, ?_⟩
      rw [List.foldl_cons, show stepP [] (bs []) = [] by decide +kernel, fold_all p [] hn]; rfl
  have h5 : ¬ 1024 < sizeP ((partsB (textP p)).foldl stepP (startP o (textP p))) := by
    rw [hs, hparts.2]; have := right_size hp; omega
  rw [normal_ok ho h2 (text_ne p) hparts.1 h5, hs, hparts.2]
  exact ⟨rfl, rfl⟩

theorem text_facts {p : List ByteArray} (hr : rightP p = true) : ∃ t : ByteArray, printP p = (t, 0) ∧ t.size ≤ 1024 ∧ (∃ h : 0 < t.size, (((t[0]'h).toNat : Int) != 47) = false) ∧ ∀ q, rightP q = true → (normalP q t).1 = p ∧ (normalP q t).2.2 = 0 := by
  refine ⟨textP p, print_right hr, by rw [text_size]; exact right_size hr, ?_, fun q hq => normal_text hr hq⟩
  have h : 0 < (textP p).size := by rw [text_size]; have := size_ge p; omega
  exact ⟨h, by rw [text_byte p h]; rfl⟩

theorem normal_abs {l o : List ByteArray} {s : ByteArray} (h : (normalP l s).2.2 = 0) (ho : rightP o = true) (h0 : s.data.toList.head? = some 47) : normalP o s = normalP l s := by
  rcases normal_cases l s with e | e | ⟨h1, h2, h3, h4, h5, e⟩
  · rw [e] at h; simp at h
  · rw [e] at h; simp at h
  · have es : startP o s = startP l s := by rw [startP, startP, if_pos h0, if_pos h0]
    rw [e, ← es]
    rw [← es] at h5
    exact normal_ok ho h2 h3 h4 h5

/-! ### Two texts, one behind the other -/
theorem spl_append : ∀ (a b : List UInt8), spl (a ++ 47 :: b) = spl a ++ spl b
  | [], b => by rw [List.nil_append, spl_slash]; rfl
  | c :: a, b => by
    rw [List.cons_append]
    cases hc : (c == 47)
    · rw [spl_other hc, spl_other hc, spl_append a b]
      cases h : spl a with
      | nil => exact absurd h (spl_ne a)
      | cons x r => rfl
    · have : c = 47 := by simpa using hc
      subst this
      rw [spl_slash, spl_slash, spl_append a b]; rfl
def behind (s t : ByteArray) : ByteArray := s ++ ⟨#[47]⟩ ++ t
theorem behind_data (s t : ByteArray) : (behind s t).data.toList = s.data.toList ++ 47 :: t.data.toList := by
  simp [behind, ByteArray.data_append]
theorem behind_size (s t : ByteArray) : (behind s t).size = s.size + 1 + t.size := by
  rw [← szL, behind_data, List.length_append, List.length_cons, szL, szL]; omega
theorem parts_behind (s t : ByteArray) : partsB (behind s t) = partsB s ++ partsB t := by
  rw [partsB, behind_data, spl_append, List.map_append]; rfl
theorem lastDir_append {a b : List ByteArray} (h : b ≠ []) : lastDir (a ++ b) = lastDir b := by
  unfold lastDir
  rw [List.getLast?_append]
  cases hb : b.getLast? with
  | none => exact absurd (List.getLast?_eq_none_iff.1 hb) h
  | some x => rfl
theorem parts_ne (s : ByteArray) : partsB s ≠ [] := by
  intro e; exact spl_ne _ (List.map_eq_nil_iff.1 e)
theorem normal_behind {l : List ByteArray} {s t : ByteArray} (h : (normalP l s).2.2 = 0) (ht : ¬ t.toList = []) (h0 : ¬ t.data.toList.head? = some 47) (hlen : s.size + 1 + t.size ≤ 1024) :
    normalP l (behind s t) = normalP (normalP l s).1 t := by
  have hr := (normal_right h).1
  rcases normal_cases l s with e | e | ⟨h1, h2, h3, h4, h5, e⟩
  · rw [e] at h; simp at h
  · rw [e] at h; simp at h
  · rw [e] at hr ⊢
    have hs2 : ¬ 1024 < (behind s t).size := by rw [behind_size]; omega
    have ht2 : ¬ 1024 < t.size := by omega
    have hne : ¬ (behind s t).toList = [] := by rw [toL, behind_data]; simp
    have est : startP l (behind s t) = startP l s := by
      have : (behind s t).data.toList.head? = s.data.toList.head? := by
        rw [behind_data]
        cases hs : s.data.toList with
        | nil => rw [toL, hs] at h3; exact absurd rfl h3
        | cons a b => rfl
      rw [startP, startP, this]
    have esp : startP ((partsB s).foldl stepP (startP l s)) t = (partsB s).foldl stepP (startP l s) := by rw [startP, if_neg h0]
    have efold : (partsB (behind s t)).foldl stepP (startP l (behind s t)) = (partsB t).foldl stepP (startP ((partsB s).foldl stepP (startP l s)) t) := by
      rw [parts_behind, List.foldl_append, est, esp]
    have eall : (partsB (behind s t)).all mayB = (partsB t).all mayB := by rw [parts_behind, List.all_append, h4, Bool.true_and]
    have elast : lastDir (partsB (behind s t)) = lastDir (partsB t) := by rw [parts_behind, lastDir_append (parts_ne t)]
    cases h6 : (partsB t).all mayB
    · rw [normal_bad h1 hs2 hne (by rw [eall]; exact h6), normal_bad hr ht2 ht h6]
    · by_cases h7 : 1024 < sizeP ((partsB t).foldl stepP (startP ((partsB s).foldl stepP (startP l s)) t))
      · rw [normal_long hr ht2 ht h6 h7, normal_long h1 hs2 hne (by rw [eall]; exact h6) (by rw [efold]; exact h7)]
      · rw [normal_ok hr ht2 ht h6 h7, normal_ok h1 hs2 hne (by rw [eall]; exact h6) (by rw [efold]; exact h7), efold, elast]
theorem normal_behind_far {l : List ByteArray} {s t : ByteArray} (h : (normalP l s).2.2 = 0) (hlen : ¬ s.size + 1 + t.size ≤ 1024) : normalP l (behind s t) = ([], false, 4) :=
  normal_far (normal_right h).2.1 (by rw [behind_size]; omega)

end Pl
end Go.Proofs.Ytmbpebdceaihaac
