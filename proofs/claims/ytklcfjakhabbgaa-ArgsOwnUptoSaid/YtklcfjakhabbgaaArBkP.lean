/- Plain: what is written is read as it was; what is read is right, and no longer than what was told. -/
import Derived.Test.YtklcfjakhabbgaaArNmP
import Derived.Test.YtklcfjakhabbgaaArOl
import Derived.Test.YtklcfjakhabbgaaArPs
namespace Go.Proofs.Ytklcfjakhabbgaa
namespace Ar
theorem drop_at {L : List ByteArray} {a : Nat} {s : ByteArray} {r : List ByteArray} (h : L.drop a = s :: r) : a < L.length ∧ L.getD a (bs []) = s ∧ L.drop (a + 1) = r := by
  have ha : a < L.length := by
    rcases Nat.lt_or_ge a L.length with h1 | h1
    · exact h1
    · rw [List.drop_eq_nil_of_le h1] at h; cases h
  rw [List.drop_eq_getElem_cons ha] at h
  have h1 := (List.cons.inj h).1
  have h2 := (List.cons.inj h).2
  exact ⟨ha, by rw [List.getD_eq_getElem?_getD, List.getElem?_eq_getElem ha]; exact h1, h2⟩
/-- Reading from one place comes to reading from another one. -/
def Goes (L : List ByteArray) (a : Nat) (x : Av) (a' : Nat) (x' : Av) : Prop := ∀ n, L.length ≤ a + n → ∃ n', L.length ≤ a' + n' ∧ optsF L n a x = optsF L n' a' x'
theorem Goes.refl (L : List ByteArray) (a : Nat) (x : Av) : Goes L a x a x := fun n h => ⟨n, h, rfl⟩
theorem Goes.trans {L : List ByteArray} {a b c : Nat} {x y z : Av} (h : Goes L a x b y) (k : Goes L b y c z) : Goes L a x c z := fun n hn => by
  obtain ⟨n1, h1, e1⟩ := h n hn
  obtain ⟨n2, h2, e2⟩ := k n1 h1
  exact ⟨n2, h2, e1.trans e2⟩
theorem goes_opt {L : List ByteArray} {a a' : Nat} {x x' : Av} {s : ByteArray} {l : List UInt8} {r : List ByteArray} (h : L.drop a = s :: r) (hs : s.data.toList = 45 :: l) (h1 : l ≠ [45]) (h2 : l ≠ []) (ho : optionF L l a x = (true, a', x')) (ha : a ≤ a') : Goes L a x (a' + 1) x' := by
  obtain ⟨p1, p2, _⟩ := drop_at h
  intro n hn
  match n, hn with
  | 0, hn => exact absurd hn (by omega)
  | n + 1, hn =>
    refine ⟨n, by omega, ?_⟩
    rw [optsF, if_neg (by omega)]
    dsimp only
    rw [p2, hs, if_neg (by simp [h1]), if_neg (by simp [h2]), show List.drop 1 (45 :: l) = l from rfl, ho]
    rfl
theorem goes_n {L : List ByteArray} {a : Nat} {x : Av} {r : List ByteArray} (h : L.drop a = ⟨#[45, 110]⟩ :: r) : Goes L a x (a + 1) { x with q := true } :=
  goes_opt (a' := a) h (l := [110]) rfl (by decide) (by decide) rfl (Nat.le_refl _)
theorem goes_E {L : List ByteArray} {a : Nat} {x : Av} {r : List ByteArray} (h : L.drop a = ⟨#[45, 69]⟩ :: r) : Goes L a x (a + 1) { x with e := true } :=
  goes_opt (a' := a) h (l := [69]) rfl (by decide) (by decide) rfl (Nat.le_refl _)
theorem goes_s {L : List ByteArray} {a : Nat} {x : Av} {r : List ByteArray} (h : L.drop a = ⟨#[45, 115]⟩ :: r) : Goes L a x (a + 1) { x with s := true } :=
  goes_opt (a' := a) h (l := [115]) rfl (by decide) (by decide) rfl (Nat.le_refl _)
theorem ip_data (s : ByteArray) : (ip s).data.toList = 45 :: 105 :: s.data.toList := by
  rw [ip, ByteArray.data_append, Array.toList_append]; rfl
theorem goes_i {L : List ByteArray} {a : Nat} {x : Av} {sf : ByteArray} {r : List ByteArray} (h : L.drop a = ip sf :: r) (hf : sfxB sf = true) : Goes L a x (a + 1) { x with i := true, s := true, sf := sf } := by
  refine goes_opt (a' := a) h (l := 105 :: sf.data.toList) (ip_data sf) (by simp) (by simp) ?_ (Nat.le_refl _)
  unfold optionF
  rw [if_neg (by simp), lettersF, if_neg (by decide), if_neg (by decide), if_neg (fun h => absurd h.1 (by decide)), bs_data]
  show ((sfxB sf), a, _) = _
  rw [hf]
  rfl
theorem goes_p {L : List ByteArray} {a : Nat} {x : Av} {p : Pc} {r : List ByteArray} (h : L.drop a = (if p.1 then [⟨#[45, 102]⟩, p.2] else [⟨#[45, 101]⟩, p.2]) ++ r) : Goes L a x (a + 2) { x with sc := x.sc ++ [p] } ∧ L.drop (a + 2) = r := by
  obtain ⟨b, v⟩ := p
  cases b
  · have h' : L.drop a = ⟨#[45, 101]⟩ :: v :: r := h
    obtain ⟨_, _, q3⟩ := drop_at h'
    obtain ⟨r1, r2, r3⟩ := drop_at q3
    refine ⟨goes_opt (a' := a + 1) h' (l := [101]) rfl (by decide) (by decide) ?_ (Nat.le_succ _), r3⟩
    unfold optionF
    rw [if_neg (by decide), lettersF, if_neg (by decide), if_neg (by decide), if_pos ⟨by decide, rfl⟩, if_pos r1, r2]
    rfl
  · have h' : L.drop a = ⟨#[45, 102]⟩ :: v :: r := h
    obtain ⟨_, _, q3⟩ := drop_at h'
    obtain ⟨r1, r2, r3⟩ := drop_at q3
    refine ⟨goes_opt (a' := a + 1) h' (l := [102]) rfl (by decide) (by decide) ?_ (Nat.le_succ _), r3⟩
    unfold optionF
    rw [if_neg (by decide), lettersF, if_neg (by decide), if_neg (by decide), if_pos ⟨by decide, rfl⟩, if_pos r1, r2]
    rfl
theorem goes_sc {L : List ByteArray} : ∀ (l : List Pc) (a : Nat) (x : Av) (r : List ByteArray), L.drop a = scL l ++ r → ∃ a', Goes L a x a' { x with sc := x.sc ++ l } ∧ L.drop a' = r
  | [], a, x, r, h => ⟨a, by rw [List.append_nil]; exact Goes.refl _ _ _, h⟩
  | p :: l, a, x, r, h => by
    have e : scL (p :: l) = (if p.1 then [⟨#[45, 102]⟩, p.2] else [⟨#[45, 101]⟩, p.2]) ++ scL l := by simp [scL]
    rw [e, List.append_assoc] at h
    obtain ⟨g1, d1⟩ := goes_p (x := x) h
    obtain ⟨a', g2, d2⟩ := goes_sc l (a + 2) { x with sc := x.sc ++ [p] } r d1
    refine ⟨a', g1.trans ?_, d2⟩
    rw [show x.sc ++ p :: l = x.sc ++ [p] ++ l by simp]
    exact g2
theorem goes_flag {L : List ByteArray} (t : ByteArray) (f : Av → Av) (hf : ∀ a x r, L.drop a = t :: r → Goes L a x (a + 1) (f x)) (b : Bool) {a : Nat} {x : Av} {r : List ByteArray} (h : L.drop a = (if b then [t] else []) ++ r) : ∃ a', Goes L a x a' (if b then f x else x) ∧ L.drop a' = r := by
  cases b
  · exact ⟨a, Goes.refl _ _ _, h⟩
  · have h' : L.drop a = t :: r := h
    exact ⟨a + 1, hf a x r h', (drop_at h').2.2⟩
theorem rightB_iff {x : Av} (h : rightB x = true) : x.sc ≠ [] ∧ sfxB x.sf = true ∧ (x.i = false → x.sf = bs []) ∧ (x.i = true → x.s = true) := by
  simp only [rightB, Bool.and_eq_true, decide_eq_true_eq, Bool.or_eq_true, Bool.not_eq_true'] at h
  obtain ⟨h1, h2, h3, h4⟩ := h
  refine ⟨fun e => by rw [e] at h1; simp at h1, h2, fun hi => ?_, fun hi => ?_⟩
  · rcases h3 with h3 | h3
    · rw [hi] at h3; cases h3
    · rw [List.isEmpty_iff, toL] at h3
      exact ba_ext h3
  · rcases h4 with h4 | h4
    · exact h4
    · rw [hi] at h4; cases h4
theorem read_print {x : Av} (h : printE x = 0) : readF (printL x) = (x, 0, 0) := by
  obtain ⟨k1, k2, k3, k4⟩ := rightB_iff (printE_right h)
  have hlen := printE_len h
  obtain ⟨L, hL⟩ : ∃ L, L = printL x := ⟨_, rfl⟩
  rw [← hL] at hlen ⊢
  have h0 : L.drop 0 = (if x.q then [⟨#[45, 110]⟩] else []) ++ ((if x.e then [⟨#[45, 69]⟩] else []) ++ ((if x.s && !x.i then [⟨#[45, 115]⟩] else []) ++ ((if x.i then [ip x.sf] else []) ++ (scL x.sc ++ ⟨#[45, 45]⟩ :: x.nm)))) := by
    rw [hL]; simp [printL, optL]
  obtain ⟨a1, g1, d1⟩ := goes_flag ⟨#[45, 110]⟩ (fun x => { x with q := true }) (fun a x r h => goes_n h) x.q (x := av0') h0
  obtain ⟨a2, g2, d2⟩ := goes_flag ⟨#[45, 69]⟩ (fun x => { x with e := true }) (fun a x r h => goes_E h) x.e (x := if x.q then { av0' with q := true } else av0') d1
  obtain ⟨a3, g3, d3⟩ := goes_flag ⟨#[45, 115]⟩ (fun x => { x with s := true }) (fun a x r h => goes_s h) (x.s && !x.i) (x := if x.e then { (if x.q then { av0' with q := true } else av0') with e := true } else (if x.q then { av0' with q := true } else av0')) d2
  obtain ⟨a4, g4, d4⟩ := goes_flag (ip x.sf) (fun y => { y with i := true, s := true, sf := x.sf }) (fun a x r h => goes_i h k2) x.i (x := if (x.s && !x.i) then { (if x.e then { (if x.q then { av0' with q := true } else av0') with e := true } else (if x.q then { av0' with q := true } else av0')) with s := true } else (if x.e then { (if x.q then { av0' with q := true } else av0') with e := true } else (if x.q then { av0' with q := true } else av0'))) d3
  have ey : ∀ y, y = (if x.i then { (if (x.s && !x.i) then { (if x.e then { (if x.q then { av0' with q := true } else av0') with e := true } else (if x.q then { av0' with q := true } else av0')) with s := true } else (if x.e then { (if x.q then { av0' with q := true } else av0') with e := true } else (if x.q then { av0' with q := true } else av0'))) with i := true, s := true, sf := x.sf } else (if (x.s && !x.i) then { (if x.e then { (if x.q then { av0' with q := true } else av0') with e := true } else (if x.q then { av0' with q := true } else av0')) with s := true } else (if x.e then { (if x.q then { av0' with q := true } else av0') with e := true } else (if x.q then { av0' with q := true } else av0'))) : Av) → y = { x with sc := [], nm := [] } := by
    rintro y rfl
    obtain ⟨q, e, s, i, sf, sc, nm⟩ := x
    cases i
    · have := k3 rfl
      dsimp only at this
      subst this
      cases q <;> cases e <;> cases s <;> rfl
    · have := k4 rfl
      dsimp only at this
      subst this
      cases q <;> cases e <;> rfl
  obtain ⟨a5, g5, d5⟩ := goes_sc x.sc a4 { x with sc := [], nm := [] } _ d4
  have g := g1.trans (g2.trans (g3.trans g4))
  rw [ey _ rfl] at g
  obtain ⟨n', hn, e⟩ := (g.trans g5) L.length (by omega)
  obtain ⟨p1, p2, p3⟩ := drop_at d5
  have e2 : optsF L n' a5 { x with sc := x.sc, nm := [] } = (true, a5 + 1, { x with nm := [] }) := by
    match n', hn with
    | 0, hn => exact absurd hn (by omega)
    | n + 1, hn =>
      rw [optsF, if_neg (by omega)]
      dsimp only
      rw [p2, if_pos rfl]
  have e3 : optsF L L.length 0 av0' = (true, a5 + 1, { x with nm := [] }) := e.trans e2
  unfold readF
  rw [if_neg (by omega), e3]
  dsimp only
  rw [if_pos rfl, operF, if_neg k1]
  dsimp only
  rw [p3, if_pos rfl]
/-- What is read is right so far, in texts of at most M bytes. -/
def Ok0 (M : Nat) (x : Av) : Prop := sfxB x.sf = true ∧ (x.i = false → x.sf = bs []) ∧ (x.i = true → x.s = true) ∧ (∀ p ∈ x.sc, p.2.size ≤ M) ∧ x.nm = []
theorem dov_ok {M k : Nat} {v : ByteArray} {x : Av} (h : Ok0 M x) (hv : v.size ≤ M) (hb : (dov k v x).1 = true) : Ok0 M (dov k v x).2 := by
  obtain ⟨h1, h2, h3, h4, h5⟩ := h
  have hp : ∀ b : Bool, ∀ p ∈ x.sc ++ [(b, v)], p.2.size ≤ M := fun b p hp => by
    rcases List.mem_append.1 hp with hp | hp
    · exact h4 p hp
    · cases List.mem_singleton.1 hp; exact hv
  unfold dov at hb ⊢
  split
  · exact ⟨h1, h2, h3, h4, h5⟩
  · exact ⟨h1, h2, h3, h4, h5⟩
  · exact ⟨h1, h2, fun _ => rfl, h4, h5⟩
  · exact ⟨h1, h2, h3, hp false, h5⟩
  · exact ⟨h1, h2, h3, hp true, h5⟩
  · rename_i n0 n1 n2 n3 n4
    refine ⟨?_, fun q => (nomatch q), fun _ => rfl, h4, h5⟩
    split at hb
    · exact absurd rfl n0
    · exact absurd rfl n1
    · exact absurd rfl n2
    · exact absurd rfl n3
    · exact absurd rfl n4
    · exact hb
theorem dov_bare {k : Nat} (h : k < 3) (v : ByteArray) (x : Av) : (dov k v x).1 = true := by
  match k, h with
  | 0, _ => rfl
  | 1, _ => rfl
  | 2, _ => rfl
theorem getD_size {L : List ByteArray} {M : Nat} (hM : ∀ s ∈ L, s.size ≤ M) (a : Nat) : (L.getD a (bs [])).size ≤ M := by
  rw [List.getD_eq_getElem?_getD]
  rcases Nat.lt_or_ge a L.length with h | h
  · rw [List.getElem?_eq_getElem h]; exact hM _ (List.getElem_mem h)
  · rw [List.getElem?_eq_none h]; exact Nat.zero_le _
theorem letters_ok {L : List ByteArray} {M : Nat} (hM : ∀ s ∈ L, s.size ≤ M) : ∀ (l : List UInt8) (a : Nat) (x : Av), l.length ≤ M → Ok0 M x → (lettersF L l a x).1 = true → Ok0 M (lettersF L l a x).2.2
  | [], a, x, _, h, _ => h
  | c :: r, a, x, hl, h, hb => by
    have hr : r.length ≤ M := by simp at hl; omega
    rw [lettersF] at hb ⊢
    split at hb
    · cases hb
    · rename_i h6
      rw [if_neg h6]
      split at hb
      · rename_i h3
        rw [if_pos h3]
        exact letters_ok hM r a _ hr (dov_ok h (Nat.zero_le _) (dov_bare h3 _ _)) hb
      · rename_i h3
        rw [if_neg h3]
        split at hb
        · rename_i h5
          rw [if_pos h5]
          split at hb
          · rename_i h7
            rw [if_pos h7]
            exact dov_ok h (getD_size hM _) hb
          · cases hb
        · rename_i h5
          rw [if_neg h5]
          exact dov_ok h (by rw [bs_size]; exact hr) hb
theorem long_ok {M : Nat} (l : List UInt8) (a : Nat) (x : Av) (hl : l.length ≤ M) (h : Ok0 M x) (hb : (longF l a x).1 = true) : Ok0 M (longF l a x).2.2 := by
  unfold longF at hb ⊢
  dsimp only at hb ⊢
  split at hb
  · cases hb
  · rename_i h6
    rw [if_neg h6]
    split at hb
    · cases hb
    · rename_i h7
      rw [if_neg h7]
      exact dov_ok h (by rw [bs_size]; exact Nat.le_trans (cutEq_len l) hl) hb
theorem option_ok {L : List ByteArray} {M : Nat} (hM : ∀ s ∈ L, s.size ≤ M) (l : List UInt8) (a : Nat) (x : Av) (hl : l.length ≤ M) (h : Ok0 M x) (hb : (optionF L l a x).1 = true) : Ok0 M (optionF L l a x).2.2 := by
  unfold optionF at hb ⊢
  split at hb
  · rename_i h6
    rw [if_pos h6]
    exact long_ok _ a x (by simp; omega) h hb
  · rename_i h6
    rw [if_neg h6]
    exact letters_ok hM l a x hl h hb
theorem opts_ok {L : List ByteArray} {M : Nat} (hM : ∀ s ∈ L, s.size ≤ M) : ∀ (n a : Nat) (x : Av), Ok0 M x → (optsF L n a x).1 = true → Ok0 M (optsF L n a x).2.2
  | 0, a, x, h, _ => h
  | n + 1, a, x, h, hb => by
    rw [optsF] at hb ⊢
    split
    · exact h
    · rename_i h1
      rw [if_neg h1] at hb
      dsimp only at hb ⊢
      split
      · exact h
      · rename_i h2
        rw [if_neg h2] at hb
        split
        · exact h
        · rename_i h3
          rw [if_neg h3] at hb
          have hs : (List.drop 1 (L.getD a (bs [])).data.toList).length ≤ M := by
            have := getD_size hM a
            rw [List.length_drop, szL]
            omega
          have ho := option_ok hM (List.drop 1 (L.getD a (bs [])).data.toList) a x hs h
          generalize optionF L (List.drop 1 (L.getD a (bs [])).data.toList) a x = y at *
          split
          · rename_i h5
            rw [if_pos h5] at hb
            exact opts_ok hM n _ _ (ho h5) hb
          · rename_i h5
            rw [if_neg h5] at hb
            cases hb
theorem letters_at (L : List ByteArray) : ∀ (l : List UInt8) (a : Nat) (x : Av), a < L.length → (lettersF L l a x).2.1 ≤ L.length
  | [], a, x, h => Nat.le_of_lt h
  | c :: r, a, x, h => by
    rw [lettersF]
    split
    · exact Nat.le_of_lt h
    · split
      · exact letters_at L r a _ h
      · split
        · split
          · exact h
          · exact h
        · exact Nat.le_of_lt h
theorem opts_at (L : List ByteArray) : ∀ (n a : Nat) (x : Av), a ≤ L.length → (optsF L n a x).2.1 ≤ L.length
  | 0, a, x, h => h
  | n + 1, a, x, h => by
    rw [optsF]
    split
    · exact h
    · dsimp only
      split
      · show a + 1 ≤ _; omega
      · split
        · exact h
        · have ho : (optionF L (List.drop 1 (L.getD a (bs [])).data.toList) a x).2.1 ≤ L.length := by
            unfold optionF
            split
            · unfold longF
              dsimp only
              split
              · exact h
              · split
                · exact h
                · exact h
            · exact letters_at L _ a x (by omega)
          have hf := option_fine L (List.drop 1 (L.getD a (bs [])).data.toList) a x (by omega)
          generalize optionF L (List.drop 1 (L.getD a (bs [])).data.toList) a x = y at *
          split
          · rename_i h5
            exact opts_at L n _ _ (by have := hf.2.2.2 h5; omega)
          · exact ho
/-- What is read: right, and no longer than what was told; or nothing, and a place in the list. -/
theorem read_ok (L : List ByteArray) (M : Nat) (hM : ∀ s ∈ L, s.size ≤ M) : ((readF L).2.1 = 0 ∧ (readF L).2.2 = 0 ∧ rightB (readF L).1 = true ∧ (∀ p ∈ (readF L).1.sc, p.2.size ≤ M) ∧ (∀ s ∈ (readF L).1.nm, s.size ≤ M) ∧ (readF L).1.sc.length ≤ L.length + 1 ∧ (readF L).1.nm.length ≤ L.length ∧ L.length ≤ 65536) ∨ (((readF L).2.1 = 3 ∨ (readF L).2.1 = 260) ∧ (readF L).1 = av0' ∧ (readF L).2.2 ≤ L.length) := by
  unfold readF
  split
  · exact .inr ⟨.inl rfl, rfl, Nat.zero_le _⟩
  · rename_i hbig
    dsimp only
    have k0 : Ok0 M av0' := ⟨rfl, fun _ => rfl, fun q => (nomatch q), fun p hp => (nomatch hp), rfl⟩
    have h1 := opts_ok hM L.length 0 av0' k0
    have h2 := opts_at L L.length 0 av0' (Nat.zero_le _)
    have h3 := (opts_fine L L.length 0 av0' (Nat.zero_le _) (Nat.zero_le _) rfl).1
    generalize optsF L L.length 0 av0' = y at *
    obtain ⟨b, a, x⟩ := y
    cases b
    · exact .inr ⟨.inr rfl, rfl, h2⟩
    · obtain ⟨r1, r2, r3, r4, r5⟩ := h1 rfl
      have hr : ∀ (sc : List Pc) (nm : List ByteArray), sc ≠ [] → rightB { x with sc := sc, nm := nm } = true := fun sc nm hne => by
        have hl : 0 < sc.length := by cases sc; exact absurd rfl hne; simp
        simp only [rightB, r1, Bool.true_and, Bool.and_eq_true, decide_eq_true_eq, Bool.or_eq_true, Bool.not_eq_true']
        refine ⟨hl, ?_, ?_⟩
        · rcases hi : x.i with _ | _
          · right; rw [r2 hi, toL]; rfl
          · left; rfl
        · rcases hi : x.i with _ | _
          · right; rfl
          · left; exact r3 hi
      have hd : ∀ k, ∀ s ∈ L.drop k, s.size ≤ M := fun k s hs => hM s (List.mem_of_mem_drop hs)
      dsimp only at *
      by_cases hs : x.sc = []
      · by_cases ha : a < L.length
        · rw [show operF L a x = (true, a + 1, { x with sc := [(false, L.getD a (bs []))], nm := L.drop (a + 1) }) by rw [operF, if_pos hs, if_pos ha]]
          exact .inl ⟨rfl, rfl, hr _ _ (by simp), fun p hp => by cases List.mem_singleton.1 hp; exact getD_size hM a, hd _, by simp, by simp, by omega⟩
        · rw [show operF L a x = (false, a, x) by rw [operF, if_pos hs, if_neg ha]]
          exact .inr ⟨.inr rfl, rfl, h2⟩
      · rw [show operF L a x = (true, a, { x with nm := L.drop a }) by rw [operF, if_neg hs]]
        exact .inl ⟨rfl, rfl, hr _ _ hs, r4, hd _, by show x.sc.length ≤ _; omega, by simp, by omega⟩
end Ar
end Go.Proofs.Ytklcfjakhabbgaa
