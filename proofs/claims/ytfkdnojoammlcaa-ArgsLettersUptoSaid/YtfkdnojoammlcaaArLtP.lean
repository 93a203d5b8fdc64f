/- Plain: letters in one argument, each in its own, each by its long name. -/
import Derived.Test.YtfkdnojoammlcaaArFlg
namespace Go.Proofs.Ytfkdnojoammlcaa
namespace Ar
/-- What a byte's letter does. -/
def eff (b : UInt8) (x : Av) : Av := (dov (idxC (fb b)) (bs []) x).2
def effs (l : List UInt8) (x : Av) : Av := l.foldl (fun x b => eff b x) x
theorem fb_cases (b : UInt8) : (fb b = 110 ∧ b.toNat % 4 = 0) ∨ (fb b = 69 ∧ b.toNat % 4 = 1) ∨ (fb b = 114 ∧ b.toNat % 4 = 2) ∨ (fb b = 115 ∧ b.toNat % 4 = 3) := by
  have h : b.toNat % 4 < 4 := Nat.mod_lt _ (by decide)
  obtain ⟨m, hm⟩ : ∃ m, b.toNat % 4 = m := ⟨_, rfl⟩
  rw [hm] at h
  match m, h with
  | 0, _ => exact .inl ⟨fb_of hm, hm⟩
  | 1, _ => exact .inr (.inl ⟨fb_of hm, hm⟩)
  | 2, _ => exact .inr (.inr (.inl ⟨fb_of hm, hm⟩))
  | 3, _ => exact .inr (.inr (.inr ⟨fb_of hm, hm⟩))
theorem idx_fb (b : UInt8) : idxC (fb b) < 3 ∧ fb b ≠ 45 := by
  rcases fb_cases b with ⟨h, _⟩ | ⟨h, _⟩ | ⟨h, _⟩ | ⟨h, _⟩ <;> (rw [h]; decide)
theorem letters_fb (L : List ByteArray) : ∀ (l : List UInt8) (a : Nat) (x : Av), lettersF L (l.map fb) a x = (true, a, effs l x)
  | [], _, _ => rfl
  | b :: l, a, x => by
    rw [List.map_cons, lettersF_bare (idx_fb b).1]
    exact letters_fb L l a (eff b x)
theorem option_fb (L : List ByteArray) (l : List UInt8) (a : Nat) (x : Av) : optionF L (l.map fb) a x = (true, a, effs l x) := by
  unfold optionF
  rw [if_neg]
  · exact letters_fb L l a x
  · cases l with
    | nil => simp
    | cons b l => simp [(idx_fb b).2]
theorem goes_fl {L : List ByteArray} {a : Nat} {x : Av} {l : List UInt8} {r : List ByteArray} (hl : l ≠ []) (h : L.drop a = flB l :: r) : Goes L a x (a + 1) (effs l x) :=
  goes_opt (a' := a) h (l := l.map fb) rfl (by
    cases l with
    | nil => exact absurd rfl hl
    | cons b l => simp [(idx_fb b).2]) (by simpa using hl) (option_fb L l a x) (Nat.le_refl _)
theorem goes_two {L : List ByteArray} : ∀ (l : List UInt8) (a : Nat) (x : Av) (r : List ByteArray), L.drop a = l.map (fun b => flB [b]) ++ r → Goes L a x (a + l.length) (effs l x)
  | [], a, x, _, _ => Goes.refl _ _ _
  | b :: l, a, x, r, h => by
    have h' : L.drop a = flB [b] :: (l.map (fun b => flB [b]) ++ r) := h
    have g := (goes_fl (x := x) (by simp) h').trans (goes_two l (a + 1) (eff b x) r (drop_at h').2.2)
    rw [show a + (b :: l).length = a + 1 + l.length by rw [List.length_cons]; omega]
    exact g
def lQuiet : ByteArray := ⟨#[45, 45, 113, 117, 105, 101, 116]⟩
def lExt : ByteArray := ⟨#[45, 45, 114, 101, 103, 101, 120, 112, 45, 101, 120, 116, 101, 110, 100, 101, 100]⟩
def lSep : ByteArray := ⟨#[45, 45, 115, 101, 112, 97, 114, 97, 116, 101]⟩
/-- A byte's long name. -/
def lgm (m : Nat) : ByteArray := match m with
  | 0 => lQuiet | 1 => lExt | 2 => lExt | _ => lSep
def lgB (b : UInt8) : ByteArray := lgm (b.toNat % 4)
theorem long_q (a : Nat) (x : Av) : longF [113, 117, 105, 101, 116] a x = (true, a, { x with q := true }) := rfl
theorem long_e (a : Nat) (x : Av) : longF [114, 101, 103, 101, 120, 112, 45, 101, 120, 116, 101, 110, 100, 101, 100] a x = (true, a, { x with e := true }) := rfl
theorem long_s (a : Nat) (x : Av) : longF [115, 101, 112, 97, 114, 97, 116, 101] a x = (true, a, { x with s := true }) := rfl
theorem goes_lg {L : List ByteArray} {a : Nat} {x : Av} {b : UInt8} {r : List ByteArray} (h : L.drop a = lgB b :: r) : Goes L a x (a + 1) (eff b x) := by
  unfold lgB at h
  unfold eff
  rcases fb_cases b with ⟨h1, h2⟩ | ⟨h1, h2⟩ | ⟨h1, h2⟩ | ⟨h1, h2⟩
  all_goals rw [h1]; rw [h2] at h
  · exact goes_opt (a' := a) h (l := [45, 113, 117, 105, 101, 116]) rfl (by decide) (by decide) (long_q a x) (Nat.le_refl _)
  · exact goes_opt (a' := a) h (l := [45, 114, 101, 103, 101, 120, 112, 45, 101, 120, 116, 101, 110, 100, 101, 100]) rfl (by decide) (by decide) (long_e a x) (Nat.le_refl _)
  · exact goes_opt (a' := a) h (l := [45, 114, 101, 103, 101, 120, 112, 45, 101, 120, 116, 101, 110, 100, 101, 100]) rfl (by decide) (by decide) (long_e a x) (Nat.le_refl _)
  · exact goes_opt (a' := a) h (l := [45, 115, 101, 112, 97, 114, 97, 116, 101]) rfl (by decide) (by decide) (long_s a x) (Nat.le_refl _)
theorem goes_three {L : List ByteArray} : ∀ (l : List UInt8) (a : Nat) (x : Av) (r : List ByteArray), L.drop a = l.map lgB ++ r → Goes L a x (a + l.length) (effs l x)
  | [], a, x, _, _ => Goes.refl _ _ _
  | b :: l, a, x, r, h => by
    have h' : L.drop a = lgB b :: (l.map lgB ++ r) := h
    have g := (goes_lg (x := x) h').trans (goes_three l (a + 1) (eff b x) r (drop_at h').2.2)
    rw [show a + (b :: l).length = a + 1 + l.length by rw [List.length_cons]; omega]
    exact g
/-- The three lists: what Read answers of each. -/
theorem read_lt {l : List UInt8} {R : List ByteArray} (hl : l ≠ []) (hn : l.length + R.length ≤ 65536) : readF ([flB l] ++ R) = rdB R (effs l av0') 1 ∧ readF (l.map (fun b => flB [b]) ++ R) = rdB R (effs l av0') l.length ∧ readF (l.map lgB ++ R) = rdB R (effs l av0') l.length := by
  have hp : 0 < l.length := List.length_pos_iff.2 hl
  refine ⟨?_, ?_, ?_⟩
  · exact read_behind (A := [flB l]) (by simp only [List.length_cons, List.length_nil]; omega) (goes_fl hl (r := R) rfl)
  · have h := read_behind (A := l.map (fun b => flB [b])) (R := R) (x := effs l av0') (by rw [List.length_map]; omega) (by
      have := goes_two (L := l.map (fun b => flB [b]) ++ R) l 0 av0' R rfl
      rw [Nat.zero_add] at this
      rw [List.length_map]; exact this)
    rw [List.length_map] at h
    exact h
  · have h := read_behind (A := l.map lgB) (R := R) (x := effs l av0') (by rw [List.length_map]; omega) (by
      have := goes_three (L := l.map lgB ++ R) l 0 av0' R rfl
      rw [Nat.zero_add] at this
      rw [List.length_map]; exact this)
    rw [List.length_map] at h
    exact h
theorem rdB_err (R : List ByteArray) (x : Av) (m : Nat) : (rdB R x m).2.1 = 0 ∨ (rdB R x m).2.1 = 260 := by
  unfold rdB
  dsimp only
  split
  · split
    · exact .inl rfl
    · exact .inr rfl
  · exact .inr rfl
theorem rdB_le (R : List ByteArray) (x : Av) : (rdB R x 0).2.2 ≤ R.length := by
  unfold rdB
  dsimp only
  have h := opts_at R R.length 0 x (Nat.zero_le _)
  generalize optsF R R.length 0 x = y at *
  split
  · unfold operF
    split
    · split
      · exact Nat.zero_le _
      · show 0 + y.2.1 ≤ _; omega
    · exact Nat.zero_le _
  · show 0 + y.2.1 ≤ _; omega
theorem flB_size (l : List UInt8) : (flB l).size = l.length + 1 := by rw [flB, bs_size]; simp
theorem lgB_size (b : UInt8) : (lgB b).size ≤ 17 := by
  unfold lgB
  rcases fb_cases b with ⟨_, h2⟩ | ⟨_, h2⟩ | ⟨_, h2⟩ | ⟨_, h2⟩ <;> (rw [h2]; decide)
end Ar
end Go.Proofs.Ytfkdnojoammlcaa
