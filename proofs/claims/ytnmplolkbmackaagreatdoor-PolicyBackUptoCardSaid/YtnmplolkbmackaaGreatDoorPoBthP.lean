/- Plain: the meeting of two policies: the same from either side, within both, the widest such; a policy's meeting with itself. -/
import Derived.Test.YtnmplolkbmackaaGreatDoorPoMg
namespace Go.Proofs.YtnmplolkbmackaaGreatDoor
open Go.RowKit

namespace Pl
theorem inside_iff (l : List (List ByteArray)) (p : List ByteArray) : insideB l p = true ↔ ∃ q ∈ l, In p q := by
  unfold insideB
  rw [List.any_eq_true]
  exact ⟨fun ⟨q, hq, h⟩ => ⟨q, hq, (within_in p q).1 h⟩, fun ⟨q, hq, h⟩ => ⟨q, hq, (within_in p q).2 h⟩⟩
theorem inn_iff (l m : List (List ByteArray)) : innP l m = true ↔ ∀ p ∈ l, insideB m p = true := by
  unfold innP
  rw [List.all_eq_true]
theorem bool_ext {a b : Bool} (h : a = true ↔ b = true) : a = b := by cases a <;> cases b <;> simp_all
theorem met_mem (l m : List (List ByteArray)) (q : List ByteArray) : q ∈ metL l m ↔ q ∈ l ∧ insideB m q = true ∨ q ∈ m ∧ insideB l q = true := by
  unfold metL
  rw [List.mem_append, List.mem_filter, List.mem_filter]
theorem met_comm {l m c : List (List ByteArray)} (h : Cov (metL l m) c) : Cov (metL m l) c := h.perm fun x => by rw [met_mem, met_mem]; exact Or.comm
/-- What a cover covers is what its list does. -/
theorem cov_inside {l c : List (List ByteArray)} (h : Cov l c) (p : List ByteArray) : insideB c p = insideB l p := bool_ext (by
  rw [inside_iff, inside_iff]
  constructor
  · rintro ⟨q, hq, hi⟩
    exact ⟨q, ((h.mem q).1 hq).1, hi⟩
  · rintro ⟨q, hq, hi⟩
    obtain ⟨m, hm, h1, h2⟩ := least_ex l q.length q (Nat.le_refl _) hq
    exact ⟨m, (h.mem m).2 ⟨hm, h2⟩, hi.trans h1⟩)
theorem in_two {p q r : List ByteArray} (h1 : In p q) (h2 : In p r) : In q r ∨ In r q := by
  obtain ⟨x, rfl⟩ := h1
  obtain ⟨y, h2⟩ := h2
  rcases List.append_eq_append_iff.1 h2 with ⟨a, h3, h4⟩ | ⟨a, h3, h4⟩
  · exact .inr ⟨a, h3⟩
  · exact .inl ⟨a, h3⟩
theorem met_inside (l m : List (List ByteArray)) (p : List ByteArray) : insideB (metL l m) p = (insideB l p && insideB m p) := bool_ext (by
  rw [Bool.and_eq_true, inside_iff, inside_iff, inside_iff]
  constructor
  · rintro ⟨q, hq, hi⟩
    rcases (met_mem l m q).1 hq with ⟨h1, h2⟩ | ⟨h1, h2⟩
    · obtain ⟨r, h3, h4⟩ := (inside_iff m q).1 h2
      exact ⟨⟨q, h1, hi⟩, r, h3, hi.trans h4⟩
    · obtain ⟨r, h3, h4⟩ := (inside_iff l q).1 h2
      exact ⟨⟨r, h3, hi.trans h4⟩, q, h1, hi⟩
  · rintro ⟨⟨q, h1, h2⟩, r, h3, h4⟩
    rcases in_two h2 h4 with h | h
    · exact ⟨q, (met_mem l m q).2 (.inl ⟨h1, (inside_iff m q).2 ⟨r, h3, h⟩⟩), h2⟩
    · exact ⟨r, (met_mem l m r).2 (.inr ⟨h3, (inside_iff l r).2 ⟨q, h1, h⟩⟩), h4⟩)
theorem meet_inside {l m c : List (List ByteArray)} (h : Cov (metL l m) c) (p : List ByteArray) : insideB c p = (insideB l p && insideB m p) := (cov_inside h p).trans (met_inside l m p)
theorem meet_inn {l m c k : List (List ByteArray)} (h : Cov (metL l m) c) : innP k c = (innP k l && innP k m) := bool_ext (by
  rw [Bool.and_eq_true, inn_iff, inn_iff, inn_iff]
  constructor
  · intro hk
    refine ⟨fun p hp => ?_, fun p hp => ?_⟩
    · have := hk p hp; rw [meet_inside h, Bool.and_eq_true] at this; exact this.1
    · have := hk p hp; rw [meet_inside h, Bool.and_eq_true] at this; exact this.2
  · rintro ⟨h1, h2⟩ p hp
    rw [meet_inside h, h1 p hp, h2 p hp]; rfl)
theorem inn_refl (l : List (List ByteArray)) : innP l l = true := (inn_iff l l).2 fun p hp => (inside_iff l p).2 ⟨p, hp, In.refl p⟩
theorem meet_in {l m c : List (List ByteArray)} (h : Cov (metL l m) c) : innP c l = true ∧ innP c m = true := by
  have := meet_inn (k := c) h
  rw [inn_refl] at this
  rwa [eq_comm, Bool.and_eq_true] at this
theorem met_self {l c : List (List ByteArray)} (h : Cov l c) : Cov (metL l l) c := h.perm fun x => by
  rw [met_mem]
  have hi : x ∈ l → insideB l x = true := fun hx => (inside_iff l x).2 ⟨x, hx, In.refl x⟩
  exact ⟨fun hx => .inl ⟨hx, hi hx⟩, fun hx => hx.elim (·.1) (·.1)⟩
theorem all_right {l m c : List (List ByteArray)} (h : Cov (metL l m) c) (h1 : l.all rightP = true) (h2 : m.all rightP = true) : c.all rightP = true := by
  rw [List.all_eq_true] at *
  intro p hp
  rcases (met_mem l m p).1 ((h.mem p).1 hp).1 with h3 | h3
  · exact h1 p h3.1
  · exact h2 p h3.1
theorem okN_min {x y M : Int} (h1 : okN x M) (h2 : okN y M) : okN (min x y) M := by unfold okN at *; omega
theorem polC_ok {R W : List (List ByteArray)} {f m o e : Int} : polC R W f m o e = 0 ↔ rightsP R = true ∧ rightsP W = true ∧ okN f 1073741824 ∧ okN m 1073741824 ∧ okN o 4294967296 ∧ okN e 4294967296 := by
  unfold polC
  split
  · rename_i h; exact ⟨fun _ => h, fun _ => rfl⟩
  · rename_i h; exact ⟨fun k => (by cases k), fun k => absurd k h⟩
/-- The meeting of two right policies, if it is not too long, is right. -/
theorem meet_right {R1 W1 : List (List ByteArray)} {f1 m1 o1 e1 : Int} {R2 W2 : List (List ByteArray)} {f2 m2 o2 e2 : Int} {dR dW : List (List ByteArray)} (h1 : polC R1 W1 f1 m1 o1 e1 = 0) (h2 : polC R2 W2 f2 m2 o2 e2 = 0) (hR : Cov (metL R1 R2) dR) (hW : Cov (metL W1 W2) dW) (lR : dR.length ≤ 1024) (lW : dW.length ≤ 1024) :
    polC dR dW (min f1 f2) (min m1 m2) (min o1 o2) (min e1 e2) = 0 := by
  rw [polC_ok] at *
  obtain ⟨a1, a2, a3, a4, a5, a6⟩ := h1
  obtain ⟨b1, b2, b3, b4, b5, b6⟩ := h2
  unfold rightsP at *
  simp only [Bool.and_eq_true, decide_eq_true_eq] at *
  exact ⟨⟨lR, all_right hR a1.2 b1.2⟩, ⟨lW, all_right hW a2.2 b2.2⟩, okN_min a3 b3, okN_min a4 b4, okN_min a5 b5, okN_min a6 b6⟩
/-- It lies within both. -/
theorem meet_wth {R1 W1 : List (List ByteArray)} {f1 m1 o1 e1 : Int} {R2 W2 : List (List ByteArray)} {f2 m2 o2 e2 : Int} {dR dW : List (List ByteArray)} (hR : Cov (metL R1 R2) dR) (hW : Cov (metL W1 W2) dW) :
    wthB dR dW (min f1 f2) (min m1 m2) (min o1 o2) (min e1 e2) R1 W1 f1 m1 o1 e1 = true ∧ wthB dR dW (min f1 f2) (min m1 m2) (min o1 o2) (min e1 e2) R2 W2 f2 m2 o2 e2 = true := by
  unfold wthB
  rw [(meet_in hR).1, (meet_in hR).2, (meet_in hW).1, (meet_in hW).2]
  have h : ∀ x y : Int, min x y ≤ x ∧ min x y ≤ y := fun x y => by omega
  simp only [Bool.and_eq_true, decide_eq_true_eq]
  exact ⟨⟨trivial, trivial, (h _ _).1, (h _ _).1, (h _ _).1, (h _ _).1⟩, trivial, trivial, (h _ _).2, (h _ _).2, (h _ _).2, (h _ _).2⟩
/-- What lies within both lies within it. -/
theorem meet_wide {R1 W1 : List (List ByteArray)} {f1 m1 o1 e1 : Int} {R2 W2 : List (List ByteArray)} {f2 m2 o2 e2 : Int} {R3 W3 : List (List ByteArray)} {f3 m3 o3 e3 : Int} {dR dW : List (List ByteArray)} (hR : Cov (metL R1 R2) dR) (hW : Cov (metL W1 W2) dW) :
    (wthB R3 W3 f3 m3 o3 e3 R1 W1 f1 m1 o1 e1 && wthB R3 W3 f3 m3 o3 e3 R2 W2 f2 m2 o2 e2) = wthB R3 W3 f3 m3 o3 e3 dR dW (min f1 f2) (min m1 m2) (min o1 o2) (min e1 e2) := bool_ext (by
  unfold wthB
  rw [meet_inn hR, meet_inn hW]
  simp only [Bool.and_eq_true, decide_eq_true_eq]
  constructor
  · rintro ⟨⟨a1, a2, a3, a4, a5, a6⟩, b1, b2, b3, b4, b5, b6⟩
    exact ⟨⟨a1, b1⟩, ⟨a2, b2⟩, by omega, by omega, by omega, by omega⟩
  · rintro ⟨⟨a1, b1⟩, ⟨a2, b2⟩, h3, h4, h5, h6⟩
    exact ⟨⟨a1, a2, by omega, by omega, by omega, by omega⟩, b1, b2, by omega, by omega, by omega, by omega⟩)
/-- It allows what both do. -/
theorem meet_may {R1 W1 : List (List ByteArray)} {f1 m1 o1 e1 : Int} {R2 W2 : List (List ByteArray)} {f2 m2 o2 e2 : Int} {dR dW : List (List ByteArray)} (b : Bool) (p : List ByteArray) (h1 : polC R1 W1 f1 m1 o1 e1 = 0) (h2 : polC R2 W2 f2 m2 o2 e2 = 0) (hR : Cov (metL R1 R2) dR) (hW : Cov (metL W1 W2) dW) (lR : dR.length ≤ 1024) (lW : dW.length ≤ 1024) :
    mayP dR dW (min f1 f2) (min m1 m2) (min o1 o2) (min e1 e2) b p = (mayP R1 W1 f1 m1 o1 e1 b p && mayP R2 W2 f2 m2 o2 e2 b p) := by
  unfold mayP
  rw [meet_right h1 h2 hR hW lR lW, h1, h2]
  cases b
  · simp only [Bool.false_eq_true, if_false, meet_inside hR]
    cases rightP p <;> cases insideB R1 p <;> cases insideB R2 p <;> rfl
  · simp only [if_true, meet_inside hW]
    cases rightP p <;> cases insideB W1 p <;> cases insideB W2 p <;> rfl
theorem chk2_comm (R1 W1 : List (List ByteArray)) (f1 m1 o1 e1 : Int) (R2 W2 : List (List ByteArray)) (f2 m2 o2 e2 : Int) : chk2 R1 W1 f1 m1 o1 e1 R2 W2 f2 m2 o2 e2 = chk2 R2 W2 f2 m2 o2 e2 R1 W1 f1 m1 o1 e1 := by
  unfold chk2
  rcases polC_two R1 W1 f1 m1 o1 e1 with h | h <;> rcases polC_two R2 W2 f2 m2 o2 e2 with k | k <;> rw [h, k] <;> rfl
/-- The meeting from the other side. -/
theorem MeetIs.comm {R1 W1 : List (List ByteArray)} {f1 m1 o1 e1 : Int} {R2 W2 : List (List ByteArray)} {f2 m2 o2 e2 : Int} {cR cW : List (List ByteArray)} {F M O E : Int} {c : Nat} (h : MeetIs R1 W1 f1 m1 o1 e1 R2 W2 f2 m2 o2 e2 cR cW F M O E c) : MeetIs R2 W2 f2 m2 o2 e2 R1 W1 f1 m1 o1 e1 cR cW F M O E c := by
  unfold MeetIs
  rw [← chk2_comm]
  rcases h with h | ⟨h0, dR, dW, h1, h2, h3⟩
  · exact .inl h
  · refine .inr ⟨h0, dR, dW, met_comm h1, met_comm h2, ?_⟩
    rcases h3 with h3 | ⟨k0, k1, k2, k3, k4, k5, k6, k7⟩
    · exact .inl h3
    · exact .inr ⟨k0, k1, k2, by omega, by omega, by omega, by omega, k7⟩
theorem chk2_r {R1 W1 : List (List ByteArray)} {f1 m1 o1 e1 : Int} {R2 W2 : List (List ByteArray)} {f2 m2 o2 e2 : Int} (h : polC R2 W2 f2 m2 o2 e2 = 0) : chk2 R1 W1 f1 m1 o1 e1 R2 W2 f2 m2 o2 e2 = polC R1 W1 f1 m1 o1 e1 := by
  unfold chk2
  rcases polC_two R1 W1 f1 m1 o1 e1 with k | k
  · rw [k, h]; rfl
  · rw [k]; rfl
theorem wth_r {R1 W1 : List (List ByteArray)} {f1 m1 o1 e1 : Int} {R2 W2 : List (List ByteArray)} {f2 m2 o2 e2 : Int} (h1 : polC R1 W1 f1 m1 o1 e1 = 0) (h2 : polC R2 W2 f2 m2 o2 e2 = 0) : wthP R1 W1 f1 m1 o1 e1 R2 W2 f2 m2 o2 e2 = wthB R1 W1 f1 m1 o1 e1 R2 W2 f2 m2 o2 e2 := by
  unfold wthP
  rw [chk2_r h2, h1]
  rfl
end Pl
end Go.Proofs.YtnmplolkbmackaaGreatDoor
