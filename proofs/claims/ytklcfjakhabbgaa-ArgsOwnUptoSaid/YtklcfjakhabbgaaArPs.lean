/- What both Prints answer, read as texts. -/
import Derived.Test.YtklcfjakhabbgaaArRp
namespace Go.Proofs.Ytklcfjakhabbgaa
open Go.RowKit

theorem rprint_any (x : Ar.Av) (a b : Option Addr) (c d : Nat) (w : World) (h : AvR w x a c b d) :
    Calls Try.prog 16 #[.agg (avA x a c b d)] w fun e w' => ∃ v, e = .returned (.tuple #[v, .int .i64 (Ar.printE x)]) ∧ PrIs x w.heap.size v w' ∧ Below w.heap.size w w' := by
  cases hr : Ar.rightB x
  · exact rprint_no x a b c d w h hr
  · exact rprint_yes x a b c d w h hr
namespace Ar
/-- The arguments that Print answers. -/
def prR (x : Av) : List ByteArray := if printE x = 0 then printL x else []
theorem mem_scL {l : List Pc} {s : ByteArray} (h : s ∈ scL l) : s.size ≤ 2 ∨ ∃ p ∈ l, s = p.2 := by
  simp only [scL, List.mem_flatMap] at h
  obtain ⟨p, hp, hs⟩ := h
  split at hs
  all_goals
    simp only [List.mem_cons, List.not_mem_nil, or_false] at hs
    rcases hs with rfl | rfl
    · left; decide
    · right; exact ⟨p, hp, rfl⟩
theorem mem_optL {x : Av} {s : ByteArray} (h : s ∈ optL x) : s.size ≤ 2 ∨ (x.i = true ∧ s = ip x.sf) := by
  simp only [optL, List.mem_append] at h
  rcases h with ((h | h) | h) | h
  all_goals
    split at h
    · rename_i hb
      simp only [List.mem_singleton] at h
      subst h
      first | (left; decide) | (right; exact ⟨by simpa using hb, rfl⟩)
    · cases h
theorem mem_printL {x : Av} {s : ByteArray} (h : s ∈ printL x) : s.size ≤ 2 ∨ s = ip x.sf ∨ (∃ p ∈ x.sc, s = p.2) ∨ s ∈ x.nm := by
  simp only [printL, List.mem_append, List.mem_singleton] at h
  rcases h with ((h | h) | h) | h
  · rcases mem_optL h with h | ⟨_, h⟩
    · exact .inl h
    · exact .inr (.inl h)
  · rcases mem_scL h with h | h
    · exact .inl h
    · exact .inr (.inr (.inl h))
  · subst h; left; decide
  · exact .inr (.inr (.inr h))
theorem ip_size (s : ByteArray) : (ip s).size = 2 + s.size := by rw [ip, ByteArray.size_append]; rfl
theorem right_sf {x : Av} (h : rightB x = true) : x.sf.size ≤ 255 := by
  simp only [rightB, sfxB, Bool.and_eq_true, decide_eq_true_eq] at h
  exact h.2.1.1
theorem printE_right {x : Av} (h : printE x = 0) : rightB x = true := by
  unfold printE at h
  cases hr : rightB x
  · rw [hr] at h; simp at h
  · rfl
theorem printE_len {x : Av} (h : printE x = 0) : (printL x).length ≤ 65536 := by
  have hr := printE_right h
  unfold printE at h
  rw [if_neg (by rw [hr]; decide)] at h
  split at h
  · cases h
  · omega
theorem printE_of {x : Av} (hr : rightB x = true) (hl : (printL x).length ≤ 65536) : printE x = 0 := by
  unfold printE
  rw [if_neg (by rw [hr]; decide), if_neg (by omega)]
theorem prR_len (x : Av) : (prR x).length ≤ 65536 := by
  unfold prR; split
  · exact printE_len ‹_›
  · simp
end Ar
theorem PrIs.reads {x : Ar.Av} {n : Nat} {v : Value} {w w0 : World} {a b : Option Addr} {c d : Nat} (h : PrIs x n v w) (h0 : AvR w0 x a c b d) :
    ∃ a' c', v = .slice a' (Ar.prR x).length c' ∧ Strs w a' c' (Ar.prR x) := by
  by_cases he : Ar.printE x = 0
  · have hp : Ar.prR x = Ar.printL x := if_pos he
    have hsf := Ar.right_sf (Ar.printE_right he)
    have hln := Ar.printE_len he
    rw [hp]
    obtain ⟨a', c', h1, h2, _⟩ := own_strs (h.1 he) (by omega) (fun s hs => by
      rcases Ar.mem_printL hs with h | rfl | ⟨p, hp, rfl⟩ | hn
      · omega
      · rw [Ar.ip_size]; omega
      · exact h0.sc.size p hp
      · obtain ⟨i, hi, rfl⟩ := List.getElem_of_mem hn
        exact h0.nm.size i hi)
    exact ⟨a', c', h1, h2⟩
  · have hp : Ar.prR x = [] := if_neg he
    rw [hp, h.2 he]
    exact ⟨none, 0, rfl, Strs.empty _⟩
end Go.Proofs.Ytklcfjakhabbgaa
