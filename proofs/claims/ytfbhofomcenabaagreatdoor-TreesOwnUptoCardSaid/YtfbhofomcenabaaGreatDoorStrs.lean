/- A slice value that reads as a list of strings in a world, and what keeps it so: what the path functions' contracts lean on. -/
import Derived.WalkKit
import Derived.WalkSmall
import Derived.Deep.AppendLies
namespace Go.Proofs.YtfbhofomcenabaaGreatDoor
open Go.RowKit

/-- The slice at address a, of capacity cap, reads in w as the strings l. -/
structure Strs (w : World) (a : Option Addr) (cap : Nat) (l : List ByteArray) : Prop where
  len : l.length ≤ 8796093022208
  nil : a = none → cap = 0
  room : l.length ≤ cap
  most : cap ≤ maxLen
  size : ∀ i (h : i < l.length), (l[i]'h).size ≤ 140737488355328
  cells : ∀ i (h : i < l.length), ∃ b off, a = some ⟨b, off, none⟩ ∧ b < w.heap.size ∧ w.cell? ⟨b, off + i, none⟩ = some (.string (l[i]'h))

theorem Strs.none {w : World} {cap : Nat} {l : List ByteArray} (h : Strs w none cap l) : l = [] ∧ cap = 0 := by
  refine ⟨?_, h.nil rfl⟩
  cases l with
  | nil => rfl
  | cons x r => obtain ⟨b, off, e, _⟩ := h.cells 0 (by simp); cases e

theorem Strs.below {w w' : World} {a : Option Addr} {cap : Nat} {l : List ByteArray} (h : Strs w a cap l) (hb : Below w.heap.size w w') : Strs w' a cap l := by
  refine ⟨h.len, h.nil, h.room, h.most, h.size, fun i hi => ?_⟩
  obtain ⟨b, off, e, hlt, hc⟩ := h.cells i hi
  exact ⟨b, off, e, Nat.lt_of_lt_of_le hlt hb.size, (hb.cell (p := ⟨b, off + i, Option.none⟩) hlt).trans hc⟩

theorem Strs.empty (w : World) : Strs w Option.none 0 [] := ⟨by simp, fun _ => rfl, Nat.le_refl _, Nat.zero_le _, fun i h => absurd h (by simp), fun i h => absurd h (by simp)⟩

theorem Strs.take {w : World} {a : Option Addr} {cap : Nat} {l : List ByteArray} (h : Strs w a cap l) (k : Nat) : Strs w a cap (l.take k) := by
  refine ⟨Nat.le_trans (by simp; omega) h.len, h.nil, Nat.le_trans (by simp; omega) h.room, h.most, fun i hi => ?_, fun i hi => ?_⟩
  · have hi' : i < l.length := by simp at hi; omega
    simpa using h.size i hi'
  · have hi' : i < l.length := by simp at hi; omega
    obtain ⟨b, off, e, hlt, hc⟩ := h.cells i hi'
    exact ⟨b, off, e, hlt, by simpa using hc⟩

theorem Strs.mem {w : World} {a : Option Addr} {cap : Nat} {l : List ByteArray} (h : Strs w a cap l) : ∀ s ∈ l, s.size ≤ 140737488355328 := by
  intro s hs
  obtain ⟨i, hi, rfl⟩ := List.getElem_of_mem hs
  exact h.size i hi

theorem Strs.news {w : World} {ad : Addr} {cap : Nat} {l : List ByteArray} (h : Strs w (some ad) cap l) : ∀ j u, (l.map Value.string)[j]? = some u → w.cell? (ad.add j) = some u := by
  intro j u hu
  rw [List.getElem?_map] at hu
  cases hj : l[j]? with
  | none => simp [hj] at hu
  | some s =>
    rw [hj] at hu
    simp at hu
    subst hu
    obtain ⟨hlt, rfl⟩ := List.getElem?_eq_some_iff.1 hj
    obtain ⟨b, off, e, _, hc⟩ := h.cells j hlt
    cases e
    by_cases h0 : j = 0
    · subst h0; simpa [Addr.add] using hc
    · simpa [Addr.add, h0] using hc

theorem strings_oneCell (l : List ByteArray) : ∀ u ∈ l.map Value.string, u.oneCell' = true := by
  intro u hu
  obtain ⟨s, _, rfl⟩ := List.mem_map.1 hu
  rfl

/-- A row of the call's own reads as strings. -/
theorem own_strs {w : World} {base : Nat} {e : TypeId} {v : Value} {l : List ByteArray} (h : w.ownsRow base e 1 v l.length (l.map Value.string)) (hlen : l.length ≤ 8796093022208) (hsz : ∀ s ∈ l, s.size ≤ 140737488355328) :
    ∃ a cap, v = .slice a l.length cap ∧ Strs w a cap l := by
  have hs : ∀ i (h : i < l.length), (l[i]'h).size ≤ 140737488355328 := fun i hi => hsz _ (List.getElem_mem hi)
  rcases h.2 with ⟨hv, hn⟩ | ⟨g, cap, cur, hv, hb, hg, hcap, hmax, hsize, htake⟩
  · exact ⟨none, 0, by rw [hv, hn], hlen, fun _ => rfl, by omega, Nat.zero_le _, hs, fun i hi => absurd hi (by omega)⟩
  · refine ⟨some ⟨g, 0, none⟩, cap, hv, hlen, fun h => (by cases h), hcap, hmax, hs, fun i hi => ⟨g, 0, rfl, lt_of_block hg, ?_⟩⟩
    subst hv
    have := h.cellAt i (by omega)
    rw [Nat.zero_add, this, List.getElem?_map, List.getElem?_eq_getElem hi]; rfl

/-- What is owned stays owned in a world that keeps all blocks. -/
theorem own_below {w w' : World} {base : Nat} {e : TypeId} {size : Nat} {v : Value} {n : Nat} {xs : List Value} (h : w.ownsRow base e size v n xs) (hb : Below w.heap.size w w') : w'.ownsRow base e size v n xs := by
  refine ⟨h.1, ?_⟩
  rcases h.2 with h2 | ⟨g, cap, cur, hv, hbg, hg, r⟩
  · exact .inl h2
  · exact .inr ⟨g, cap, cur, hv, hbg, by rw [hb.block g (lt_of_block hg)]; exact hg, r⟩

/-- What another row's growth leaves of strings. -/
theorem Strs.grown {w w' : World} {a : Option Addr} {cap : Nat} {l : List ByteArray} {row : Option Nat} (h : Strs w a cap l) (hg : w.grownBy w' row) (hne : ∀ ad : Addr, a = some ad → some ad.block ≠ row) : Strs w' a cap l := by
  refine ⟨h.len, h.nil, h.room, h.most, h.size, fun i hi => ?_⟩
  obtain ⟨b, off, e, hlt, hc⟩ := h.cells i hi
  exact ⟨b, off, e, Nat.lt_of_lt_of_le hlt hg.size, hg.cell hc (fun q => hne _ e q)⟩

theorem Strs.alloc {w : World} {a : Option Addr} {cap : Nat} {l : List ByteArray} (h : Strs w a cap l) (o : Obj) : Strs (w.alloc o) a cap l := h.below ((Below.refl _ _).alloc (Nat.le_refl _) o)

end Go.Proofs.YtfbhofomcenabaaGreatDoor
