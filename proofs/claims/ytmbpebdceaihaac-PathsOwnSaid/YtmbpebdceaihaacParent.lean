/- What paths.Parent answers: a path without its last name, memory of its own. -/
import Derived.Test.YtmbpebdceaihaacNormal
import Derived.Deep.RegionWith
namespace Go.Proofs.Ytmbpebdceaihaac
open Go.RowKit

theorem Strs.drew {w : World} {a : Option Addr} {cap : Nat} {l : List ByteArray} (h : Strs w a cap l) : Strs w.drew a cap l := h.below (Below.refl _ _).drew

theorem Strs.init {w : World} {a : Option Addr} {cap : Nat} {l : List ByteArray} {x : ByteArray} (h : Strs w a cap (l ++ [x])) : Strs w a cap l := by
  have := h.take l.length
  rwa [List.take_left] at this

set_option maxHeartbeats 1000000 in
theorem parent_none (a : Option Addr) (cap : Nat) (w : World) :
    Calls Try.prog 8 #[.slice a 0 cap] w fun e w' => e = .returned (.tuple #[.slice none 0 0, .string ⟨#[]⟩, .bool false]) ∧ w = w' := by
  go_enter Try.func8, Try.ntmps8
  go_wp2_with fail
  go_ret3
  exact ⟨rfl, rfl⟩

set_option maxHeartbeats 1000000 in
theorem parent_some (a : Option Addr) (cap : Nat) (l : List ByteArray) (x : ByteArray) (w : World) (h : Strs w a cap (l ++ [x])) :
    Calls Try.prog 8 #[.slice a (l.length + 1) cap] w fun e w' => ∃ v, e = .returned (.tuple #[v, .string x, .bool true]) ∧ w'.ownsRow w.heap.size 9 1 v l.length (l.map Value.string) ∧ Below w.heap.size w w' := by
  have hl := h.len
  simp at hl
  have hcap : l.length + 1 ≤ cap := by simpa using h.room
  have hcm := h.most
  unfold maxLen at hcm
  obtain ⟨b, off, rfl, hb0, hc⟩ := h.cells l.length (by simp)
  have hc : w.cell? ⟨b, off + l.length, none⟩ = some (.string x) := by simpa using hc
  have hi := h.init
  have e0 : ((l.length : Int) + 1 == 0) = false := by simp; omega
  go_enter Try.func8, Try.ntmps8
  go_wp2_with fail
  go_region_with (go_at_call 15; refine (fresh_any _ _ l _ hi.drew).mono ?_; rintro e w1 ⟨v1, rfl, hown, hb⟩; have hc1 : w1.cell? ⟨b, off + l.length, none⟩ = some (.string x) := (hb.cell (p := ⟨b, off + l.length, none⟩) hb0).trans hc)
  all_goals go_wp2_with fail
  all_goals go_ret3
  all_goals exact ⟨_, rfl, hown, (Below.refl _ _).drew.trans hb⟩

theorem parent_own (a : Option Addr) (cap : Nat) (l : List ByteArray) (w : World) (h : Strs w a cap l) :
    Calls Try.prog 8 #[.slice a l.length cap] w fun e w' => ∃ v s b, ∃ l' : List ByteArray, e = .returned (.tuple #[v, .string s, .bool b]) ∧ l'.length ≤ l.length ∧ w'.ownsRow w.heap.size 9 1 v l'.length (l'.map Value.string) ∧ Below w.heap.size w w' := by
  by_cases h0 : l = []
  · subst h0
    refine (parent_none a cap w).mono ?_
    rintro e w' ⟨rfl, rfl⟩
    exact ⟨_, _, _, [], rfl, Nat.le_refl _, World.ownsRow_nil _ _ _ _, Below.refl _ _⟩
  · obtain ⟨o, x, rfl⟩ : ∃ o x, l = o ++ [x] := ⟨l.dropLast, l.getLast h0, (List.dropLast_concat_getLast h0).symm⟩
    have hp := parent_some a cap o x w h
    rw [show o.length + 1 = (o ++ [x]).length by simp] at hp
    refine hp.mono ?_
    rintro e w' ⟨v, rfl, h1, h2⟩
    exact ⟨v, x, true, o, rfl, by simp, h1, h2⟩
end Go.Proofs.Ytmbpebdceaihaac
