/- Plain: runes in a text's bytes; and what strings.IndexRune answers of a rune beyond ASCII in the two bytes that no suffix has. -/
import Derived.Test.YtklcfjakhabbgaaArA
import Derived.Test.YtklcfjakhabbgaaLibsA
import Derived.Laws.RangeAny
import Derived.Deep.QuietTactic
import Derived.LoopTactic
namespace Go.Proofs.Ytklcfjakhabbgaa
open Go.RowKit

namespace Ar
theorem get_bang (s : ByteArray) (j : Nat) (h : j < s.size) : s.get! j = s[j]'h := by
  simp [ByteArray.get!, getElem!_pos, h]
  rfl
/-- The bytes of a rune beyond ASCII are beyond ASCII. -/
theorem decode_cont (s : ByteArray) (pos : Nat) (h : pos < s.size) (ha : 128 ≤ (s[pos]'h).toNat) (j : Nat) (h1 : pos ≤ j) (h2 : j < pos + (Utf8.decode s pos).2) : j < s.size ∧ 128 ≤ (s.get! j).toNat := by
  have hn : ¬ (s[pos]'h).toNat < 128 := by omega
  have g0 : 128 ≤ (s.get! pos).toNat := by rw [get_bang s pos h]; exact ha
  have one : j < pos + 1 → j < s.size ∧ 128 ≤ (s.get! j).toNat := fun hj => by
    obtain rfl : j = pos := by omega
    exact ⟨h, g0⟩
  have ct : ∀ k, (decide (pos + k < s.size) && (s.get! (pos + k)).toNat / 64 == 2) = true → pos + k < s.size ∧ 128 ≤ (s.get! (pos + k)).toNat := fun k hk => by
    simp only [Bool.and_eq_true, decide_eq_true_eq, beq_iff_eq] at hk
    exact ⟨hk.1, by omega⟩
  simp only [Utf8.decode, get_at s pos h, hn, if_false] at h2
  split at h2
  · rename_i hc
    simp only [Bool.and_eq_true] at hc
    have c1 := ct 1 (by simp only [Bool.and_eq_true]; exact hc.2)
    split at h2
    · rcases (by omega : j = pos ∨ j = pos + 1) with rfl | rfl
      · exact ⟨h, g0⟩
      · exact c1
    · exact one h2
  · split at h2
    · rename_i hc
      simp only [Bool.and_eq_true] at hc
      have c1 := ct 1 (by simp only [Bool.and_eq_true]; exact hc.1.2)
      have c2 := ct 2 (by simp only [Bool.and_eq_true]; exact hc.2)
      split at h2
      · rcases (by omega : j = pos ∨ j = pos + 1 ∨ j = pos + 2) with rfl | rfl | rfl
        · exact ⟨h, g0⟩
        · exact c1
        · exact c2
      · exact one h2
    · split at h2
      · rename_i hc
        simp only [Bool.and_eq_true] at hc
        have c1 := ct 1 (by simp only [Bool.and_eq_true]; exact hc.1.1.2)
        have c2 := ct 2 (by simp only [Bool.and_eq_true]; exact hc.1.2)
        have c3 := ct 3 (by simp only [Bool.and_eq_true]; exact hc.2)
        split at h2
        · rcases (by omega : j = pos ∨ j = pos + 1 ∨ j = pos + 2 ∨ j = pos + 3) with rfl | rfl | rfl | rfl
          · exact ⟨h, g0⟩
          · exact c1
          · exact c2
          · exact c3
        · exact one h2
      · exact one h2
/-- A rune beyond ASCII, written. -/
theorem encode_high (r : Int) (h : 128 ≤ r) : (∃ a b : UInt8, Utf8.encode r = ⟨#[a, b]⟩ ∧ 128 ≤ b.toNat) ∨ 3 ≤ (Utf8.encode r).size := by
  have e : Utf8.encode r = (let c := if Utf8.valid r = true then r.toNat else Utf8.runeError; if c < 128 then ⟨#[UInt8.ofNat c]⟩ else if c < 2048 then ⟨#[UInt8.ofNat (192 + c / 64), UInt8.ofNat (128 + c % 64)]⟩ else if c < 65536 then ⟨#[UInt8.ofNat (224 + c / 4096), UInt8.ofNat (128 + c / 64 % 64), UInt8.ofNat (128 + c % 64)]⟩ else ⟨#[UInt8.ofNat (240 + c / 262144), UInt8.ofNat (128 + c / 4096 % 64), UInt8.ofNat (128 + c / 64 % 64), UInt8.ofNat (128 + c % 64)]⟩) := rfl
  rw [e]
  have hc : 128 ≤ (if Utf8.valid r = true then r.toNat else Utf8.runeError) := by
    split
    · omega
    · decide
  generalize (if Utf8.valid r = true then r.toNat else Utf8.runeError) = c at *
  simp only
  rw [if_neg (by omega)]
  split
  · left
    refine ⟨_, _, rfl, ?_⟩
    rw [UInt8.toNat_ofNat']
    have : (128 + c % 64) % 2 ^ 8 = 128 + c % 64 := Nat.mod_eq_of_lt (by omega)
    rw [this]; omega
  · right
    split <;> simp [ByteArray.size]
end Ar
end Go.Proofs.Ytklcfjakhabbgaa
