/- What paths.Name answers: whether a text may be a file's name. A slice value that reads as a list of strings in a world, and what keeps it so: what the path functions' contracts lean on. What paths.size and paths.Right answer: how long a path's own text is; whether a path may be so. -/
import Derived.Test.YtcloljkaojnipaaGreatDoorChecked
import Derived.Test.YtcloljkaojnipaaGreatDoorPgP
import Derived.WalkKit
import Derived.WalkSpells
import Derived.WalkLawsBesides
import Derived.WalkSmall
import Derived.Deep.AppendLies
namespace Go.Proofs.YtcloljkaojnipaaGreatDoor
open Go.RowKit

theorem ret_bool {a b : Bool} (h : a = b) : Ending.returned (.bool a) = .returned (.bool b) := by rw [h]

set_option maxHeartbeats 400000 in
theorem name_any (s : ByteArray) (w : World) (hs : s.size ≤ maxLen) :
    Calls Tryz.prog 68 #[.string s] w fun e w' => e = .returned (.bool (Pl.nameB s)) ∧ w = w' := by
  unfold maxLen at hs
  by_cases h1 : s.toList = []
  · go_enter Tryz.func68, Tryz.ntmps68
    go_wp2
    go_ret
    exact ⟨ret_bool (Pl.name_empty h1).symm, rfl⟩
  by_cases h2 : (255 : Int) < (s.size : Int)
  · go_enter Tryz.func68, Tryz.ntmps68
    go_wp2
    go_ret
    exact ⟨ret_bool (Pl.name_long h2).symm, rfl⟩
  by_cases h3 : s.toList = [46]
  · go_enter Tryz.func68, Tryz.ntmps68
    go_wp2
    go_ret
    exact ⟨ret_bool (Pl.name_dot h3).symm, rfl⟩
  by_cases h4 : s.toList = [46, 46]
  · go_enter Tryz.func68, Tryz.ntmps68
    go_wp2
    go_ret
    exact ⟨ret_bool (Pl.name_dots h4).symm, rfl⟩
  have H := Pl.name_head h1 h2 h3 h4
  have HH : Hid (Pl.nameB s = s.data.toList.all Pl.okc) := H
  clear H
  have b1 : s.toList.isEmpty = false := by simpa using h1
  have b3 : (s.toList == [46]) = false := by simpa using h3
  have b4 : (s.toList == [46, 46]) = false := by simpa using h4
  clear h1 h3 h4
  go_enter Tryz.func68, Tryz.ntmps68
  go_wp2
  go_loop [21] (fun i => ∃ k : Nat, k ≤ s.size ∧ i = .int .i64 k ∧ (s.data.toList.take k).all Pl.okc = true) (fun i => s.size - (intOf i).toNat)
  case atStart => exact ⟨0, Nat.zero_le _, rfl, rfl⟩
  case round =>
    obtain ⟨k, hk, rfl, ha⟩ := hrel
    by_cases hlt : k < s.size
    · have HA : Hid ((s.data.toList.take k).all Pl.okc = true) := ha
      clear ha
      cases c1 : ((s[k].toNat : Int) == 47)
      · cases c0 : ((s[k].toNat : Int) == 0)
        · have HS := Pl.all_step hlt HA.out c1 c0
          have HT : Hid ((s.data.toList.take (k + 1)).all Pl.okc = true) := HS
          clear HS
          go_wp2
          go_round
          case rel => exact ⟨k + 1, by omega, by go_num, HT.out⟩
          case measure => simp [intOf]; omega
        · have HS := Pl.all_stop hlt (Or.inr c0)
          go_wp2
          go_ret
          exact ⟨ret_bool (by rw [HH.out, HS]), rfl⟩
      · have HS : Hid (s.data.toList.all Pl.okc = false) := Pl.all_stop hlt (Or.inl c1)
        go_wp2
        go_ret
        exact ⟨ret_bool (by rw [HH.out, HS.out]), rfl⟩
    · have HA : Hid ((s.data.toList.take k).all Pl.okc = true) := ha
      clear ha
      go_wp2
      go_ret
      exact ⟨ret_bool (by rw [HH.out, ← HA.out, Pl.take_all s k (by omega)]), rfl⟩
end Go.Proofs.YtcloljkaojnipaaGreatDoor
namespace Go.Proofs.YtcloljkaojnipaaGreatDoor
open Go.RowKit

/-- The slice at address a, of capacity cap, reads in w as the strings l. -/
structure Strs (w : World) (a : Option Addr) (cap : Nat) (l : List ByteArray) : Prop where
  len : l.length ≤ 8796093022208
  nil : a = none → cap = 0
  room : l.length ≤ cap
  most : cap ≤ maxLen
  size : ∀ i (h : i < l.length), (l[i]'h).size ≤ 140737488355328
  cells : ∀ i (h : i < l.length), ∃ b off, a = some ⟨b, off, none⟩ ∧ b < w.heap.size ∧ w.cell? ⟨b, off + i, none⟩ = some (.string (l[i]'h))

theorem Strs.none {w : World} {cap : Nat} {l : List ByteArray} (h : Strs w none cap l) : l = [] ∧ cap = 0 := by
  refine ⟨?_, h.nil rfl⟩
  cases l with
  | nil => rfl
  | cons x r => obtain ⟨b, off, e, _⟩ := h.cells 0 (by simp); cases e

theorem Strs.below {w w' : World} {a : Option Addr} {cap : Nat} {l : List ByteArray} (h : Strs w a cap l) (hb : Below w.heap.size w w') : Strs w' a cap l := by
  refine ⟨h.len, h.nil, h.room, h.most, h.size, fun i hi => ?_⟩
  obtain ⟨b, off, e, hlt, hc⟩ := h.cells i hi
  exact ⟨b, off, e, Nat.lt_of_lt_of_le hlt hb.size, (hb.cell (p := ⟨b, off + i, Option.none⟩) hlt).trans hc⟩

theorem Strs.empty (w : World) : Strs w Option.none 0 [] := ⟨by simp, fun _ => rfl, Nat.le_refl _, Nat.zero_le _, fun i h => absurd h (by simp), fun i h => absurd h (by simp)⟩

theorem Strs.take {w : World} {a : Option Addr} {cap : Nat} {l : List ByteArray} (h : Strs w a cap l) (k : Nat) : Strs w a cap (l.take k) := by
  refine ⟨Nat.le_trans (by simp; omega) h.len, h.nil, Nat.le_trans (by simp; omega) h.room, h.most, fun i hi => ?_, fun i hi => ?_⟩
  · have hi' : i < l.length := by simp at hi; omega
    simpa using h.size i hi'
  · have hi' : i < l.length := by simp at hi; omega
    obtain ⟨b, off, e, hlt, hc⟩ := h.cells i hi'
    exact ⟨b, off, e, hlt, by simpa using hc⟩

theorem Strs.mem {w : World} {a : Option Addr} {cap : Nat} {l : List ByteArray} (h : Strs w a cap l) : ∀ s ∈ l, s.size ≤ 140737488355328 := by
  intro s hs
  obtain ⟨i, hi, rfl⟩ := List.getElem_of_mem hs
  exact h.size i hi

theorem Strs.news {w : World} {ad : Addr} {cap : Nat} {l : List ByteArray} (h : Strs w (some ad) cap l) : ∀ j u, (l.map Value.string)[j]? = some u → w.cell? (ad.add j) = some u := by
  intro j u hu
  rw [List.getElem?_map] at hu
  cases hj : l[j]? with
  | none => simp [hj] at hu
  | some s =>
    rw [hj] at hu
    simp at hu
    subst hu
    obtain ⟨hlt, rfl⟩ := List.getElem?_eq_some_iff.1 hj
    obtain ⟨b, off, e, _, hc⟩ := h.cells j hlt
    cases e
    by_cases h0 : j = 0
    · subst h0; simpa [Addr.add] using hc
    · simpa [Addr.add, h0] using hc

theorem strings_oneCell (l : List ByteArray) : ∀ u ∈ l.map Value.string, u.oneCell' = true := by
  intro u hu
  obtain ⟨s, _, rfl⟩ := List.mem_map.1 hu
  rfl

/-- A row of the call's own reads as strings. -/
theorem own_strs {w : World} {base : Nat} {e : TypeId} {v : Value} {l : List ByteArray} (h : w.ownsRow base e 1 v l.length (l.map Value.string)) (hlen : l.length ≤ 8796093022208) (hsz : ∀ s ∈ l, s.size ≤ 140737488355328) :
    ∃ a cap, v = .slice a l.length cap ∧ Strs w a cap l := by
  have hs : ∀ i (h : i < l.length), (l[i]'h).size ≤ 140737488355328 := fun i hi => hsz _ (List.getElem_mem hi)
  rcases h.2 with ⟨hv, hn⟩ | ⟨g, cap, cur, hv, hb, hg, hcap, hmax, hsize, htake⟩
  · exact ⟨none, 0, by rw [hv, hn], hlen, fun _ => rfl, by omega, Nat.zero_le _, hs, fun i hi => absurd hi (by omega)⟩
  · refine ⟨some ⟨g, 0, none⟩, cap, hv, hlen, fun h => (by cases h), hcap, hmax, hs, fun i hi => ⟨g, 0, rfl, lt_of_block hg, ?_⟩⟩
    subst hv
    have := h.cellAt i (by omega)
    rw [Nat.zero_add, this, List.getElem?_map, List.getElem?_eq_getElem hi]; rfl

/-- What is owned stays owned in a world that keeps all blocks. -/
theorem own_below {w w' : World} {base : Nat} {e : TypeId} {size : Nat} {v : Value} {n : Nat} {xs : List Value} (h : w.ownsRow base e size v n xs) (hb : Below w.heap.size w w') : w'.ownsRow base e size v n xs := by
  refine ⟨h.1, ?_⟩
  rcases h.2 with h2 | ⟨g, cap, cur, hv, hbg, hg, r⟩
  · exact .inl h2
  · exact .inr ⟨g, cap, cur, hv, hbg, by rw [hb.block g (lt_of_block hg)]; exact hg, r⟩

/-- What another row's growth leaves of strings. -/
theorem Strs.grown {w w' : World} {a : Option Addr} {cap : Nat} {l : List ByteArray} {row : Option Nat} (h : Strs w a cap l) (hg : w.grownBy w' row) (hne : ∀ ad : Addr, a = some ad → some ad.block ≠ row) : Strs w' a cap l := by
  refine ⟨h.len, h.nil, h.room, h.most, h.size, fun i hi => ?_⟩
  obtain ⟨b, off, e, hlt, hc⟩ := h.cells i hi
  exact ⟨b, off, e, Nat.lt_of_lt_of_le hlt hg.size, hg.cell hc (fun q => hne _ e q)⟩

theorem Strs.alloc {w : World} {a : Option Addr} {cap : Nat} {l : List ByteArray} (h : Strs w a cap l) (o : Obj) : Strs (w.alloc o) a cap l := h.below ((Below.refl _ _).alloc (Nat.le_refl _) o)

end Go.Proofs.YtcloljkaojnipaaGreatDoor
namespace Go.Proofs.YtcloljkaojnipaaGreatDoor
open Go.RowKit

theorem ret_int {k : IntKind} {a b : Int} (h : a = b) : Ending.returned (.int k a) = .returned (.int k b) := by rw [h]

set_option maxHeartbeats 400000 in
theorem size_any (a : Option Addr) (cap : Nat) (l : List ByteArray) (w : World) (h : Strs w a cap l) (hs : Pl.sumP l ≤ 4611686018427387904) :
    Calls Tryz.prog 69 #[.slice a l.length cap] w fun e w' => e = .returned (.int .i64 (Pl.sizeP l)) ∧ w = w' := by
  have hl := h.len
  by_cases h0 : l.length = 0
  · have hb : ((l.length : Int) == 0) = true := by simpa using h0
    have HS : Hid (Pl.sizeP l = 1) := Pl.sizeP_zero h0
    clear h0
    go_enter Tryz.func69, Tryz.ntmps69
    go_wp2
    go_ret
    exact ⟨ret_int (by rw [HS.out]; rfl), rfl⟩
  have hb : ((l.length : Int) == 0) = false := by simpa using h0
  have HS : Hid (Pl.sizeP l = Pl.sumP l) := Pl.sizeP_pos h0
  clear h0
  go_enter Tryz.func69, Tryz.ntmps69
  go_wp2
  go_loop [3, 11] (fun n i => ∃ k : Nat, k ≤ l.length ∧ i = .int .i64 k ∧ n = .int .i64 (Pl.sumP (l.take k) : Nat)) (fun _ i => l.length - (intOf i).toNat)
  case atStart => exact ⟨0, Nat.zero_le _, rfl, by simp [Pl.sumP]⟩
  case round =>
    obtain ⟨k, hk, rfl, rfl⟩ := hrel
    by_cases hlt : k < l.length
    · obtain ⟨b, off, rfl, hb0, hc⟩ := h.cells k hlt
      have hz := h.size k hlt
      have ht := Pl.sumP_snoc l k hlt
      have hle := Pl.sumP_take_le l (k + 1)
      have HT : Hid (Pl.sumP (l.take (k + 1)) = Pl.sumP (l.take k) + 1 + (l[k]'hlt).size) := ht
      have hbd : Pl.sumP (l.take k) + 1 + (l[k]'hlt).size ≤ 4611686018427387904 := by omega
      clear ht hle
      generalize Pl.sumP (l.take k) = q at *
      go_wp2
      go_round
      case rel => exact ⟨k + 1, by omega, by go_num, by rw [HT.out]; go_num⟩
      case measure => simp [intOf]; omega
    · have ht : l.take k = l := List.take_of_length_le (by omega)
      rw [ht]
      go_wp2
      go_ret
      exact ⟨ret_int (by rw [HS.out]), rfl⟩

set_option maxHeartbeats 400000 in
theorem right_any (a : Option Addr) (cap : Nat) (l : List ByteArray) (w : World) (h : Strs w a cap l) :
    Calls Tryz.prog 35 #[.slice a l.length cap] w fun e w' => e = .returned (.bool (Pl.rightP l)) ∧ w = w' := by
  have hl := h.len
  go_enter Tryz.func35, Tryz.ntmps35
  go_wp2
  go_loop [7] (fun i => ∃ k : Nat, k ≤ l.length ∧ i = .int .i64 k ∧ (l.take k).all Pl.nameB = true) (fun i => l.length - (intOf i).toNat)
  case atStart => exact ⟨0, Nat.zero_le _, rfl, rfl⟩
  case round =>
    obtain ⟨k, hk, rfl, ha⟩ := hrel
    have HA : Hid ((l.take k).all Pl.nameB = true) := ha
    clear ha
    by_cases hlt : k < l.length
    · obtain ⟨b, off, rfl, hb0, hc⟩ := h.cells k hlt
      have hz := h.size k hlt
      cases hn : Pl.nameB (l[k]'hlt)
      · have HR : Hid (Pl.rightP l = false) := Pl.right_stop hlt hn
        go_wp2_with (go_at_call 68; refine (name_any _ _ (by unfold maxLen; omega)).mono ?_; rintro e w' ⟨rfl, rfl⟩)
        go_ret
        exact ⟨ret_bool HR.out.symm, rfl⟩
      · have HR : Hid ((l.take (k + 1)).all Pl.nameB = true) := Pl.all_names_step hlt HA.out hn
        go_wp2_with (go_at_call 68; refine (name_any _ _ (by unfold maxLen; omega)).mono ?_; rintro e w' ⟨rfl, rfl⟩)
        go_round
        case rel => exact ⟨k + 1, by omega, by go_num, HR.out⟩
        case measure => simp [intOf]; omega
    · have ht : l.take k = l := List.take_of_length_le (by omega)
      have HB : Hid (l.all Pl.nameB = true) := by have := HA.out; rw [ht] at this; exact this
      have hsum : Pl.sumP l ≤ 4611686018427387904 := by have := Pl.sumP_names l HB.out; omega
      clear ht HA
      go_wp2_with (go_at_call 69; refine (size_any _ _ l _ h hsum).mono ?_; rintro e w' ⟨rfl, rfl⟩)
      go_ret
      exact ⟨ret_bool (Pl.right_end HB.out), rfl⟩
end Go.Proofs.YtcloljkaojnipaaGreatDoor
