/- What the reference's Paths answers. -/
import Derived.Test.YtfbhofomcenabaaGreatDoorFAl
import Derived.Deep.QuietTactic
import Derived.BigQuiet
namespace Go.Proofs.YtfbhofomcenabaaGreatDoor
open Go.RowKit

namespace Ft
/-- Are two paths one? -/
def sameP : List ByteArray → List ByteArray → Bool
  | [], l => l.isEmpty
  | _ :: _, [] => false
  | x :: l, y :: m => (x.toList == y.toList) && sameP l m
theorem sameP_len : ∀ {l m : List ByteArray}, l.length ≠ m.length → sameP l m = false
  | [], [], h => absurd rfl h
  | [], _ :: _, _ => rfl
  | _ :: _, [], _ => rfl
  | x :: l, y :: m, h => by rw [sameP, sameP_len (by simpa using h), Bool.and_false]
theorem sameP_drop {l m : List ByteArray} {i : Nat} (h : i < l.length) (h' : i < m.length) : sameP (l.drop i) (m.drop i) = (((l[i]).toList == (m[i]).toList) && sameP (l.drop (i + 1)) (m.drop (i + 1))) := by
  rw [List.drop_eq_getElem_cons h, List.drop_eq_getElem_cons h', sameP]
theorem sameP_iff : ∀ {l m : List ByteArray}, sameP l m = true ↔ l = m
  | [], [] => by simp [sameP]
  | [], _ :: _ => by simp [sameP]
  | _ :: _, [] => by simp [sameP]
  | x :: l, y :: m => by
    rw [sameP, Bool.and_eq_true, sameP_iff, List.cons.injEq, beq_iff_eq]
    refine and_congr_left (fun _ => ⟨fun h => ?_, fun h => by rw [h]⟩)
    rw [Pl.toL, Pl.toL] at h
    cases x; cases y
    simpa using Array.ext' h
end Ft
set_option maxRecDepth 100000 in
set_option maxHeartbeats 1000000 in
theorem rpaths_any (a1 a2 : Option Addr) (c1 c2 : Nat) (l1 l2 : List ByteArray) (w : World) (h1 : Strs w a1 c1 l1) (h2 : Strs w a2 c2 l2) :
    Calls Tryz.prog 33 #[.slice a1 l1.length c1, .slice a2 l2.length c2] w fun e w' => e = .returned (.bool (Ft.sameP l1 l2)) ∧ ∃ n, w' = w.drewN n := by
  have n1 := h1.len
  have n2 := h2.len
  cases hq : ((l1.length : Int) != (l2.length : Int))
  rotate_left
  · have hR : Hid (Ft.sameP l1 l2 = false) := Ft.sameP_len (by intro e; rw [e] at hq; simp at hq)
    go_enter Tryz.func33, Tryz.ntmps33
    go_wp2_with fail
    go_ret
    exact ⟨by rw [hR.out]; rfl, 0, rfl⟩
  have hlen : l1.length = l2.length := by simp at hq; omega
  have HLEN : Hid (l1.length = l2.length) := hlen
  clear hlen
  go_enter Tryz.func33, Tryz.ntmps33
  go_wp2_with fail
  go_loopw [13] (fun i wr => ∃ k m : Nat, k ≤ l1.length ∧ i = .int .i64 k ∧ Hid (Ft.sameP l1 l2 = Ft.sameP (l1.drop k) (l2.drop k)) ∧ wr = w.drewN m) (fun i _ => l1.length - (intOf i).toNat)
  case atStart => exact ⟨0, 0, Nat.zero_le _, rfl, rfl, rfl⟩
  case round =>
    obtain ⟨k, m, hk, rfl, HC, rfl⟩ := hrel
    by_cases hlt : k < l1.length
    · have hlt2 : k < l2.length := by have := HLEN.out; omega
      obtain ⟨b1, o1, rfl, hb1, d1⟩ := h1.cells k hlt
      obtain ⟨b2, o2, rfl, hb2, d3⟩ := h2.cells k hlt2
      have HS : Hid _ := Ft.sameP_drop hlt hlt2
      have i1 : (k : Int) < (l1.length : Int) := by omega
      have i2 : (k : Int) < (l2.length : Int) := by omega
      cases hx : ((l1[k]).toList == (l2[k]).toList)
      · have HE : Hid (Ft.sameP l1 l2 = false) := by show _ = _; rw [HC.out, HS.out, hx]; rfl
        go_wp2_with fail
        go_quiet (fail)
        go_wp2_with fail
        go_ret
        exact ⟨ret_bool HE.out.symm, m + nq, by simp⟩
      have HE : Hid (Ft.sameP l1 l2 = Ft.sameP (l1.drop (k + 1)) (l2.drop (k + 1))) := by show _ = _; rw [HC.out, HS.out, hx]; rfl
      go_wp2_with fail
      go_quiet (fail)
      go_wp2_with fail
      go_roundw
      case rel => exact ⟨k + 1, m + nq, by omega, by go_num, HE, by first | rfl | simp⟩
      case measure => simp [intOf]; omega
    · obtain rfl : k = l1.length := by omega
      have HE : Hid (Ft.sameP l1 l2 = true) := by show _ = _; rw [HC.out, List.drop_length, HLEN.out, List.drop_length]; rfl
      go_wp2_with fail
      go_ret
      exact ⟨ret_bool HE.out.symm, m, rfl⟩
end Go.Proofs.YtfbhofomcenabaaGreatDoor
