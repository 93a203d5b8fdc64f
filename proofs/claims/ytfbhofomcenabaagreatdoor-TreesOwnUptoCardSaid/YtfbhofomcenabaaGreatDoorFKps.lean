/- What the law's kept answers of two lists that read alike: true. -/
import Derived.Test.YtfbhofomcenabaaGreatDoorTF
import Derived.Test.YtfbhofomcenabaaGreatDoorTZ
import Derived.Deep.QuietTactic
import Derived.BigQuiet
namespace Go.Proofs.YtfbhofomcenabaaGreatDoor
open Go.RowKit

namespace Ft
/-- A slice reads as a list. -/
structure Kps (w : World) (a : Option Addr) (cap : Nat) (l : List Kp) : Prop where
  len : l.length ≤ 1048576
  cells : ∀ i (h : i < l.length), ∃ b off x c, a = some ⟨b, off, none⟩ ∧ b < w.heap.size ∧ w.cell? ⟨b, off + i * 3, none⟩ = some (.slice x (l[i]).1.length c) ∧ w.cell? ⟨b, off + i * 3 + 1, none⟩ = some (.int .u8 ((l[i]).2.1 : Int)) ∧ w.cell? ⟨b, off + i * 3 + 2, none⟩ = some (.int .i64 ((l[i]).2.2 : Int)) ∧ Strs w x c (l[i]).1
theorem KRow.kps {w : World} {base : Nat} {v : Value} {l : List Kp} (h : KRow w base v l) (hl : l.length ≤ 1048576) : ∃ a cap, v = .slice a l.length cap ∧ Kps w a cap l := by
  obtain ⟨L, h1, h2, h3⟩ := h
  have hn : L.length = l.length := by rw [← h1]; simp
  rcases h2.2 with ⟨hv, hz⟩ | ⟨g, cap, cur, hv, hb, hg, hcap, hmax, hsize, htake⟩
  · exact ⟨none, 0, by rw [hv, ← hn, hz], hl, fun i hi => absurd hi (by omega)⟩
  · refine ⟨some ⟨g, 0, none⟩, cap, by rw [hv, hn], hl, fun i hi => ?_⟩
    have hi' : i < L.length := by omega
    have e : l[i] = (L[i]).1 := by simp only [← h1, List.getElem_map]
    have key : ∀ j, j < 3 → w.cell? ⟨g, 0 + i * 3 + j, none⟩ = (kpL (L[i]))[j]? := fun j hj => by
      subst hv
      rw [Nat.zero_add, h2.cellAt (i * 3 + j) (by omega)]; exact kcells_at L i hi' j hj
    rw [e]
    exact ⟨g, 0, (L[i]).2.1, (L[i]).2.2, rfl, lt_of_block hg, key 0 (by omega), key 1 (by omega), key 2 (by omega), (h3 _ (List.getElem_mem hi')).1⟩
theorem Kps.below {w w' : World} {a : Option Addr} {cap : Nat} {l : List Kp} (h : Kps w a cap l) (hb : Below w.heap.size w w') : Kps w' a cap l := by
  refine ⟨h.len, fun i hi => ?_⟩
  obtain ⟨b, off, x, c, e, hlt, k0, k1, k2, k3⟩ := h.cells i hi
  have key : ∀ j, w'.cell? ⟨b, j, none⟩ = w.cell? ⟨b, j, none⟩ := fun j => World.cell?_of_block (w := w) (hb.block b hlt)
  exact ⟨b, off, x, c, e, Nat.lt_of_lt_of_le hlt hb.size, (key _).trans k0, (key _).trans k1, (key _).trans k2, k3.below hb⟩
theorem sameP_self (p : List ByteArray) : sameP p p = true := sameP_iff.2 rfl
end Ft

set_option maxRecDepth 100000 in
set_option maxHeartbeats 2000000 in
theorem kept_any (a1 a2 : Option Addr) (c1 c2 : Nat) (l : List Ft.Kp) (w : World) (h1 : Ft.Kps w a1 c1 l) (h2 : Ft.Kps w a2 c2 l) :
    Calls Tryz.prog 22 #[.slice a1 l.length c1, .slice a2 l.length c2] w fun e w' => e = .returned (.bool true) ∧ ∃ n, w' = w.drewN n := by
  have hl := h1.len
  have H1 : Hid _ := h1
  have H2 : Hid _ := h2
  clear h1 h2
  go_enter Tryz.func22, Tryz.ntmps22
  go_wp2_with fail
  go_loopw [5, 13] (fun _ iv wr => ∃ i m : Nat, i ≤ l.length ∧ iv = .int .i64 (i : Int) ∧ wr = w.drewN m) (fun _ iv _ => l.length - (intOf iv).toNat)
  case atStart => exact ⟨0, 0, Nat.zero_le _, rfl, rfl⟩
  case round =>
    obtain ⟨i, m, hi, rfl, rfl⟩ := hrel
    by_cases hlt : i < l.length
    · obtain ⟨b, off, x, c, rfl, hb, k0, k1, k2, k3⟩ := H1.out.cells i hlt
      obtain ⟨b', off', x', c', rfl, hb', j0, j1, j2, j3⟩ := H2.out.cells i hlt
      have i1 : (i : Int) < (l.length : Int) := by omega
      have n3 := k3.len
      generalize l[i] = y at *
      obtain ⟨p, k, z⟩ := y
      simp only at k0 k1 k2 k3 j0 j1 j2 j3 n3
      have HC : Hid (∀ V : World, V.heap = w.heap → Calls Tryz.prog 33 #[.slice x p.length c, .slice x' p.length c'] V fun e w' => e = .returned (.bool true) ∧ ∃ q, w' = V.drewN q) := fun V hV => by
        have key : ∀ {y d u}, Strs w y d u → Strs V y d u := fun {y d u} h => ⟨h.len, h.nil, h.room, h.most, h.size, fun i hi => by
          obtain ⟨b, off, e, hlt, hc⟩ := h.cells i hi
          exact ⟨b, off, e, by rw [hV]; exact hlt, by simp only [World.cell?, hV] at hc ⊢; exact hc⟩⟩
        refine (rpaths_any x x' c c' p p V (key k3) (key j3)).mono ?_
        rintro e w' ⟨he, n2, hn2⟩
        exact ⟨by rw [he, Ft.sameP_self], n2, hn2⟩
      have HD : Hid (∀ n, Calls Tryz.prog 33 #[.slice x p.length c, .slice x' p.length c'] (w.drewN (m + n)) fun e w' => e = .returned (.bool true) ∧ ∃ q, w' = w.drewN (m + q)) := fun n => by
        refine Calls.mono (HC.out (w.drewN (m + n)) rfl) ?_
        rintro e w' ⟨he, q, rfl⟩
        exact ⟨he, n + q, by simp [Nat.add_assoc]⟩
      have e1 : ((k : Int) != (k : Int)) = false := by simp
      have e2 : ((z : Int) != (z : Int)) = false := by simp
      clear k3 j3
      go_wp2_with fail
      go_quiet (first | (go_at_call 33; exact HD.out _))
      go_wp2_with fail
      go_roundw
      case rel => exact ⟨i + 1, m + nq, by omega, by go_num, by first | rfl | simp⟩
      case measure => simp [intOf]; omega
    · have i1 : ¬ (i : Int) < (l.length : Int) := by omega
      go_wp2_with fail
      go_ret
      exact ⟨rfl, m, rfl⟩
end Go.Proofs.YtfbhofomcenabaaGreatDoor
