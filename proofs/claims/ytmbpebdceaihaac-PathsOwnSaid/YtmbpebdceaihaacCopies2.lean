/- What the reference's Copies answers, in all its depth: each path memory of its own. -/
import Derived.Test.YtmbpebdceaihaacCover2
namespace Go.Proofs.Ytmbpebdceaihaac
open Go.RowKit

set_option maxRecDepth 100000 in
set_option maxHeartbeats 1000000 in
theorem copies2_any (a : Option Addr) (cap : Nat) (l : List (List ByteArray)) (w : World) (h : Pts w a cap l) :
    Calls Try.prog 5 #[.slice a l.length cap] w fun e w' => ∃ v, e = .returned v ∧ PRow2 w' w.heap.size v l ∧ Below w.heap.size w w' := by
  obtain ⟨i0, hi, hz0, hz1, hz2⟩ := info_parts Try.infoPath
  have hl := h.len
  go_enter Try.func5, Try.ntmps5
  go_wp2
  go_loopw [3, 4] (fun v i wr => ∃ k : Nat, k ≤ l.length ∧ i = .int .i64 k ∧ PRow2 wr w.heap.size v (l.take k) ∧ Below w.heap.size w wr) (fun _ i _ => l.length - (intOf i).toNat)
  case atStart => exact ⟨0, Nat.zero_le _, rfl, PRow2.empty _ _, Below.refl _ _⟩
  case round =>
    obtain ⟨k, hk, rfl, hpr, hnx⟩ := hrel
    have hsz := hnx.size
    by_cases hlt : k < l.length
    · obtain ⟨b, off, x, c, rfl, hb, hc, hs⟩ := (h.below hnx).cells k hlt
      have HT : Hid (l.take (k + 1) = l.take k ++ [l[k]'hlt]) := List.take_succ_eq_append_getElem hlt
      have hkl : (l.take k).length + 1 ≤ 5864062014806 := by simp; omega
      have hxl := hs.len
      generalize l[k]'hlt = p at *
      generalize l.take k = t at *
      have i1 : (k : Int) < (l.length : Int) := by omega
      go_wp2_with fail
      refine (copy_any _ _ p _ hs).mono ?_
      rintro e w1 ⟨v1, rfl, hown, hb1⟩
      have hB1 := hnx.trans (hb1.mono hsz)
      have hs1 := hB1.size
      obtain ⟨xs, ox0, ex0⟩ := hpr
      have hge : ∀ g, v1.ownBlock = some g → wr.heap.size ≤ g := fun g hg => (hown.lt g hg).1
      have huv : apartV v1 _ := apart_new hge (fun g hg => (ox0.lt g hg).2)
      have hux : ∀ y ∈ xs, apartV y v1 := apart_all ox0.1 ex0 hge
      have hown' := own_base_p hown (show w.heap.size ≤ _ from hsz)
      have ox := own_below ox0 hb1
      have ex := ex0.below hb1
      obtain ⟨x1, c1, rfl⟩ := own_any_slice hown'
      clear hown hb1 ox0 ex0 hge
      go_wp2_with (at_builtin; refine wpList_append_far _ rfl _ _ 24 rfl w.heap.size 23 i0 (.slice none 0 0) 1 24 Try.underlying24 hi hz0 hz1 hz2 rfl (by decide) _ _ _ rfl (ox.alloc _) ⟨w1.heap.size, 0, none⟩ 1 1 [.slice x1 p.length c1] rfl rfl (cell_one_new _ _ _) ?c2 ?c3 ?c4 ?c5 ?_)
      case c2 => first | rfl | (intro u hu; simp at hu; subst hu; rfl)
      case c3 => unfold maxLen; omega
      case c4 => omega
      case c5 => simp; omega
      intro v3 w3 hown3 hgr3 _ hat3
      have hB3 : Below w.heap.size w w3 := (hB1.alloc hs1 _).grown hgr3 (by simp; omega) (fun g hg => (ox.lt g hg).1)
      have hpr3 := prow2_snoc ox ex hown' huv hux (by omega) hs.mem hown3 hgr3 hat3 (by simp)
      clear hgr3 hown3 hat3
      go_wp2
      go_roundw
      case rel => exact ⟨k + 1, by omega, by go_num, by rw [HT.out]; exact hpr3, hB3⟩
      case measure => simp [intOf]; omega
    · have e : l.take k = l := List.take_of_length_le (by omega)
      rw [e] at hpr
      have i1 : ¬ (k : Int) < (l.length : Int) := by omega
      go_wp2
      go_ret
      exact ⟨_, rfl, hpr, hnx⟩
end Go.Proofs.Ytmbpebdceaihaac
