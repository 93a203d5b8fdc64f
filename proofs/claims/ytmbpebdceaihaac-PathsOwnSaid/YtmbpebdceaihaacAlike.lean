/- What the reference's Alike of one list answers. -/
import Derived.Test.YtmbpebdceaihaacPts
import Derived.Deep.RegionWith
namespace Go.Proofs.Ytmbpebdceaihaac
open Go.RowKit

set_option maxRecDepth 100000 in
set_option maxHeartbeats 1000000 in
/-- Two lists of paths that read as one are alike. -/
theorem alike_self (a1 a2 : Option Addr) (c1 c2 : Nat) (l : List (List ByteArray)) (w : World) (h1 : Pts w a1 c1 l) (h2 : Pts w a2 c2 l) :
    Calls Try.prog 11 #[.slice a1 l.length c1, .slice a2 l.length c2] w fun e w' => e = .returned (.bool true) ∧ Below w.heap.size w w' := by
  have hl := h1.len
  have hq : ((l.length : Int) != (l.length : Int)) = false := by simp
  go_enter Try.func11, Try.ntmps11
  go_wp2_with fail
  go_loopw [5] (fun i wr => ∃ k : Nat, k ≤ l.length ∧ i = .int .i64 k ∧ Below w.heap.size w wr) (fun i _ => l.length - (intOf i).toNat)
  case atStart => exact ⟨0, Nat.zero_le _, rfl, Below.refl _ _⟩
  case round =>
    obtain ⟨k, hk, rfl, hnx⟩ := hrel
    have hsz := hnx.size
    by_cases hlt : k < l.length
    · obtain ⟨b1, o1, x1, d1, rfl, hb1, e1, s1⟩ := (h1.below hnx).cells k hlt
      obtain ⟨b2, o2, x2, d2, rfl, hb2, e2, s2⟩ := (h2.below hnx).cells k hlt
      have i1 : (k : Int) < (l.length : Int) := by omega
      have hxl := s1.len
      generalize l[k]'hlt = q at *
      have hsm := same_b _ _ _ _ q q wr.drew (s1.below (Below.refl _ _).drew) (s2.below (Below.refl _ _).drew)
      rw [(Pl.same_iff q q).2 rfl] at hsm
      have HW : Hid (Calls Try.prog 10 #[.slice x1 q.length d1, .slice x2 q.length d2] wr.drew fun e w' => e = .returned (.bool true) ∧ Below wr.drew.heap.size wr.drew w') := hsm
      clear hsm
      go_wp2_with fail
      go_region_with (go_at_call 10; refine HW.out.mono ?_; rintro e w2 ⟨rfl, hb⟩)
      all_goals have hB2 : Below w.heap.size w w2 := hnx.drew.trans (hb.mono hsz)
      all_goals go_wp2_with fail
      all_goals exact ⟨⟨k + 1, by omega, by go_num, hB2⟩, by simp [intOf]; omega⟩
    · have i1 : ¬ (k : Int) < (l.length : Int) := by omega
      go_wp2_with fail
      go_ret
      exact ⟨rfl, hnx⟩
end Go.Proofs.Ytmbpebdceaihaac
