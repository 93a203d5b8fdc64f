/- What paddocktop.begins and samePath answer. -/
import Derived.Test.YtmbpebdceaihaacDoorNormal
import Derived.Test.YtmbpebdceaihaacDoorPrint
import Derived.Test.YtmbpebdceaihaacDoorWithin
import Derived.Test.YtmbpebdceaihaacDoorLUnq
import Derived.Test.YtmbpebdceaihaacDoorLQuote
import Derived.Test.YtmbpebdceaihaacDoorPlainTop
namespace Go.Proofs.YtmbpebdceaihaacDoor
open Go.RowKit

theorem topb_normal : Pl.normalP [] ⟨#[47, 97, 47, 46, 47, 98, 47, 47, 99, 47, 46, 46, 47, 100]⟩ = ([⟨#[97]⟩, ⟨#[98]⟩, ⟨#[100]⟩], false, 0) := by decide +kernel
theorem topb_quote : Ln.quoP ⟨#[97, 10]⟩ = ⟨#[34, 97, 92, 110, 34]⟩ := by decide +kernel

set_option maxRecDepth 100000 in
set_option maxHeartbeats 1000000 in
theorem topbegins_any (w : World) (T : Tabs w) : Calls Tryd.prog 4 #[] w fun e w' => e = .returned (.bool true) ∧ Below w.heap.size w w' := by
  go_enter Tryd.func4, Tryd.ntmps4
  go_wp2_with fail
  refine (normal_any none 0 [] ⟨#[47, 97, 47, 46, 47, 98, 47, 47, 99, 47, 46, 46, 47, 100]⟩ _ (Strs.empty w) (by decide)).mono ?_
  rw [topb_normal]
  rintro e w1 ⟨v1, rfl, hown1, hb1⟩
  obtain ⟨a1, c1, rfl, hs1⟩ := own_strs hown1 (by decide) (by decide)
  obtain ⟨b, off, rfl, _, d2⟩ := hs1.cells 2 (by decide)
  have hr := hs1.room
  have hm := hs1.most
  unfold maxLen at hm
  simp only [List.length_cons, List.length_nil] at hr
  have d2' : w1.cell? ⟨b, off + 2, none⟩ = some (.string ⟨#[100]⟩) := d2
  have T1 := T.below T.size hb1
  clear hown1 d2 hs1
  go_wp2_with fail
  refine (quote_any ⟨#[97, 10]⟩ _ T1 (by decide)).mono ?_
  rw [topb_quote]
  rintro e w2 ⟨rfl, hb2⟩
  have hB := hb1.trans (hb2.mono hb1.size)
  clear hb1 hb2
  go_wp2_with fail
  go_ret
  exact ⟨rfl, hB⟩

set_option maxRecDepth 100000 in
set_option maxHeartbeats 1000000 in
/-- Two paths that read as one list are the same. -/
theorem topsame_self (a1 a2 : Option Addr) (c1 c2 : Nat) (l : List ByteArray) (w : World) (h1 : Strs w a1 c1 l) (h2 : Strs w a2 c2 l) :
    Calls Tryd.prog 10 #[.slice a1 l.length c1, .slice a2 l.length c2] w fun e w' => e = .returned (.bool true) ∧ Below w.heap.size w w' := by
  have hl := h1.len
  have hq : ((l.length : Int) != (l.length : Int)) = false := by simp
  go_enter Tryd.func10, Tryd.ntmps10
  go_wp2_with fail
  go_loopw [13] (fun i wr => ∃ k m : Nat, k ≤ l.length ∧ i = .int .i64 k ∧ wr = w.drewN m) (fun i _ => l.length - (intOf i).toNat)
  case atStart => exact ⟨0, 0, Nat.zero_le _, rfl, rfl⟩
  case round =>
    obtain ⟨k, m, hk, rfl, rfl⟩ := hrel
    by_cases hlt : k < l.length
    · obtain ⟨b1, o1, rfl, hb1, d1⟩ := h1.cells k hlt
      obtain ⟨b2, o2, rfl, hb2, d2⟩ := h2.cells k hlt
      generalize l[k]'hlt = x at *
      have i1 : (k : Int) < (l.length : Int) := by omega
      have hne : (x.toList != x.toList) = false := by simp
      go_wp2_with fail
      go_quiet (fail)
      go_wp2_with fail
      go_roundw
      case rel => exact ⟨k + 1, m + nq, by omega, by go_num, by first | rfl | simp⟩
      case measure => simp [intOf]; omega
    · have i1 : ¬ (k : Int) < (l.length : Int) := by omega
      go_wp2_with fail
      go_ret
      exact ⟨rfl, below_drewN (Below.refl _ _) m⟩
end Go.Proofs.YtmbpebdceaihaacDoor
