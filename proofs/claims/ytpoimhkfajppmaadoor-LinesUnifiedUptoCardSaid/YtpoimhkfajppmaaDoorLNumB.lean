/- What lines.numbered answers. -/
import Derived.Test.YtpoimhkfajppmaaDoorLNumW
namespace Go.Proofs.YtpoimhkfajppmaaDoor
open Go.RowKit

/-- The same number just where the lines are the same. -/
def Told2 (l1 l2 : List (ByteArray × Bool)) (ns1 ns2 : List Nat) : Prop := ∀ i j, i < l1.length → j < l2.length → ∃ c d x y, ns1[i]? = some c ∧ ns2[j]? = some d ∧ l1[i]? = some x ∧ l2[j]? = some y ∧ (c = d ↔ x = y)
theorem told2_of {Ds l1 l2 : List (ByteArray × Bool)} {ns1 ns2 : List Nat} (hn : Ds.Nodup) (h1 : Placed Ds l1 ns1) (h2 : Placed Ds l2 ns2) (e1 : ns1.length = l1.length) (e2 : ns2.length = l2.length) : Told2 l1 l2 ns1 ns2 := fun i j hi hj => by
  obtain ⟨c, a1, x, a2, a3⟩ := h1 i (by omega)
  obtain ⟨d, b1, y, b2, b3⟩ := h2 j (by omega)
  refine ⟨c, d, x, y, a1, b1, a2, b2, fun e => ?_, fun e => ?_⟩
  · subst e; rw [a3] at b3; exact Option.some.inj b3
  · subst e
    obtain ⟨c1, c2⟩ := List.getElem?_eq_some_iff.1 a3
    obtain ⟨d1, d2⟩ := List.getElem?_eq_some_iff.1 b3
    have hp := List.pairwise_iff_getElem.1 hn
    rcases Nat.lt_trichotomy c d with q | q | q
    · exact absurd (c2.trans d2.symm) (hp c d c1 d1 q)
    · exact q
    · exact absurd (d2.trans c2.symm) (hp d c d1 c1 q)
theorem own_slice {w : World} {base : Nat} {e : TypeId} {size : Nat} {v : Value} {n : Nat} {xs : List Value} (h : w.ownsRow base e size v n xs) : ∃ a c, v = .slice a n c ∧ n ≤ c ∧ c ≤ maxLen := by
  rcases h.2 with ⟨hv, hn⟩ | ⟨g, cap, cur, hv, _, _, h1, h2, _⟩
  · exact ⟨none, 0, by rw [hv, hn], by omega, Nat.zero_le _⟩
  · exact ⟨_, cap, hv, h1, h2⟩
theorem own_base {w : World} {base base' : Nat} {e : TypeId} {size : Nat} {v : Value} {n : Nat} {xs : List Value} (h : w.ownsRow base e size v n xs) (hb : base' ≤ base) : w.ownsRow base' e size v n xs := by
  refine ⟨h.1, ?_⟩
  rcases h.2 with q | ⟨g, cap, cur, q1, q2, q⟩
  · exact .inl q
  · exact .inr ⟨g, cap, cur, q1, Nat.le_trans hb q2, q⟩

set_option maxRecDepth 100000 in
set_option maxHeartbeats 4000000 in
theorem numbered_any (a1 a2 : Option Addr) (c1 c2 : Nat) (l1 l2 : List (ByteArray × Bool)) (w : World) (h1 : Lns w a1 c1 l1) (h2 : Lns w a2 c2 l2) (hn : l1.length + l2.length ≤ 10000000) :
    Calls Tryd.prog 32 #[.slice a1 l1.length c1, .slice a2 l2.length c2] w fun e w' => ∃ v1 v2 ns1 ns2, e = .returned (.tuple #[v1, v2]) ∧ w'.ownsRow w.heap.size 3 1 v1 l1.length (icells ns1) ∧ w'.ownsRow w.heap.size 3 1 v2 l2.length (icells ns2) ∧
      ns1.length = l1.length ∧ ns2.length = l2.length ∧ Told2 l1 l2 ns1 ns2 ∧ Below w.heap.size w w' := by
  have hmf : ∀ (fn : Fn) (first cap : Array Value) (w : World), (Instr.makeFunc fn first cap).run Tryd.prog w = .ok (.func fn first cap) w := fun _ _ _ _ => rfl
  have hmm := @run_makeMap Tryd.prog
  obtain ⟨wa, hwa⟩ : ∃ wa, wa = (w.alloc (.map #[] 0)).alloc (.cells #[.map (some w.heap.size)] 73) := ⟨_, rfl⟩
  have hca : wa.cell? ⟨w.heap.size + 1, 0, none⟩ = some (.map (some w.heap.size)) := by rw [hwa]; exact cell_at_new _ _ _ _ _ _ (by simp) rfl
  have hma : wa.ownsMap (H := Unit) Tryd.prog 38 (plainElem Tryd.prog 3) w.heap.size 0 (.map []) := by rw [hwa]; exact (World.ownsMap_made w _ _ _).alloc _
  have hba : Below w.heap.size w wa := by rw [hwa]; exact ((Below.refl _ _).alloc (Nat.le_refl _) _).alloc (by simp) _
  have hsa : wa.heap.size = w.heap.size + 2 := by rw [hwa]; simp
  have HWA : Hid (wa = (w.alloc (.map #[] 0)).alloc (.cells #[.map (some w.heap.size)] 73)) := hwa
  clear hwa
  go_enter Tryd.func32, Tryd.ntmps32
  go_wp2_with fail
  rw [← HWA.out]
  refine (number_any (w.heap.size + 1) w.heap.size 0 (.map []) [] _ _ l1 wa (h1.below hba) hca hma num_start (by omega)).mono ?_
  rintro e w1 ⟨v1, ns1, D1, E1, rfl, ho1, hl1, hp1, hm1, hi1, hg1⟩
  have hs1 := hg1.size
  have hb1 : Below w.heap.size w w1 := hba.grown hg1 (by omega) (fun g hg => by cases hg; exact Nat.le_refl _)
  have hc1' : w1.cell? ⟨w.heap.size + 1, 0, none⟩ = some (.map (some w.heap.size)) := hg1.cell hca (by simp)
  go_wp2_with fail
  refine (number_any (w.heap.size + 1) w.heap.size _ D1 _ _ _ l2 w1 (h2.below hb1) hc1' hm1 hi1 (by omega)).mono ?_
  rintro e w2 ⟨v2, ns2, D2, E2, rfl, ho2, hl2, hp2, hm2, hi2, hg2⟩
  have hb2 : Below w.heap.size w w2 := hb1.grown hg2 (by omega) (fun g hg => by cases hg; exact Nat.le_refl _)
  have ho1' := ho1.kept hg2 (by
    cases hv : v1.ownBlock with
    | none => exact .inl rfl
    | some g => right; intro e; have := (ho1.lt g hv).1; cases e; omega)
  go_wp2_with fail
  go_ret2
  exact ⟨v1, v2, ns1, ns2, rfl, own_base ho1' (by omega), own_base ho2 (by omega), hl1, hl2, told2_of hi2.nodup (hp1.more _) hp2 hl1 hl2, hb2⟩
end Go.Proofs.YtpoimhkfajppmaaDoor
