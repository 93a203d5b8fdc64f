/- What the reference's Do answers, in the words of Sc.step. -/
import Derived.Test.YtngmaijfahjfcaaSpX6
namespace Go.Proofs.Ytngmaijfahjfcaa
open Go.RowKit

theorem made_len (s : Sc.St) (k : Int) (t : ByteArray) (i : Nat) (x : ByteArray) (hp : s.p.length ≤ 1073741824) (hh : s.h.length ≤ 1073741824) (ht : t.size ≤ 140737488355328) (hx : x.size ≤ 281474976710656) (htx : Sc.txts s.q ≤ 1073741824) :
    (Sc.made s k t i x).p.length ≤ 1000000000000000 ∧ (Sc.made s k t i x).h.length ≤ 1000000000000000 ∧ Sc.txts (Sc.made s k t i x).q ≤ 1000000000000000 ∧ (Sc.made s k t i x).q.length ≤ s.q.length + 1 := by
  have zt : t.data.toList.length ≤ 140737488355328 := by simpa using ht
  have zr := Sc.rst_len s.p
  have zx : Sc.txts (s.q ++ [(i, x)]) = Sc.txts s.q + x.size := by rw [Sc.txts_append]; simp [Sc.txts]
  have z0 : Sc.txts [] = 0 := rfl
  unfold Sc.made
  repeat' split
  all_goals try simp only [List.length_append, List.length_cons, List.length_nil]
  all_goals omega
theorem rdo_any (s : Sc.St) (qv : Value) (quota : Nat) (k : Int) (t : ByteArray) (i : Nat) (x : ByteArray) (w : World) (hQ : Its w qv s.q) (hu : s.used ≤ quota) (hq : quota ≤ 1073741824) (ht : t.size ≤ 140737488355328) (hx : x.size ≤ 281474976710656) (hl : (s.q.length + 1) * 24 ≤ 140737488355328) :
    Calls Try.prog 13 #[rsV (Sc.bs s.p) (Sc.bs s.h) qv quota, stV k t i x] w fun e w' => ∃ v', e = .returned (.tuple #[rsV (Sc.bs (Sc.step quota s k t i x).2.p) (Sc.bs (Sc.step quota s k t i x).2.h) v' quota, .int .i64 (Sc.step quota s k t i x).1]) ∧ Its w' v' (Sc.step quota s k t i x).2.q ∧ Below w.heap.size w w' ∧ ∀ b, blk v' = some b → blk qv = some b ∨ w.heap.size ≤ b := by
  have hsz : s.p.length + s.h.length + Sc.txts s.q ≤ 1073741824 := by unfold Sc.St.used at hu; omega
  rw [step_made quota s k t i x hu]
  by_cases hk : k = 8 ∧ (i = 0 ∨ 4 ≤ i)
  · rw [if_pos hk]
    obtain ⟨rfl, hi⟩ := hk
    obtain ⟨a, c, rfl⟩ := hQ.slice
    refine (rdo_bad _ _ a _ c quota t i x w hi).mono ?_
    rintro e w' ⟨rfl, hb⟩
    exact ⟨_, rfl, hQ.tu (O := fun _ => False) (Tu.of_below hb) (fun _ _ e => e), hb, fun b e => .inl e⟩
  · rw [if_neg hk]
    refine (rdo_ok s _ qv quota k t i x w hk hQ (by omega) (by omega) hq ht hx hl (by omega) rfl (made_len s k t i x (by omega) (by omega) ht hx (by omega))).mono ?_
    rintro e w' ⟨h1, h2⟩
    by_cases hm : (Sc.made s k t i x).used ≤ quota
    · rw [if_pos hm]
      exact h1 hm
    · rw [if_neg hm]
      obtain ⟨rfl, hb⟩ := h2 hm
      exact ⟨_, rfl, hQ.tu (O := fun _ => False) (Tu.of_below hb) (fun _ _ e => e), hb, fun b e => .inl e⟩
end Go.Proofs.Ytngmaijfahjfcaa
