/- What the reference's done and Do answer. -/
import Derived.Test.YtngmaijfahjfcaaSpX3
namespace Go.Proofs.Ytngmaijfahjfcaa
open Go.RowKit

/-- What a step would make of a space, the quota aside. -/
def Sc.made (s : Sc.St) (k : Int) (t : ByteArray) (i : Nat) (x : ByteArray) : Sc.St :=
  if k = 0 then ⟨t.data.toList, s.h, s.q⟩ else
  if k = 1 then ⟨s.p ++ 10 :: t.data.toList, s.h, s.q⟩ else
  if k = 2 then ⟨s.h, s.h, s.q⟩ else
  if k = 3 then ⟨s.p ++ 10 :: s.h, s.h, s.q⟩ else
  if k = 4 then ⟨s.p, s.p, s.q⟩ else
  if k = 5 then ⟨s.p, s.h ++ 10 :: s.p, s.q⟩ else
  if k = 6 then ⟨s.h, s.p, s.q⟩ else
  if k = 7 then ⟨Sc.rst s.p, s.h, s.q⟩ else
  if k = 8 then ⟨s.p, s.h, s.q ++ [(i, x)]⟩ else
  if k = 9 then ⟨s.p, s.h, []⟩ else s
theorem bsj (P H : List UInt8) : Sc.bs P ++ ⟨#[10]⟩ ++ Sc.bs H = Sc.bs (P ++ 10 :: H) := by
  have : (⟨#[10]⟩ : ByteArray) = Sc.bs [10] := rfl
  rw [this, Sc.bs_append, Sc.bs_append]
  simp
/-- done, whatever the step. -/
theorem done_any (s : Sc.St) (qv : Value) (quota : Nat) (k : Int) (t : ByteArray) (i : Nat) (x : ByteArray) (w : World) (hQ : Its w qv s.q) (hp : s.p.length ≤ 1000000000000) (hh : s.h.length ≤ 1000000000000) (ht : t.size ≤ 1000000000000000) (hl : (s.q.length + 1) * 24 ≤ 140737488355328) :
    Calls Try.prog 33 #[rsV (Sc.bs s.p) (Sc.bs s.h) qv quota, stV k t i x] w fun e w' => ∃ v', e = .returned (rsV (Sc.bs (Sc.made s k t i x).p) (Sc.bs (Sc.made s k t i x).h) v' quota) ∧ Its w' v' (Sc.made s k t i x).q ∧ Below w.heap.size w w' ∧ ∀ b, blk v' = some b → blk qv = some b ∨ w.heap.size ≤ b := by
  obtain ⟨a, c, rfl⟩ := hQ.slice
  have zp : (Sc.bs s.p).size ≤ 1000000000000 := by rw [Sc.bs_size]; exact hp
  have zh : (Sc.bs s.h).size ≤ 1000000000000 := by rw [Sc.bs_size]; exact hh
  have fin : ∀ (P H : ByteArray) (u : Sc.St), P = Sc.bs u.p → H = Sc.bs u.h → u.q = s.q → (Calls Try.prog 33 #[rsV (Sc.bs s.p) (Sc.bs s.h) (.slice a s.q.length c) quota, stV k t i x] w fun e w' => e = .returned (rsV P H (.slice a s.q.length c) quota) ∧ Below w.heap.size w w') → Sc.made s k t i x = u → Calls Try.prog 33 #[rsV (Sc.bs s.p) (Sc.bs s.h) (.slice a s.q.length c) quota, stV k t i x] w fun e w' => ∃ v', e = .returned (rsV (Sc.bs (Sc.made s k t i x).p) (Sc.bs (Sc.made s k t i x).h) v' quota) ∧ Its w' v' (Sc.made s k t i x).q ∧ Below w.heap.size w w' ∧ ∀ b, blk v' = some b → blk (.slice a s.q.length c) = some b ∨ w.heap.size ≤ b := by
    rintro P H u rfl rfl eq hc em
    rw [em]
    refine hc.mono ?_
    rintro e w' ⟨rfl, hb⟩
    exact ⟨_, rfl, by rw [eq]; exact hQ.tu (Tu.of_below (O := fun _ => False) hb) (fun _ _ e => e), hb, fun b e => .inl e⟩
  by_cases hj : 0 ≤ k ∧ k ≤ 9
  · have : k = 0 ∨ k = 1 ∨ k = 2 ∨ k = 3 ∨ k = 4 ∨ k = 5 ∨ k = 6 ∨ k = 7 ∨ k = 8 ∨ k = 9 := by omega
    rcases this with rfl | rfl | rfl | rfl | rfl | rfl | rfl | rfl | rfl | rfl
    · exact fin t _ ⟨t.data.toList, s.h, s.q⟩ (Sc.bs_data t).symm rfl rfl (done0 _ _ _ _ _ _ t i x w (by omega) (by omega) ht) rfl
    · exact fin _ _ ⟨s.p ++ 10 :: t.data.toList, s.h, s.q⟩ (by rw [← bsj, Sc.bs_data]) rfl rfl (done1 _ _ _ _ _ _ t i x w (by omega) (by omega) ht) rfl
    · exact fin _ _ ⟨s.h, s.h, s.q⟩ rfl rfl rfl (done2 _ _ _ _ _ _ t i x w (by omega) (by omega) ht) rfl
    · exact fin _ _ ⟨s.p ++ 10 :: s.h, s.h, s.q⟩ (bsj _ _) rfl rfl (done3 _ _ _ _ _ _ t i x w (by omega) (by omega) ht) rfl
    · exact fin _ _ ⟨s.p, s.p, s.q⟩ rfl rfl rfl (done4 _ _ _ _ _ _ t i x w (by omega) (by omega) ht) rfl
    · exact fin _ _ ⟨s.p, s.h ++ 10 :: s.p, s.q⟩ rfl (bsj _ _) rfl (done5 _ _ _ _ _ _ t i x w (by omega) (by omega) ht) rfl
    · exact fin _ _ ⟨s.h, s.p, s.q⟩ rfl rfl rfl (done6 _ _ _ _ _ _ t i x w (by omega) (by omega) ht) rfl
    · exact fin _ _ ⟨Sc.rst s.p, s.h, s.q⟩ rfl rfl rfl (done7 _ _ _ _ _ _ t i x w zp) rfl
    · refine (done8 _ _ a s.q c quota t i x w hQ hl).mono ?_
      rintro e w' ⟨v', rfl, q1, q2⟩
      exact ⟨v', rfl, its_own q1, q2, fun b e => .inr (q1.lt b e).1⟩
    · refine (done9 _ _ a s.q.length c quota t i x w (by omega) (by omega) ht).mono ?_
      rintro e w' ⟨rfl, hb⟩
      exact ⟨_, rfl, .inl ⟨rfl, rfl⟩, hb, fun b e => by cases e⟩
  · have e0 : ∀ n : Int, 0 ≤ n → n ≤ 9 → k ≠ n := fun n a b c => hj (by omega)
    refine fin _ _ s rfl rfl rfl (doneX _ _ _ _ _ _ k (e0 0 (by omega) (by omega)) (e0 1 (by omega) (by omega)) (e0 2 (by omega) (by omega)) (e0 3 (by omega) (by omega)) (e0 4 (by omega) (by omega)) (e0 5 (by omega) (by omega)) (e0 6 (by omega) (by omega)) (e0 7 (by omega) (by omega)) (e0 8 (by omega) (by omega)) (e0 9 (by omega) (by omega)) t i x w (by omega) (by omega) ht) ?_
    unfold Sc.made
    simp only [if_neg (e0 0 (by omega) (by omega)), if_neg (e0 1 (by omega) (by omega)), if_neg (e0 2 (by omega) (by omega)), if_neg (e0 3 (by omega) (by omega)), if_neg (e0 4 (by omega) (by omega)), if_neg (e0 5 (by omega) (by omega)), if_neg (e0 6 (by omega) (by omega)), if_neg (e0 7 (by omega) (by omega)), if_neg (e0 8 (by omega) (by omega)), if_neg (e0 9 (by omega) (by omega))]
end Go.Proofs.Ytngmaijfahjfcaa
