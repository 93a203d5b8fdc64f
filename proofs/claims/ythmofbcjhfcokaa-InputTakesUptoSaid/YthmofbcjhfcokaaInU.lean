/- What the reference's Most and the law's told answer. -/
import Derived.Test.YthmofbcjhfcokaaInT
namespace Go.Proofs.Ythmofbcjhfcokaa
open Go.RowKit

namespace In
def most (T : List Tl) : Nat := if fin T < T.length ∧ 0 < (ls T).length then (ls T).length - 1 else (ls T).length
theorem fin_le (T : List Tl) : fin T ≤ T.length := by
  have : ∀ (T : List Tl) (k : Nat), (ahF k T).2 ≤ k + T.length := by
    intro T
    induction T with
    | nil => intro k; exact Nat.le_refl _
    | cons x r ih =>
      intro k
      obtain ⟨d, y⟩ := x
      have := ih (k + 1)
      unfold ahF
      split
      · simp; omega
      · split
        · simp; omega
        · simp
  have := this T 0
  unfold fin
  omega
/-- No text with an error. -/
def tel (x : Tl) : Tl := if x.2 = 0 then x else (⟨#[]⟩, x.2)
end In
set_option maxRecDepth 100000 in
set_option maxHeartbeats 1000000 in
theorem most_any (a : Option Addr) (cap : Nat) (T : List In.Tl) (w : World) (h : Tls w a cap T) (hT : T.length ≤ 1048576) (hz : In.tsz T ≤ 1048576) :
    Calls Try.prog 9 #[.slice a T.length cap] w fun e w' => e = .returned (.int .i64 (In.most T : Int)) ∧ Below w.heap.size w w' := by
  have HA : Hid _ := ahead_any a cap T w h hT hz
  have hlen : (In.ls T).length ≤ 1048576 := Nat.le_trans (In.ahF_len T 0) hz
  have HM : Hid (In.most T = if In.fin T < T.length ∧ 0 < (In.ls T).length then (In.ls T).length - 1 else (In.ls T).length) := rfl
  generalize In.most T = m at *
  generalize In.fin T = f at *
  generalize In.ls T = L at *
  clear h
  go_enter Try.func9, Try.ntmps9
  have hw1 : IntKind.i64.wrap ((L.length : Int) - 1) = (L.length : Int) - 1 := by rw [IntKind.wrap_i64]; omega
  by_cases h1 : f < T.length
  · have h1i : (f : Int) < (T.length : Int) := by omega
    have h1d : decide ((f : Int) < (T.length : Int)) = true := by simp; omega
    by_cases h2 : 0 < L.length
    · have h2i : (0 : Int) < (L.length : Int) := by omega
      have h2d : decide ((0 : Int) < (L.length : Int)) = true := by simp; omega
      go_wp2_with (go_at_call 25; refine Calls.mono HA.out ?_; rintro e w1 ⟨v, rfl, ho, hb⟩; (obtain ⟨a1, c1, hv⟩ := own_slice ho); (subst hv); clear ho)
      go_ret
      refine ⟨?_, hb⟩
      rw [HM.out, if_pos ⟨h1, h2⟩]
      simp
      omega
    · have h2i : ¬ (0 : Int) < (L.length : Int) := by omega
      have h2d : decide ((0 : Int) < (L.length : Int)) = false := decide_eq_false (by omega)
      go_wp2_with (go_at_call 25; refine Calls.mono HA.out ?_; rintro e w1 ⟨v, rfl, ho, hb⟩; (obtain ⟨a1, c1, hv⟩ := own_slice ho); (subst hv); clear ho)
      go_ret
      refine ⟨?_, hb⟩
      rw [HM.out, if_neg (fun q => h2 q.2)]
      rfl
  · have h1i : ¬ (f : Int) < (T.length : Int) := by omega
    have h1d : decide ((f : Int) < (T.length : Int)) = false := by simp; omega
    go_wp2_with (go_at_call 25; refine Calls.mono HA.out ?_; rintro e w1 ⟨v, rfl, ho, hb⟩; (obtain ⟨a1, c1, hv⟩ := own_slice ho); (subst hv); clear ho)
    go_ret
    refine ⟨?_, hb⟩
    rw [HM.out, if_neg (fun q => h1 q.1)]
    rfl

set_option maxRecDepth 100000 in
set_option maxHeartbeats 1000000 in
theorem told_any (a : Option Addr) (cap : Nat) (T : List In.Tl) (w : World) (h : Tls w a cap T) (hT : T.length ≤ 1048576) :
    Calls Try.prog 6 #[.slice a T.length cap] w fun e w' => ∃ v, e = .returned v ∧ w'.ownsRow w.heap.size 48 2 v (T.map In.tel).length (tcells (T.map In.tel)) ∧ Below w.heap.size w w' := by
  obtain ⟨i0, hi, hz0, hz1, hz2⟩ := info_parts Try.infoTold
  have HTls : Hid (Tls w a cap T) := h
  clear h
  go_enter Try.func6, Try.ntmps6
  go_wp2
  go_loopw [3, 8] (fun v i wr => ∃ k : Nat, k ≤ T.length ∧ i = .int .i64 k ∧ Hid (wr.ownsRow w.heap.size 48 2 v ((T.take k).map In.tel).length (tcells ((T.take k).map In.tel))) ∧ Hid (Below w.heap.size w wr)) (fun _ i _ => T.length - (intOf i).toNat)
  case atStart => exact ⟨0, Nat.zero_le _, rfl, World.ownsRow_nil _ _ _ _, Below.refl _ _⟩
  case round =>
    obtain ⟨k, hk, rfl, HO, HB⟩ := hrel
    have hsz := HB.out.size
    by_cases hlt : k < T.length
    · obtain ⟨b, off, rfl, hb0, d1, d2⟩ := HTls.out.cells k hlt
      have e1 := (HB.out.cell (p := ⟨b, off + k * 2, none⟩) hb0).trans d1
      have e2 := (HB.out.cell (p := ⟨b, off + k * 2 + 1, none⟩) hb0).trans d2
      have hbr : b < wr.heap.size := by omega
      have hki : (k : Int) < (T.length : Int) := by omega
      have HTT : Hid ((T.take (k + 1)).map In.tel = (T.take k).map In.tel ++ [In.tel (T[k]'hlt)]) := by show _ = _; rw [List.take_succ_eq_append_getElem hlt, List.map_append]; rfl
      obtain ⟨D, hD⟩ : ∃ D, D = (T.take k).map In.tel := ⟨_, rfl⟩
      have HDl : Hid (D.length = k) := by show _ = _; rw [hD, List.length_map, List.length_take]; omega
      rw [← hD] at HO HTT
      generalize T[k]'hlt = x at *
      obtain ⟨x1, x2⟩ := x
      clear d1 d2 hD
      cases k0 : (x2 != 0)
      · have HX : Hid (In.tel (x1, x2) = (x1, x2)) := by have : x2 = 0 := (by simpa using k0); show _ = _; unfold In.tel; rw [if_pos this]
        go_wp2_with (at_builtin; refine wpList_append_own_at _ rfl _ _ 22 rfl w.heap.size 48 i0 (.agg #[.string ⟨#[]⟩, .int .i64 0]) 2 24 Try.underlying22 hi hz0 hz1 hz2 rfl (by decide) _ _ _ rfl ((World.ownsRow.alloc HO.out _).alloc _) ⟨wr.heap.size + 1, 0, none⟩ 1 1 [.string x1, .int .i64 x2] rfl rfl (by have := cell_two_new (wr.alloc (.cells #[.string x1, .int .i64 x2] 48)) (.string x1) (.int .i64 x2) 48; simpa using this) ?p2 ?p3 ?p4 ?p5 ?_)
        case p2 => first | exact ⟨rfl, rfl⟩ | rfl | (intro u hu; simp at hu; rcases hu with rfl | rfl <;> rfl)
        case p3 => have := HDl.out; unfold maxLen; omega
        case p4 => have := HDl.out; omega
        case p5 => first | omega | (simp; omega)
        intro v' w9 hown' hgrow _ hat
        have hb9 : Below w.heap.size w w9 := ((HB.out.alloc hsz _).alloc (by simp; omega) _).grown hgrow (by simp; omega) (fun g hg => (HO.out.lt g hg).1)
        have HO9 : Hid (w9.ownsRow w.heap.size 48 2 v' (D ++ [In.tel (x1, x2)]).length (tcells (D ++ [In.tel (x1, x2)]))) := by
          show w9.ownsRow _ _ _ _ _ _
          rw [HX.out, tcells_append, List.length_append]
          exact hown'
        have HB9 : Hid _ := hb9
        clear hown' hgrow hat hb9
        go_wp2_with fail
        go_roundw
        case rel => exact ⟨k + 1, by omega, by go_num, by rw [HTT.out]; exact HO9, HB9⟩
        case measure => simp [intOf]; omega
      · have HX : Hid (In.tel (x1, x2) = (⟨#[]⟩, x2)) := by have : ¬ x2 = 0 := (by simpa using k0); show _ = _; unfold In.tel; rw [if_neg this]
        go_wp2_with (at_builtin; refine wpList_append_own_at _ rfl _ _ 22 rfl w.heap.size 48 i0 (.agg #[.string ⟨#[]⟩, .int .i64 0]) 2 24 Try.underlying22 hi hz0 hz1 hz2 rfl (by decide) _ _ _ rfl ((World.ownsRow.alloc HO.out _).alloc _) ⟨wr.heap.size + 1, 0, none⟩ 1 1 [.string ⟨#[]⟩, .int .i64 x2] rfl rfl (by have := cell_two_new (wr.alloc (.cells #[.string ⟨#[]⟩, .int .i64 x2] 48)) (.string ⟨#[]⟩) (.int .i64 x2) 48; simpa using this) ?q2 ?q3 ?q4 ?q5 ?_)
        case q2 => first | exact ⟨rfl, rfl⟩ | rfl | (intro u hu; simp at hu; rcases hu with rfl | rfl <;> rfl)
        case q3 => have := HDl.out; unfold maxLen; omega
        case q4 => have := HDl.out; omega
        case q5 => first | omega | (simp; omega)
        intro v' w9 hown' hgrow _ hat
        have hb9 : Below w.heap.size w w9 := ((HB.out.alloc hsz _).alloc (by simp; omega) _).grown hgrow (by simp; omega) (fun g hg => (HO.out.lt g hg).1)
        have HO9 : Hid (w9.ownsRow w.heap.size 48 2 v' (D ++ [In.tel (x1, x2)]).length (tcells (D ++ [In.tel (x1, x2)]))) := by
          show w9.ownsRow _ _ _ _ _ _
          rw [HX.out, tcells_append, List.length_append]
          exact hown'
        have HB9 : Hid _ := hb9
        clear hown' hgrow hat hb9
        go_wp2_with fail
        go_roundw
        case rel => exact ⟨k + 1, by omega, by go_num, by rw [HTT.out]; exact HO9, HB9⟩
        case measure => simp [intOf]; omega
    · have hki : ¬ (k : Int) < (T.length : Int) := by omega
      have HTT : Hid (T.take k = T) := List.take_of_length_le (by omega)
      go_wp2_with fail
      go_ret
      refine ⟨u3, rfl, ?_, HB.out⟩
      have := HO.out
      rw [HTT.out, List.length_map] at this
      exact this
end Go.Proofs.Ythmofbcjhfcokaa
