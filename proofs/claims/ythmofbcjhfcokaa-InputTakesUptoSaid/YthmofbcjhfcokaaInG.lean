/- A row appended to a row; the law's asked. -/
import Derived.Test.YthmofbcjhfcokaaInF
import Derived.Deep.Upon
namespace Go.Proofs.Ythmofbcjhfcokaa
open Go.RowKit

/-- What is appended is a row of its own, of lines. -/
theorem wpList_append_lns {ops : Array Oper} {rest : List Oper} {o : Oper} {a : Act} {Q : Exit → Act → World → Prop} {w : World} (hgd : o.guard = none) (s x : Operand)
    (ho : o.op = .call { callee := .builtin .append, args := #[s, x], argTypes := #[46, 46] })
    (base base2 : Nat) (v v2 : Value) (L M : List (ByteArray × Bool)) (hs : a.eval s = v) (hown : w.ownsRow base 34 2 v L.length (lcells L)) (hx : a.eval x = v2) (hown2 : w.ownsRow base2 34 2 v2 M.length (lcells M))
    (hl : L.length + M.length ≤ 67108864) (hbase : base ≤ w.heap.size)
    (h : ∀ v' w', w'.ownsRow base 34 2 v' (L ++ M).length (lcells (L ++ M)) → w.grownBy w' v.ownBlock → (v'.ownBlock = v.ownBlock ∨ v'.ownBlock = some w.heap.size) → wpList Try.prog ops Q rest (a.put o.dst v') w') :
    wpList Try.prog ops Q (o :: rest) a w := by
  obtain ⟨i0, hi, hz0, hz1, hz2⟩ := info_parts Try.infoLine
  have hone : ∀ u ∈ lcells M, u.oneCell' = true := by
    intro u hu
    simp only [lcells, List.mem_flatMap] at hu
    obtain ⟨y, _, hy⟩ := hu
    simp at hy
    rcases hy with rfl | rfl <;> rfl
  rcases hown2.2 with ⟨q1, q2⟩ | ⟨g, cap, cur, q1, q2, q3, q4, q5, q6, q7⟩
  · have hM : M = [] := List.length_eq_zero_iff.1 q2
    subst hM
    refine wpList_plain hgd fun K hK => ?_
    obtain ⟨a1, c1, hv⟩ := own_slice hown
    have hle : L.length ≤ c1 := by
      rcases hown.2 with ⟨p1, p2⟩ | ⟨g, cap, cur, p1, _, _, p4, _⟩
      · omega
      · rw [p1] at hv; cases hv; exact p4
    have hr := run_append_nothing (P := Try.prog) w 46 46 o.type 34 i0 Try.underlying46 hi a1 L.length c1 hle (.slice none 0 0) (Src.ofNil w Try.underlying46 0)
    unfold Oper.wp execOp
    simp only [ho, resolve, invoke, builtin, Sem.run_bind, Sem.run_pure, Result.andThen_ok, List.map_toArray, List.map_cons, List.map_nil, hs, hx, q1, hv, hr]
    refine hK _ _ ?_
    rw [← hv]
    refine h v w ?_ ⟨rfl, rfl, rfl, Nat.le_refl _, fun _ _ _ => rfl⟩ (.inl rfl)
    rw [List.append_nil]
    exact hown
  · refine wpList_append_own_at w hgd s x 46 ho base 34 i0 (.agg #[.string ⟨#[]⟩, .bool false]) 2 24 Try.underlying46 hi hz0 hz1 hz2 rfl (by decide) v L.length (lcells L) hs hown ⟨g, 0, none⟩ M.length cap (lcells M) (by rw [hx, q1]) (lcells_length M) ?_ hone (by unfold maxLen; omega) (by omega) hbase ?_
    · intro j u hu
      have hj : j < (lcells M).length := (List.getElem?_eq_some_iff.1 hu).1
      rw [lcells_length] at hj
      subst q1
      rw [add_at, Nat.zero_add, hown2.cellAt j hj, hu]
    · intro v' w' h1 h2 _ h4
      refine h v' w' ?_ h2 h4
      rw [lcells_append, List.length_append]
      exact h1

set_option maxRecDepth 100000 in
set_option maxHeartbeats 1000000 in
theorem asked_any (av : Value) (m : Nat) (n : Int) (w : World) (h : w.ownsRow 0 3 1 av m (In.ints m)) (hm : m ≤ 67108864) :
    Calls Try.prog 13 #[av, .int .i64 n] w fun e w' => e = .returned (.bool ((m : Int) == n)) ∧ ∃ k, w' = w.drewN k := by
  obtain ⟨a, c, rfl⟩ := own_slice h
  have hc : ∀ i, i < m → ∃ b, a = some ⟨b, 0, none⟩ ∧ w.cell? ⟨b, i, none⟩ = some (.int .i64 (i : Int)) := by
    intro i hi
    rcases h.2 with ⟨q1, q2⟩ | ⟨g, cap, cur, q1, q2, q3, q4, q5, q6, q7⟩
    · omega
    · cases q1
      refine ⟨g, rfl, ?_⟩
      rw [h.cellAt i (by omega)]
      exact In.ints_get m i hi
  have HC : Hid _ := hc
  clear hc h
  go_enter Try.func13, Try.ntmps13
  go_wp2
  go_loop [9] (fun i => ∃ k : Nat, k ≤ m ∧ i = .int .i64 k) (fun i => m - (intOf i).toNat)
  case atStart => exact ⟨0, Nat.zero_le _, rfl⟩
  case round =>
    obtain ⟨k, hk, rfl⟩ := hrel
    by_cases hlt : k < m
    · obtain ⟨b, rfl, hc⟩ := HC.out k hlt
      have hki : (k : Int) < (m : Int) := by omega
      go_wp2_with fail
      go_round
      case rel => exact ⟨k + 1, by omega, by go_num⟩
      case measure => simp [intOf]; omega
    · go_wp2_with fail
      go_ret
      exact ⟨rfl, 0, rfl⟩
end Go.Proofs.Ythmofbcjhfcokaa
