/- What the reference's done answers where a line is dropped, where an item is put. -/
import Derived.Test.YtngmaijfahjfcaaSpX1
import Derived.Deep.RegionLaw
import Derived.Deep.AppendLies
namespace Go.Proofs.Ytngmaijfahjfcaa
open Go.RowKit

theorem ext_none (p : ByteArray) : p.extract p.size p.size = ⟨#[]⟩ := by
  rw [← Sc.bs_data (p.extract p.size p.size), ← Sc.bs_data ⟨#[]⟩]
  congr 1
  simp
theorem ext_bs (s : ByteArray) (a b : Nat) : s.extract a b = Sc.bs ((s.data.toList.drop a).take (b - a)) := Lib.extract_eq s a b
theorem ext_drop (p : ByteArray) (k : Nat) (_h : k < p.size) : (p.extract k p.size).extract 1 (p.size - k) = Sc.bs (p.data.toList.drop (k + 1)) := by
  rw [ext_bs, ext_bs, Sc.data_bs]
  congr 1
  have e : (p.data.toList.drop k).take (p.size - k) = p.data.toList.drop k := List.take_of_length_le (by rw [List.length_drop, Sc.szL]; omega)
  rw [e, List.drop_drop, List.take_of_length_le (by rw [List.length_drop, Sc.szL]; omega)]
set_option maxRecDepth 100000 in
set_option maxHeartbeats 1000000 in
theorem done7 (p h : ByteArray) (a : Option Addr) (n c quota : Nat) (t : ByteArray) (i : Nat) (x : ByteArray) (w : World) (hp : p.size ≤ 1000000000000) :
    Calls Try.prog 33 #[rsV p h (.slice a n c) quota, stV 7 t i x] w fun e w' => e = .returned (rsV (Sc.bs (Sc.rst p.data.toList)) h (.slice a n c) quota) ∧ Below w.heap.size w w' := by
  cases hlf : Sc.lf p.data.toList with
  | none =>
    have e1 : Sc.fst p.data.toList = p.data.toList := by unfold Sc.fst; rw [hlf]
    have e2 : Sc.rst p.data.toList = [] := by unfold Sc.rst; rw [hlf]
    have HF : Hid (∀ W, Calls Try.prog 12 #[.string p] W fun e w' => e = .returned (.tuple #[.string p, .bool false]) ∧ W = w') := fun W => by
      have := rfirst_any p W (by omega)
      rw [e1, hlf, Sc.bs_data] at this
      exact this
    have hE := ext_none p
    rw [e2]
    clear hlf e1 e2
    go_enter Try.func33, Try.ntmps33
    go_wp2_with (first | (go_at_call 12; refine (HF.out _).mono ?_; rintro e wx ⟨rfl, rfl⟩))
    refine bodyPost_ret (results_cell_row rfl _ _ (w.heap.size + 1 + 1) _ _ _ _ rfl (alloc3 w _ _ _) Try.underlying29 rfl (by kernel_rfl)) rfl ?_
    exact ⟨rfl, below3 w _ _ _⟩
  | some k =>
    have hk := Sc.lf_lt hlf
    rw [Sc.szL] at hk
    have e1 : Sc.fst p.data.toList = p.data.toList.take k := by unfold Sc.fst; rw [hlf]
    have e2 : Sc.rst p.data.toList = p.data.toList.drop (k + 1) := by unfold Sc.rst; rw [hlf]
    have HF : Hid (∀ W, Calls Try.prog 12 #[.string p] W fun e w' => e = .returned (.tuple #[.string (Sc.bs (p.data.toList.take k)), .bool true]) ∧ W = w') := fun W => by
      have := rfirst_any p W (by omega)
      rw [e1, hlf] at this
      exact this
    have hl : (Sc.bs (p.data.toList.take k)).size = k := by rw [Sc.bs_size, List.length_take, Sc.szL]; omega
    have HE : Hid ((p.extract k p.size).extract 1 (p.size - k) = Sc.bs (p.data.toList.drop (k + 1))) := ext_drop p k hk
    have hz : (p.extract k p.size).size = p.size - k := by simp [ByteArray.size_extract]
    rw [e2]
    clear hlf e1 e2
    have hk2 : (k : Int) ≤ (p.size : Int) := by omega
    have hk3 : 1 ≤ p.size - k := by omega
    generalize Sc.bs (p.data.toList.take k) = ln at *
    go_enter Try.func33, Try.ntmps33
    go_wp2_with (first | (go_at_call 12; refine (HF.out _).mono ?_; rintro e wx ⟨rfl, rfl⟩))
    refine bodyPost_ret (results_cell_row rfl _ _ (w.heap.size + 1 + 1) _ _ _ _ rfl (alloc3 w _ _ _) Try.underlying29 rfl (by kernel_rfl)) rfl ?_
    refine ⟨?_, below3 w _ _ _⟩
    rw [← HE.out]
/-- A call of a Go function, as one step of a region that draws its order. -/
theorem step_call1 {ops : Array Oper} {o : Oper} {a : Act} {w : World} {K : Act → World → Prop} {Q : Exit → Act → World → Prop} {E : Prop} (hgd : o.guard = none) (f : Nat) (x : Operand) (T : Array TypeId)
    (ho : o.op = .call { callee := .value (.func f), args := #[x], argTypes := T }) (_hf : a.eval (.func f) = .func (.func f) #[] #[]) (hc : ∀ args wx, (callFunc f args).run Try.prog wx = .ok (.enter f args) wx)
    (v : Value) (hx : a.eval x = v) (Post : Value → World → Prop) (h : Calls Try.prog f #[v] w fun e w' => ∃ v', e = .returned v' ∧ Post v' w') (hk : ∀ v' w', Post v' w' → K (a.put o.dst v') w') :
    if Region.wanted o (yielded ops a.tmps) = true then Oper.wp Try.prog o a w K Q else E := by
  have hw : Region.wanted o (yielded ops a.tmps) = true := by simp [Region.wanted, hgd]
  rw [if_pos hw]
  obtain ⟨d, op, ty, pos, af, gd⟩ := o
  simp only at ho hgd
  subst ho hgd
  have hr : (execOp a.eval ⟨d, .call { callee := .value (.func f), args := #[x], argTypes := T }, ty, pos, af, none⟩).run Try.prog w = .ok (.enter f #[v]) w := by
    subst hx
    go_simp
  unfold Oper.wp
  rw [hr]
  refine h.mono ?_
  rintro e w' ⟨v', rfl, hp⟩
  exact hk v' w' hp
theorem copy_e (args : Array Value) (w : World) : (callFunc 59 args).run Try.prog w = .ok (.enter 59 args) w := by go_simp
end Go.Proofs.Ytngmaijfahjfcaa
