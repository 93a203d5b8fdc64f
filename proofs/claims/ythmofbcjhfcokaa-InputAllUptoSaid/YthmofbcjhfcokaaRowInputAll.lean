/- InputAll holds: whatever texts are handed in, together of at most 1048576 values and letters, and however they are counted, the law answers true and leaves them as they were. -/
import Derived.Test.YthmofbcjhfcokaaLawInA
import Derived.Test.YthmofbcjhfcokaaRowiu
namespace Go.Proofs.Ythmofbcjhfcokaa
theorem tb_sum : ∀ l : List ByteArray, (l.map (fun s => s.size + 1)).sum = tb l + l.length
  | [] => rfl
  | s :: r => by
    have := tb_sum r
    simp only [tb, List.map_cons, List.sum_cons, List.length_cons] at *
    omega
end Go.Proofs.Ythmofbcjhfcokaa
namespace Go.Proofs.Ythmofbcjhfcokaa.inputAll
open Go.ChangeShapes Go.WideShapes Go.ChangeAt Go.RowKit

set_option maxRecDepth 100000 in
theorem lifted (os : Os) (started : os.Started) (H : Type) (enc : TypeId × Value → H) (F : Stop.Interp) :
    ReturnsInHanded {} Try.checked os 4 .any ((Rows.OpenSpec.upto Rows.inputAllSpec).pre6 enc Try.prog Try.f4 Rows.inputAllUptoRow.domain false) (((Rows.OpenSpec.upto Rows.inputAllSpec).at F).post enc Try.prog Try.f4 false true false false) := by
  refine handed_upto (c := Rows.inputAllSpec) started (by kernel_rfl) Try.func4
    (OpenSpec.witness (enc := enc) (C := Try.checked) (s := Rows.OpenSpec.upto Rows.inputAllSpec) (k := Rows.uptoSmall) rfl false ⟨#[], #[.slice none 0 0, .bool false], []⟩ 8 (by kernel_rfl) (by kernel_rfl) (by kernel_rfl)
      (x := ([.nil, .lit (.bool false)], [], [])) (by kernel_rfl) rfl (by kernel_rfl)) ?_
  intro W base args ds gs before hval0 hW hz
  have hval : ∀ (j : Nat) t v, Try.f4.params[j]? = some t → args[j]? = some v → Value.okWide Try.prog W .any base t v := hval0
  have hW' := hW
  obtain ⟨p, q, hA0, hV, rfl, _, _⟩ := hW
  have hA : DataW.TrodAll enc Try.prog W 0 (fun _ => true) true Try.f4.params.toList args.toList ds p := hA0
  have hW2 : DataW.Whole enc Try.prog Try.f4.params.toList ((Rows.OpenSpec.upto Rows.inputAllSpec).at F).vars false W args.toList ds gs (p ++ q) := hW'
  have hread : ∀ t ∈ Try.f4.params.toList, Try.prog.readableRec t = true ∧ t < Try.prog.types.size := by
    rw [Try.params4]
    intro t ht
    simp at ht
    rcases ht with rfl | rfl
    all_goals exact ⟨by kernel_rfl, of_decide_eq_true (by kernel_rfl)⟩
  rw [Try.params4] at hA hval
  obtain ⟨v0, vs0, d0, ds0, p0, q0, hargs, rfl, rfl, h0, r0⟩ := trodAll_cons hA
  obtain ⟨v1, vs1, d1, ds1, p1, q1, rfl, rfl, rfl, h1, r1⟩ := trodAll_cons r0
  obtain ⟨rfl, rfl, rfl⟩ := trodAll_nil r1
  obtain rfl : args = #[v0, v1] := by cases args; simp_all
  obtain ⟨rfl, rfl⟩ := trodVars_none hV
  simp only [List.append_nil, Rows.uptoBulkAll] at hz
  obtain ⟨a0, c0, l0, rfl, k0, s0, z0⟩ := texts_open (hval 0 45 v0 rfl rfl) h0 (fun x hx => hW'.lt x (by simp [hx]))
  obtain ⟨b1, rfl⟩ := okWide_bool Try.underlying4 (hval 1 4 v1 rfl rfl)
  have e0 : (l0.map (fun s => s.size + 1)).sum = tb l0 + l0.length := tb_sum l0
  refine (law_all a0 c0 l0 b1 W ⟨by omega, k0, s0⟩ (by omega)).mono fun e W' ⟨he, hb⟩ => ?_
  exact ⟨_, he, law_post (by kernel_rfl) rfl hread rfl rfl rfl hW2 hb⟩

theorem holds : Rows.InputAllUptoSaid :=
  OpenClaim.holds_of_cond 4 Try.f4 rfl rfl rfl rfl rfl rfl rfl ⟨rfl, rfl, rfl, rfl, rfl⟩ rfl rfl rfl rfl rfl (by kernel_rfl) Try.func4 (by kernel_rfl)
    (of_decide_eq_true (by kernel_rfl)) (by unfold Func.isWrapper; first | (rw [if_pos (by decide +kernel)]; kernel_rfl) | (rw [if_neg (by decide +kernel)]; exact ⟨rfl, rfl⟩))
    (fun os started H enc _ F => lifted os started H enc F)
end Go.Proofs.Ythmofbcjhfcokaa.inputAll

namespace Go.Proofs.Ythmofbcjhfcokaa
theorem inputAll_holds : Rows.InputAllUptoSaid := inputAll.holds
end Go.Proofs.Ythmofbcjhfcokaa
