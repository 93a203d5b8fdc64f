/- SpaceLines holds: whatever two texts are handed in, the law answers true and leaves them as they were. -/
import Derived.Test.YtngmaijfahjfcaaLawSpL
import Derived.Test.YtngmaijfahjfcaaRowsp
namespace Go.Proofs.Ytngmaijfahjfcaa.spaceLines
open Go.ChangeShapes Go.WideShapes Go.ChangeAt Go.RowKit

set_option maxRecDepth 100000 in
theorem lifted (os : Os) (started : os.Started) (H : Type) (enc : TypeId × Value → H) :
    ReturnsInHanded {} Try.checked os 6 .any (Rows.spaceLinesSpec.pre6 enc Try.prog Try.f6 Rows.spaceLinesRow.domain false) (Rows.spaceLinesSpec.post enc Try.prog Try.f6 false true false false) := by
  refine returnsInHanded_of_change_sized (C := Try.checked) Try.own started (by kernel_rfl) Try.func6
    (ChangeSpec.witness6 (enc := enc) (C := Try.checked) false ⟨#[], #[.string ⟨#[]⟩, .string ⟨#[]⟩], []⟩ 8 (by kernel_rfl) (by kernel_rfl) (by kernel_rfl) (by kernel_rfl)) ?_
  intro W base args ds gs before hval0 hW _ hsz0 _
  have hsz : (DataW.weightsEach Try.prog (Try.f6.params.toList ++ Rows.spaceLinesSpec.plain.varTypes Try.prog) (ds ++ gs)).all (· ≤ reachBytes) = true := hsz0
  clear hsz0
  have hval : ∀ (j : Nat) t v, Try.f6.params[j]? = some t → args[j]? = some v → Value.okWide Try.prog W .any base t v := hval0
  have hW' := hW
  obtain ⟨p, q, hA0, hV, rfl, _, _⟩ := hW
  have hA : DataW.TrodAll enc Try.prog W 0 (fun _ => true) true Try.f6.params.toList args.toList ds p := hA0
  have hW2 : DataW.Whole enc Try.prog Try.f6.params.toList Rows.spaceLinesSpec.vars false W args.toList ds gs (p ++ q) := hW'
  have hread : ∀ t ∈ Try.f6.params.toList, Try.prog.readableRec t = true ∧ t < Try.prog.types.size := by
    rw [Try.params6]
    intro t ht
    simp at ht
    subst ht
    exact ⟨by kernel_rfl, of_decide_eq_true (by kernel_rfl)⟩
  rw [Try.params6] at hA hval hsz
  obtain ⟨v0, vs0, d0, ds0, p0, q0, hargs, rfl, rfl, h0, r0⟩ := trodAll_cons hA
  obtain ⟨v1, vs1, d1, ds1, p1, q1, rfl, rfl, rfl, h1, r1⟩ := trodAll_cons r0
  obtain ⟨rfl, rfl, rfl⟩ := trodAll_nil r1
  obtain rfl : args = #[v0, v1] := by cases args; simp_all
  obtain ⟨rfl, rfl⟩ := trodVars_none hV
  have hlt : ∀ x ∈ (p0 ++ (p1 ++ [])) ++ [], x.block < W.heap.size := fun x hx => hW'.lt x (by simpa using hx)
  have hall : ∀ n ∈ DataW.weightsEach Try.prog [9, 9] [d0, d1], n ≤ reachBytes := fun n hn => by
    have h := List.all_eq_true.1 hsz n hn
    simpa using h
  simp only [DataW.weightsEach, List.mem_append] at hall
  obtain ⟨t0, rfl, b0⟩ := text_open (hval 0 9 v0 rfl rfl) h0 (fun n hn => hall n (.inl hn))
  obtain ⟨t1, rfl, b1⟩ := text_open (hval 1 9 v1 rfl rfl) h1 (fun n hn => hall n (.inr (.inl hn)))
  refine (law_lines t0 t1 W (by unfold maxLen; omega) (by unfold maxLen; omega)).mono fun e W' ⟨he, hb⟩ => ?_
  exact ⟨_, he, law_post (by kernel_rfl) rfl hread rfl rfl rfl hW2 hb⟩

theorem holds : Rows.SpaceLinesSaid :=
  OpenClaim.holds_of_wide 6 Try.f6 rfl rfl rfl rfl rfl rfl rfl ⟨rfl, rfl, rfl, rfl, rfl⟩ rfl rfl rfl rfl rfl (by kernel_rfl) Try.func6 (by kernel_rfl)
    (of_decide_eq_true (by kernel_rfl)) (by unfold Func.isWrapper; first | (rw [if_pos (by decide +kernel)]; kernel_rfl) | (rw [if_neg (by decide +kernel)]; exact ⟨rfl, rfl⟩))
    (fun os started H enc _ => lifted os started H enc)
end Go.Proofs.Ytngmaijfahjfcaa.spaceLines

namespace Go.Proofs.Ytngmaijfahjfcaa
theorem spaceLines_holds : Rows.SpaceLinesSaid := spaceLines.holds
end Go.Proofs.Ytngmaijfahjfcaa
