/- ArgsNames holds: what stands behind two dashes is a name, however it looks. -/
import Derived.Test.YtfkdnojoammlcaaLawArN
import Derived.Test.YtfkdnojoammlcaaRowat
namespace Go.Proofs.Ytfkdnojoammlcaa.argsNames
open Go.ChangeShapes Go.WideShapes Go.ChangeAt Go.RowKit

set_option maxRecDepth 100000 in
theorem lifted (os : Os) (started : os.Started) (H : Type) (enc : TypeId × Value → H) (F : Stop.Interp) :
    ReturnsInHanded {} Try.checked os 8 .any ((Rows.OpenSpec.upto Rows.argsNamesSpec).pre6 enc Try.prog Try.f8 Rows.argsNamesUptoRow.domain false) (((Rows.OpenSpec.upto Rows.argsNamesSpec).at F).post enc Try.prog Try.f8 false true false false) := by
  refine handed_upto (c := Rows.argsNamesSpec) started (by kernel_rfl) Try.func8
    (OpenSpec.witness (enc := enc) (C := Try.checked) (s := Rows.OpenSpec.upto Rows.argsNamesSpec) (k := Rows.uptoSmall) rfl false ⟨#[], #[.string ⟨#[]⟩, .slice none 0 0], []⟩ 8 (by kernel_rfl) (by kernel_rfl) (by kernel_rfl)
      (x := ([.lit (.string []), .nil], [], [])) (by kernel_rfl) rfl (by kernel_rfl)) ?_
  intro W base args ds gs before hval0 hW hz hm
  have hval : ∀ (j : Nat) t v, Try.f8.params[j]? = some t → args[j]? = some v → Value.okWide Try.prog W .any base t v := hval0
  have hW' := hW
  obtain ⟨p, q, hA0, hV, rfl, _, _⟩ := hW
  have hA : DataW.TrodAll enc Try.prog W 0 (fun _ => true) true Try.f8.params.toList args.toList ds p := hA0
  have hW2 : DataW.Whole enc Try.prog Try.f8.params.toList ((Rows.OpenSpec.upto Rows.argsNamesSpec).at F).vars false W args.toList ds gs (p ++ q) := hW'
  have hread : ∀ t ∈ Try.f8.params.toList, Try.prog.readableRec t = true ∧ t < Try.prog.types.size := by
    rw [Try.params8]
    intro t ht
    simp at ht
    rcases ht with rfl | rfl
    all_goals exact ⟨by kernel_rfl, of_decide_eq_true (by kernel_rfl)⟩
  rw [Try.params8] at hA hval
  obtain ⟨v0, vs0, d0, ds0, p0, q0, hargs, rfl, rfl, h0, r0⟩ := trodAll_cons hA
  obtain ⟨v1, vs1, d1, ds1, p1, q1, rfl, rfl, rfl, h1, r1⟩ := trodAll_cons r0
  obtain ⟨rfl, rfl, rfl⟩ := trodAll_nil r1
  obtain rfl : args = #[v0, v1] := by cases args; simp_all
  obtain ⟨rfl, rfl⟩ := trodVars_none hV
  simp only [List.append_nil, Rows.uptoBulkAll] at hz
  obtain ⟨t0, rfl, z0⟩ := text_open (hval 0 9 v0 rfl rfl) h0
  obtain ⟨a1, c1, l1, rfl, s1, z1⟩ := strs_open (hval 1 22 v1 rfl rfl) h1 (fun x hx => hW'.lt x (by simp [hx])) (by omega)
  refine (law_names t0 l1 a1 c1 W s1 (by omega) (fun i hi => by have := tbk_at l1 i hi; omega) hm (maxL_lt hm)).mono fun e W' ⟨he, hb⟩ => ?_
  exact ⟨_, he, law_post (by kernel_rfl) rfl hread rfl rfl rfl hW2 hb⟩

theorem holds : Rows.ArgsNamesUptoSaid :=
  OpenClaim.holds_of_cond 8 Try.f8 rfl rfl rfl rfl rfl rfl rfl ⟨rfl, rfl, rfl, rfl, rfl⟩ rfl rfl rfl rfl rfl (by kernel_rfl) Try.func8 (by kernel_rfl)
    (of_decide_eq_true (by kernel_rfl)) (by unfold Func.isWrapper; first | (rw [if_pos (by decide +kernel)]; kernel_rfl) | (rw [if_neg (by decide +kernel)]; exact ⟨rfl, rfl⟩))
    (fun os started H enc _ F => lifted os started H enc F)
end Go.Proofs.Ytfkdnojoammlcaa.argsNames

namespace Go.Proofs.Ytfkdnojoammlcaa
theorem argsNames_holds : Rows.ArgsNamesUptoSaid := argsNames.holds
end Go.Proofs.Ytfkdnojoammlcaa
