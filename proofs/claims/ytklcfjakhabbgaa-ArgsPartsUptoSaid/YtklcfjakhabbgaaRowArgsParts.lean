/- ArgsParts holds: the script of pieces is that of both of its parts. -/
import Derived.Test.YtklcfjakhabbgaaLawArQ
import Derived.Test.YtklcfjakhabbgaaRowaw
namespace Go.Proofs.Ytklcfjakhabbgaa.argsParts
open Go.ChangeShapes Go.WideShapes Go.ChangeAt Go.RowKit

set_option maxRecDepth 100000 in
theorem lifted (os : Os) (started : os.Started) (H : Type) (enc : TypeId × Value → H) (F : Stop.Interp) :
    ReturnsInHanded {} Try.checked os 7 .any ((Rows.OpenSpec.upto Rows.argsPartsSpec).pre6 enc Try.prog Try.f7 Rows.argsPartsUptoRow.domain false) (((Rows.OpenSpec.upto Rows.argsPartsSpec).at F).post enc Try.prog Try.f7 false true false false) := by
  refine handed_upto (c := Rows.argsPartsSpec) started (by kernel_rfl) Try.func7
    (OpenSpec.witness (enc := enc) (C := Try.checked) (s := Rows.OpenSpec.upto Rows.argsPartsSpec) (k := Rows.uptoSmall) rfl false ⟨#[], #[.slice none 0 0, .int .i64 0], []⟩ 8 (by kernel_rfl) (by kernel_rfl) (by kernel_rfl)
      (x := ([.nil, .lit (.int .i64 0)], [], [])) (by kernel_rfl) rfl (by kernel_rfl)) ?_
  intro W base args ds gs before hval0 hW hz hm
  have hval : ∀ (j : Nat) t v, Try.f7.params[j]? = some t → args[j]? = some v → Value.okWide Try.prog W .any base t v := hval0
  have hW' := hW
  obtain ⟨p, q, hA0, hV, rfl, _, _⟩ := hW
  have hA : DataW.TrodAll enc Try.prog W 0 (fun _ => true) true Try.f7.params.toList args.toList ds p := hA0
  have hW2 : DataW.Whole enc Try.prog Try.f7.params.toList ((Rows.OpenSpec.upto Rows.argsPartsSpec).at F).vars false W args.toList ds gs (p ++ q) := hW'
  have hread : ∀ t ∈ Try.f7.params.toList, Try.prog.readableRec t = true ∧ t < Try.prog.types.size := by
    rw [Try.params7]
    intro t ht
    simp at ht
    rcases ht with rfl | rfl
    all_goals exact ⟨by kernel_rfl, of_decide_eq_true (by kernel_rfl)⟩
  rw [Try.params7] at hA hval
  obtain ⟨v0, vs0, d0, ds0, p0, q0, hargs, rfl, rfl, h0, r0⟩ := trodAll_cons hA
  obtain ⟨v1, vs1, d1, ds1, p1, q1, rfl, rfl, rfl, h1, r1⟩ := trodAll_cons r0
  obtain ⟨rfl, rfl, rfl⟩ := trodAll_nil r1
  obtain rfl : args = #[v0, v1] := by cases args; simp_all
  obtain ⟨rfl, rfl⟩ := trodVars_none hV
  simp only [List.append_nil, Rows.uptoBulkAll] at hz
  obtain ⟨a0, c0, l0, rfl, s0, z0⟩ := strs_open (hval 0 22 v0 rfl rfl) h0 (fun x hx => hW'.lt x (by simp [hx])) (by omega)
  obtain ⟨n1, rfl, z1⟩ := int_open (hval 1 3 v1 rfl rfl) h1
  refine (law_parts l0 a0 c0 n1 W s0 z1 (by show tbk l0 ≤ _; omega) (by have := tbk_len l0; omega) ⟨hm, maxL_lt hm⟩).mono fun e W' ⟨he, hb⟩ => ?_
  exact ⟨_, he, law_post (by kernel_rfl) rfl hread rfl rfl rfl hW2 hb⟩

theorem holds : Rows.ArgsPartsUptoSaid :=
  OpenClaim.holds_of_cond 7 Try.f7 rfl rfl rfl rfl rfl rfl rfl ⟨rfl, rfl, rfl, rfl, rfl⟩ rfl rfl rfl rfl rfl (by kernel_rfl) Try.func7 (by kernel_rfl)
    (of_decide_eq_true (by kernel_rfl)) (by unfold Func.isWrapper; first | (rw [if_pos (by decide +kernel)]; kernel_rfl) | (rw [if_neg (by decide +kernel)]; exact ⟨rfl, rfl⟩))
    (fun os started H enc _ F => lifted os started H enc F)
end Go.Proofs.Ytklcfjakhabbgaa.argsParts

namespace Go.Proofs.Ytklcfjakhabbgaa
theorem argsParts_holds : Rows.ArgsPartsUptoSaid := argsParts.holds
end Go.Proofs.Ytklcfjakhabbgaa
