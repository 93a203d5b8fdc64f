/- ArgsValues holds: a value stands right behind its letter, in the next argument, or behind a long name: the same. -/
import Derived.Test.YtklcfjakhabbgaaLawArV
import Derived.Test.YtklcfjakhabbgaaRowau
namespace Go.Proofs.Ytklcfjakhabbgaa.argsValues
open Go.ChangeShapes Go.WideShapes Go.ChangeAt Go.RowKit

set_option maxRecDepth 100000 in
theorem lifted (os : Os) (started : os.Started) (H : Type) (enc : TypeId × Value → H) (F : Stop.Interp) :
    ReturnsInHanded {} Try.checked os 6 .any ((Rows.OpenSpec.upto Rows.argsValuesSpec).pre6 enc Try.prog Try.f6 Rows.argsValuesUptoRow.domain false) (((Rows.OpenSpec.upto Rows.argsValuesSpec).at F).post enc Try.prog Try.f6 false true false false) := by
  refine handed_upto (c := Rows.argsValuesSpec) started (by kernel_rfl) Try.func6
    (OpenSpec.witness (enc := enc) (C := Try.checked) (s := Rows.OpenSpec.upto Rows.argsValuesSpec) (k := Rows.uptoSmall) rfl false ⟨#[], #[.string ⟨#[]⟩, .bool false, .slice none 0 0], []⟩ 8 (by kernel_rfl) (by kernel_rfl) (by kernel_rfl)
      (x := ([.lit (.string []), .lit (.bool false), .nil], [], [])) (by kernel_rfl) rfl (by kernel_rfl)) ?_
  intro W base args ds gs before hval0 hW hz hm
  have hval : ∀ (j : Nat) t v, Try.f6.params[j]? = some t → args[j]? = some v → Value.okWide Try.prog W .any base t v := hval0
  have hW' := hW
  obtain ⟨p, q, hA0, hV, rfl, _, _⟩ := hW
  have hA : DataW.TrodAll enc Try.prog W 0 (fun _ => true) true Try.f6.params.toList args.toList ds p := hA0
  have hW2 : DataW.Whole enc Try.prog Try.f6.params.toList ((Rows.OpenSpec.upto Rows.argsValuesSpec).at F).vars false W args.toList ds gs (p ++ q) := hW'
  have hread : ∀ t ∈ Try.f6.params.toList, Try.prog.readableRec t = true ∧ t < Try.prog.types.size := by
    rw [Try.params6]
    intro t ht
    simp at ht
    rcases ht with rfl | rfl | rfl
    all_goals exact ⟨by kernel_rfl, of_decide_eq_true (by kernel_rfl)⟩
  rw [Try.params6] at hA hval
  obtain ⟨v0, vs0, d0, ds0, p0, q0, hargs, rfl, rfl, h0, r0⟩ := trodAll_cons hA
  obtain ⟨v1, vs1, d1, ds1, p1, q1, rfl, rfl, rfl, h1, r1⟩ := trodAll_cons r0
  obtain ⟨v2, vs2, d2, ds2, p2, q2, rfl, rfl, rfl, h2, r2⟩ := trodAll_cons r1
  obtain ⟨rfl, rfl, rfl⟩ := trodAll_nil r2
  obtain rfl : args = #[v0, v1, v2] := by cases args; simp_all
  obtain ⟨rfl, rfl⟩ := trodVars_none hV
  simp only [List.append_nil, Rows.uptoBulkAll] at hz
  obtain ⟨t0, rfl, z0⟩ := text_open (hval 0 9 v0 rfl rfl) h0
  obtain ⟨b1, rfl⟩ := okWide_bool Try.underlying4 (hval 1 4 v1 rfl rfl)
  obtain ⟨a2, c2, l2, rfl, s2, z2⟩ := strs_open (hval 2 22 v2 rfl rfl) h2 (fun x hx => hW'.lt x (by simp [hx])) (by omega)
  refine (law_values t0 b1 l2 a2 c2 W (by omega) ⟨s2, sl_lt (hval 2 22 _ rfl rfl), fun s hs => tbk_sz hs (by omega)⟩ ⟨hm, maxL_lt hm⟩ (by have := tbk_len l2; omega)).mono fun e W' ⟨he, hb⟩ => ?_
  exact ⟨_, he, law_post (by kernel_rfl) rfl hread rfl rfl rfl hW2 hb⟩

theorem holds : Rows.ArgsValuesUptoSaid :=
  OpenClaim.holds_of_cond 6 Try.f6 rfl rfl rfl rfl rfl rfl rfl ⟨rfl, rfl, rfl, rfl, rfl⟩ rfl rfl rfl rfl rfl (by kernel_rfl) Try.func6 (by kernel_rfl)
    (of_decide_eq_true (by kernel_rfl)) (by unfold Func.isWrapper; first | (rw [if_pos (by decide +kernel)]; kernel_rfl) | (rw [if_neg (by decide +kernel)]; exact ⟨rfl, rfl⟩))
    (fun os started H enc _ F => lifted os started H enc F)
end Go.Proofs.Ytklcfjakhabbgaa.argsValues

namespace Go.Proofs.Ytklcfjakhabbgaa
theorem argsValues_holds : Rows.ArgsValuesUptoSaid := argsValues.holds
end Go.Proofs.Ytklcfjakhabbgaa
