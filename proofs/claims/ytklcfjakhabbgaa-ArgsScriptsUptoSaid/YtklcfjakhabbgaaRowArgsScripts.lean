/- ArgsScripts holds: the script that pieces make, and the error, are the document's. -/
import Derived.Test.YtklcfjakhabbgaaLawArS
import Derived.Test.YtklcfjakhabbgaaRowau
namespace Go.Proofs.Ytklcfjakhabbgaa.argsScripts
open Go.ChangeShapes Go.WideShapes Go.ChangeAt Go.RowKit

set_option maxRecDepth 100000 in
theorem lifted (os : Os) (started : os.Started) (H : Type) (enc : TypeId × Value → H) (F : Stop.Interp) :
    ReturnsInHanded {} Try.checked os 5 .any ((Rows.OpenSpec.upto Rows.argsScriptsSpec).pre6 enc Try.prog Try.f5 Rows.argsScriptsUptoRow.domain false) (((Rows.OpenSpec.upto Rows.argsScriptsSpec).at F).post enc Try.prog Try.f5 false true false false) := by
  refine handed_upto (c := Rows.argsScriptsSpec) started (by kernel_rfl) Try.func5
    (OpenSpec.witness (enc := enc) (C := Try.checked) (s := Rows.OpenSpec.upto Rows.argsScriptsSpec) (k := Rows.uptoSmall) rfl false ⟨#[], #[.slice none 0 0, .slice none 0 0], []⟩ 8 (by kernel_rfl) (by kernel_rfl) (by kernel_rfl)
      (x := ([.nil, .nil], [], [])) (by kernel_rfl) rfl (by kernel_rfl)) ?_
  intro W base args ds gs before hval0 hW hz hm
  have hval : ∀ (j : Nat) t v, Try.f5.params[j]? = some t → args[j]? = some v → Value.okWide Try.prog W .any base t v := hval0
  have hW' := hW
  obtain ⟨p, q, hA0, hV, rfl, _, _⟩ := hW
  have hA : DataW.TrodAll enc Try.prog W 0 (fun _ => true) true Try.f5.params.toList args.toList ds p := hA0
  have hW2 : DataW.Whole enc Try.prog Try.f5.params.toList ((Rows.OpenSpec.upto Rows.argsScriptsSpec).at F).vars false W args.toList ds gs (p ++ q) := hW'
  have hread : ∀ t ∈ Try.f5.params.toList, Try.prog.readableRec t = true ∧ t < Try.prog.types.size := by
    rw [Try.params5]
    intro t ht
    simp at ht
    rcases ht with rfl | rfl
    all_goals exact ⟨by kernel_rfl, of_decide_eq_true (by kernel_rfl)⟩
  rw [Try.params5] at hA hval
  obtain ⟨v0, vs0, d0, ds0, p0, q0, hargs, rfl, rfl, h0, r0⟩ := trodAll_cons hA
  obtain ⟨v1, vs1, d1, ds1, p1, q1, rfl, rfl, rfl, h1, r1⟩ := trodAll_cons r0
  obtain ⟨rfl, rfl, rfl⟩ := trodAll_nil r1
  obtain rfl : args = #[v0, v1] := by cases args; simp_all
  obtain ⟨rfl, rfl⟩ := trodVars_none hV
  simp only [List.append_nil, Rows.uptoBulkAll] at hz
  obtain ⟨a0, c0, l0, rfl, s0, z0⟩ := pcs_open (hval 0 26 v0 rfl rfl) h0 (fun x hx => hW'.lt x (by simp [hx])) (by omega)
  obtain ⟨a1, c1, l1, rfl, s1, z1⟩ := strs_open (hval 1 22 v1 rfl rfl) h1 (fun x hx => hW'.lt x (by simp [hx])) (by omega)
  refine (law_scripts l0 a0 c0 l1 a1 c1 W s0 s1 (fun ad e _ => sl_lt (hval 1 22 _ rfl rfl) ad e) (by show pbk l0 + tbk l1 ≤ _; omega) (by have := pbk_len l0; omega) ⟨hm, maxL_lt hm⟩).mono fun e W' ⟨he, hb⟩ => ?_
  exact ⟨_, he, law_post (by kernel_rfl) rfl hread rfl rfl rfl hW2 hb⟩

theorem holds : Rows.ArgsScriptsUptoSaid :=
  OpenClaim.holds_of_cond 5 Try.f5 rfl rfl rfl rfl rfl rfl rfl ⟨rfl, rfl, rfl, rfl, rfl⟩ rfl rfl rfl rfl rfl (by kernel_rfl) Try.func5 (by kernel_rfl)
    (of_decide_eq_true (by kernel_rfl)) (by unfold Func.isWrapper; first | (rw [if_pos (by decide +kernel)]; kernel_rfl) | (rw [if_neg (by decide +kernel)]; exact ⟨rfl, rfl⟩))
    (fun os started H enc _ F => lifted os started H enc F)
end Go.Proofs.Ytklcfjakhabbgaa.argsScripts

namespace Go.Proofs.Ytklcfjakhabbgaa
theorem argsScripts_holds : Rows.ArgsScriptsUptoSaid := argsScripts.holds
end Go.Proofs.Ytklcfjakhabbgaa
