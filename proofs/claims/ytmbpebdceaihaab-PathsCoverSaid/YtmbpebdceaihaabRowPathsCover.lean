/- For every list of paths and every path the law PathsCover returns true and leaves its arguments as they were: a cover covers just what the list does, is a cover of itself, and none of it lies within another one. No condition beyond the form's own reach. -/
import Derived.Test.YtmbpebdceaihaabLawCover
import Derived.Test.YtmbpebdceaihaabRowq
namespace Go.Proofs.Ytmbpebdceaihaab.pathsCover
open Go.ChangeShapes Go.WideShapes Go.ChangeAt Go.RowKit

set_option maxRecDepth 100000 in
theorem lifted (os : Os) (started : os.Started) (H : Type) (enc : TypeId × Value → H) :
    ReturnsInHanded {} Try.checked os 4 .any (Rows.pathsCoverSpec.pre6 enc Try.prog Try.f4 Rows.pathsCoverRow.domain false) (Rows.pathsCoverSpec.post enc Try.prog Try.f4 false true false false) := by
  refine returnsInHanded_of_change_sized (C := Try.checked) Try.own started (by kernel_rfl) Try.func4
    (ChangeSpec.witness6 (enc := enc) (C := Try.checked) false ⟨#[], #[.slice none 0 0, .slice none 0 0], []⟩ 8 (by kernel_rfl) (by kernel_rfl) (by kernel_rfl) (by kernel_rfl)) ?_
  intro W base args ds gs before hval0 hW _ hsz0 _
  have hsz : (DataW.weightsEach Try.prog (Try.f4.params.toList ++ Rows.pathsCoverSpec.plain.varTypes Try.prog) (ds ++ gs)).all (· ≤ reachBytes) = true := hsz0
  clear hsz0
  have hval : ∀ (j : Nat) t v, Try.f4.params[j]? = some t → args[j]? = some v → Value.okWide Try.prog W .any base t v := hval0
  have hW' := hW
  obtain ⟨p, q, hA0, hV, rfl, _, _⟩ := hW
  have hA : DataW.TrodAll enc Try.prog W 0 (fun _ => true) true Try.f4.params.toList args.toList ds p := hA0
  have hW2 : DataW.Whole enc Try.prog Try.f4.params.toList Rows.pathsCoverSpec.vars false W args.toList ds gs (p ++ q) := hW'
  have hread : ∀ t ∈ Try.f4.params.toList, Try.prog.readableRec t = true ∧ t < Try.prog.types.size := by
    rw [Try.params4]
    intro t ht
    simp at ht
    rcases ht with rfl | rfl
    all_goals exact ⟨by kernel_rfl, of_decide_eq_true (by kernel_rfl)⟩
  rw [Try.params4] at hA hval hsz
  obtain ⟨v0, vs0, d0, ds0, p0, q0, hargs, rfl, rfl, h0, r0⟩ := trodAll_cons hA
  obtain ⟨v1, vs1, d1, ds1, p1, q1, rfl, rfl, rfl, h1, r1⟩ := trodAll_cons r0
  obtain ⟨rfl, rfl, rfl⟩ := trodAll_nil r1
  obtain rfl : args = #[v0, v1] := by cases args; simp_all
  obtain ⟨rfl, rfl⟩ := trodVars_none hV
  have hlt : ∀ x ∈ (p0 ++ (p1 ++ [])) ++ [], x.block < W.heap.size := fun x hx => hW'.lt x (by simpa using hx)
  have hall : ∀ n ∈ DataW.weightsEach Try.prog [22, 24] [d0, d1], n ≤ reachBytes := fun n hn => by
    have h := List.all_eq_true.1 hsz n hn
    simpa using h
  simp only [DataW.weightsEach, List.mem_append] at hall
  obtain ⟨a0, c0, l0, rfl, s0⟩ := paths_open (hval 0 22 v0 rfl rfl) h0 (fun x hx => hlt x (by simp [hx])) (fun n hn => hall n (.inl hn))
  obtain ⟨a1, c1, l1, rfl, s1⟩ := path_open (hval 1 24 v1 rfl rfl) h1 (fun x hx => hlt x (by simp [hx])) (fun n hn => hall n (.inr (.inl hn)))
  refine (lawCover_any a0 a1 c0 c1 l0 l1 W s0 s1).mono fun e W' ⟨he, hb⟩ => ?_
  exact ⟨_, he, law_post (by kernel_rfl) rfl hread rfl rfl rfl hW2 hb⟩

theorem holds : Rows.PathsCoverSaid :=
  OpenClaim.holds_of_wide 4 Try.f4 rfl rfl rfl rfl rfl rfl rfl ⟨rfl, rfl, rfl, rfl, rfl⟩ rfl rfl rfl rfl rfl (by kernel_rfl) Try.func4 (by kernel_rfl)
    (of_decide_eq_true (by kernel_rfl)) (by unfold Func.isWrapper; first | (rw [if_pos (by decide +kernel)]; kernel_rfl) | (rw [if_neg (by decide +kernel)]; exact ⟨rfl, rfl⟩))
    (fun os started H enc _ => lifted os started H enc)
end Go.Proofs.Ytmbpebdceaihaab.pathsCover

namespace Go.Proofs.Ytmbpebdceaihaab
theorem pathsCover_holds : Rows.PathsCoverSaid := pathsCover.holds
end Go.Proofs.Ytmbpebdceaihaab
