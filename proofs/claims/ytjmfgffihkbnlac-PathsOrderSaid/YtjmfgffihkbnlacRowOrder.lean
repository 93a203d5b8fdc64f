/- For every three paths the law PathsOrder returns true and leaves its arguments as they were: lying within is an order, and Compare is a whole order that has prefixes ahead. No condition beyond the form's own reach. -/
import Derived.Test.YtjmfgffihkbnlacLawOrder
import Derived.Test.YtjmfgffihkbnlacRowk
namespace Go.Proofs.Ytjmfgffihkbnlac.pathsOrder
open Go.ChangeShapes Go.WideShapes Go.ChangeAt Go.RowKit

set_option maxRecDepth 100000 in
theorem lifted (os : Os) (started : os.Started) (H : Type) (enc : TypeId × Value → H) :
    ReturnsInHanded {} Try.checked os 8 .any (Rows.pathsOrderSpec.pre6 enc Try.prog Try.f8 Rows.pathsOrderRow.domain false) (Rows.pathsOrderSpec.post enc Try.prog Try.f8 false true false false) := by
  refine returnsInHanded_of_change_sized (C := Try.checked) Try.own started (by kernel_rfl) Try.func8
    (ChangeSpec.witness6 (enc := enc) (C := Try.checked) false ⟨#[], #[.slice none 0 0, .slice none 0 0, .slice none 0 0], []⟩ 8 (by kernel_rfl) (by kernel_rfl) (by kernel_rfl) (by kernel_rfl)) ?_
  intro W base args ds gs before hval0 hW _ hsz0 _
  have hsz : (DataW.weightsEach Try.prog (Try.f8.params.toList ++ Rows.pathsOrderSpec.plain.varTypes Try.prog) (ds ++ gs)).all (· ≤ reachBytes) = true := hsz0
  clear hsz0
  have hval : ∀ (j : Nat) t v, Try.f8.params[j]? = some t → args[j]? = some v → Value.okWide Try.prog W .any base t v := hval0
  have hW' := hW
  obtain ⟨p, q, hA0, hV, rfl, _, _⟩ := hW
  have hA : DataW.TrodAll enc Try.prog W 0 (fun _ => true) true Try.f8.params.toList args.toList ds p := hA0
  have hW2 : DataW.Whole enc Try.prog Try.f8.params.toList Rows.pathsOrderSpec.vars false W args.toList ds gs (p ++ q) := hW'
  have hread : ∀ t ∈ Try.f8.params.toList, Try.prog.readableRec t = true ∧ t < Try.prog.types.size := by
    rw [Try.params8]
    intro t ht
    simp at ht
    subst ht
    exact ⟨by kernel_rfl, of_decide_eq_true (by kernel_rfl)⟩
  rw [Try.params8] at hA hval hsz
  obtain ⟨v0, v1, v2, d0, d1, d2, p0, p1, p2, rfl, rfl, rfl, h0, h1, h2⟩ := trodAll_three hA
  obtain ⟨rfl, rfl⟩ := trodVars_none hV
  have hlt : ∀ x ∈ (p0 ++ (p1 ++ p2)) ++ [], x.block < W.heap.size := fun x hx => hW'.lt x (by simpa using hx)
  have hall : ∀ n ∈ DataW.weightsEach Try.prog [24, 24, 24] [d0, d1, d2], n ≤ reachBytes := fun n hn => by
    have h := List.all_eq_true.1 hsz n hn
    simpa using h
  simp only [DataW.weightsEach, List.mem_append] at hall
  obtain ⟨a0, c0, l0, rfl, s0⟩ := path_open (hval 0 24 v0 rfl rfl) h0 (fun x hx => hlt x (by simp [hx])) (fun n hn => hall n (.inl hn))
  obtain ⟨a1, c1, l1, rfl, s1⟩ := path_open (hval 1 24 v1 rfl rfl) h1 (fun x hx => hlt x (by simp [hx])) (fun n hn => hall n (.inr (.inl hn)))
  obtain ⟨a2, c2, l2, rfl, s2⟩ := path_open (hval 2 24 v2 rfl rfl) h2 (fun x hx => hlt x (by simp [hx])) (fun n hn => hall n (.inr (.inr (.inl hn))))
  refine (order_any a0 a1 a2 c0 c1 c2 l0 l1 l2 W s0 s1 s2).mono fun e W' ⟨he, hb⟩ => ?_
  exact ⟨_, he, law_post (by kernel_rfl) rfl hread rfl rfl rfl hW2 hb⟩

theorem holds : Rows.PathsOrderSaid :=
  OpenClaim.holds_of_wide 8 Try.f8 rfl rfl rfl rfl rfl rfl rfl ⟨rfl, rfl, rfl, rfl, rfl⟩ rfl rfl rfl rfl rfl (by kernel_rfl) Try.func8 (by kernel_rfl)
    (of_decide_eq_true (by kernel_rfl)) (by unfold Func.isWrapper; first | (rw [if_pos (by decide +kernel)]; kernel_rfl) | (rw [if_neg (by decide +kernel)]; exact ⟨rfl, rfl⟩))
    (fun os started H enc _ => lifted os started H enc)
end Go.Proofs.Ytjmfgffihkbnlac.pathsOrder

namespace Go.Proofs.Ytjmfgffihkbnlac
theorem pathsOrder_holds : Rows.PathsOrderSaid := pathsOrder.holds
end Go.Proofs.Ytjmfgffihkbnlac
