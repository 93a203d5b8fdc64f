/- SetsMade holds of every slice of bytes, every set, every two bytes and every text: Of, Bytes, Has, Count, Range and Class of sets answer what the document's own answer. -/
import Derived.Test.YtmlpfgfpmbnbeaaLawSMade
import Derived.Test.YtmlpfgfpmbnbeaaRows6
namespace Go.Proofs.Ytmlpfgfpmbnbeaa.setsMade
open Go.ChangeShapes Go.WideShapes Go.ChangeAt Go.RowKit

set_option maxRecDepth 100000 in
theorem lifted (os : Os) (started : os.Started) (H : Type) (enc : TypeId × Value → H) :
    ReturnsInHanded {} Try.checked os 3 .any (Rows.setsMadeSpec.pre6 enc Try.prog Try.f3 Rows.setsMadeRow.domain false) (Rows.setsMadeSpec.post enc Try.prog Try.f3 false true false false) := by
  refine returnsInHanded_of_change_sized (C := Try.checked) Try.own started (by kernel_rfl) Try.func3
    (ChangeSpec.witness6 (enc := enc) (C := Try.checked) false ⟨#[], #[.slice none 0 0, .agg #[.int .u64 0, .int .u64 0, .int .u64 0, .int .u64 0], .int .u8 0, .int .u8 0, .string ⟨#[]⟩], []⟩ 8 (by kernel_rfl) (by kernel_rfl) (by kernel_rfl) (by kernel_rfl)) ?_
  intro W base args ds gs before hval0 hW _ hsz0 _
  have hsz : (DataW.weightsEach Try.prog (Try.f3.params.toList ++ Rows.setsMadeSpec.plain.varTypes Try.prog) (ds ++ gs)).all (· ≤ reachBytes) = true := hsz0
  clear hsz0
  have hval : ∀ (j : Nat) t v, Try.f3.params[j]? = some t → args[j]? = some v → Value.okWide Try.prog W .any base t v := hval0
  have hW' := hW
  obtain ⟨p, q, hA0, hV, rfl, _, _⟩ := hW
  have hA : DataW.TrodAll enc Try.prog W 0 (fun _ => true) true Try.f3.params.toList args.toList ds p := hA0
  have hW2 : DataW.Whole enc Try.prog Try.f3.params.toList Rows.setsMadeSpec.vars false W args.toList ds gs (p ++ q) := hW'
  have hread : ∀ t ∈ Try.f3.params.toList, Try.prog.readableRec t = true ∧ t < Try.prog.types.size := by
    rw [Try.params3]
    intro t ht
    simp at ht
    rcases ht with rfl | rfl | rfl | rfl | rfl
    all_goals exact ⟨by kernel_rfl, of_decide_eq_true (by kernel_rfl)⟩
  rw [Try.params3] at hA hval hsz
  obtain ⟨v0, vs0, d0, ds0, p0, q0, hargs, rfl, rfl, h0, r0⟩ := trodAll_cons hA
  obtain ⟨v1, vs1, d1, ds1, p1, q1, rfl, rfl, rfl, h1, r1⟩ := trodAll_cons r0
  obtain ⟨v2, vs2, d2, ds2, p2, q2, rfl, rfl, rfl, h2, r2⟩ := trodAll_cons r1
  obtain ⟨v3, vs3, d3, ds3, p3, q3, rfl, rfl, rfl, h3, r3⟩ := trodAll_cons r2
  obtain ⟨v4, vs4, d4, ds4, p4, q4, rfl, rfl, rfl, h4, r4⟩ := trodAll_cons r3
  obtain ⟨rfl, rfl, rfl⟩ := trodAll_nil r4
  obtain rfl : args = #[v0, v1, v2, v3, v4] := by cases args; simp_all
  obtain ⟨rfl, rfl⟩ := trodVars_none hV
  have hlt : ∀ x ∈ (p0 ++ (p1 ++ (p2 ++ (p3 ++ (p4 ++ []))))) ++ [], x.block < W.heap.size := fun x hx => hW'.lt x (by simpa using hx)
  have hall : ∀ n ∈ DataW.weightsEach Try.prog [22, 25, 5, 5, 9] [d0, d1, d2, d3, d4], n ≤ reachBytes := fun n hn => by
    have h := List.all_eq_true.1 hsz n hn
    simpa using h
  simp only [DataW.weightsEach, List.mem_append] at hall
  obtain ⟨a0, c0, l0, rfl, s0⟩ := bytes_open (hval 0 22 v0 rfl rfl) h0 (fun x hx => hlt x (by simp [hx])) (fun n hn => hall n (.inl hn))
  obtain ⟨s1, rfl⟩ := set_open (hval 1 25 v1 rfl rfl)
  obtain ⟨n2, k2, rfl⟩ := byte_open (hval 2 5 v2 rfl rfl)
  obtain ⟨n3, k3, rfl⟩ := byte_open (hval 3 5 v3 rfl rfl)
  obtain ⟨t4, rfl, b4⟩ := text_open (hval 4 9 v4 rfl rfl) h4 (fun n hn => hall n (.inr (.inr (.inr (.inr (.inl hn))))))
  refine (made_law a0 c0 l0 s1 n2 n3 t4 W s0 k2 k3 (Nat.le_trans b4 (by decide))).mono fun e W' ⟨he, hb⟩ => ?_
  exact ⟨_, he, law_post (by kernel_rfl) rfl hread rfl rfl rfl hW2 hb⟩

theorem holds : Rows.SetsMadeSaid :=
  OpenClaim.holds_of_wide 3 Try.f3 rfl rfl rfl rfl rfl rfl rfl ⟨rfl, rfl, rfl, rfl, rfl⟩ rfl rfl rfl rfl rfl (by kernel_rfl) Try.func3 (by kernel_rfl)
    (of_decide_eq_true (by kernel_rfl)) (by unfold Func.isWrapper; first | (rw [if_pos (by decide +kernel)]; kernel_rfl) | (rw [if_neg (by decide +kernel)]; exact ⟨rfl, rfl⟩))
    (fun os started H enc _ => lifted os started H enc)
end Go.Proofs.Ytmlpfgfpmbnbeaa.setsMade

namespace Go.Proofs.Ytmlpfgfpmbnbeaa
theorem setsMade_holds : Rows.SetsMadeSaid := setsMade.holds
end Go.Proofs.Ytmlpfgfpmbnbeaa
