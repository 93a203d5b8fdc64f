/- What the reference's code does with any right tree; what its Compile answers. -/
import Derived.Test.YtjiglgfnmgcmjaaDoorNfRRepA
import Derived.Test.YtjiglgfnmgcmjaaDoorNfRRepB
import Derived.Test.YtjiglgfnmgcmjaaDoorNfRCd
import Derived.Test.YtjiglgfnmgcmjaaDoorNfRSize
import Derived.Test.YtjiglgfnmgcmjaaDoorNfLays
namespace Go.Proofs.YtjiglgfnmgcmjaaDoor
open Go Go.RowKit

set_option maxRecDepth 100000 in
set_option maxHeartbeats 4000000 in
theorem rcode_rep (T : Nt.NT) (hk : T.k = 5) (HP : Nt.RepC T) : Nt.RayC T := by
  intro a cap lb L gr sl v f w h hN hr hf
  have hlt := h.lt
  have N0 := Nt.node_new w T a cap
  have hB0 : Below w.heap.size w (w.alloc (.cells (Nt.ndA T a cap) 28)) := (Below.refl w.heap.size w).alloc (Nat.le_refl _) _
  have hs0 : (w.alloc (.cells (Nt.ndA T a cap) 28)).heap.size = w.heap.size + 1 := by simp
  obtain ⟨W, hW⟩ : ∃ W, W = w.alloc (.cells (Nt.ndA T a cap) 28) := ⟨_, rfl⟩
  rw [← hW] at N0 hB0 hs0
  have HR0 : Hid _ := h.under hB0
  have HZ0 : Hid _ := Nt.Rz.of_below (lb := lb) v hB0
  have HD0 : Hid _ := hN.under (hB0.mono (Nat.le_of_lt hlt))
  have HN0 : Hid _ := N0
  have Ho : Hid _ := h.own
  have Hr : Hid _ := hr
  have Hf : Hid _ := hf
  have d2 : ((T.k : Int) == 2) = false := by simp; omega
  have d8 : ((T.k : Int) == 8) = false := by simp; omega
  have d9 : ((T.k : Int) == 9) = false := by simp; omega
  have d7 : ((T.k : Int) == 7) = false := by simp; omega
  have d3 : ((T.k : Int) == 3) = false := by simp; omega
  have d6 : ((T.k : Int) == 6) = false := by simp; omega
  have d4 : ((T.k : Int) == 4) = false := by simp; omega
  have d5 : ((T.k : Int) == 5) = true := by simp; omega
  have HC : Hid _ := HP a cap lb L gr sl v f W HR0.out HD0.out hr hf
  simp only [Nt.ndV, Nt.ndA] at hW HC ⊢
  clear N0 hB0 hN h hr hf hk HP
  go_enter Tryd.func39, Tryd.ntmps39
  go_wp2_with fail
  rw [← hW]
  clear hW
  refine Calls.mono HC.out ?_
  rintro e w1 ⟨⟨u, rfl⟩, v1, R1, Z1⟩
  go_wp2_with fail
  go_end0
  exact ⟨⟨_, rfl⟩, v1, R1, HZ0.out.trans Z1⟩
theorem rcode_any (T : Nt.NT) : ∀ nx nx' op, 1 ≤ nx → Nt.numP T nx op = some nx' → Nt.RayC T := by
  induction T using Nt.NT.ind with
  | h T ih =>
    intro nx nx' op h1 h
    obtain ⟨hfit, hkid⟩ := Nt.num_kids h1 h
    have HK : ∀ i (h : i < T.kids.length), Nt.RayC (T.kids[i]) := fun i hi => by
      obtain ⟨n, n', o, a1, a2⟩ := hkid _ (List.getElem_mem hi)
      exact ih i hi n n' o a1 a2
    obtain ⟨k1, k9⟩ := Nt.fit_kind hfit
    by_cases e1 : T.k = 1
    · exact rcode_empty T e1 hfit
    by_cases e2 : T.k = 2
    · exact rcode_set T e2
    by_cases e3 : T.k = 3
    · exact rcode_cat T e3 HK
    by_cases e4 : T.k = 4
    · exact rcode_alt T e4 (Nt.fit_four hfit e4) HK
    by_cases e5 : T.k = 5
    · obtain ⟨hb, hl⟩ := Nt.fit_five hfit e5
      have h0 : 0 < T.kids.length := by omega
      have hrr := Nt.rnd_ref h1 h e5 hl h0
      refine rcode_rep T e5 ?_
      obtain ⟨m, hm, hm5, hx | ⟨n, hx, hn5⟩⟩ := Nt.bnd_of hb
      · exact rrep_star T e5 m hm hm5 hx hl h0 hrr (HK 0 h0)
      · exact rrep_many T e5 m hm hm5 n hn5 hx hl h0 hrr (HK 0 h0)
    by_cases e6 : T.k = 6
    · exact rcode_group T e6 (Nt.fit_six hfit e6) HK
    by_cases e7 : T.k = 7
    · exact rcode_back T e7
    by_cases e8 : T.k = 8
    · exact rcode_begin T e8
    · exact rcode_end T (by omega)
end Go.Proofs.YtjiglgfnmgcmjaaDoor
