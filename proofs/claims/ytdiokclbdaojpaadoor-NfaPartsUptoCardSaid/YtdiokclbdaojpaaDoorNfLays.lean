/- What (*layout).lay does with any right tree. -/
import Derived.Test.YtdiokclbdaojpaaDoorNfRepB
import Derived.Test.YtdiokclbdaojpaaDoorNfRSz
import Derived.Test.YtdiokclbdaojpaaDoorNfLay
namespace Go.Proofs.YtdiokclbdaojpaaDoor
open Go.RowKit

namespace Nt
theorem fit_six {T : NT} (h : fitP T = true) (hk : T.k = 6) : T.kids.length = 1 := by
  rw [fitP, hk] at h
  simp only [Bool.and_eq_true] at h
  obtain ⟨_, _, _, _, _, h6⟩ := h
  simpa using h6
end Nt
theorem lay_any (T : Nt.NT) : ∀ nx nx' op, 1 ≤ nx → Nt.numP T nx op = some nx' → Nt.LayC 34 T := by
  induction T using Nt.NT.ind with
  | h T ih =>
    intro nx nx' op h1 h
    obtain ⟨hfit, hkid⟩ := Nt.num_kids h1 h
    have HK : ∀ i (h : i < T.kids.length), Nt.LayC 34 (T.kids[i]) := fun i hi => by
      obtain ⟨n, n', o, a1, a2⟩ := hkid _ (List.getElem_mem hi)
      exact ih i hi n n' o a1 a2
    have hmk : ∀ i (h : i < T.kids.length), Nt.msz (T.kids[i]) = min (Nt.sz (T.kids[i])) 16385 := fun i hi => by
      obtain ⟨n, n', o, a1, a2⟩ := hkid _ (List.getElem_mem hi)
      exact Nt.msz_is _ n n' o a1 a2
    have hms := Nt.msz_is T nx nx' op h1 h
    obtain ⟨k1, k9⟩ := Nt.fit_kind hfit
    by_cases e1 : T.k = 1
    · exact lay_k1 T e1 (lay_empty T e1 hfit)
    by_cases e2 : T.k = 2
    · exact lay_k2 T e2 (lay_set T e2)
    by_cases e3 : T.k = 3
    · exact lay_k3 T e3 (lay_cat T e3 HK)
    by_cases e4 : T.k = 4
    · exact lay_k4 T e4 (lay_alt T e4 (Nt.fit_four hfit e4) hms hmk HK)
    by_cases e5 : T.k = 5
    · refine lay_k5 T e5 ?_
      obtain ⟨hb, hl⟩ := Nt.fit_five hfit e5
      have hgg : decide (0 < Nt.ghi T) = decide (0 < Nt.grps.grpsL T.kids) := by
        have e : Nt.grps T = Nt.grps.grpsL T.kids := by rw [Nt.grps_eq, e5]; exact Nat.zero_add _
        exact (Nt.has_groups h1 h).1.trans (by rw [e])
      obtain ⟨m, hm, hm5, hx | ⟨n, hx, hn5⟩⟩ := Nt.bnd_of hb
      · exact lay_star T e5 m hm hm5 hx hl hms hgg HK
      · exact lay_many T e5 m hm hm5 n hn5 hx hl hms hgg HK
    by_cases e6 : T.k = 6
    · exact lay_k6 T e6 (lay_group T e6 (Nt.fit_six hfit e6) HK)
    by_cases e7 : T.k = 7
    · exact lay_k7 T e7 (lay_back T e7)
    by_cases e8 : T.k = 8
    · exact lay_k8 T e8 (lay_begin T e8)
    · exact lay_k9 T (by omega) (lay_end T (by omega))
end Go.Proofs.YtdiokclbdaojpaaDoor
