/- PathsCovers answers true for every list of paths and every two paths: the walk of the law over its callees' contracts. -/
import Derived.Test.YtmbpebdceaihaabCover
import Derived.Test.YtmbpebdceaihaabRefCover
import Derived.Test.YtmbpebdceaihaabBegins
namespace Go.Proofs.Ytmbpebdceaihaab
open Go.RowKit

set_option maxRecDepth 100000 in
set_option maxHeartbeats 4000000 in
theorem covers_any (al ap aq : Option Addr) (cl cp cq : Nat) (l : List (List ByteArray)) (p q : List ByteArray) (w : World) (hl : Pts w al cl l) (hp : Strs w ap cp p) (hq : Strs w aq cq q) :
    Calls Try.prog 3 #[.slice al l.length cl, .slice ap p.length cp, .slice aq q.length cq] w fun e w' => e = .returned (.bool true) ∧ Below w.heap.size w w' := by
  have ll := hl.len
  have lp := hp.len
  have lq := hq.len
  have hB : Below w.heap.size w w := Below.refl _ _
  go_enter Try.func3, Try.ntmps3
  go_wp2_with fail
  refine (copies_any _ _ l _ hl).mono ?_
  rintro e w1 ⟨v1, rfl, hpr, hb⟩
  obtain ⟨ag, cg, rfl, hg⟩ := hpr.pts ll
  replace hl := hl.below hb; replace hp := hp.below hb; replace hq := hq.below hb; replace hB := hB.trans (hb.mono hB.size); clear hb hpr
  go_wp2_with fail
  refine (within_b _ _ _ _ p q _ hp hq).mono ?_
  rintro e w2 ⟨rfl, hb⟩
  replace hl := hl.below hb; replace hg := hg.below hb; replace hp := hp.below hb; replace hq := hq.below hb; replace hB := hB.trans (hb.mono hB.size); clear hb
  go_wp2_with fail
  refine (rwithin_any _ _ _ _ p q _ hp hq).mono ?_
  rintro e w3 ⟨rfl, hb⟩
  replace hl := hl.below hb; replace hg := hg.below hb; replace hp := hp.below hb; replace hq := hq.below hb; replace hB := hB.trans (hb.mono hB.size); clear hb
  go_wp2_with fail
  refine (compare_any _ _ _ _ p q _ hp hq).mono ?_
  rintro e w' ⟨rfl, rfl⟩
  go_wp2_with fail
  refine (rcompare_any _ _ _ _ p q _ hp hq).mono ?_
  rintro e w4 ⟨rfl, hb⟩
  replace hl := hl.below hb; replace hg := hg.below hb; replace hp := hp.below hb; replace hB := hB.trans (hb.mono hB.size); clear hb
  go_wp2_with fail
  refine (cover_any _ _ l _ hg).mono ?_
  rintro e w5 ⟨c, v5, rfl, hc1, hcl, hpr5, hb⟩
  obtain ⟨a5, c5, rfl, s5⟩ := hpr5.pts (by omega)
  replace hl := hl.below hb; replace hg := hg.below hb; replace hp := hp.below hb; replace hB := hB.trans (hb.mono hB.size); clear hb hpr5
  go_wp2_with fail
  refine (rcover_any _ _ l _ hl).mono ?_
  rintro e w6 ⟨c', v6, rfl, hc2, hcl', hpr6, hb⟩
  obtain rfl := hc1.unique hc2
  obtain ⟨a6, c6, rfl, s6⟩ := hpr6.pts (by omega)
  replace hl := hl.below hb; replace hg := hg.below hb; replace hp := hp.below hb; replace s5 := s5.below hb; replace hB := hB.trans (hb.mono hB.size); clear hb hpr6 hc1 hc2
  go_wp2_with fail
  refine (alike_self _ _ _ _ c _ s5 s6).mono ?_
  rintro e w7 ⟨rfl, hb⟩
  replace hl := hl.below hb; replace hg := hg.below hb; replace hp := hp.below hb; replace hB := hB.trans (hb.mono hB.size); clear hb s5 s6
  go_wp2_with fail
  refine (inside_any _ _ _ _ l p _ hg hp).mono ?_
  rintro e w8 ⟨rfl, hb⟩
  replace hl := hl.below hb; replace hg := hg.below hb; replace hp := hp.below hb; replace hB := hB.trans (hb.mono hB.size); clear hb
  go_wp2_with fail
  refine (rinside_any _ _ _ _ l p _ hl hp).mono ?_
  rintro e w9 ⟨rfl, hb⟩
  replace hl := hl.below hb; replace hg := hg.below hb; replace hB := hB.trans (hb.mono hB.size); clear hb
  go_wp2_with fail
  refine (alike_self _ _ _ _ l _ hg hl).mono ?_
  rintro e w10 ⟨rfl, hb⟩
  replace hB := hB.trans (hb.mono hB.size); clear hb
  go_wp2_with fail
  refine (begins_any _).mono ?_
  rintro e w11 ⟨rfl, hb⟩
  replace hB := hB.trans (hb.mono hB.size); clear hb
  go_wp2_with fail
  go_ret
  exact ⟨rfl, hB⟩
end Go.Proofs.Ytmbpebdceaihaab
