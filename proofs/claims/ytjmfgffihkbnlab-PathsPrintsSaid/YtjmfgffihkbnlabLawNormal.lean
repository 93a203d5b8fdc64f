/- PathsNormal answers true for every path and every text: the walk of the law over its callees' contracts. -/
import Derived.Test.YtjmfgffihkbnlabRefNormal
import Derived.Test.YtjmfgffihkbnlabSame
namespace Go.Proofs.Ytjmfgffihkbnlab
open Go.RowKit

theorem names_strs {w : World} {base : Nat} {e : TypeId} {v : Value} {l : List ByteArray} (h : w.ownsRow base e 1 v l.length (l.map Value.string)) (hn : l.all Pl.nameB = true ∧ l.length ≤ 1024) :
    ∃ a cap, v = .slice a l.length cap ∧ Strs w a cap l := own_strs h (by omega) (names_size hn.1)

set_option maxHeartbeats 1000000 in
theorem lawNormal_any (ap : Option Addr) (cp : Nat) (l : List ByteArray) (s : ByteArray) (w : World) (hp : Strs w ap cp l) (hs : s.size ≤ 140737488351232) :
    Calls Try.prog 3 #[.slice ap l.length cp, .string s] w fun e w' => e = .returned (.bool true) ∧ Below w.heap.size w w' := by
  have lp := hp.len
  have hB : Below w.heap.size w w := Below.refl _ _
  have nm := Pl.normal_names l s
  obtain ⟨P, D, C, hN⟩ : ∃ P D C, Pl.normalP l s = (P, D, C) := ⟨_, _, _, rfl⟩
  have HN : Hid (Pl.normalP l s = (P, D, C)) := hN
  rw [hN] at nm
  have NM : Hid (P.all Pl.nameB = true ∧ P.length ≤ 1024) := nm
  have HE : Hid (Pl.sameP P P = true) := (Pl.same_iff P P).2 rfl
  have HE2 : Hid (Pl.sameP l l = true) := (Pl.same_iff l l).2 rfl
  have lP := nm.2
  clear hN nm
  go_enter Try.func3, Try.ntmps3
  go_wp2_with fail
  refine (copy_any _ _ l _ hp).mono ?_
  rintro e w1 ⟨v1, rfl, hown, hb⟩
  obtain ⟨a1, c1, rfl, s1⟩ := own_strs hown lp hp.mem
  replace hp := hp.below hb; replace hB := hB.trans (hb.mono hB.size); clear hb hown
  go_wp2_with fail
  refine (normal_any _ _ l s _ s1 (by omega)).mono ?_
  rw [HN.out]
  rintro e w2 ⟨v2, rfl, hown, hb⟩
  obtain ⟨a2, c2, rfl, s2⟩ := names_strs hown NM.out
  replace hp := hp.below hb; replace s1 := s1.below hb; replace hB := hB.trans (hb.mono hB.size); clear hb hown
  go_wp2_with fail
  refine (rnormal_any _ _ l s _ hp (by omega)).mono ?_
  rw [HN.out]
  rintro e w3 ⟨v3, rfl, hown, hb⟩
  obtain ⟨a3, c3, rfl, s3⟩ := names_strs hown NM.out
  replace hp := hp.below hb; replace s1 := s1.below hb; replace s2 := s2.below hb; replace hB := hB.trans (hb.mono hB.size); clear hb hown
  go_wp2_with fail
  refine (same_b _ _ _ _ P P _ s2 s3).mono ?_
  rw [HE.out]
  rintro e w4 ⟨rfl, hb⟩
  replace hp := hp.below hb; replace s1 := s1.below hb; replace hB := hB.trans (hb.mono hB.size); clear hb
  go_wp2_with fail
  refine (same_b _ _ _ _ l l _ s1 hp).mono ?_
  rw [HE2.out]
  rintro e w5 ⟨rfl, hb⟩
  replace hB := hB.trans (hb.mono hB.size); clear hb
  go_wp2_with fail
  go_ret
  exact ⟨rfl, hB⟩
end Go.Proofs.Ytjmfgffihkbnlab
