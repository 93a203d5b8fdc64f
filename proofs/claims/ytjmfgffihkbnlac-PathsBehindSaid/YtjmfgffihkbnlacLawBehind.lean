/- PathsBehind answers true for every path and every two texts: the walk of the law over its callees' contracts. -/
import Derived.Test.YtjmfgffihkbnlacLawOnce
namespace Go.Proofs.Ytjmfgffihkbnlac
open Go.RowKit

theorem behind_eq (s t : ByteArray) : s ++ ⟨#[47]⟩ ++ t = Pl.behind s t := rfl

set_option maxHeartbeats 1000000 in
theorem behind_any (ap : Option Addr) (cp : Nat) (l : List ByteArray) (s t : ByteArray) (w : World) (hp : Strs w ap cp l) (hs : s.size ≤ 140737488351232) (ht : t.size ≤ 140737488351232) :
    Calls Try.prog 5 #[.slice ap l.length cp, .string s, .string t] w fun e w' => e = .returned (.bool true) ∧ Below w.heap.size w w' := by
  have lp := hp.len
  have hB : Below w.heap.size w w := Below.refl _ _
  have nm := Pl.normal_names l s
  obtain ⟨P, D, C, hN⟩ : ∃ P D C, Pl.normalP l s = (P, D, C) := ⟨_, _, _, rfl⟩
  have HN : Hid (Pl.normalP l s = (P, D, C)) := hN
  rw [hN] at nm
  have NM : Hid (P.all Pl.nameB = true ∧ P.length ≤ 1024) := nm
  by_cases hC : C = 0
  · subst hC
    by_cases h1 : t.toList = []
    · clear hN nm
      go_enter Try.func5, Try.ntmps5
      go_wp2_with fail
      refine (begins_any _).mono ?_
      rintro e w1 ⟨rfl, hb⟩
      replace hp := hp.below hb; replace hB := hB.trans (hb.mono hB.size); clear hb
      go_wp2_with fail
      refine (normal_any _ _ l s _ hp (by omega)).mono ?_
      rw [HN.out]
      rintro e w2 ⟨v2, rfl, hown, hb⟩
      replace hB := hB.trans (hb.mono hB.size); clear hb hown
      go_wp2_with fail
      go_ret
      exact ⟨rfl, hB⟩
    have b1 : t.toList.isEmpty = false := by simpa using h1
    have t0 := Pl.size_pos h1
    cases h2 : ((t[0].toNat : Int) == 47)
    · have hz : (Pl.normalP l s).2.2 = 0 := by rw [hN]
      have hh : ¬ t.data.toList.head? = some 47 := by
        rw [Pl.head_byte t0]
        intro e
        have := Option.some.inj e
        rw [this] at h2
        simp at h2
      have nt := Pl.normal_names P t
      have nb := Pl.normal_names l (Pl.behind s t)
      have F1 := @Pl.normal_behind l s t hz h1 hh
      have F2 := @Pl.normal_behind_far l s t hz
      have F3 := @Pl.normal_code l (Pl.behind s t)
      rw [hN] at F1
      obtain ⟨Q, E, G, hQ⟩ : ∃ Q E G, Pl.normalP P t = (Q, E, G) := ⟨_, _, _, rfl⟩
      obtain ⟨R, F, K, hR⟩ : ∃ R F K, Pl.normalP l (Pl.behind s t) = (R, F, K) := ⟨_, _, _, rfl⟩
      rw [hQ] at nt F1
      rw [hR] at nb F1 F2 F3
      have NT : Hid (Q.all Pl.nameB = true ∧ Q.length ≤ 1024) := nt
      have NB : Hid (R.all Pl.nameB = true ∧ R.length ≤ 1024) := nb
      have HQ : Hid (Pl.normalP P t = (Q, E, G)) := hQ
      have HR : Hid (Pl.normalP l (Pl.behind s t) = (R, F, K)) := hR
      have hbs : (Pl.behind s t).size ≤ 4611686018427387904 := by rw [Pl.behind_size]; omega
      have a1 : s.size + (⟨#[47]⟩ : ByteArray).size ≤ 9223372036854775807 := by show s.size + 1 ≤ _; omega
      have a2 : (s ++ ⟨#[47]⟩ : ByteArray).size + t.size ≤ 9223372036854775807 := by rw [ByteArray.size_append]; show s.size + 1 + t.size ≤ _; omega
      have hlq := nt.2
      have hlr := nb.2
      clear hN nm nt nb hQ hR hz hh h1
      by_cases hlen : s.size + 1 + t.size ≤ 1024
      · have e1 := F1 hlen
        simp only [Prod.mk.injEq] at e1
        obtain ⟨rfl, rfl, rfl⟩ := e1
        have HE : Hid (Pl.sameP R R = true) := (Pl.same_iff R R).2 rfl
        clear F1 F2 F3
        by_cases hK : K = 0
        · subst hK
          go_enter Try.func5, Try.ntmps5
          go_wp2_with fail
          refine (begins_any _).mono ?_
          rintro e w1 ⟨rfl, hb⟩
          replace hp := hp.below hb; replace hB := hB.trans (hb.mono hB.size); clear hb
          go_wp2_with fail
          refine (normal_any _ _ l s _ hp (by omega)).mono ?_
          rw [HN.out]
          rintro e w2 ⟨v2, rfl, hown, hb⟩
          obtain ⟨a2, c2, rfl, s2⟩ := names_strs hown NM.out
          replace hp := hp.below hb; replace hB := hB.trans (hb.mono hB.size); clear hb hown
          go_wp2_with fail
          refine (normal_any _ _ P t _ s2 (by omega)).mono ?_
          rw [HQ.out]
          rintro e w3 ⟨v3, rfl, hown, hb⟩
          obtain ⟨a3, c3, rfl, s3⟩ := names_strs hown NT.out
          replace hp := hp.below hb; replace hB := hB.trans (hb.mono hB.size); clear hb hown s2
          go_wp2_with fail
          rw [behind_eq]
          refine (normal_any _ _ l (Pl.behind s t) _ hp hbs).mono ?_
          rw [HR.out]
          rintro e w4 ⟨v4, rfl, hown, hb⟩
          obtain ⟨a4, c4, rfl, s4⟩ := names_strs hown NB.out
          replace s3 := s3.below hb; replace hB := hB.trans (hb.mono hB.size); clear hb hown
          go_wp2_with fail
          refine (same_b _ _ _ _ R R _ s3 s4).mono ?_
          rw [HE.out]
          rintro e w5 ⟨rfl, hb⟩
          replace hB := hB.trans (hb.mono hB.size); clear hb
          go_wp2_with fail
          go_ret
          exact ⟨rfl, hB⟩
        · have hK1 : (K != 0) = true := by simpa using hK
          clear hK
          go_enter Try.func5, Try.ntmps5
          go_wp2_with fail
          refine (begins_any _).mono ?_
          rintro e w1 ⟨rfl, hb⟩
          replace hp := hp.below hb; replace hB := hB.trans (hb.mono hB.size); clear hb
          go_wp2_with fail
          refine (normal_any _ _ l s _ hp (by omega)).mono ?_
          rw [HN.out]
          rintro e w2 ⟨v2, rfl, hown, hb⟩
          obtain ⟨a2, c2, rfl, s2⟩ := names_strs hown NM.out
          replace hp := hp.below hb; replace hB := hB.trans (hb.mono hB.size); clear hb hown
          go_wp2_with fail
          refine (normal_any _ _ P t _ s2 (by omega)).mono ?_
          rw [HQ.out]
          rintro e w3 ⟨v3, rfl, hown, hb⟩
          obtain ⟨a3, c3, rfl, s3⟩ := names_strs hown NT.out
          replace hp := hp.below hb; replace hB := hB.trans (hb.mono hB.size); clear hb hown s2
          go_wp2_with fail
          rw [behind_eq]
          refine (normal_any _ _ l (Pl.behind s t) _ hp hbs).mono ?_
          rw [HR.out]
          rintro e w4 ⟨v4, rfl, hown, hb⟩
          obtain ⟨a4, c4, rfl, s4⟩ := names_strs hown NB.out
          replace s3 := s3.below hb; replace hB := hB.trans (hb.mono hB.size); clear hb hown
          go_wp2_with fail
          go_ret
          exact ⟨rfl, hB⟩
      · have e1 := F2 hlen
        simp only [Prod.mk.injEq] at e1
        obtain ⟨rfl, rfl, rfl⟩ := e1
        have hbig : (1024 : Int) < (s.size : Int) + 1 + (t.size : Int) := by omega
        clear F1 F2 F3
        by_cases hG : G = 0
        · subst hG
          go_enter Try.func5, Try.ntmps5
          go_wp2_with fail
          refine (begins_any _).mono ?_
          rintro e w1 ⟨rfl, hb⟩
          replace hp := hp.below hb; replace hB := hB.trans (hb.mono hB.size); clear hb
          go_wp2_with fail
          refine (normal_any _ _ l s _ hp (by omega)).mono ?_
          rw [HN.out]
          rintro e w2 ⟨v2, rfl, hown, hb⟩
          obtain ⟨a2, c2, rfl, s2⟩ := names_strs hown NM.out
          replace hp := hp.below hb; replace hB := hB.trans (hb.mono hB.size); clear hb hown
          go_wp2_with fail
          refine (normal_any _ _ P t _ s2 (by omega)).mono ?_
          rw [HQ.out]
          rintro e w3 ⟨v3, rfl, hown, hb⟩
          obtain ⟨a3, c3, rfl, s3⟩ := names_strs hown NT.out
          replace hp := hp.below hb; replace hB := hB.trans (hb.mono hB.size); clear hb hown s2
          go_wp2_with fail
          rw [behind_eq]
          refine (normal_any _ _ l (Pl.behind s t) _ hp hbs).mono ?_
          rw [HR.out]
          rintro e w4 ⟨v4, rfl, hown, hb⟩
          obtain ⟨a4, c4, rfl, s4⟩ := names_strs hown NB.out
          replace s3 := s3.below hb; replace hB := hB.trans (hb.mono hB.size); clear hb hown
          go_wp2_with fail
          go_ret
          exact ⟨rfl, hB⟩
        · have hK1 : (G != 0) = true := by simpa using hG
          clear hG
          go_enter Try.func5, Try.ntmps5
          go_wp2_with fail
          refine (begins_any _).mono ?_
          rintro e w1 ⟨rfl, hb⟩
          replace hp := hp.below hb; replace hB := hB.trans (hb.mono hB.size); clear hb
          go_wp2_with fail
          refine (normal_any _ _ l s _ hp (by omega)).mono ?_
          rw [HN.out]
          rintro e w2 ⟨v2, rfl, hown, hb⟩
          obtain ⟨a2, c2, rfl, s2⟩ := names_strs hown NM.out
          replace hp := hp.below hb; replace hB := hB.trans (hb.mono hB.size); clear hb hown
          go_wp2_with fail
          refine (normal_any _ _ P t _ s2 (by omega)).mono ?_
          rw [HQ.out]
          rintro e w3 ⟨v3, rfl, hown, hb⟩
          obtain ⟨a3, c3, rfl, s3⟩ := names_strs hown NT.out
          replace hp := hp.below hb; replace hB := hB.trans (hb.mono hB.size); clear hb hown s2
          go_wp2_with fail
          rw [behind_eq]
          refine (normal_any _ _ l (Pl.behind s t) _ hp hbs).mono ?_
          rw [HR.out]
          rintro e w4 ⟨v4, rfl, hown, hb⟩
          obtain ⟨a4, c4, rfl, s4⟩ := names_strs hown NB.out
          replace s3 := s3.below hb; replace hB := hB.trans (hb.mono hB.size); clear hb hown
          go_wp2_with fail
          go_ret
          exact ⟨rfl, hB⟩
    · clear hN nm h1
      go_enter Try.func5, Try.ntmps5
      go_wp2_with fail
      refine (begins_any _).mono ?_
      rintro e w1 ⟨rfl, hb⟩
      replace hp := hp.below hb; replace hB := hB.trans (hb.mono hB.size); clear hb
      go_wp2_with fail
      refine (normal_any _ _ l s _ hp (by omega)).mono ?_
      rw [HN.out]
      rintro e w2 ⟨v2, rfl, hown, hb⟩
      obtain ⟨a2, c2, rfl, s2⟩ := names_strs hown NM.out
      replace hp := hp.below hb; replace hB := hB.trans (hb.mono hB.size); clear hb hown
      go_wp2_with fail
      go_ret
      exact ⟨rfl, hB⟩
  · have hK1 : (C != 0) = true := by simpa using hC
    clear hN nm hC
    go_enter Try.func5, Try.ntmps5
    go_wp2_with fail
    refine (begins_any _).mono ?_
    rintro e w1 ⟨rfl, hb⟩
    replace hp := hp.below hb; replace hB := hB.trans (hb.mono hB.size); clear hb
    go_wp2_with fail
    refine (normal_any _ _ l s _ hp (by omega)).mono ?_
    rw [HN.out]
    rintro e w2 ⟨v2, rfl, hown, hb⟩
    obtain ⟨a2, c2, rfl, s2⟩ := names_strs hown NM.out
    replace hp := hp.below hb; replace hB := hB.trans (hb.mono hB.size); clear hb hown
    go_wp2_with fail
    go_ret
    exact ⟨rfl, hB⟩
end Go.Proofs.Ytjmfgffihkbnlac
